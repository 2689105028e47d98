/- What SuffixReturns and SuffixSorted want besides. -/
import Derived.Test.YtpemgjcgcmleiaaTn
import Derived.Test.YtpemgjcgcmleiaaIn
import Derived.Lib.SmallJoins
namespace Go.Proofs.Ytpemgjcgcmleiaa
open Go.RowKit Suf
set_option maxRecDepth 100000
set_option linter.unusedVariables false

theorem eq42 (w : World) : (Op.equal 42 (.agg Try.zeroCells42) (.agg Try.zeroCells42)).run Try.prog w = .ok true w := by kernel_rfl

/-- 256 numbers' cells -/
def zcells (C : Nat → Int) : Array Value := ((List.range 256).map fun i => Value.int .i64 (C i)).toArray

def ZAt (w : World) (g : Nat) (C : Nat → Int) : Prop := w.heap[g]? = some (.cells (zcells C) 42 (0, 0))

theorem zcells_congr {C C' : Nat → Int} (h : ∀ i, i < 256 → C i = C' i) : zcells C = zcells C' := by
  unfold zcells
  congr 1
  exact List.map_congr_left fun i hi => by rw [h i (List.mem_range.1 hi)]

theorem ZAt.cell {w : World} {g : Nat} {C : Nat → Int} (h : ZAt w g C) (i : Nat) (hi : i < 256) : w.cell? ⟨g, i, none⟩ = some (.int .i64 (C i)) := by
  simp only [World.cell?, show w.heap[g]? = _ from h]
  simp only [zcells, List.getElem?_toArray, List.getElem?_map]
  rw [List.getElem?_range hi]
  simp

theorem ZAt.free {w : World} {g : Nat} {C : Nat → Int} (h : ZAt w g C) (i : Nat) : w.frozen? ⟨g, i, none⟩ = false := by
  simp [World.frozen?, show w.heap[g]? = _ from h]

theorem ZAt.set {w : World} {g : Nat} {C : Nat → Int} (h : ZAt w g C) (i : Nat) (x : Int) : ZAt (w.setCell ⟨g, i, none⟩ (.int .i64 x)) g (fun j => if j = i then x else C j) := by
  unfold ZAt
  rw [heap_setCell_same w g i _ 42 (.int .i64 x) h]
  congr 2
  apply Array.ext (by simp [zcells])
  intro j j1 j2
  have hj : j < 256 := by simpa [zcells] using j2
  rw [Array.getElem_setIfInBounds (by simpa [zcells] using hj)]
  simp only [zcells, List.getElem_toArray, List.getElem_map, List.getElem_range]
  by_cases e : i = j
  · subst e; simp
  · rw [if_neg e, if_neg (by omega)]

theorem ZAt.congr {w : World} {g : Nat} {C C' : Nat → Int} (h : ZAt w g C) (hc : ∀ i, i < 256 → C i = C' i) : ZAt w g C' := by
  unfold ZAt
  rw [← zcells_congr hc]
  exact h

theorem zzero : Try.zeroCells42 = zcells (fun _ => 0) := by kernel_rfl

theorem zrange {w : World} {g : Nat} (h : ZAt w g fun _ => 0) : w.rangeAt g 0 Try.zeroCells42.toList := by
  intro j v hv
  have e : Try.zeroCells42.toList = (List.range 256).map fun i => Value.int .i64 0 := by rw [zzero]; rfl
  rw [e, List.getElem?_map] at hv
  rcases Nat.lt_or_ge j 256 with hj | hj
  · rw [List.getElem?_range hj] at hv
    simp only [Option.map_some, Option.some.injEq] at hv
    subst hv
    rw [Nat.zero_add]
    exact h.cell j hj
  · rw [List.getElem?_eq_none (by simpa using hj)] at hv
    cases hv

/-- how often a byte comes more in one list than in another, up to a place -/
def diff (b c : List Nat) (i v : Nat) : Int := ((b.take i).count v : Int) - ((c.take i).count v : Int)

theorem count_snoc (b : List Nat) (i v : Nat) (hi : i < b.length) : (b.take (i + 1)).count v = (b.take i).count v + if v = b.getD i 0 then 1 else 0 := by
  rw [List.take_add_one, List.getElem?_eq_getElem hi, List.count_append, List.getD_eq_getElem?_getD, List.getElem?_eq_getElem hi]
  simp only [Option.toList_some, Option.getD_some]
  rw [List.count_singleton]
  by_cases h : v = b[i]
  · simp [h]
  · rw [if_neg h, if_neg (by simpa using fun e => h e.symm)]

theorem count_le_take (b : List Nat) (i v : Nat) : (b.take i).count v ≤ b.length := by
  have h1 := List.count_le_length (a := v) (l := b.take i)
  rw [List.length_take] at h1
  omega

theorem diff_bound {b c : List Nat} (h1 : b.length ≤ 1048576) (h2 : c.length ≤ 1048576) (i v : Nat) : -1048576 ≤ diff b c i v ∧ diff b c i v ≤ 1048576 := by
  unfold diff
  have := count_le_take b i v
  have := count_le_take c i v
  omega

theorem diff_step (b c : List Nat) (i v : Nat) (hb : i < b.length) (hc : i < c.length) : diff b c (i + 1) v = diff b c i v + (if v = b.getD i 0 then 1 else 0) - (if v = c.getD i 0 then 1 else 0) := by
  unfold diff
  rw [count_snoc b i v hb, count_snoc c i v hc]
  split <;> split <;> omega

theorem diff_end {b c : List Nat} (h : c.Perm b) (v : Nat) : diff b c b.length v = 0 := by
  unfold diff
  rw [List.take_length, ← h.length_eq, List.take_length, h.count_eq]
  omega

theorem back_out {b l : List Nat} (hb : ∀ z ∈ b, z < 256) (hn : b.length ≤ 1048576) (hl : IsRows b l) : backOut (col b l) ((rowTo l b.length : Nat) : Int) = (b, 0) := by
  have hcl := col_len hl
  unfold backOut
  rw [hcl, if_neg (by omega)]
  by_cases h0 : 0 < b.length
  · obtain ⟨r, hr1, hr2, hr3⟩ := row_of hl h0
    have e : rowTo l b.length = r := rowTo_is hr2 (fun q hq => hr3 q (by rw [← hl.len]; exact hq)) b.length (by rw [hl.len]; exact Nat.le_refl _) hr1
    rw [e, if_neg (by omega), Int.toNat_natCast, back_is hl (nextF_is (col_small hb hl)) hr1 hr2]
  · obtain rfl : b = [] := List.eq_nil_of_length_eq_zero (by omega)
    rw [if_neg (by simp [rowTo])]
    have : (col [] l) = [] := List.eq_nil_of_length_eq_zero (by rw [hcl]; rfl)
    rw [this]
    rfl

def banana : List Nat := [98, 97, 110, 97, 110, 97]

theorem banana_rows : IsRows banana [5, 3, 1, 0, 4, 2] := ⟨by decide, by decide⟩

theorem banana_turn {c : List Nat} {r e : Nat} (h : TurnIs banana c r e) : c = [110, 110, 98, 97, 97, 97] ∧ e = 0 := by
  rcases h with ⟨h1, _⟩ | ⟨_, rfl, l, hl, rfl, _⟩
  · simp [banana] at h1
  · rw [hl.one banana_rows]
    exact ⟨rfl, rfl⟩

theorem conv_banana (w : World) : (convert 22 22 (.slice (some ⟨w.heap.size, 0, none⟩) 6 6)).run Try.prog (w.alloc (.cells #[.int .u8 98, .int .u8 97, .int .u8 110, .int .u8 97, .int .u8 110, .int .u8 97] 5)) = .ok (.slice (some ⟨w.heap.size, 0, none⟩) 6 6) (w.alloc (.cells #[.int .u8 98, .int .u8 97, .int .u8 110, .int .u8 97, .int .u8 110, .int .u8 97] 5 (6, 7))) :=
  Lib.run_convert_bytes_const w 22 5 #[.int .u8 98, .int .u8 97, .int .u8 110, .int .u8 97, .int .u8 110, .int .u8 97] 6 6 Try.underlying22 Try.underlying5

theorem banana_in (w : World) : BytesIn (w.alloc (.cells #[.int .u8 98, .int .u8 97, .int .u8 110, .int .u8 97, .int .u8 110, .int .u8 97] 5 (6, 7))) (some ⟨w.heap.size, 0, none⟩) banana := by
  intro j hj
  refine ⟨w.heap.size, 0, rfl, ?_⟩
  rw [Nat.zero_add]
  simp only [World.cell?, heap_alloc_new]
  have hj6 : j < 6 := hj
  obtain rfl | rfl | rfl | rfl | rfl | rfl : j = 0 ∨ j = 1 ∨ j = 2 ∨ j = 3 ∨ j = 4 ∨ j = 5 := by omega
  all_goals rfl

theorem banana_small : ∀ z ∈ banana, z < 256 := by decide

end Go.Proofs.Ytpemgjcgcmleiaa
