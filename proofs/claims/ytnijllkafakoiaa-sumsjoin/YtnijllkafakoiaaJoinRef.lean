/- The document's Join, by rows of where the single bits go. -/
import Derived.Test.YtnijllkafakoiaaJoin
namespace Go.Proofs.Ytnijllkafakoiaa
open Go.RowKit

/-- 32 rows -/
def matv (T : Nat → Nat) : Array Value := ((List.range 32).map fun i => Value.int .u32 (T i : Int)).toArray

theorem matv_size (T : Nat → Nat) : (matv T).size = 32 := by simp [matv]

theorem matv_get (T : Nat → Nat) (i : Nat) (h : i < 32) : (matv T)[i]? = some (.int .u32 (T i : Int)) := by
  simp [matv, h]

theorem matv_congr {T U : Nat → Nat} (h : ∀ i, i < 32 → T i = U i) : matv T = matv U := by
  unfold matv
  congr 1
  refine List.map_congr_left fun i hi => ?_
  rw [h i (by simpa using hi)]

theorem matv_zero : matv (fun _ => 0) = Array.replicate 32 (.int .u32 0) := by
  apply Array.ext (by simp [matv])
  intro i h1 h2
  simp [matv]

theorem matv_set (T : Nat → Nat) (j y : Nat) : (matv T).setIfInBounds j (.int .u32 (y : Int)) = matv (upd T j y) := by
  apply Array.ext (by simp [matv])
  intro i h1 h2
  have h1' : i < (matv T).size := by simpa using h1
  rw [Array.getElem_setIfInBounds h1']
  simp only [matv, upd, List.getElem_toArray, List.getElem_map, List.getElem_range]
  by_cases e : j = i
  · simp [e]
  · simp [e, show ¬ i = j by omega]

theorem info46 : (Try.prog.info? 46).map (fun i => (i.zero, i.size)) = some (some (.agg (Array.replicate 32 (.int .u32 0))), 32) := by kernel_rfl

theorem matv_one (T : Nat → Nat) : (matv T).all (·.oneCell') = true := by
  simp [matv, Value.oneCell']

def MatAt (w : World) (g : Nat) (T : Nat → Nat) : Prop := w.heap[g]? = some (.cells (matv T) 46 (0, 0))

theorem MatAt.cell {w : World} {g : Nat} {T : Nat → Nat} (h : MatAt w g T) (i : Nat) (hi : i < 32) : w.cell? ⟨g, i, none⟩ = some (.int .u32 (T i : Int)) := by
  simp only [World.cell?, show w.heap[g]? = _ from h]
  simpa using matv_get T i hi

theorem MatAt.free {w : World} {g : Nat} {T : Nat → Nat} (h : MatAt w g T) (i : Nat) : w.frozen? ⟨g, i, none⟩ = false := by
  simp [World.frozen?, show w.heap[g]? = _ from h]

theorem MatAt.set {w : World} {g : Nat} {T : Nat → Nat} (h : MatAt w g T) (j y : Nat) : MatAt (w.setCell ⟨g, j, none⟩ (.int .u32 (y : Int))) g (upd T j y) := by
  have := heap_setCell_same w g j _ 46 (.int .u32 (y : Int)) h
  rw [matv_set] at this
  exact this

theorem MatAt.other {w : World} {g g' : Nat} {T : Nat → Nat} (h : MatAt w g T) (hne : g ≠ g') (j : Nat) (v : Value) : MatAt (w.setCell ⟨g', j, none⟩ v) g T := by
  unfold MatAt
  rw [heap_setCell_other _ _ _ _ (by exact hne)]
  exact h

theorem MatAt.stays {w w' : World} {g B : Nat} {T : Nat → Nat} (h : MatAt w g T) (hb : Below B w w') (hg : g < B) : MatAt w' g T := by
  unfold MatAt
  rw [hb.block g hg]
  exact h

theorem rzero_walk (r : Nat) (w : World) (hr : r < 4294967296) :
    Calls Try.prog 25 #[.int .u32 (r : Int)] w fun e w' => e = .returned (.int .u32 (lstep pl r : Int)) ∧ w' = w := by
  have ha := and1_32 r hr
  obtain ⟨h, hh⟩ : ∃ h, h = r / 2 := ⟨_, rfl⟩
  have hd : (r : Int) / 2 = (h : Int) := by omega
  obtain ⟨y, hy⟩ : ∃ y, h ^^^ pl = y := ⟨_, rfl⟩
  have hx := xor_32 (a := h) (b := pl) (by omega) (by decide) hy
  have hx' : bits .xor .u32 (h : Int) 3988292384 = (y : Int) := hx
  by_cases ho : r % 2 = 1
  · have hl : lstep pl r = y := by rw [lstep, if_pos ho, ← hy, hh]
    rw [ho] at ha
    rw [hl]
    clear ho hl hh hr hx hy
    go_enter Try.func25, Try.ntmps25
    go_wp2_with fail
    go_ret
    exact ⟨rfl, rfl⟩
  · have hl : lstep pl r = h := by rw [lstep, if_neg ho, hh]
    have ho : r % 2 = 0 := by omega
    rw [ho] at ha
    rw [hl]
    clear ho hl hh hr hx hy
    go_enter Try.func25, Try.ntmps25
    go_wp2_with fail
    go_ret
    exact ⟨rfl, rfl⟩

theorem osum_lt {g : Nat → Nat} (hg : ∀ i, g i < 4294967296) (b : Nat → Bool) : ∀ n, osum g b n < 4294967296
  | 0 => by simp [osum]
  | n + 1 => by
    rw [osum]
    refine Nat.xor_lt_two_pow (n := 32) (osum_lt hg b n) ?_
    split
    · exact hg n
    · omega

set_option maxHeartbeats 2000000 in
theorem of_walk (T : Nat → Nat) (r : Nat) (w : World) (hr : r < 4294967296) (hT : ∀ i, T i < 4294967296) :
    Calls Try.prog 27 #[.agg (matv T), .int .u32 (r : Int)] w fun e w' => e = .returned (.int .u32 (osum T r.testBit 32 : Int)) ∧ Below w.heap.size w w' := by
  have hsz := matv_size T
  go_enter Try.func27, Try.ntmps27
  go_wp2_with fail
  have HM : Hid (MatAt (w.alloc (Obj.cells (matv T) 46)) w.heap.size T) := hide (heap_alloc_last w _)
  have HBEL : Hid (Below w.heap.size w (w.alloc (Obj.cells (matv T) 46))) := hide ((Below.refl _ _).alloc (Nat.le_refl _) _)
  have HR := hide hr
  have HTT := hide hT
  clear hr hT hsz
  obtain ⟨g, hg⟩ : ∃ g, g = w.heap.size := ⟨_, rfl⟩
  rw [← hg] at HM ⊢
  clear hg
  generalize w.alloc (Obj.cells (matv T) 46) = w0 at *
  go_loopg [5, 6] 32 (fun gk x c ws => ∃ i : Nat, gk = 32 - i ∧ i ≤ 32 ∧ x = .int .u32 (osum T r.testBit i : Int) ∧ c = .int .i64 (i : Int) ∧ ws = w0)
  case atStart => exact ⟨0, by omega, by omega, rfl, rfl, rfl⟩
  case round =>
    obtain ⟨i, rfl, hi, rfl, rfl, rfl⟩ := hrel
    by_cases hlt : i < 32
    · have hil : (i : Int) < 32 := by omega
      obtain ⟨q, hq⟩ : ∃ q, q = r / 2 ^ i := ⟨_, rfl⟩
      have hd : (r : Int) / 2 ^ i = (q : Int) := by rw [hq]; simp
      have hqb : q < 4294967296 := by rw [hq]; exact Nat.lt_of_le_of_lt (Nat.div_le_self _ _) (unhide HR)
      have ha := and1_32 q hqb
      have htq : r.testBit i = decide (q % 2 = 1) := by
        have := @Nat.testBit_div_two_pow i r 0
        rw [Nat.zero_add, Nat.testBit_zero] at this
        rw [← this, hq]
      have hcc := (unhide HM).cell i hlt
      obtain ⟨x, hx⟩ : ∃ x, x = osum T r.testBit i := ⟨_, rfl⟩
      obtain ⟨t, ht⟩ : ∃ t, t = T i := ⟨_, rfl⟩
      have hxb : x < 4294967296 := by rw [hx]; exact osum_lt (unhide HTT) _ _
      have htb : t < 4294967296 := by rw [ht]; exact unhide HTT i
      obtain ⟨y, hy⟩ : ∃ y, x ^^^ t = y := ⟨_, rfl⟩
      have hxx := xor_32 hxb htb hy
      have HN : Hid (osum T r.testBit (i + 1) = if decide (q % 2 = 1) then y else x) := hide (by rw [osum, htq, ← hx, ← ht, ← hy]; split <;> simp)
      rw [← ht] at hcc
      rw [← hx]
      have HLT := hide hlt
      rcases Nat.mod_two_eq_zero_or_one q with h2 | h2
      · rw [h2] at ha HN
        simp only [show decide (0 = 1) = false from rfl, if_false, Bool.false_eq_true] at HN
        clear hq hqb htq hx ht hxb htb hy h2 hlt hi
        go_wp2_with fail
        go_roundg (32 - (i + 1))
        case measure => have := unhide HLT; omega
        case rel => exact ⟨i + 1, rfl, unhide HLT, by rw [unhide HN], by go_num, rfl⟩
      · rw [h2] at ha HN
        simp only [decide_true, if_true] at HN
        clear hq hqb htq hx ht hxb htb hy h2 hlt hi
        go_wp2_with fail
        go_roundg (32 - (i + 1))
        case measure => have := unhide HLT; omega
        case rel => exact ⟨i + 1, rfl, unhide HLT, by rw [unhide HN], by go_num, rfl⟩
    · obtain rfl : i = 32 := by omega
      clear hi hlt
      go_wp2_with fail
      go_ret
      exact ⟨rfl, unhide HBEL⟩
end Go.Proofs.Ytnijllkafakoiaa
