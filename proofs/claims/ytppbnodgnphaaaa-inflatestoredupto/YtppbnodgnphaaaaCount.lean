/- Ints counted through a closure: fit, eachWord, countWords, full, bare. -/
import Derived.Test.YtppbnodgnphaaaaLens
import Derived.Test.YtppbnodgnphaaaaAidTwo
import Derived.Deep.DeepCutAuto
namespace Go.Proofs.Ytppbnodgnphaaaa
open Go.RowKit
set_option maxRecDepth 100000

attribute [local go_sem ↓] Go.wp_at_zero Go.wp_at_succ
set_option linter.unusedVariables false

/-- n numbers' cells -/
def icells (k : IntKind) (n : Nat) (C : Nat → Nat) : Array Value := ((List.range n).map fun i => Value.int k (C i : Int)).toArray

theorem icells_congr {k : IntKind} {n : Nat} {C C' : Nat → Nat} (h : ∀ i, i < n → C i = C' i) : icells k n C = icells k n C' := by
  unfold icells
  congr 1
  refine List.map_congr_left fun i hi => ?_
  simp at hi
  rw [h i hi]

def IntsAt (w : World) (k : IntKind) (t : TypeId) (g n : Nat) (C : Nat → Nat) : Prop := w.heap[g]? = some (.cells (icells k n C) t (0, 0))

section
variable {w w' : World} {k : IntKind} {t : TypeId} {g n B : Nat} {C C' : Nat → Nat}

theorem IntsAt.cell (h : IntsAt w k t g n C) (i : Nat) (hi : i < n) : w.cell? ⟨g, i, none⟩ = some (.int k (C i : Int)) := by
  simp only [World.cell?, show w.heap[g]? = _ from h]
  simp only [icells, List.getElem?_toArray, List.getElem?_map]
  rw [List.getElem?_range hi]
  simp

theorem IntsAt.free (h : IntsAt w k t g n C) (i : Nat) : w.frozen? ⟨g, i, none⟩ = false := by
  simp [World.frozen?, show w.heap[g]? = _ from h]

theorem IntsAt.lt (h : IntsAt w k t g n C) : g < w.heap.size := heap_lt h

theorem IntsAt.set (h : IntsAt w k t g n C) (i x : Nat) : IntsAt (w.setCell ⟨g, i, none⟩ (.int k (x : Int))) k t g n (upd C i x) := by
  unfold IntsAt
  rw [heap_setCell_same w g i _ t (.int k (x : Int)) h]
  congr 2
  apply Array.ext (by simp [icells])
  intro j j1 j2
  have hj : j < n := by simpa [icells] using j2
  rw [Array.getElem_setIfInBounds (by simpa [icells] using hj)]
  simp only [icells, upd, List.getElem_toArray, List.getElem_map, List.getElem_range]
  by_cases e : i = j
  · subst e; simp
  · rw [if_neg e, if_neg (by omega)]

theorem IntsAt.stays (h : IntsAt w k t g n C) (hb : Below B w w') (hg : g < B) : IntsAt w' k t g n C := by
  unfold IntsAt
  rw [hb.block g hg]
  exact h

theorem IntsAt.congr (h : IntsAt w k t g n C) (hc : ∀ i, i < n → C i = C' i) : IntsAt w k t g n C' := by
  unfold IntsAt
  rw [← icells_congr hc]
  exact h

theorem IntsAt.other (h : IntsAt w k t g n C) (a : Addr) (v : Value) (hg : g ≠ a.block) : IntsAt (w.setCell a v) k t g n C := by
  unfold IntsAt
  rw [heap_setCell_other _ _ _ _ hg]
  exact h

theorem IntsAt.alloc (h : IntsAt w k t g n C) (o : Obj) : IntsAt (w.alloc o) k t g n C := by
  unfold IntsAt
  rw [Below.heap_alloc _ _ _ h.lt]
  exact h
end

theorem info38 : (Try.prog.info? 64).map (fun i => (i.zero, i.size, i.bytes)) = some (some (.int .u32 0), 1, 4) := by kernel_rfl

theorem ints_made (w : World) (n : Nat) (hn : n ≤ 65536) : (Instr.makeSlice 35 (.int .i64 (n : Int)) (.int .i64 (n : Int))).run Try.prog w = .ok (.slice (some ⟨w.heap.size, 0, none⟩) n n) (w.alloc (.cells (icells .i64 n (fun _ => 0)) 3)) := by
  obtain ⟨i0, hi, hz0, hz1, hz2⟩ := info_parts info3'
  have := run_make (P := Try.prog) w 35 3 i0 (.int .i64 0) Try.underlying35 hi hz0 .i64 .i64 (n : Int) (n : Int) (by omega) (by omega) (by rw [hz2]; omega) (by omega)
  rw [hz1] at this
  rw [this]
  congr 3
  apply Array.ext (by simp [madeCells, icells])
  intro k k1 k2
  simp [icells, madeCells, Value.cells, Nat.mod_one]

theorem u32s_made (w : World) (n : Nat) (hn : n ≤ 65536) : (Instr.makeSlice 108 (.int .i64 (n : Int)) (.int .i64 (n : Int))).run Try.prog w = .ok (.slice (some ⟨w.heap.size, 0, none⟩) n n) (w.alloc (.cells (icells .u32 n (fun _ => 0)) 64)) := by
  obtain ⟨i0, hi, hz0, hz1, hz2⟩ := info_parts info38
  have := run_make (P := Try.prog) w 108 64 i0 (.int .u32 0) Try.underlying108 hi hz0 .i64 .i64 (n : Int) (n : Int) (by omega) (by omega) (by rw [hz2]; omega) (by omega)
  rw [hz1] at this
  rw [this]
  congr 3
  apply Array.ext (by simp [madeCells, icells])
  intro k k1 k2
  simp [icells, madeCells, Value.cells, Nat.mod_one]

set_option maxHeartbeats 400000 in
/-- one symbol more is counted -/
theorem count_one (s : Int) (l cb g n c : Nat) (C : Nat → Nat) (w : World) (hc : w.cell? ⟨cb, 0, none⟩ = some (.slice (some ⟨g, 0, none⟩) n c)) (hg : IntsAt w .i64 3 g n C) (hl : l < n) (hb : C l < 1000000) :
    Calls Try.prog 67 #[.int .i64 s, .int .i64 (l : Int), .pointer (some ⟨cb, 0, none⟩)] w fun e w' => e = .returned (.tuple #[]) ∧ w' = w.setCell ⟨g, l, none⟩ (.int .i64 ((C l + 1 : Nat) : Int)) := by
  have k1 := hg.cell l hl
  have k2 := hg.free l
  have hln : (l : Int) < (n : Int) := by omega
  obtain ⟨x, hx⟩ : ∃ x, x = C l := ⟨_, rfl⟩
  rw [← hx] at k1 hb ⊢
  clear hg hx
  go_enter Try.func67, Try.ntmps67
  go_wp2_with fail
  go_end0
  exact ⟨rfl, by rw [show ((x + 1 : Nat) : Int) = (x : Int) + 1 by omega]⟩


theorem cn_take_succ (ls : List Nat) (k : Nat) (hk : k < ls.length) (h0 : 0 < Canon.ln ls k) (l : Nat) : Canon.cn (ls.take (k + 1)) l = upd (Canon.cn (ls.take k)) (Canon.ln ls k) (Canon.cn (ls.take k) (Canon.ln ls k) + 1) l := by
  unfold upd Canon.cn
  rw [Canon.take_succ_count ls k l hk, if_neg (show ¬ Canon.ln ls k = 0 by omega)]
  by_cases e : l = Canon.ln ls k
  · rw [if_pos e, if_neg (by omega), e, if_pos rfl]
  · rw [if_neg e]
    by_cases e0 : l = 0
    · rw [if_pos e0, if_pos e0]
    · rw [if_neg e0, if_neg e0, if_neg (by omega)]; omega

theorem cn_take_same (ls : List Nat) (k : Nat) (hk : k < ls.length) (h0 : ¬ 0 < Canon.ln ls k) (l : Nat) : Canon.cn (ls.take (k + 1)) l = Canon.cn (ls.take k) l := by
  unfold Canon.cn
  by_cases e0 : l = 0
  · rw [if_pos e0, if_pos e0]
  · rw [if_neg e0, if_neg e0, Canon.take_succ_count ls k l hk, if_neg (by omega)]; omega

theorem cn_take_le (ls : List Nat) (k l : Nat) : Canon.cn (ls.take k) l ≤ k := by
  unfold Canon.cn
  by_cases e0 : l = 0
  · rw [if_pos e0]; omega
  · rw [if_neg e0]
    have h1 := List.count_le_length (a := l) (l := ls.take k)
    rw [List.length_take] at h1
    omega

theorem getD_ln (zs : List Int) (most : Int) (h : ∀ z ∈ zs, okLen most z) (i : Nat) (hi : i < zs.length) : zs.getD i 0 = (Canon.ln (nat zs) i : Int) ∧ (Canon.ln (nat zs) i : Int) ≤ most := by
  have h0 := h zs[i] (List.getElem_mem _)
  unfold okLen at h0
  simp [Canon.ln, nat, hi]
  omega

set_option maxRecDepth 100000 in
set_option maxHeartbeats 1000000 in
theorem each_count (w0 : World) (v : Value) (zs : List Int) (M cb g c : Nat) (w : World) (hr : ReadsI w0 v zs) (hn : zs.length ≤ 65536) (hz : ∀ z ∈ zs, okLen (M : Int) z) (hM : M ≤ 20) (hb : Below w0.heap.size w0 w)
    (hcb : w0.heap.size ≤ cb) (hg : w0.heap.size ≤ g) (hne : cb ≠ g) (hc : w.cell? ⟨cb, 0, none⟩ = some (.slice (some ⟨g, 0, none⟩) (M + 1) c)) (hrow : IntsAt w .i64 3 g (M + 1) (fun _ => 0)) :
    Calls Try.prog 66 #[v, .func (.func 67) #[] #[.pointer (some ⟨cb, 0, none⟩)]] w fun e w' => e = .returned (.tuple #[]) ∧ IntsAt w' .i64 3 g (M + 1) (Canon.cn (nat zs)) ∧ w'.cell? ⟨cb, 0, none⟩ = some (.slice (some ⟨g, 0, none⟩) (M + 1) c) ∧ Below w0.heap.size w0 w' := by
  obtain ⟨a, cap, rfl, hsp⟩ := hr
  obtain ⟨n, hn'⟩ : ∃ n, n = zs.length := ⟨_, rfl⟩
  have HL : Hid (∀ i, i < n → zs.getD i 0 = (Canon.ln (nat zs) i : Int) ∧ (Canon.ln (nat zs) i : Int) ≤ (M : Int)) := hide (fun i hi => getD_ln zs _ hz i (by omega))
  have HLEN : Hid ((nat zs).length = n) := hide (by simp [nat, hn'])
  have HSP := hide hsp
  rw [← hn'] at hn HSP ⊢
  generalize hls : nat zs = ls at HL HLEN ⊢
  have HROW := hide hrow
  have HB := hide hb
  have HN := hide hn'
  clear hsp hz hrow hb hls hn'
  go_enter Try.func66, Try.ntmps66
  go_wp2_with fail
  go_loopg [8] n (fun gk d ws => ∃ (k : Nat), gk = n - k ∧ k ≤ n ∧ d = .int .i64 (k : Int) ∧ IntsAt ws .i64 3 g (M + 1) (Canon.cn (ls.take k)) ∧ ws.cell? ⟨cb, 0, none⟩ = some (.slice (some ⟨g, 0, none⟩) (M + 1) c) ∧ Below w0.heap.size w0 ws)
  case atStart => exact ⟨0, by omega, by omega, rfl, (unhide HROW).congr (fun i _ => by simp [Canon.cn]), hc, unhide HB⟩
  case round =>
    obtain ⟨k, rfl, hk, rfl, hrow, hcc, hbel⟩ := hrel
    clear HROW HB hc
    by_cases hlt : k < n
    · obtain ⟨b, off, rfl, hcell⟩ := unhide HSP (by omega)
      have k1 := cell_stays hbel (hcell k (by have := unhide HN; omega))
      obtain ⟨h1, h2⟩ := unhide HL k hlt
      rw [h1] at k1
      have hki : (k : Int) < (n : Int) := by omega
      obtain ⟨l, hl⟩ : ∃ l, l = Canon.ln ls k := ⟨_, rfl⟩
      rw [← hl] at k1 h2
      have HLL := hide hl
      have HLN := unhide HLEN
      by_cases h0 : 0 < l
      · have e0 : (0 : Int) < (l : Int) := by omega
        have HH := hide (cn_take_succ ls k (by omega) (by omega))
        have hcl := cn_take_le ls k l
        have HR := hide hrow
        have HBE := hide hbel
        have HC : Hid ((wr.setCell ⟨g, l, none⟩ (.int .i64 ((Canon.cn (ls.take k) l + 1 : Nat) : Int))).cell? ⟨cb, 0, none⟩ = some (.slice (some ⟨g, 0, none⟩) (M + 1) c)) := by
          have : (wr.setCell ⟨g, l, none⟩ (.int .i64 ((Canon.cn (ls.take k) l + 1 : Nat) : Int))).heap[cb]? = wr.heap[cb]? := heap_setCell_other _ _ _ _ (by exact hne)
          show World.cell? _ _ = _
          simp only [World.cell?, this]
          exact hcc
        clear hcell h1 hl hrow hbel HLN
        go_wp2_with (go_at_call 67; go_must (refine (count_one _ l cb g (M + 1) c _ _ hcc (unhide HR) (by omega) (by omega)).mono ?_; rintro e w' ⟨rfl, rfl⟩))
        go_roundg (n - (k + 1))
        case measure => omega
        case rel =>
          refine ⟨k + 1, rfl, by omega, by go_num, ?_, unhide HC, (unhide HBE).setCell hg _⟩
          refine ((unhide HR).set l _).congr (fun i _ => ?_)
          rw [unhide HH i, ← unhide HLL]
      · have e0 : ¬ (0 : Int) < (l : Int) := by omega
        have HH := hide (cn_take_same ls k (by omega) (by omega))
        have HR := hide hrow
        have HBE := hide hbel
        clear hcell h1 hl hrow hbel HLN
        go_wp2_with fail
        go_roundg (n - (k + 1))
        case measure => omega
        case rel => exact ⟨k + 1, rfl, by omega, by go_num, (unhide HR).congr (fun i _ => (unhide HH i).symm), hcc, unhide HBE⟩
    · obtain rfl : k = n := by omega
      have HR := hide hrow
      have HBE := hide hbel
      have HLN := unhide HLEN
      clear hrow hbel
      go_wp2_with fail
      go_end0
      refine ⟨rfl, ?_, hcc, unhide HBE⟩
      have := unhide HR
      rw [List.take_of_length_le (by omega)] at this
      exact this

end Go.Proofs.Ytppbnodgnphaaaa
