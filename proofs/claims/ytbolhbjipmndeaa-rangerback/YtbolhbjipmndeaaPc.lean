/- told, Chances, Set (the program's encoder). -/
import Derived.Test.YtbolhbjipmndeaaPu
namespace Go.Proofs.Ytbolhbjipmndeaa.D
open Go.RowKit Rang
set_option maxRecDepth 100000
set_option linter.unusedVariables false
attribute [local go_sem ↓] Go.wp_at_zero Go.wp_at_succ

/-- numbers in a block of their own -/
def Ints (w : World) (g : Nat) (l : List Nat) : Prop := w.heap[g]? = some (.cells (l.map fun p : Nat => Value.int .i64 (p : Int)).toArray 3 (0, 0))

theorem Ints.cell {w : World} {g : Nat} {l : List Nat} (h : Ints w g l) (i : Nat) (hi : i < l.length) : w.cell? ⟨g, i, none⟩ = some (.int .i64 ((l.getD i 0 : Nat) : Int)) := by
  simp only [World.cell?, show w.heap[g]? = _ from h]
  simp [List.getElem?_map, List.getElem?_eq_getElem hi, List.getD_eq_getElem?_getD]
theorem Ints.free {w : World} {g : Nat} {l : List Nat} (h : Ints w g l) (i : Nat) : w.frozen? ⟨g, i, none⟩ = false := by simp [World.frozen?, show w.heap[g]? = _ from h]
theorem Ints.set {w : World} {g : Nat} {l : List Nat} (h : Ints w g l) (i x : Nat) : Ints (w.setCell ⟨g, i, none⟩ (.int .i64 (x : Int))) g (l.set i x) := by
  unfold Ints
  rw [heap_setCell_same w g i _ 3 _ h]
  simp [List.map_set]

/-- so many have been told -/
def toldTo (ch : List Nat) (i : Nat) : List Nat := ch.take i ++ List.replicate (ch.length - i) 0

theorem toldTo_set (ch : List Nat) (i : Nat) (h : i < ch.length) : (toldTo ch i).set i (ch.getD i 0) = toldTo ch (i + 1) := by
  unfold toldTo
  rw [show ch.length - i = (ch.length - (i + 1)) + 1 by omega, List.replicate_succ, List.set_append_right _ _ (by simp; omega), List.length_take, Nat.min_eq_left (by omega), Nat.sub_self, List.set_cons_zero, List.take_add_one, List.getElem?_eq_getElem h, List.append_assoc, List.getD_eq_getElem?_getD, List.getElem?_eq_getElem h]
  rfl

theorem toldTo_len (ch : List Nat) (i : Nat) (h : i ≤ ch.length) : (toldTo ch i).length = ch.length := by simp [toldTo]; omega

set_option maxHeartbeats 4000000 in
theorem ptold_ok (gc : Nat) (ch : List Nat) (w : World) (h : PCh w gc ch) (hn : ch.length ≤ 65536) (hs : ∀ p ∈ ch, p < 65536) :
    Calls Try.prog 44 #[.slice (some ⟨gc, 0, none⟩) ch.length ch.length] w fun e w' => e = .returned (.slice (some ⟨w.heap.size, 0, none⟩) ch.length ch.length) ∧ Ints w' w.heap.size ch ∧ Below w.heap.size w w' := by
  obtain ⟨n, hnn⟩ : ∃ n, n = ch.length := ⟨_, rfl⟩
  have HN := hide hnn
  rw [← hnn] at hn ⊢
  have hmk := ints_made w n (by omega)
  have H0 : Hid (Ints (w.alloc (.cells ((List.replicate n 0).map fun p : Nat => Value.int .i64 (p : Int)).toArray 3)) w.heap.size (toldTo ch 0)) := hide (by
    unfold Ints toldTo
    rw [heap_alloc_new, hnn]
    simp)
  have HB : Hid (Below w.heap.size w (w.alloc (.cells ((List.replicate n 0).map fun p : Nat => Value.int .i64 (p : Int)).toArray 3))) := hide ((Below.refl _ _).alloc (Nat.le_refl _) _)
  obtain ⟨CS, hCS⟩ : ∃ CS, CS = ((List.replicate n 0).map fun p : Nat => Value.int .i64 (p : Int)).toArray := ⟨_, rfl⟩
  rw [← hCS] at hmk H0 HB
  have HP := hide h
  have HS := hide hs
  clear hCS h hs hnn
  go_enter Try.func44, Try.ntmps44
  go_wp2_with fail
  clear hmk
  go_loopg [11] n (fun gk d ws => ∃ (i : Nat), gk = n - i ∧ i ≤ n ∧ d = .int .i64 (i : Int) ∧ Hid (Ints ws w.heap.size (toldTo ch i)) ∧ Hid (Below w.heap.size w ws))
  case atStart => exact ⟨0, by omega, by omega, rfl, H0, HB⟩
  case round =>
    clear H0 HB
    obtain ⟨i, rfl, hi, rfl, H0, HB⟩ := hrel
    by_cases hlt : i < n
    · have tl : (i : Int) < (n : Int) := by omega
      have hic : i < ch.length := by rw [← unhide HN]; exact hlt
      have c1 := (unhide H0).cell i (by rw [toldTo_len ch i (by omega)]; exact hic)
      have c2 := (unhide H0).free i
      have HSt := hide ((unhide H0).set i (ch.getD i 0))
      rw [toldTo_set ch i hic] at HSt
      have c3 : wr.cell? ⟨gc, i, none⟩ = some (.int .u16 ((ch.getD i 0 : Nat) : Int)) := by
        rw [(unhide HB).cell (cell_lt ((unhide HP).cell i hic))]
        exact (unhide HP).cell i hic
      have hx : ch.getD i 0 < 65536 := unhide HS _ (getD_mem hic)
      generalize (toldTo ch i).getD i 0 = x at c1
      generalize ch.getD i 0 = z at c3 HSt hx
      go_wp2_with fail
      go_roundg (n - (i + 1))
      case measure => omega
      case rel => exact ⟨i + 1, rfl, by omega, by go_num, hide (unhide HSt), hide ((unhide HB).setCell (Nat.le_refl _) _)⟩
    · obtain rfl : n = i := by omega
      have tl : ¬ (n : Int) < (n : Int) := by omega
      go_wp2_with fail
      go_ret
      refine ⟨rfl, ?_, unhide HB⟩
      have := unhide H0
      unfold toldTo at this
      rw [unhide HN] at this
      simpa using this

theorem Chs.small {ch : List Nat} (h : Chs ch) : ∀ p ∈ ch, p < 65536 := fun p hp => by have := h p hp; omega

set_option maxHeartbeats 2000000 in
theorem pchances_ok (B pb gc : Nat) (w : World) (ov : Value) (c : Enc) (ch : List Nat) (h : PC B w pb gc ov c ch) (hc : Chs ch) (hn : ch.length ≤ 65536) :
    Calls Try.prog 15 #[.pointer (some ⟨pb, 0, none⟩)] w fun e w' => e = .returned (.slice (some ⟨w.heap.size, 0, none⟩) ch.length ch.length) ∧ Ints w' w.heap.size ch ∧ Below w.heap.size w w' := by
  have HG := hide (good_ok pb w true h.enc.made)
  have HT := hide (ptold_ok gc ch w h.chs hn hc.small)
  have c1 := h.enc.chs
  obtain ⟨n, hnn⟩ : ∃ n, n = ch.length := ⟨_, rfl⟩
  rw [← hnn] at c1 HT ⊢
  clear h hc hnn
  go_enter Try.func15, Try.ntmps15
  go_wp2_with (first | (go_at_call 41; refine (unhide HG).mono ?_; rintro e w1 ⟨rfl, rfl⟩) | (go_at_call 44; refine (unhide HT).mono ?_; rintro e w2 ⟨rfl, h1, h2⟩; have H1 := hide h1; have H2 := hide h2; clear h1 h2))
  go_ret
  exact ⟨rfl, unhide H1, unhide H2⟩
end Go.Proofs.Ytbolhbjipmndeaa.D
