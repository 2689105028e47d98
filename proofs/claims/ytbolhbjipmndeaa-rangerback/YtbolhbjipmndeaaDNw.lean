/- Even, New, Fit. -/
import Derived.Test.YtbolhbjipmndeaaDBy
import Derived.Laws.MakeOwn
namespace Go.Proofs.Ytbolhbjipmndeaa.D
open Go.RowKit Rang
set_option maxRecDepth 100000
set_option linter.unusedVariables false
attribute [local go_sem ↓] Go.wp_at_zero Go.wp_at_succ

theorem ints_made (w : World) (n : Nat) (hn : n ≤ 2000000) : (Instr.makeSlice 35 (.int .i64 (n : Int)) (.int .i64 (n : Int))).run Try.prog w = .ok (.slice (some ⟨w.heap.size, 0, none⟩) n n) (w.alloc (.cells ((List.replicate n 0).map fun p : Nat => Value.int .i64 (p : Int)).toArray 3)) := by
  obtain ⟨i0, hi, hz0, hz1, hz2⟩ := info_parts info3'
  have := run_make (P := Try.prog) w 35 3 i0 (.int .i64 0) Try.underlying35 hi hz0 .i64 .i64 (n : Int) (n : Int) (by omega) (by omega) (by rw [hz2]; omega) (by omega)
  rw [hz1] at this
  rw [this]
  congr 3
  apply Array.ext (by simp [madeCells])
  intro k k1 k2
  simp [madeCells, Value.cells, Nat.mod_one]

/-- so many chances have begun -/
def evenTo (n i : Nat) : List Nat := List.replicate i 1024 ++ List.replicate (n - i) 0

theorem evenTo_set (n i : Nat) (h : i < n) : (evenTo n i).set i 1024 = evenTo n (i + 1) := by
  unfold evenTo
  rw [show n - i = (n - (i + 1)) + 1 by omega, List.replicate_succ, List.set_append_right _ _ (by simp), List.length_replicate, Nat.sub_self, List.set_cons_zero, List.replicate_succ', List.append_assoc]
  rfl

theorem evenTo_len (n i : Nat) (h : i ≤ n) : (evenTo n i).length = n := by simp [evenTo]; omega

set_option maxHeartbeats 2000000 in
theorem even_ok (n : Nat) (w : World) (hn : n ≤ 65536) :
    Calls Try.prog 40 #[.int .i64 (n : Int)] w fun e w' => e = .returned (.slice (some ⟨w.heap.size, 0, none⟩) n n) ∧ ChAt w' w.heap.size (List.replicate n 1024) ∧ Below w.heap.size w w' := by
  have hmk := ints_made w n (by omega)
  have H0 : Hid (ChAt (w.alloc (.cells ((List.replicate n 0).map fun p : Nat => Value.int .i64 (p : Int)).toArray 3)) w.heap.size (evenTo n 0)) := hide (by
    refine ⟨[], ?_⟩
    unfold evenTo
    rw [heap_alloc_new]
    simp)
  have HB : Hid (Below w.heap.size w (w.alloc (.cells ((List.replicate n 0).map fun p : Nat => Value.int .i64 (p : Int)).toArray 3))) := hide ((Below.refl _ _).alloc (Nat.le_refl _) _)
  obtain ⟨CS, hCS⟩ : ∃ CS, CS = ((List.replicate n 0).map fun p : Nat => Value.int .i64 (p : Int)).toArray := ⟨_, rfl⟩
  rw [← hCS] at hmk H0 HB
  clear hCS
  go_enter Try.func40, Try.ntmps40
  go_wp2_with fail
  clear hmk
  go_loopg [4] n (fun gk d ws => ∃ (i : Nat), gk = n - i ∧ i ≤ n ∧ d = .int .i64 (i : Int) ∧ Hid (ChAt ws w.heap.size (evenTo n i)) ∧ Hid (Below w.heap.size w ws))
  case atStart => exact ⟨0, by omega, by omega, rfl, H0, HB⟩
  case round =>
    clear H0 HB
    obtain ⟨i, rfl, hi, rfl, H0, HB⟩ := hrel
    by_cases hlt : i < n
    · have tl : (i : Int) < (n : Int) := by omega
      have c1 := (unhide H0).cell i (by rw [evenTo_len n i hi]; exact hlt)
      have c2 := (unhide H0).free i
      have HS := hide ((unhide H0).set i 1024)
      rw [evenTo_set n i hlt] at HS
      generalize (evenTo n i).getD i 0 = x at c1
      go_wp2_with fail
      go_roundg (n - (i + 1))
      case measure => omega
      case rel => exact ⟨i + 1, rfl, by omega, by go_num, hide (unhide HS), hide ((unhide HB).setCell (Nat.le_refl _) _)⟩
    · obtain rfl : n = i := by omega
      have tl : ¬ (n : Int) < (n : Int) := by omega
      go_wp2_with fail
      go_ret
      refine ⟨rfl, ?_, unhide HB⟩
      have := unhide H0
      unfold evenTo at this
      simpa using this

set_option maxHeartbeats 2000000 in
theorem new_ok (n : Nat) (w : World) (hn : n ≤ 65536) :
    Calls Try.prog 9 #[.int .i64 (n : Int)] w fun e w' => ∃ pb, e = .returned (.tuple #[.pointer (some ⟨pb, 0, none⟩), .int .i64 0]) ∧ ES w.heap.size w' pb w.heap.size n (.slice none 0 0) enc0 (List.replicate n 1024) 0 ∧ Below w.heap.size w w' := by
  have HC := hide (even_ok n w hn)
  have t1 : ¬ (65536 : Int) < (n : Int) := by omega
  have d1 : decide ((n : Int) < 0) = false := decide_eq_false (by omega)
  go_enter Try.func9, Try.ntmps9
  go_wp2_with fail
  refine (unhide HC).mono ?_
  rintro e w1 ⟨rfl, h1, h2⟩
  have H1 := hide h1
  have H2 := hide h2
  clear h1 h2 HC
  go_wp2_with fail
  go_ret2
  have hs := (unhide H2).size
  refine ⟨w1.heap.size, rfl, ⟨⟨⟨?_, World.ownsRow_nil _ _ _ _, hs⟩, ?_, Nat.le_refl _⟩, ⟨0, wide0⟩, ?_, ?_⟩, (unhide H2).alloc hs _⟩
  · rw [heap_alloc_new, List.length_replicate]
    rfl
  · exact (unhide H1).of (Below.heap_alloc _ _ _ (unhide H1).lt)
  · intro p hp
    rw [List.mem_replicate] at hp
    omega
  · simp; omega

set_option maxHeartbeats 2000000 in
theorem new_bad (n : Int) (w : World) (hn : n < 0 ∨ 65536 < n) : Calls Try.prog 9 #[.int .i64 n] w fun e w' => e = .returned (.tuple #[.pointer none, .int .i64 2]) ∧ w = w' := by
  by_cases h1 : n < 0
  · have d1 : decide (n < 0) = true := decide_eq_true h1
    go_enter Try.func9, Try.ntmps9
    go_wp2_with fail
    go_ret2
    exact ⟨rfl, rfl⟩
  · have d1 : decide (n < 0) = false := decide_eq_false h1
    have h2 : 65536 < n := by omega
    have d2 : decide (65536 < n) = true := decide_eq_true h2
    go_enter Try.func9, Try.ntmps9
    go_wp2_with fail
    go_ret2
    exact ⟨rfl, rfl⟩

/-- ints that lie somewhere -/
def IntsIn (w : World) (a0 : Option Addr) (l : List Int) : Prop := ∀ j, j < l.length → ∃ g off, a0 = some ⟨g, off, none⟩ ∧ w.cell? ⟨g, off + j, none⟩ = some (.int .i64 (l.getD j 0))

def SaysIf (p : Prop) (w : World) (e : Ending) (w' : World) : Prop := ∃ r, e = .returned (.bool r) ∧ (r = true ↔ p) ∧ w = w'

set_option maxHeartbeats 2000000 in
theorem fit_ok (l : List Int) (a0 : Option Addr) (cap : Nat) (n : Int) (w : World) (hc : IntsIn w a0 l) (hl : l.length ≤ 17592186044416) :
    Calls Try.prog 24 #[.slice a0 l.length cap, .int .i64 n] w fun e w' => SaysIf ((∀ p ∈ l, 31 ≤ p ∧ p ≤ 2017) ∧ (l.length : Int) = n) w e w' := by
  have HC := hide hc
  obtain ⟨N, hN⟩ : ∃ N, N = l.length := ⟨_, rfl⟩
  have HN := hide hN
  rw [← hN] at hl ⊢
  clear hN hc
  go_enter Try.func24, Try.ntmps24
  go_wp2_with fail
  go_loopg [5] N (fun gk d ws => ∃ (i : Nat), gk = N - i ∧ i ≤ N ∧ d = .int .i64 (i : Int) ∧ Hid (∀ j, j < i → 31 ≤ l.getD j 0 ∧ l.getD j 0 ≤ 2017) ∧ w = ws)
  case atStart => exact ⟨0, by omega, by omega, rfl, hide (fun j hj => by omega), rfl⟩
  case round =>
    obtain ⟨i, rfl, hi, rfl, HE, rfl⟩ := hrel
    by_cases hlt : i < N
    · have tl : (i : Int) < (N : Int) := by omega
      have hil : i < l.length := by rw [← unhide HN]; exact hlt
      obtain ⟨g, off, rfl, c1⟩ := unhide HC i hil
      have hmem : l.getD i 0 ∈ l := by
        rw [List.getD_eq_getElem?_getD, List.getElem?_eq_getElem hil]
        exact List.getElem_mem hil
      have d1 : ∀ q, (w.drewN q).cell? ⟨g, off + i, none⟩ = some (.int .i64 (l.getD i 0)) := fun q => c1
      obtain ⟨x, hx⟩ : ∃ x, x = l.getD i 0 := ⟨_, rfl⟩
      rw [← hx] at c1 hmem d1
      have HX := hide hx
      have HM := hide hmem
      clear hx hmem
      by_cases h0 : x < 31
      · have f1 : decide (x < 31) = true := decide_eq_true h0
        go_wp2_with fail
        go_ret
        refine ⟨false, rfl, ⟨fun h => by simp at h, fun h => ?_⟩, rfl⟩
        have := h.1 x (unhide HM)
        omega
      · have f1 : decide (x < 31) = false := decide_eq_false h0
        by_cases h1 : 2017 < x
        · have f2 : decide (2017 < x) = true := decide_eq_true h1
          go_wp2_with fail
          go_ret
          refine ⟨false, rfl, ⟨fun h => by simp at h, fun h => ?_⟩, rfl⟩
          have := h.1 x (unhide HM)
          omega
        · have f2 : decide (2017 < x) = false := decide_eq_false h1
          go_wp2_with fail
          go_roundg (N - (i + 1))
          case measure => omega
          case rel =>
            refine ⟨i + 1, rfl, by omega, by go_num, hide fun j hj => ?_, rfl⟩
            by_cases e : j = i
            · rw [e, ← unhide HX]; omega
            · exact unhide HE j (by omega)
    · obtain rfl : N = i := by omega
      have tl : ¬ (N : Int) < (N : Int) := by omega
      obtain ⟨r, hr⟩ : ∃ r, r = ((N : Int) == n) := ⟨_, rfl⟩
      have hr2 : ((N : Int) == n) = r := hr.symm
      have HR := hide hr
      clear hr
      go_wp2_with fail
      go_ret
      refine ⟨r, rfl, ⟨fun h => ⟨fun p hp => ?_, ?_⟩, fun h => ?_⟩, rfl⟩
      · obtain ⟨j, hj, rfl⟩ := List.getElem_of_mem hp
        have := unhide HE j (by rw [unhide HN]; exact hj)
        rwa [List.getD_eq_getElem?_getD, List.getElem?_eq_getElem hj] at this
      · have := unhide HR
        rw [h] at this
        exact beq_iff_eq.1 this.symm
      · rw [unhide HR]
        exact beq_iff_eq.2 h.2
end Go.Proofs.Ytbolhbjipmndeaa.D
