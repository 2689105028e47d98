/- Symbol, Far: the program's answers are the document's. -/
import Derived.Test.YtabeanealkopbaaFind
import Derived.Test.YtabeanealkopbaaSy
namespace Go.Proofs.Ytabeanealkopbaa
open Go.RowKit Infl
set_option maxRecDepth 100000
set_option linter.unusedVariables false

theorem below_drewN {B : Nat} {a w : World} (h : Below B a w) (n : Nat) : Below B a (w.drewN n) := ⟨h.os, h.tape, h.output, h.size, h.block⟩

set_option maxHeartbeats 1000000 in
theorem lenWord_ok (v : Nat) (w : World) (h1 : 3 ≤ v) (h2 : v ≤ 258) :
    Calls Try.prog 12 #[.int .i64 (v : Int)] w fun e w' => e = .returned (wordV (symL v) (v - (lenOf (symL v)).1) (lenOf (symL v)).2) ∧ Below w.heap.size w w' := by
  have HF := hide (fun w => find_len v w h1 h2)
  generalize (v - (lenOf (symL v)).1) = m at HF ⊢
  generalize (lenOf (symL v)).2 = x at HF ⊢
  generalize symL v = s at HF ⊢
  unfold wordV at HF ⊢
  go_enter Try.func12, Try.ntmps12
  go_wp2_with fail
  obtain ⟨w1, hw1⟩ : ∃ w1, w1 = w.alloc (.cells #[.int .i64 0, .int .i64 0, .int .i64 0] 34) := ⟨_, rfl⟩
  have hs1 : w1.heap.size = w.heap.size + 1 := by rw [hw1]; simp
  have c3 : w1.heap[w.heap.size]? = some (.cells #[.int .i64 0, .int .i64 0, .int .i64 0] 34 (0, 0)) := by rw [hw1]; exact heap_alloc_new _ _
  have HB1 : Hid (Below w.heap.size w w1) := hide (by rw [hw1]; exact (Below.refl _ _).alloc (by simp) _)
  rw [← hw1]
  clear hw1
  refine (unhide HF w1).mono ?_
  rintro e w2 ⟨rfl, hb2⟩
  have c4 : w2.heap[w.heap.size]? = some (.cells #[.int .i64 0, .int .i64 0, .int .i64 0] 34 (0, 0)) := by rw [hb2.block _ (by omega)]; exact c3
  have HB2 : Hid (Below w.heap.size w w2) := hide ((unhide HB1).trans (hb2.mono (by omega)))
  have d0 : w2.cell? ⟨w.heap.size, 0, none⟩ = some (.int .i64 0) := by simp only [World.cell?, c4]; rfl
  have d1 : w2.cell? ⟨w.heap.size, 1, none⟩ = some (.int .i64 0) := by simp only [World.cell?, c4]; rfl
  have d2 : w2.cell? ⟨w.heap.size, 2, none⟩ = some (.int .i64 0) := by simp only [World.cell?, c4]; rfl
  have f0 : ∀ o, w2.frozen? ⟨w.heap.size, o, none⟩ = false := fun o => by simp [World.frozen?, c4]
  clear HF HB1 hb2 c3 c4 hs1
  go_wp2_with fail
  refine bodyPost_ret (v := .agg #[.int .i64 (s : Int), .int .i64 (m : Int), .int .i64 (x : Int)]) ?_ rfl ⟨rfl, (((unhide HB2).setCell (Nat.le_refl _) _).setCell (Nat.le_refl _) _).setCell (Nat.le_refl _) _⟩
  rw [results_cell rfl]
  go_simp

/-- what is told of a length -/
theorem lenSym_ok (v : Int) (w : World) : Calls Try.prog 5 #[.int .i64 v] w fun e w' => e = .returned (symAns v) ∧ Below w.heap.size w w' := by
  unfold symAns
  by_cases h : v < 3 ∨ 258 < v
  · rw [if_pos h]
    by_cases h0 : v < 3
    · have b1 : decide (v < 3) = true := by simp; omega
      clear h
      go_enter Try.func5, Try.ntmps5
      go_wp2_with fail
      go_ret3
      exact ⟨rfl, by first | exact Below.refl _ _ | exact (Below.refl _ _).alloc (by simp) _⟩
    · have b1 : decide (v < 3) = false := by simp; omega
      have h2 : 258 < v := by omega
      have b2 : decide (258 < v) = true := by simp; omega
      clear h
      go_enter Try.func5, Try.ntmps5
      go_wp2_with fail
      go_ret3
      exact ⟨rfl, by first | exact Below.refl _ _ | exact (Below.refl _ _).alloc (by simp) _⟩
  · rw [if_neg h]
    obtain ⟨n, rfl⟩ := Int.eq_ofNat_of_zero_le (show 0 ≤ v by omega)
    have b0 : ¬ (n : Int) < 3 := by omega
    have b1 : decide ((n : Int) < 3) = false := by simp; omega
    have b2 : ¬ 258 < (n : Int) := by omega
    have b3 : decide (258 < (n : Int)) = false := by simp; omega
    have HF := hide (fun w => lenWord_ok n w (by omega) (by omega))
    clear h
    simp only [Int.toNat_natCast]
    generalize (n - (lenOf (symL n)).1) = m at HF ⊢
    generalize (lenOf (symL n)).2 = x at HF
    generalize symL n = s at HF ⊢
    unfold wordV at HF
    go_enter Try.func5, Try.ntmps5
    go_wp2_with fail
    refine (unhide HF w).mono ?_
    rintro e w1 ⟨rfl, hb⟩
    go_wp2_with fail
    obtain ⟨w2, hw2⟩ : ∃ w2, w2 = w1.alloc (.cells #[.int .i64 (s : Int), .int .i64 (m : Int), .int .i64 (x : Int)] 34) := ⟨_, rfl⟩
    have c0 : w2.cell? ⟨w1.heap.size, 0, none⟩ = some (.int .i64 (s : Int)) := by rw [hw2]; simp only [World.cell?, heap_alloc_new]; rfl
    have c1 : w2.cell? ⟨w1.heap.size, 1, none⟩ = some (.int .i64 (m : Int)) := by rw [hw2]; simp only [World.cell?, heap_alloc_new]; rfl
    have HB : Hid (Below w.heap.size w w2) := hide (by rw [hw2]; exact hb.alloc hb.size _)
    rw [← hw2]
    clear hw2 hb HF
    go_quiet (fail)
    go_wp2
    go_ret3
    exact ⟨rfl, below_drewN (unhide HB) _⟩

set_option maxHeartbeats 1000000 in
theorem distWord_ok (v : Nat) (w : World) (h1 : 1 ≤ v) (h2 : v ≤ 32768) :
    Calls Try.prog 14 #[.int .i64 (v : Int)] w fun e w' => e = .returned (wordV (symD v) (v - (distOf (symD v)).1) (distOf (symD v)).2) ∧ Below w.heap.size w w' := by
  have HF := hide (fun w => find_dist v w h1 h2)
  generalize (v - (distOf (symD v)).1) = m at HF ⊢
  generalize (distOf (symD v)).2 = x at HF ⊢
  generalize symD v = s at HF ⊢
  unfold wordV at HF ⊢
  go_enter Try.func14, Try.ntmps14
  go_wp2_with fail
  obtain ⟨w1, hw1⟩ : ∃ w1, w1 = w.alloc (.cells #[.int .i64 0, .int .i64 0, .int .i64 0] 34) := ⟨_, rfl⟩
  have hs1 : w1.heap.size = w.heap.size + 1 := by rw [hw1]; simp
  have c3 : w1.heap[w.heap.size]? = some (.cells #[.int .i64 0, .int .i64 0, .int .i64 0] 34 (0, 0)) := by rw [hw1]; exact heap_alloc_new _ _
  have HB1 : Hid (Below w.heap.size w w1) := hide (by rw [hw1]; exact (Below.refl _ _).alloc (by simp) _)
  rw [← hw1]
  clear hw1
  refine (unhide HF w1).mono ?_
  rintro e w2 ⟨rfl, hb2⟩
  have c4 : w2.heap[w.heap.size]? = some (.cells #[.int .i64 0, .int .i64 0, .int .i64 0] 34 (0, 0)) := by rw [hb2.block _ (by omega)]; exact c3
  have HB2 : Hid (Below w.heap.size w w2) := hide ((unhide HB1).trans (hb2.mono (by omega)))
  have d0 : w2.cell? ⟨w.heap.size, 0, none⟩ = some (.int .i64 0) := by simp only [World.cell?, c4]; rfl
  have d1 : w2.cell? ⟨w.heap.size, 1, none⟩ = some (.int .i64 0) := by simp only [World.cell?, c4]; rfl
  have d2 : w2.cell? ⟨w.heap.size, 2, none⟩ = some (.int .i64 0) := by simp only [World.cell?, c4]; rfl
  have f0 : ∀ o, w2.frozen? ⟨w.heap.size, o, none⟩ = false := fun o => by simp [World.frozen?, c4]
  clear HF HB1 hb2 c3 c4 hs1
  go_wp2_with fail
  refine bodyPost_ret (v := .agg #[.int .i64 (s : Int), .int .i64 (m : Int), .int .i64 (x : Int)]) ?_ rfl ⟨rfl, (((unhide HB2).setCell (Nat.le_refl _) _).setCell (Nat.le_refl _) _).setCell (Nat.le_refl _) _⟩
  rw [results_cell rfl]
  go_simp

/-- what is told of a distance -/
theorem distSym_ok (v : Int) (w : World) : Calls Try.prog 7 #[.int .i64 v] w fun e w' => e = .returned (farAns v) ∧ Below w.heap.size w w' := by
  unfold farAns
  by_cases h : v < 1 ∨ 32768 < v
  · rw [if_pos h]
    by_cases h0 : v < 1
    · have b1 : decide (v < 1) = true := by simp; omega
      clear h
      go_enter Try.func7, Try.ntmps7
      go_wp2_with fail
      go_ret3
      exact ⟨rfl, by first | exact Below.refl _ _ | exact (Below.refl _ _).alloc (by simp) _⟩
    · have b1 : decide (v < 1) = false := by simp; omega
      have h2 : 32768 < v := by omega
      have b2 : decide (32768 < v) = true := by simp; omega
      clear h
      go_enter Try.func7, Try.ntmps7
      go_wp2_with fail
      go_ret3
      exact ⟨rfl, by first | exact Below.refl _ _ | exact (Below.refl _ _).alloc (by simp) _⟩
  · rw [if_neg h]
    obtain ⟨n, rfl⟩ := Int.eq_ofNat_of_zero_le (show 0 ≤ v by omega)
    have b0 : ¬ (n : Int) < 1 := by omega
    have b1 : decide ((n : Int) < 1) = false := by simp; omega
    have b2 : ¬ 32768 < (n : Int) := by omega
    have b3 : decide (32768 < (n : Int)) = false := by simp; omega
    have HF := hide (fun w => distWord_ok n w (by omega) (by omega))
    clear h
    simp only [Int.toNat_natCast]
    generalize (n - (distOf (symD n)).1) = m at HF ⊢
    generalize (distOf (symD n)).2 = x at HF
    generalize symD n = s at HF ⊢
    unfold wordV at HF
    go_enter Try.func7, Try.ntmps7
    go_wp2_with fail
    refine (unhide HF w).mono ?_
    rintro e w1 ⟨rfl, hb⟩
    go_wp2_with fail
    obtain ⟨w2, hw2⟩ : ∃ w2, w2 = w1.alloc (.cells #[.int .i64 (s : Int), .int .i64 (m : Int), .int .i64 (x : Int)] 34) := ⟨_, rfl⟩
    have c0 : w2.cell? ⟨w1.heap.size, 0, none⟩ = some (.int .i64 (s : Int)) := by rw [hw2]; simp only [World.cell?, heap_alloc_new]; rfl
    have c1 : w2.cell? ⟨w1.heap.size, 1, none⟩ = some (.int .i64 (m : Int)) := by rw [hw2]; simp only [World.cell?, heap_alloc_new]; rfl
    have HB : Hid (Below w.heap.size w w2) := hide (by rw [hw2]; exact hb.alloc hb.size _)
    rw [← hw2]
    clear hw2 hb HF
    go_quiet (fail)
    go_wp2
    go_ret3
    exact ⟨rfl, below_drewN (unhide HB) _⟩


set_option maxHeartbeats 1000000 in
theorem symbols_law (x y : Int) (w : World) : Calls Try.prog 3 #[.int .i64 x, .int .i64 y] w fun e w' => e = .returned (.bool true) ∧ Below w.heap.size w w' := by
  obtain ⟨a1, a2, a3, ha⟩ : ∃ a1 a2 a3 : Int, symAns x = .tuple #[.int .i64 a1, .int .i64 a2, .int .i64 a3] := by
    unfold symAns; split <;> exact ⟨_, _, _, rfl⟩
  obtain ⟨b1, b2, b3, hb⟩ : ∃ b1 b2 b3 : Int, farAns y = .tuple #[.int .i64 b1, .int .i64 b2, .int .i64 b3] := by
    unfold farAns; split <;> exact ⟨_, _, _, rfl⟩
  have H1 := hide (fun w => lenSym_ok x w)
  have H2 := hide (fun w => rsym_ok x w)
  have H3 := hide (fun w => distSym_ok y w)
  have H4 := hide (fun w => rfar_ok y w)
  rw [ha] at H1 H2
  rw [hb] at H3 H4
  clear ha hb
  go_enter Try.func3, Try.ntmps3
  go_wp2_with fail
  refine (unhide H1 w).mono ?_
  rintro e w1 ⟨rfl, q1⟩
  have Q1 := hide q1
  clear q1
  go_wp2_with fail
  refine (unhide H2 w1).mono ?_
  rintro e w2 ⟨rfl, q⟩
  rw [q]
  clear q
  go_wp2_with fail
  refine (unhide H3 w1).mono ?_
  rintro e w3 ⟨rfl, q3⟩
  have Q3 := hide ((unhide Q1).trans (q3.mono (unhide Q1).size))
  clear q3
  go_wp2_with fail
  refine (unhide H4 w3).mono ?_
  rintro e w4 ⟨rfl, q⟩
  rw [q]
  clear q
  go_wp2_with fail
  go_ret
  exact ⟨rfl, unhide Q3⟩
end Go.Proofs.Ytabeanealkopbaa
