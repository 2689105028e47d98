/- The document's looks: LengthOf, DistanceOf, Symbol, Far. -/
import Derived.Test.YtabeanealkopbaaSym
import Derived.Test.YtabeanealkopbaaLooks
import Derived.Test.YtabeanealkopbaaAidTwo
namespace Go.Proofs.Ytabeanealkopbaa
open Go.RowKit Infl
set_option maxRecDepth 100000
set_option linter.unusedVariables false

/-- what is told of a number -/
def symAns (n : Int) : Value := if n < 3 ∨ 258 < n then .tuple #[.int .i64 0, .int .i64 0, .int .i64 2] else .tuple #[.int .i64 (symL n.toNat : Int), .int .i64 ((n.toNat - (lenOf (symL n.toNat)).1 : Nat) : Int), .int .i64 0]

set_option maxHeartbeats 2000000 in
theorem rsym_ok (n : Int) (w : World) : Calls Try.prog 6 #[.int .i64 n] w fun e w' => e = .returned (symAns n) ∧ w' = w := by
  unfold symAns
  by_cases h1 : n < 3 ∨ 258 < n
  · rw [if_pos h1]
    by_cases h2 : n < 3
    · have b1 : decide (n < 3) = true := by simp; omega
      clear h1
      go_enter Try.func6, Try.ntmps6
      go_wp2_with fail
      go_ret3
      exact ⟨rfl, rfl⟩
    · have b1 : decide (n < 3) = false := by simp; omega
      have h3 : 258 < n := by omega
      have b2 : decide (258 < n) = true := by simp; omega
      clear h1
      go_enter Try.func6, Try.ntmps6
      go_wp2_with fail
      go_ret3
      exact ⟨rfl, rfl⟩
  · rw [if_neg h1]
    obtain ⟨m, rfl⟩ := Int.eq_ofNat_of_zero_le (show 0 ≤ n by omega)
    have b0 : ¬ (m : Int) < 3 := by omega
    have b1 : decide ((m : Int) < 3) = false := by simp; omega
    have b2 : ¬ 258 < (m : Int) := by omega
    have b3 : decide (258 < (m : Int)) = false := by simp; omega
    have hm1 : 3 ≤ m := by omega
    clear h1
    simp only [Int.toNat_natCast]
    have HS : Hid (symL m = down (fun s => (lenOf s).1) m 285) := hide rfl
    go_enter Try.func6, Try.ntmps6
    go_wp2_with fail
    go_loopg [5] 286 (fun gk l ws => ∃ s : Nat, gk = s + 1 ∧ 257 ≤ s ∧ s ≤ 285 ∧ l = .int .i64 (s : Int) ∧ ws = w ∧ Hid (symL m = down (fun s => (lenOf s).1) m s))
    case atStart => exact ⟨285, rfl, by omega, by omega, rfl, rfl, HS⟩
    case round =>
      obtain ⟨s, rfl, hs1, hs2, rfl, rfl, hd⟩ := hrel
      have HL := rlen_ok (s : Int) wr
      unfold lenAns at HL
      rw [if_neg (by omega)] at HL
      simp only [Int.toNat_natCast] at HL
      obtain ⟨le, hle⟩ : ∃ le, le = (lenOf s).1 := ⟨_, rfl⟩
      rw [← hle] at HL
      generalize (lenOf s).2 = ex at HL
      have HL := hide HL
      have HLE := hide hle
      have hle2 : le ≤ 100000 := by
        rw [hle]
        have : ∀ i, i < 29 → (lenOf (257 + i)).1 ≤ 100000 := by decide
        have := this (s - 257) (by omega)
        rwa [show 257 + (s - 257) = s from by omega] at this
      clear HS
      by_cases hc : le ≤ m
      · have t1 : (le : Int) ≤ (m : Int) := by omega
        have HE : Hid (symL m = s ∧ ((m - (lenOf s).1 : Nat) : Int) = (m : Int) - (le : Int)) := hide (by
          refine ⟨?_, by rw [← hle]; omega⟩
          rw [unhide hd]
          cases s with
          | zero => rfl
          | succ s => unfold down; rw [if_pos (by rw [← hle]; exact hc)])
        clear hle hd
        go_wp2_with fail
        refine (unhide HL).mono ?_
        rintro e w1 ⟨rfl, rfl⟩
        go_wp2_with fail
        go_ret3
        obtain ⟨e1, e2⟩ := unhide HE
        rw [e1, e2]
        exact ⟨rfl, rfl⟩
      · have t1 : ¬ (le : Int) ≤ (m : Int) := by omega
        have hs3 : 257 < s := by
          rcases Nat.lt_or_ge 257 s with h | h
          · exact h
          · exfalso
            obtain rfl : s = 257 := by omega
            have : (lenOf 257).1 = 3 := rfl
            omega
        have HD : Hid (symL m = down (fun s => (lenOf s).1) m (s - 1)) := hide (by
          rw [unhide hd]
          obtain ⟨t, rfl⟩ : ∃ t, s = t + 1 := ⟨s - 1, by omega⟩
          rw [down, if_neg (by rw [← hle]; exact hc)]
          rfl)
        clear hle hd
        go_wp2_with fail
        refine (unhide HL).mono ?_
        rintro e w1 ⟨rfl, hw⟩
        subst w1
        go_wp2_with fail
        go_roundg s
        case measure => omega
        case rel => exact ⟨s - 1, by omega, by omega, by omega, by go_num, rfl, HD⟩

/-- what is told of a number -/
def farAns (n : Int) : Value := if n < 1 ∨ 32768 < n then .tuple #[.int .i64 0, .int .i64 0, .int .i64 2] else .tuple #[.int .i64 (symD n.toNat : Int), .int .i64 ((n.toNat - (distOf (symD n.toNat)).1 : Nat) : Int), .int .i64 0]

set_option maxHeartbeats 2000000 in
theorem rfar_ok (n : Int) (w : World) : Calls Try.prog 8 #[.int .i64 n] w fun e w' => e = .returned (farAns n) ∧ w' = w := by
  unfold farAns
  by_cases h1 : n < 1 ∨ 32768 < n
  · rw [if_pos h1]
    by_cases h2 : n < 1
    · have b1 : decide (n < 1) = true := by simp; omega
      clear h1
      go_enter Try.func8, Try.ntmps8
      go_wp2_with fail
      go_ret3
      exact ⟨rfl, rfl⟩
    · have b1 : decide (n < 1) = false := by simp; omega
      have h3 : 32768 < n := by omega
      have b2 : decide (32768 < n) = true := by simp; omega
      clear h1
      go_enter Try.func8, Try.ntmps8
      go_wp2_with fail
      go_ret3
      exact ⟨rfl, rfl⟩
  · rw [if_neg h1]
    obtain ⟨m, rfl⟩ := Int.eq_ofNat_of_zero_le (show 0 ≤ n by omega)
    have b0 : ¬ (m : Int) < 1 := by omega
    have b1 : decide ((m : Int) < 1) = false := by simp; omega
    have b2 : ¬ 32768 < (m : Int) := by omega
    have b3 : decide (32768 < (m : Int)) = false := by simp; omega
    have hm1 : 1 ≤ m := by omega
    clear h1
    simp only [Int.toNat_natCast]
    have HS : Hid (symD m = down (fun s => (distOf s).1) m 29) := hide rfl
    go_enter Try.func8, Try.ntmps8
    go_wp2_with fail
    go_loopg [5] 30 (fun gk l ws => ∃ s : Nat, gk = s + 1 ∧ 0 ≤ s ∧ s ≤ 29 ∧ l = .int .i64 (s : Int) ∧ ws = w ∧ Hid (symD m = down (fun s => (distOf s).1) m s))
    case atStart => exact ⟨29, rfl, by omega, by omega, rfl, rfl, HS⟩
    case round =>
      obtain ⟨s, rfl, hs1, hs2, rfl, rfl, hd⟩ := hrel
      have HL := rdist_ok (s : Int) wr
      unfold distAns at HL
      rw [if_neg (by omega)] at HL
      simp only [Int.toNat_natCast] at HL
      obtain ⟨le, hle⟩ : ∃ le, le = (distOf s).1 := ⟨_, rfl⟩
      rw [← hle] at HL
      generalize (distOf s).2 = ex at HL
      have HL := hide HL
      have HLE := hide hle
      have hle2 : le ≤ 100000 := by
        rw [hle]
        have : ∀ i, i < 30 → (distOf (0 + i)).1 ≤ 100000 := by decide
        have := this (s - 0) (by omega)
        rwa [show 0 + (s - 0) = s from by omega] at this
      clear HS
      by_cases hc : le ≤ m
      · have t1 : (le : Int) ≤ (m : Int) := by omega
        have HE : Hid (symD m = s ∧ ((m - (distOf s).1 : Nat) : Int) = (m : Int) - (le : Int)) := hide (by
          refine ⟨?_, by rw [← hle]; omega⟩
          rw [unhide hd]
          cases s with
          | zero => rfl
          | succ s => unfold down; rw [if_pos (by rw [← hle]; exact hc)])
        clear hle hd
        go_wp2_with fail
        refine (unhide HL).mono ?_
        rintro e w1 ⟨rfl, rfl⟩
        go_wp2_with fail
        go_ret3
        obtain ⟨e1, e2⟩ := unhide HE
        rw [e1, e2]
        exact ⟨rfl, rfl⟩
      · have t1 : ¬ (le : Int) ≤ (m : Int) := by omega
        have hs3 : 0 < s := by
          rcases Nat.lt_or_ge 0 s with h | h
          · exact h
          · exfalso
            obtain rfl : s = 0 := by omega
            have : (distOf 0).1 = 1 := rfl
            omega
        have HD : Hid (symD m = down (fun s => (distOf s).1) m (s - 1)) := hide (by
          rw [unhide hd]
          obtain ⟨t, rfl⟩ : ∃ t, s = t + 1 := ⟨s - 1, by omega⟩
          rw [down, if_neg (by rw [← hle]; exact hc)]
          rfl)
        clear hle hd
        go_wp2_with fail
        refine (unhide HL).mono ?_
        rintro e w1 ⟨rfl, hw⟩
        subst w1
        go_wp2_with fail
        go_roundg s
        case measure => omega
        case rel => exact ⟨s - 1, by omega, by omega, by omega, by go_num, rfl, HD⟩

end Go.Proofs.Ytabeanealkopbaa
