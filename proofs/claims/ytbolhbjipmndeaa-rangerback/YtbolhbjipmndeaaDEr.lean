/- Direct and Tree of wrong numbers. -/
import Derived.Test.YtbolhbjipmndeaaDNw
namespace Go.Proofs.Ytbolhbjipmndeaa.D
open Go.RowKit Rang
set_option maxRecDepth 100000
set_option linter.unusedVariables false
attribute [local go_sem ↓] Go.wp_at_zero Go.wp_at_succ

/-- the numbers are fit for n bits -/
def DirOk (v n : Int) : Prop := 0 ≤ n ∧ n ≤ 31 ∧ 0 ≤ v ∧ v < 2 ^ n.toNat

set_option maxHeartbeats 2000000 in
theorem direct_bad (pb : Nat) (w : World) (v n : Int) (h : ¬ DirOk v n) : Calls Try.prog 19 #[.pointer (some ⟨pb, 0, none⟩), .int .i64 v, .int .i64 n] w fun e w' => e = .returned (.int .i64 2) ∧ w = w' := by
  by_cases h1 : n < 0
  · have d1 : decide (n < 0) = true := decide_eq_true h1
    go_enter Try.func19, Try.ntmps19
    go_wp2_with fail
    go_ret
    exact ⟨rfl, rfl⟩
  · have d1 : decide (n < 0) = false := decide_eq_false h1
    by_cases h2 : 31 < n
    · have d2 : decide (31 < n) = true := decide_eq_true h2
      go_enter Try.func19, Try.ntmps19
      go_wp2_with fail
      go_ret
      exact ⟨rfl, rfl⟩
    · have d2 : decide (31 < n) = false := decide_eq_false h2
      by_cases h3 : v < 0
      · have d3 : decide (v < 0) = true := decide_eq_true h3
        go_enter Try.func19, Try.ntmps19
        go_wp2_with fail
        go_ret
        exact ⟨rfl, rfl⟩
      · have d3 : decide (v < 0) = false := decide_eq_false h3
        obtain ⟨m, rfl⟩ := Int.eq_ofNat_of_zero_le (show 0 ≤ n by omega)
        have hm : m ≤ 31 := by omega
        obtain ⟨P, hP⟩ : ∃ P, P = 2 ^ m := ⟨_, rfl⟩
        have hp : P ≤ 2 ^ 31 := by rw [hP]; exact Nat.pow_le_pow_right (by omega) hm
        have e1 : (2 : Int) ^ m = (P : Int) := by rw [hP]; simp
        have fP : wrap64 (P : Int) = (P : Int) := IntWalk.wrap64_in _ (by omega)
        have t2 : (P : Int) ≤ v := by
          rcases Int.lt_or_le v (P : Int) with hv | hv
          · exact absurd ⟨by omega, by omega, by omega, by rw [Int.toNat_natCast, e1]; exact hv⟩ h
          · exact hv
        have hm2 : m < 64 := by omega
        have d4 : decide ((P : Int) ≤ v) = true := decide_eq_true t2
        clear hP hp h h1 h2 h3
        go_enter Try.func19, Try.ntmps19
        go_wp2_with fail
        go_ret
        exact ⟨rfl, rfl⟩

/-- a tree may stand there -/
def MayB (base n N : Int) : Prop := 0 ≤ base ∧ 0 ≤ n ∧ n ≤ 16 ∧ base + 2 ^ n.toNat ≤ N

set_option maxHeartbeats 2000000 in
theorem may_bad (base n : Int) (N : Nat) (w : World) (hN : N ≤ 140737488355328) (hb : base ≤ 9223372036854775807) (h : ¬ MayB base n N) :
    Calls Try.prog 54 #[.int .i64 base, .int .i64 n, .int .i64 (N : Int)] w fun e w' => e = .returned (.bool false) ∧ w = w' := by
  by_cases h0 : 0 ≤ base
  case neg =>
    have d1 : decide (0 ≤ base) = false := decide_eq_false h0
    go_enter Try.func54, Try.ntmps54
    go_wp2_with fail
    go_ret
    exact ⟨rfl, rfl⟩
  have d0 : decide (0 ≤ base) = true := decide_eq_true h0
  by_cases h1 : 0 ≤ n
  case neg =>
    have d1 : decide (0 ≤ n) = false := decide_eq_false h1
    go_enter Try.func54, Try.ntmps54
    go_wp2_with fail
    go_ret
    exact ⟨rfl, rfl⟩
  have d1 : decide (0 ≤ n) = true := decide_eq_true h1
  by_cases h2 : n ≤ 16
  case neg =>
    have d2 : decide (n ≤ 16) = false := decide_eq_false h2
    go_enter Try.func54, Try.ntmps54
    go_wp2_with fail
    go_ret
    exact ⟨rfl, rfl⟩
  have d2 : decide (n ≤ 16) = true := decide_eq_true h2
  obtain ⟨m, rfl⟩ := Int.eq_ofNat_of_zero_le h1
  have hm : m ≤ 16 := by omega
  obtain ⟨P, hP⟩ : ∃ P, P = 2 ^ m := ⟨_, rfl⟩
  have hp : P ≤ 2 ^ 16 := by rw [hP]; exact Nat.pow_le_pow_right (by omega) hm
  have e1 : (2 : Int) ^ m = (P : Int) := by rw [hP]; simp
  have fP : wrap64 (P : Int) = (P : Int) := IntWalk.wrap64_in _ (by omega)
  have fs : wrap64 ((N : Int) - (P : Int)) = (N : Int) - (P : Int) := IntWalk.wrap64_in _ (by omega)
  have hm2 : m < 64 := by omega
  have hlt : (N : Int) - (P : Int) < base := by
    rcases Int.lt_or_le ((N : Int) - (P : Int)) base with hv | hv
    · exact hv
    · exact absurd ⟨h0, by omega, by omega, by rw [Int.toNat_natCast, e1]; omega⟩ h
  clear hP h h1 h2
  by_cases h3 : P ≤ N
  · have t3 : (P : Int) ≤ (N : Int) := by omega
    have t4 : ¬ base ≤ (N : Int) - (P : Int) := by omega
    have d4 : decide (base ≤ (N : Int) - (P : Int)) = false := decide_eq_false t4
    go_enter Try.func54, Try.ntmps54
    go_wp2_with fail
    go_ret
    exact ⟨rfl, rfl⟩
  · have t3 : ¬ (P : Int) ≤ (N : Int) := by omega
    go_enter Try.func54, Try.ntmps54
    go_wp2_with fail
    go_ret
    exact ⟨rfl, rfl⟩

theorem may_yes (base n : Int) (N : Nat) (w : World) (hN : N ≤ 140737488355328) (h : MayB base n N) :
    Calls Try.prog 54 #[.int .i64 base, .int .i64 n, .int .i64 (N : Int)] w fun e w' => e = .returned (.bool true) ∧ w' = w := by
  obtain ⟨b, rfl⟩ := Int.eq_ofNat_of_zero_le h.1
  obtain ⟨m, rfl⟩ := Int.eq_ofNat_of_zero_le h.2.1
  have h4 := h.2.2.2
  rw [Int.toNat_natCast] at h4
  exact may_ok b m N w (by have := h.2.2.1; omega) (by
    have e : ((b + 2 ^ m : Nat) : Int) ≤ (N : Int) := by simpa using h4
    omega) hN

set_option maxHeartbeats 4000000 in
theorem tree_bad (B pb gc cc : Nat) (w : World) (ov : Value) (c : Enc) (ch : List Nat) (base v n : Int) (high : Bool) (h : EC B w pb gc cc ov c ch) (hN : ch.length ≤ 140737488355328) (hb : base ≤ 9223372036854775807) (hbad : ¬ (MayB base n ch.length ∧ 0 ≤ v ∧ v < 2 ^ n.toNat)) :
    Calls Try.prog 21 #[.pointer (some ⟨pb, 0, none⟩), .int .i64 base, .int .i64 v, .int .i64 n, .bool high] w fun e w' => e = .returned (.int .i64 2) ∧ w = w' := by
  have c0 := h.enc.chs
  obtain ⟨N, hNN⟩ : ∃ N, N = ch.length := ⟨_, rfl⟩
  rw [← hNN] at c0 hN hbad
  clear hNN h
  by_cases hm : MayB base n N
  case neg =>
    have HM := hide (may_bad base n N w hN hb hm)
    clear hbad hm
    go_enter Try.func21, Try.ntmps21
    go_wp2_with fail
    refine (unhide HM).mono ?_
    rintro e w1 ⟨rfl, rfl⟩
    go_wp2_with fail
    go_ret
    exact ⟨rfl, rfl⟩
  have HM := hide (may_yes base n N w hN hm)
  by_cases h3 : v < 0
  · have d3 : decide (v < 0) = true := decide_eq_true h3
    clear hbad hm
    go_enter Try.func21, Try.ntmps21
    go_wp2_with fail
    refine (unhide HM).mono ?_
    rintro e w1 ⟨rfl, rfl⟩
    go_wp2_with fail
    go_ret
    exact ⟨rfl, rfl⟩
  · have d3 : decide (v < 0) = false := decide_eq_false h3
    obtain ⟨m, rfl⟩ := Int.eq_ofNat_of_zero_le hm.2.1
    have hm16 : m ≤ 16 := by have := hm.2.2.1; omega
    obtain ⟨P, hP⟩ : ∃ P, P = 2 ^ m := ⟨_, rfl⟩
    have hp : P ≤ 2 ^ 16 := by rw [hP]; exact Nat.pow_le_pow_right (by omega) hm16
    have e1 : (2 : Int) ^ m = (P : Int) := by rw [hP]; simp
    have fP : wrap64 (P : Int) = (P : Int) := IntWalk.wrap64_in _ (by omega)
    have t2 : (P : Int) ≤ v := by
      rcases Int.lt_or_le v (P : Int) with hv | hv
      · exact absurd ⟨hm, by omega, by rw [Int.toNat_natCast, e1]; exact hv⟩ hbad
      · exact hv
    have d4 : decide ((P : Int) ≤ v) = true := decide_eq_true t2
    have hm2 : m < 64 := by omega
    clear hP hp hbad hm h3
    go_enter Try.func21, Try.ntmps21
    go_wp2_with fail
    refine (unhide HM).mono ?_
    rintro e w1 ⟨rfl, rfl⟩
    go_wp2_with fail
    go_ret
    exact ⟨rfl, rfl⟩
end Go.Proofs.Ytbolhbjipmndeaa.D
