/- good, has, isCount, isDirect, hasBits, hasTree (the program's): what may be. -/
import Derived.Test.YtbolhbjipmndeaaPw
import Derived.Test.YtbolhbjipmndeaaDEr
namespace Go.Proofs.Ytbolhbjipmndeaa.D
open Go.RowKit Rang
set_option maxRecDepth 100000
set_option linter.unusedVariables false
attribute [local go_sem ↓] Go.wp_at_zero Go.wp_at_succ

set_option maxHeartbeats 1000000 in
theorem good_ok (pb : Nat) (w : World) (b : Bool) (h : w.cell? ⟨pb, 0, none⟩ = some (.bool b)) : Calls Try.prog 41 #[.pointer (some ⟨pb, 0, none⟩)] w fun e w' => e = .returned (.bool b) ∧ w' = w := by
  go_enter Try.func41, Try.ntmps41
  go_wp2_with fail
  go_ret
  exact ⟨rfl, rfl⟩

set_option maxHeartbeats 1000000 in
theorem good_nil (w : World) : Calls Try.prog 41 #[.pointer none] w fun e w' => e = .returned (.bool false) ∧ w' = w := by
  go_enter Try.func41, Try.ntmps41
  go_wp2_with fail
  go_ret
  exact ⟨rfl, rfl⟩

set_option maxHeartbeats 1000000 in
theorem dgood_ok (pb : Nat) (w : World) (b : Bool) (h : w.cell? ⟨pb, 0, none⟩ = some (.bool b)) : Calls Try.prog 59 #[.pointer (some ⟨pb, 0, none⟩)] w fun e w' => e = .returned (.bool b) ∧ w' = w := by
  go_enter Try.func59, Try.ntmps59
  go_wp2_with fail
  go_ret
  exact ⟨rfl, rfl⟩

set_option maxHeartbeats 1000000 in
theorem dgood_nil (w : World) : Calls Try.prog 59 #[.pointer none] w fun e w' => e = .returned (.bool false) ∧ w' = w := by
  go_enter Try.func59, Try.ntmps59
  go_wp2_with fail
  go_ret
  exact ⟨rfl, rfl⟩

set_option maxHeartbeats 1000000 in
theorem isCount_yes (n : Nat) (w : World) (hn : n ≤ 65536) : Calls Try.prog 38 #[.int .i64 (n : Int)] w fun e w' => e = .returned (.bool true) ∧ w' = w := by
  have t1 : (n : Int) ≤ 65536 := by omega
  have t2 : (0 : Int) ≤ (n : Int) := by omega
  go_enter Try.func38, Try.ntmps38
  go_wp2_with fail
  go_ret
  exact ⟨rfl, rfl⟩

set_option maxHeartbeats 1000000 in
theorem isCount_no (n : Int) (w : World) (hn : n < 0 ∨ 65536 < n) : Calls Try.prog 38 #[.int .i64 n] w fun e w' => e = .returned (.bool false) ∧ w' = w := by
  by_cases h1 : 0 ≤ n
  · have t1 : ¬ n ≤ 65536 := by omega
    have d1 : decide (0 ≤ n) = true := decide_eq_true h1
    have d2 : decide (n ≤ 65536) = false := decide_eq_false t1
    go_enter Try.func38, Try.ntmps38
    go_wp2_with fail
    go_ret
    exact ⟨rfl, rfl⟩
  · have d1 : decide (0 ≤ n) = false := decide_eq_false h1
    go_enter Try.func38, Try.ntmps38
    go_wp2_with fail
    go_ret
    exact ⟨rfl, rfl⟩

set_option maxHeartbeats 1000000 in
theorem isDirect_yes (n : Nat) (w : World) (hn : n ≤ 31) : Calls Try.prog 48 #[.int .i64 (n : Int)] w fun e w' => e = .returned (.bool true) ∧ w' = w := by
  have t1 : (n : Int) ≤ 31 := by omega
  have t2 : (0 : Int) ≤ (n : Int) := by omega
  go_enter Try.func48, Try.ntmps48
  go_wp2_with fail
  go_ret
  exact ⟨rfl, rfl⟩

set_option maxHeartbeats 1000000 in
theorem isDirect_no (n : Int) (w : World) (hn : ¬ (0 ≤ n ∧ n ≤ 31)) : Calls Try.prog 48 #[.int .i64 n] w fun e w' => e = .returned (.bool false) ∧ w' = w := by
  by_cases h1 : 0 ≤ n
  · have t1 : ¬ n ≤ 31 := by omega
    have d1 : decide (0 ≤ n) = true := decide_eq_true h1
    have d2 : decide (n ≤ 31) = false := decide_eq_false t1
    go_enter Try.func48, Try.ntmps48
    go_wp2_with fail
    go_ret
    exact ⟨rfl, rfl⟩
  · have d1 : decide (0 ≤ n) = false := decide_eq_false h1
    go_enter Try.func48, Try.ntmps48
    go_wp2_with fail
    go_ret
    exact ⟨rfl, rfl⟩

set_option maxHeartbeats 1000000 in
theorem has_ok (a0 : Option Addr) (n c : Nat) (i : Int) (b : Bool) (w : World) (hb : b = true ↔ 0 ≤ i ∧ i < (n : Int)) : Calls Try.prog 45 #[.slice a0 n c, .int .i64 i] w fun e w' => e = .returned (.bool b) ∧ w' = w := by
  by_cases h1 : 0 ≤ i
  · have d1 : decide (0 ≤ i) = true := decide_eq_true h1
    by_cases h2 : i < (n : Int)
    · have d2 : decide (i < (n : Int)) = true := decide_eq_true h2
      obtain rfl : b = true := hb.2 ⟨h1, h2⟩
      clear hb
      go_enter Try.func45, Try.ntmps45
      go_wp2_with fail
      go_ret
      exact ⟨rfl, rfl⟩
    · have d2 : decide (i < (n : Int)) = false := decide_eq_false h2
      obtain rfl : b = false := by cases b with | false => rfl | true => exact absurd (hb.1 rfl).2 h2
      clear hb
      go_enter Try.func45, Try.ntmps45
      go_wp2_with fail
      go_ret
      exact ⟨rfl, rfl⟩
  · have d1 : decide (0 ≤ i) = false := decide_eq_false h1
    obtain rfl : b = false := by cases b with | false => rfl | true => exact absurd (hb.1 rfl).1 h1
    clear hb
    go_enter Try.func45, Try.ntmps45
    go_wp2_with fail
    go_ret
    exact ⟨rfl, rfl⟩

set_option maxHeartbeats 1000000 in
theorem hasBits_yes (v n : Nat) (w : World) (hn : n ≤ 31) (hv : v < 2 ^ n) : Calls Try.prog 49 #[.int .i64 (v : Int), .int .i64 (n : Int)] w fun e w' => e = .returned (.bool true) ∧ w' = w := by
  have t1 : (v : Int) / 2 ^ n = 0 := by rw [show ((v : Int) / 2 ^ n) = ((v / 2 ^ n : Nat) : Int) by simp, Nat.div_eq_of_lt hv]; rfl
  have t2 : (0 : Int) ≤ (v : Int) := by omega
  have t3 : ¬ (n : Int) < 0 := by omega
  have t4 : min n 64 = n := by omega
  clear hv
  go_enter Try.func49, Try.ntmps49
  go_wp2_with fail
  go_ret
  exact ⟨rfl, rfl⟩

set_option maxHeartbeats 1000000 in
theorem hasBits_no (v : Int) (n : Nat) (w : World) (hn : n ≤ 31) (hv : ¬ (0 ≤ v ∧ v < 2 ^ n)) : Calls Try.prog 49 #[.int .i64 v, .int .i64 (n : Int)] w fun e w' => e = .returned (.bool false) ∧ w' = w := by
  by_cases h1 : 0 ≤ v
  · obtain ⟨V, rfl⟩ := Int.eq_ofNat_of_zero_le h1
    have hV : 2 ^ n ≤ V := by
      rcases Nat.lt_or_ge V (2 ^ n) with h | h
      · exact absurd ⟨h1, by exact_mod_cast h⟩ hv
      · exact h
    obtain ⟨q, hq⟩ : ∃ q, q = V / 2 ^ n := ⟨_, rfl⟩
    have hq1 : 1 ≤ q := by rw [hq]; exact (Nat.one_le_div_iff (Nat.two_pow_pos n)).2 hV
    have t1 : (V : Int) / 2 ^ n = (q : Int) := by rw [hq]; simp
    have t2 : ¬ (q : Int) = 0 := by omega
    have t2' : ((q : Int) == 0) = false := by simp; omega
    have t2'' : ¬ q = 0 := by omega
    have t3 : ¬ (n : Int) < 0 := by omega
    have t4 : min n 64 = n := by omega
    clear hv hV hq
    go_enter Try.func49, Try.ntmps49
    go_wp2_with fail
    go_ret
    exact ⟨rfl, rfl⟩
  · have d1 : decide (0 ≤ v) = false := decide_eq_false h1
    clear hv
    go_enter Try.func49, Try.ntmps49
    go_wp2_with fail
    go_ret
    exact ⟨rfl, rfl⟩

set_option maxHeartbeats 2000000 in
theorem hasTree_yes (a0 : Option Addr) (N c : Nat) (base n : Int) (w : World) (hN : N ≤ 140737488355328) (h : MayB base n N) :
    Calls Try.prog 74 #[.slice a0 N c, .int .i64 base, .int .i64 n] w fun e w' => e = .returned (.bool true) ∧ w' = w := by
  obtain ⟨b, rfl⟩ := Int.eq_ofNat_of_zero_le h.1
  obtain ⟨m, rfl⟩ := Int.eq_ofNat_of_zero_le h.2.1
  have h4 := h.2.2.2
  have hm : m ≤ 16 := by have := h.2.2.1; omega
  have hp : 2 ^ m ≤ 2 ^ 16 := Nat.pow_le_pow_right (by omega) hm
  obtain ⟨P, hP⟩ : ∃ P, P = 2 ^ m := ⟨_, rfl⟩
  have e1 : (2 : Int) ^ m = (P : Int) := by rw [hP]; simp
  rw [show (m : Int).toNat = m from rfl, e1] at h4
  rw [← hP] at hp
  have fP : wrap64 (P : Int) = (P : Int) := IntWalk.wrap64_in _ (by omega)
  have t1 : (0 : Int) ≤ (b : Int) := by omega
  have t0 : (0 : Int) ≤ (m : Int) := by omega
  have t2 : (m : Int) ≤ 16 := by omega
  have t4 : (b : Int) ≤ (N : Int) - (P : Int) := by omega
  have fs : wrap64 ((N : Int) - (P : Int)) = (N : Int) - (P : Int) := IntWalk.wrap64_in _ (by omega)
  have hn2 : m < 64 := by omega
  clear hP hp h h4
  go_enter Try.func74, Try.ntmps74
  go_wp2_with fail
  go_ret
  exact ⟨rfl, rfl⟩

set_option maxHeartbeats 2000000 in
theorem hasTree_no (a0 : Option Addr) (N c : Nat) (base n : Int) (w : World) (hN : N ≤ 140737488355328) (h : ¬ MayB base n N) :
    Calls Try.prog 74 #[.slice a0 N c, .int .i64 base, .int .i64 n] w fun e w' => e = .returned (.bool false) ∧ w' = w := by
  by_cases h0 : 0 ≤ base
  case neg =>
    have d1 : decide (0 ≤ base) = false := decide_eq_false h0
    clear h
    go_enter Try.func74, Try.ntmps74
    go_wp2_with fail
    go_ret
    exact ⟨rfl, rfl⟩
  have d0 : decide (0 ≤ base) = true := decide_eq_true h0
  by_cases h1 : 0 ≤ n
  case neg =>
    have d1 : decide (0 ≤ n) = false := decide_eq_false h1
    clear h
    go_enter Try.func74, Try.ntmps74
    go_wp2_with fail
    go_ret
    exact ⟨rfl, rfl⟩
  have d1 : decide (0 ≤ n) = true := decide_eq_true h1
  by_cases h2 : n ≤ 16
  case neg =>
    have d2 : decide (n ≤ 16) = false := decide_eq_false h2
    clear h
    go_enter Try.func74, Try.ntmps74
    go_wp2_with fail
    go_ret
    exact ⟨rfl, rfl⟩
  have d2 : decide (n ≤ 16) = true := decide_eq_true h2
  obtain ⟨m, rfl⟩ := Int.eq_ofNat_of_zero_le h1
  have hm : m ≤ 16 := by omega
  have hp : 2 ^ m ≤ 2 ^ 16 := Nat.pow_le_pow_right (by omega) hm
  obtain ⟨P, hP⟩ : ∃ P, P = 2 ^ m := ⟨_, rfl⟩
  have e1 : (2 : Int) ^ m = (P : Int) := by rw [hP]; simp
  have h4 : ¬ base + (P : Int) ≤ (N : Int) := fun h5 => h ⟨h0, h1, h2, by rw [show (m : Int).toNat = m from rfl, e1]; exact h5⟩
  rw [← hP] at hp
  have fP : wrap64 (P : Int) = (P : Int) := IntWalk.wrap64_in _ (by omega)
  have t4 : ¬ base ≤ (N : Int) - (P : Int) := by omega
  have d4 : decide (base ≤ (N : Int) - (P : Int)) = false := decide_eq_false t4
  have fs : wrap64 ((N : Int) - (P : Int)) = (N : Int) - (P : Int) := IntWalk.wrap64_in _ (by omega)
  have hn2 : m < 64 := by omega
  clear hP hp h h4
  go_enter Try.func74, Try.ntmps74
  go_wp2_with fail
  go_ret
  exact ⟨rfl, rfl⟩
end Go.Proofs.Ytbolhbjipmndeaa.D
