/- RangerLikely: bits that come as they are likely. -/
import Derived.Test.YtbolhbjipmndeaaPy
import Derived.Test.YtbolhbjipmndeaaPc
namespace Go.Proofs.Ytbolhbjipmndeaa.D
open Go.RowKit Rang
set_option maxRecDepth 100000
set_option linter.unusedVariables false
attribute [local go_sem ↓] Go.wp_at_zero Go.wp_at_succ

/-- the chance behind so many bits -/
def lkP (bit : Bool) : Nat → Nat
  | 0 => 1024
  | i + 1 => after (lkP bit i) bit

/-- the encoder behind so many bits -/
def lkC (bit : Bool) : Nat → Enc
  | 0 => enc0
  | i + 1 => putE (lkC bit i) (lkP bit i) bit

/-- the range and how many bytes were shifted out -/
def lkR (bit : Bool) : Nat → Nat × Nat
  | 0 => (4294967295, 0)
  | i + 1 => (Rang.stepT (putR (lkR bit i).1 (lkP bit i) bit) (putR (lkR bit i).1 (lkP bit i) bit), Rang.stepK (putR (lkR bit i).1 (lkP bit i) bit) (lkR bit i).2)

theorem lkP_ok (bit : Bool) : ∀ i, 31 ≤ lkP bit i ∧ lkP bit i ≤ 2017
  | 0 => by simp [lkP]
  | i + 1 => after_ok (lkP_ok bit i) bit

theorem lkP_side : ∀ i, 1056 ≤ lkP false (i + 1) ∧ lkP true (i + 1) ≤ 992
  | 0 => by simp [lkP, after]
  | i + 1 => by
    have h := lkP_side i
    have e1 : lkP false (i + 1 + 1) = after (lkP false (i + 1)) false := rfl
    have e2 : lkP true (i + 1 + 1) = after (lkP true (i + 1)) true := rfl
    rw [e1, e2]
    unfold after
    simp
    omega

theorem lkC_wide (bit : Bool) : ∀ i, ∃ T, Wide (lkC bit i) T (lkR bit i).2 ∧ (lkC bit i).rng = (lkR bit i).1
  | 0 => ⟨0, wide0, rfl⟩
  | i + 1 => by
    obtain ⟨T, h1, h2⟩ := lkC_wide bit i
    have h3 := put_wide h1 (lkP_ok bit i) bit
    rw [h2] at h3
    exact ⟨_, h3.1, h3.2⟩

/-- step by step, with what is reckoned handed on: all is within the bound -/
def lkTry (bit : Bool) : Nat → Nat → Nat → Nat → Nat → Bool
  | 0, _, _, _, _ => true
  | f + 1, i, r, p, k => Nat.ble k (20 + i / 128) && (let R := putR r p bit; lkTry bit f (i + 1) (Rang.stepT R R) (after p bit) (Rang.stepK R k))

theorem lkTry_ok (bit : Bool) : ∀ f i, lkTry bit f i (lkR bit i).1 (lkP bit i) (lkR bit i).2 = true → ∀ j, j < f → (lkR bit (i + j)).2 ≤ 20 + (i + j) / 128
  | 0, i, _, j, hj => by omega
  | f + 1, i, h, j, hj => by
    simp only [lkTry, Bool.and_eq_true, Nat.ble_eq] at h
    cases j with
    | zero => exact h.1
    | succ j =>
      have := lkTry_ok bit f (i + 1) h.2 j (by omega)
      rw [show i + 1 + j = i + (j + 1) by omega] at this
      exact this

theorem lk_all (bit : Bool) : lkTry bit 3000 0 4294967295 1024 0 = true := by
  cases bit <;> decide +kernel

theorem lk_few (bit : Bool) (n : Nat) (hn : n < 3000) : (lkR bit n).2 ≤ 20 + n / 128 := by
  have := lkTry_ok bit 3000 0 (lk_all bit) n hn
  simpa using this
end Go.Proofs.Ytbolhbjipmndeaa.D
