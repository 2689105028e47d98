/- What is told of symbols, of less room, of an error, of a run at once. -/
import Derived.Test.YtgafabhhalhccaaTi
namespace Go.Proofs.Ytgafabhhalhccaa
open Go.RowKit Runs
set_option maxRecDepth 100000
set_option linter.unusedVariables false

theorem plcI_mono (n m : Int) : ∀ (ss : List Int) (run k : Nat) (out r : List Int), k ≤ 20 → plcI n m ss run k out = (r, 0) → out.length + run ≤ r.length ∧ r.length ≤ out.length + run + 1048576 * ss.length
  | [], run, k, out, r, hk, h => by
    rw [plcI] at h
    split at h <;> cases h
  | s :: l, run, k, out, r, hk, h => by
    rw [plcI] at h
    by_cases h1 : s = 0 ∨ s = 1
    · rw [if_pos h1] at h
      by_cases h2 : k = 20
      · rw [if_pos h2] at h; cases h
      · rw [if_neg h2] at h
        have h3 := plcI_mono n m l _ _ out r (by omega) h
        have h4 := (shift_ok s k h1 (by omega)).2
        simp only [List.length_cons]
        omega
    · rw [if_neg h1] at h
      by_cases h2 : m - (out.length : Int) < (run : Int)
      · rw [if_pos h2] at h; cases h
      · rw [if_neg h2] at h
        by_cases h3 : s < 0 ∨ n + 1 < s
        · rw [if_pos h3] at h; cases h
        · rw [if_neg h3] at h
          by_cases h4 : s = n + 1
          · rw [if_pos h4] at h
            by_cases h5 : l = []
            · rw [if_pos h5] at h
              cases h
              simp
            · rw [if_neg h5] at h; cases h
          · rw [if_neg h4] at h
            by_cases h5 : ((out.length + run : Nat) : Int) = m
            · rw [if_pos h5] at h; cases h
            · rw [if_neg h5] at h
              have h6 := plcI_mono n m l _ _ _ r (by omega) h
              simp only [List.length_append, List.length_replicate, List.length_cons, List.length_nil] at h6 ⊢
              omega

theorem plcI_less (n m m' : Int) : ∀ (ss : List Int) (run k : Nat) (out r : List Int), k ≤ 20 → plcI n m ss run k out = (r, 0) → (r.length : Int) ≤ m' → plcI n m' ss run k out = (r, 0)
  | [], run, k, out, r, hk, h, hm => by
    rw [plcI] at h
    split at h <;> cases h
  | s :: l, run, k, out, r, hk, h, hm => by
    have hmono := plcI_mono n m (s :: l) run k out r hk h
    rw [plcI] at h ⊢
    by_cases h1 : s = 0 ∨ s = 1
    · rw [if_pos h1] at h ⊢
      by_cases h2 : k = 20
      · rw [if_pos h2] at h; cases h
      · rw [if_neg h2] at h ⊢
        exact plcI_less n m m' l _ _ out r (by omega) h hm
    · rw [if_neg h1] at h ⊢
      by_cases h2 : m - (out.length : Int) < (run : Int)
      · rw [if_pos h2] at h; cases h
      · rw [if_neg h2] at h
        rw [if_neg (by omega)]
        by_cases h3 : s < 0 ∨ n + 1 < s
        · rw [if_pos h3] at h; cases h
        · rw [if_neg h3] at h ⊢
          by_cases h4 : s = n + 1
          · rw [if_pos h4] at h ⊢
            exact h
          · rw [if_neg h4] at h ⊢
            by_cases h5 : ((out.length + run : Nat) : Int) = m
            · rw [if_pos h5] at h; cases h
            · rw [if_neg h5] at h
              have h6 := plcI_mono n m l _ _ _ r (by omega) h
              simp only [List.length_append, List.length_replicate, List.length_cons, List.length_nil] at h6
              rw [if_neg (by omega)]
              exact plcI_less n m m' l _ _ _ r (by omega) h hm

theorem plcI_err (n m : Int) : ∀ (ss : List Int) (run k : Nat) (out : List Int), (plcI n m ss run k out).2 ≠ 0 → (plcI n m ss run k out).1 = []
  | [], run, k, out, h => by
    rw [plcI]
    split <;> rfl
  | s :: l, run, k, out, h => by
    rw [plcI] at h ⊢
    by_cases h1 : s = 0 ∨ s = 1
    · rw [if_pos h1] at h ⊢
      by_cases h2 : k = 20
      · rw [if_pos h2]
      · rw [if_neg h2] at h ⊢
        exact plcI_err n m l _ _ _ h
    · rw [if_neg h1] at h ⊢
      by_cases h2 : m - (out.length : Int) < (run : Int)
      · rw [if_pos h2]
      · rw [if_neg h2] at h ⊢
        by_cases h3 : s < 0 ∨ n + 1 < s
        · rw [if_pos h3]
        · rw [if_neg h3] at h ⊢
          by_cases h4 : s = n + 1
          · rw [if_pos h4] at h ⊢
            by_cases h5 : l = []
            · rw [if_pos h5] at h; exact absurd rfl h
            · rw [if_neg h5]
          · rw [if_neg h4] at h ⊢
            by_cases h5 : ((out.length + run : Nat) : Int) = m
            · rw [if_pos h5]
            · rw [if_neg h5] at h ⊢
              exact plcI_err n m l _ _ _ h

/-- of how many places 0 the first i symbols of a run are -/
def runW (ss : List Int) : Nat → Nat
  | 0 => 0
  | i + 1 => runW ss i + ((ss.getD i 0).toNat + 1) * 2 ^ i

/-- a run, at once -/
theorem plcI_run (n m : Int) (ss : List Int) (out : List Int) : ∀ j, j ≤ ss.length → j ≤ 20 → (∀ i, i < j → ss.getD i 0 = 0 ∨ ss.getD i 0 = 1) → plcI n m ss 0 0 out = plcI n m (ss.drop j) (runW ss j) j out
  | 0, _, _, _ => by rw [runW]; rfl
  | j + 1, h1, h2, h3 => by
    rw [plcI_run n m ss out j (by omega) (by omega) (fun i hi => h3 i (by omega)), dropI_cons (by omega), plcI, if_pos (h3 j (by omega)), if_neg (by omega), runW]

theorem plcI_21 (n m : Int) (ss : List Int) (out : List Int) (h1 : 21 ≤ ss.length) (h3 : ∀ i, i < 21 → ss.getD i 0 = 0 ∨ ss.getD i 0 = 1) : plcI n m ss 0 0 out = ([], 11) := by
  rw [plcI_run n m ss out 20 (by omega) (by omega) (fun i hi => h3 i (by omega)), dropI_cons (by omega), plcI, if_pos (h3 20 (by omega)), if_pos rfl]

theorem runW_le (ss : List Int) : ∀ j, j ≤ 20 → (∀ i, i < j → ss.getD i 0 = 0 ∨ ss.getD i 0 = 1) → runW ss j + 2 ≤ 2 * 2 ^ j
  | 0, _, _ => by rw [runW]; decide
  | j + 1, h1, h2 => by
    have h3 := runW_le ss j (by omega) (fun i hi => h2 i (by omega))
    have h4 : (ss.getD j 0).toNat + 1 ≤ 2 := by rcases h2 j (by omega) with h | h <;> rw [h] <;> decide
    have h5 : ((ss.getD j 0).toNat + 1) * 2 ^ j ≤ 2 * 2 ^ j := Nat.mul_le_mul_right _ h4
    rw [runW, Nat.pow_succ]
    omega

theorem runW_small (ss : List Int) (j : Nat) (h1 : j ≤ 20) (h2 : ∀ i, i < j → ss.getD i 0 = 0 ∨ ss.getD i 0 = 1) : runW ss j ≤ 4194304 := by
  have h3 := runW_le ss j h1 h2
  have h4 : 2 ^ j ≤ 2 ^ 20 := Nat.pow_le_pow_right (by omega) h1
  omega

theorem runW_take (ss : List Int) (k : Nat) (hk : k ≤ ss.length) : ∀ i, i ≤ k → runW (ss.take k) i = runW ss i
  | 0, _ => rfl
  | i + 1, h => by
    rw [runW, runW, runW_take ss k hk i (by omega), List.getD_eq_getElem?_getD, List.getD_eq_getElem?_getD, List.getElem?_take, if_pos (by omega)]

end Go.Proofs.Ytgafabhhalhccaa
