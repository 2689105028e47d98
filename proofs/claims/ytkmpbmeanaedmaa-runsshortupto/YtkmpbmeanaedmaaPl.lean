/- Places: symbols are read. -/
import Derived.Test.YtkmpbmeanaedmaaSy
namespace Go.Proofs.Ytkmpbmeanaedmaa
open Go.RowKit Runs
set_option maxRecDepth 100000
set_option linter.unusedVariables false
attribute [local go_sem ↓] Go.wp_at_zero Go.wp_at_succ

/-- symbols, one by one: the run so far, its symbols, what has come out -/
def plcI (n most : Int) : List Int → Nat → Nat → List Int → List Int × Nat
  | [], run, k, out => if most - (out.length : Int) < (run : Int) then ([], 3) else ([], 10)
  | s :: r, run, k, out =>
    if s = 0 ∨ s = 1 then (if k = 20 then ([], 11) else plcI n most r (run + (s.toNat + 1) * 2 ^ k) (k + 1) out)
    else if most - (out.length : Int) < (run : Int) then ([], 3)
    else if s < 0 ∨ n + 1 < s then ([], 11)
    else if s = n + 1 then (if r = [] then (out ++ List.replicate run 0, 0) else ([], 15))
    else if ((out.length + run : Nat) : Int) = most then ([], 3)
    else plcI n most r 0 0 (out ++ List.replicate run 0 ++ [s - 1])

def placesOut (ss : List Int) (n most : Int) : List Int × Nat := if n < 1 ∨ 256 < n ∨ most < 0 then ([], 2) else plcI n most ss 0 0 []

theorem plcI_plc (n most : Int) : ∀ (ss : List Int) (run k : Nat) (out : List Nat), plcI n most ss run k (out.map fun d : Nat => (d : Int)) = ((plc n most ss run k out).1.map (fun d : Nat => (d : Int)), (plc n most ss run k out).2)
  | [], run, k, out => by
    rw [plcI, plc, List.length_map]
    split <;> rfl
  | s :: r, run, k, out => by
    rw [plcI, plc, List.length_map]
    by_cases h1 : s = 0 ∨ s = 1
    · rw [if_pos h1, if_pos h1]
      by_cases h2 : k = 20
      · rw [if_pos h2, if_pos h2]; rfl
      · rw [if_neg h2, if_neg h2, plcI_plc n most r]
    · rw [if_neg h1, if_neg h1]
      by_cases h2 : most - (out.length : Int) < (run : Int)
      · rw [if_pos h2, if_pos h2]; rfl
      · rw [if_neg h2, if_neg h2]
        by_cases h3 : s < 0 ∨ n + 1 < s
        · rw [if_pos h3, if_pos h3]; rfl
        · rw [if_neg h3, if_neg h3]
          by_cases h4 : s = n + 1
          · rw [if_pos h4, if_pos h4]
            by_cases h5 : r = []
            · rw [if_pos h5, if_pos h5]; simp
            · rw [if_neg h5, if_neg h5]; rfl
          · rw [if_neg h4, if_neg h4]
            by_cases h5 : ((out.length + run : Nat) : Int) = most
            · rw [if_pos h5, if_pos h5]; rfl
            · rw [if_neg h5, if_neg h5, ← plcI_plc n most r]
              congr 1
              simp
              omega

theorem shift_ok (s : Int) (k : Nat) (hs : s = 0 ∨ s = 1) (hk : k < 20) : (s + 1) * 2 ^ k = (((s.toNat + 1) * 2 ^ k : Nat) : Int) ∧ (s.toNat + 1) * 2 ^ k ≤ 1048576 := by
  have h1 : 2 ^ k ≤ 2 ^ 19 := Nat.pow_le_pow_right (by omega) (by omega)
  rcases hs with rfl | rfl
  · simp; omega
  · simp; omega

end Go.Proofs.Ytkmpbmeanaedmaa
