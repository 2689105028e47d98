/- Symbols: runs of places 0 by the symbols 0 and 1. -/
import Derived.Test.YtkmpbmeanaedmaaUn
namespace Go.Proofs.Ytkmpbmeanaedmaa
open Go.RowKit Runs
set_option maxRecDepth 100000
set_option linter.unusedVariables false
attribute [local go_sem ↓] Go.wp_at_zero Go.wp_at_succ

def digitsI (k : Nat) : List Int := (digits k).map fun d : Nat => (d : Int)

theorem digitsI_zero : digitsI 0 = [] := by simp [digitsI, digits]
theorem digitsI_odd (k : Nat) : digitsI (2 * k + 1) = 0 :: digitsI k := by
  unfold digitsI
  rw [digits, show 2 * k % 2 = 0 by omega, show 2 * k / 2 = k by omega]
  rfl
theorem digitsI_even (k : Nat) : digitsI (2 * k + 2) = 1 :: digitsI k := by
  unfold digitsI
  rw [show 2 * k + 2 = (2 * k + 1) + 1 by omega, digits, show (2 * k + 1) % 2 = 1 by omega, show (2 * k + 1) / 2 = k by omega]
  rfl
theorem digitsI_len : ∀ k, (digitsI k).length ≤ k := by
  intro k
  induction k using Nat.strongRecOn with
  | ind k ih =>
    cases k with
    | zero => simp [digitsI_zero]
    | succ k =>
      unfold digitsI
      rw [digits]
      have := ih (k / 2) (by omega)
      unfold digitsI at this
      simp at this ⊢
      omega

/-- places, one by one: the run so far, what has come out -/
def symI (n : Int) : List Int → Nat → List Int → List Int × Nat
  | [], run, out => (out ++ digitsI run ++ [n + 1], 0)
  | p :: r, run, out => if p < 0 ∨ n ≤ p then ([], 2) else if p = 0 then symI n r (run + 1) out else symI n r 0 (out ++ digitsI run ++ [p + 1])

def symOut (ps : List Int) (n : Int) : List Int × Nat := if n < 1 ∨ 256 < n then ([], 2) else symI n ps 0 []

theorem symI_sym (n : Nat) : ∀ (ps : List Nat) (run : Nat) (out : List Int), (∀ p ∈ ps, p < n) → symI n (ps.map fun p : Nat => (p : Int)) run out = (out ++ (symG n ps run).map (fun d : Nat => (d : Int)), 0)
  | [], run, out, _ => by simp [symI, symG, digitsI]
  | p :: r, run, out, h => by
    have hp := h p (List.mem_cons_self ..)
    rw [List.map_cons, symI, if_neg (by omega), symG]
    by_cases e : p = 0
    · rw [if_pos (by omega), if_pos e, symI_sym n r (run + 1) out fun x hx => h x (List.mem_cons_of_mem _ hx)]
    · rw [if_neg (by omega), if_neg e, symI_sym n r 0 _ fun x hx => h x (List.mem_cons_of_mem _ hx)]
      simp [digitsI]

def IntsIn (w : World) (a0 : Option Addr) (l : List Int) : Prop := ∀ j, j < l.length → ∃ g off, a0 = some ⟨g, off, none⟩ ∧ w.cell? ⟨g, off + j, none⟩ = some (.int .i64 (l.getD j 0))

theorem dropI_cons {b : List Int} {i : Nat} (h : i < b.length) : b.drop i = b.getD i 0 :: b.drop (i + 1) := by
  rw [List.drop_eq_getElem_cons h, List.getD_eq_getElem?_getD, List.getElem?_eq_getElem h]
  rfl

def ToldI (w : World) (out : List Int × Nat) (e : Ending) (w' : World) : Prop := ∃ v, e = .returned (.tuple #[v, .int .i64 (out.2 : Int)]) ∧ St w w' v (out.1.map iv)

theorem St.none (w w' : World) (h : Below w.heap.size w w') : St w w' (.slice none 0 0) [] := ⟨World.ownsRow_nil _ _ _ _, h⟩

end Go.Proofs.Ytkmpbmeanaedmaa
