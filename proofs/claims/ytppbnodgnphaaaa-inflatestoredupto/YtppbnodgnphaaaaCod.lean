/- The codes that are told, in parts as the program reads them. It names no program. -/
import Derived.Test.YtppbnodgnphaaaaNw
namespace Go.Proofs.Ytppbnodgnphaaaa
open Infl
set_option linter.unusedVariables false

theorem bind_assoc {α β γ : Type} (r : Rd α) (k : α → Rd β) (m : β → Rd γ) : (r.bind k).bind m = r.bind fun x => (k x).bind m := by
  funext I p
  unfold Rd.bind
  cases r I p <;> rfl

theorem bind_pure {α β : Type} (x : α) (k : α → Rd β) : (Rd.pure x).bind k = k x := rfl
theorem bind_fail {α β : Type} (e : Nat) (k : α → Rd β) : (Rd.fail (α := α) e).bind k = Rd.fail e := rfl

theorem bind_ite {α β : Type} (c : Prop) [Decidable c] (r s : Rd α) (k : α → Rd β) : (if c then r else s).bind k = if c then r.bind k else s.bind k := by split <;> rfl

theorem bind_okE {α β : Type} (e : Nat) (r : Rd α) (k : α → Rd β) : (okE e r).bind k = okE e (r.bind k) := by
  unfold okE
  rw [bind_ite, bind_fail]

/-- how many lengths come -/
def cnt : Rd (Nat × Nat × Nat) := (Infl.get 5).bind fun l => (Infl.get 5).bind fun d => (Infl.get 4).bind fun k =>
  if 286 < l + 257 ∨ 30 < d + 1 then Rd.fail 11 else Rd.pure (l + 257, d + 1, k + 4)

/-- the code of lengths -/
noncomputable def inn (k : Nat) : Rd (List Nat) := (threes k []).bind fun vs => okE (ce (ownOf vs) 7 false) (Rd.pure (ownOf vs))

/-- both codes' lengths -/
noncomputable def cod : Rd (List Nat × List Nat) := cnt.bind fun c => (inn c.2.2).bind fun own => (lens gg own (c.1 + c.2.1) (c.1 + c.2.1) []).bind fun all =>
  if all.getD 256 0 = 0 then Rd.fail 11 else okE (ce (all.take c.1) 15 true) (okE (ce (all.drop c.1) 15 true) (Rd.pure (all.take c.1, all.drop c.1)))

theorem told_cod (most fuel : Nat) (out : List Nat) : told gg ce most fuel out = cod.bind fun c => toks gg c.1 c.2 most fuel out := by
  unfold told cod cnt inn
  simp only [bind_assoc, bind_ite, bind_fail, bind_pure, bind_okE]

/-- which length comes, and how many times -/
def stp (all : List Nat) (s : Nat) : Rd (Nat × Nat) :=
  if s = 16 then (Infl.get 2).bind fun x => if all = [] then Rd.fail 11 else Rd.pure (all.getD (all.length - 1) 0, 3 + x)
  else if s = 17 then (Infl.get 3).bind fun x => Rd.pure (0, 3 + x)
  else if s = 18 then (Infl.get 7).bind fun x => Rd.pure (0, 11 + x)
  else Rd.pure (s, 1)

theorem lens_stp (own : List Nat) (tot k : Nat) (all : List Nat) (h : ¬ tot ≤ all.length) : lens gg own tot (k + 1) all = (word gg own).bind fun s => (stp all s).bind fun a => if tot < all.length + a.2 then Rd.fail 11 else lens gg own tot k (all ++ List.replicate a.2 a.1) := by
  rw [lens, if_neg h]
  congr 1
  funext s
  unfold stp
  by_cases h16 : s = 16
  · simp only [if_pos h16, bind_assoc, bind_ite, bind_fail, bind_pure]
  · by_cases h17 : s = 17
    · simp only [if_neg h16, if_pos h17, bind_assoc, bind_pure]
    · by_cases h18 : s = 18
      · simp only [if_neg h16, if_neg h17, if_pos h18, bind_assoc, bind_pure]
      · simp only [if_neg h16, if_neg h17, if_neg h18, bind_pure]
        rw [if_neg (by omega)]
        rfl

theorem lens_done (own : List Nat) (tot k : Nat) (all : List Nat) (h : tot ≤ all.length) : lens gg own tot k all = Rd.pure all := by
  cases k with
  | zero => rw [lens, if_pos h]
  | succ k => rw [lens, if_pos h]

theorem order_idx : ∀ j, j < 19 → ∀ i, i < 19 → (order.idxOf j = i ↔ order.getD i 0 = j) := by decide
theorem order_lt : ∀ i, i < 19 → order.getD i 0 < 19 := by decide

/-- one length more of the code of lengths -/
theorem own_next (vs : List Nat) (x : Nat) (h : vs.length < 19) (j : Nat) (hj : j < 19) : (vs ++ [x]).getD (order.idxOf j) 0 = if j = order.getD vs.length 0 then x else vs.getD (order.idxOf j) 0 := by
  have hi := order_idx j hj vs.length h
  by_cases e : j = order.getD vs.length 0
  · rw [if_pos e, hi.2 e.symm, List.getD_eq_getElem?_getD, List.getElem?_append_right (Nat.le_refl _)]
    simp
  · rw [if_neg e]
    have hne : order.idxOf j ≠ vs.length := fun c => e (hi.1 c).symm
    rw [List.getD_eq_getElem?_getD, List.getD_eq_getElem?_getD]
    by_cases hl : order.idxOf j < vs.length
    · rw [List.getElem?_append_left hl]
    · rw [List.getElem?_eq_none (by simp; omega), List.getElem?_eq_none (by omega)]

theorem threes_next (k : Nat) (l : List Nat) (I : In) (p q x : Nat) (h : Infl.get 3 I p = .ok x q) : threes (k + 1) l I p = threes k (l ++ [x]) I q := by
  rw [threes, bind_of h]

theorem threes_bad (k : Nat) (l : List Nat) (I : In) (p e : Nat) (h : Infl.get 3 I p = .bad e) : threes (k + 1) l I p = .bad e := by
  rw [threes, bind_bad h]

theorem ownOf_length (vs : List Nat) : (ownOf vs).length = 19 := by simp [ownOf]

theorem ownOf_le (vs : List Nat) (h : ∀ v ∈ vs, v ≤ 7) : ∀ l ∈ ownOf vs, l ≤ 7 := by
  intro l hl
  unfold ownOf at hl
  rw [List.mem_map] at hl
  obtain ⟨j, _, rfl⟩ := hl
  rw [List.getD_eq_getElem?_getD]
  cases hg : vs[order.idxOf j]? with
  | none => simp
  | some a => exact h a (List.mem_of_getElem? hg)

end Go.Proofs.Ytppbnodgnphaaaa
