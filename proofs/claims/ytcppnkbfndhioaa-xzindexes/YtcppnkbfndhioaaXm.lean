/- What the document's ReadIndex tells. -/
import Derived.Test.YtcppnkbfndhioaaXl
namespace Go.Proofs.Ytcppnkbfndhioaa
open Go.RowKit
set_option maxRecDepth 100000
set_option linter.unusedVariables false
attribute [local go_sem ↓] Go.wp_at_zero Go.wp_at_succ

/-- what is told behind the records -/
def tailF (zs : List Nat) (H : List (Int × Int) × Nat × Nat) : List (Int × Int) × Nat × Nat :=
  if H.2.1 ≠ 0 then ([], 0, H.2.1)
  else if (fillGo zs (lack H.2.2) H.2.2).1 ≠ 0 then ([], 0, (fillGo zs (lack H.2.2) H.2.2).1)
  else if (sumF zs (fillGo zs (lack H.2.2) H.2.2).2).1 ≠ 0 then ([], 0, (sumF zs (fillGo zs (lack H.2.2) H.2.2).2).1)
  else (H.1, (sumF zs (fillGo zs (lack H.2.2) H.2.2).2).2, 0)

theorem riF_tail (zs : List Nat) : riF zs = tailF zs (headF zs) := rfl
theorem tail_err {zs : List Nat} {rs : List (Int × Int)} {x q : Nat} (h : x ≠ 0) : tailF zs (rs, x, q) = ([], 0, x) := by rw [tailF, if_pos h]

theorem head_empty {zs : List Nat} (h : zs.length = 0) : riF zs = ([], 0, 10) := by
  have e : zs = [] := List.length_eq_zero_iff.1 h
  subst e
  rfl

theorem exp_one {zs : List Nat} {p : Nat} (hp : p < zs.length) : expF zs p [0] 11 = if zs.getD p 0 = 0 then (0, p + 1) else (11, p + 1) := by
  unfold expF
  have e : (zs.drop p).take 1 = [zs.getD p 0] := by
    rw [List.take_one, List.head?_drop]
    simp [List.getD_eq_getElem?_getD, hp]
  rw [if_neg (by rw [List.length_singleton]; omega)]
  show (if List.take 1 (List.drop p zs) = [0] then _ else _) = _
  rw [e]
  simp

theorem exp_end {zs : List Nat} {p : Nat} (hp : zs.length ≤ p) : expF zs p [0] 11 = (10, p) := by
  unfold expF
  rw [if_pos (by rw [List.length_singleton]; omega)]

theorem head_form {zs : List Nat} (h : 0 < zs.length) (h0 : zs.getD 0 0 ≠ 0) : riF zs = ([], 0, 11) := by
  rw [riF_tail, headF, exp_one h, if_neg h0, if_pos (by simp)]
  exact tail_err (by simp)

theorem head_var {zs : List Nat} (h : 0 < zs.length) (h0 : zs.getD 0 0 = 0) {n q x : Nat} (hv : N.varAll zs 1 = (n, q, x)) : riF zs = if x ≠ 0 then ([], 0, x) else if 65536 < n then ([], 0, 11) else tailF zs (recsGo zs n q []) := by
  rw [riF_tail, headF, exp_one h, if_pos h0, if_neg (by simp)]
  have hl : longF zs 1 = if x = 0 then (n, 0, q) else (0, x, 1) := by unfold longF; rw [show ((1 : Nat) : Int) = 1 from rfl] ; rw [hv]
  rw [hl]
  by_cases hx : x = 0
  · subst hx
    by_cases hn : 65536 < n
    · simp only [ne_eq, not_true_eq_false, ↓reduceIte, hn]
      exact tail_err (by simp)
    · simp only [ne_eq, not_true_eq_false, ↓reduceIte, hn]
  · simp only [ne_eq, ↓reduceIte, hx, not_false_eq_true]
    exact tail_err hx

/-- a round of the document's -/
theorem recs_round {zs : List Nat} {k q : Nat} {rs : List (Int × Int)} {s q1 x : Nat} (hv : N.varAll zs q = (s, q1, x)) :
    recsGo zs (k + 1) q rs = if x ≠ 0 then ([], x, q) else if (N.varAll zs q1).2.2 ≠ 0 then ([], (N.varAll zs q1).2.2, q1) else if may (s : Int) ((N.varAll zs q1).1 : Int) = true then recsGo zs k (N.varAll zs q1).2.1 (rs ++ [((s : Int), ((N.varAll zs q1).1 : Int))]) else ([], 11, (N.varAll zs q1).2.1) := by
  have hl : longF zs q = if x = 0 then (s, 0, q1) else (0, x, q) := by unfold longF; rw [hv]
  have hl2 : longF zs q1 = if (N.varAll zs q1).2.2 = 0 then ((N.varAll zs q1).1, 0, (N.varAll zs q1).2.1) else (0, (N.varAll zs q1).2.2, q1) := rfl
  rw [recsGo, recF_def, hl]
  by_cases hx : x = 0
  · subst hx
    simp only [ne_eq, not_true_eq_false, ↓reduceIte]
    rw [hl2]
    by_cases hy : (N.varAll zs q1).2.2 = 0
    · simp only [hy, not_true_eq_false, ↓reduceIte]
      by_cases hm : may (s : Int) ((N.varAll zs q1).1 : Int) = true
      · simp only [hm, ↓reduceIte]
      · rw [Bool.not_eq_true] at hm
        simp [hm]
    · simp only [hy, not_false_eq_true, ↓reduceIte]
  · simp only [ne_eq, hx, not_false_eq_true, ↓reduceIte]

end Go.Proofs.Ytcppnkbfndhioaa
