/- A piece that stood ahead, laid in parts. It names no program. -/
import Derived.Test.YtppbnodgnphaaaaInflC
namespace Go.Proofs.Ytppbnodgnphaaaa.Infl
set_option linter.unusedVariables false


theorem cp_add (d a : Nat) (P : List Nat) : ∀ b, cp d (a + b) P = cp d b (cp d a P)
  | 0 => rfl
  | b + 1 => by rw [← Nat.add_assoc, cp, cp, cp_add d a P b]

theorem getD_app_left (A B : List Nat) (i : Nat) (h : i < A.length) : (A ++ B).getD i 0 = A.getD i 0 := by
  simp only [List.getD_eq_getElem?_getD]
  rw [List.getElem?_append_left h]

theorem getD_app_right (A B : List Nat) (i : Nat) : (A ++ B).getD (A.length + i) 0 = B.getD i 0 := by
  simp only [List.getD_eq_getElem?_getD]
  rw [List.getElem?_append_right (by omega), Nat.add_sub_cancel_left]

theorem cp_old (d : Nat) (P : List Nat) : ∀ k i, i < P.length → (cp d k P).getD i 0 = P.getD i 0
  | 0, _, _ => rfl
  | k + 1, i, h => by
    rw [cp, getD_app_left _ _ _ (by rw [cp_length]; omega)]
    exact cp_old d P k i h

theorem mod_less {k d : Nat} (h : d ≤ k) : (k - d) % d = k % d := by
  conv => rhs; rw [show k = (k - d) + d by omega]
  rw [Nat.add_mod_right]

/-- what a piece's bytes are -/
theorem cp_new {d : Nat} {P : List Nat} (hd : 1 ≤ d) (hp : d ≤ P.length) : ∀ k i, i < k → (cp d k P).getD (P.length + i) 0 = P.getD (P.length - d + i % d) 0
  | 0, _, h => by omega
  | k + 1, i, h => by
    by_cases e : i = k
    · subst e
      have h1 : (cp d i P).length = P.length + i := cp_length d P i
      rw [cp, ← h1, show (cp d i P).length = (cp d i P).length + 0 from rfl, getD_app_right]
      show (cp d i P).getD ((cp d i P).length - d) 0 = _
      rw [h1]
      by_cases hk : i < d
      · rw [show P.length + i - d = P.length - d + i by omega, cp_old d P i _ (by omega), Nat.mod_eq_of_lt hk]
      · rw [show P.length + i - d = P.length + (i - d) by omega, cp_new hd hp i (i - d) (by omega), mod_less (by omega)]
    · rw [cp, getD_app_left _ _ _ (by rw [cp_length]; omega)]
      exact cp_new hd hp k i (by omega)

/-- all from d bytes ahead on comes again and again -/
theorem cp_per {d : Nat} {P : List Nat} (hd : 1 ≤ d) (hp : d ≤ P.length) (k i : Nat) (h : i < d + k) : (cp d k P).getD (P.length - d + i) 0 = P.getD (P.length - d + i % d) 0 := by
  by_cases hi : i < d
  · rw [cp_old d P k _ (by omega), Nat.mod_eq_of_lt hi]
  · rw [show P.length - d + i = P.length + (i - d) by omega, cp_new hd hp k (i - d) (by omega), mod_less (by omega)]

theorem list_eq {A B : List Nat} (h : A.length = B.length) (h2 : ∀ i, i < A.length → A.getD i 0 = B.getD i 0) : A = B := by
  apply List.ext_getElem h
  intro i h1 h3
  have := h2 i h1
  simpa [h1, h3] using this

theorem slice_get (P : List Nat) (f n i : Nat) (h : i < n) : ((P.drop f).take n).getD i 0 = P.getD (f + i) 0 := by
  simp only [List.getD_eq_getElem?_getD]
  rw [List.getElem?_take, if_pos h, List.getElem?_drop]

/-- a piece at once, if it is what it would be byte by byte -/
theorem cp_block {d k : Nat} {P B : List Nat} (hd : 1 ≤ d) (hp : d ≤ P.length) (hb : B.length = k) (h : ∀ i, i < k → B.getD i 0 = P.getD (P.length - d + i % d) 0) : cp d k P = P ++ B := by
  refine list_eq (by rw [cp_length, List.length_append, hb]) fun i hi => ?_
  rw [cp_length] at hi
  by_cases hl : i < P.length
  · rw [cp_old d P k i hl, getD_app_left _ _ _ hl]
  · rw [show i = P.length + (i - P.length) by omega, cp_new hd hp k _ (by omega), getD_app_right, h _ (by omega)]

/-- no more than d bytes at once -/
theorem cp_short {d k : Nat} {P : List Nat} (hd : 1 ≤ d) (hp : d ≤ P.length) (hk : k ≤ d) : cp d k P = P ++ (P.drop (P.length - d)).take k := by
  refine cp_block hd hp (by simp; omega) fun i hi => ?_
  rw [slice_get _ _ _ _ hi, Nat.mod_eq_of_lt (by omega)]

/-- as much at once as is there of it -/
theorem cp_long {d j k : Nat} {P : List Nat} (hd : 1 ≤ d) (hp : d ≤ P.length) (hj : j % d = 0) (hk : k ≤ d + j) : cp d (j + k) P = cp d j P ++ ((cp d j P).drop (P.length - d)).take k := by
  rw [cp_add]
  have hl := cp_length d P j
  refine cp_block hd (by omega) (by simp; omega) fun i hi => ?_
  have hm : i % d < d := Nat.mod_lt _ hd
  rw [slice_get _ _ _ _ hi, cp_per hd hp j i (by omega), hl, show P.length + j - d + i % d = P.length - d + (j + i % d) by omega, cp_per hd hp j (j + i % d) (by omega), Nat.add_mod, hj, Nat.zero_add, Nat.mod_mod, Nat.mod_mod]


end Go.Proofs.Ytppbnodgnphaaaa.Infl
