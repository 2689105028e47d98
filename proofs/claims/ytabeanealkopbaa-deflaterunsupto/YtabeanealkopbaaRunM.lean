/- Runs and what is left out at the end (chapter 8). It names no program. Made ahead for stage 8. -/
import Derived.KernelRfl
namespace Go.Proofs.Ytabeanealkopbaa.Defl
set_option linter.unusedVariables false

/-- how many like it stand there -/
def cntRun (v : Int) : List Int → Nat
  | [] => 0
  | x :: r => if x = v then 1 + cntRun v r else 0

theorem cntRun_le (v : Int) : ∀ l : List Int, cntRun v l ≤ l.length
  | [] => Nat.le_refl _
  | x :: r => by
    have := cntRun_le v r
    unfold cntRun
    split
    · simp; omega
    · simp

theorem cntRun_take (v : Int) : ∀ (l : List Int) (n : Nat), n ≤ cntRun v l → l.take n = List.replicate n v
  | l, 0, _ => by simp
  | [], n + 1, h => by simp [cntRun] at h
  | x :: r, n + 1, h => by
    unfold cntRun at h
    by_cases e : x = v
    · rw [if_pos e] at h
      rw [List.take_succ_cons, List.replicate_succ, cntRun_take v r n (by omega), e]
    · rw [if_neg e] at h
      omega

/-- a step at a place: the symbol, what goes with it, how many are gone on -/
def stepR (l : List Int) (a : Nat) : Int × Nat × Nat :=
  if l.getD a 0 = 0 ∧ 11 ≤ cntRun (l.getD a 0) (l.drop a) then (18, min (cntRun (l.getD a 0) (l.drop a)) 138 - 11, min (cntRun (l.getD a 0) (l.drop a)) 138)
  else if l.getD a 0 = 0 ∧ 3 ≤ cntRun (l.getD a 0) (l.drop a) then (17, cntRun (l.getD a 0) (l.drop a) - 3, cntRun (l.getD a 0) (l.drop a))
  else if 0 < l.getD a 0 ∧ 0 < a ∧ l.getD (a - 1) 0 = l.getD a 0 ∧ 3 ≤ cntRun (l.getD a 0) (l.drop a) then (16, min (cntRun (l.getD a 0) (l.drop a)) 6 - 3, min (cntRun (l.getD a 0) (l.drop a)) 6)
  else (l.getD a 0, 0, 1)

/-- from a place on -/
def runsF (l : List Int) : Nat → Nat → List (Int × Nat)
  | 0, _ => []
  | k + 1, a => if a < l.length then ((stepR l a).1, (stepR l a).2.1) :: runsF l k (a + (stepR l a).2.2) else []

def runsL (l : List Int) : List (Int × Nat) := runsF l l.length 0

def nn (r : Int × Nat) : Nat × Nat := (r.1.toNat, r.2)

theorem cnt_pos (l : List Int) (a : Nat) (h : a < l.length) : 1 ≤ cntRun (l.getD a 0) (l.drop a) := by
  rw [List.getD_eq_getElem?_getD, List.getElem?_eq_getElem h, List.drop_eq_getElem_cons h]
  unfold cntRun
  rw [if_pos (by simp)]
  omega

/-- a step is of how many stand there, at least one -/
theorem stepR_n (l : List Int) (a : Nat) (h : a < l.length) : 1 ≤ (stepR l a).2.2 ∧ (stepR l a).2.2 ≤ cntRun (l.getD a 0) (l.drop a) := by
  have h1 := cnt_pos l a h
  unfold stepR
  split
  · exact ⟨by simp only; omega, by simp only; omega⟩
  · split
    · exact ⟨by simp only; omega, by simp only; omega⟩
    · split
      · exact ⟨by simp only; omega, by simp only; omega⟩
      · exact ⟨by simp only; omega, by simp only; omega⟩

theorem take_step (l : List Int) (a n : Nat) (h : n ≤ cntRun (l.getD a 0) (l.drop a)) : l.take (a + n) = l.take a ++ List.replicate n (l.getD a 0) := by
  rw [List.take_add, cntRun_take _ _ n h]

/-- without what is 0 at the end, but at least n stay -/
def trim (n : Nat) : Nat → List Nat → List Nat
  | 0, l => l
  | k + 1, l => if n < l.length ∧ l.getD (l.length - 1) 0 = 0 then trim n k (l.take (l.length - 1)) else l

theorem trim_is (n : Nat) : ∀ (k : Nat) (l : List Nat), n ≤ l.length → n ≤ (trim n k l).length ∧ (trim n k l).length ≤ l.length ∧ ∀ i, (trim n k l).getD i 0 = l.getD i 0
  | 0, l, h => ⟨h, Nat.le_refl _, fun _ => rfl⟩
  | k + 1, l, h => by
    unfold trim
    by_cases c : n < l.length ∧ l.getD (l.length - 1) 0 = 0
    · rw [if_pos c]
      have hl : (l.take (l.length - 1)).length = l.length - 1 := by rw [List.length_take]; omega
      obtain ⟨i1, i2, i3⟩ := trim_is n k (l.take (l.length - 1)) (by omega)
      refine ⟨i1, by omega, fun i => ?_⟩
      rw [i3 i, List.getD_eq_getElem?_getD, List.getElem?_take]
      by_cases e : i < l.length - 1
      · rw [if_pos e, List.getD_eq_getElem?_getD]
      · rw [if_neg e]
        by_cases e2 : i = l.length - 1
        · rw [e2, c.2]; rfl
        · rw [List.getD_eq_getElem?_getD, List.getElem?_eq_none (by omega)]
    · rw [if_neg c]
      exact ⟨h, Nat.le_refl _, fun _ => rfl⟩

theorem trim_mem (n : Nat) : ∀ (k : Nat) (l : List Nat) (x : Nat), x ∈ trim n k l → x ∈ l
  | 0, l, x, h => h
  | k + 1, l, x, h => by
    unfold trim at h
    split at h
    · exact List.mem_of_mem_take (trim_mem n k _ x h)
    · exact h

end Go.Proofs.Ytabeanealkopbaa.Defl
