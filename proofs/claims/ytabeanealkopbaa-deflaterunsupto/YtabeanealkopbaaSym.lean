/- A length's and a distance's symbol (chapter 8). It names no program. Made ahead for stage 8. -/
import Derived.Test.YtabeanealkopbaaInfl
namespace Go.Proofs.Ytabeanealkopbaa.Infl
set_option linter.unusedVariables false

/-- the greatest one, from so many down, whose least is not above n -/
def down (f : Nat → Nat) (n : Nat) : Nat → Nat
  | 0 => 0
  | s + 1 => if f (s + 1) ≤ n then s + 1 else down f n s

theorem down_le (f : Nat → Nat) (n : Nat) : ∀ s, down f n s ≤ s
  | 0 => Nat.le_refl _
  | s + 1 => by
    unfold down
    split
    · exact Nat.le_refl _
    · have := down_le f n s; omega

/-- it is not above n, and the next one is -/
theorem down_is (f : Nat → Nat) (n : Nat) (a : Nat) (ha : f a ≤ n) : ∀ s, a ≤ s → a ≤ down f n s ∧ f (down f n s) ≤ n ∧ ∀ t, down f n s < t → t ≤ s → n < f t
  | 0, h => by
    obtain rfl : a = 0 := by omega
    exact ⟨Nat.le_refl _, ha, fun t h1 h2 => by simp [down] at h1; omega⟩
  | s + 1, h => by
    unfold down
    by_cases hc : f (s + 1) ≤ n
    · rw [if_pos hc]
      exact ⟨h, hc, fun t h1 h2 => by omega⟩
    · rw [if_neg hc]
      have has : a ≤ s := by
        rcases Nat.lt_or_ge s a with h' | h'
        · obtain rfl : a = s + 1 := by omega
          exact absurd ha hc
        · exact h'
      obtain ⟨i1, i2, i3⟩ := down_is f n a ha s has
      refine ⟨i1, i2, fun t h1 h2 => ?_⟩
      by_cases e : t = s + 1
      · subst e; omega
      · exact i3 t h1 (by omega)

/-- a length's symbol -/
def symL (n : Nat) : Nat := down (fun s => (lenOf s).1) n 285
/-- a distance's symbol -/
def symD (d : Nat) : Nat := down (fun s => (distOf s).1) d 29

theorem len_next : ∀ i, i < 27 → (lenOf (257 + (i + 1))).1 = (lenOf (257 + i)).1 + 2 ^ (lenOf (257 + i)).2 := by decide
theorem dist_next : ∀ s, s < 29 → (distOf (s + 1)).1 = (distOf s).1 + 2 ^ (distOf s).2 := by decide

theorem symL_is (n : Nat) (h1 : 3 ≤ n) (h2 : n ≤ 258) : 257 ≤ symL n ∧ symL n ≤ 285 ∧ (lenOf (symL n)).1 ≤ n ∧ n - (lenOf (symL n)).1 < 2 ^ (lenOf (symL n)).2 := by
  obtain ⟨i1, i2, i3⟩ := down_is (fun s => (lenOf s).1) n 257 (by show (lenOf 257).1 ≤ n; have : (lenOf 257).1 = 3 := rfl; omega) 285 (by decide)
  have hle := down_le (fun s => (lenOf s).1) n 285
  refine ⟨i1, hle, i2, ?_⟩
  show n - (lenOf (down _ n 285)).1 < _
  unfold symL
  generalize hs : down (fun s => (lenOf s).1) n 285 = s at *
  by_cases e : s = 285
  · subst e
    have e1 : (lenOf 285).1 = 258 := rfl
    have e2 : (lenOf 285).2 = 0 := rfl
    rw [e1, e2]; simp; omega
  · have h3 := i3 (s + 1) (by omega) (by omega)
    by_cases e4 : s = 284
    · subst e4
      have e1 : (lenOf 284).1 = 227 := rfl
      have e2 : (lenOf 284).2 = 5 := rfl
      have e3 : (lenOf 285).1 = 258 := rfl
      have h3' : n < (lenOf 285).1 := h3
      rw [e3] at h3'
      rw [e1, e2]; omega
    · have hn := len_next (s - 257) (by omega)
      rw [show 257 + (s - 257 + 1) = s + 1 from by omega, show 257 + (s - 257) = s from by omega] at hn
      have h3' : n < (lenOf (s + 1)).1 := h3
      have i2' : (lenOf s).1 ≤ n := i2
      omega

theorem symD_is (d : Nat) (h1 : 1 ≤ d) (h2 : d ≤ 32768) : symD d ≤ 29 ∧ (distOf (symD d)).1 ≤ d ∧ d - (distOf (symD d)).1 < 2 ^ (distOf (symD d)).2 := by
  obtain ⟨i1, i2, i3⟩ := down_is (fun s => (distOf s).1) d 0 (by show (distOf 0).1 ≤ d; have : (distOf 0).1 = 1 := rfl; omega) 29 (by decide)
  have hle := down_le (fun s => (distOf s).1) d 29
  refine ⟨hle, i2, ?_⟩
  unfold symD
  generalize hs : down (fun s => (distOf s).1) d 29 = s at *
  by_cases e : s = 29
  · subst e
    have e1 : (distOf 29).1 = 24577 := rfl
    have e2 : (distOf 29).2 = 13 := rfl
    rw [e1, e2]; omega
  · have h3 := i3 (s + 1) (by omega) (by omega)
    have hn := dist_next s (by omega)
    have h3' : d < (distOf (s + 1)).1 := h3
    have i2' : (distOf s).1 ≤ d := i2
    omega

end Go.Proofs.Ytabeanealkopbaa.Infl
