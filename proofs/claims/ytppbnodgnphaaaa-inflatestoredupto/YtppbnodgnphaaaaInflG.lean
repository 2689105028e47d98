/- What is got by a code hangs on the bits that are read alone. It names no program. Made ahead for stage 7 (W ls, Bg ls: stage 4's Wrd ls ls.length, Beg ls ls.length of a good code; kf: its kf). -/
import Derived.Test.YtppbnodgnphaaaaInflM
namespace Go.Proofs.Ytppbnodgnphaaaa.Infl
set_option linter.unusedVariables false

/-- the first n bits, behind a 1 -/
def kf (f : Nat → Bool) : Nat → Nat
  | 0 => 1
  | n + 1 => 2 * kf f n + (f n).toNat

theorem kf_same {f h : Nat → Bool} : ∀ n, (∀ i, i < n → h i = f i) → kf h n = kf f n
  | 0, _ => rfl
  | n + 1, e => by rw [kf, kf, kf_same n (fun i hi => e i (by omega)), e n (by omega)]

/-- what is got of m bits: W s k: k is s's word; B k: k is a word's beginning -/
def GetP (W : Nat → Nat → Prop) (B : Nat → Prop) (f : Nat → Bool) (m s n e : Nat) : Prop :=
  n ≤ m ∧ (∀ j, 1 ≤ j → j < n → B (kf f j) ∧ ∀ i, ¬ W i (kf f j)) ∧
  ((e = 0 ∧ 1 ≤ n ∧ W s (kf f n)) ∨ (e = 11 ∧ s = 0 ∧ 1 ≤ n ∧ ¬ B (kf f n)) ∨ (e = 10 ∧ s = 0 ∧ n = m ∧ (1 ≤ n → B (kf f n) ∧ ∀ i, ¬ W i (kf f n))))

variable {W : Nat → Nat → Prop} {B : Nat → Prop}

theorem GetP.has (W : Nat → Nat → Prop) (B : Nat → Prop) (f : Nat → Bool) : ∀ m, ∃ s n e, GetP W B f m s n e := by
  have key : ∀ d m n, m - n = d → n ≤ m → (∀ j, 1 ≤ j → j ≤ n → B (kf f j) ∧ ∀ i, ¬ W i (kf f j)) → ∃ s n e, GetP W B f m s n e := by
    intro d
    induction d with
    | zero =>
      intro m n hd hn h
      have e : n = m := by omega
      subst e
      exact ⟨0, n, 10, Nat.le_refl _, fun j h1 h2 => h j h1 (by omega), .inr (.inr ⟨rfl, rfl, rfl, fun h1 => h n h1 (Nat.le_refl _)⟩)⟩
    | succ d ih =>
      intro m n hd hn h
      by_cases hw : ∃ s, W s (kf f (n + 1))
      · obtain ⟨s, hw⟩ := hw
        exact ⟨s, n + 1, 0, by omega, fun j h1 h2 => h j h1 (by omega), .inl ⟨rfl, by omega, hw⟩⟩
      · by_cases hb : B (kf f (n + 1))
        · refine ih m (n + 1) (by omega) (by omega) (fun j h1 h2 => ?_)
          by_cases e : j = n + 1
          · subst e; exact ⟨hb, fun i hi => hw ⟨i, hi⟩⟩
          · exact h j h1 (by omega)
        · exact ⟨0, n + 1, 11, by omega, fun j h1 h2 => h j h1 (by omega), .inr (.inl ⟨rfl, rfl, by omega, hb⟩)⟩
  exact fun m => key (m - 0) m 0 rfl (Nat.zero_le _) (fun j h1 h2 => by omega)

theorem GetP.stop (hwb : ∀ s k, W s k → B k) {f : Nat → Bool} {m s n e s' n' e' : Nat} (h : GetP W B f m s n e) (h' : GetP W B f m s' n' e') : ¬ n < n' := by
  intro hlt
  obtain ⟨h1, _, h3⟩ := h
  obtain ⟨k1, k2, _⟩ := h'
  rcases h3 with ⟨_, hn, hw⟩ | ⟨_, _, hn, hb⟩ | ⟨_, _, hn, _⟩
  · exact (k2 n hn hlt).2 _ hw
  · exact hb (k2 n hn hlt).1
  · omega

theorem GetP.one (hone : ∀ s s' k, W s k → W s' k → s = s') (hwb : ∀ s k, W s k → B k) {f : Nat → Bool} {m s n e s' n' e' : Nat} (h : GetP W B f m s n e) (h' : GetP W B f m s' n' e') : s = s' ∧ n = n' ∧ e = e' := by
  have hn : n = n' := by have := h.stop hwb h'; have := h'.stop hwb h; omega
  subst hn
  have r := h.2.2
  have r' := h'.2.2
  rcases r with ⟨rfl, q1, q2⟩ | ⟨rfl, rfl, q1, q2⟩ | ⟨rfl, rfl, q1, q2⟩ <;> rcases r' with ⟨rfl, p1, p2⟩ | ⟨rfl, rfl, p1, p2⟩ | ⟨rfl, rfl, p1, p2⟩
  · exact ⟨hone _ _ _ q2 p2, rfl, rfl⟩
  · exact absurd (hwb _ _ q2) p2
  · exact absurd q2 ((p2 q1).2 _)
  · exact absurd (hwb _ _ p2) q2
  · exact ⟨rfl, rfl, rfl⟩
  · exact absurd (p2 q1).1 q2
  · exact absurd p2 ((q2 p1).2 _)
  · exact absurd (q2 p1).1 p2
  · exact ⟨rfl, rfl, rfl⟩

theorem GetP.ext {f f' : Nat → Bool} {m m' s n e : Nat} (h : GetP W B f m s n e) (he : e ≠ 10) (hm : n ≤ m') (ha : ∀ i, i < n → f' i = f i) : GetP W B f' m' s n e := by
  obtain ⟨h1, h2, h3⟩ := h
  have k : ∀ j, j ≤ n → kf f' j = kf f j := fun j hj => kf_same j (fun i hi => ha i (by omega))
  refine ⟨hm, fun j j1 j2 => by rw [k j (by omega)]; exact h2 j j1 j2, ?_⟩
  rw [k n (Nat.le_refl _)]
  rcases h3 with h | h | ⟨e10, _⟩
  · exact .inl h
  · exact .inr (.inl h)
  · exact absurd e10 he

theorem GetP.cut {f f' : Nat → Bool} {m m' s n : Nat} (h : GetP W B f m s n 0) (hm : m' < n) (ha : ∀ i, i < m' → f' i = f i) : GetP W B f' m' 0 m' 10 := by
  obtain ⟨h1, h2, h3⟩ := h
  have k : ∀ j, j ≤ m' → kf f' j = kf f j := fun j hj => kf_same j (fun i hi => ha i (by omega))
  exact ⟨Nat.le_refl _, fun j j1 j2 => by rw [k j (by omega)]; exact h2 j j1 (by omega), .inr (.inr ⟨rfl, rfl, rfl, fun m1 => by rw [k m' (Nat.le_refl _)]; exact h2 m' m1 hm⟩)⟩

/-- a code is good: a word is one symbol's, and a beginning of one -/
structure CP (good : List Nat → Prop) (W : List Nat → Nat → Nat → Prop) (B : List Nat → Nat → Prop) : Prop where
  one : ∀ ls, good ls → ∀ s s' k, W ls s k → W ls s' k → s = s'
  beg : ∀ ls, good ls → ∀ s k, W ls s k → B ls k

open Classical in
/-- what is got, as a function -/
noncomputable def gof (good : List Nat → Prop) (W : List Nat → Nat → Nat → Prop) (B : List Nat → Nat → Prop) (ls : List Nat) (f : Nat → Bool) (m : Nat) : Nat × Nat × Nat :=
  if h : good ls then (choose (GetP.has (W ls) (B ls) f m), choose (choose_spec (GetP.has (W ls) (B ls) f m)), choose (choose_spec (choose_spec (GetP.has (W ls) (B ls) f m)))) else (0, 0, 11)

theorem gof_is {good : List Nat → Prop} {W : List Nat → Nat → Nat → Prop} {B : List Nat → Nat → Prop} {ls : List Nat} (h : good ls) (f : Nat → Bool) (m : Nat) : GetP (W ls) (B ls) f m (gof good W B ls f m).1 (gof good W B ls f m).2.1 (gof good W B ls f m).2.2 := by
  unfold gof
  rw [dif_pos h]
  exact Classical.choose_spec (Classical.choose_spec (Classical.choose_spec (GetP.has (W ls) (B ls) f m)))

theorem gof_eq {good : List Nat → Prop} {W : List Nat → Nat → Nat → Prop} {B : List Nat → Nat → Prop} (hc : CP good W B) {ls : List Nat} (h : good ls) {f : Nat → Bool} {m s n e : Nat} (hp : GetP (W ls) (B ls) f m s n e) : gof good W B ls f m = (s, n, e) := by
  obtain ⟨h1, h2, h3⟩ := (gof_is (W := W) (B := B) h f m).one (hc.one ls h) (hc.beg ls h) hp
  exact Prod.ext h1 (Prod.ext h2 h3)

theorem gof_gl {good : List Nat → Prop} {W : List Nat → Nat → Nat → Prop} {B : List Nat → Nat → Prop} (hc : CP good W B) : GL (gof good W B) := by
  refine ⟨fun ls f m s n e h => ?_, fun ls f m s n f' m' h hm ha => ?_, fun ls f m s n f' m' h hm ha => ?_, fun ls f m s n e f' m' h he hm ha => ?_⟩
  · by_cases hg : good ls
    · have := (gof_is (W := W) (B := B) hg f m).1
      rw [h] at this
      exact this
    · unfold gof at h
      rw [dif_neg hg] at h
      simp only [Prod.mk.injEq] at h
      omega
  · by_cases hg : good ls
    · have h1 := gof_is (W := W) (B := B) hg f m
      rw [h] at h1
      exact gof_eq hc hg (GetP.ext (e := 0) h1 (by decide) hm ha)
    · unfold gof at h
      rw [dif_neg hg] at h
      simp only [Prod.mk.injEq] at h
      omega
  · by_cases hg : good ls
    · have h1 := gof_is (W := W) (B := B) hg f m
      rw [h] at h1
      rw [gof_eq hc hg (GetP.cut h1 hm ha)]
    · unfold gof at h
      rw [dif_neg hg] at h
      simp only [Prod.mk.injEq] at h
      omega
  · by_cases hg : good ls
    · have h1 := gof_is (W := W) (B := B) hg f m
      rw [h] at h1
      exact gof_eq hc hg (GetP.ext h1 he (by have := h1.1; simp only at this; omega) (fun i hi => ha i (by have := h1.1; simp only at this; omega)))
    · unfold gof at h ⊢
      rw [dif_neg hg] at h ⊢
      exact h

end Go.Proofs.Ytppbnodgnphaaaa.Infl
