/- What tokens make behind what others made. -/
import Derived.Test.YtabnfnejlffioaaTok
namespace Go.Proofs.Ytabnfnejlffioaa
set_option linter.unusedVariables false

theorem getD_tl (ta tb : List Tok) (j : Nat) (h : j < ta.length) : (ta ++ tb).getD j tz = ta.getD j tz := by
  simp only [List.getD_eq_getElem?_getD]
  rw [List.getElem?_append_left h]

theorem getD_tr (ta tb : List Tok) (j : Nat) : (ta ++ tb).getD (ta.length + j) tz = tb.getD j tz := by
  simp only [List.getD_eq_getElem?_getD]
  rw [List.getElem?_append_right (by omega), Nat.add_sub_cancel_left]

theorem tsum_left (ta tb : List Tok) : ∀ k, k ≤ ta.length → tsum (ta ++ tb) k = tsum ta k
  | 0, _ => rfl
  | k + 1, h => by rw [tsum, tsum, tsum_left ta tb k (by omega), getD_tl ta tb k (by omega)]

theorem tsum_right (ta tb : List Tok) : ∀ k, tsum (ta ++ tb) (ta.length + k) = tsum ta ta.length + tsum tb k
  | 0 => tsum_left ta tb _ (Nat.le_refl _)
  | k + 1 => by rw [← Nat.add_assoc, tsum, tsum, tsum_right ta tb k, getD_tr]; omega

theorem tsum_mono (ts : List Tok) {j k : Nat} (h : j ≤ k) : tsum ts j ≤ tsum ts k := by
  induction k with
  | zero => obtain rfl : j = 0 := by omega
            exact Nat.le_refl _
  | succ k ih =>
    by_cases e : j = k + 1
    · subst e; exact Nat.le_refl _
    · have := ih (by omega)
      rw [tsum]
      omega

theorem good_left {ah : Int} {ta tb : List Tok} {k : Nat} (hk : k ≤ ta.length) (h : Good ah ta k) : Good ah (ta ++ tb) k := fun j hj => by
  rw [getD_tl ta tb j (by omega), tsum_left ta tb j (by omega)]
  exact h j hj

theorem fails_left {ah : Int} {ta : List Tok} (tb : List Tok) {e : Int} (h : Fails ah ta e) : Fails ah (ta ++ tb) e := by
  obtain ⟨h0, k, hk, hg, hs⟩ := h
  refine ⟨h0, k, by simp; omega, good_left (by omega) hg, ?_⟩
  rw [getD_tl ta tb k hk, tsum_left ta tb k (by omega)]
  exact hs

/-- behind others: the same, or too much -/
theorem good_right {ah : Int} {ta tb : List Tok} {A : Nat} (hA : A = tsum ta ta.length) (h : Good ah ta ta.length) : ∀ k, Good (ah + A) tb k →
    Good ah (ta ++ tb) (ta.length + k) ∨ ∃ j, j < k ∧ Good ah (ta ++ tb) (ta.length + j) ∧ StepE ah (tb.getD j tz) (A + tsum tb j) 3 ∧ 0 < A
  | 0, _ => .inl (good_left (Nat.le_refl _) h)
  | k + 1, hg => by
    rcases good_right hA h k (hg.mono (by omega)) with h1 | ⟨j, hj, h2⟩
    · obtain ⟨m1, m2, m3⟩ := (hg k (by omega)).zero
      by_cases hb : A + tsum tb k + (tb.getD k tz).sz ≤ 268435456
      · refine .inl ?_
        rw [← Nat.add_assoc]
        refine h1.next ?_
        rw [getD_tr, tsum_right, ← hA]
        exact .inr (.inr (.inr ⟨m1, by omega, hb, rfl⟩))
      · exact .inr ⟨k, by omega, h1, .inr (.inr (.inl ⟨m1, by omega, by omega, rfl⟩)), by omega⟩
    · exact .inr ⟨j, by omega, h2⟩

theorem three_fails {ah : Int} {ta tb : List Tok} {A j : Nat} (hA : A = tsum ta ta.length) (hj : j < tb.length) (hg : Good ah (ta ++ tb) (ta.length + j)) (hs : StepE ah (tb.getD j tz) (A + tsum tb j) 3) : Fails ah (ta ++ tb) 3 := by
  refine ⟨by decide, ta.length + j, by simp; omega, hg, ?_⟩
  rw [getD_tr, tsum_right, ← hA]
  exact hs

/-- an error behind others is the same, or ErrBig -/
theorem fails_right {ah : Int} {ta tb : List Tok} {A : Nat} {g : Int} (hA : A = tsum ta ta.length) (h : Good ah ta ta.length) (hf : Fails (ah + A) tb g) : ∃ f, Fails ah (ta ++ tb) f ∧ (f = g ∨ f = 3 ∧ 0 < ta.length) := by
  obtain ⟨h0, k, hk, hg, hs⟩ := hf
  rcases good_right hA h k hg with h1 | ⟨j, hj, h2, h3, h4⟩
  · refine ⟨g, ⟨h0, ta.length + k, by simp; omega, h1, ?_⟩, .inl rfl⟩
    rw [getD_tr, tsum_right, ← hA]
    rcases hs with ⟨m1, rfl⟩ | ⟨m1, m2, rfl⟩ | ⟨m1, m2, m3, rfl⟩ | ⟨_, _, _, rfl⟩
    · exact .inl ⟨m1, rfl⟩
    · exact .inr (.inl ⟨m1, by omega, rfl⟩)
    · exact .inr (.inr (.inl ⟨m1, by omega, by omega, rfl⟩))
    · exact absurd rfl h0
  · refine ⟨3, three_fails hA (by omega) h2 h3, .inr ⟨rfl, ?_⟩⟩
    rcases Nat.eq_zero_or_pos ta.length with e | e
    · rw [e] at hA
      simp [tsum] at hA
      omega
    · exact e

/-- no error behind others: none, or too much -/
theorem good_both {ah : Int} {ta tb : List Tok} {A : Nat} (hA : A = tsum ta ta.length) (h : Good ah ta ta.length) (hg : Good (ah + A) tb tb.length) : Good ah (ta ++ tb) (ta ++ tb).length ∨ Fails ah (ta ++ tb) 3 ∧ 268435456 < A + tsum tb tb.length := by
  rcases good_right hA h tb.length hg with h1 | ⟨j, hj, h2, h3, h4⟩
  · exact .inl (by rw [List.length_append]; exact h1)
  · refine .inr ⟨three_fails hA hj h2 h3, ?_⟩
    have hm := tsum_mono tb (show j + 1 ≤ tb.length by omega)
    rw [tsum] at hm
    rcases h3 with ⟨_, h⟩ | ⟨_, _, h⟩ | ⟨_, _, h, _⟩ | ⟨_, _, _, h⟩
    · cases h
    · cases h
    · omega
    · cases h

theorem Good.wide {a a' : Int} {ts : List Tok} {k : Nat} (h : Good a ts k) (ha : a ≤ a') : Good a' ts k := fun j hj => by
  obtain ⟨m1, m2, m3⟩ := (h j hj).zero
  exact .inr (.inr (.inr ⟨m1, by omega, m3, rfl⟩))

theorem exts_left (bs : List Nat) (ta tb : List Tok) : ∀ k, k ≤ ta.length → exts bs (ta ++ tb) k = exts bs ta k
  | 0, _ => rfl
  | k + 1, h => by rw [exts, exts, exts_left bs ta tb k (by omega), getD_tl ta tb k (by omega)]

theorem exts_right (bs : List Nat) (ta tb : List Tok) : ∀ k, exts bs (ta ++ tb) (ta.length + k) = exts (exts bs ta ta.length) tb k
  | 0 => exts_left bs ta tb _ (Nat.le_refl _)
  | k + 1 => by rw [← Nat.add_assoc, exts, exts, exts_right bs ta tb k, getD_tr]

theorem mades_both (bs : List Nat) (ta tb : List Tok) : mades bs (ta ++ tb) (ta ++ tb).length = mades bs ta ta.length ++ mades (bs ++ mades bs ta ta.length) tb tb.length := by
  have h1 := exts_right bs ta tb tb.length
  rw [exts_mades bs ta, exts_mades (bs ++ mades bs ta ta.length) tb, exts_mades, List.append_assoc, ← List.length_append] at h1
  exact List.append_cancel_left h1

/-- the bytes are bytes -/
def SmallT (ts : List Tok) : Prop := ∀ j, j < ts.length → (ts.getD j tz).b < 256

theorem cp_small {d : Nat} {P : List Nat} (h : ∀ z ∈ P, z < 256) : ∀ k, ∀ z ∈ cp d k P, z < 256
  | 0 => h
  | k + 1 => fun z hz => by
    rw [cp, List.mem_append] at hz
    rcases hz with hz | hz
    · exact cp_small h k z hz
    · simp only [List.mem_singleton] at hz
      rw [hz, List.getD_eq_getElem?_getD]
      rcases Nat.lt_or_ge ((cp d k P).length - d) (cp d k P).length with hl | hl
      · rw [List.getElem?_eq_getElem hl]
        exact cp_small h k _ (List.getElem_mem hl)
      · rw [List.getElem?_eq_none hl]
        decide

theorem exts_small {bs : List Nat} {ts : List Tok} (hb : ∀ z ∈ bs, z < 256) (ht : SmallT ts) : ∀ k, ∀ z ∈ exts bs ts k, z < 256
  | 0 => hb
  | k + 1 => fun z hz => by
    rw [exts, ext] at hz
    split at hz
    · rw [List.mem_append] at hz
      rcases hz with hz | hz
      · exact exts_small hb ht k z hz
      · simp only [List.mem_singleton] at hz
        rw [hz]
        rcases Nat.lt_or_ge k ts.length with hl | hl
        · exact ht k hl
        · rw [List.getD_eq_getElem?_getD, List.getElem?_eq_none hl]
          decide
    · exact cp_small (exts_small hb ht k) _ z hz

theorem mades_small {bs : List Nat} {ts : List Tok} (hb : ∀ z ∈ bs, z < 256) (ht : SmallT ts) (k : Nat) : ∀ z ∈ mades bs ts k, z < 256 := fun z hz => exts_small hb ht k z (List.mem_of_mem_drop hz)

end Go.Proofs.Ytabnfnejlffioaa
