/- The tokens of a text. -/
import Derived.Test.YtabnfnejlffioaaChain
namespace Go.Proofs.Ytabnfnejlffioaa
set_option linter.unusedVariables false

/-- how long the piece is at a distance -/
theorem run_has (z : Nat → Nat) (p d : Nat) : ∀ m, ∃ c, c ≤ m ∧ Eqs z p d c ∧ (c < m → ¬ Eqs z p d (c + 1))
  | 0 => ⟨0, Nat.le_refl _, fun i h => by omega, fun h => by omega⟩
  | m + 1 => by
    obtain ⟨c, h1, h2, h3⟩ := run_has z p d m
    by_cases e : c = m
    · subst e
      by_cases hc : z (p + c) = z (p + c - d)
      · refine ⟨c + 1, Nat.le_refl _, fun i hi => ?_, fun h => by omega⟩
        by_cases e2 : i = c
        · subst e2; exact hc
        · exact h2 i (by omega)
      · exact ⟨c, by omega, h2, fun _ h => hc (h c (by omega))⟩
    · exact ⟨c, by omega, h2, fun _ => h3 (by omega)⟩

theorem IsBest.has (z : Nat → Nat) (p m : Nat) : ∀ w, ∃ n d, IsBest z p w m n d
  | 0 => ⟨0, 0, Nat.zero_le _, .inl ⟨rfl, rfl⟩, fun _ d' h1 h2 => by omega⟩
  | w + 1 => by
    obtain ⟨n, d, h1, h2, h3⟩ := IsBest.has z p m w
    obtain ⟨c, k1, k2, k3⟩ := run_has z p (w + 1) m
    by_cases hc : n < c
    · refine ⟨c, w + 1, k1, .inr ⟨by omega, by omega, Nat.le_refl _, k2, fun d' e1 e2 he => ?_⟩, fun hlt d' e1 e2 he => ?_⟩
      · exact h3 (by omega) d' e1 (by omega) (he.mono (by omega))
      · by_cases e : d' = w + 1
        · subst e; exact k3 hlt he
        · exact h3 (by omega) d' e1 (by omega) (he.mono (by omega))
    · refine ⟨n, d, h1, ?_, fun hlt d' e1 e2 he => ?_⟩
      · rcases h2 with e | ⟨a1, a2, a3, a4, a5⟩
        · exact .inl e
        · exact .inr ⟨a1, a2, by omega, a4, a5⟩
      · by_cases e : d' = w + 1
        · subst e
          exact k3 (by omega) (he.mono (by omega))
        · exact h3 hlt d' e1 (by omega) he

/-- the token at a place, and where it leads -/
def TokAt (zs : List Nat) (W least M p : Nat) (t : Tok) (q : Nat) : Prop :=
  ∃ n d : Nat, IsBest (zf zs) p (min p W) (min M (zs.length - p)) n d ∧ ((least ≤ n ∧ t = ⟨n, d, 0⟩ ∧ q = p + n) ∨ (n < least ∧ t = ⟨0, 0, zs.getD p 0⟩ ∧ q = p + 1))

theorem TokAt.eq {zs : List Nat} {W least M p q q' : Nat} {t t' : Tok} (h : TokAt zs W least M p t q) (h' : TokAt zs W least M p t' q') : t = t' ∧ q = q' := by
  obtain ⟨n, d, hb, h⟩ := h
  obtain ⟨n', d', hb', h'⟩ := h'
  obtain ⟨rfl, rfl⟩ := hb.eq hb'
  rcases h with ⟨a1, rfl, rfl⟩ | ⟨a1, rfl, rfl⟩ <;> rcases h' with ⟨b1, rfl, rfl⟩ | ⟨b1, rfl, rfl⟩
  · exact ⟨rfl, rfl⟩
  · omega
  · omega
  · exact ⟨rfl, rfl⟩

theorem TokAt.le {zs : List Nat} {W least M p q : Nat} {t : Tok} (h : TokAt zs W least M p t q) (hp : p < zs.length) (hl : 1 ≤ least) : p < q ∧ q ≤ zs.length := by
  obtain ⟨n, d, hb, h⟩ := h
  have := hb.le
  rcases h with ⟨a1, rfl, rfl⟩ | ⟨a1, rfl, rfl⟩ <;> omega

/-- the tokens from one place to another -/
inductive Parsed (zs : List Nat) (W least M p : Nat) : List Tok → Nat → Prop
  | nil : Parsed zs W least M p [] p
  | snoc {ts : List Tok} {q : Nat} {t : Tok} {q' : Nat} (h : Parsed zs W least M p ts q) (hq : q < zs.length) (ht : TokAt zs W least M q t q') : Parsed zs W least M p (ts ++ [t]) q'

theorem Parsed.inv {zs : List Nat} {W least M p q' : Nat} {l : List Tok} (h : Parsed zs W least M p l q') : (l = [] ∧ q' = p) ∨ ∃ ts t q, l = ts ++ [t] ∧ Parsed zs W least M p ts q ∧ q < zs.length ∧ TokAt zs W least M q t q' := by
  cases h with
  | nil => exact .inl ⟨rfl, rfl⟩
  | snoc h hq ht => exact .inr ⟨_, _, _, rfl, h, hq, ht⟩

theorem Parsed.len {zs : List Nat} {W least M p q : Nat} {l : List Tok} (hl : 1 ≤ least) (hp : p ≤ zs.length) (h : Parsed zs W least M p l q) : l.length + p ≤ q ∧ q ≤ zs.length := by
  induction h with
  | nil => simp; exact hp
  | snoc h hq ht ih =>
    have := ht.le hq hl
    simp
    omega

theorem Parsed.fn {zs : List Nat} {W least M p q q' : Nat} {l l' : List Tok} (h : Parsed zs W least M p l q) : Parsed zs W least M p l' q' → l.length = l'.length → l = l' ∧ q = q' := by
  induction h generalizing l' q' with
  | nil =>
    intro h' e
    rcases h'.inv with ⟨rfl, rfl⟩ | ⟨ts, t, q, rfl, _⟩
    · exact ⟨rfl, rfl⟩
    · simp at e
  | snoc h hq ht ih =>
    intro h' e
    rcases h'.inv with ⟨rfl, rfl⟩ | ⟨ts2, t2, q2, rfl, h2, hq2, ht2⟩
    · simp at e
    · obtain ⟨rfl, rfl⟩ := ih h2 (by simpa using e)
      obtain ⟨rfl, rfl⟩ := ht.eq ht2
      exact ⟨rfl, rfl⟩

theorem Parsed.pre {zs : List Nat} {W least M p q : Nat} {l : List Tok} (h : Parsed zs W least M p l q) : ∀ k, k < l.length → ∃ qk, Parsed zs W least M p (l.take k) qk ∧ qk < zs.length := by
  induction h with
  | nil => intro k hk; simp at hk
  | @snoc ts q t q' h hq ht ih =>
    intro k hk
    simp at hk
    by_cases e : k = ts.length
    · subst e
      refine ⟨q, ?_, hq⟩
      simpa using h
    · obtain ⟨qk, h1, h2⟩ := ih k (by omega)
      refine ⟨qk, ?_, h2⟩
      rw [List.take_append_of_le_length (by omega)]
      exact h1

/-- there is one list of tokens -/
theorem Parsed.eq {zs : List Nat} {W least M p : Nat} {l l' : List Tok} (h : Parsed zs W least M p l zs.length) (h' : Parsed zs W least M p l' zs.length) : l = l' := by
  have key : ∀ {a b : List Tok}, Parsed zs W least M p a zs.length → Parsed zs W least M p b zs.length → ¬ a.length < b.length := fun {a b} ha hb hlt => by
    obtain ⟨qk, h1, h2⟩ := hb.pre a.length hlt
    have := (ha.fn h1 (by simp; omega)).2
    omega
  exact (h.fn h' (Nat.le_antisymm (Nat.le_of_not_lt (key h' h)) (Nat.le_of_not_lt (key h h')))).1

/-- what match tells, in the whole text -/
theorem tok_of {zs : List Nat} {o p W least M s0 n d : Nat} (hl : 1 ≤ least) (hs0 : s0 ≤ least) (hs1 : 1 ≤ s0) (ho : o + p < zs.length) (hwin : o = 0 ∨ W ≤ p)
    (h : IsBest (zf (zs.drop o)) p (min p W) (min M ((zs.drop o).length - p)) n d ∨ (n = 0 ∧ d = 0 ∧ (NoneIn (zf (zs.drop o)) p (min p W) s0 ∨ (zs.drop o).length < p + s0))) :
    (n < least → TokAt zs W least M (o + p) ⟨0, 0, (zs.drop o).getD p 0⟩ (o + p + 1)) ∧ (¬ n < least → TokAt zs W least M (o + p) ⟨n, d, 0⟩ (o + p + n) ∧ 1 ≤ n ∧ p + n ≤ (zs.drop o).length) := by
  have hlen : (zs.drop o).length = zs.length - o := by simp
  have hmin : min (o + p) W = min p W := by rcases hwin with h | h <;> omega
  have hm : min M (zs.length - (o + p)) = min M ((zs.drop o).length - p) := by rw [hlen, Nat.sub_sub]
  have hg : ∀ i, (zs.drop o).getD i 0 = zs.getD (o + i) 0 := fun i => by simp [List.getD_eq_getElem?_getD]
  have sh : ∀ {n d : Nat}, IsBest (zf (zs.drop o)) p (min p W) (min M ((zs.drop o).length - p)) n d → IsBest (zf zs) (o + p) (min (o + p) W) (min M (zs.length - (o + p))) n d := fun {n d} hb => by
    rw [hmin, hm]
    exact hb.shift (by omega) (fun i _ => hg i)
  refine ⟨fun hn => ?_, fun hn => ?_⟩
  · rw [hg]
    rcases h with hb | ⟨rfl, rfl, hno⟩
    · exact ⟨n, d, sh hb, .inr ⟨hn, rfl, rfl⟩⟩
    · obtain ⟨n', d', hb⟩ := IsBest.has (zf (zs.drop o)) p (min M ((zs.drop o).length - p)) (min p W)
      refine ⟨n', d', sh hb, .inr ⟨?_, rfl, rfl⟩⟩
      rcases hno with hno | hno
      · have := hno.short hs1 hb
        omega
      · have := hb.le
        omega
  · rcases h with hb | ⟨rfl, rfl, _⟩
    · have := hb.le
      exact ⟨⟨n, d, sh hb, .inl ⟨by omega, rfl, rfl⟩⟩, by omega, by omega⟩
    · omega

end Go.Proofs.Ytabnfnejlffioaa
