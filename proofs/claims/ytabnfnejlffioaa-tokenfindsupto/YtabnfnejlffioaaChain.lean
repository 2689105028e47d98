/- The places at which a piece stood; the longest piece among them. -/
import Derived.Test.YtabnfnejlffioaaKey
namespace Go.Proofs.Ytabnfnejlffioaa
set_option linter.unusedVariables false

/-- the bytes of a text -/
abbrev zf (zs : List Nat) : Nat → Nat := fun i => zs.getD i 0

/-- the number of the piece at a place -/
def keyAt (zs : List Nat) (s p : Nat) : Nat := keyOf ((zs.drop p).take s)

/-- one more than the last place, of the first m, with that number; or 0 -/
def lastOf (zs : List Nat) (s : Nat) : Nat → Nat → Nat
  | 0, _ => 0
  | m + 1, k => if keyAt zs s m = k then m + 1 else lastOf zs s m k

theorem lastOf_le (zs : List Nat) (s k : Nat) : ∀ m, lastOf zs s m k ≤ m
  | 0 => Nat.le_refl _
  | m + 1 => by
    rw [lastOf]
    split
    · exact Nat.le_refl _
    · have := lastOf_le zs s k m; omega

/-- none between is such a place -/
theorem lastOf_no (zs : List Nat) (s k : Nat) : ∀ m q, lastOf zs s m k ≤ q → q < m → keyAt zs s q ≠ k
  | 0, q, _, h => by omega
  | m + 1, q, h, hq => by
    rw [lastOf] at h
    split at h
    · omega
    · rename_i hne
      by_cases e : q = m
      · subst e; exact hne
      · exact lastOf_no zs s k m q h (by omega)

theorem lastOf_hit (zs : List Nat) (s k : Nat) : ∀ m p, lastOf zs s m k = p + 1 → p < m ∧ keyAt zs s p = k
  | 0, p, h => by simp [lastOf] at h
  | m + 1, p, h => by
    rw [lastOf] at h
    split at h
    · rename_i e
      have : p = m := by omega
      subst this
      exact ⟨by omega, e⟩
    · have := lastOf_hit zs s k m p h
      exact ⟨by omega, this.2⟩

theorem keyAt_same {zs : List Nat} (hb : ∀ c ∈ zs, c < 256) {s p q : Nat} (hp : p + s ≤ zs.length) (hq : q + s ≤ zs.length) : keyAt zs s q = keyAt zs s p ↔ Same (zf zs) p q s := by
  have l1 : ((zs.drop p).take s).length = s := by simp; omega
  have l2 : ((zs.drop q).take s).length = s := by simp; omega
  constructor
  · intro h i hi
    have e := keyOf_inj s _ _ l2 l1 (fun c hc => hb c (List.mem_of_mem_drop (List.mem_of_mem_take hc))) (fun c hc => hb c (List.mem_of_mem_drop (List.mem_of_mem_take hc))) h
    show zs.getD (q + i) 0 = zs.getD (p + i) 0
    rw [← slice_get zs q s i hi, ← slice_get zs p s i hi, e]
  · intro h
    unfold keyAt
    congr 1
    refine list_eq (by rw [l1, l2]) fun i hi => ?_
    rw [l2] at hi
    rw [slice_get _ _ _ _ hi, slice_get _ _ _ _ hi]
    exact h i hi

/-- all places from c on have been weighed: n bytes, d back, are the most of them -/
structure ChainAt (z : Nat → Nat) (p f m s n d c : Nat) : Prop where
  nle : n ≤ m
  cle : c ≤ p
  one : (n = 0 ∧ d = 0) ∨ (s ≤ n ∧ 1 ≤ d ∧ d + f ≤ p ∧ Eqs z p d n ∧ ∀ d', 1 ≤ d' → d' < d → ¬ Eqs z p d' n)
  no : n < m → ∀ y, c ≤ y → y < p → ¬ Same z p y (max (n + 1) s)

theorem ChainAt.start {z : Nat → Nat} {p f m s c : Nat} (hc : c ≤ p) (h : ∀ y, c ≤ y → y < p → ¬ Same z p y s) : ChainAt z p f m s 0 0 c :=
  ⟨Nat.zero_le _, hc, .inl ⟨rfl, rfl⟩, fun _ y h1 h2 hs => h y h1 h2 (hs.mono (by omega))⟩

theorem ChainAt.skip {z : Nat → Nat} {p f m s n d x c : Nat} (h : ChainAt z p f m s n d (x + 1)) (hc : c ≤ x) (hx : ¬ Same z p x (max (n + 1) s)) (hno : ∀ y, c ≤ y → y < x → ¬ Same z p y s) : ChainAt z p f m s n d c := by
  refine ⟨h.nle, by have := h.cle; omega, h.one, fun hn y h1 h2 hs => ?_⟩
  by_cases e : y = x
  · subst e; exact hx hs
  · by_cases hl : y < x
    · exact hno y h1 hl (hs.mono (by omega))
    · exact h.no hn y (by omega) h2 hs

theorem ChainAt.better {z : Nat → Nat} {p f m s n d x c n' : Nat} (h : ChainAt z p f m s n d (x + 1)) (hn : n < m) (hs1 : 1 ≤ s) (hsm : s ≤ m) (hc : c ≤ x) (hfx : f ≤ x) (hx : Same z p x s) (hno : ∀ y, c ≤ y → y < x → ¬ Same z p y s)
    (h1 : Same z p x n') (h2 : n' ≤ m) (h3 : n' < m → ¬ Same z p x (n' + 1)) (hgt : n < n') : ChainAt z p f m s n' (p - x) c := by
  have hxp : x < p := by have := h.cle; omega
  have hsn : s ≤ n' := by
    refine Classical.byContradiction fun hc => ?_
    exact h3 (by omega) (hx.mono (by omega))
  refine ⟨h2, by omega, .inr ⟨hsn, by omega, by omega, (same_eqs (by omega)).1 h1, fun d' h4 h5 he => ?_⟩, fun hn' y h4 h5 hs => ?_⟩
  · have e : d' = p - (p - d') := by omega
    rw [e] at he
    exact h.no hn (p - d') (by omega) (by omega) (((same_eqs (by omega)).2 he).mono (by omega))
  · by_cases e : y = x
    · subst e; exact h3 hn' (hs.mono (by omega))
    · by_cases hl : y < x
      · exact hno y h4 hl (hs.mono (by omega))
      · exact h.no hn y (by omega) h5 (hs.mono (by omega))

/-- weighed to the first place in sight -/
theorem ChainAt.best {z : Nat → Nat} {p f m s n d c : Nat} (h : ChainAt z p f m s n d c) (hs1 : 1 ≤ s) (hn : s ≤ n) (hc : c ≤ f ∨ n = m) : IsBest z p (p - f) m n d := by
  rcases h.one with ⟨e, _⟩ | ⟨h1, h2, h3, h4, h5⟩
  · omega
  · refine ⟨h.nle, .inr ⟨by omega, h2, by omega, h4, h5⟩, fun hlt d' k1 k2 he => ?_⟩
    rcases hc with hc | hc
    · have e : d' = p - (p - d') := by omega
      rw [e] at he
      exact h.no hlt (p - d') (by omega) (by omega) (((same_eqs (by omega)).2 he).mono (by omega))
    · omega

/-- no piece of s bytes stands in sight -/
def NoneIn (z : Nat → Nat) (p w s : Nat) : Prop := ∀ d, 1 ≤ d → d ≤ w → ¬ Eqs z p d s

theorem IsBest.wide {z : Nat → Nat} {p w m m' n d : Nat} (h : IsBest z p w m n d) (hm : m ≤ m') (hno : m < m' → NoneIn z p w (m + 1)) : IsBest z p w m' n d := by
  refine ⟨Nat.le_trans h.le hm, h.one, fun hlt d' h1 h2 he => ?_⟩
  by_cases e : n < m
  · exact h.max e d' h1 h2 he
  · have e' : n = m := Nat.le_antisymm h.le (by omega)
    subst e'
    exact hno hlt d' h1 h2 he

theorem NoneIn.mono {z : Nat → Nat} {p w s t : Nat} (h : NoneIn z p w s) (hs : s ≤ t) : NoneIn z p w t := fun d h1 h2 he => h d h1 h2 (he.mono hs)

/-- then the longest is shorter -/
theorem NoneIn.short {z : Nat → Nat} {p w s m n d : Nat} (h : NoneIn z p w s) (hs : 1 ≤ s) (hb : IsBest z p w m n d) : n < s := by
  refine Classical.byContradiction fun hc => ?_
  rcases hb.one with ⟨e, _⟩ | ⟨h1, h2, h3, h4, _⟩
  · omega
  · exact h d h2 h3 (h4.mono (by omega))

/-- what a level tells of a place -/
theorem stood_none {zs : List Nat} (hb : ∀ c ∈ zs, c < 256) {s p f c : Nat} (hp : p + s ≤ zs.length) (hc : c = lastOf zs s p (keyAt zs s p)) (hcf : c ≤ f) (hfp : f ≤ p) : NoneIn (zf zs) p (p - f) s := fun d h1 h2 he => by
  have e : d = p - (p - d) := by omega
  rw [e] at he
  have hs := (same_eqs (by omega)).2 he
  exact lastOf_no zs s _ p (p - d) (by omega) (by omega) ((keyAt_same hb hp (by omega)).2 hs)

theorem chain_none {zs : List Nat} (hb : ∀ c ∈ zs, c < 256) {s p x c : Nat} (hp : p + s ≤ zs.length) (hx : x ≤ p) (hc : c = lastOf zs s x (keyAt zs s p)) : ∀ y, c ≤ y → y < x → ¬ Same (zf zs) p y s := fun y h1 h2 hs =>
  lastOf_no zs s _ x y (by omega) h2 ((keyAt_same hb hp (by omega)).2 hs)

theorem chain_hit {zs : List Nat} (hb : ∀ c ∈ zs, c < 256) {s p x y : Nat} (hp : p + s ≤ zs.length) (hx : x ≤ p) (hc : lastOf zs s x (keyAt zs s p) = y + 1) : y < x ∧ Same (zf zs) p y s := by
  obtain ⟨h1, h2⟩ := lastOf_hit zs s _ x y hc
  exact ⟨h1, (keyAt_same hb hp (by omega)).1 h2⟩

end Go.Proofs.Ytabnfnejlffioaa
