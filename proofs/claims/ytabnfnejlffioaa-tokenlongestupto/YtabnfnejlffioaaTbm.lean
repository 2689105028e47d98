/- The tokens of a text make it again. -/
import Derived.Test.YtabnfnejlffioaaParse
namespace Go.Proofs.Ytabnfnejlffioaa
set_option linter.unusedVariables false

theorem take_snoc (zs : List Nat) (q : Nat) (h : q < zs.length) : zs.take (q + 1) = zs.take q ++ [zs.getD q 0] := by
  rw [List.take_add_one, List.getElem?_eq_getElem h]
  simp [List.getD_eq_getElem?_getD, List.getElem?_eq_getElem h]

theorem take_getD (zs : List Nat) (q i : Nat) (h : i < q) : (zs.take q).getD i 0 = zs.getD i 0 := by
  simp [List.getD_eq_getElem?_getD, h]

theorem cp_eqs {zs : List Nat} {q d : Nat} (hd : 1 ≤ d) (hq : d ≤ q) : ∀ n, q + n ≤ zs.length → Eqs (zf zs) q d n → cp d n (zs.take q) = zs.take (q + n)
  | 0, _, _ => rfl
  | n + 1, hl, he => by
    have ih := cp_eqs hd hq n (by omega) (he.mono (by omega))
    rw [cp, ih, show q + (n + 1) = (q + n) + 1 by omega, take_snoc zs (q + n) (by omega)]
    have hlen : (zs.take (q + n)).length = q + n := by simp; omega
    rw [hlen, take_getD _ _ _ (by omega)]
    have := he n (by omega)
    simp only [zf] at this
    rw [this]

theorem tok_ext {zs : List Nat} {W least M q q' : Nat} {t : Tok} (hl : 1 ≤ least) (hq : q < zs.length) (h : TokAt zs W least M q t q') : ext (zs.take q) t = zs.take q' ∧ t.May ∧ t.d ≤ (q : Int) ∧ t.sz = q' - q ∧ t.n ≤ (zs.length : Int) ∧ t.d ≤ (zs.length : Int) := by
  obtain ⟨n, d, hb, h⟩ := h
  have hle := hb.le
  rcases h with ⟨h1, rfl, rfl⟩ | ⟨h1, rfl, rfl⟩
  · rcases hb.one with ⟨e, _⟩ | ⟨k1, k2, k3, k4, _⟩
    · omega
    · refine ⟨?_, .inr ⟨by show (1 : Int) ≤ (n : Int); omega, by show (1 : Int) ≤ (d : Int); omega, rfl⟩, by show (d : Int) ≤ _; omega, ?_, by show (n : Int) ≤ _; omega, by show (d : Int) ≤ _; omega⟩
      · unfold ext
        rw [if_neg (by show ¬ (n : Int) = 0; omega)]
        exact cp_eqs k2 (by omega) n (by omega) k4
      · unfold Tok.sz
        rw [if_neg (by show ¬ (n : Int) = 0; omega)]
        show (n : Int).toNat = _
        simp
  · refine ⟨?_, .inl ⟨rfl, rfl⟩, by show (0 : Int) ≤ _; omega, ?_, by show (0 : Int) ≤ _; omega, by show (0 : Int) ≤ _; omega⟩
    · unfold ext
      rw [if_pos rfl, take_snoc zs q hq]
    · unfold Tok.sz
      rw [if_pos rfl]
      omega

/-- what the tokens make -/
theorem Parsed.makes {zs : List Nat} {W least M p q : Nat} {l : List Tok} (hl : 1 ≤ least) (hp : p ≤ zs.length) (hz : zs.length ≤ 268435456) (h : Parsed zs W least M p l q) :
    exts (zs.take p) l l.length = zs.take q ∧ Good (p : Int) l l.length ∧ tsum l l.length = q - p ∧ ∀ j, j < l.length → (l.getD j tz).n ≤ (zs.length : Int) ∧ (l.getD j tz).d ≤ (zs.length : Int) := by
  induction h with
  | nil => exact ⟨rfl, fun j hj => by simp at hj, by simp [tsum], fun j hj => by simp at hj⟩
  | @snoc ts q t q' h hq ht ih =>
    obtain ⟨i1, i2, i3, i4⟩ := ih
    obtain ⟨e1, e2, e3, e4, e5, e6⟩ := tok_ext hl hq ht
    obtain ⟨l1, l2⟩ := ht.le hq hl
    have l3 := (h.len hl hp).1
    have hg : (ts ++ [t]).getD ts.length tz = t := by simp
    have hts : tsum (ts ++ [t]) ts.length = q - p := by rw [tsum_left ts [t] _ (Nat.le_refl _), i3]
    rw [show (ts ++ [t]).length = ts.length + 1 by simp]
    refine ⟨?_, ?_, ?_, fun j hj => ?_⟩
    · rw [exts, hg, exts_left _ ts [t] _ (Nat.le_refl _), i1]
      exact e1
    · refine (good_left (Nat.le_refl _) i2).next ?_
      rw [hg, hts]
      exact .inr (.inr (.inr ⟨e2, by omega, by omega, rfl⟩))
    · rw [tsum, hg, hts, e4]
      omega
    · by_cases e : j < ts.length
      · rw [getD_tl ts [t] j e]; exact i4 j e
      · rw [show j = ts.length by omega, hg]; exact ⟨e5, e6⟩

theorem Parsed.mades {zs : List Nat} {W least M p : Nat} {l : List Tok} (hl : 1 ≤ least) (hp : p ≤ zs.length) (hz : zs.length ≤ 268435456) (h : Parsed zs W least M p l zs.length) : mades (zs.take p) l l.length = zs.drop p := by
  obtain ⟨h1, _⟩ := h.makes hl hp hz
  unfold Ytabnfnejlffioaa.mades
  rw [h1, List.take_length]
  congr 1
  simp
  omega

end Go.Proofs.Ytabnfnejlffioaa
