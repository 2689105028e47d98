/- Tokens, what they make, and how long it is. -/
namespace Go.Proofs.Ytabnfnejlffioaa
set_option linter.unusedVariables false

/-- a token: its length, distance and byte -/
structure Tok where
  n : Int
  d : Int
  b : Nat

def tz : Tok := ⟨0, 0, 0⟩

/-- a token that may be -/
def Tok.May (t : Tok) : Prop := (t.n = 0 ∧ t.d = 0) ∨ (1 ≤ t.n ∧ 1 ≤ t.d ∧ t.b = 0)

/-- how many bytes it makes -/
def Tok.sz (t : Tok) : Nat := if t.n = 0 then 1 else t.n.toNat

/-- what the first k tokens make -/
def tsum (ts : List Tok) : Nat → Nat
  | 0 => 0
  | k + 1 => tsum ts k + (ts.getD k tz).sz

/-- a token's error, behind so many bytes that were made, with so many ahead -/
def StepE (ahead : Int) (t : Tok) (made : Nat) (e : Int) : Prop :=
  (¬ t.May ∧ e = 2) ∨ (t.May ∧ ahead + made < t.d ∧ e = 14) ∨ (t.May ∧ t.d ≤ ahead + made ∧ 268435456 < made + t.sz ∧ e = 3) ∨ (t.May ∧ t.d ≤ ahead + made ∧ made + t.sz ≤ 268435456 ∧ e = 0)

theorem StepE.one {ahead : Int} {t : Tok} {made : Nat} {e e' : Int} (h : StepE ahead t made e) (h' : StepE ahead t made e') : e = e' := by
  rcases h with ⟨h1, rfl⟩ | ⟨h1, h2, rfl⟩ | ⟨h1, h2, h3, rfl⟩ | ⟨h1, h2, h3, rfl⟩ <;> rcases h' with ⟨k1, rfl⟩ | ⟨k1, k2, rfl⟩ | ⟨k1, k2, k3, rfl⟩ | ⟨k1, k2, k3, rfl⟩ <;> first | rfl | exact absurd k1 h1 | exact absurd h1 k1 | omega

theorem StepE.some (ahead : Int) (t : Tok) (made : Nat) : ∃ e, StepE ahead t made e := by
  by_cases h1 : t.May
  · by_cases h2 : ahead + made < t.d
    · exact ⟨14, .inr (.inl ⟨h1, h2, rfl⟩)⟩
    · by_cases h3 : made + t.sz ≤ 268435456
      · exact ⟨0, .inr (.inr (.inr ⟨h1, by omega, h3, rfl⟩))⟩
      · exact ⟨3, .inr (.inr (.inl ⟨h1, by omega, by omega, rfl⟩))⟩
  · exact ⟨2, .inl ⟨h1, rfl⟩⟩

/-- the first k tokens make what they say -/
def Good (ahead : Int) (ts : List Tok) (k : Nat) : Prop := ∀ j, j < k → StepE ahead (ts.getD j tz) (tsum ts j) 0

/-- the first error, and where; or none -/
def Fails (ahead : Int) (ts : List Tok) (e : Int) : Prop := e ≠ 0 ∧ ∃ k, k < ts.length ∧ Good ahead ts k ∧ StepE ahead (ts.getD k tz) (tsum ts k) e

def MeasIs (ahead : Int) (ts : List Tok) (a e : Int) : Prop := (Fails ahead ts e ∧ a = 0) ∨ (Good ahead ts ts.length ∧ a = (tsum ts ts.length : Int) ∧ e = 0)

theorem Good.mono {ahead : Int} {ts : List Tok} {k j : Nat} (h : Good ahead ts k) (hj : j ≤ k) : Good ahead ts j := fun i hi => h i (by omega)

theorem Good.next {ahead : Int} {ts : List Tok} {k : Nat} (h : Good ahead ts k) (h' : StepE ahead (ts.getD k tz) (tsum ts k) 0) : Good ahead ts (k + 1) := fun j hj => by
  by_cases e : j = k
  · subst e; exact h'
  · exact h j (by omega)

theorem Fails.not {ahead : Int} {ts : List Tok} {e : Int} (h : Fails ahead ts e) : ¬ Good ahead ts ts.length := fun hg => by
  obtain ⟨h0, k, hk, _, hs⟩ := h
  exact h0 (hs.one (hg k hk))

theorem Fails.one {ahead : Int} {ts : List Tok} {e e' : Int} (h : Fails ahead ts e) (h' : Fails ahead ts e') : e = e' := by
  obtain ⟨h0, k, hk, hg, hs⟩ := h
  obtain ⟨h0', k', hk', hg', hs'⟩ := h'
  rcases Nat.lt_trichotomy k k' with hlt | rfl | hlt
  · exact absurd (hs.one (hg' k hlt)) h0
  · exact hs.one hs'
  · exact absurd (hs'.one (hg k' hlt)) h0'

theorem MeasIs.one {ahead : Int} {ts : List Tok} {a e a' e' : Int} (h : MeasIs ahead ts a e) (h' : MeasIs ahead ts a' e') : a = a' ∧ e = e' := by
  rcases h with ⟨h1, rfl⟩ | ⟨h1, rfl, rfl⟩ <;> rcases h' with ⟨k1, rfl⟩ | ⟨k1, rfl, rfl⟩
  · exact ⟨rfl, h1.one k1⟩
  · exact absurd k1 h1.not
  · exact absurd h1 k1.not
  · exact ⟨rfl, rfl⟩

theorem Good.sum {ahead : Int} {ts : List Tok} {k : Nat} (h : Good ahead ts k) : tsum ts k ≤ 268435456 := by
  cases k with
  | zero => exact Nat.zero_le _
  | succ k =>
    rcases h k (by omega) with ⟨_, h⟩ | ⟨_, _, h⟩ | ⟨_, _, _, h⟩ | ⟨_, _, h, _⟩
    · cases h
    · cases h
    · cases h
    · exact h

theorem StepE.zero {ahead : Int} {t : Tok} {made : Nat} (h : StepE ahead t made 0) : t.May ∧ t.d ≤ ahead + made ∧ made + t.sz ≤ 268435456 := by
  rcases h with ⟨_, h⟩ | ⟨_, _, h⟩ | ⟨_, _, _, h⟩ | ⟨h1, h2, h3, _⟩
  · cases h
  · cases h
  · cases h
  · exact ⟨h1, h2, h3⟩

/-- n bytes more, each the one that stands d ahead -/
def cp (d : Nat) : Nat → List Nat → List Nat
  | 0, P => P
  | k + 1, P => cp d k P ++ [(cp d k P).getD ((cp d k P).length - d) 0]

theorem cp_length (d : Nat) (P : List Nat) : ∀ k, (cp d k P).length = P.length + k
  | 0 => rfl
  | k + 1 => by rw [cp, List.length_append, cp_length d P k]; simp; omega

theorem cp_add (d a : Nat) (P : List Nat) : ∀ b, cp d (a + b) P = cp d b (cp d a P)
  | 0 => rfl
  | b + 1 => by rw [← Nat.add_assoc, cp, cp, cp_add d a P b]

theorem getD_app_left (A B : List Nat) (i : Nat) (h : i < A.length) : (A ++ B).getD i 0 = A.getD i 0 := by
  simp only [List.getD_eq_getElem?_getD]
  rw [List.getElem?_append_left h]

theorem getD_app_right (A B : List Nat) (i : Nat) : (A ++ B).getD (A.length + i) 0 = B.getD i 0 := by
  simp only [List.getD_eq_getElem?_getD]
  rw [List.getElem?_append_right (by omega), Nat.add_sub_cancel_left]

theorem cp_old (d : Nat) (P : List Nat) : ∀ k i, i < P.length → (cp d k P).getD i 0 = P.getD i 0
  | 0, _, _ => rfl
  | k + 1, i, h => by
    rw [cp, getD_app_left _ _ _ (by rw [cp_length]; omega)]
    exact cp_old d P k i h

theorem mod_less {k d : Nat} (h : d ≤ k) : (k - d) % d = k % d := by
  conv => rhs; rw [show k = (k - d) + d by omega]
  rw [Nat.add_mod_right]

/-- what a piece's bytes are -/
theorem cp_new {d : Nat} {P : List Nat} (hd : 1 ≤ d) (hp : d ≤ P.length) : ∀ k i, i < k → (cp d k P).getD (P.length + i) 0 = P.getD (P.length - d + i % d) 0
  | 0, _, h => by omega
  | k + 1, i, h => by
    by_cases e : i = k
    · subst e
      have h1 : (cp d i P).length = P.length + i := cp_length d P i
      rw [cp, ← h1, show (cp d i P).length = (cp d i P).length + 0 from rfl, getD_app_right]
      show (cp d i P).getD ((cp d i P).length - d) 0 = _
      rw [h1]
      by_cases hk : i < d
      · rw [show P.length + i - d = P.length - d + i by omega, cp_old d P i _ (by omega), Nat.mod_eq_of_lt hk]
      · rw [show P.length + i - d = P.length + (i - d) by omega, cp_new hd hp i (i - d) (by omega), mod_less (by omega)]
    · rw [cp, getD_app_left _ _ _ (by rw [cp_length]; omega)]
      exact cp_new hd hp k i (by omega)

/-- all from d bytes ahead on comes again and again -/
theorem cp_per {d : Nat} {P : List Nat} (hd : 1 ≤ d) (hp : d ≤ P.length) (k i : Nat) (h : i < d + k) : (cp d k P).getD (P.length - d + i) 0 = P.getD (P.length - d + i % d) 0 := by
  by_cases hi : i < d
  · rw [cp_old d P k _ (by omega), Nat.mod_eq_of_lt hi]
  · rw [show P.length - d + i = P.length + (i - d) by omega, cp_new hd hp k (i - d) (by omega), mod_less (by omega)]

theorem list_eq {A B : List Nat} (h : A.length = B.length) (h2 : ∀ i, i < A.length → A.getD i 0 = B.getD i 0) : A = B := by
  apply List.ext_getElem h
  intro i h1 h3
  have := h2 i h1
  simpa [h1, h3] using this

theorem slice_get (P : List Nat) (f n i : Nat) (h : i < n) : ((P.drop f).take n).getD i 0 = P.getD (f + i) 0 := by
  simp only [List.getD_eq_getElem?_getD]
  rw [List.getElem?_take, if_pos h, List.getElem?_drop]

/-- a piece at once, if it is what it would be byte by byte -/
theorem cp_block {d k : Nat} {P B : List Nat} (hd : 1 ≤ d) (hp : d ≤ P.length) (hb : B.length = k) (h : ∀ i, i < k → B.getD i 0 = P.getD (P.length - d + i % d) 0) : cp d k P = P ++ B := by
  refine list_eq (by rw [cp_length, List.length_append, hb]) fun i hi => ?_
  rw [cp_length] at hi
  by_cases hl : i < P.length
  · rw [cp_old d P k i hl, getD_app_left _ _ _ hl]
  · rw [show i = P.length + (i - P.length) by omega, cp_new hd hp k _ (by omega), getD_app_right, h _ (by omega)]

/-- no more than d bytes at once -/
theorem cp_short {d k : Nat} {P : List Nat} (hd : 1 ≤ d) (hp : d ≤ P.length) (hk : k ≤ d) : cp d k P = P ++ (P.drop (P.length - d)).take k := by
  refine cp_block hd hp (by simp; omega) fun i hi => ?_
  rw [slice_get _ _ _ _ hi, Nat.mod_eq_of_lt (by omega)]

/-- as much at once as is there of it -/
theorem cp_long {d j k : Nat} {P : List Nat} (hd : 1 ≤ d) (hp : d ≤ P.length) (hj : j % d = 0) (hk : k ≤ d + j) : cp d (j + k) P = cp d j P ++ ((cp d j P).drop (P.length - d)).take k := by
  rw [cp_add]
  have hl := cp_length d P j
  refine cp_block hd (by omega) (by simp; omega) fun i hi => ?_
  have hm : i % d < d := Nat.mod_lt _ hd
  rw [slice_get _ _ _ _ hi, cp_per hd hp j i (by omega), hl, show P.length + j - d + i % d = P.length - d + (j + i % d) by omega, cp_per hd hp j (j + i % d) (by omega), Nat.add_mod, hj, Nat.zero_add, Nat.mod_mod, Nat.mod_mod]

/-- a token behind a text -/
def ext (out : List Nat) (t : Tok) : List Nat := if t.n = 0 then out ++ [t.b] else cp t.d.toNat t.n.toNat out

def exts (bs : List Nat) (ts : List Tok) : Nat → List Nat
  | 0 => bs
  | k + 1 => ext (exts bs ts k) (ts.getD k tz)

theorem ext_length (out : List Nat) (t : Tok) : (ext out t).length = out.length + t.sz := by
  unfold ext Tok.sz
  by_cases h : t.n = 0
  · rw [if_pos h, if_pos h]; simp
  · rw [if_neg h, if_neg h, cp_length]

theorem exts_length (bs : List Nat) (ts : List Tok) : ∀ k, (exts bs ts k).length = bs.length + tsum ts k
  | 0 => rfl
  | k + 1 => by rw [exts, ext_length, exts_length bs ts k, tsum]; omega

/-- what was made, without what stood ahead -/
def mades (bs : List Nat) (ts : List Tok) (k : Nat) : List Nat := (exts bs ts k).drop bs.length

theorem ext_pre {bs m : List Nat} (t : Tok) : ∃ m', ext (bs ++ m) t = bs ++ m' := by
  unfold ext
  by_cases h : t.n = 0
  · rw [if_pos h]; exact ⟨m ++ [t.b], by simp⟩
  · rw [if_neg h]
    generalize t.n.toNat = k
    generalize t.d.toNat = d
    induction k with
    | zero => exact ⟨m, rfl⟩
    | succ k ih =>
      obtain ⟨m', e⟩ := ih
      exact ⟨m' ++ [(bs ++ m').getD ((bs ++ m').length - d) 0], by rw [cp, e]; simp⟩

theorem exts_mades (bs : List Nat) (ts : List Tok) : ∀ k, exts bs ts k = bs ++ mades bs ts k := by
  have key : ∀ k, ∃ m, exts bs ts k = bs ++ m := fun k => by
    induction k with
    | zero => exact ⟨[], by simp [exts]⟩
    | succ k ih =>
      obtain ⟨m, e⟩ := ih
      rw [exts, e]
      exact ext_pre _
  intro k
  obtain ⟨m, e⟩ := key k
  unfold mades
  rw [e]
  simp

theorem mades_length (bs : List Nat) (ts : List Tok) (k : Nat) : (mades bs ts k).length = tsum ts k := by
  unfold mades
  rw [List.length_drop, exts_length]
  omega

theorem mades_zero (bs : List Nat) (ts : List Tok) : mades bs ts 0 = [] := by simp [mades, exts]

theorem mades_byte {bs : List Nat} {ts : List Tok} {k : Nat} (h : (ts.getD k tz).n = 0) : mades bs ts (k + 1) = mades bs ts k ++ [(ts.getD k tz).b] := by
  have : bs ++ mades bs ts (k + 1) = bs ++ (mades bs ts k ++ [(ts.getD k tz).b]) := by
    rw [← exts_mades, exts, ext, if_pos h, exts_mades]; simp
  exact List.append_cancel_left this

theorem mades_piece {bs m : List Nat} {ts : List Tok} {k : Nat} (h : (ts.getD k tz).n ≠ 0) (hm : cp (ts.getD k tz).d.toNat (ts.getD k tz).n.toNat (bs ++ mades bs ts k) = bs ++ m) : mades bs ts (k + 1) = m := by
  have : bs ++ mades bs ts (k + 1) = bs ++ m := by rw [← exts_mades, exts, ext, if_neg h, exts_mades, hm]
  exact List.append_cancel_left this

end Go.Proofs.Ytabnfnejlffioaa
