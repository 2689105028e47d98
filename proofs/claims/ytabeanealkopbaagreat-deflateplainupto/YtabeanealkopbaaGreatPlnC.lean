/- Texts of one proof, one behind the other: Infl, InflM, InflG, InflS, GetMath, InflC, Cp, Sym, DeflA, CGet, Looks, Re, Out, Tk, Jump, Pc. -/
import Derived.Test.YtabeanealkopbaaGreatPlnB
import Derived.KernelRfl
import Derived.ChangeKeysEq
import Derived.ScopeJumps
import Derived.WalkMore
import Derived.WalkKit

section
namespace Go.Proofs.YtabeanealkopbaaGreat.Infl
set_option linter.unusedVariables false

/-- a piece of k bytes from d bytes back, behind a text (stage 6's cp) -/
def cp (d : Nat) : Nat → List Nat → List Nat
  | 0, P => P
  | k + 1, P => cp d k P ++ [(cp d k P).getD ((cp d k P).length - d) 0]

theorem cp_length (d : Nat) (P : List Nat) : ∀ k, (cp d k P).length = P.length + k
  | 0 => rfl
  | k + 1 => by rw [cp, List.length_append, cp_length d P k]; simp; omega

/-- bits: so many bytes of them -/
structure In where
  f : Nat → Bool
  k : Nat

def In.m (I : In) : Nat := 8 * I.k

/-- the first n bits are the same -/
def Agree (I J : In) (n : Nat) : Prop := ∀ i, i < n → J.f i = I.f i

theorem Agree.mono {I J : In} {n k : Nat} (h : Agree I J n) (hk : k ≤ n) : Agree I J k := fun i hi => h i (by omega)

/-- what is read, and the place behind it; or an error; or it is not known yet -/
inductive Res (α : Type) where
  | ok (x : α) (at' : Nat)
  | bad (e : Nat)
  | more

/-- what reads bits from a place on -/
abbrev Rd (α : Type) := In → Nat → Res α

def Rd.pure {α : Type} (x : α) : Rd α := fun _ p => .ok x p
def Rd.fail {α : Type} (e : Nat) : Rd α := fun _ _ => .bad e
def Rd.bind {α β : Type} (r : Rd α) (k : α → Rd β) : Rd β := fun I p => match r I p with
  | .ok x q => k x I q
  | .bad e => .bad e
  | .more => .more

def Rd.stuck {α : Type} : Rd α := fun _ _ => .more

/-- it hangs on the bits that are read alone; with fewer of them bits end -/
structure Loc {α : Type} (r : Rd α) : Prop where
  le : ∀ I p x q, p ≤ I.m → r I p = .ok x q → p ≤ q ∧ q ≤ I.m
  ext : ∀ I J p x q, p ≤ I.m → r I p = .ok x q → Agree I J q → q ≤ J.m → r J p = .ok x q
  cut : ∀ I J p x q, p ≤ I.m → r I p = .ok x q → Agree I J J.m → p ≤ J.m → J.m < q → r J p = .bad 10
  err : ∀ I J p e, p ≤ I.m → r I p = .bad e → e ≠ 10 → Agree I J I.m → I.m ≤ J.m → r J p = .bad e

theorem Loc.pure {α : Type} (x : α) : Loc (Rd.pure x) :=
  ⟨fun I p y q hp h => by simp only [Rd.pure, Res.ok.injEq] at h; omega, fun I J p y q hp h _ _ => h, fun I J p y q hp h _ h1 h2 => by simp only [Rd.pure, Res.ok.injEq] at h; omega, fun I J p e hp h _ _ _ => by cases h⟩

theorem Loc.fail {α : Type} (e : Nat) : Loc (Rd.fail (α := α) e) :=
  ⟨fun I p y q hp h => by simp [Rd.fail] at h, fun I J p y q hp h _ _ => by simp [Rd.fail] at h, fun I J p y q hp h _ _ _ => by simp [Rd.fail] at h, fun I J p e hp h _ _ _ => h⟩

theorem Loc.stuck {α : Type} : Loc (Rd.stuck (α := α)) :=
  ⟨fun I p y q hp h => by simp [Rd.stuck] at h, fun I J p y q hp h _ _ => by simp [Rd.stuck] at h, fun I J p y q hp h _ _ _ => by simp [Rd.stuck] at h, fun I J p e hp h _ _ _ => by cases h⟩

theorem bind_ok {α β : Type} {r : Rd α} {k : α → Rd β} {I : In} {p : Nat} {y : β} {q : Nat} (h : r.bind k I p = .ok y q) : ∃ x o, r I p = .ok x o ∧ k x I o = .ok y q := by
  unfold Rd.bind at h
  cases hr : r I p with
  | ok x o => rw [hr] at h; exact ⟨x, o, rfl, h⟩
  | bad e => rw [hr] at h; cases h
  | more => rw [hr] at h; cases h

theorem bind_of {α β : Type} {r : Rd α} {k : α → Rd β} {I : In} {p o : Nat} {x : α} (h : r I p = .ok x o) : r.bind k I p = k x I o := by unfold Rd.bind; rw [h]
theorem bind_bad {α β : Type} {r : Rd α} {k : α → Rd β} {I : In} {p e : Nat} (h : r I p = .bad e) : r.bind k I p = .bad e := by unfold Rd.bind; rw [h]

theorem Loc.bind {α β : Type} {r : Rd α} {k : α → Rd β} (h : Loc r) (hk : ∀ x, Loc (k x)) : Loc (r.bind k) := by
  refine ⟨fun I p y q hp e => ?_, fun I J p y q hp e ha hq => ?_, fun I J p y q hp e ha hpj hq => ?_, fun I J p e hp h0 h10 ha hm => ?_⟩
  · obtain ⟨x, o, h1, h2⟩ := bind_ok e
    obtain ⟨l1, l2⟩ := h.le I p x o hp h1
    obtain ⟨l3, l4⟩ := (hk x).le I o y q l2 h2
    omega
  · obtain ⟨x, o, h1, h2⟩ := bind_ok e
    obtain ⟨l1, l2⟩ := h.le I p x o hp h1
    obtain ⟨l3, l4⟩ := (hk x).le I o y q l2 h2
    rw [bind_of (h.ext I J p x o hp h1 (ha.mono l3) (by omega))]
    exact (hk x).ext I J o y q l2 h2 ha hq
  · obtain ⟨x, o, h1, h2⟩ := bind_ok e
    obtain ⟨l1, l2⟩ := h.le I p x o hp h1
    by_cases ho : J.m < o
    · exact bind_bad (h.cut I J p x o hp h1 ha hpj ho)
    · rw [bind_of (h.ext I J p x o hp h1 (ha.mono (by omega)) (by omega))]
      exact (hk x).cut I J o y q l2 h2 ha (by omega) hq
  · cases hr : r I p with
    | ok x o =>
      rw [bind_of hr] at h0
      obtain ⟨l1, l2⟩ := h.le I p x o hp hr
      rw [bind_of (h.ext I J p x o hp hr (ha.mono l2) (by omega))]
      exact (hk x).err I J o e l2 h0 h10 ha hm
    | bad e' =>
      rw [bind_bad hr] at h0
      injection h0 with h0
      subst h0
      exact bind_bad (h.err I J p e' hp hr h10 ha hm)
    | more => simp [Rd.bind, hr] at h0

/-- n bits from a place on, the lowest first -/
def num (f : Nat → Bool) (p : Nat) : Nat → Nat
  | 0 => 0
  | n + 1 => num f p n + (f (p + n)).toNat * 2 ^ n

theorem num_same {f g : Nat → Bool} {p : Nat} : ∀ n, (∀ i, i < p + n → g i = f i) → num g p n = num f p n
  | 0, _ => rfl
  | n + 1, h => by rw [num, num, num_same n (fun i hi => h i (by omega)), h (p + n) (by omega)]

theorem num_lt (f : Nat → Bool) (p : Nat) : ∀ n, num f p n < 2 ^ n
  | 0 => by simp [num]
  | n + 1 => by
    have := num_lt f p n
    have h2 := Bool.toNat_le (f (p + n))
    rw [num, Nat.pow_succ]
    have : (f (p + n)).toNat * 2 ^ n ≤ 1 * 2 ^ n := Nat.mul_le_mul_right _ h2
    omega

/-- a number of n bits -/
def get (n : Nat) : Rd Nat := fun I p => if p + n ≤ I.m then .ok (num I.f p n) (p + n) else .bad 10

theorem Loc.get (n : Nat) : Loc (get n) := by
  refine ⟨fun I p x q hp h => ?_, fun I J p x q hp h ha hq => ?_, fun I J p x q hp h ha hpj hq => ?_, fun I J p e hp h h10 ha hm => ?_⟩
  · unfold Infl.get at h
    split at h
    · simp only [Res.ok.injEq] at h; omega
    · cases h
  · unfold Infl.get at h ⊢
    split at h
    · simp only [Res.ok.injEq] at h
      obtain ⟨rfl, rfl⟩ := h
      rw [if_pos hq, num_same n (fun i hi => ha i hi)]
    · cases h
  · unfold Infl.get at h ⊢
    split at h
    · simp only [Res.ok.injEq] at h
      rw [if_neg (by omega)]
    · cases h
  · unfold Infl.get at h
    split at h
    · cases h
    · injection h with h; omega

/-- on to a whole byte -/
def align : Rd Unit := fun _ p => .ok () ((p + 7) / 8 * 8)

theorem Loc.align : Loc align := by
  refine ⟨fun I p x q hp h => ?_, fun I J p x q hp h ha hq => ?_, fun I J p x q hp h ha hpj hq => ?_, fun I J p e hp h h10 ha hm => ?_⟩
  · simp only [Infl.align, Res.ok.injEq] at h
    unfold In.m at *
    omega
  · simp only [Infl.align, Res.ok.injEq] at h ⊢
    exact h
  · simp only [Infl.align, Res.ok.injEq] at h
    unfold In.m at *
    omega
  · cases h

/-- what is got by a code of any bits: a symbol, how many bits, an error -/
structure GL (g : List Nat → (Nat → Bool) → Nat → Nat × Nat × Nat) : Prop where
  le : ∀ ls f m s n e, g ls f m = (s, n, e) → n ≤ m
  loc : ∀ ls f m s n f' m', g ls f m = (s, n, 0) → n ≤ m' → (∀ i, i < n → f' i = f i) → g ls f' m' = (s, n, 0)
  cut : ∀ ls f m s n f' m', g ls f m = (s, n, 0) → m' < n → (∀ i, i < m' → f' i = f i) → (g ls f' m').2.2 = 10
  err : ∀ ls f m s n e f' m', g ls f m = (s, n, e) → e ≠ 10 → m ≤ m' → (∀ i, i < m → f' i = f i) → g ls f' m' = (s, n, e)

section
variable (g : List Nat → (Nat → Bool) → Nat → Nat × Nat × Nat) (ce : List Nat → Nat → Bool → Nat)

/-- a word of a code -/
def word (ls : List Nat) : Rd Nat := fun I p => match g ls (fun i => I.f (p + i)) (I.m - p) with
  | (s, n, 0) => .ok s (p + n)
  | (_, _, e + 1) => .bad (e + 1)

theorem word_ok {ls : List Nat} {I : In} {p s q : Nat} (h : word g ls I p = .ok s q) : ∃ n, g ls (fun i => I.f (p + i)) (I.m - p) = (s, n, 0) ∧ q = p + n := by
  unfold word at h
  split at h
  · rename_i s' n' he
    simp only [Res.ok.injEq] at h
    obtain ⟨rfl, rfl⟩ := h
    exact ⟨_, he, rfl⟩
  · cases h

theorem Loc.word (hg : GL g) (ls : List Nat) : Loc (word g ls) := by
  refine ⟨fun I p x q hp h => ?_, fun I J p x q hp h ha hq => ?_, fun I J p x q hp h ha hpj hq => ?_, fun I J p e hp h h10 ha hm => ?_⟩
  · obtain ⟨n, h1, rfl⟩ := word_ok g h
    have := hg.le _ _ _ _ _ _ h1
    omega
  · obtain ⟨n, h1, rfl⟩ := word_ok g h
    have h2 := hg.loc _ _ _ _ _ (fun i => J.f (p + i)) (J.m - p) h1 (by omega) (fun i hi => ha (p + i) (by omega))
    unfold Infl.word
    rw [h2]
  · obtain ⟨n, h1, rfl⟩ := word_ok g h
    have h2 := hg.cut _ _ _ _ _ (fun i => J.f (p + i)) (J.m - p) h1 (by omega) (fun i hi => ha (p + i) (by omega))
    unfold Infl.word
    rcases hr : g ls (fun i => J.f (p + i)) (J.m - p) with ⟨s', n', e'⟩
    rw [hr] at h2
    simp only at h2
    subst h2
    rfl
  · rcases hr : g ls (fun i => I.f (p + i)) (I.m - p) with ⟨s', n', e'⟩
    unfold Infl.word at h
    rw [hr] at h
    cases e' with
    | zero => cases h
    | succ e' =>
      injection h with h
      have h2 := hg.err _ _ _ _ _ _ (fun i => J.f (p + i)) (J.m - p) hr (by omega) (by omega) (fun i hi => ha (p + i) (by omega))
      unfold Infl.word
      rw [h2, ← h]

/-- a length's symbol: the least length, and how many bits -/
def lenOf (s : Nat) : Nat × Nat := if s - 257 < 8 then (3 + (s - 257), 0) else if s - 257 = 28 then (258, 0) else (3 + (4 + (s - 257) % 4) * 2 ^ ((s - 257) / 4 - 1), (s - 257) / 4 - 1)

/-- a distance's symbol -/
def distOf (d : Nat) : Nat × Nat := if d < 4 then (1 + d, 0) else (1 + (2 + d % 2) * 2 ^ (d / 2 - 1), d / 2 - 1)

/-- one token behind a text: none ends the block -/
def tok (lits dists : List Nat) (most : Nat) (out : List Nat) : Rd (Option (List Nat)) :=
  (word g lits).bind fun s =>
    if s = 256 then Rd.pure none
    else if s < 256 then (if most ≤ out.length then Rd.fail 3 else Rd.pure (some (out ++ [s])))
    else if 285 < s then Rd.fail 11
    else (get (lenOf s).2).bind fun x => (word g dists).bind fun d =>
      if 29 < d then Rd.fail 11 else (get (distOf d).2).bind fun y =>
        if out.length < (distOf d).1 + y then Rd.fail 14
        else if most < out.length + ((lenOf s).1 + x) then Rd.fail 3
        else Rd.pure (some (cp ((distOf d).1 + y) ((lenOf s).1 + x) out))

/-- tokens up to the block's end -/
def toks (lits dists : List Nat) (most : Nat) : Nat → List Nat → Rd (List Nat)
  | 0, _ => Rd.stuck
  | k + 1, out => (tok g lits dists most out).bind fun o => match o with
    | none => Rd.pure out
    | some out' => toks lits dists most k out'

/-- n bytes -/
def bytes : Nat → List Nat → Rd (List Nat)
  | 0, out => Rd.pure out
  | n + 1, out => (get 8).bind fun b => bytes n (out ++ [b])

/-- a block that stands as it is -/
def stored (most : Nat) (out : List Nat) : Rd (List Nat) :=
  align.bind fun _ => (get 16).bind fun n => (get 16).bind fun m =>
    if m ≠ 65535 - n then Rd.fail 11 else if most < out.length + n then Rd.fail 3 else bytes n out

/-- k numbers of three bits -/
def threes : Nat → List Nat → Rd (List Nat)
  | 0, l => Rd.pure l
  | k + 1, l => (get 3).bind fun v => threes k (l ++ [v])

def order : List Nat := [16, 17, 18, 0, 8, 7, 9, 6, 10, 5, 11, 4, 12, 3, 13, 2, 14, 1, 15]

/-- the lengths of the code of lengths -/
def ownOf (vs : List Nat) : List Nat := (List.range 19).map fun j => vs.getD (order.idxOf j) 0

/-- the lengths of both codes -/
def lens (own : List Nat) (tot : Nat) : Nat → List Nat → Rd (List Nat)
  | 0, all => if tot ≤ all.length then Rd.pure all else Rd.stuck
  | k + 1, all => if tot ≤ all.length then Rd.pure all else
    (word g own).bind fun s =>
      if s = 16 then (get 2).bind fun x => if all = [] then Rd.fail 11 else if tot < all.length + (3 + x) then Rd.fail 11 else lens own tot k (all ++ List.replicate (3 + x) (all.getD (all.length - 1) 0))
      else if s = 17 then (get 3).bind fun x => if tot < all.length + (3 + x) then Rd.fail 11 else lens own tot k (all ++ List.replicate (3 + x) 0)
      else if s = 18 then (get 7).bind fun x => if tot < all.length + (11 + x) then Rd.fail 11 else lens own tot k (all ++ List.replicate (11 + x) 0)
      else lens own tot k (all ++ [s])

/-- an error that is none goes on -/
def okE {α : Type} (e : Nat) (r : Rd α) : Rd α := if e = 0 then r else Rd.fail e

/-- a block whose codes are told -/
def told (most fuel : Nat) (out : List Nat) : Rd (List Nat) :=
  (get 5).bind fun l => (get 5).bind fun d => (get 4).bind fun k =>
    if 286 < l + 257 ∨ 30 < d + 1 then Rd.fail 11
    else (threes (k + 4) []).bind fun vs => okE (ce (ownOf vs) 7 false) ((lens g (ownOf vs) (l + 257 + (d + 1)) (l + 257 + (d + 1)) []).bind fun all =>
      if all.getD 256 0 = 0 then Rd.fail 11
      else okE (ce (all.take (l + 257)) 15 true) (okE (ce (all.drop (l + 257)) 15 true) (toks g (all.take (l + 257)) (all.drop (l + 257)) most fuel out)))

def fixedL : List Nat := (List.range 288).map fun i => if 144 ≤ i ∧ i < 256 then 9 else if 256 ≤ i ∧ i < 280 then 7 else 8
def fixedD : List Nat := List.replicate 32 5

/-- a block: whether it is the last one, and what has come out -/
def block (most fuel : Nat) (out : List Nat) : Rd (Nat × List Nat) :=
  (get 1).bind fun last => (get 2).bind fun kind =>
    (if kind = 0 then stored most out else if kind = 1 then toks g fixedL fixedD most fuel out else if kind = 2 then told g ce most fuel out else Rd.fail 16).bind fun o => Rd.pure (last, o)

/-- blocks up to the last one -/
def blocks (most fuel : Nat) : Nat → List Nat → Rd (List Nat)
  | 0, _ => Rd.stuck
  | k + 1, out => (block g ce most fuel out).bind fun r => if r.1 = 1 then Rd.pure r.2 else blocks most fuel k r.2

theorem Loc.ite {α : Type} {c : Prop} [Decidable c] {r r' : Rd α} (h : Loc r) (h' : Loc r') : Loc (if c then r else r') := by
  split
  · exact h
  · exact h'

variable {g ce}

theorem Loc.tok (hg : GL g) (lits dists : List Nat) (most : Nat) (out : List Nat) : Loc (tok g lits dists most out) :=
  (Loc.word g hg lits).bind fun s => .ite (.pure _) (.ite (.ite (.fail _) (.pure _)) (.ite (.fail _) ((Loc.get _).bind fun x => (Loc.word g hg dists).bind fun d => .ite (.fail _) ((Loc.get _).bind fun y => .ite (.fail _) (.ite (.fail _) (.pure _))))))

theorem Loc.toks (hg : GL g) (lits dists : List Nat) (most : Nat) : ∀ k out, Loc (toks g lits dists most k out)
  | 0, _ => .stuck
  | k + 1, out => (Loc.tok hg lits dists most out).bind fun o => match o with
    | none => .pure _
    | some o' => Loc.toks hg lits dists most k o'

theorem Loc.bytes : ∀ n out, Loc (bytes n out)
  | 0, out => .pure _
  | n + 1, out => (Loc.get 8).bind fun b => Loc.bytes n _

theorem Loc.stored (most : Nat) (out : List Nat) : Loc (stored most out) :=
  Loc.align.bind fun _ => (Loc.get 16).bind fun n => (Loc.get 16).bind fun m => .ite (.fail _) (.ite (.fail _) (Loc.bytes n out))

theorem Loc.threes : ∀ k l, Loc (threes k l)
  | 0, l => .pure _
  | k + 1, l => (Loc.get 3).bind fun v => Loc.threes k _

theorem Loc.lens (hg : GL g) (own : List Nat) (tot : Nat) : ∀ k all, Loc (lens g own tot k all)
  | 0, all => .ite (.pure _) .stuck
  | k + 1, all => .ite (.pure _) ((Loc.word g hg own).bind fun s => .ite ((Loc.get 2).bind fun x => .ite (.fail _) (.ite (.fail _) (Loc.lens hg own tot k _)))
      (.ite ((Loc.get 3).bind fun x => .ite (.fail _) (Loc.lens hg own tot k _)) (.ite ((Loc.get 7).bind fun x => .ite (.fail _) (Loc.lens hg own tot k _)) (Loc.lens hg own tot k _))))

theorem Loc.okE {α : Type} (e : Nat) {r : Rd α} (h : Loc r) : Loc (okE e r) := .ite h (.fail _)

theorem Loc.told (hg : GL g) (most fuel : Nat) (out : List Nat) : Loc (told g ce most fuel out) :=
  (Loc.get 5).bind fun l => (Loc.get 5).bind fun d => (Loc.get 4).bind fun k => .ite (.fail _) ((Loc.threes _ _).bind fun vs => .okE _ ((Loc.lens hg _ _ _ _).bind fun all => .ite (.fail _) (.okE _ (.okE _ (Loc.toks hg _ _ most fuel out)))))

theorem Loc.block (hg : GL g) (most fuel : Nat) (out : List Nat) : Loc (block g ce most fuel out) :=
  (Loc.get 1).bind fun last => (Loc.get 2).bind fun kind => (Loc.ite (Loc.stored most out) (.ite (Loc.toks hg _ _ most fuel out) (.ite (Loc.told hg most fuel out) (.fail _)))).bind fun o => .pure _

theorem Loc.blocks (hg : GL g) (most fuel : Nat) : ∀ k out, Loc (blocks g ce most fuel k out)
  | 0, _ => .stuck
  | k + 1, out => (Loc.block hg most fuel out).bind fun r => .ite (.pure _) (Loc.blocks hg most fuel k r.2)
end

end Go.Proofs.YtabeanealkopbaaGreat.Infl
end

section
namespace Go.Proofs.YtabeanealkopbaaGreat.Infl
set_option linter.unusedVariables false

/-- what the first tells, the second tells -/
def Up {α : Type} (r r' : Rd α) : Prop := ∀ I p, r I p ≠ .more → r' I p = r I p

theorem Up.refl {α : Type} (r : Rd α) : Up r r := fun _ _ _ => rfl
theorem Up.stuck {α : Type} (r : Rd α) : Up (Rd.stuck (α := α)) r := fun _ _ h => absurd rfl h
theorem Up.ite {α : Type} {c : Prop} [Decidable c] {r r' s s' : Rd α} (h : Up r r') (h' : Up s s') : Up (if c then r else s) (if c then r' else s') := by
  split
  · exact h
  · exact h'

theorem Up.bind {α β : Type} {r r' : Rd α} {k k' : α → Rd β} (h : Up r r') (hk : ∀ x, Up (k x) (k' x)) : Up (r.bind k) (r'.bind k') := fun I p hne => by
  unfold Rd.bind at hne ⊢
  cases hr : r I p with
  | ok x q =>
    rw [hr] at hne
    rw [h I p (by rw [hr]; simp), hr]
    exact hk x I q hne
  | bad e => rw [h I p (by rw [hr]; simp), hr]
  | more => rw [hr] at hne; exact absurd rfl hne

theorem Up.trans {α : Type} {r s t : Rd α} (h : Up r s) (h' : Up s t) : Up r t := fun I p hne => by
  have h1 := h I p hne
  rw [h' I p (by rw [h1]; exact hne), h1]

section
variable {g : List Nat → (Nat → Bool) → Nat → Nat × Nat × Nat} {ce : List Nat → Nat → Bool → Nat}

theorem Up.toks (lits dists : List Nat) (most : Nat) : ∀ k k' out, k ≤ k' → Up (toks g lits dists most k out) (toks g lits dists most k' out)
  | 0, k', out, _ => Up.stuck _
  | k + 1, 0, out, h => by omega
  | k + 1, k' + 1, out, h => (Up.refl _).bind fun o => match o with
    | none => Up.refl _
    | some o' => Up.toks lits dists most k k' o' (by omega)

theorem Up.told (most f f' : Nat) (out : List Nat) (h : f ≤ f') : Up (told g ce most f out) (told g ce most f' out) :=
  (Up.refl _).bind fun l => (Up.refl _).bind fun d => (Up.refl _).bind fun k => .ite (.refl _) ((Up.refl _).bind fun vs => .ite ((Up.refl _).bind fun all => .ite (.refl _) (.ite (.ite (Up.toks _ _ _ _ _ _ h) (.refl _)) (.refl _))) (.refl _))

theorem Up.block (most f f' : Nat) (out : List Nat) (h : f ≤ f') : Up (block g ce most f out) (block g ce most f' out) :=
  (Up.refl _).bind fun last => (Up.refl _).bind fun kind => (Up.ite (.refl _) (.ite (Up.toks _ _ _ _ _ _ h) (.ite (Up.told _ _ _ _ h) (.refl _)))).bind fun o => .refl _

theorem Up.blocks (most f f' : Nat) (h : f ≤ f') : ∀ k k' out, k ≤ k' → Up (blocks g ce most f k out) (blocks g ce most f' k' out)
  | 0, k', out, _ => Up.stuck _
  | k + 1, 0, out, h => by omega
  | k + 1, k' + 1, out, hk => (Up.block most f f' out h).bind fun r => .ite (.refl _) (Up.blocks most f f' h k k' r.2 (by omega))

variable (g ce)

/-- what is told of bits -/
def Tells (I : In) (most : Nat) (r : Res (List Nat)) : Prop := r ≠ .more ∧ ∃ f k, blocks g ce most f k [] I 0 = r

variable {g ce}

theorem Tells.one {I : In} {most : Nat} {r r' : Res (List Nat)} (h : Tells g ce I most r) (h' : Tells g ce I most r') : r = r' := by
  obtain ⟨h1, f, k, e⟩ := h
  obtain ⟨h1', f', k', e'⟩ := h'
  have a := Up.blocks (g := g) (ce := ce) most f (max f f') (by omega) k (max k k') [] (by omega) I 0 (by rw [e]; exact h1)
  have b := Up.blocks (g := g) (ce := ce) most f' (max f f') (by omega) k' (max k k') [] (by omega) I 0 (by rw [e']; exact h1')
  rw [← e, ← e', ← a, ← b]

theorem Tells.le (hg : GL g) {I : In} {most q : Nat} {out : List Nat} (h : Tells g ce I most (.ok out q)) : q ≤ I.m := by
  obtain ⟨_, f, k, e⟩ := h
  exact ((Loc.blocks hg most f k []).le I 0 out q (Nat.zero_le _) e).2

/-- what stands behind is not looked at -/
theorem Tells.ext (hg : GL g) {I J : In} {most q : Nat} {out : List Nat} (h : Tells g ce I most (.ok out q)) (ha : Agree I J q) (hq : q ≤ J.m) : Tells g ce J most (.ok out q) := by
  obtain ⟨h1, f, k, e⟩ := h
  exact ⟨h1, f, k, (Loc.blocks hg most f k []).ext I J 0 out q (Nat.zero_le _) e ha hq⟩

/-- fewer bits never tell a text -/
theorem Tells.cut (hg : GL g) {I J : In} {most q : Nat} {out : List Nat} (h : Tells g ce I most (.ok out q)) (ha : Agree I J J.m) (hq : J.m < q) : Tells g ce J most (.bad 10) := by
  obtain ⟨h1, f, k, e⟩ := h
  exact ⟨by simp, f, k, (Loc.blocks hg most f k []).cut I J 0 out q (Nat.zero_le _) e ha (Nat.zero_le _) hq⟩

/-- an error that is not that bits end stays with more bits -/
theorem Tells.err (hg : GL g) {I J : In} {most e : Nat} (h : Tells g ce I most (.bad e)) (h10 : e ≠ 10) (ha : Agree I J I.m) (hm : I.m ≤ J.m) : Tells g ce J most (.bad e) := by
  obtain ⟨h1, f, k, e'⟩ := h
  exact ⟨h1, f, k, (Loc.blocks hg most f k []).err I J 0 e (Nat.zero_le _) e' h10 ha hm⟩

/-- less room never tells another text -/
def Room (F : Nat → List Nat → Rd (List Nat)) : Prop := ∀ M N out I p out' q, out.length ≤ N → F M out I p = .ok out' q → out.length ≤ out'.length ∧ (out'.length ≤ N → F N out I p = .ok out' q) ∧ (N < out'.length → F N out I p = .bad 3)

theorem tok_room (lits dists : List Nat) {M N : Nat} {out : List Nat} {I : In} {p q : Nat} {o : Option (List Nat)} (hN : out.length ≤ N) (h : tok g lits dists M out I p = .ok o q) :
    (o = none → tok g lits dists N out I p = .ok none q) ∧ ∀ out', o = some out' → out.length ≤ out'.length ∧ (out'.length ≤ N → tok g lits dists N out I p = .ok (some out') q) ∧ (N < out'.length → tok g lits dists N out I p = .bad 3) := by
  unfold tok at h ⊢
  obtain ⟨s, p1, h1, h2⟩ := bind_ok h
  rw [bind_of h1]
  by_cases e1 : s = 256
  · simp only [if_pos e1] at h2 ⊢
    simp only [Rd.pure, Res.ok.injEq] at h2
    obtain ⟨rfl, rfl⟩ := h2
    exact ⟨fun _ => rfl, fun out' e => by cases e⟩
  · simp only [if_neg e1] at h2 ⊢
    by_cases e2 : s < 256
    · simp only [if_pos e2] at h2 ⊢
      by_cases e3 : M ≤ out.length
      · rw [if_pos e3] at h2; cases h2
      · rw [if_neg e3] at h2
        simp only [Rd.pure, Res.ok.injEq] at h2
        obtain ⟨rfl, rfl⟩ := h2
        refine ⟨fun e => (by cases e), fun out' e => ?_⟩
        injection e with e
        subst e
        simp only [List.length_append, List.length_cons, List.length_nil]
        refine ⟨by omega, fun hl => by rw [if_neg (by omega)]; rfl, fun hl => by rw [if_pos (by omega)]; rfl⟩
    · simp only [if_neg e2] at h2 ⊢
      by_cases e4 : 285 < s
      · rw [if_pos e4] at h2; cases h2
      · simp only [if_neg e4] at h2 ⊢
        obtain ⟨x, p2, h3, h4⟩ := bind_ok h2
        rw [bind_of h3]
        obtain ⟨d, p3, h5, h6⟩ := bind_ok h4
        rw [bind_of h5]
        by_cases e5 : 29 < d
        · rw [if_pos e5] at h6; cases h6
        · simp only [if_neg e5] at h6 ⊢
          obtain ⟨y, p4, h7, h8⟩ := bind_ok h6
          rw [bind_of h7]
          by_cases e6 : out.length < (distOf d).1 + y
          · rw [if_pos e6] at h8; cases h8
          · simp only [if_neg e6] at h8 ⊢
            by_cases e7 : M < out.length + ((lenOf s).1 + x)
            · rw [if_pos e7] at h8; cases h8
            · rw [if_neg e7] at h8
              simp only [Rd.pure, Res.ok.injEq] at h8
              obtain ⟨rfl, rfl⟩ := h8
              refine ⟨fun e => (by cases e), fun out' e => ?_⟩
              injection e with e
              subst e
              rw [cp_length]
              refine ⟨by omega, fun hl => by rw [if_neg (by omega)]; rfl, fun hl => by rw [if_pos (by omega)]; rfl⟩

theorem Room.toks (lits dists : List Nat) : ∀ k, Room (fun M out => toks g lits dists M k out)
  | 0 => fun M N out I p out' q hN h => by cases h
  | k + 1 => fun M N out I p out' q hN h => by
    obtain ⟨o, p1, h1, h2⟩ := bind_ok h
    have ht := tok_room lits dists hN h1
    cases o with
    | none =>
      simp only [Rd.pure, Res.ok.injEq] at h2
      obtain ⟨rfl, rfl⟩ := h2
      exact ⟨Nat.le_refl _, fun _ => by show (tok g lits dists N out).bind _ I p = _; rw [bind_of (ht.1 rfl)]; rfl, fun h => by omega⟩
    | some o' =>
      obtain ⟨l1, l2, l3⟩ := ht.2 o' rfl
      by_cases hl : o'.length ≤ N
      · obtain ⟨r1, r2, r3⟩ := Room.toks lits dists k M N o' I p1 out' q hl h2
        exact ⟨by omega, fun h => by show (tok g lits dists N out).bind _ I p = _; rw [bind_of (l2 hl)]; exact r2 h, fun h => by show (tok g lits dists N out).bind _ I p = _; rw [bind_of (l2 hl)]; exact r3 h⟩
      · have hle : o'.length ≤ out'.length := (Room.toks lits dists k M o'.length o' I p1 out' q (Nat.le_refl _) h2).1
        exact ⟨by omega, fun h => by omega, fun _ => by show (tok g lits dists N out).bind _ I p = _; rw [bind_bad (l3 (by omega))]⟩

theorem bytes_len : ∀ n out I p out' q, bytes n out I p = .ok out' q → out'.length = out.length + n
  | 0, out, I, p, out', q, h => by
    simp only [bytes, Rd.pure, Res.ok.injEq] at h
    rw [← h.1]; rfl
  | n + 1, out, I, p, out', q, h => by
    obtain ⟨b, p1, h1, h2⟩ := bind_ok h
    have := bytes_len n _ I p1 out' q h2
    simp at this
    omega

theorem Room.stored : Room stored := fun M N out I p out' q hN h => by
  unfold Infl.stored at h ⊢
  obtain ⟨u, p1, h1, h2⟩ := bind_ok h
  obtain ⟨n, p2, h3, h4⟩ := bind_ok h2
  obtain ⟨m, p3, h5, h6⟩ := bind_ok h4
  rw [bind_of h1, bind_of h3, bind_of h5]
  by_cases e1 : m ≠ 65535 - n
  · rw [if_pos e1] at h6; cases h6
  · simp only [if_neg e1] at h6 ⊢
    by_cases e2 : M < out.length + n
    · rw [if_pos e2] at h6; cases h6
    · rw [if_neg e2] at h6
      have hl := bytes_len n out I p3 out' q h6
      exact ⟨by omega, fun h => by rw [if_neg (by omega)]; exact h6, fun h => by rw [if_pos (by omega)]; rfl⟩

theorem okE_ok {α : Type} {e : Nat} {r : Rd α} {I : In} {p q : Nat} {x : α} (h : okE e r I p = .ok x q) : e = 0 ∧ r I p = .ok x q := by
  unfold okE at h
  by_cases e0 : e = 0
  · rw [if_pos e0] at h; exact ⟨e0, h⟩
  · rw [if_neg e0] at h; cases h

theorem okE_of {α : Type} {e : Nat} (r : Rd α) (h : e = 0) : okE e r = r := if_pos h

theorem Room.told (f : Nat) : Room (fun M out => told g ce M f out) := fun M N out I p out' q hN h => by
  simp only [Infl.told] at h ⊢
  obtain ⟨l, p1, h1, h2⟩ := bind_ok h
  obtain ⟨d, p2, h3, h4⟩ := bind_ok h2
  obtain ⟨k, p3, h5, h6⟩ := bind_ok h4
  rw [bind_of h1, bind_of h3, bind_of h5]
  by_cases e1 : 286 < l + 257 ∨ 30 < d + 1
  · rw [if_pos e1] at h6; cases h6
  · simp only [if_neg e1] at h6 ⊢
    obtain ⟨vs, p4, h7, h8⟩ := bind_ok h6
    rw [bind_of h7]
    obtain ⟨e2, h9⟩ := okE_ok h8
    simp only [okE_of _ e2]
    obtain ⟨all, p5, h10, h11⟩ := bind_ok h9
    rw [bind_of h10]
    by_cases e3 : all.getD 256 0 = 0
    · rw [if_pos e3] at h11; cases h11
    · simp only [if_neg e3] at h11 ⊢
      obtain ⟨e4, h12⟩ := okE_ok h11
      obtain ⟨e5, h13⟩ := okE_ok h12
      simp only [okE_of _ e4, okE_of _ e5]
      exact Room.toks _ _ f M N out I p5 out' q hN h13

theorem block_room (f : Nat) {M N : Nat} {out : List Nat} {I : In} {p q : Nat} {r : Nat × List Nat} (hN : out.length ≤ N) (h : block g ce M f out I p = .ok r q) :
    out.length ≤ r.2.length ∧ (r.2.length ≤ N → block g ce N f out I p = .ok r q) ∧ (N < r.2.length → block g ce N f out I p = .bad 3) := by
  unfold block at h ⊢
  obtain ⟨last, p1, h1, h2⟩ := bind_ok h
  obtain ⟨kind, p2, h3, h4⟩ := bind_ok h2
  rw [bind_of h1, bind_of h3]
  obtain ⟨o, p3, h5, h6⟩ := bind_ok h4
  simp only [Rd.pure, Res.ok.injEq] at h6
  obtain ⟨rfl, rfl⟩ := h6
  have key : out.length ≤ o.length ∧ (o.length ≤ N → (if kind = 0 then stored N out else if kind = 1 then toks g fixedL fixedD N f out else if kind = 2 then told g ce N f out else Rd.fail 16) I p2 = .ok o p3) ∧ (N < o.length → (if kind = 0 then stored N out else if kind = 1 then toks g fixedL fixedD N f out else if kind = 2 then told g ce N f out else Rd.fail 16) I p2 = .bad 3) := by
    by_cases k0 : kind = 0
    · simp only [if_pos k0] at h5 ⊢
      exact Room.stored M N out I p2 o p3 hN h5
    · simp only [if_neg k0] at h5 ⊢
      by_cases k1 : kind = 1
      · simp only [if_pos k1] at h5 ⊢
        exact Room.toks _ _ f M N out I p2 o p3 hN h5
      · simp only [if_neg k1] at h5 ⊢
        by_cases k2 : kind = 2
        · simp only [if_pos k2] at h5 ⊢
          exact Room.told f M N out I p2 o p3 hN h5
        · rw [if_neg k2] at h5; cases h5
  exact ⟨key.1, fun h => by rw [bind_of (key.2.1 h)]; rfl, fun h => by rw [bind_bad (key.2.2 h)]⟩

theorem Room.blocks (f : Nat) : ∀ k, Room (fun M out => blocks g ce M f k out)
  | 0 => fun M N out I p out' q hN h => by cases h
  | k + 1 => fun M N out I p out' q hN h => by
    obtain ⟨r, p1, h1, h2⟩ := bind_ok h
    obtain ⟨l1, l2, l3⟩ := block_room f hN h1
    show _ ∧ (_ → (block g ce N f out).bind _ I p = _) ∧ (_ → (block g ce N f out).bind _ I p = _)
    by_cases hr : r.1 = 1
    · simp only [if_pos hr, Rd.pure, Res.ok.injEq] at h2
      obtain ⟨rfl, rfl⟩ := h2
      exact ⟨l1, fun h => by rw [bind_of (l2 h)]; simp only [if_pos hr]; rfl, fun h => by rw [bind_bad (l3 h)]⟩
    · simp only [if_neg hr] at h2
      by_cases hl : r.2.length ≤ N
      · obtain ⟨r1, r2, r3⟩ := Room.blocks f k M N r.2 I p1 out' q hl h2
        exact ⟨by omega, fun h => by rw [bind_of (l2 hl)]; simp only [if_neg hr]; exact r2 h, fun h => by rw [bind_of (l2 hl)]; simp only [if_neg hr]; exact r3 h⟩
      · have hle := (Room.blocks f k M r.2.length r.2 I p1 out' q (Nat.le_refl _) h2).1
        exact ⟨by omega, fun h => by omega, fun _ => by rw [bind_bad (l3 (by omega))]⟩

/-- less room -/
theorem Tells.room {I : In} {M N q : Nat} {out : List Nat} (h : Tells g ce I M (.ok out q)) : (out.length ≤ N → Tells g ce I N (.ok out q)) ∧ (N < out.length → Tells g ce I N (.bad 3)) := by
  obtain ⟨h1, f, k, e⟩ := h
  obtain ⟨_, h2, h3⟩ := Room.blocks f k M N [] I 0 out q (Nat.zero_le _) e
  exact ⟨fun h => ⟨by simp, f, k, h2 h⟩, fun h => ⟨by simp, f, k, h3 h⟩⟩
end

end Go.Proofs.YtabeanealkopbaaGreat.Infl
end

section
namespace Go.Proofs.YtabeanealkopbaaGreat.Infl
set_option linter.unusedVariables false

/-- the first n bits, behind a 1 -/
def kf (f : Nat → Bool) : Nat → Nat
  | 0 => 1
  | n + 1 => 2 * kf f n + (f n).toNat

theorem kf_same {f h : Nat → Bool} : ∀ n, (∀ i, i < n → h i = f i) → kf h n = kf f n
  | 0, _ => rfl
  | n + 1, e => by rw [kf, kf, kf_same n (fun i hi => e i (by omega)), e n (by omega)]

/-- what is got of m bits: W s k: k is s's word; B k: k is a word's beginning -/
def GetP (W : Nat → Nat → Prop) (B : Nat → Prop) (f : Nat → Bool) (m s n e : Nat) : Prop :=
  n ≤ m ∧ (∀ j, 1 ≤ j → j < n → B (kf f j) ∧ ∀ i, ¬ W i (kf f j)) ∧
  ((e = 0 ∧ 1 ≤ n ∧ W s (kf f n)) ∨ (e = 11 ∧ s = 0 ∧ 1 ≤ n ∧ ¬ B (kf f n)) ∨ (e = 10 ∧ s = 0 ∧ n = m ∧ (1 ≤ n → B (kf f n) ∧ ∀ i, ¬ W i (kf f n))))

variable {W : Nat → Nat → Prop} {B : Nat → Prop}

theorem GetP.has (W : Nat → Nat → Prop) (B : Nat → Prop) (f : Nat → Bool) : ∀ m, ∃ s n e, GetP W B f m s n e := by
  have key : ∀ d m n, m - n = d → n ≤ m → (∀ j, 1 ≤ j → j ≤ n → B (kf f j) ∧ ∀ i, ¬ W i (kf f j)) → ∃ s n e, GetP W B f m s n e := by
    intro d
    induction d with
    | zero =>
      intro m n hd hn h
      have e : n = m := by omega
      subst e
      exact ⟨0, n, 10, Nat.le_refl _, fun j h1 h2 => h j h1 (by omega), .inr (.inr ⟨rfl, rfl, rfl, fun h1 => h n h1 (Nat.le_refl _)⟩)⟩
    | succ d ih =>
      intro m n hd hn h
      by_cases hw : ∃ s, W s (kf f (n + 1))
      · obtain ⟨s, hw⟩ := hw
        exact ⟨s, n + 1, 0, by omega, fun j h1 h2 => h j h1 (by omega), .inl ⟨rfl, by omega, hw⟩⟩
      · by_cases hb : B (kf f (n + 1))
        · refine ih m (n + 1) (by omega) (by omega) (fun j h1 h2 => ?_)
          by_cases e : j = n + 1
          · subst e; exact ⟨hb, fun i hi => hw ⟨i, hi⟩⟩
          · exact h j h1 (by omega)
        · exact ⟨0, n + 1, 11, by omega, fun j h1 h2 => h j h1 (by omega), .inr (.inl ⟨rfl, rfl, by omega, hb⟩)⟩
  exact fun m => key (m - 0) m 0 rfl (Nat.zero_le _) (fun j h1 h2 => by omega)

theorem GetP.stop (hwb : ∀ s k, W s k → B k) {f : Nat → Bool} {m s n e s' n' e' : Nat} (h : GetP W B f m s n e) (h' : GetP W B f m s' n' e') : ¬ n < n' := by
  intro hlt
  obtain ⟨h1, _, h3⟩ := h
  obtain ⟨k1, k2, _⟩ := h'
  rcases h3 with ⟨_, hn, hw⟩ | ⟨_, _, hn, hb⟩ | ⟨_, _, hn, _⟩
  · exact (k2 n hn hlt).2 _ hw
  · exact hb (k2 n hn hlt).1
  · omega

theorem GetP.one (hone : ∀ s s' k, W s k → W s' k → s = s') (hwb : ∀ s k, W s k → B k) {f : Nat → Bool} {m s n e s' n' e' : Nat} (h : GetP W B f m s n e) (h' : GetP W B f m s' n' e') : s = s' ∧ n = n' ∧ e = e' := by
  have hn : n = n' := by have := h.stop hwb h'; have := h'.stop hwb h; omega
  subst hn
  have r := h.2.2
  have r' := h'.2.2
  rcases r with ⟨rfl, q1, q2⟩ | ⟨rfl, rfl, q1, q2⟩ | ⟨rfl, rfl, q1, q2⟩ <;> rcases r' with ⟨rfl, p1, p2⟩ | ⟨rfl, rfl, p1, p2⟩ | ⟨rfl, rfl, p1, p2⟩
  · exact ⟨hone _ _ _ q2 p2, rfl, rfl⟩
  · exact absurd (hwb _ _ q2) p2
  · exact absurd q2 ((p2 q1).2 _)
  · exact absurd (hwb _ _ p2) q2
  · exact ⟨rfl, rfl, rfl⟩
  · exact absurd (p2 q1).1 q2
  · exact absurd p2 ((q2 p1).2 _)
  · exact absurd (q2 p1).1 p2
  · exact ⟨rfl, rfl, rfl⟩

theorem GetP.ext {f f' : Nat → Bool} {m m' s n e : Nat} (h : GetP W B f m s n e) (he : e ≠ 10) (hm : n ≤ m') (ha : ∀ i, i < n → f' i = f i) : GetP W B f' m' s n e := by
  obtain ⟨h1, h2, h3⟩ := h
  have k : ∀ j, j ≤ n → kf f' j = kf f j := fun j hj => kf_same j (fun i hi => ha i (by omega))
  refine ⟨hm, fun j j1 j2 => by rw [k j (by omega)]; exact h2 j j1 j2, ?_⟩
  rw [k n (Nat.le_refl _)]
  rcases h3 with h | h | ⟨e10, _⟩
  · exact .inl h
  · exact .inr (.inl h)
  · exact absurd e10 he

theorem GetP.cut {f f' : Nat → Bool} {m m' s n : Nat} (h : GetP W B f m s n 0) (hm : m' < n) (ha : ∀ i, i < m' → f' i = f i) : GetP W B f' m' 0 m' 10 := by
  obtain ⟨h1, h2, h3⟩ := h
  have k : ∀ j, j ≤ m' → kf f' j = kf f j := fun j hj => kf_same j (fun i hi => ha i (by omega))
  exact ⟨Nat.le_refl _, fun j j1 j2 => by rw [k j (by omega)]; exact h2 j j1 (by omega), .inr (.inr ⟨rfl, rfl, rfl, fun m1 => by rw [k m' (Nat.le_refl _)]; exact h2 m' m1 hm⟩)⟩

/-- a code is good: a word is one symbol's, and a beginning of one -/
structure CP (good : List Nat → Prop) (W : List Nat → Nat → Nat → Prop) (B : List Nat → Nat → Prop) : Prop where
  one : ∀ ls, good ls → ∀ s s' k, W ls s k → W ls s' k → s = s'
  beg : ∀ ls, good ls → ∀ s k, W ls s k → B ls k

open Classical in
/-- what is got, as a function -/
noncomputable def gof (good : List Nat → Prop) (W : List Nat → Nat → Nat → Prop) (B : List Nat → Nat → Prop) (ls : List Nat) (f : Nat → Bool) (m : Nat) : Nat × Nat × Nat :=
  if h : good ls then (Classical.choose (GetP.has (W ls) (B ls) f m), Classical.choose (Classical.choose_spec (GetP.has (W ls) (B ls) f m)), Classical.choose (Classical.choose_spec (Classical.choose_spec (GetP.has (W ls) (B ls) f m)))) else (0, 0, 11)

theorem gof_is {good : List Nat → Prop} {W : List Nat → Nat → Nat → Prop} {B : List Nat → Nat → Prop} {ls : List Nat} (h : good ls) (f : Nat → Bool) (m : Nat) : GetP (W ls) (B ls) f m (gof good W B ls f m).1 (gof good W B ls f m).2.1 (gof good W B ls f m).2.2 := by
  unfold gof
  rw [dif_pos h]
  exact Classical.choose_spec (Classical.choose_spec (Classical.choose_spec (GetP.has (W ls) (B ls) f m)))

theorem gof_eq {good : List Nat → Prop} {W : List Nat → Nat → Nat → Prop} {B : List Nat → Nat → Prop} (hc : CP good W B) {ls : List Nat} (h : good ls) {f : Nat → Bool} {m s n e : Nat} (hp : GetP (W ls) (B ls) f m s n e) : gof good W B ls f m = (s, n, e) := by
  obtain ⟨h1, h2, h3⟩ := (gof_is (W := W) (B := B) h f m).one (hc.one ls h) (hc.beg ls h) hp
  exact Prod.ext h1 (Prod.ext h2 h3)

theorem gof_gl {good : List Nat → Prop} {W : List Nat → Nat → Nat → Prop} {B : List Nat → Nat → Prop} (hc : CP good W B) : GL (gof good W B) := by
  refine ⟨fun ls f m s n e h => ?_, fun ls f m s n f' m' h hm ha => ?_, fun ls f m s n f' m' h hm ha => ?_, fun ls f m s n e f' m' h he hm ha => ?_⟩
  · by_cases hg : good ls
    · have := (gof_is (W := W) (B := B) hg f m).1
      rw [h] at this
      exact this
    · unfold gof at h
      rw [dif_neg hg] at h
      simp only [Prod.mk.injEq] at h
      omega
  · by_cases hg : good ls
    · have h1 := gof_is (W := W) (B := B) hg f m
      rw [h] at h1
      exact gof_eq hc hg (GetP.ext (e := 0) h1 (by decide) hm ha)
    · unfold gof at h
      rw [dif_neg hg] at h
      simp only [Prod.mk.injEq] at h
      omega
  · by_cases hg : good ls
    · have h1 := gof_is (W := W) (B := B) hg f m
      rw [h] at h1
      rw [gof_eq hc hg (GetP.cut h1 hm ha)]
    · unfold gof at h
      rw [dif_neg hg] at h
      simp only [Prod.mk.injEq] at h
      omega
  · by_cases hg : good ls
    · have h1 := gof_is (W := W) (B := B) hg f m
      rw [h] at h1
      exact gof_eq hc hg (GetP.ext h1 he (by have := h1.1; simp only at this; omega) (fun i hi => ha i (by have := h1.1; simp only at this; omega)))
    · unfold gof at h ⊢
      rw [dif_neg hg] at h ⊢
      exact h

end Go.Proofs.YtabeanealkopbaaGreat.Infl
end

section
namespace Go.Proofs.YtabeanealkopbaaGreat.Infl
set_option linter.unusedVariables false

/-- bytes' bits, the lowest first -/
def bitsOf (l : List Nat) : In := ⟨fun i => (l.getD (i / 8) 0).testBit (i % 8), l.length⟩

theorem bitsOf_m (l : List Nat) : (bitsOf l).m = 8 * l.length := rfl

theorem num_add (f : Nat → Bool) (p n : Nat) : ∀ m, num f p (n + m) = num f p n + 2 ^ n * num f (p + n) m
  | 0 => by simp [num]
  | m + 1 => by
    rw [← Nat.add_assoc, num, num_add f p n m, num, Nat.mul_add, Nat.add_assoc p n m, Nat.pow_add, Nat.add_assoc]
    congr 2
    rw [Nat.mul_comm, Nat.mul_assoc, Nat.mul_comm (2 ^ m)]

theorem num_test (f : Nat → Bool) (p b : Nat) : ∀ n, (∀ i, i < n → f (p + i) = b.testBit i) → num f p n = b % 2 ^ n
  | 0, _ => by simp [num, Nat.mod_one]
  | n + 1, h => by
    rw [num, num_test f p b n (fun i hi => h i (by omega)), h n (by omega), Nat.testBit_eq_decide_div_mod_eq]
    rw [Nat.pow_succ, Nat.mod_mul]
    have : b / 2 ^ n % 2 < 2 := Nat.mod_lt _ (by decide)
    by_cases e : b / 2 ^ n % 2 = 1
    · rw [e]; simp
    · have e0 : b / 2 ^ n % 2 = 0 := by omega
      rw [e0]; simp

theorem num_byte (l : List Nat) (j b n : Nat) (hb : l[j]? = some b) (hn : n ≤ 8) : num (bitsOf l).f (8 * j) n = b % 2 ^ n := by
  refine num_test _ _ b n (fun i hi => ?_)
  have e1 : (8 * j + i) / 8 = j := by omega
  have e2 : (8 * j + i) % 8 = i := by omega
  simp only [bitsOf, e1, e2, List.getD, hb, Option.getD_some]

theorem get8 (l : List Nat) (j b : Nat) (hb : l[j]? = some b) (h : b < 256) : get 8 (bitsOf l) (8 * j) = .ok b (8 * (j + 1)) := by
  have hj : j < l.length := by
    rcases Nat.lt_or_ge j l.length with h | h
    · exact h
    · rw [List.getElem?_eq_none h] at hb; cases hb
  unfold get
  rw [bitsOf_m, if_pos (by omega), num_byte l j b 8 hb (by decide), Nat.mod_eq_of_lt (by omega)]
  rfl

theorem get16 (l : List Nat) (j b c : Nat) (hb : l[j]? = some b) (hc : l[j + 1]? = some c) (h : b < 256) (h' : c < 256) : get 16 (bitsOf l) (8 * j) = .ok (b + 256 * c) (8 * (j + 2)) := by
  have hj : j + 1 < l.length := by
    rcases Nat.lt_or_ge (j + 1) l.length with h | h
    · exact h
    · rw [List.getElem?_eq_none h] at hc; cases hc
  unfold get
  rw [bitsOf_m, if_pos (by omega), show (16 : Nat) = 8 + 8 from rfl, num_add, num_byte l j b 8 hb (by decide), show 8 * j + 8 = 8 * (j + 1) from by omega, num_byte l (j + 1) c 8 hc (by decide), Nat.mod_eq_of_lt (by omega), Nat.mod_eq_of_lt (by omega)]
  rfl

theorem get1 (l : List Nat) (j b : Nat) (hb : l[j]? = some b) (h : b < 2) : get 1 (bitsOf l) (8 * j) = .ok b (8 * j + 1) := by
  have hj : j < l.length := by
    rcases Nat.lt_or_ge j l.length with h | h
    · exact h
    · rw [List.getElem?_eq_none h] at hb; cases hb
  unfold get
  rw [bitsOf_m, if_pos (by omega), num_byte l j b 1 hb (by decide), Nat.mod_eq_of_lt (by omega)]

theorem get2 (l : List Nat) (j b : Nat) (hb : l[j]? = some b) (h : b < 2) : get 2 (bitsOf l) (8 * j + 1) = .ok 0 (8 * j + 3) := by
  have hj : j < l.length := by
    rcases Nat.lt_or_ge j l.length with h | h
    · exact h
    · rw [List.getElem?_eq_none h] at hb; cases hb
  unfold get
  rw [bitsOf_m, if_pos (by omega)]
  have e : num (bitsOf l).f (8 * j) 3 = b := by rw [num_byte l j b 3 hb (by decide), Nat.mod_eq_of_lt (by omega)]
  have e1 : num (bitsOf l).f (8 * j) 1 = b := by rw [num_byte l j b 1 hb (by decide), Nat.mod_eq_of_lt (by omega)]
  rw [show (3 : Nat) = 1 + 2 from rfl, num_add, e1] at e
  have : num (bitsOf l).f (8 * j + 1) 2 = 0 := by omega
  rw [this]

theorem bytes_at (l : List Nat) : ∀ (c : List Nat) (j : Nat) (out : List Nat) , (∀ i, i < c.length → l[j + i]? = c[i]?) → (∀ x, x ∈ c → x < 256) → bytes c.length out (bitsOf l) (8 * j) = .ok (out ++ c) (8 * (j + c.length))
  | [], j, out, _, _ => by simp [bytes, Rd.pure]
  | x :: c, j, out, h, hx => by
    have h0 := h 0 (by simp)
    rw [List.length_cons, bytes, bind_of (get8 l j x (by simpa using h0) (hx x (by simp)))]
    rw [bytes_at l c (j + 1) (out ++ [x]) (fun i hi => ?_) (fun y hy => hx y (by simp [hy]))]
    · rw [List.append_assoc, List.singleton_append, show j + 1 + c.length = j + (c.length + 1) from by omega]
    · have := h (i + 1) (by simp; omega)
      rw [show j + 1 + i = j + (i + 1) from by omega, this]
      rfl

/-- a block's five bytes and what stands in it -/
def blk (last : Nat) (c : List Nat) : List Nat := [last, c.length % 256, c.length / 256, 255 - c.length % 256, 255 - c.length / 256] ++ c

theorem stored_at (l : List Nat) (j last most : Nat) (c out : List Nat) (hc : c.length ≤ 65535) (hx : ∀ x, x ∈ c → x < 256) (hl : ∀ i, i < c.length + 5 → l[j + i]? = (blk last c)[i]?) (hm : out.length + c.length ≤ most) :
    stored most out (bitsOf l) (8 * j + 3) = .ok (out ++ c) (8 * (j + (c.length + 5))) := by
  unfold stored
  have ha : align (bitsOf l) (8 * j + 3) = .ok () (8 * (j + 1)) := by
    unfold align
    congr 1
    omega
  have l1 := hl 1 (by omega)
  have l2 := hl 2 (by omega)
  have l3 := hl 3 (by omega)
  have l4 := hl 4 (by omega)
  simp only [blk, List.cons_append, List.nil_append, List.getElem?_cons_succ, List.getElem?_cons_zero] at l1 l2 l3 l4
  have d1 : c.length % 256 < 256 := Nat.mod_lt _ (by decide)
  have d2 : c.length / 256 < 256 := by omega
  rw [bind_of ha, bind_of (get16 l (j + 1) _ _ l1 l2 d1 d2)]
  have e : c.length % 256 + 256 * (c.length / 256) = c.length := by omega
  rw [e, show j + 1 + 2 = j + 3 from rfl, bind_of (get16 l (j + 3) _ _ l3 l4 (by omega) (by omega))]
  rw [if_neg (by omega), if_neg (by omega), show j + 3 + 2 = j + 5 from rfl, bytes_at l c (j + 5) out (fun i hi => ?_) hx]
  · rw [show j + 5 + c.length = j + (c.length + 5) from by omega]
  · have := hl (i + 5) (by omega)
    rw [show j + 5 + i = j + (i + 5) from by omega, this]
    simp only [blk, List.cons_append, List.nil_append, List.getElem?_cons_succ]

section
variable {g : List Nat → (Nat → Bool) → Nat → Nat × Nat × Nat} {ce : List Nat → Nat → Bool → Nat}

theorem block_at (l : List Nat) (j last most fuel : Nat) (c out : List Nat) (hla : last < 2) (hc : c.length ≤ 65535) (hx : ∀ x, x ∈ c → x < 256) (hl : ∀ i, i < c.length + 5 → l[j + i]? = (blk last c)[i]?) (hm : out.length + c.length ≤ most) :
    block g ce most fuel out (bitsOf l) (8 * j) = .ok (last, out ++ c) (8 * (j + (c.length + 5))) := by
  have l0 := hl 0 (by omega)
  simp only [blk, List.cons_append, List.nil_append, List.getElem?_cons_zero, Nat.add_zero] at l0
  unfold block
  rw [bind_of (get1 l j last l0 hla), bind_of (get2 l j last l0 hla), if_pos rfl, bind_of (stored_at l j last most c out hc hx hl hm)]
  rfl

/-- pieces, each in a block, the last one told to be it -/
def pack : List (List Nat) → List Nat
  | [] => []
  | [c] => blk 1 c
  | c :: d :: cs => blk 0 c ++ pack (d :: cs)

/-- as a loop lays them -/
theorem pack_snoc (c : List Nat) : ∀ cs : List (List Nat), pack (cs ++ [c]) = (cs.map (blk 0)).flatten ++ blk 1 c
  | [] => rfl
  | [d] => by simp [pack]
  | d :: e :: cs => by
    have h := pack_snoc c (e :: cs)
    rw [List.map_cons, List.flatten_cons, List.append_assoc, ← h]
    rfl

theorem blk_len (last : Nat) (c : List Nat) : (blk last c).length = c.length + 5 := by simp [blk]

theorem blocks_at (l : List Nat) (most fuel : Nat) : ∀ (cs : List (List Nat)) (j : Nat) (out : List Nat), cs ≠ [] → (∀ c, c ∈ cs → c.length ≤ 65535 ∧ ∀ x, x ∈ c → x < 256) → (∀ i, i < (pack cs).length → l[j + i]? = (pack cs)[i]?) → out.length + cs.flatten.length ≤ most →
    blocks g ce most fuel cs.length out (bitsOf l) (8 * j) = .ok (out ++ cs.flatten) (8 * (j + (pack cs).length))
  | [], _, _, h, _, _, _ => absurd rfl h
  | [c], j, out, _, hc, hl, hm => by
    have h1 := hc c (by simp)
    rw [pack, blk_len] at hl
    simp only [List.flatten_cons, List.flatten_nil, List.append_nil] at hm ⊢
    rw [List.length_singleton, blocks, bind_of (block_at l j 1 most fuel c out (by decide) h1.1 h1.2 hl hm), pack, blk_len]
    rfl
  | c :: d :: cs, j, out, _, hc, hl, hm => by
    have h1 := hc c (by simp)
    rw [List.flatten_cons, List.length_append] at hm
    rw [pack, List.length_append, blk_len] at hl
    rw [List.length_cons, blocks, bind_of (block_at l j 0 most fuel c out (by decide) h1.1 h1.2 (fun i hi => by rw [hl i (by omega), List.getElem?_append_left (by rw [blk_len]; exact hi)]) (by omega))]
    simp only
    rw [if_neg (by decide), blocks_at l most fuel (d :: cs) (j + (c.length + 5)) (out ++ c) (by simp) (fun x hx => hc x (by simp only [List.mem_cons] at hx ⊢; exact .inr hx)) (fun i hi => ?_) (by rw [List.length_append]; omega)]
    · rw [List.flatten_cons, List.append_assoc, pack, List.length_append, blk_len, Nat.add_assoc]
      rfl
    · rw [show j + (c.length + 5) + i = j + (c.length + 5 + i) from by omega, hl _ (by omega), List.getElem?_append_right (by rw [blk_len]; omega), blk_len]
      congr 1
      omega

/-- bytes that stand as they are, in blocks of any lengths, are told as they are -/
theorem stored_tells (cs : List (List Nat)) (most : Nat) (h : cs ≠ []) (hc : ∀ c, c ∈ cs → c.length ≤ 65535 ∧ ∀ x, x ∈ c → x < 256) :
    (cs.flatten.length ≤ most → Tells g ce (bitsOf (pack cs)) most (.ok cs.flatten (8 * (pack cs).length))) ∧ (most < cs.flatten.length → Tells g ce (bitsOf (pack cs)) most (.bad 3)) := by
  have k : Tells g ce (bitsOf (pack cs)) cs.flatten.length (.ok cs.flatten (8 * (pack cs).length)) := by
    refine ⟨by simp, 0, cs.length, ?_⟩
    have := blocks_at (g := g) (ce := ce) (pack cs) cs.flatten.length 0 cs 0 [] h hc (fun i hi => by rw [Nat.zero_add]) (by simp)
    rw [List.nil_append, Nat.zero_add, Nat.mul_zero] at this
    exact this
  exact k.room
end

end Go.Proofs.YtabeanealkopbaaGreat.Infl
end

section
namespace Go.Proofs.YtabeanealkopbaaGreat

/-- the first n bits, behind a 1 -/
def kf (f : Nat → Bool) : Nat → Nat
  | 0 => 1
  | n + 1 => 2 * kf f n + (f n).toNat

theorem kf_pos (f : Nat → Bool) : ∀ n, 1 ≤ kf f n
  | 0 => Nat.le_refl _
  | n + 1 => by have := kf_pos f n; rw [kf]; omega

theorem kf_two (f : Nat → Bool) (n : Nat) (h : 1 ≤ n) : 2 ≤ kf f n := by
  obtain ⟨m, rfl⟩ : ∃ m, n = m + 1 := ⟨n - 1, by omega⟩
  have := kf_pos f m
  rw [kf]; omega

/-- a word's beginning that is no word -/
def Pre (ls : List Nat) (k : Nat) : Prop := Beg ls ls.length k ∧ ∀ i, ¬ Wrd ls ls.length i k

/-- what is got of the bits f, m of them there: a symbol, how many bits were read, an error -/
def GetIs (ls : List Nat) (f : Nat → Bool) (m : Nat) (s n e : Nat) : Prop :=
  n ≤ m ∧ (∀ j, 1 ≤ j → j < n → Pre ls (kf f j)) ∧
  ((e = 0 ∧ 1 ≤ n ∧ Wrd ls ls.length s (kf f n)) ∨ (e = 11 ∧ s = 0 ∧ 1 ≤ n ∧ ¬ Beg ls ls.length (kf f n)) ∨ (e = 10 ∧ s = 0 ∧ n = m ∧ (1 ≤ n → Pre ls (kf f n))))

theorem Wrd.beg {ls : List Nat} {i k : Nat} (h : Wrd ls ls.length i k) : Beg ls ls.length k := .inr ⟨i, h.1, h.2.1, 0, by omega, by rw [← h.2.2]; simp⟩

theorem Wrd.one {ls : List Nat} (hg : Good ls) {i j k : Nat} (h : Wrd ls ls.length i k) (h' : Wrd ls ls.length j k) : i = j := by
  have := hg.free (d := 0) h.1 h.2.1 h'.1 h'.2.1 (by omega) (by rw [h.2.2, Nat.pow_zero, Nat.div_one, h'.2.2])
  exact this.1

theorem GetIs.stop {ls : List Nat} {f : Nat → Bool} {m s n e s' n' e' : Nat} (h : GetIs ls f m s n e) (h' : GetIs ls f m s' n' e') : ¬ n < n' := by
  intro hlt
  obtain ⟨h1, _, h3⟩ := h
  obtain ⟨k1, k2, _⟩ := h'
  rcases h3 with ⟨_, hn, hw⟩ | ⟨_, _, hn, hb⟩ | ⟨_, _, hn, _⟩
  · exact (k2 n hn hlt).2 _ hw
  · exact hb (k2 n hn hlt).1
  · omega

theorem GetIs.one {ls : List Nat} (hg : Good ls) {f : Nat → Bool} {m s n e s' n' e' : Nat} (h : GetIs ls f m s n e) (h' : GetIs ls f m s' n' e') : s = s' ∧ n = n' ∧ e = e' := by
  have hn : n = n' := by have := h.stop h'; have := h'.stop h; omega
  subst hn
  have r := h.2.2
  have r' := h'.2.2
  rcases r with ⟨rfl, q1, q2⟩ | ⟨rfl, rfl, q1, q2⟩ | ⟨rfl, rfl, q1, q2⟩ <;> rcases r' with ⟨rfl, p1, p2⟩ | ⟨rfl, rfl, p1, p2⟩ | ⟨rfl, rfl, p1, p2⟩
  · exact ⟨q2.one hg p2, rfl, rfl⟩
  · exact absurd q2.beg p2
  · exact absurd q2 ((p2 q1).2 _)
  · exact absurd p2.beg q2
  · exact ⟨rfl, rfl, rfl⟩
  · exact absurd (p2 q1).1 q2
  · exact absurd p2 ((q2 p1).2 _)
  · exact absurd (q2 p1).1 p2
  · exact ⟨rfl, rfl, rfl⟩

/-- nothing that is no beginning goes on to one -/
theorem Beg.half {ls : List Nat} {k : Nat} (h : Beg ls ls.length k) (h2 : 2 ≤ k) (hg : Good ls) : Beg ls ls.length (k / 2) := by
  rcases h with rfl | ⟨i, h1, h2', d, h3, h4⟩
  · omega
  · by_cases e : d + 1 ≤ Canon.ln ls i
    · exact .inr ⟨i, h1, h2', d + 1, e, by rw [← div_div_succ, h4]⟩
    · obtain rfl : d = Canon.ln ls i := by omega
      rw [key_top (Canon.wd_lt (hg.has h1 h2') hg.sum)] at h4
      omega

/-- a beginning that is no word goes on -/
theorem Pre.child {ls : List Nat} {k : Nat} (hg : Good ls) (h : Pre ls k) (hne : k = 1 → ∃ i, i < ls.length ∧ 0 < Canon.ln ls i) : ∃ b, b ≤ 1 ∧ Beg ls ls.length (2 * k + b) := by
  obtain ⟨hb, hw⟩ := h
  have core : ∀ i, i < ls.length → 0 < Canon.ln ls i → ∀ d, d ≤ Canon.ln ls i → key ls i / 2 ^ d = k → ∃ b, b ≤ 1 ∧ Beg ls ls.length (2 * k + b) := by
    intro i h1 h2 d h3 h4
    rcases d with _ | d
    · exact absurd ⟨h1, h2, by simpa using h4⟩ (hw i)
    · refine ⟨key ls i / 2 ^ d % 2, by omega, .inr ⟨i, h1, h2, d, by omega, ?_⟩⟩
      have := div_div_succ (key ls i) d
      rw [h4] at this
      omega
  rcases hb with rfl | ⟨i, h1, h2, d, h3, h4⟩
  · obtain ⟨i, h1, h2⟩ := hne rfl
    exact core i h1 h2 _ (Nat.le_refl _) (key_top (Canon.wd_lt (hg.has h1 h2) hg.sum))
  · exact core i h1 h2 d h3 h4

/-- the bits of a number, one by one -/
theorem kf_eq (f : Nat → Bool) (W N : Nat) (hW : W < 2 ^ N) (h : ∀ j, j < N → f j = W.testBit (N - 1 - j)) : ∀ n, n ≤ N → kf f n = (2 ^ N + W) / 2 ^ (N - n)
  | 0, _ => by rw [kf, Nat.sub_zero, key_div (Nat.le_refl _), Nat.sub_self, Nat.div_eq_of_lt hW]
  | n + 1, hn => by
    rw [kf, kf_eq f W N hW h n (by omega), h n (by omega), key_div (by omega), key_div (by omega)]
    have e1 : N - n = (N - (n + 1)) + 1 := by omega
    have e2 := div_div_succ W (N - (n + 1))
    have e3 : (W.testBit (N - 1 - n)).toNat = W / 2 ^ (N - (n + 1)) % 2 := by
      rw [show N - 1 - n = N - (n + 1) by omega, Nat.testBit_eq_decide_div_mod_eq]
      have : W / 2 ^ (N - (n + 1)) % 2 < 2 := Nat.mod_lt _ (by omega)
      by_cases e : W / 2 ^ (N - (n + 1)) % 2 = 1
      · simp [e]
      · simp [e]; omega
    rw [e3, e1, ← e2, show N - (N - (n + 1) + 1) = n by omega, show N - (N - (n + 1)) = n + 1 by omega, Nat.pow_succ]
    omega

/-- a word that stands there is got -/
theorem GetIs.word {ls : List Nat} (hg : Good ls) {f : Nat → Bool} {m i : Nat} (hi : i < ls.length) (h0 : 0 < Canon.ln ls i) (hm : Canon.ln ls i ≤ m) (h : ∀ j, j < Canon.ln ls i → f j = (Canon.wd ls i).testBit (Canon.ln ls i - 1 - j)) :
    GetIs ls f m i (Canon.ln ls i) 0 := by
  have hw := Canon.wd_lt (hg.has hi h0) hg.sum
  have hk := kf_eq f (Canon.wd ls i) (Canon.ln ls i) hw h
  refine ⟨hm, fun j h1 h2 => ⟨?_, fun s hs => ?_⟩, .inl ⟨rfl, h0, hi, h0, ?_⟩⟩
  · exact .inr ⟨i, hi, h0, Canon.ln ls i - j, by omega, by rw [hk j (by omega)]; rfl⟩
  · have e : key ls i / 2 ^ (Canon.ln ls i - j) = key ls s := by rw [hs.2.2, hk j (by omega)]; rfl
    have := hg.free hs.1 hs.2.1 hi h0 (by omega) e
    omega
  · rw [hk _ (Nat.le_refl _), Nat.sub_self]; simp [key]

/-- as numbers: kf is a 1 and its n bits -/
def vf (f : Nat → Bool) : Nat → Nat
  | 0 => 0
  | n + 1 => 2 * vf f n + (f n).toNat

theorem kf_vf (f : Nat → Bool) : ∀ n, kf f n = 2 ^ n + vf f n ∧ vf f n < 2 ^ n
  | 0 => ⟨rfl, by simp [vf]⟩
  | n + 1 => by
    obtain ⟨h1, h2⟩ := kf_vf f n
    have := Bool.toNat_le (f n)
    rw [kf, vf, h1, Nat.pow_succ]
    omega

/-- of a full code any bits go on -/
theorem full_beg {ls : List Nat} (hg : Good ls) (hs : Canon.sum ls = 1048576) (f : Nat → Bool) (n : Nat) (h1 : 1 ≤ n) (hp : ∀ j, 1 ≤ j → j < n → Pre ls (kf f j)) : Beg ls ls.length (kf f n) := by
  obtain ⟨hk, hv⟩ := kf_vf f n
  have hn : n ≤ 20 := by
    rcases Nat.lt_or_ge 20 n with hlt | hge
    · obtain ⟨hb, hw⟩ := hp (n - 1) (by omega) (by omega)
      obtain ⟨hk', hv'⟩ := kf_vf f (n - 1)
      rcases hb with e | ⟨i, hi, h0, d, hd, e⟩
      · have := kf_two f (n - 1) (by omega); omega
      · have hh := hg.has hi h0
        have hwd := Canon.wd_lt hh hg.sum
        rw [key, key_div hd] at e
        have hq : Canon.wd ls i / 2 ^ d < 2 ^ (Canon.ln ls i - d) := by
          rw [Nat.div_lt_iff_lt_mul (Nat.two_pow_pos _), ← Nat.pow_add, show Canon.ln ls i - d + d = Canon.ln ls i by omega]
          exact hwd
        rw [hk'] at e
        obtain ⟨e1, _⟩ := pow_between hq hv' e
        have hd0 : d = 0 := by have := hh.2.2; omega
        subst hd0
        exfalso
        refine hw i ⟨hi, h0, ?_⟩
        rw [hk', ← e, key]; simp
    · exact hge
  rcases Canon.full_reads hs hn hv with ⟨i, hh, hl, e⟩ | ⟨i, hh, hl, e⟩
  · have hwd := Canon.wd_lt hh hg.sum
    have ek : kf f n / 2 ^ (n - Canon.ln ls i) = key ls i := by
      rw [hk, key_div (by omega), show n - (n - Canon.ln ls i) = Canon.ln ls i by omega, e, key]
    by_cases e0 : Canon.ln ls i = n
    · rw [e0, Nat.sub_self, Nat.pow_zero, Nat.div_one] at ek
      exact Wrd.beg ⟨hh.1, hh.2.1, ek.symm⟩
    · -- a word that stood there ahead of n
      have hkj : ∀ d, d ≤ n → kf f (n - d) = kf f n / 2 ^ d := by
        intro d
        induction d with
        | zero => intro _; simp
        | succ d ih =>
          intro hd
          rw [← div_div_succ, ← ih (by omega)]
          have : n - d = (n - (d + 1)) + 1 := by omega
          rw [this, kf]
          have := Bool.toNat_le (f (n - (d + 1)))
          omega
      have h3 := hkj (n - Canon.ln ls i) (by omega)
      rw [show n - (n - Canon.ln ls i) = Canon.ln ls i by omega, ek] at h3
      exact absurd ⟨hh.1, hh.2.1, h3.symm⟩ ((hp (Canon.ln ls i) hh.2.1 (by omega)).2 i)
  · have hwd := Canon.wd_lt hh hg.sum
    refine .inr ⟨i, hh.1, hh.2.1, Canon.ln ls i - n, by omega, ?_⟩
    rw [key, key_div (by omega), e, hk, show Canon.ln ls i - (Canon.ln ls i - n) = n by omega]

end Go.Proofs.YtabeanealkopbaaGreat
end

section
namespace Go.Proofs.YtabeanealkopbaaGreat.Infl
set_option linter.unusedVariables false

abbrev WW (ls : List Nat) (s k : Nat) : Prop := Wrd ls ls.length s k
abbrev BB (ls : List Nat) (k : Nat) : Prop := Beg ls ls.length k

theorem code_cp : CP Good WW BB := ⟨fun ls hg s s' k h h' => Wrd.one hg h h', fun ls hg s k h => Wrd.beg h⟩

/-- what is got by a code -/
noncomputable def gg : List Nat → (Nat → Bool) → Nat → Nat × Nat × Nat := gof Good WW BB

theorem gg_gl : GL gg := gof_gl code_cp

theorem kf_kf (f : Nat → Bool) : ∀ n, Infl.kf f n = YtabeanealkopbaaGreat.kf f n
  | 0 => rfl
  | n + 1 => by rw [Infl.kf, YtabeanealkopbaaGreat.kf, kf_kf f n]

theorem gg_of {ls : List Nat} (hg : Good ls) {f : Nat → Bool} {m s n e : Nat} (h : GetIs ls f m s n e) : gg ls f m = (s, n, e) := by
  refine gof_eq code_cp hg ?_
  obtain ⟨h1, h2, h3⟩ := h
  refine ⟨h1, fun j j1 j2 => ?_, ?_⟩
  · rw [kf_kf]; exact h2 j j1 j2
  · rw [kf_kf]; exact h3

theorem fixedL_good : Good fixedL := ⟨by decide +kernel, by decide +kernel⟩
theorem fixedD_good : Good fixedD := ⟨by decide +kernel, by decide +kernel⟩
theorem fixedL_full : Canon.sum fixedL = 1048576 := by decide +kernel
theorem fixedD_full : Canon.sum fixedD = 1048576 := by decide +kernel

/-- a word of a code whose bits stand there -/
theorem word_is {ls : List Nat} (hg : Good ls) {I : In} {p i n : Nat} (hi : i < ls.length) (hn : Canon.ln ls i = n) (h0 : 0 < n) (hm : p + n ≤ I.m) (h : ∀ j, j < n → I.f (p + j) = (Canon.wd ls i).testBit (n - 1 - j)) :
    word gg ls I p = .ok i (p + n) := by
  subst hn
  unfold word
  rw [gg_of hg (GetIs.word hg hi h0 (m := I.m - p) (f := fun i => I.f (p + i)) (by omega) h)]

/-- the chapter's example -/
theorem one_a (ce : List Nat → Nat → Bool → Nat) : Tells gg ce (bitsOf [0x4b, 4, 0]) 9 (.ok [97] 18) := by
  refine ⟨by simp, 2, 1, ?_⟩
  have hs : toks gg fixedL fixedD 9 2 [] (bitsOf [0x4b, 4, 0]) 3 = .ok [97] 18 := by
    have w1 : word gg fixedL (bitsOf [0x4b, 4, 0]) 3 = .ok 97 11 := word_is fixedL_good (i := 97) (n := 8) (by decide +kernel) (by decide +kernel) (by decide) (by decide) (by decide +kernel)
    have w2 : word gg fixedL (bitsOf [0x4b, 4, 0]) 11 = .ok 256 18 := word_is fixedL_good (i := 256) (n := 7) (by decide +kernel) (by decide +kernel) (by decide) (by decide) (by decide +kernel)
    have t1 : tok gg fixedL fixedD 9 [] (bitsOf [0x4b, 4, 0]) 3 = .ok (some [97]) 11 := by
      unfold tok
      rw [bind_of w1]
      rfl
    have t2 : tok gg fixedL fixedD 9 [97] (bitsOf [0x4b, 4, 0]) 11 = .ok none 18 := by
      unfold tok
      rw [bind_of w2]
      rfl
    rw [toks, bind_of t1]
    show toks gg fixedL fixedD 9 1 [97] _ 11 = _
    rw [toks, bind_of t2]
    rfl
  have hb : block gg ce 9 2 [] (bitsOf [0x4b, 4, 0]) 0 = .ok (1, [97]) 18 := by
    unfold block
    have g1 : get 1 (bitsOf [0x4b, 4, 0]) 0 = .ok 1 1 := by unfold get; rw [if_pos (by decide), show num (bitsOf [0x4b, 4, 0]).f 0 1 = 1 from by decide +kernel]
    have g2 : get 2 (bitsOf [0x4b, 4, 0]) 1 = .ok 1 3 := by unfold get; rw [if_pos (by decide), show num (bitsOf [0x4b, 4, 0]).f 1 2 = 1 from by decide +kernel]
    rw [bind_of g1, bind_of g2, if_neg (by decide), if_pos rfl, bind_of hs]
    rfl
  rw [blocks, bind_of hb]
  rfl

end Go.Proofs.YtabeanealkopbaaGreat.Infl
end

section
namespace Go.Proofs.YtabeanealkopbaaGreat.Infl
set_option linter.unusedVariables false


theorem cp_add (d a : Nat) (P : List Nat) : ∀ b, cp d (a + b) P = cp d b (cp d a P)
  | 0 => rfl
  | b + 1 => by rw [← Nat.add_assoc, cp, cp, cp_add d a P b]

theorem getD_app_left (A B : List Nat) (i : Nat) (h : i < A.length) : (A ++ B).getD i 0 = A.getD i 0 := by
  simp only [List.getD_eq_getElem?_getD]
  rw [List.getElem?_append_left h]

theorem getD_app_right (A B : List Nat) (i : Nat) : (A ++ B).getD (A.length + i) 0 = B.getD i 0 := by
  simp only [List.getD_eq_getElem?_getD]
  rw [List.getElem?_append_right (by omega), Nat.add_sub_cancel_left]

theorem cp_old (d : Nat) (P : List Nat) : ∀ k i, i < P.length → (cp d k P).getD i 0 = P.getD i 0
  | 0, _, _ => rfl
  | k + 1, i, h => by
    rw [cp, getD_app_left _ _ _ (by rw [cp_length]; omega)]
    exact cp_old d P k i h

theorem mod_less {k d : Nat} (h : d ≤ k) : (k - d) % d = k % d := by
  conv => rhs; rw [show k = (k - d) + d by omega]
  rw [Nat.add_mod_right]

/-- what a piece's bytes are -/
theorem cp_new {d : Nat} {P : List Nat} (hd : 1 ≤ d) (hp : d ≤ P.length) : ∀ k i, i < k → (cp d k P).getD (P.length + i) 0 = P.getD (P.length - d + i % d) 0
  | 0, _, h => by omega
  | k + 1, i, h => by
    by_cases e : i = k
    · subst e
      have h1 : (cp d i P).length = P.length + i := cp_length d P i
      rw [cp, ← h1, show (cp d i P).length = (cp d i P).length + 0 from rfl, getD_app_right]
      show (cp d i P).getD ((cp d i P).length - d) 0 = _
      rw [h1]
      by_cases hk : i < d
      · rw [show P.length + i - d = P.length - d + i by omega, cp_old d P i _ (by omega), Nat.mod_eq_of_lt hk]
      · rw [show P.length + i - d = P.length + (i - d) by omega, cp_new hd hp i (i - d) (by omega), mod_less (by omega)]
    · rw [cp, getD_app_left _ _ _ (by rw [cp_length]; omega)]
      exact cp_new hd hp k i (by omega)

/-- all from d bytes ahead on comes again and again -/
theorem cp_per {d : Nat} {P : List Nat} (hd : 1 ≤ d) (hp : d ≤ P.length) (k i : Nat) (h : i < d + k) : (cp d k P).getD (P.length - d + i) 0 = P.getD (P.length - d + i % d) 0 := by
  by_cases hi : i < d
  · rw [cp_old d P k _ (by omega), Nat.mod_eq_of_lt hi]
  · rw [show P.length - d + i = P.length + (i - d) by omega, cp_new hd hp k (i - d) (by omega), mod_less (by omega)]

theorem list_eq {A B : List Nat} (h : A.length = B.length) (h2 : ∀ i, i < A.length → A.getD i 0 = B.getD i 0) : A = B := by
  apply List.ext_getElem h
  intro i h1 h3
  have := h2 i h1
  simpa [h1, h3] using this

theorem slice_get (P : List Nat) (f n i : Nat) (h : i < n) : ((P.drop f).take n).getD i 0 = P.getD (f + i) 0 := by
  simp only [List.getD_eq_getElem?_getD]
  rw [List.getElem?_take, if_pos h, List.getElem?_drop]

/-- a piece at once, if it is what it would be byte by byte -/
theorem cp_block {d k : Nat} {P B : List Nat} (hd : 1 ≤ d) (hp : d ≤ P.length) (hb : B.length = k) (h : ∀ i, i < k → B.getD i 0 = P.getD (P.length - d + i % d) 0) : cp d k P = P ++ B := by
  refine list_eq (by rw [cp_length, List.length_append, hb]) fun i hi => ?_
  rw [cp_length] at hi
  by_cases hl : i < P.length
  · rw [cp_old d P k i hl, getD_app_left _ _ _ hl]
  · rw [show i = P.length + (i - P.length) by omega, cp_new hd hp k _ (by omega), getD_app_right, h _ (by omega)]

/-- no more than d bytes at once -/
theorem cp_short {d k : Nat} {P : List Nat} (hd : 1 ≤ d) (hp : d ≤ P.length) (hk : k ≤ d) : cp d k P = P ++ (P.drop (P.length - d)).take k := by
  refine cp_block hd hp (by simp; omega) fun i hi => ?_
  rw [slice_get _ _ _ _ hi, Nat.mod_eq_of_lt (by omega)]

/-- as much at once as is there of it -/
theorem cp_long {d j k : Nat} {P : List Nat} (hd : 1 ≤ d) (hp : d ≤ P.length) (hj : j % d = 0) (hk : k ≤ d + j) : cp d (j + k) P = cp d j P ++ ((cp d j P).drop (P.length - d)).take k := by
  rw [cp_add]
  have hl := cp_length d P j
  refine cp_block hd (by omega) (by simp; omega) fun i hi => ?_
  have hm : i % d < d := Nat.mod_lt _ hd
  rw [slice_get _ _ _ _ hi, cp_per hd hp j i (by omega), hl, show P.length + j - d + i % d = P.length - d + (j + i % d) by omega, cp_per hd hp j (j + i % d) (by omega), Nat.add_mod, hj, Nat.zero_add, Nat.mod_mod, Nat.mod_mod]


end Go.Proofs.YtabeanealkopbaaGreat.Infl
end

section
namespace Go.Proofs.YtabeanealkopbaaGreat.Infl
set_option linter.unusedVariables false

/-- the greatest one, from so many down, whose least is not above n -/
def down (f : Nat → Nat) (n : Nat) : Nat → Nat
  | 0 => 0
  | s + 1 => if f (s + 1) ≤ n then s + 1 else down f n s

theorem down_le (f : Nat → Nat) (n : Nat) : ∀ s, down f n s ≤ s
  | 0 => Nat.le_refl _
  | s + 1 => by
    unfold down
    split
    · exact Nat.le_refl _
    · have := down_le f n s; omega

/-- it is not above n, and the next one is -/
theorem down_is (f : Nat → Nat) (n : Nat) (a : Nat) (ha : f a ≤ n) : ∀ s, a ≤ s → a ≤ down f n s ∧ f (down f n s) ≤ n ∧ ∀ t, down f n s < t → t ≤ s → n < f t
  | 0, h => by
    obtain rfl : a = 0 := by omega
    exact ⟨Nat.le_refl _, ha, fun t h1 h2 => by simp [down] at h1; omega⟩
  | s + 1, h => by
    unfold down
    by_cases hc : f (s + 1) ≤ n
    · rw [if_pos hc]
      exact ⟨h, hc, fun t h1 h2 => by omega⟩
    · rw [if_neg hc]
      have has : a ≤ s := by
        rcases Nat.lt_or_ge s a with h' | h'
        · obtain rfl : a = s + 1 := by omega
          exact absurd ha hc
        · exact h'
      obtain ⟨i1, i2, i3⟩ := down_is f n a ha s has
      refine ⟨i1, i2, fun t h1 h2 => ?_⟩
      by_cases e : t = s + 1
      · subst e; omega
      · exact i3 t h1 (by omega)

/-- a length's symbol -/
def symL (n : Nat) : Nat := down (fun s => (lenOf s).1) n 285
/-- a distance's symbol -/
def symD (d : Nat) : Nat := down (fun s => (distOf s).1) d 29

theorem len_next : ∀ i, i < 27 → (lenOf (257 + (i + 1))).1 = (lenOf (257 + i)).1 + 2 ^ (lenOf (257 + i)).2 := by decide
theorem dist_next : ∀ s, s < 29 → (distOf (s + 1)).1 = (distOf s).1 + 2 ^ (distOf s).2 := by decide

theorem symL_is (n : Nat) (h1 : 3 ≤ n) (h2 : n ≤ 258) : 257 ≤ symL n ∧ symL n ≤ 285 ∧ (lenOf (symL n)).1 ≤ n ∧ n - (lenOf (symL n)).1 < 2 ^ (lenOf (symL n)).2 := by
  obtain ⟨i1, i2, i3⟩ := down_is (fun s => (lenOf s).1) n 257 (by show (lenOf 257).1 ≤ n; have : (lenOf 257).1 = 3 := rfl; omega) 285 (by decide)
  have hle := down_le (fun s => (lenOf s).1) n 285
  refine ⟨i1, hle, i2, ?_⟩
  show n - (lenOf (down _ n 285)).1 < _
  unfold symL
  generalize hs : down (fun s => (lenOf s).1) n 285 = s at *
  by_cases e : s = 285
  · subst e
    have e1 : (lenOf 285).1 = 258 := rfl
    have e2 : (lenOf 285).2 = 0 := rfl
    rw [e1, e2]; simp; omega
  · have h3 := i3 (s + 1) (by omega) (by omega)
    by_cases e4 : s = 284
    · subst e4
      have e1 : (lenOf 284).1 = 227 := rfl
      have e2 : (lenOf 284).2 = 5 := rfl
      have e3 : (lenOf 285).1 = 258 := rfl
      have h3' : n < (lenOf 285).1 := h3
      rw [e3] at h3'
      rw [e1, e2]; omega
    · have hn := len_next (s - 257) (by omega)
      rw [show 257 + (s - 257 + 1) = s + 1 from by omega, show 257 + (s - 257) = s from by omega] at hn
      have h3' : n < (lenOf (s + 1)).1 := h3
      have i2' : (lenOf s).1 ≤ n := i2
      omega

theorem symD_is (d : Nat) (h1 : 1 ≤ d) (h2 : d ≤ 32768) : symD d ≤ 29 ∧ (distOf (symD d)).1 ≤ d ∧ d - (distOf (symD d)).1 < 2 ^ (distOf (symD d)).2 := by
  obtain ⟨i1, i2, i3⟩ := down_is (fun s => (distOf s).1) d 0 (by show (distOf 0).1 ≤ d; have : (distOf 0).1 = 1 := rfl; omega) 29 (by decide)
  have hle := down_le (fun s => (distOf s).1) d 29
  refine ⟨hle, i2, ?_⟩
  unfold symD
  generalize hs : down (fun s => (distOf s).1) d 29 = s at *
  by_cases e : s = 29
  · subst e
    have e1 : (distOf 29).1 = 24577 := rfl
    have e2 : (distOf 29).2 = 13 := rfl
    rw [e1, e2]; omega
  · have h3 := i3 (s + 1) (by omega) (by omega)
    have hn := dist_next s (by omega)
    have h3' : d < (distOf (s + 1)).1 := h3
    have i2' : (distOf s).1 ≤ d := i2
    omega

end Go.Proofs.YtabeanealkopbaaGreat.Infl
end

section
namespace Go.Proofs.YtabeanealkopbaaGreat.Infl
set_option linter.unusedVariables false

/-- a number's n bits, the lowest first -/
def nb (v n : Nat) : List Bool := (List.range n).map fun i => v.testBit i

/-- a symbol's word, its first bit first -/
def wb (ls : List Nat) (s : Nat) : List Bool := (List.range (Canon.ln ls s)).map fun j => (Canon.wd ls s).testBit (Canon.ln ls s - 1 - j)

theorem nb_length (v n : Nat) : (nb v n).length = n := by simp [nb]
theorem wb_length (ls : List Nat) (s : Nat) : (wb ls s).length = Canon.ln ls s := by simp [wb]

/-- these bits stand there -/
def Lies (I : In) (p : Nat) (L : List Bool) : Prop := p + L.length ≤ I.m ∧ ∀ i, i < L.length → I.f (p + i) = L.getD i false

theorem Lies.nil (I : In) (p : Nat) (h : p ≤ I.m) : Lies I p [] := ⟨by simpa using h, fun i hi => by simp at hi⟩

theorem Lies.left {I : In} {p : Nat} {A B : List Bool} (h : Lies I p (A ++ B)) : Lies I p A := by
  obtain ⟨h1, h2⟩ := h
  rw [List.length_append] at h1 h2
  refine ⟨by omega, fun i hi => ?_⟩
  rw [h2 i (by omega), List.getD_eq_getElem?_getD, List.getD_eq_getElem?_getD, List.getElem?_append_left hi]

theorem Lies.right {I : In} {p : Nat} {A B : List Bool} (h : Lies I p (A ++ B)) : Lies I (p + A.length) B := by
  obtain ⟨h1, h2⟩ := h
  rw [List.length_append] at h1 h2
  refine ⟨by omega, fun i hi => ?_⟩
  rw [Nat.add_assoc, h2 (A.length + i) (by omega), List.getD_eq_getElem?_getD, List.getD_eq_getElem?_getD, List.getElem?_append_right (by omega), Nat.add_sub_cancel_left]

/-- a number that was written is read -/
theorem get_nb {I : In} {p v n : Nat} (h : Lies I p (nb v n)) (hv : v < 2 ^ n) : get n I p = .ok v (p + n) := by
  obtain ⟨h1, h2⟩ := h
  rw [nb_length] at h1 h2
  unfold get
  rw [if_pos h1, num_test I.f p v n (fun i hi => ?_), Nat.mod_eq_of_lt hv]
  rw [h2 i hi]
  simp [nb, hi]

/-- a word that was written is read -/
theorem word_wb {ls : List Nat} (hg : Good ls) {I : In} {p s : Nat} (hs : s < ls.length) (h0 : 0 < Canon.ln ls s) (h : Lies I p (wb ls s)) : word gg ls I p = .ok s (p + Canon.ln ls s) := by
  obtain ⟨h1, h2⟩ := h
  rw [wb_length] at h1 h2
  refine word_is hg hs rfl h0 h1 (fun j hj => ?_)
  rw [h2 j hj]
  simp [wb, hj]

/-- a token: a byte (n = 0), or a piece -/
structure T where
  n : Nat
  d : Nat
  b : Nat

/-- what a token makes -/
def T.ext (out : List Nat) (t : T) : List Nat := if t.n = 0 then out ++ [t.b] else cp t.d t.n out

/-- a token that may be, behind a text -/
def T.ok (out : List Nat) (t : T) : Prop := (t.n = 0 ∧ t.b < 256) ∨ (3 ≤ t.n ∧ t.n ≤ 258 ∧ 1 ≤ t.d ∧ t.d ≤ 32768 ∧ t.d ≤ out.length)

theorem T.ext_le (out : List Nat) (t : T) : out.length ≤ (t.ext out).length := by
  unfold T.ext
  split
  · simp
  · rw [cp_length]; omega

/-- its bits -/
def T.bits (l1 l2 : List Nat) (t : T) : List Bool :=
  if t.n = 0 then wb l1 t.b else wb l1 (symL t.n) ++ (nb (t.n - (lenOf (symL t.n)).1) (lenOf (symL t.n)).2 ++ (wb l2 (symD t.d) ++ nb (t.d - (distOf (symD t.d)).1) (distOf (symD t.d)).2))

/-- its symbols have words -/
def T.has (l1 l2 : List Nat) (t : T) : Prop :=
  if t.n = 0 then t.b < l1.length ∧ 0 < Canon.ln l1 t.b else (symL t.n < l1.length ∧ 0 < Canon.ln l1 (symL t.n)) ∧ (symD t.d < l2.length ∧ 0 < Canon.ln l2 (symD t.d))

theorem tok_bits {l1 l2 : List Nat} (g1 : Good l1) (g2 : Good l2) {I : In} {p most : Nat} {out : List Nat} {t : T} (hok : t.ok out) (hhas : t.has l1 l2) (hroom : (t.ext out).length ≤ most) (h : Lies I p (t.bits l1 l2)) :
    tok gg l1 l2 most out I p = .ok (some (t.ext out)) (p + (t.bits l1 l2).length) := by
  by_cases h0 : t.n = 0
  · unfold T.bits at h ⊢
    unfold T.ext at hroom ⊢
    unfold T.has at hhas
    simp only [if_pos h0] at h hroom hhas ⊢
    have hb : t.b < 256 := by
      rcases hok with ⟨_, hb⟩ | ⟨h3, _⟩
      · exact hb
      · omega
    rw [List.length_append, List.length_singleton] at hroom
    unfold tok
    rw [bind_of (word_wb g1 hhas.1 hhas.2 h), if_neg (by omega), if_pos hb, if_neg (by omega), wb_length]
    rfl
  · obtain ⟨a1, a2, a3, a4, a5⟩ : 3 ≤ t.n ∧ t.n ≤ 258 ∧ 1 ≤ t.d ∧ t.d ≤ 32768 ∧ t.d ≤ out.length := by
      rcases hok with ⟨h', _⟩ | h'
      · exact absurd h' h0
      · exact h'
    obtain ⟨s1, s2, s3, s4⟩ := symL_is t.n a1 a2
    obtain ⟨e1, e2, e3⟩ := symD_is t.d a3 a4
    unfold T.bits at h ⊢
    unfold T.ext at hroom ⊢
    unfold T.has at hhas
    simp only [if_neg h0] at h hroom hhas ⊢
    rw [cp_length] at hroom
    have w1 := word_wb g1 hhas.1.1 hhas.1.2 h.left
    have r1 := h.right
    rw [wb_length] at r1
    have w2 := get_nb r1.left s4
    have r2 := r1.right
    rw [nb_length] at r2
    have w3 := word_wb g2 hhas.2.1 hhas.2.2 r2.left
    have r3 := r2.right
    rw [wb_length] at r3
    have w4 := get_nb r3 e3
    unfold tok
    rw [bind_of w1, if_neg (by omega), if_neg (by omega), if_neg (by omega), bind_of w2, bind_of w3, if_neg (by omega), bind_of w4]
    rw [show (distOf (symD t.d)).1 + (t.d - (distOf (symD t.d)).1) = t.d from by omega, show (lenOf (symL t.n)).1 + (t.n - (lenOf (symL t.n)).1) = t.n from by omega]
    rw [if_neg (by omega), if_neg (by omega), List.length_append, List.length_append, List.length_append, wb_length, wb_length, nb_length, nb_length, ← Nat.add_assoc, ← Nat.add_assoc, ← Nat.add_assoc]
    rfl

/-- tokens, one behind the other -/
def exts : List Nat → List T → List Nat
  | out, [] => out
  | out, t :: ts => exts (t.ext out) ts

theorem exts_le : ∀ (out : List Nat) (ts : List T), out.length ≤ (exts out ts).length
  | out, [] => Nat.le_refl _
  | out, t :: ts => Nat.le_trans (T.ext_le out t) (exts_le (t.ext out) ts)

/-- each of them may be, and has words -/
def Toks (l1 l2 : List Nat) : List Nat → List T → Prop
  | _, [] => True
  | out, t :: ts => t.ok out ∧ t.has l1 l2 ∧ Toks l1 l2 (t.ext out) ts

def tbits (l1 l2 : List Nat) (ts : List T) : List Bool := (ts.map (T.bits l1 l2)).flatten

/-- a block's tokens, and its end -/
theorem toks_bits {l1 l2 : List Nat} (g1 : Good l1) (g2 : Good l2) {I : In} {most : Nat} (h256 : 256 < l1.length ∧ 0 < Canon.ln l1 256) : ∀ (ts : List T) (out : List Nat) (p F : Nat), ts.length < F → Toks l1 l2 out ts → (exts out ts).length ≤ most → Lies I p (tbits l1 l2 ts ++ wb l1 256) →
    toks gg l1 l2 most F out I p = .ok (exts out ts) (p + (tbits l1 l2 ts ++ wb l1 256).length)
  | [], out, p, 0, hF, _, _, _ => by omega
  | [], out, p, F + 1, hF, hok, hroom, h => by
    have w := word_wb g1 h256.1 h256.2 (show Lies I p (wb l1 256) from h)
    rw [toks, bind_of (x := none) (o := p + Canon.ln l1 256)]
    · show Res.ok out _ = Res.ok out _
      congr 1
      show p + _ = p + (([] : List Bool) ++ wb l1 256).length
      rw [List.nil_append, wb_length]
    · unfold tok
      rw [bind_of w, if_pos rfl]
      rfl
  | t :: ts, out, p, 0, hF, _, _, _ => by omega
  | t :: ts, out, p, F + 1, hF, hok, hroom, h => by
    have e : tbits l1 l2 (t :: ts) ++ wb l1 256 = t.bits l1 l2 ++ (tbits l1 l2 ts ++ wb l1 256) := by
      unfold tbits; rw [List.map_cons, List.flatten_cons, List.append_assoc]
    rw [e] at h ⊢
    have ht := tok_bits g1 g2 (most := most) hok.1 hok.2.1 (Nat.le_trans (exts_le (t.ext out) ts) hroom) h.left
    rw [toks, bind_of ht]
    show toks gg l1 l2 most F (t.ext out) I _ = _
    rw [toks_bits g1 g2 h256 ts (t.ext out) _ F (by simp at hF; omega) hok.2.2 hroom h.right]
    have e2 : (t.bits l1 l2 ++ (tbits l1 l2 ts ++ wb l1 256)).length = (t.bits l1 l2).length + (tbits l1 l2 ts ++ wb l1 256).length := List.length_append
    rw [e2, Nat.add_assoc]
    rfl

end Go.Proofs.YtabeanealkopbaaGreat.Infl
end

section
namespace Go.Proofs.YtabeanealkopbaaGreat
open Go.RowKit Mth
set_option maxRecDepth 100000
set_option linter.unusedVariables false

attribute [local go_sem ↓] Go.wp_at_zero Go.wp_at_succ

/-- Within Get, behind j bits: the variable holds node a; the reader stands at t. -/
structure GetAt (ls : List Nat) (w ws : World) (cp lo hi wg g cap N base : Nat) (A B S : Nat → Nat) (H : Nat → Bool) (ix ky : Nat → Nat) (rp gr ab : Nat) (high : Bool) (zs : List Nat) (f : Nat → Bool) (t j a : Nat) : Prop where
  code : CodeAt ls ws cp lo hi wg g cap N base A B S H ix ky
  rd : ROk ws rp high gr zs t
  var : ws.heap[ab]? = some (.cells #[.int .i32 (A a : Int), .int .i32 (B a : Int), .int .i32 (S a : Int), .bool (H a)] 191 (0, 0))
  only : Only rp w ws
  new : w.heap.size ≤ ab
  o1 : rp < lo ∨ hi ≤ rp
  o2 : hi ≤ ab
  o3 : rp ≠ ab
  o4 : gr ≠ ab
  al : a = ix (kf f j)
  beg : Beg ls ls.length (kf f j)
  pre : ∀ i, 1 ≤ i → i < j → Pre ls (kf f i)

section
variable {ls : List Nat} {w ws w2 : World} {cp lo hi wg g cap N base : Nat} {A B S : Nat → Nat} {H : Nat → Bool} {ix ky : Nat → Nat} {rp gr ab : Nat} {high : Bool} {zs : List Nat} {f : Nat → Bool} {t j a : Nat}

theorem CodeAt.keep (h : CodeAt ls ws cp lo hi wg g cap N base A B S H ix ky) (hk : ∀ k, lo ≤ k → k < hi → w2.heap[k]? = ws.heap[k]?) : CodeAt ls w2 cp lo hi wg g cap N base A B S H ix ky :=
  ⟨by rw [hk _ h.b1.1 h.b1.2]; exact h.blk, by unfold WordsAt; rw [hk _ h.b2.1 h.b2.2]; exact h.words, h.nodes.keep (hk _ h.b3.1 h.b3.2), h.tr, h.good, h.small, h.b1, h.b2, h.b3⟩

theorem GetAt.read (h : GetAt ls w ws cp lo hi wg g cap N base A B S H ix ky rp gr ab high zs f t j a) (q t' : Nat) (ht : t' ≤ 8 * zs.length) :
    GetAt ls w ((ws.drewN q).setCell ⟨rp, 3, none⟩ (.int .i64 (t' : Int))) cp lo hi wg g cap N base A B S H ix ky rp gr ab high zs f t' j a := by
  refine ⟨h.code.keep (fun k h1 h2 => ?_), (h.rd.drewN q).set t' ht, ?_, h.only.trans ((Only.drewN rp ws q).set 3 _), h.new, h.o1, h.o2, h.o3, h.o4, h.al, h.beg, h.pre⟩
  · rw [heap_setCell_other _ _ _ _ (by have := h.o1; show k ≠ rp; omega)]; rfl
  · rw [heap_setCell_other _ _ _ _ (by exact h.o3.symm)]; exact h.var

theorem GetAt.drewN (h : GetAt ls w ws cp lo hi wg g cap N base A B S H ix ky rp gr ab high zs f t j a) (q : Nat) : GetAt ls w (ws.drewN q) cp lo hi wg g cap N base A B S H ix ky rp gr ab high zs f t j a :=
  ⟨h.code.keep (fun k h1 h2 => rfl), h.rd.drewN q, h.var, h.only.trans (Only.drewN rp ws q), h.new, h.o1, h.o2, h.o3, h.o4, h.al, h.beg, h.pre⟩

theorem GetAt.drew (h : GetAt ls w ws cp lo hi wg g cap N base A B S H ix ky rp gr ab high zs f t j a) : GetAt ls w ws.drew cp lo hi wg g cap N base A B S H ix ky rp gr ab high zs f t j a :=
  ⟨h.code.keep (fun k h1 h2 => rfl), ⟨h.rd.blk, h.rd.row, h.rd.ne, h.rd.le, h.rd.small⟩, h.var, h.only.trans (Only.drew rp ws), h.new, h.o1, h.o2, h.o3, h.o4, h.al, h.beg, h.pre⟩

def lay4 (ws : World) (ab : Nat) (x0 x1 x2 x3 : Value) : World := (((ws.setCell ⟨ab, 0, none⟩ x0).setCell ⟨ab, 1, none⟩ x1).setCell ⟨ab, 2, none⟩ x2).setCell ⟨ab, 3, none⟩ x3

theorem lay4_other (ws : World) (ab : Nat) (x0 x1 x2 x3 : Value) (k : Nat) (hk : k ≠ ab) : (lay4 ws ab x0 x1 x2 x3).heap[k]? = ws.heap[k]? := by
  unfold lay4
  rw [heap_setCell_other _ _ _ _ (by exact hk), heap_setCell_other _ _ _ _ (by exact hk), heap_setCell_other _ _ _ _ (by exact hk), heap_setCell_other _ _ _ _ (by exact hk)]

theorem GetAt.outs (h : GetAt ls w ws cp lo hi wg g cap N base A B S H ix ky rp gr ab high zs f t j a) (x0 x1 x2 x3 : Value) : ROk (lay4 ws ab x0 x1 x2 x3) rp high gr zs t ∧ Only rp w (lay4 ws ab x0 x1 x2 x3) := by
  refine ⟨h.rd.keep (lay4_other _ _ _ _ _ _ _ h.o3) (lay4_other _ _ _ _ _ _ _ h.o4), h.only.os, h.only.tape, h.only.output, ?_, fun k h1 h2 => ?_⟩
  · have := h.only.size; simpa [lay4] using this
  · rw [lay4_other _ _ _ _ _ _ _ (by have := h.new; omega)]; exact h.only.keep k h1 h2

theorem GetAt.next (h : GetAt ls w ws cp lo hi wg g cap N base A B S H ix ky rp gr ab high zs f t j a) (a' : Nat) (ha : a' = ix (kf f (j + 1))) (hb : Beg ls ls.length (kf f (j + 1))) (hp : 1 ≤ j → Pre ls (kf f j)) :
    GetAt ls w (lay4 ws ab (.int .i32 (A a' : Int)) (.int .i32 (B a' : Int)) (.int .i32 (S a' : Int)) (.bool (H a'))) cp lo hi wg g cap N base A B S H ix ky rp gr ab high zs f t (j + 1) a' := by
  obtain ⟨r1, r2⟩ := h.outs (.int .i32 (A a' : Int)) (.int .i32 (B a' : Int)) (.int .i32 (S a' : Int)) (.bool (H a'))
  refine ⟨h.code.keep (fun k h1 h2 => lay4_other _ _ _ _ _ _ _ (by have := h.o2; omega)), r1, ?_, r2, h.new, h.o1, h.o2, h.o3, h.o4, ha, hb, fun i h1 h2 => ?_⟩
  · unfold lay4
    rw [heap_setCell_same _ ab 3 _ 191 _ (heap_setCell_same _ ab 2 _ 191 _ (heap_setCell_same _ ab 1 _ 191 _ (heap_setCell_same _ ab 0 _ 191 _ h.var)))]
    simp
  · by_cases e : i = j
    · subst e; exact hp h1
    · exact h.pre i h1 (by omega)

theorem GetAt.node (h : GetAt ls w ws cp lo hi wg g cap N base A B S H ix ky rp gr ab high zs f t j a) : 1 ≤ a ∧ a < N ∧ ky a = kf f j := by
  obtain ⟨h1, h2, h3, _⟩ := h.code.tr.inX _ h.beg
  rw [← h.al] at h1 h2 h3
  exact ⟨h1, h2, h3⟩

theorem GetAt.word (h : GetAt ls w ws cp lo hi wg g cap N base A B S H ix ky rp gr ab high zs f t j a) {i : Nat} (hi : Wrd ls ls.length i (kf f j)) : H a = true ∧ S a = i ∧ 1 ≤ j := by
  obtain ⟨h1, h2, h3⟩ := h.node
  have hm := (h.code.tr.mark a h1 h2).1 i (by rw [h3]; exact hi)
  refine ⟨hm.1, hm.2, ?_⟩
  rcases j with _ | j
  · exfalso
    have hk := hi.2.2
    have hp : 2 ^ 1 ≤ 2 ^ Canon.ln ls i := Nat.pow_le_pow_right (by decide) hi.2.1
    unfold key at hk
    simp only [kf] at hk
    omega
  · omega

theorem GetAt.noword (h : GetAt ls w ws cp lo hi wg g cap N base A B S H ix ky rp gr ab high zs f t j a) (hn : ∀ i, ¬ Wrd ls ls.length i (kf f j)) : H a = false ∧ S a = 0 := by
  obtain ⟨h1, h2, h3⟩ := h.node
  exact (h.code.tr.mark a h1 h2).2 (by rw [h3]; exact hn)

/-- where the next bit leads -/
theorem GetAt.kid (h : GetAt ls w ws cp lo hi wg g cap N base A B S H ix ky rp gr ab high zs f t j a) : (f j = false → A a = ix (kf f (j + 1))) ∧ (f j = true → B a = ix (kf f (j + 1))) := by
  obtain ⟨h1, h2, h3⟩ := h.node
  have hk := h.code.tr.kid a h1 h2
  rw [h3] at hk
  refine ⟨fun e => ?_, fun e => ?_⟩
  · rw [hk.1, kf, e]; rfl
  · rw [hk.2, kf, e]; rfl

theorem GetAt.zero (h : GetAt ls w ws cp lo hi wg g cap N base A B S H ix ky rp gr ab high zs f t j a) (hb : ¬ Beg ls ls.length (kf f (j + 1))) : ix (kf f (j + 1)) = 0 ∧ A 0 = 0 ∧ B 0 = 0 ∧ S 0 = 0 ∧ H 0 = false :=
  ⟨h.code.tr.no _ hb, h.code.tr.out 0 (.inl rfl)⟩

/-- no node that is there is empty -/
theorem GetAt.full (h : GetAt ls w ws cp lo hi wg g cap N base A B S H ix ky rp gr ab high zs f t j a) (hb : Beg ls ls.length (kf f (j + 1))) (a' : Nat) (ha : a' = ix (kf f (j + 1))) : a' < N ∧ (A a' ≠ 0 ∨ B a' ≠ 0 ∨ H a' = true) := by
  obtain ⟨h1, h2, h3, _⟩ := h.code.tr.inX _ hb
  rw [← ha] at h1 h2 h3
  refine ⟨h2, ?_⟩
  by_cases hw : ∃ i, Wrd ls ls.length i (kf f (j + 1))
  · obtain ⟨i, hi⟩ := hw
    exact .inr (.inr ((h.code.tr.mark a' h1 h2).1 i (by rw [h3]; exact hi)).1)
  · obtain ⟨b, hb1, hc⟩ := Pre.child h.code.good ⟨hb, fun i hi => hw ⟨i, hi⟩⟩ (fun e => by have := kf_two f (j + 1) (by omega); omega)
    have hk := h.code.tr.kid a' h1 h2
    rw [h3] at hk
    have hx := (h.code.tr.inX _ hc).1
    by_cases e : b = 0
    · subst e; left; rw [hk.1]; simp only [Nat.add_zero] at hx; omega
    · obtain rfl : b = 1 := by omega
      right; left; rw [hk.2]; omega

theorem GetAt.v (h : GetAt ls w ws cp lo hi wg g cap N base A B S H ix ky rp gr ab high zs f t j a) : ws.cell? ⟨ab, 0, none⟩ = some (.int .i32 (A a : Int)) ∧ ws.cell? ⟨ab, 1, none⟩ = some (.int .i32 (B a : Int)) ∧ ws.cell? ⟨ab, 2, none⟩ = some (.int .i32 (S a : Int)) ∧ ws.cell? ⟨ab, 3, none⟩ = some (.bool (H a)) := by
  simp [World.cell?, h.var]
theorem GetAt.fz (h : GetAt ls w ws cp lo hi wg g cap N base A B S H ix ky rp gr ab high zs f t j a) (k : Nat) : ws.frozen? ⟨ab, k, none⟩ = false := by
  simp [World.frozen?, h.var]

theorem getAt_start (h : CodeAt ls w cp lo hi wg g cap N base A B S H ix ky) (hrd : ROk w rp high gr zs t) (ho : rp < lo ∨ hi ≤ rp) (hhi : hi ≤ w.heap.size) :
    GetAt ls w (w.alloc (.cells #[.int .i32 (A 1 : Int), .int .i32 (B 1 : Int), .int .i32 (S 1 : Int), .bool (H 1)] 191)) cp lo hi wg g cap N base A B S H ix ky rp gr w.heap.size high zs f t 0 1 := by
  have l1 := hrd.lt
  have l2 := heap_lt hrd.row
  have e := (h.tr.inK 1 (by omega) (by have := h.tr.two; omega)).2
  rw [h.tr.root] at e
  exact ⟨h.keep (fun k h1 h2 => Below.heap_alloc _ _ _ (by omega)), hrd.keep (Below.heap_alloc _ _ _ l1) (Below.heap_alloc _ _ _ l2), heap_alloc_new _ _, Only.alloc _ _ _, Nat.le_refl _, ho, hhi, by omega, by omega, by rw [kf, e], .inl rfl, fun i h1 h2 => by omega⟩

end

theorem info21 : (Tryz.prog.info? 21).map (fun i => (i.zero, i.size, i.bytes)) = some (some (.int .i32 0), 1, 4) := by kernel_rfl

theorem eq_pair (w : World) (x y : Int) : (Op.equalIn 9999 189 (.agg #[.int .i32 x, .int .i32 y]) (.agg #[.int .i32 0, .int .i32 0])).run Tryz.prog w = .ok (decide (x = 0) && decide (y = 0)) w := by
  obtain ⟨i0, hi, hz0, hz1, hz2⟩ := info_parts info21
  have := run_equalIn_array (P := Tryz.prog) (w := w) 9998 #[.int .i32 x, .int .i32 y] #[.int .i32 0, .int .i32 0] Tryz.underlying189 hi
  rw [this]
  rw [show List.range 2 = [0, 1] from rfl, show Tryz.prog.cellsOf 21 = 1 by kernel_rfl]
  simp only [Op.eqItems, Sem.run_bind]
  by_cases hx : x = 0
  · by_cases hy : y = 0
    · subst hx hy
      go_simp
    · go_simp
  · go_simp

theorem eq_pair_no (w : World) (x y : Nat) (h : ¬ (x = 0 ∧ y = 0)) : (Op.equalIn 9999 189 (.agg #[.int .i32 (x : Int), .int .i32 (y : Int)]) (.agg #[.int .i32 0, .int .i32 0])).run Tryz.prog w = .ok false w := by
  rw [eq_pair]
  congr 1
  by_cases hx : x = 0
  · have hy : y ≠ 0 := fun e => h ⟨hx, e⟩
    simp [hy]
  · simp [hx]

theorem num_one (high : Bool) (zs : List Nat) (t : Nat) : (numAt high (1 : Int).toNat (fun i => bitIn high zs (t + i)) : Int) = ((bitIn high zs t).toNat : Int) := by
  have : numAt high 1 (fun i => bitIn high zs (t + i)) = (bitIn high zs t).toNat := by
    cases high <;> simp [numAt, acc, rk]
  exact congrArg _ this

set_option maxRecDepth 100000 in
set_option maxHeartbeats 1000000 in
theorem cget_ok (ls : List Nat) (cp lo hi rp gr p : Nat) (high : Bool) (zs : List Nat) (w : World) (h : Code ls w cp lo hi) (hrd : ROk w rp high gr zs p) (hn : zs.length ≤ 140737488355328) (ho : rp < lo ∨ hi ≤ rp) (hhi : hi ≤ w.heap.size) :
    Calls Tryz.prog 131 #[.pointer (some ⟨cp, 0, none⟩), .pointer (some ⟨rp, 0, none⟩)] w fun e w' => ∃ (s n x : Nat), e = .returned (.tuple #[.int .i64 (s : Int), .int .i64 (x : Int)]) ∧ GetIs ls (fun i => bitIn high zs (p + i)) (8 * zs.length - p) s n x ∧ ROk w' rp high gr zs (p + n) ∧ Only rp w w' := by
  obtain ⟨wg, g, cap, N, base, A, B, S, H, ix, ky, h⟩ := h
  have c0 := h.c0
  have c2 := h.c2
  have hN2 := h.tr.two
  have k1 := h.nodes.cA 1 (by omega)
  have k2 := h.nodes.cB 1 (by omega)
  have k3 := h.nodes.cS 1 (by omega)
  have k4 := h.nodes.cH 1 (by omega)
  simp only [Nat.one_mul] at k1 k2 k3 k4
  have h1N : (1 : Int) < (N : Int) := by omega
  have HC := hide h
  have HRD := hide hrd
  clear h hrd
  go_enter Tryz.func131, Tryz.ntmps131
  go_wp2_with (go_at_call 140; refine (cgood_yes _ _ (by assumption)).mono ?_; rintro e w' ⟨rfl, rfl⟩)
  have HST := hide (getAt_start (f := fun i => bitIn high zs (p + i)) (unhide HC) (unhide HRD) ho hhi)
  obtain ⟨ab, hab⟩ : ∃ ab, ab = w'.heap.size := ⟨_, rfl⟩
  rw [← hab] at HST ⊢
  generalize w'.alloc (.cells #[.int .i32 (A 1 : Int), .int .i32 (B 1 : Int), .int .i32 (S 1 : Int), .bool (H 1)] 191) = w1 at HST ⊢
  clear hab c0 c2 k1 k2 k3 k4 h1N HC HRD
  obtain ⟨f, hf⟩ : ∃ f : Nat → Bool, f = fun i => bitIn high zs (p + i) := ⟨_, rfl⟩
  rw [← hf] at HST
  have HFF := hide hf
  clear hf
  go_loopg [] (8 * zs.length - p) (fun gk ws => ∃ (j a : Nat), gk = 8 * zs.length - p - j ∧ p + j ≤ 8 * zs.length ∧ GetAt ls w' ws cp lo hi wg g cap N base A B S H ix ky rp gr ab high zs f (p + j) j a)
  case atStart => exact ⟨0, 1, by omega, (unhide HST).rd.le, unhide HST⟩
  case round =>
    obtain ⟨j, a, rfl, hj, hst⟩ := hrel
    clear HST
    by_cases hwd : ∃ i, Wrd ls ls.length i (kf f j)
    · obtain ⟨i, hi⟩ := hwd
      obtain ⟨w1, w2, w3⟩ := hst.word hi
      obtain ⟨v0, v1, v2, v3⟩ := hst.v
      rw [w1] at v3
      rw [w2] at v2
      have hi16 : i < 65536 := by have := hi.1; have := hst.code.small; omega
      have HFIN : Hid (GetIs ls f (8 * zs.length - p) i j 0 ∧ ROk wr rp high gr zs (p + j) ∧ Only rp w' wr) := hide ⟨⟨by omega, fun x h1 h2 => hst.pre x h1 h2, .inl ⟨rfl, w3, hi⟩⟩, hst.rd, hst.only⟩
      clear hst hi w1 w2 w3
      go_wp2_with fail
      go_ret2
      obtain ⟨r1, r2, r3⟩ := unhide HFIN
      rw [unhide HFF] at r1
      exact ⟨i, j, 0, rfl, r1, r2, r3⟩
    · have hnw : ∀ i, ¬ Wrd ls ls.length i (kf f j) := fun i hi => hwd ⟨i, hi⟩
      obtain ⟨w1, w2⟩ := hst.noword hnw
      obtain ⟨v0, v1, v2, v3⟩ := hst.v
      rw [w1] at v3
      rw [w2] at v2
      clear hwd w1 w2
      by_cases hlt : p + j < 8 * zs.length
      · have hkk := hst.kid
        have hfj : f j = bitIn high zs (p + j) := by rw [unhide HFF]
        have c2 := hst.code.c2
        have f0 := hst.fz 0
        have f1 := hst.fz 1
        have f2 := hst.fz 2
        have f3 := hst.fz 3
        cases hfb : f j with
        | false =>
          have hkid := hkk.1 hfb
          obtain ⟨a', ha'⟩ : ∃ a', a' = ix (kf f (j + 1)) := ⟨_, rfl⟩
          by_cases hbg : Beg ls ls.length (kf f (j + 1))
          · obtain ⟨q1, q2⟩ := hst.full hbg a' ha'
            have k1 := hst.code.nodes.cA a' q1
            have k2 := hst.code.nodes.cB a' q1
            have k3 := hst.code.nodes.cS a' q1
            have k4 := hst.code.nodes.cH a' q1
            have haN : (a' : Int) < (N : Int) := by omega
            have HST := hide hst
            have HNX : Hid (∀ ws, GetAt ls w' ws cp lo hi wg g cap N base A B S H ix ky rp gr ab high zs f (p + j + 1) j a → GetAt ls w' (lay4 ws ab (.int .i32 (A a' : Int)) (.int .i32 (B a' : Int)) (.int .i32 (S a' : Int)) (.bool (H a'))) cp lo hi wg g cap N base A B S H ix ky rp gr ab high zs f (p + j + 1) (j + 1) a') := hide (fun ws h => h.next a' ha' hbg (fun _ => ⟨hst.beg, hnw⟩))
            have HNZ := hide q2
            have HKID := hide hkid
            have HAA := hide ha'
            clear hst q2 ha' hnw hkk hkid hbg
            go_upto_region 8 with (go_at_call 48; go_must (refine (get_ok rp gr (p + j) high zs 1 _ (unhide HST).rd hn (by omega) (by omega) (by simp; omega)).mono ?_; rintro e w2 ⟨rfl, q, rfl⟩; rw [num_one, show bitIn high zs (p + j) = false by rw [← hfj]; exact hfb, show ((false : Bool).toNat : Int) = 0 from rfl]; have HST2 := hide ((unhide HST).read q (p + j + 1) (by omega)); rw [show ((p + j + (1 : Int).toNat : Nat) : Int) = ((p + j + 1 : Nat) : Int) from rfl]))
            rw [show (p : Int) + (j : Int) + 1 = ((p + j + 1 : Nat) : Int) by omega]
            clear v0 v1 v2 v3 c2 f0 f1 f2 f3 k1 k2 k3 k4
            generalize (wr.drewN q).setCell ⟨rp, 3, none⟩ (.int .i64 ((p + j + 1 : Nat) : Int)) = wq at HST2 ⊢
            obtain ⟨v0, v1, v2, v3⟩ := (unhide HST2).v
            have c2 := (unhide HST2).code.c2
            have k1 := (unhide HST2).code.nodes.cA a' q1
            have k2 := (unhide HST2).code.nodes.cB a' q1
            have k3 := (unhide HST2).code.nodes.cS a' q1
            have k4 := (unhide HST2).code.nodes.cH a' q1
            rw [show A a = a' from (by rw [unhide HKID, ← unhide HAA])] at v0
            have HST3 := hide (unhide HST2).drew
            refine wp_tail 10 (by kernel_rfl) (by kernel_rfl) ?_
            simp only [List.take_succ_cons, List.take_zero, List.drop_succ_cons, List.drop_zero]
            repeat still_step
            try refine wpStill_nil ?_
            clear v0 v1 v2 v3 c2 k1 k2 k3 k4
            generalize wq.drew = w5 at HST3 ⊢
            obtain ⟨v0, v1, v2, v3⟩ := (unhide HST3).v
            have f0 := (unhide HST3).fz 0
            have f1 := (unhide HST3).fz 1
            have f2 := (unhide HST3).fz 2
            have f3 := (unhide HST3).fz 3
            by_cases hAB : A a' = 0 ∧ B a' = 0
            · have hH : H a' = true := by have := unhide HNZ; rcases this with h | h | h; exact absurd hAB.1 h; exact absurd hAB.2 h; exact h
              rw [hAB.1, hAB.2, hH] at HNX ⊢
              have heq := fun w => eq_pair w 0 0
              simp only [decide_true, Bool.and_true] at heq
              by_cases hS : S a' = 0
              · rw [hS] at HNX ⊢
                go_wp2_with fail
                go_roundg (8 * zs.length - p - (j + 1))
                case measure => omega
                case rel => exact ⟨j + 1, a', rfl, by omega, by have := unhide HNX _ (unhide HST3); exact this⟩
              · have hS' : ¬ ((S a' : Nat) : Int) = 0 := by omega
                go_wp2_with fail
                go_roundg (8 * zs.length - p - (j + 1))
                case measure => omega
                case rel => exact ⟨j + 1, a', rfl, by omega, by have := unhide HNX _ (unhide HST3); exact this⟩
            · have heq := fun w => eq_pair_no w (A a') (B a') hAB
              go_wp2_with fail
              go_roundg (8 * zs.length - p - (j + 1))
              case measure => omega
              case rel => exact ⟨j + 1, a', rfl, by omega, by have := unhide HNX _ (unhide HST3); exact this⟩
          · obtain ⟨z0, z1, z2, z3, z4⟩ := hst.zero hbg
            have hz : A a = 0 := by rw [hkid, z0]
            have q1 : 0 < N := by omega
            have k1 := hst.code.nodes.cA 0 q1
            have k2 := hst.code.nodes.cB 0 q1
            have k3 := hst.code.nodes.cS 0 q1
            have k4 := hst.code.nodes.cH 0 q1
            have haN : (0 : Int) < (N : Int) := by omega
            have HST := hide hst
            have HFIN : Hid (GetIs ls f (8 * zs.length - p) 0 (j + 1) 11) := hide ⟨by omega, fun x h1 h2 => by
              by_cases e : x = j
              · subst e; exact ⟨hst.beg, hnw⟩
              · exact hst.pre x h1 (by omega), .inr (.inl ⟨rfl, rfl, by omega, hbg⟩)⟩
            have HZ := hide hz
            have HZZ := hide (show A 0 = 0 ∧ B 0 = 0 ∧ S 0 = 0 ∧ H 0 = false from ⟨z1, z2, z3, z4⟩)
            clear hst ha' hnw hkk hkid hbg z0 z1 z2 z3 z4 hz
            go_upto_region 8 with (go_at_call 48; go_must (refine (get_ok rp gr (p + j) high zs 1 _ (unhide HST).rd hn (by omega) (by omega) (by simp; omega)).mono ?_; rintro e w2 ⟨rfl, q, rfl⟩; rw [num_one, show bitIn high zs (p + j) = false by rw [← hfj]; exact hfb, show ((false : Bool).toNat : Int) = 0 from rfl]; have HST2 := hide ((unhide HST).read q (p + j + 1) (by omega)); rw [show ((p + j + (1 : Int).toNat : Nat) : Int) = ((p + j + 1 : Nat) : Int) from rfl]))
            rw [show (p : Int) + (j : Int) + 1 = ((p + j + 1 : Nat) : Int) by omega]
            clear v0 v1 v2 v3 c2 f0 f1 f2 f3 k1 k2 k3 k4
            generalize (wr.drewN q).setCell ⟨rp, 3, none⟩ (.int .i64 ((p + j + 1 : Nat) : Int)) = wq at HST2 ⊢
            obtain ⟨v0, v1, v2, v3⟩ := (unhide HST2).v
            have c2 := (unhide HST2).code.c2
            have k1 := (unhide HST2).code.nodes.cA 0 q1
            have k2 := (unhide HST2).code.nodes.cB 0 q1
            have k3 := (unhide HST2).code.nodes.cS 0 q1
            have k4 := (unhide HST2).code.nodes.cH 0 q1
            rw [unhide HZ] at v0
            obtain ⟨z1, z2, z3, z4⟩ := unhide HZZ
            rw [z1, Nat.zero_mul] at k1
            rw [z2, Nat.zero_mul] at k2
            rw [z3, Nat.zero_mul] at k3
            rw [z4, Nat.zero_mul] at k4
            clear z1 z2 z3 z4
            have HST3 := hide (unhide HST2).drew
            refine wp_tail 10 (by kernel_rfl) (by kernel_rfl) ?_
            simp only [List.take_succ_cons, List.take_zero, List.drop_succ_cons, List.drop_zero]
            repeat still_step
            try refine wpStill_nil ?_
            clear v0 v1 v2 v3 c2 k1 k2 k3 k4
            generalize wq.drew = w5 at HST3 ⊢
            obtain ⟨v0, v1, v2, v3⟩ := (unhide HST3).v
            have f0 := (unhide HST3).fz 0
            have f1 := (unhide HST3).fz 1
            have f2 := (unhide HST3).fz 2
            have f3 := (unhide HST3).fz 3
            have heq := fun w => eq_pair w 0 0
            simp only [decide_true, Bool.and_true] at heq
            go_wp2_with fail
            go_ret2
            have r1 := unhide HFIN
            rw [unhide HFF] at r1
            obtain ⟨r2, r3⟩ := (unhide HST3).outs (.int .i32 0) (.int .i32 0) (.int .i32 0) (.bool false)
            exact ⟨0, j + 1, 11, rfl, r1, r2, r3⟩
        | true =>
          have hkid := hkk.2 hfb
          obtain ⟨a', ha'⟩ : ∃ a', a' = ix (kf f (j + 1)) := ⟨_, rfl⟩
          by_cases hbg : Beg ls ls.length (kf f (j + 1))
          · obtain ⟨q1, q2⟩ := hst.full hbg a' ha'
            have k1 := hst.code.nodes.cA a' q1
            have k2 := hst.code.nodes.cB a' q1
            have k3 := hst.code.nodes.cS a' q1
            have k4 := hst.code.nodes.cH a' q1
            have haN : (a' : Int) < (N : Int) := by omega
            have HST := hide hst
            have HNX : Hid (∀ ws, GetAt ls w' ws cp lo hi wg g cap N base A B S H ix ky rp gr ab high zs f (p + j + 1) j a → GetAt ls w' (lay4 ws ab (.int .i32 (A a' : Int)) (.int .i32 (B a' : Int)) (.int .i32 (S a' : Int)) (.bool (H a'))) cp lo hi wg g cap N base A B S H ix ky rp gr ab high zs f (p + j + 1) (j + 1) a') := hide (fun ws h => h.next a' ha' hbg (fun _ => ⟨hst.beg, hnw⟩))
            have HNZ := hide q2
            have HKID := hide hkid
            have HAA := hide ha'
            clear hst q2 ha' hnw hkk hkid hbg
            go_upto_region 8 with (go_at_call 48; go_must (refine (get_ok rp gr (p + j) high zs 1 _ (unhide HST).rd hn (by omega) (by omega) (by simp; omega)).mono ?_; rintro e w2 ⟨rfl, q, rfl⟩; rw [num_one, show bitIn high zs (p + j) = true by rw [← hfj]; exact hfb, show ((true : Bool).toNat : Int) = 1 from rfl]; have HST2 := hide ((unhide HST).read q (p + j + 1) (by omega)); rw [show ((p + j + (1 : Int).toNat : Nat) : Int) = ((p + j + 1 : Nat) : Int) from rfl]))
            rw [show (p : Int) + (j : Int) + 1 = ((p + j + 1 : Nat) : Int) by omega]
            clear v0 v1 v2 v3 c2 f0 f1 f2 f3 k1 k2 k3 k4
            generalize (wr.drewN q).setCell ⟨rp, 3, none⟩ (.int .i64 ((p + j + 1 : Nat) : Int)) = wq at HST2 ⊢
            obtain ⟨v0, v1, v2, v3⟩ := (unhide HST2).v
            have c2 := (unhide HST2).code.c2
            have k1 := (unhide HST2).code.nodes.cA a' q1
            have k2 := (unhide HST2).code.nodes.cB a' q1
            have k3 := (unhide HST2).code.nodes.cS a' q1
            have k4 := (unhide HST2).code.nodes.cH a' q1
            rw [show B a = a' from (by rw [unhide HKID, ← unhide HAA])] at v1
            have HST3 := hide (unhide HST2).drew
            refine wp_tail 10 (by kernel_rfl) (by kernel_rfl) ?_
            simp only [List.take_succ_cons, List.take_zero, List.drop_succ_cons, List.drop_zero]
            repeat still_step
            try refine wpStill_nil ?_
            clear v0 v1 v2 v3 c2 k1 k2 k3 k4
            generalize wq.drew = w5 at HST3 ⊢
            obtain ⟨v0, v1, v2, v3⟩ := (unhide HST3).v
            have f0 := (unhide HST3).fz 0
            have f1 := (unhide HST3).fz 1
            have f2 := (unhide HST3).fz 2
            have f3 := (unhide HST3).fz 3
            by_cases hAB : A a' = 0 ∧ B a' = 0
            · have hH : H a' = true := by have := unhide HNZ; rcases this with h | h | h; exact absurd hAB.1 h; exact absurd hAB.2 h; exact h
              rw [hAB.1, hAB.2, hH] at HNX ⊢
              have heq := fun w => eq_pair w 0 0
              simp only [decide_true, Bool.and_true] at heq
              by_cases hS : S a' = 0
              · rw [hS] at HNX ⊢
                go_wp2_with fail
                go_roundg (8 * zs.length - p - (j + 1))
                case measure => omega
                case rel => exact ⟨j + 1, a', rfl, by omega, by have := unhide HNX _ (unhide HST3); exact this⟩
              · have hS' : ¬ ((S a' : Nat) : Int) = 0 := by omega
                go_wp2_with fail
                go_roundg (8 * zs.length - p - (j + 1))
                case measure => omega
                case rel => exact ⟨j + 1, a', rfl, by omega, by have := unhide HNX _ (unhide HST3); exact this⟩
            · have heq := fun w => eq_pair_no w (A a') (B a') hAB
              go_wp2_with fail
              go_roundg (8 * zs.length - p - (j + 1))
              case measure => omega
              case rel => exact ⟨j + 1, a', rfl, by omega, by have := unhide HNX _ (unhide HST3); exact this⟩
          · obtain ⟨z0, z1, z2, z3, z4⟩ := hst.zero hbg
            have hz : B a = 0 := by rw [hkid, z0]
            have q1 : 0 < N := by omega
            have k1 := hst.code.nodes.cA 0 q1
            have k2 := hst.code.nodes.cB 0 q1
            have k3 := hst.code.nodes.cS 0 q1
            have k4 := hst.code.nodes.cH 0 q1
            have haN : (0 : Int) < (N : Int) := by omega
            have HST := hide hst
            have HFIN : Hid (GetIs ls f (8 * zs.length - p) 0 (j + 1) 11) := hide ⟨by omega, fun x h1 h2 => by
              by_cases e : x = j
              · subst e; exact ⟨hst.beg, hnw⟩
              · exact hst.pre x h1 (by omega), .inr (.inl ⟨rfl, rfl, by omega, hbg⟩)⟩
            have HZ := hide hz
            have HZZ := hide (show A 0 = 0 ∧ B 0 = 0 ∧ S 0 = 0 ∧ H 0 = false from ⟨z1, z2, z3, z4⟩)
            clear hst ha' hnw hkk hkid hbg z0 z1 z2 z3 z4 hz
            go_upto_region 8 with (go_at_call 48; go_must (refine (get_ok rp gr (p + j) high zs 1 _ (unhide HST).rd hn (by omega) (by omega) (by simp; omega)).mono ?_; rintro e w2 ⟨rfl, q, rfl⟩; rw [num_one, show bitIn high zs (p + j) = true by rw [← hfj]; exact hfb, show ((true : Bool).toNat : Int) = 1 from rfl]; have HST2 := hide ((unhide HST).read q (p + j + 1) (by omega)); rw [show ((p + j + (1 : Int).toNat : Nat) : Int) = ((p + j + 1 : Nat) : Int) from rfl]))
            rw [show (p : Int) + (j : Int) + 1 = ((p + j + 1 : Nat) : Int) by omega]
            clear v0 v1 v2 v3 c2 f0 f1 f2 f3 k1 k2 k3 k4
            generalize (wr.drewN q).setCell ⟨rp, 3, none⟩ (.int .i64 ((p + j + 1 : Nat) : Int)) = wq at HST2 ⊢
            obtain ⟨v0, v1, v2, v3⟩ := (unhide HST2).v
            have c2 := (unhide HST2).code.c2
            have k1 := (unhide HST2).code.nodes.cA 0 q1
            have k2 := (unhide HST2).code.nodes.cB 0 q1
            have k3 := (unhide HST2).code.nodes.cS 0 q1
            have k4 := (unhide HST2).code.nodes.cH 0 q1
            rw [unhide HZ] at v1
            obtain ⟨z1, z2, z3, z4⟩ := unhide HZZ
            rw [z1, Nat.zero_mul] at k1
            rw [z2, Nat.zero_mul] at k2
            rw [z3, Nat.zero_mul] at k3
            rw [z4, Nat.zero_mul] at k4
            clear z1 z2 z3 z4
            have HST3 := hide (unhide HST2).drew
            refine wp_tail 10 (by kernel_rfl) (by kernel_rfl) ?_
            simp only [List.take_succ_cons, List.take_zero, List.drop_succ_cons, List.drop_zero]
            repeat still_step
            try refine wpStill_nil ?_
            clear v0 v1 v2 v3 c2 k1 k2 k3 k4
            generalize wq.drew = w5 at HST3 ⊢
            obtain ⟨v0, v1, v2, v3⟩ := (unhide HST3).v
            have f0 := (unhide HST3).fz 0
            have f1 := (unhide HST3).fz 1
            have f2 := (unhide HST3).fz 2
            have f3 := (unhide HST3).fz 3
            have heq := fun w => eq_pair w 0 0
            simp only [decide_true, Bool.and_true] at heq
            go_wp2_with fail
            go_ret2
            have r1 := unhide HFIN
            rw [unhide HFF] at r1
            obtain ⟨r2, r3⟩ := (unhide HST3).outs (.int .i32 0) (.int .i32 0) (.int .i32 0) (.bool false)
            exact ⟨0, j + 1, 11, rfl, r1, r2, r3⟩
      · have he : p + j = 8 * zs.length := by omega
        have HFIN : Hid (GetIs ls f (8 * zs.length - p) 0 j 10 ∧ ROk wr rp high gr zs (p + j) ∧ Only rp w' wr) := hide ⟨⟨by omega, fun x h1 h2 => hst.pre x h1 h2, .inr (.inr ⟨rfl, rfl, by omega, fun h1 => ⟨hst.beg, hnw⟩⟩)⟩, hst.rd, hst.only⟩
        have HRD := hide hst.rd
        clear hst hnw
        go_wp2_with (go_at_call 48; go_must (refine (get_end rp gr (p + j) high zs 1 _ (unhide HRD) hn (by omega) (by omega) (by omega)).mono ?_; rintro e w2 ⟨rfl, q, rfl⟩))
        go_ret2
        obtain ⟨r1, r2, r3⟩ := unhide HFIN
        rw [unhide HFF] at r1
        exact ⟨0, j, 10, rfl, r1, r2.drewN q, r3.trans (Only.drewN _ _ _)⟩

end Go.Proofs.YtabeanealkopbaaGreat
end

section
namespace Go.Proofs.YtabeanealkopbaaGreat
open Go.RowKit Infl
set_option maxRecDepth 100000
set_option linter.unusedVariables false

/-- what is told of a length's symbol -/
def lenAns (s : Int) : Value := if s < 257 ∨ 285 < s then .tuple #[.int .i64 0, .int .i64 0, .int .i64 2] else .tuple #[.int .i64 ((lenOf s.toNat).1 : Int), .int .i64 ((lenOf s.toNat).2 : Int), .int .i64 0]

/-- what is told of a distance's symbol -/
def distAns (s : Int) : Value := if s < 0 ∨ 29 < s then .tuple #[.int .i64 0, .int .i64 0, .int .i64 2] else .tuple #[.int .i64 ((distOf s.toNat).1 : Int), .int .i64 ((distOf s.toNat).2 : Int), .int .i64 0]

set_option maxHeartbeats 2000000 in
theorem len_ok (s : Int) (w : World) : Calls Tryz.prog 138 #[.int .i64 s] w fun e w' => e = .returned (lenAns s) ∧ w' = w := by
  unfold lenAns
  by_cases h1 : s < 257 ∨ 285 < s
  · rw [if_pos h1]
    rcases h1 with h1 | h1
    · go_enter Tryz.func138, Tryz.ntmps138
      go_wp2_with fail
      go_ret3
      exact ⟨rfl, rfl⟩
    · have g1 : ¬ s < 257 := by omega
      go_enter Tryz.func138, Tryz.ntmps138
      go_wp2_with fail
      go_ret3
      exact ⟨rfl, rfl⟩
  · rw [if_neg h1]
    have hc : s = 257 ∨ s = 258 ∨ s = 259 ∨ s = 260 ∨ s = 261 ∨ s = 262 ∨ s = 263 ∨ s = 264 ∨ s = 265 ∨ s = 266 ∨ s = 267 ∨ s = 268 ∨ s = 269 ∨ s = 270 ∨ s = 271 ∨ s = 272 ∨ s = 273 ∨ s = 274 ∨ s = 275 ∨ s = 276 ∨ s = 277 ∨ s = 278 ∨ s = 279 ∨ s = 280 ∨ s = 281 ∨ s = 282 ∨ s = 283 ∨ s = 284 ∨ s = 285 := by omega
    clear h1
    rcases hc with rfl | rfl | rfl | rfl | rfl | rfl | rfl | rfl | rfl | rfl | rfl | rfl | rfl | rfl | rfl | rfl | rfl | rfl | rfl | rfl | rfl | rfl | rfl | rfl | rfl | rfl | rfl | rfl | rfl
    all_goals
      go_enter Tryz.func138, Tryz.ntmps138
      go_wp2_with fail
      go_ret3
      exact ⟨rfl, rfl⟩

set_option maxHeartbeats 2000000 in
theorem rlen_ok (s : Int) (w : World) : Calls Tryz.prog 69 #[.int .i64 s] w fun e w' => e = .returned (lenAns s) ∧ w' = w := by
  unfold lenAns
  by_cases h1 : s < 257 ∨ 285 < s
  · rw [if_pos h1]
    rcases h1 with h1 | h1
    · go_enter Tryz.func69, Tryz.ntmps69
      go_wp2_with fail
      go_ret3
      exact ⟨rfl, rfl⟩
    · have g1 : ¬ s < 257 := by omega
      go_enter Tryz.func69, Tryz.ntmps69
      go_wp2_with fail
      go_ret3
      exact ⟨rfl, rfl⟩
  · rw [if_neg h1]
    have hc : s = 257 ∨ s = 258 ∨ s = 259 ∨ s = 260 ∨ s = 261 ∨ s = 262 ∨ s = 263 ∨ s = 264 ∨ s = 265 ∨ s = 266 ∨ s = 267 ∨ s = 268 ∨ s = 269 ∨ s = 270 ∨ s = 271 ∨ s = 272 ∨ s = 273 ∨ s = 274 ∨ s = 275 ∨ s = 276 ∨ s = 277 ∨ s = 278 ∨ s = 279 ∨ s = 280 ∨ s = 281 ∨ s = 282 ∨ s = 283 ∨ s = 284 ∨ s = 285 := by omega
    clear h1
    rcases hc with rfl | rfl | rfl | rfl | rfl | rfl | rfl | rfl | rfl | rfl | rfl | rfl | rfl | rfl | rfl | rfl | rfl | rfl | rfl | rfl | rfl | rfl | rfl | rfl | rfl | rfl | rfl | rfl | rfl
    all_goals
      go_enter Tryz.func69, Tryz.ntmps69
      go_wp2_with fail
      go_ret3
      exact ⟨rfl, rfl⟩

set_option maxHeartbeats 2000000 in
theorem dist_ok (s : Int) (w : World) : Calls Tryz.prog 139 #[.int .i64 s] w fun e w' => e = .returned (distAns s) ∧ w' = w := by
  unfold distAns
  by_cases h1 : s < 0 ∨ 29 < s
  · rw [if_pos h1]
    rcases h1 with h1 | h1
    · go_enter Tryz.func139, Tryz.ntmps139
      go_wp2_with fail
      go_ret3
      exact ⟨rfl, rfl⟩
    · have g1 : ¬ s < 0 := by omega
      go_enter Tryz.func139, Tryz.ntmps139
      go_wp2_with fail
      go_ret3
      exact ⟨rfl, rfl⟩
  · rw [if_neg h1]
    have hc : s = 0 ∨ s = 1 ∨ s = 2 ∨ s = 3 ∨ s = 4 ∨ s = 5 ∨ s = 6 ∨ s = 7 ∨ s = 8 ∨ s = 9 ∨ s = 10 ∨ s = 11 ∨ s = 12 ∨ s = 13 ∨ s = 14 ∨ s = 15 ∨ s = 16 ∨ s = 17 ∨ s = 18 ∨ s = 19 ∨ s = 20 ∨ s = 21 ∨ s = 22 ∨ s = 23 ∨ s = 24 ∨ s = 25 ∨ s = 26 ∨ s = 27 ∨ s = 28 ∨ s = 29 := by omega
    clear h1
    rcases hc with rfl | rfl | rfl | rfl | rfl | rfl | rfl | rfl | rfl | rfl | rfl | rfl | rfl | rfl | rfl | rfl | rfl | rfl | rfl | rfl | rfl | rfl | rfl | rfl | rfl | rfl | rfl | rfl | rfl | rfl
    all_goals
      go_enter Tryz.func139, Tryz.ntmps139
      go_wp2_with fail
      go_ret3
      exact ⟨rfl, rfl⟩

set_option maxHeartbeats 2000000 in
theorem rdist_ok (s : Int) (w : World) : Calls Tryz.prog 70 #[.int .i64 s] w fun e w' => e = .returned (distAns s) ∧ w' = w := by
  unfold distAns
  by_cases h1 : s < 0 ∨ 29 < s
  · rw [if_pos h1]
    rcases h1 with h1 | h1
    · go_enter Tryz.func70, Tryz.ntmps70
      go_wp2_with fail
      go_ret3
      exact ⟨rfl, rfl⟩
    · have g1 : ¬ s < 0 := by omega
      go_enter Tryz.func70, Tryz.ntmps70
      go_wp2_with fail
      go_ret3
      exact ⟨rfl, rfl⟩
  · rw [if_neg h1]
    have hc : s = 0 ∨ s = 1 ∨ s = 2 ∨ s = 3 ∨ s = 4 ∨ s = 5 ∨ s = 6 ∨ s = 7 ∨ s = 8 ∨ s = 9 ∨ s = 10 ∨ s = 11 ∨ s = 12 ∨ s = 13 ∨ s = 14 ∨ s = 15 ∨ s = 16 ∨ s = 17 ∨ s = 18 ∨ s = 19 ∨ s = 20 ∨ s = 21 ∨ s = 22 ∨ s = 23 ∨ s = 24 ∨ s = 25 ∨ s = 26 ∨ s = 27 ∨ s = 28 ∨ s = 29 := by omega
    clear h1
    rcases hc with rfl | rfl | rfl | rfl | rfl | rfl | rfl | rfl | rfl | rfl | rfl | rfl | rfl | rfl | rfl | rfl | rfl | rfl | rfl | rfl | rfl | rfl | rfl | rfl | rfl | rfl | rfl | rfl | rfl | rfl
    all_goals
      go_enter Tryz.func70, Tryz.ntmps70
      go_wp2_with fail
      go_ret3
      exact ⟨rfl, rfl⟩

end Go.Proofs.YtabeanealkopbaaGreat
end

section
namespace Go.Proofs.YtabeanealkopbaaGreat
open Go.RowKit Mth Infl
set_option maxRecDepth 100000
set_option linter.unusedVariables false

/-- a reading: its reader of bits, what has come out, the most -/
structure RAt (w : World) (B rb rp g : Nat) (zs : List Nat) (p : Nat) (v : Value) (out : List Nat) (most : Nat) (sv dv : Value) : Prop where
  blk : w.heap[rb]? = some (.cells #[.pointer (some ⟨rp, 0, none⟩), .int .i64 (most : Int), v, sv, dv] 98 (0, 0))
  rd : ROk w rp false g zs p
  row : w.ownsRow B 5 1 v out.length (out.map bv)
  small : ∀ z ∈ out, z < 256
  lb : rb < B
  lp : rp < B
  lg : g < B
  ne : rp ≠ rb
  ng : g ≠ rb
  ol : out.length ≤ most
  hB : B ≤ w.heap.size

/-- what a call through it may change -/
structure Chg (rb rp : Nat) (v0 : Value) (w0 : World) (v : Value) (w : World) : Prop where
  os : w.os = w0.os
  tape : w.tape = w0.tape
  output : w.output = w0.output
  size : w0.heap.size ≤ w.heap.size
  keep : ∀ k, k < w0.heap.size → k ≠ rb → k ≠ rp → v0.ownBlock ≠ some k → w.heap[k]? = w0.heap[k]?
  lies : v.ownBlock = v0.ownBlock ∨ ∃ g, v.ownBlock = some g ∧ w0.heap.size ≤ g

section
variable {rb rp : Nat} {v0 v v1 v2 : Value} {w0 w w1 w2 w' : World} {B g p q most : Nat} {zs out : List Nat} {sv dv : Value}

theorem Chg.refl (rb rp : Nat) (v : Value) (w : World) : Chg rb rp v w v w := ⟨rfl, rfl, rfl, Nat.le_refl _, fun _ _ _ _ _ => rfl, .inl rfl⟩

theorem Chg.trans (h : Chg rb rp v0 w0 v1 w1) (k : Chg rb rp v1 w1 v2 w2) : Chg rb rp v0 w0 v2 w2 where
  os := k.os.trans h.os
  tape := k.tape.trans h.tape
  output := k.output.trans h.output
  size := Nat.le_trans h.size k.size
  keep := fun b hb hne hne2 hv => by
    have hs := h.size
    rw [k.keep b (by omega) hne hne2 (by
      rcases h.lies with e | ⟨g, e, hg⟩
      · rw [e]; exact hv
      · rw [e]; intro c; injection c with c; omega), h.keep b hb hne hne2 hv]
  lies := by
    have hs := h.size
    rcases k.lies with e | ⟨g, e, hg⟩
    · rw [e]; exact h.lies
    · exact .inr ⟨g, e, by omega⟩

theorem Chg.drewN (h : Chg rb rp v0 w0 v w) (n : Nat) : Chg rb rp v0 w0 v (w.drewN n) := ⟨h.os, h.tape, h.output, h.size, h.keep, h.lies⟩

theorem Chg.only (rb : Nat) (v : Value) (h : Only rp w w') : Chg rb rp v w v w' := ⟨h.os, h.tape, h.output, h.size, fun k h1 _ h3 _ => h.keep k h1 h3, .inl rfl⟩

theorem Chg.of_below (rb rp : Nat) (v : Value) (h : Below w.heap.size w w') : Chg rb rp v w v w' := ⟨h.os, h.tape, h.output, h.size, fun k h1 _ _ _ => h.block k h1, .inl rfl⟩

theorem Chg.below {C : Nat} (h : Chg rb rp v0 w0 v w) (h1 : C ≤ rb) (h2 : C ≤ rp) (h3 : C ≤ w0.heap.size) (h4 : ∀ k, v0.ownBlock = some k → C ≤ k) : Below C w0 w :=
  ⟨h.os, h.tape, h.output, h.size, fun k hk => h.keep k (by omega) (by omega) (by omega) (fun e => by have := h4 k e; omega)⟩

theorem RAt.c0 (h : RAt w B rb rp g zs p v out most sv dv) : w.cell? ⟨rb, 0, none⟩ = some (.pointer (some ⟨rp, 0, none⟩)) := by simp [World.cell?, h.blk]
theorem RAt.c1 (h : RAt w B rb rp g zs p v out most sv dv) : w.cell? ⟨rb, 1, none⟩ = some (.int .i64 (most : Int)) := by simp [World.cell?, h.blk]
theorem RAt.c2 (h : RAt w B rb rp g zs p v out most sv dv) : w.cell? ⟨rb, 2, none⟩ = some v := by simp [World.cell?, h.blk]
theorem RAt.c3 (h : RAt w B rb rp g zs p v out most sv dv) : w.cell? ⟨rb, 3, none⟩ = some sv := by simp [World.cell?, h.blk]
theorem RAt.c4 (h : RAt w B rb rp g zs p v out most sv dv) : w.cell? ⟨rb, 4, none⟩ = some dv := by simp [World.cell?, h.blk]
theorem RAt.fz (h : RAt w B rb rp g zs p v out most sv dv) (o : Nat) : w.frozen? ⟨rb, o, none⟩ = false := by simp [World.frozen?, h.blk]
theorem RAt.lt (h : RAt w B rb rp g zs p v out most sv dv) : rb < w.heap.size := heap_lt h.blk
theorem RAt.own (h : RAt w B rb rp g zs p v out most sv dv) {k : Nat} (e : v.ownBlock = some k) : B ≤ k ∧ k < w.heap.size := h.row.lt k e

theorem RAt.slice (h : RAt w B rb rp g zs p v out most sv dv) : ∃ a c, v = .slice a out.length c := by
  rcases h.row.2 with ⟨e, hn⟩ | ⟨g, c, cur, e, _⟩
  · exact ⟨none, 0, by rw [e, hn]⟩
  · exact ⟨_, c, e⟩

theorem RAt.drewN (h : RAt w B rb rp g zs p v out most sv dv) (n : Nat) : RAt (w.drewN n) B rb rp g zs p v out most sv dv :=
  ⟨h.blk, h.rd.drewN n, own_keep h.row (fun _ _ => rfl), h.small, h.lb, h.lp, h.lg, h.ne, h.ng, h.ol, h.hB⟩

theorem RAt.only (h : RAt w B rb rp g zs p v out most sv dv) (ho : Only rp w w') (hr : ROk w' rp false g zs q) : RAt w' B rb rp g zs q v out most sv dv :=
  ⟨by rw [ho.keep rb h.lt (by have := h.ne; omega)]; exact h.blk, hr, own_keep h.row (fun k e => ho.keep k (h.own e).2 (by have := (h.own e).1; have := h.lp; omega)), h.small, h.lb, h.lp, h.lg, h.ne, h.ng, h.ol, by have := ho.size; have := h.hB; omega⟩

theorem RAt.below (h : RAt w B rb rp g zs p v out most sv dv) (hb : Below w.heap.size w w') : RAt w' B rb rp g zs p v out most sv dv :=
  h.only (Only.of_below hb) (h.rd.keep (hb.block _ h.rd.lt) (hb.block _ (heap_lt h.rd.row)))

theorem RAt.read (h : RAt w B rb rp g zs p v out most sv dv) (k q : Nat) (hq : q ≤ 8 * zs.length) : RAt ((w.drewN k).setCell ⟨rp, 3, none⟩ (.int .i64 (q : Int))) B rb rp g zs q v out most sv dv :=
  h.only ((Only.drewN rp w k).set 3 _) ((h.rd.drewN k).set q hq)

/-- the fixed codes are put there -/
theorem RAt.codes (h : RAt w B rb rp g zs p v out most sv dv) (sv' dv' : Value) : RAt ((w.setCell ⟨rb, 3, none⟩ sv').setCell ⟨rb, 4, none⟩ dv') B rb rp g zs p v out most sv' dv' := by
  have e : ∀ k, k ≠ rb → ((w.setCell ⟨rb, 3, none⟩ sv').setCell ⟨rb, 4, none⟩ dv').heap[k]? = w.heap[k]? := fun k hk => by
    rw [heap_setCell_other _ _ _ _ (by exact hk), heap_setCell_other _ _ _ _ (by exact hk)]
  refine ⟨?_, h.rd.keep (e rp h.ne) (e g h.ng), own_keep h.row (fun k hk => e k (by have := (h.own hk).1; have := h.lb; omega)), h.small, h.lb, h.lp, h.lg, h.ne, h.ng, h.ol, by simpa using h.hB⟩
  rw [heap_setCell_same _ rb 4 _ _ _ (heap_setCell_same _ rb 3 _ _ _ h.blk)]
  simp

theorem Chg.codes (h : Chg rb rp v0 w0 v w) (sv' dv' : Value) : Chg rb rp v0 w0 v ((w.setCell ⟨rb, 3, none⟩ sv').setCell ⟨rb, 4, none⟩ dv') :=
  ⟨h.os, h.tape, h.output, by simpa using h.size, fun k h1 h2 h3 h4 => by rw [heap_setCell_other _ _ _ _ (by exact h2), heap_setCell_other _ _ _ _ (by exact h2)]; exact h.keep k h1 h2 h3 h4, h.lies⟩

/-- more comes out: the row has grown, and is put there -/
theorem RAt.grow (h : RAt w B rb rp g zs p v out most sv dv) (hb : Below w.heap.size w w1) {g' cap : Nat} {ys : List Nat} (hy : ∀ z ∈ ys, z < 256) (hl : out.length + ys.length ≤ most)
    (hown : w2.ownsRow B 5 1 (.slice (some ⟨g', 0, none⟩) (out.length + ys.length) cap) (out.length + ys.length) (out.map bv ++ ys.map bv)) (hg : w1.grownBy w2 v.ownBlock) (hat : v.ownBlock = some g' ∨ w.heap.size ≤ g') :
    RAt (w2.setCell ⟨rb, 2, none⟩ (.slice (some ⟨g', 0, none⟩) (out.length + ys.length) cap)) B rb rp g zs p (.slice (some ⟨g', 0, none⟩) (out.length + ys.length) cap) (out ++ ys) most sv dv ∧
    Chg rb rp v w (.slice (some ⟨g', 0, none⟩) (out.length + ys.length) cap) (w2.setCell ⟨rb, 2, none⟩ (.slice (some ⟨g', 0, none⟩) (out.length + ys.length) cap)) := by
  have hlt := h.lt
  have hsz := hb.size
  have hg' : B ≤ g' := by
    rcases hat with e | e
    · exact (h.own e).1
    · have := h.hB; omega
  have hkeep : ∀ k, k < w.heap.size → v.ownBlock ≠ some k → w2.heap[k]? = w.heap[k]? := fun k hk hne => by
    rw [hg.block k (by omega) (fun e => hne e.symm), hb.block k hk]
  have hvb : ∀ k, k < B → v.ownBlock ≠ some k := fun k hk e => by have := (h.own e).1; omega
  have hbk := (hkeep rb hlt (hvb rb h.lb)).trans h.blk
  refine ⟨⟨?_, ?_, ?_, ?_, h.lb, h.lp, h.lg, h.ne, h.ng, by rw [List.length_append]; exact hl, ?_⟩, ?_⟩
  · rw [heap_setCell_same w2 rb 2 _ _ _ hbk]; simp
  · refine h.rd.keep ?_ ?_
    · rw [heap_setCell_other _ _ _ _ (by exact h.ne)]; exact hkeep rp h.rd.lt (hvb rp h.lp)
    · rw [heap_setCell_other _ _ _ _ (by exact h.ng)]; exact hkeep g (heap_lt h.rd.row) (hvb g h.lg)
  · rw [List.length_append, List.map_append]
    exact own_keep hown (fun k e => heap_setCell_other _ _ _ _ (by simp only [Value.ownBlock, Option.some.injEq] at e; have := h.lb; show k ≠ rb; omega))
  · intro z hz
    rw [List.mem_append] at hz
    rcases hz with hz | hz
    · exact h.small z hz
    · exact hy z hz
  · have := hg.size; have := h.hB; simp; omega
  · have h1 := hg.size
    refine ⟨hg.os.trans hb.os, hg.tape.trans hb.tape, hg.output.trans hb.output, by simp; omega, fun k hk hne _ hv => ?_, ?_⟩
    · rw [heap_setCell_other _ _ _ _ (by exact hne)]
      exact hkeep k hk hv
    · rcases hat with e | e
      · exact .inl (by rw [e]; rfl)
      · exact .inr ⟨g', rfl, e⟩

/-- a code that stands beside a reading -/
structure COk (ls : List Nat) (w : World) (B cp : Nat) (v : Value) : Prop where
  ex : ∃ lo hi, Code ls w cp lo hi ∧ B ≤ lo ∧ hi ≤ w.heap.size ∧ ∀ k, v.ownBlock = some k → k < lo ∨ hi ≤ k

theorem COk.chg {ls : List Nat} {cp : Nat} (h : COk ls w0 B cp v0) (c : Chg rb rp v0 w0 v w) (lb : rb < B) (lp : rp < B) : COk ls w B cp v := by
  obtain ⟨lo, hi, ⟨wg, g, cap, N, base, A, B', S, H, ix, ky, hc⟩, h1, h2, h3⟩ := h.ex
  refine ⟨lo, hi, ⟨wg, g, cap, N, base, A, B', S, H, ix, ky, hc.keep (fun k k1 k2 => ?_)⟩, h1, by have := c.size; omega, fun k e => ?_⟩
  · exact c.keep k (by omega) (by omega) (by omega) (fun e => by have := h3 k e; omega)
  · rcases c.lies with e' | ⟨g', e', hg'⟩
    · exact h3 k (by rw [← e']; exact e)
    · rw [e'] at e; injection e with e; omega

theorem numAt_num (f : Nat → Bool) (p n : Nat) : numAt false n (fun i => f (p + i)) = num f p n := by
  have key : ∀ i, i ≤ n → acc false n (fun i => f (p + i)) i = num f p i := by
    intro i
    induction i with
    | zero => intro _; rfl
    | succ i ih =>
      intro hi
      rw [acc, ih (by omega), num]
      have hlt := num_lt f p i
      rw [show rk false n i = i from by simp [rk], Nat.or_comm, ← Nat.shiftLeft_add_eq_or_of_lt hlt, Nat.shiftLeft_eq]
      omega
  exact key n (Nat.le_refl _)

theorem bitIn_is (zs : List Nat) (i : Nat) : bitIn false zs i = (Infl.bitsOf zs).f i := by
  unfold bitIn Infl.bitsOf
  simp [rk]

/-- what has been got: a number and the place behind it, or that bits end -/
def GotIs (n : Nat) (zs : List Nat) (p x q b : Nat) : Prop := (b = 0 ∧ Infl.get n (Infl.bitsOf zs) p = .ok x q ∧ x < 2 ^ n ∧ q = p + n) ∨ (b = 10 ∧ x = 0 ∧ Infl.get n (Infl.bitsOf zs) p = .bad 10)

theorem rget (n : Nat) (h : RAt w B rb rp g zs p v out most sv dv) (hz : zs.length ≤ 140737488355328) (hn : n ≤ 64) :
    Calls Tryz.prog 48 #[.pointer (some ⟨rp, 0, none⟩), .int .i64 (n : Int)] w fun e w' => ∃ x q b : Nat, e = .returned (.tuple #[.int .u64 (x : Int), .int .i64 (b : Int)]) ∧ RAt w' B rb rp g zs q v out most sv dv ∧ Chg rb rp v w v w' ∧ GotIs n zs p x q b := by
  by_cases hp : p + n ≤ 8 * zs.length
  · refine (get_ok rp g p false zs (n : Int) w h.rd hz (by omega) (by omega) (by simp; omega)).mono ?_
    rintro e w' ⟨rfl, k, rfl⟩
    refine ⟨num (Infl.bitsOf zs).f p n, p + n, 0, ?_, ?_, Chg.only rb v ((Only.drewN rp w k).set 3 _), .inl ⟨rfl, ?_, num_lt _ _ _, rfl⟩⟩
    · rw [show (fun i => bitIn false zs (p + i)) = (fun i => (Infl.bitsOf zs).f (p + i)) from funext fun i => bitIn_is zs (p + i)]
      rw [show ((n : Int).toNat) = n from by simp, numAt_num]
      rfl
    · rw [show ((p + (n : Int).toNat : Nat) : Int) = ((p + n : Nat) : Int) from by simp]
      exact h.read k (p + n) hp
    · unfold Infl.get; rw [bitsOf_m, if_pos hp]
  · refine (get_end rp g p false zs (n : Int) w h.rd hz (by omega) (by omega) (by omega)).mono ?_
    rintro e w' ⟨rfl, k, rfl⟩
    refine ⟨0, p, 10, rfl, h.drewN k, (Chg.refl _ _ _ _).drewN k, .inr ⟨rfl, rfl, ?_⟩⟩
    unfold Infl.get; rw [bitsOf_m, if_neg hp]

/-- what a word has told -/
def WordIs (ls zs : List Nat) (p s q b : Nat) : Prop := (b = 0 ∧ Infl.word gg ls (Infl.bitsOf zs) p = .ok s q ∧ s < ls.length ∧ p < q ∧ q ≤ 8 * zs.length) ∨ (b ≠ 0 ∧ b < 100 ∧ Infl.word gg ls (Infl.bitsOf zs) p = .bad b)

theorem rword {ls : List Nat} {cp : Nat} (h : RAt w B rb rp g zs p v out most sv dv) (hz : zs.length ≤ 140737488355328) (hc : COk ls w B cp v) :
    Calls Tryz.prog 131 #[.pointer (some ⟨cp, 0, none⟩), .pointer (some ⟨rp, 0, none⟩)] w fun e w' => ∃ s q b : Nat, e = .returned (.tuple #[.int .i64 (s : Int), .int .i64 (b : Int)]) ∧ RAt w' B rb rp g zs q v out most sv dv ∧ Chg rb rp v w v w' ∧ WordIs ls zs p s q b := by
  obtain ⟨lo, hi, hcode, hlo, hhi, _⟩ := hc.ex
  have hgood : Good ls := by obtain ⟨_, _, _, _, _, _, _, _, _, _, _, h⟩ := hcode; exact h.good
  refine (cget_ok ls cp lo hi rp g p false zs w hcode h.rd hz (by have := h.lp; omega) hhi).mono ?_
  rintro e w' ⟨s, n, x, rfl, hget, hrd, honly⟩
  have hw : gg ls (fun i => (Infl.bitsOf zs).f (p + i)) (8 * zs.length - p) = (s, n, x) := by
    refine gg_of hgood ?_
    rw [show (fun i => (Infl.bitsOf zs).f (p + i)) = (fun i => bitIn false zs (p + i)) from funext fun i => (bitIn_is zs (p + i)).symm]
    exact hget
  refine ⟨s, p + n, x, rfl, h.only honly hrd, Chg.only rb v honly, ?_⟩
  have hle := hget.1
  have hple := h.rd.le
  rcases hget.2.2 with ⟨rfl, h1, h2⟩ | ⟨rfl, _, _⟩ | ⟨rfl, _, _⟩
  · refine .inl ⟨rfl, ?_, h2.1, by omega, by omega⟩
    unfold Infl.word
    rw [bitsOf_m, hw]
  · refine .inr ⟨by decide, by decide, ?_⟩
    unfold Infl.word
    rw [bitsOf_m, hw]
  · refine .inr ⟨by decide, by decide, ?_⟩
    unfold Infl.word
    rw [bitsOf_m, hw]

set_option maxHeartbeats 1000000 in
theorem fit_no (n : Nat) (h : RAt w B rb rp g zs p v out most sv dv) (hm : most ≤ 268435456) (hn : most < out.length + n) (hn2 : n ≤ 1000000) :
    Calls Tryz.prog 101 #[.pointer (some ⟨rb, 0, none⟩), .int .i64 (n : Int)] w fun e w' => e = .returned (.int .i64 3) ∧ ∃ k, w' = w.drewN k := by
  have c1 := h.c1
  have c2 := h.c2
  have hol := h.ol
  obtain ⟨a, c, rfl⟩ := h.slice
  have ht : (most : Int) - (out.length : Int) < (n : Int) := by omega
  clear h
  generalize out.length = ol at *
  go_enter Tryz.func101, Tryz.ntmps101
  go_wp2_with fail
  go_quiet (fail)
  go_wp2_with fail
  go_ret
  exact ⟨rfl, _, rfl⟩

set_option maxHeartbeats 1000000 in
theorem fit_yes (n : Nat) (h : RAt w B rb rp g zs p v out most sv dv) (hm : most ≤ 268435456) (hn : ¬ most < out.length + n) (hn2 : n ≤ 1000000) :
    Calls Tryz.prog 101 #[.pointer (some ⟨rb, 0, none⟩), .int .i64 (n : Int)] w fun e w' => e = .returned (.int .i64 0) ∧ ∃ k, w' = w.drewN k := by
  have c1 := h.c1
  have c2 := h.c2
  have hol := h.ol
  obtain ⟨a, c, rfl⟩ := h.slice
  have ht : ¬ (most : Int) - (out.length : Int) < (n : Int) := by omega
  clear h
  generalize out.length = ol at *
  go_enter Tryz.func101, Tryz.ntmps101
  go_wp2_with fail
  go_quiet (fail)
  go_wp2_with fail
  go_ret
  exact ⟨rfl, _, rfl⟩

end
end Go.Proofs.YtabeanealkopbaaGreat
end

section
namespace Go.Proofs.YtabeanealkopbaaGreat
open Go.RowKit Mth Infl
set_option maxRecDepth 100000
set_option linter.unusedVariables false

theorem own_cells {w : World} {base : Nat} {v : Value} {m : List Nat} (h : w.ownsRow base 5 1 v m.length (m.map bv)) (h0 : 0 < m.length) : ∃ g cap, v = .slice (some ⟨g, 0, none⟩) m.length cap ∧ m.length ≤ cap ∧ base ≤ g ∧ ∀ j, j < m.length → w.cell? ⟨g, j, none⟩ = some (.int .u8 (m.getD j 0 : Int)) := by
  obtain ⟨hl, hr⟩ := h
  rcases hr with ⟨_, e⟩ | ⟨g, cap, cur, e, hb, hh, hle, hc, hs, ht⟩
  · omega
  · refine ⟨g, cap, e, hle, hb, fun j hj => ?_⟩
    have h2 : (cur.toList.take (m.length * 1))[j]? = (m.map bv)[j]? := by rw [ht]
    rw [List.getElem?_take, if_pos (by omega)] at h2
    simp only [World.cell?, hh]
    rw [← Array.getElem?_toList, h2]
    simp [bv, hj]

theorem piece_news {w : World} {g off n f k : Nat} {zs : List Nat} (hc : ∀ j, j < n → w.cell? ⟨g, off + j, none⟩ = some (.int .u8 (zs.getD j 0 : Int))) (hf : f + k ≤ n) :
    ∀ (j : Nat) u, (((zs.drop f).take k).map bv)[j]? = some u → w.cell? ((⟨g, off + f, none⟩ : Addr).add j) = some u := by
  intro j u hj
  have hl : j < k ∧ f + j < zs.length := by
    have : j < (((zs.drop f).take k).map bv).length := by
      rcases Nat.lt_or_ge j (((zs.drop f).take k).map bv).length with h | h
      · exact h
      · rw [List.getElem?_eq_none h] at hj; cases hj
    simp at this
    omega
  have e : (⟨g, off + f, none⟩ : Addr).add j = ⟨g, off + (f + j), none⟩ := by by_cases hq : j = 0 <;> simp [Addr.add, hq, Nat.add_assoc]
  rw [e, hc (f + j) (by omega)]
  rw [List.getElem?_map, List.getElem?_take, if_pos hl.1, List.getElem?_drop, List.getElem?_eq_getElem hl.2] at hj
  simp only [Option.map_some, Option.some.injEq] at hj
  rw [← hj]
  simp [bv, hl.2]

theorem run_min_nat {a b x : Nat} {A B : Int} (hA : A = (a : Int)) (hB : B = (b : Int)) (h : x = min a b) (w : World) : (Builtin.min_ #[3, 3] 3 #[.int .i64 A, .int .i64 B]).run Tryz.prog w = .ok (.int .i64 (x : Int)) w := by
  rw [run_min_int2, hA, hB]
  congr 2
  split <;> omega

theorem one_cells (l : List Nat) : ∀ u ∈ l.map bv, u.oneCell' = true := by
  intro u hu
  simp at hu
  obtain ⟨z, _, rfl⟩ := hu
  rfl


section
variable {rb rp : Nat} {v : Value} {w : World} {B g p q most : Nat} {zs out : List Nat} {sv dv : Value}

set_option maxHeartbeats 1000000 in
theorem single_no (x : Nat) (hx : x < 256) (h : RAt w B rb rp g zs p v out most sv dv) (hm : most ≤ 268435456) (hn : most < out.length + 1) :
    Calls Tryz.prog 132 #[.pointer (some ⟨rb, 0, none⟩), .int .u8 (x : Int)] w fun e w' => e = .returned (.int .i64 3) ∧ Chg rb rp v w v w' := by
  have HF := hide (fit_no 1 h hm hn (by decide))
  clear h hn hx
  go_enter Tryz.func132, Tryz.ntmps132
  go_wp2_with fail
  refine (unhide HF).mono ?_
  rintro e w' ⟨rfl, k, rfl⟩
  go_wp2_with fail
  go_ret
  exact ⟨rfl, (Chg.refl _ _ _ _).drewN k⟩

set_option maxHeartbeats 1000000 in
theorem single_yes (x : Nat) (hx : x < 256) (h : RAt w B rb rp g zs p v out most sv dv) (hm : most ≤ 268435456) (hn : ¬ most < out.length + 1) :
    Calls Tryz.prog 132 #[.pointer (some ⟨rb, 0, none⟩), .int .u8 (x : Int)] w fun e w' => e = .returned (.int .i64 0) ∧ ∃ v', RAt w' B rb rp g zs p v' (out ++ [x]) most sv dv ∧ Chg rb rp v w v' w' := by
  obtain ⟨i0, hi, hz0, hz1, hz2⟩ := info_parts info5
  have HF := hide (fit_yes 1 h hm hn (by decide))
  have HR := hide h
  have HX := hide hx
  have HN := hide hn
  have HM := hide hm
  clear h hn hx hm
  go_enter Tryz.func132, Tryz.ntmps132
  go_wp2_with fail
  refine (unhide HF).mono ?_
  rintro e w' ⟨rfl, k, rfl⟩
  have HR2 := hide ((unhide HR).drewN k)
  have HC2 : Hid (Chg rb rp v w v (w.drewN k)) := hide ((Chg.refl _ _ _ _).drewN k)
  generalize w.drewN k = w1 at HR2 HC2 ⊢
  clear HF HR
  have c2 := (unhide HR2).c2
  have f2 := (unhide HR2).fz 2
  have hlt := (unhide HR2).lt
  have HNEW : Hid (∀ (j : Nat) u, [bv x][j]? = some u → (w1.alloc (.cells #[bv x] 5)).cell? ((⟨w1.heap.size, 0, none⟩ : Addr).add j) = some u) := hide (news_one _ _)
  have HOW : Hid ((w1.alloc (.cells #[bv x] 5)).ownsRow B 5 1 v out.length (out.map bv)) := hide ((unhide HR2).row.alloc _)
  have HBS := hide (unhide HR2).hB
  go_wp2_with (at_builtin; go_must (refine wpList_append_lies _ rfl (.tmp 15) (.tmp 17) 22 rfl B 5 i0 (.int .u8 0) 1 1 Tryz.underlying22 hi hz0 hz1 hz2 rfl (by decide) v out.length (out.map bv) (by rfl) (unhide HOW) ⟨w1.heap.size, 0, none⟩ 1 1 [bv x] (by rfl) rfl (unhide HNEW) (by intro u hu; simp at hu; subst hu; rfl) (by decide) (by unfold maxLen; have := unhide HN; have := unhide HM; omega) (by have := unhide HN; have := unhide HM; omega) (by have := unhide HBS; simp; omega) (w1.heap.size + 1) (by simp) ?_; intro g' cap' w3 hown hgrow hat hglt; have HG := hide ((unhide HR2).grow ((Below.refl _ _).alloc (Nat.le_refl _) _) (ys := [x]) (by intro z hz; rw [List.mem_singleton.1 hz]; exact unhide HX) (by have := unhide HN; show out.length + 1 ≤ most; omega) hown hgrow (hat.elim Or.inl (fun e => Or.inr (by omega)))); have hbk : w3.heap[rb]? = w1.heap[rb]? := (by rw [hgrow.block rb (by simp; omega) (fun e => by have := ((unhide HR2).own e.symm).1; have := (unhide HR2).lb; omega), Below.heap_alloc _ _ _ hlt]); have c2' : w3.cell? ⟨rb, 2, none⟩ = some v := (by rw [← c2]; exact World.cell?_of_block hbk); have f2' : w3.frozen? ⟨rb, 2, none⟩ = false := (by rw [← f2]; exact World.frozen?_of_block hbk); clear hown hgrow hat hglt hbk))
  go_ret
  exact ⟨rfl, _, (unhide HG).1, (unhide HC2).trans (unhide HG).2⟩

/-- behind so many bytes of the piece -/
structure AgAt (w ws : World) (B rb rp g : Nat) (zs : List Nat) (p : Nat) (v vi : Value) (out : List Nat) (most : Nat) (sv dv : Value) (n d left j : Nat) : Prop where
  sum : left + j = n
  rat : RAt ws B rb rp g zs p vi (Infl.cp d j out) most sv dv
  chg : Chg rb rp v w vi ws
  per : 0 < left → j % d = 0

set_option maxHeartbeats 1000000 in
theorem again_ok (n d : Nat) (h : RAt w B rb rp g zs p v out most sv dv) (hm : most ≤ 268435456) (hn : out.length + n ≤ most) (hd : 1 ≤ d) (hdl : d ≤ out.length) (hn2 : n ≤ 1000000) :
    Calls Tryz.prog 153 #[.pointer (some ⟨rb, 0, none⟩), .int .i64 (n : Int), .int .i64 (d : Int)] w fun e w' => e = .returned (.tuple #[]) ∧ ∃ v', RAt w' B rb rp g zs p v' (Infl.cp d n out) most sv dv ∧ Chg rb rp v w v' w' := by
  obtain ⟨i0, hi, hz0, hz1, hz2⟩ := info_parts info5
  have HR := hide h
  have c2 := h.c2
  obtain ⟨a, c, hv⟩ := h.slice
  rw [hv] at c2
  obtain ⟨L, hL⟩ : ∃ L, L = out.length := ⟨_, rfl⟩
  rw [← hL] at c2 hn hdl
  obtain ⟨F, hF⟩ : ∃ F : Nat, F + d = L := ⟨L - d, by omega⟩
  have hFi : (L : Int) - (d : Int) = (F : Int) := by omega
  have HST : Hid (AgAt w w B rb rp g zs p v v out most sv dv n d n 0) := hide ⟨by omega, h, Chg.refl _ _ _ _, fun _ => Nat.zero_mod d⟩
  have HL := hide hL
  have HV := hide hv
  clear h hL hv
  go_enter Tryz.func153, Tryz.ntmps153
  go_wp2_with fail
  clear hFi c2
  go_loopg [1] n (fun gk l ws => ∃ (left j : Nat) (vi : Value), left = gk ∧ l = .int .i64 (left : Int) ∧ left ≤ n ∧ Hid (AgAt w ws B rb rp g zs p v vi out most sv dv n d left j))
  case atStart => exact ⟨n, 0, v, rfl, rfl, Nat.le_refl _, HST⟩
  case round =>
    obtain ⟨left, j, vi, rfl, rfl, hle, hat⟩ := hrel
    clear HST
    by_cases h0 : 0 < left
    · have hsum := (unhide hat).sum
      have hper := (unhide hat).per h0
      have hcl : (Infl.cp d j out).length = L + j := by rw [Infl.cp_length, unhide HL]
      obtain ⟨gv, cg, rfl, hcg, hbg, hcell⟩ := own_cells (unhide hat).rat.row (by omega)
      obtain ⟨m, hmm⟩ : ∃ m, m = Infl.cp d j out := ⟨_, rfl⟩
      have hro := (unhide hat).rat
      have hch := (unhide hat).chg
      rw [← hmm] at hcell hcg hcl hro hch
      obtain ⟨K, hK⟩ : ∃ K, K = m.length := ⟨_, rfl⟩
      have c2 := hro.c2
      have f2 := hro.fz 2
      have hlt := hro.lt
      have HOW := hide hro.row
      rw [← hK] at hcell hcg hcl HOW c2 hch hro
      have HRO := hide hro
      have HCH := hide hch
      have HK := hide hK
      have HCELL := hide hcell
      have h0i : (0 : Int) < (left : Int) := by omega
      have hFK : ¬ cg = F := by omega
      obtain ⟨D, hD⟩ : ∃ D, D = d + j := ⟨_, rfl⟩
      have hKF : K - F = D := by omega
      obtain ⟨k, hk⟩ : ∃ k, k = min D left := ⟨_, rfl⟩
      have hmn := run_min_nat (A := (D : Int)) (B := (left : Int)) rfl rfl hk
      have hk1 : k ≤ left := by omega
      have hk2 : 0 < k := by omega
      have hk3 : F + k ≤ K := by omega
      have HBS := hide hro.hB
      have hkl : ((m.drop F).take k).length = k := by simp; omega
      have HKL := hide hkl
      have HNEXT : Hid (∀ g' cap' w', w'.ownsRow B 5 1 (.slice (some ⟨g', 0, none⟩) (K + k) cap') (K + k) (m.map bv ++ ((m.drop F).take k).map bv) → wr.grownBy w' (some gv) → (some gv = some g' ∨ g' = wr.heap.size) →
          AgAt w (w'.setCell ⟨rb, 2, none⟩ (.slice (some ⟨g', 0, none⟩) (K + k) cap')) B rb rp g zs p v (.slice (some ⟨g', 0, none⟩) (K + k) cap') out most sv dv n d (left - k) (j + k) ∧ w'.heap[rb]? = wr.heap[rb]?) := hide fun g' cap' w' h1 h2 h3 => by
        have hg := hro.grow (Below.refl _ _) (ys := (m.drop F).take k) (fun z hz => hro.small z (List.mem_of_mem_drop (List.mem_of_mem_take hz))) (by rw [hkl, ← hK]; omega) (by rw [hkl, ← hK]; exact h1) h2 (h3.elim Or.inl (fun e => Or.inr (by omega)))
        rw [hkl, ← hK] at hg
        have hcp : Infl.cp d (j + k) out = m ++ (m.drop F).take k := by
          rw [Infl.cp_long hd (by rw [← unhide HL]; exact hdl) hper (by omega), ← hmm, show out.length - d = F from by rw [← unhide HL]; omega]
        refine ⟨⟨by omega, by rw [hcp]; exact hg.1, hch.trans hg.2, fun hlt => ?_⟩, ?_⟩
        · have e : k = d + j := by omega
          rw [e]
          exact Nat.mod_eq_zero_of_dvd (Nat.dvd_add (Nat.dvd_of_mod_eq_zero hper) (Nat.dvd_add (Nat.dvd_refl d) (Nat.dvd_of_mod_eq_zero hper)))
        · exact h2.block rb (by omega) (fun e => by injection e with e; have := hro.lb; omega)
      clear hcell hK hat hcl hF hkl hsum hper hmm hro hch hD hk
      go_wp2_with (at_builtin; go_must (refine wpList_append_lies _ rfl (.tmp 33) (.tmp 34) 22 rfl B 5 i0 (.int .u8 0) 1 1 Tryz.underlying22 hi hz0 hz1 hz2 rfl (by decide) _ K (m.map bv) (by rfl) (unhide HOW) ⟨gv, F, none⟩ k (cg - F) (((m.drop F).take k).map bv) (by rfl) (by rw [List.length_map, unhide HKL, Nat.mul_one]) (by have := piece_news (off := 0) (f := F) (k := k) (zs := m) (n := K) (by simpa using unhide HCELL) hk3; simpa using this) (one_cells _) hk2 (by unfold maxLen; have := (unhide HRO).ol; have := unhide HK; omega) (by have := (unhide HRO).ol; have := unhide HK; omega) (unhide HBS) wr.heap.size rfl ?_; intro g' cap' w3 hown hgrow hat hglt; have HG := hide (unhide HNEXT g' cap' w3 hown hgrow hat); have hbk := (unhide HG).2; have c2' : w3.cell? ⟨rb, 2, none⟩ = some (Value.slice (some ⟨gv, 0, none⟩) K cg) := (by rw [← c2]; exact World.cell?_of_block hbk); have f2' : w3.frozen? ⟨rb, 2, none⟩ = false := (by rw [← f2]; exact World.frozen?_of_block hbk); clear hown hgrow hat hglt hbk))
      go_roundg (left - k)
      case measure => omega
      case rel => exact ⟨left - k, j + k, _, rfl, by go_num, by omega, hide (unhide HG).1⟩
    · obtain rfl : left = 0 := by omega
      have HFIN : Hid (∃ v', RAt wr B rb rp g zs p v' (Infl.cp d n out) most sv dv ∧ Chg rb rp v w v' wr) := hide ⟨vi, (by have := (unhide hat).sum; rw [show n = j from by omega]; exact (unhide hat).rat), (unhide hat).chg⟩
      clear hat
      go_wp2_with fail
      go_end0
      exact ⟨rfl, unhide HFIN⟩

end
end Go.Proofs.YtabeanealkopbaaGreat
end

section
namespace Go.Proofs.YtabeanealkopbaaGreat
open Go.RowKit Mth Infl
set_option maxRecDepth 100000
set_option linter.unusedVariables false

section
variable {rb rp : Nat} {v : Value} {w : World} {B g p q most : Nat} {zs out : List Nat} {sv dv : Value}

theorem conv_u64 (x : Nat) (hx : x < 4294967296) (w : World) : (convert 92 3 (.int .u64 (x : Int))).run Tryz.prog w = .ok (.int .i64 (x : Int)) w := by
  have h : IntKind.i64.wrap (x : Int) = (x : Int) := IntWalk.i64_in _ (by omega)
  go_simp

theorem lenOf_small (s : Nat) (h1 : 257 ≤ s) (h2 : s ≤ 285) : (Infl.lenOf s).1 ≤ 258 ∧ (Infl.lenOf s).2 ≤ 5 := by
  have hc : ∀ i, i < 29 → (Infl.lenOf (257 + i)).1 ≤ 258 ∧ (Infl.lenOf (257 + i)).2 ≤ 5 := by decide
  have := hc (s - 257) (by omega)
  rw [show 257 + (s - 257) = s from by omega] at this
  exact this

theorem distOf_small (s : Nat) (h2 : s ≤ 29) : 1 ≤ (Infl.distOf s).1 ∧ (Infl.distOf s).1 ≤ 24577 ∧ (Infl.distOf s).2 ≤ 13 := by
  have hc : ∀ i, i < 30 → 1 ≤ (Infl.distOf i).1 ∧ (Infl.distOf i).1 ≤ 24577 ∧ (Infl.distOf i).2 ≤ 13 := by decide
  exact hc s (by omega)

theorem pow_small13 (n : Nat) (h : n ≤ 13) : 2 ^ n ≤ 8192 := Nat.le_trans (Nat.pow_le_pow_right (by decide) h) (by decide)

set_option maxHeartbeats 1000000 in
/-- a look that is refused -/
theorem measure_noL (s : Nat) (HL : ∀ w, Calls Tryz.prog 138 #[.int .i64 (s : Int)] w fun e w' => e = .returned (.tuple #[.int .i64 0, .int .i64 0, .int .i64 2]) ∧ w' = w) :
    Calls Tryz.prog 152 #[.pointer (some ⟨rb, 0, none⟩), .int .i64 (s : Int), .func (.func 138) #[] #[]] w fun e w' => e = .returned (.tuple #[.int .i64 0, .int .i64 11]) ∧ w' = w := by
  have HL := hide HL
  go_enter Tryz.func152, Tryz.ntmps152
  go_wp2_with fail
  refine (unhide HL _).mono ?_
  rintro e w' ⟨rfl, rfl⟩
  go_wp2_with fail
  go_ret2
  exact ⟨rfl, rfl⟩

set_option maxHeartbeats 1000000 in
/-- a look that is told, and its bits -/
theorem measure_yesL (s : Nat) (least extra : Nat) (hl : least ≤ 100000) (hx : extra ≤ 13) (HL : ∀ w, Calls Tryz.prog 138 #[.int .i64 (s : Int)] w fun e w' => e = .returned (.tuple #[.int .i64 (least : Int), .int .i64 (extra : Int), .int .i64 0]) ∧ w' = w)
    (h : RAt w B rb rp g zs p v out most sv dv) (hz : zs.length ≤ 140737488355328) :
    Calls Tryz.prog 152 #[.pointer (some ⟨rb, 0, none⟩), .int .i64 (s : Int), .func (.func 138) #[] #[]] w fun e w' => ∃ x q b : Nat, e = .returned (.tuple #[.int .i64 ((least + x : Nat) : Int), .int .i64 (b : Int)]) ∧ RAt w' B rb rp g zs q v out most sv dv ∧ Chg rb rp v w v w' ∧ GotIs extra zs p x q b := by
  have HL := hide HL
  have HG := hide (rget extra h hz (by omega))
  have c0 := h.c0
  have HX := hide hx
  clear h
  go_enter Tryz.func152, Tryz.ntmps152
  go_wp2_with fail
  refine (unhide HL _).mono ?_
  rintro e w' ⟨rfl, hw⟩
  subst w'
  go_wp2_with fail
  refine (unhide HG).mono ?_
  rintro e w1 ⟨x, q, b, rfl, h1, h2, h3⟩
  have hxs : x < 8192 := by
    rcases h3 with ⟨_, _, h4, _⟩ | ⟨_, rfl, _⟩
    · have := pow_small13 extra (unhide HX); omega
    · decide
  have H1 := hide h1
  have H2 := hide h2
  have H3 := hide h3
  clear h1 h2 h3 HG HL c0
  have hcv := conv_u64 x (by omega)
  go_wp2_with fail
  go_ret2
  exact ⟨x, q, b, rfl, unhide H1, unhide H2, unhide H3⟩

set_option maxHeartbeats 1000000 in
/-- a look that is refused -/
theorem measure_noD (s : Nat) (HL : ∀ w, Calls Tryz.prog 139 #[.int .i64 (s : Int)] w fun e w' => e = .returned (.tuple #[.int .i64 0, .int .i64 0, .int .i64 2]) ∧ w' = w) :
    Calls Tryz.prog 152 #[.pointer (some ⟨rb, 0, none⟩), .int .i64 (s : Int), .func (.func 139) #[] #[]] w fun e w' => e = .returned (.tuple #[.int .i64 0, .int .i64 11]) ∧ w' = w := by
  have HL := hide HL
  go_enter Tryz.func152, Tryz.ntmps152
  go_wp2_with fail
  refine (unhide HL _).mono ?_
  rintro e w' ⟨rfl, rfl⟩
  go_wp2_with fail
  go_ret2
  exact ⟨rfl, rfl⟩

set_option maxHeartbeats 1000000 in
/-- a look that is told, and its bits -/
theorem measure_yesD (s : Nat) (least extra : Nat) (hl : least ≤ 100000) (hx : extra ≤ 13) (HL : ∀ w, Calls Tryz.prog 139 #[.int .i64 (s : Int)] w fun e w' => e = .returned (.tuple #[.int .i64 (least : Int), .int .i64 (extra : Int), .int .i64 0]) ∧ w' = w)
    (h : RAt w B rb rp g zs p v out most sv dv) (hz : zs.length ≤ 140737488355328) :
    Calls Tryz.prog 152 #[.pointer (some ⟨rb, 0, none⟩), .int .i64 (s : Int), .func (.func 139) #[] #[]] w fun e w' => ∃ x q b : Nat, e = .returned (.tuple #[.int .i64 ((least + x : Nat) : Int), .int .i64 (b : Int)]) ∧ RAt w' B rb rp g zs q v out most sv dv ∧ Chg rb rp v w v w' ∧ GotIs extra zs p x q b := by
  have HL := hide HL
  have HG := hide (rget extra h hz (by omega))
  have c0 := h.c0
  have HX := hide hx
  clear h
  go_enter Tryz.func152, Tryz.ntmps152
  go_wp2_with fail
  refine (unhide HL _).mono ?_
  rintro e w' ⟨rfl, hw⟩
  subst w'
  go_wp2_with fail
  refine (unhide HG).mono ?_
  rintro e w1 ⟨x, q, b, rfl, h1, h2, h3⟩
  have hxs : x < 8192 := by
    rcases h3 with ⟨_, _, h4, _⟩ | ⟨_, rfl, _⟩
    · have := pow_small13 extra (unhide HX); omega
    · decide
  have H1 := hide h1
  have H2 := hide h2
  have H3 := hide h3
  clear h1 h2 h3 HG HL c0
  have hcv := conv_u64 x (by omega)
  go_wp2_with fail
  go_ret2
  exact ⟨x, q, b, rfl, unhide H1, unhide H2, unhide H3⟩

end
end Go.Proofs.YtabeanealkopbaaGreat
end

section
namespace Go.Proofs.YtabeanealkopbaaGreat
open Go.RowKit

section
variable {P : Program} {a : Act} {w : World} {Q : Exit → Act → World → Prop}

theorem wp_scope_on {c rest : Go.Code} (l : Nat) (hf : findLabel c l = some rest)
    (first : c.wp P (Exit.jump l (fun a w => rest.wp P (Exit.noGoto Q) a w) Q) a w) : (Go.Code.scope c).wp P Q a w :=
  wp_scope_jumps l (fun a w => rest.wp P (Exit.noGoto Q) a w) (fun _ _ => 0) hf first (fun a w hJ => wp_mono hJ (fun e a w h => by
    cases e with
    | goto l' => exact h.elim
    | normal => exact h
    | exit id => exact h
    | ret => exact h
    | panic ch => exact h
    | outgrown => exact h))

variable {l : Nat} {J : Act → World → Prop}
theorem jump_normal : Exit.jump l J Q .normal a w = Q .normal a w := rfl
theorem jump_exit (id : Nat) : Exit.jump l J Q (.exit id) a w = Q (.exit id) a w := rfl
theorem jump_ret : Exit.jump l J Q .ret a w = Q .ret a w := rfl
theorem jump_panic (ch : List PanicEntry) : Exit.jump l J Q (.panic ch) a w = Q (.panic ch) a w := rfl
theorem jump_ret_of (h : Q .ret a w) : Exit.jump l J Q .ret a w := h
theorem jump_goto (h : J a w) : Exit.jump l J Q (.goto l) a w := ⟨rfl, h⟩
end

end Go.Proofs.YtabeanealkopbaaGreat
end

section
namespace Go.Proofs.YtabeanealkopbaaGreat
open Go.RowKit Mth Infl
set_option maxRecDepth 100000
set_option linter.unusedVariables false

/-- what is left of a piece behind its length's symbol -/
noncomputable def pc (dists : List Nat) (most : Nat) (out : List Nat) (s : Nat) : Rd (List Nat) :=
  if 285 < s then Rd.fail 11 else (Infl.get (Infl.lenOf s).2).bind fun x => (Infl.word gg dists).bind fun d =>
    if 29 < d then Rd.fail 11 else (Infl.get (Infl.distOf d).2).bind fun y =>
      if out.length < (Infl.distOf d).1 + y then Rd.fail 14
      else if most < out.length + ((Infl.lenOf s).1 + x) then Rd.fail 3
      else Rd.pure (Infl.cp ((Infl.distOf d).1 + y) ((Infl.lenOf s).1 + x) out)

/-- what has come of it: more came out, or an error -/
def Did (r : Res (List Nat)) (w : World) (B rb rp g : Nat) (zs : List Nat) (v : Value) (most : Nat) (sv dv : Value) (e : Ending) (w' : World) : Prop :=
  (∃ v' o q, r = .ok o q ∧ e = .returned (.int .i64 0) ∧ RAt w' B rb rp g zs q v' o most sv dv ∧ Chg rb rp v w v' w') ∨ (∃ (b : Nat) (v' : Value), r = .bad b ∧ b ≠ 0 ∧ b < 100 ∧ e = .returned (.int .i64 (b : Int)) ∧ Chg rb rp v w v' w')

section
variable {rb rp : Nat} {v : Value} {w : World} {B g p q most : Nat} {zs out : List Nat} {sv dv : Value}

theorem Did.no {r : Res (List Nat)} {w1 : World} {v1 : Value} (b : Nat) (hr : r = .bad b) (h0 : b ≠ 0) (h1 : b < 100) (hc : Chg rb rp v w v1 w1) : Did r w B rb rp g zs v most sv dv (.returned (.int .i64 (b : Int))) w1 := .inr ⟨b, v1, hr, h0, h1, rfl, hc⟩

theorem look_lenL (s : Nat) (h1 : 257 ≤ s) (h2 : s ≤ 285) (w : World) : Calls Tryz.prog 138 #[.int .i64 (s : Int)] w fun e w' => e = .returned (.tuple #[.int .i64 ((Infl.lenOf s).1 : Int), .int .i64 ((Infl.lenOf s).2 : Int), .int .i64 0]) ∧ w' = w := by
  have := len_ok (s : Int) w
  unfold lenAns at this
  rw [if_neg (by omega)] at this
  exact this

theorem look_lenN (s : Nat) (h2 : 285 < s) (w : World) : Calls Tryz.prog 138 #[.int .i64 (s : Int)] w fun e w' => e = .returned (.tuple #[.int .i64 0, .int .i64 0, .int .i64 2]) ∧ w' = w := by
  have := len_ok (s : Int) w
  unfold lenAns at this
  rw [if_pos (by omega)] at this
  exact this

theorem look_distL (s : Nat) (h2 : s ≤ 29) (w : World) : Calls Tryz.prog 139 #[.int .i64 (s : Int)] w fun e w' => e = .returned (.tuple #[.int .i64 ((Infl.distOf s).1 : Int), .int .i64 ((Infl.distOf s).2 : Int), .int .i64 0]) ∧ w' = w := by
  have := dist_ok (s : Int) w
  unfold distAns at this
  rw [if_neg (by omega)] at this
  exact this

theorem look_distN (s : Nat) (h2 : 29 < s) (w : World) : Calls Tryz.prog 139 #[.int .i64 (s : Int)] w fun e w' => e = .returned (.tuple #[.int .i64 0, .int .i64 0, .int .i64 2]) ∧ w' = w := by
  have := dist_ok (s : Int) w
  unfold distAns at this
  rw [if_pos (by omega)] at this
  exact this

set_option maxHeartbeats 2000000 in
theorem piece_ok (s : Nat) {ls : List Nat} {cd : Nat} (h : RAt w B rb rp g zs p v out most sv dv) (hz : zs.length ≤ 140737488355328) (hm : most ≤ 268435456) (hs : 257 ≤ s) (hc : COk ls w B cd v) (hls : ls.length ≤ 32) :
    Calls Tryz.prog 133 #[.pointer (some ⟨rb, 0, none⟩), .int .i64 (s : Int), .pointer (some ⟨cd, 0, none⟩)] w fun e w' => Did (pc ls most out s (Infl.bitsOf zs) p) w B rb rp g zs v most sv dv e w' := by
  by_cases h285 : 285 < s
  · have HM := hide (measure_noL (rb := rb) (w := w) s (look_lenN s h285))
    have HE : Hid (Did (pc ls most out s (Infl.bitsOf zs) p) w B rb rp g zs v most sv dv (.returned (.int .i64 ((11 : Nat) : Int))) w) := hide (Did.no 11 (by unfold pc; rw [if_pos h285]; rfl) (by decide) (by decide) (Chg.refl _ _ _ _))
    clear h hs hc h285 hls hm hz
    go_enter Tryz.func133, Tryz.ntmps133
    go_wp2_with fail
    refine wp_scope_on 0 rfl ?_
    go_wp2_with fail
    refine (unhide HM).mono ?_
    rintro e w' ⟨rfl, hw⟩
    subst w'
    go_wp2_with fail
    go_step3
    refine ⟨rfl, ?_⟩
    go_wp2_with fail
    rw [Exit.noGoto_ret]
    go_ret
    exact unhide HE
  · obtain ⟨l1, l2⟩ := lenOf_small s hs (by omega)
    have HM := hide (measure_yesL s _ _ (by omega) (by omega) (look_lenL s hs (by omega)) h hz)
    have HC := hide hc
    have HLB := hide (And.intro h.lb h.lp)
    have HP : Hid (∀ r, pc ls most out s (Infl.bitsOf zs) p = r ↔ ((Infl.get (Infl.lenOf s).2).bind fun x => (Infl.word gg ls).bind fun d =>
      if 29 < d then Rd.fail 11 else (Infl.get (Infl.distOf d).2).bind fun y =>
        if out.length < (Infl.distOf d).1 + y then Rd.fail 14
        else if most < out.length + ((Infl.lenOf s).1 + x) then Rd.fail 3
        else Rd.pure (Infl.cp ((Infl.distOf d).1 + y) ((Infl.lenOf s).1 + x) out)) (Infl.bitsOf zs) p = r) := hide (fun r => by unfold pc; rw [if_neg h285])
    clear h hs hc h285
    generalize (Infl.lenOf s).1 = le at *
    generalize (Infl.lenOf s).2 = ex at *
    go_enter Tryz.func133, Tryz.ntmps133
    go_wp2_with fail
    refine wp_scope_on 0 rfl ?_
    go_wp2_with fail
    refine (unhide HM).mono ?_
    rintro e w1 ⟨x, q1, b, rfl, h1, c1, g1⟩
    clear HM
    rcases g1 with ⟨rfl, g1, gx, gq⟩ | ⟨rfl, rfl, g1⟩
    · have hx : x ≤ 32 := by have : 2 ^ ex ≤ 2 ^ 5 := Nat.pow_le_pow_right (by decide) l2; omega
      obtain ⟨M, hM⟩ : ∃ M, M = le + x := ⟨_, rfl⟩
      have hM1 : M ≤ 1000 := by omega
      rw [← hM]
      have HMM := hide hM
      clear hM
      have c0 := h1.c0
      have HR1 := hide h1
      have HC1 := hide c1
      have HG1 := hide g1
      have HW := hide (rword h1 hz ((unhide HC).chg c1 (unhide HLB).1 (unhide HLB).2))
      clear h1 c1 g1 gx gq
      go_wp2_with fail
      refine (unhide HW).mono ?_
      rintro e w2 ⟨d, q2, b, rfl, h2, c2, g2⟩
      clear HW c0
      rcases g2 with ⟨rfl, g2, gd, gq, gq2⟩ | ⟨gb, gb2, g2⟩
      · have HC2 := hide ((unhide HC1).trans c2)
        have HG2 := hide g2
        have HR2 := hide h2
        clear c2 g2 HR1 HC1 gq gq2
        by_cases h29 : 29 < d
        · have HM := hide (measure_noD (rb := rb) (w := w2) d (look_distN d h29))
          have HE : Hid (Did (pc ls most out s (Infl.bitsOf zs) p) w B rb rp g zs v most sv dv (.returned (.int .i64 ((11 : Nat) : Int))) w2) := hide (Did.no 11 ((unhide HP _).2 (by rw [bind_of (unhide HG1), bind_of (unhide HG2), if_pos h29]; rfl)) (by decide) (by decide) (unhide HC2))
          clear h2 h29
          go_wp2_with fail
          refine (unhide HM).mono ?_
          rintro e w' ⟨rfl, hw⟩
          subst w'
          go_wp2_with fail
          go_step3
          refine ⟨rfl, ?_⟩
          go_wp2_with fail
          rw [Exit.noGoto_ret]
          go_ret
          exact unhide HE
        · obtain ⟨d1, d2, d3⟩ := distOf_small d (by omega)
          have HM := hide (measure_yesD d _ _ (by omega) (by omega) (look_distL d (by omega)) h2 hz)
          have HP2 : Hid (∀ r, pc ls most out s (Infl.bitsOf zs) p = r ↔ ((Infl.get (Infl.distOf d).2).bind fun y =>
              if out.length < (Infl.distOf d).1 + y then Rd.fail 14
              else if most < out.length + (le + x) then Rd.fail 3
              else Rd.pure (Infl.cp ((Infl.distOf d).1 + y) (le + x) out)) (Infl.bitsOf zs) q2 = r) := hide (fun r => by rw [unhide HP r, bind_of (unhide HG1), bind_of (unhide HG2), if_neg h29])
          clear h2 h29 HP HG1 HG2
          generalize (Infl.distOf d).1 = ld at *
          generalize (Infl.distOf d).2 = ed at *
          go_wp2_with fail
          refine (unhide HM).mono ?_
          rintro e w3 ⟨y, q3, b, rfl, h3, c3, g3⟩
          clear HM
          rcases g3 with ⟨rfl, g3, gx, gq⟩ | ⟨rfl, rfl, g3⟩
          · have hy : y ≤ 8192 := by have := pow_small13 ed d3; omega
            have HC3 := hide ((unhide HC2).trans c3)
            have HR3 := hide h3
            have HP3 : Hid (∀ r, pc ls most out s (Infl.bitsOf zs) p = r ↔ (if out.length < ld + y then Rd.fail 14
              else if most < out.length + (le + x) then Rd.fail 3
              else Rd.pure (Infl.cp (ld + y) (le + x) out)) (Infl.bitsOf zs) q3 = r) := hide (fun r => by rw [unhide HP2 r, bind_of g3])
            have k2 := h3.c2
            obtain ⟨va, vc, hv⟩ := h3.slice
            rw [hv] at k2
            obtain ⟨L, hL⟩ : ∃ L, L = out.length := ⟨_, rfl⟩
            rw [← hL] at k2
            have HL := hide hL
            clear h3 c3 g3 gx gq HP2 HC2 HR2 hv hL
            obtain ⟨D, hD⟩ : ∃ D, D = ld + y := ⟨_, rfl⟩
            rw [← hD] at HP3 ⊢
            rw [← unhide HMM] at HP3
            have hD1 : 1 ≤ D := by omega
            clear hD
            by_cases h14 : L < D
            · have t14 : (L : Int) < (D : Int) := by omega
              have HE : Hid (Did (pc ls most out s (Infl.bitsOf zs) p) w B rb rp g zs v most sv dv (.returned (.int .i64 ((14 : Nat) : Int))) w3) := hide (Did.no 14 ((unhide HP3 _).2 (by rw [if_pos (by rw [← unhide HL]; exact h14)]; rfl)) (by decide) (by decide) (unhide HC3))
              clear h14
              go_wp2_with fail
              go_step3
              refine ⟨rfl, ?_⟩
              go_wp2_with fail
              rw [Exit.noGoto_ret]
              go_ret
              exact unhide HE
            · have t14 : ¬ (L : Int) < (D : Int) := by omega
              by_cases h3 : most < L + M
              · have HF := hide (fit_no M (unhide HR3) hm (by rw [← unhide HL]; exact h3) (by omega))
                have HE : Hid (∀ k, Did (pc ls most out s (Infl.bitsOf zs) p) w B rb rp g zs v most sv dv (.returned (.int .i64 ((3 : Nat) : Int))) (w3.drewN k)) := hide fun k => (Did.no 3 ((unhide HP3 _).2 (by rw [if_neg (by rw [← unhide HL]; exact h14), if_pos (by rw [← unhide HL]; exact h3)]; rfl)) (by decide) (by decide) ((unhide HC3).drewN k))
                clear h14 h3
                go_wp2_with fail
                refine (unhide HF).mono ?_
                rintro e w4 ⟨rfl, k, rfl⟩
                go_wp2_with fail
                go_step3
                refine ⟨rfl, ?_⟩
                go_wp2_with fail
                rw [Exit.noGoto_ret]
                go_ret
                exact unhide HE k
              · have HF := hide (fit_yes M (unhide HR3) hm (by rw [← unhide HL]; exact h3) (by omega))
                have HPF := hide ((unhide HP3 _).2 (by rw [if_neg (by rw [← unhide HL]; exact h14), if_neg (by rw [← unhide HL]; exact h3)]))
                have HA : Hid (∀ k, _) := hide fun k => again_ok M D ((unhide HR3).drewN k) hm (by rw [← unhide HL]; omega) hD1 (by rw [← unhide HL]; omega) (by omega)
                clear h14 h3
                go_wp2_with fail
                refine (unhide HF).mono ?_
                rintro e w4 ⟨rfl, k, rfl⟩
                go_wp2_with fail
                refine (unhide HA k).mono ?_
                rintro e w5 ⟨rfl, v', hr, hch⟩
                have HRR := hide hr
                have HCH := hide (((unhide HC3).drewN k).trans hch)
                clear hr hch
                go_wp2_with fail
                go_step3
                go_wp2_with fail
                refine jump_ret_of ?_
                go_ret
                exact .inl ⟨v', _, q3, unhide HPF, rfl, unhide HRR, unhide HCH⟩
          · have HE : Hid (Did (pc ls most out s (Infl.bitsOf zs) p) w B rb rp g zs v most sv dv (.returned (.int .i64 ((10 : Nat) : Int))) w3) := hide (Did.no 10 ((unhide HP2 _).2 (bind_bad g3)) (by decide) (by decide) ((unhide HC2).trans c3))
            clear h3 c3 g3
            go_wp2_with fail
            go_step3
            refine ⟨rfl, ?_⟩
            go_wp2_with fail
            rw [Exit.noGoto_ret]
            go_ret
            exact unhide HE
      · have HE : Hid (Did (pc ls most out s (Infl.bitsOf zs) p) w B rb rp g zs v most sv dv (.returned (.int .i64 (b : Int))) w2) := hide (Did.no b ((unhide HP _).2 (by rw [bind_of (unhide HG1), bind_bad g2])) gb gb2 ((unhide HC1).trans c2))
        have hb1 : ¬ (b : Int) = 0 := by omega
        have hb2 : ((b : Int) == 0) = false := by simp; omega
        clear h2 c2 g2 gb gb2
        go_wp2_with fail
        go_step3
        refine ⟨rfl, ?_⟩
        go_wp2_with fail
        rw [Exit.noGoto_ret]
        go_ret
        exact unhide HE
    · have HE : Hid (Did (pc ls most out s (Infl.bitsOf zs) p) w B rb rp g zs v most sv dv (.returned (.int .i64 ((10 : Nat) : Int))) w1) := hide (Did.no 10 ((unhide HP _).2 (bind_bad g1)) (by decide) (by decide) c1)
      clear h1 c1 g1
      go_wp2_with fail
      go_step3
      refine ⟨rfl, ?_⟩
      go_wp2_with fail
      rw [Exit.noGoto_ret]
      go_ret
      exact unhide HE

end
end Go.Proofs.YtabeanealkopbaaGreat
end
