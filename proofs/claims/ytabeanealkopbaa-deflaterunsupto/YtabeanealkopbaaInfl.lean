/- Packed texts, as the document tells them. It names no program. Made ahead for stage 7: what is read of any bits; what is told hangs on the bits that were read alone, and on the room. -/
import Derived.KernelRfl
namespace Go.Proofs.Ytabeanealkopbaa.Infl
set_option linter.unusedVariables false

/-- a piece of k bytes from d bytes back, behind a text (stage 6's cp) -/
def cp (d : Nat) : Nat → List Nat → List Nat
  | 0, P => P
  | k + 1, P => cp d k P ++ [(cp d k P).getD ((cp d k P).length - d) 0]

theorem cp_length (d : Nat) (P : List Nat) : ∀ k, (cp d k P).length = P.length + k
  | 0 => rfl
  | k + 1 => by rw [cp, List.length_append, cp_length d P k]; simp; omega

/-- bits: so many bytes of them -/
structure In where
  f : Nat → Bool
  k : Nat

def In.m (I : In) : Nat := 8 * I.k

/-- the first n bits are the same -/
def Agree (I J : In) (n : Nat) : Prop := ∀ i, i < n → J.f i = I.f i

theorem Agree.mono {I J : In} {n k : Nat} (h : Agree I J n) (hk : k ≤ n) : Agree I J k := fun i hi => h i (by omega)

/-- what is read, and the place behind it; or an error; or it is not known yet -/
inductive Res (α : Type) where
  | ok (x : α) (at' : Nat)
  | bad (e : Nat)
  | more

/-- what reads bits from a place on -/
abbrev Rd (α : Type) := In → Nat → Res α

def Rd.pure {α : Type} (x : α) : Rd α := fun _ p => .ok x p
def Rd.fail {α : Type} (e : Nat) : Rd α := fun _ _ => .bad e
def Rd.bind {α β : Type} (r : Rd α) (k : α → Rd β) : Rd β := fun I p => match r I p with
  | .ok x q => k x I q
  | .bad e => .bad e
  | .more => .more

def Rd.stuck {α : Type} : Rd α := fun _ _ => .more

/-- it hangs on the bits that are read alone; with fewer of them bits end -/
structure Loc {α : Type} (r : Rd α) : Prop where
  le : ∀ I p x q, p ≤ I.m → r I p = .ok x q → p ≤ q ∧ q ≤ I.m
  ext : ∀ I J p x q, p ≤ I.m → r I p = .ok x q → Agree I J q → q ≤ J.m → r J p = .ok x q
  cut : ∀ I J p x q, p ≤ I.m → r I p = .ok x q → Agree I J J.m → p ≤ J.m → J.m < q → r J p = .bad 10
  err : ∀ I J p e, p ≤ I.m → r I p = .bad e → e ≠ 10 → Agree I J I.m → I.m ≤ J.m → r J p = .bad e

theorem Loc.pure {α : Type} (x : α) : Loc (Rd.pure x) :=
  ⟨fun I p y q hp h => by simp only [Rd.pure, Res.ok.injEq] at h; omega, fun I J p y q hp h _ _ => h, fun I J p y q hp h _ h1 h2 => by simp only [Rd.pure, Res.ok.injEq] at h; omega, fun I J p e hp h _ _ _ => by cases h⟩

theorem Loc.fail {α : Type} (e : Nat) : Loc (Rd.fail (α := α) e) :=
  ⟨fun I p y q hp h => by simp [Rd.fail] at h, fun I J p y q hp h _ _ => by simp [Rd.fail] at h, fun I J p y q hp h _ _ _ => by simp [Rd.fail] at h, fun I J p e hp h _ _ _ => h⟩

theorem Loc.stuck {α : Type} : Loc (Rd.stuck (α := α)) :=
  ⟨fun I p y q hp h => by simp [Rd.stuck] at h, fun I J p y q hp h _ _ => by simp [Rd.stuck] at h, fun I J p y q hp h _ _ _ => by simp [Rd.stuck] at h, fun I J p e hp h _ _ _ => by cases h⟩

theorem bind_ok {α β : Type} {r : Rd α} {k : α → Rd β} {I : In} {p : Nat} {y : β} {q : Nat} (h : r.bind k I p = .ok y q) : ∃ x o, r I p = .ok x o ∧ k x I o = .ok y q := by
  unfold Rd.bind at h
  cases hr : r I p with
  | ok x o => rw [hr] at h; exact ⟨x, o, rfl, h⟩
  | bad e => rw [hr] at h; cases h
  | more => rw [hr] at h; cases h

theorem bind_of {α β : Type} {r : Rd α} {k : α → Rd β} {I : In} {p o : Nat} {x : α} (h : r I p = .ok x o) : r.bind k I p = k x I o := by unfold Rd.bind; rw [h]
theorem bind_bad {α β : Type} {r : Rd α} {k : α → Rd β} {I : In} {p e : Nat} (h : r I p = .bad e) : r.bind k I p = .bad e := by unfold Rd.bind; rw [h]

theorem Loc.bind {α β : Type} {r : Rd α} {k : α → Rd β} (h : Loc r) (hk : ∀ x, Loc (k x)) : Loc (r.bind k) := by
  refine ⟨fun I p y q hp e => ?_, fun I J p y q hp e ha hq => ?_, fun I J p y q hp e ha hpj hq => ?_, fun I J p e hp h0 h10 ha hm => ?_⟩
  · obtain ⟨x, o, h1, h2⟩ := bind_ok e
    obtain ⟨l1, l2⟩ := h.le I p x o hp h1
    obtain ⟨l3, l4⟩ := (hk x).le I o y q l2 h2
    omega
  · obtain ⟨x, o, h1, h2⟩ := bind_ok e
    obtain ⟨l1, l2⟩ := h.le I p x o hp h1
    obtain ⟨l3, l4⟩ := (hk x).le I o y q l2 h2
    rw [bind_of (h.ext I J p x o hp h1 (ha.mono l3) (by omega))]
    exact (hk x).ext I J o y q l2 h2 ha hq
  · obtain ⟨x, o, h1, h2⟩ := bind_ok e
    obtain ⟨l1, l2⟩ := h.le I p x o hp h1
    by_cases ho : J.m < o
    · exact bind_bad (h.cut I J p x o hp h1 ha hpj ho)
    · rw [bind_of (h.ext I J p x o hp h1 (ha.mono (by omega)) (by omega))]
      exact (hk x).cut I J o y q l2 h2 ha (by omega) hq
  · cases hr : r I p with
    | ok x o =>
      rw [bind_of hr] at h0
      obtain ⟨l1, l2⟩ := h.le I p x o hp hr
      rw [bind_of (h.ext I J p x o hp hr (ha.mono l2) (by omega))]
      exact (hk x).err I J o e l2 h0 h10 ha hm
    | bad e' =>
      rw [bind_bad hr] at h0
      injection h0 with h0
      subst h0
      exact bind_bad (h.err I J p e' hp hr h10 ha hm)
    | more => simp [Rd.bind, hr] at h0

/-- n bits from a place on, the lowest first -/
def num (f : Nat → Bool) (p : Nat) : Nat → Nat
  | 0 => 0
  | n + 1 => num f p n + (f (p + n)).toNat * 2 ^ n

theorem num_same {f g : Nat → Bool} {p : Nat} : ∀ n, (∀ i, i < p + n → g i = f i) → num g p n = num f p n
  | 0, _ => rfl
  | n + 1, h => by rw [num, num, num_same n (fun i hi => h i (by omega)), h (p + n) (by omega)]

theorem num_lt (f : Nat → Bool) (p : Nat) : ∀ n, num f p n < 2 ^ n
  | 0 => by simp [num]
  | n + 1 => by
    have := num_lt f p n
    have h2 := Bool.toNat_le (f (p + n))
    rw [num, Nat.pow_succ]
    have : (f (p + n)).toNat * 2 ^ n ≤ 1 * 2 ^ n := Nat.mul_le_mul_right _ h2
    omega

/-- a number of n bits -/
def get (n : Nat) : Rd Nat := fun I p => if p + n ≤ I.m then .ok (num I.f p n) (p + n) else .bad 10

theorem Loc.get (n : Nat) : Loc (get n) := by
  refine ⟨fun I p x q hp h => ?_, fun I J p x q hp h ha hq => ?_, fun I J p x q hp h ha hpj hq => ?_, fun I J p e hp h h10 ha hm => ?_⟩
  · unfold Infl.get at h
    split at h
    · simp only [Res.ok.injEq] at h; omega
    · cases h
  · unfold Infl.get at h ⊢
    split at h
    · simp only [Res.ok.injEq] at h
      obtain ⟨rfl, rfl⟩ := h
      rw [if_pos hq, num_same n (fun i hi => ha i hi)]
    · cases h
  · unfold Infl.get at h ⊢
    split at h
    · simp only [Res.ok.injEq] at h
      rw [if_neg (by omega)]
    · cases h
  · unfold Infl.get at h
    split at h
    · cases h
    · injection h with h; omega

/-- on to a whole byte -/
def align : Rd Unit := fun _ p => .ok () ((p + 7) / 8 * 8)

theorem Loc.align : Loc align := by
  refine ⟨fun I p x q hp h => ?_, fun I J p x q hp h ha hq => ?_, fun I J p x q hp h ha hpj hq => ?_, fun I J p e hp h h10 ha hm => ?_⟩
  · simp only [Infl.align, Res.ok.injEq] at h
    unfold In.m at *
    omega
  · simp only [Infl.align, Res.ok.injEq] at h ⊢
    exact h
  · simp only [Infl.align, Res.ok.injEq] at h
    unfold In.m at *
    omega
  · cases h

/-- what is got by a code of any bits: a symbol, how many bits, an error -/
structure GL (g : List Nat → (Nat → Bool) → Nat → Nat × Nat × Nat) : Prop where
  le : ∀ ls f m s n e, g ls f m = (s, n, e) → n ≤ m
  loc : ∀ ls f m s n f' m', g ls f m = (s, n, 0) → n ≤ m' → (∀ i, i < n → f' i = f i) → g ls f' m' = (s, n, 0)
  cut : ∀ ls f m s n f' m', g ls f m = (s, n, 0) → m' < n → (∀ i, i < m' → f' i = f i) → (g ls f' m').2.2 = 10
  err : ∀ ls f m s n e f' m', g ls f m = (s, n, e) → e ≠ 10 → m ≤ m' → (∀ i, i < m → f' i = f i) → g ls f' m' = (s, n, e)

section
variable (g : List Nat → (Nat → Bool) → Nat → Nat × Nat × Nat) (ce : List Nat → Nat → Bool → Nat)

/-- a word of a code -/
def word (ls : List Nat) : Rd Nat := fun I p => match g ls (fun i => I.f (p + i)) (I.m - p) with
  | (s, n, 0) => .ok s (p + n)
  | (_, _, e + 1) => .bad (e + 1)

theorem word_ok {ls : List Nat} {I : In} {p s q : Nat} (h : word g ls I p = .ok s q) : ∃ n, g ls (fun i => I.f (p + i)) (I.m - p) = (s, n, 0) ∧ q = p + n := by
  unfold word at h
  split at h
  · rename_i s' n' he
    simp only [Res.ok.injEq] at h
    obtain ⟨rfl, rfl⟩ := h
    exact ⟨_, he, rfl⟩
  · cases h

theorem Loc.word (hg : GL g) (ls : List Nat) : Loc (word g ls) := by
  refine ⟨fun I p x q hp h => ?_, fun I J p x q hp h ha hq => ?_, fun I J p x q hp h ha hpj hq => ?_, fun I J p e hp h h10 ha hm => ?_⟩
  · obtain ⟨n, h1, rfl⟩ := word_ok g h
    have := hg.le _ _ _ _ _ _ h1
    omega
  · obtain ⟨n, h1, rfl⟩ := word_ok g h
    have h2 := hg.loc _ _ _ _ _ (fun i => J.f (p + i)) (J.m - p) h1 (by omega) (fun i hi => ha (p + i) (by omega))
    unfold Infl.word
    rw [h2]
  · obtain ⟨n, h1, rfl⟩ := word_ok g h
    have h2 := hg.cut _ _ _ _ _ (fun i => J.f (p + i)) (J.m - p) h1 (by omega) (fun i hi => ha (p + i) (by omega))
    unfold Infl.word
    rcases hr : g ls (fun i => J.f (p + i)) (J.m - p) with ⟨s', n', e'⟩
    rw [hr] at h2
    simp only at h2
    subst h2
    rfl
  · rcases hr : g ls (fun i => I.f (p + i)) (I.m - p) with ⟨s', n', e'⟩
    unfold Infl.word at h
    rw [hr] at h
    cases e' with
    | zero => cases h
    | succ e' =>
      injection h with h
      have h2 := hg.err _ _ _ _ _ _ (fun i => J.f (p + i)) (J.m - p) hr (by omega) (by omega) (fun i hi => ha (p + i) (by omega))
      unfold Infl.word
      rw [h2, ← h]

/-- a length's symbol: the least length, and how many bits -/
def lenOf (s : Nat) : Nat × Nat := if s - 257 < 8 then (3 + (s - 257), 0) else if s - 257 = 28 then (258, 0) else (3 + (4 + (s - 257) % 4) * 2 ^ ((s - 257) / 4 - 1), (s - 257) / 4 - 1)

/-- a distance's symbol -/
def distOf (d : Nat) : Nat × Nat := if d < 4 then (1 + d, 0) else (1 + (2 + d % 2) * 2 ^ (d / 2 - 1), d / 2 - 1)

/-- one token behind a text: none ends the block -/
def tok (lits dists : List Nat) (most : Nat) (out : List Nat) : Rd (Option (List Nat)) :=
  (word g lits).bind fun s =>
    if s = 256 then Rd.pure none
    else if s < 256 then (if most ≤ out.length then Rd.fail 3 else Rd.pure (some (out ++ [s])))
    else if 285 < s then Rd.fail 11
    else (get (lenOf s).2).bind fun x => (word g dists).bind fun d =>
      if 29 < d then Rd.fail 11 else (get (distOf d).2).bind fun y =>
        if out.length < (distOf d).1 + y then Rd.fail 14
        else if most < out.length + ((lenOf s).1 + x) then Rd.fail 3
        else Rd.pure (some (cp ((distOf d).1 + y) ((lenOf s).1 + x) out))

/-- tokens up to the block's end -/
def toks (lits dists : List Nat) (most : Nat) : Nat → List Nat → Rd (List Nat)
  | 0, _ => Rd.stuck
  | k + 1, out => (tok g lits dists most out).bind fun o => match o with
    | none => Rd.pure out
    | some out' => toks lits dists most k out'

/-- n bytes -/
def bytes : Nat → List Nat → Rd (List Nat)
  | 0, out => Rd.pure out
  | n + 1, out => (get 8).bind fun b => bytes n (out ++ [b])

/-- a block that stands as it is -/
def stored (most : Nat) (out : List Nat) : Rd (List Nat) :=
  align.bind fun _ => (get 16).bind fun n => (get 16).bind fun m =>
    if m ≠ 65535 - n then Rd.fail 11 else if most < out.length + n then Rd.fail 3 else bytes n out

/-- k numbers of three bits -/
def threes : Nat → List Nat → Rd (List Nat)
  | 0, l => Rd.pure l
  | k + 1, l => (get 3).bind fun v => threes k (l ++ [v])

def order : List Nat := [16, 17, 18, 0, 8, 7, 9, 6, 10, 5, 11, 4, 12, 3, 13, 2, 14, 1, 15]

/-- the lengths of the code of lengths -/
def ownOf (vs : List Nat) : List Nat := (List.range 19).map fun j => vs.getD (order.idxOf j) 0

/-- the lengths of both codes -/
def lens (own : List Nat) (tot : Nat) : Nat → List Nat → Rd (List Nat)
  | 0, all => if tot ≤ all.length then Rd.pure all else Rd.stuck
  | k + 1, all => if tot ≤ all.length then Rd.pure all else
    (word g own).bind fun s =>
      if s = 16 then (get 2).bind fun x => if all = [] then Rd.fail 11 else if tot < all.length + (3 + x) then Rd.fail 11 else lens own tot k (all ++ List.replicate (3 + x) (all.getD (all.length - 1) 0))
      else if s = 17 then (get 3).bind fun x => if tot < all.length + (3 + x) then Rd.fail 11 else lens own tot k (all ++ List.replicate (3 + x) 0)
      else if s = 18 then (get 7).bind fun x => if tot < all.length + (11 + x) then Rd.fail 11 else lens own tot k (all ++ List.replicate (11 + x) 0)
      else lens own tot k (all ++ [s])

/-- an error that is none goes on -/
def okE {α : Type} (e : Nat) (r : Rd α) : Rd α := if e = 0 then r else Rd.fail e

/-- a block whose codes are told -/
def told (most fuel : Nat) (out : List Nat) : Rd (List Nat) :=
  (get 5).bind fun l => (get 5).bind fun d => (get 4).bind fun k =>
    if 286 < l + 257 ∨ 30 < d + 1 then Rd.fail 11
    else (threes (k + 4) []).bind fun vs => okE (ce (ownOf vs) 7 false) ((lens g (ownOf vs) (l + 257 + (d + 1)) (l + 257 + (d + 1)) []).bind fun all =>
      if all.getD 256 0 = 0 then Rd.fail 11
      else okE (ce (all.take (l + 257)) 15 true) (okE (ce (all.drop (l + 257)) 15 true) (toks g (all.take (l + 257)) (all.drop (l + 257)) most fuel out)))

def fixedL : List Nat := (List.range 288).map fun i => if 144 ≤ i ∧ i < 256 then 9 else if 256 ≤ i ∧ i < 280 then 7 else 8
def fixedD : List Nat := List.replicate 32 5

/-- a block: whether it is the last one, and what has come out -/
def block (most fuel : Nat) (out : List Nat) : Rd (Nat × List Nat) :=
  (get 1).bind fun last => (get 2).bind fun kind =>
    (if kind = 0 then stored most out else if kind = 1 then toks g fixedL fixedD most fuel out else if kind = 2 then told g ce most fuel out else Rd.fail 16).bind fun o => Rd.pure (last, o)

/-- blocks up to the last one -/
def blocks (most fuel : Nat) : Nat → List Nat → Rd (List Nat)
  | 0, _ => Rd.stuck
  | k + 1, out => (block g ce most fuel out).bind fun r => if r.1 = 1 then Rd.pure r.2 else blocks most fuel k r.2

theorem Loc.ite {α : Type} {c : Prop} [Decidable c] {r r' : Rd α} (h : Loc r) (h' : Loc r') : Loc (if c then r else r') := by
  split
  · exact h
  · exact h'

variable {g ce}

theorem Loc.tok (hg : GL g) (lits dists : List Nat) (most : Nat) (out : List Nat) : Loc (tok g lits dists most out) :=
  (Loc.word g hg lits).bind fun s => .ite (.pure _) (.ite (.ite (.fail _) (.pure _)) (.ite (.fail _) ((Loc.get _).bind fun x => (Loc.word g hg dists).bind fun d => .ite (.fail _) ((Loc.get _).bind fun y => .ite (.fail _) (.ite (.fail _) (.pure _))))))

theorem Loc.toks (hg : GL g) (lits dists : List Nat) (most : Nat) : ∀ k out, Loc (toks g lits dists most k out)
  | 0, _ => .stuck
  | k + 1, out => (Loc.tok hg lits dists most out).bind fun o => match o with
    | none => .pure _
    | some o' => Loc.toks hg lits dists most k o'

theorem Loc.bytes : ∀ n out, Loc (bytes n out)
  | 0, out => .pure _
  | n + 1, out => (Loc.get 8).bind fun b => Loc.bytes n _

theorem Loc.stored (most : Nat) (out : List Nat) : Loc (stored most out) :=
  Loc.align.bind fun _ => (Loc.get 16).bind fun n => (Loc.get 16).bind fun m => .ite (.fail _) (.ite (.fail _) (Loc.bytes n out))

theorem Loc.threes : ∀ k l, Loc (threes k l)
  | 0, l => .pure _
  | k + 1, l => (Loc.get 3).bind fun v => Loc.threes k _

theorem Loc.lens (hg : GL g) (own : List Nat) (tot : Nat) : ∀ k all, Loc (lens g own tot k all)
  | 0, all => .ite (.pure _) .stuck
  | k + 1, all => .ite (.pure _) ((Loc.word g hg own).bind fun s => .ite ((Loc.get 2).bind fun x => .ite (.fail _) (.ite (.fail _) (Loc.lens hg own tot k _)))
      (.ite ((Loc.get 3).bind fun x => .ite (.fail _) (Loc.lens hg own tot k _)) (.ite ((Loc.get 7).bind fun x => .ite (.fail _) (Loc.lens hg own tot k _)) (Loc.lens hg own tot k _))))

theorem Loc.okE {α : Type} (e : Nat) {r : Rd α} (h : Loc r) : Loc (okE e r) := .ite h (.fail _)

theorem Loc.told (hg : GL g) (most fuel : Nat) (out : List Nat) : Loc (told g ce most fuel out) :=
  (Loc.get 5).bind fun l => (Loc.get 5).bind fun d => (Loc.get 4).bind fun k => .ite (.fail _) ((Loc.threes _ _).bind fun vs => .okE _ ((Loc.lens hg _ _ _ _).bind fun all => .ite (.fail _) (.okE _ (.okE _ (Loc.toks hg _ _ most fuel out)))))

theorem Loc.block (hg : GL g) (most fuel : Nat) (out : List Nat) : Loc (block g ce most fuel out) :=
  (Loc.get 1).bind fun last => (Loc.get 2).bind fun kind => (Loc.ite (Loc.stored most out) (.ite (Loc.toks hg _ _ most fuel out) (.ite (Loc.told hg most fuel out) (.fail _)))).bind fun o => .pure _

theorem Loc.blocks (hg : GL g) (most fuel : Nat) : ∀ k out, Loc (blocks g ce most fuel k out)
  | 0, _ => .stuck
  | k + 1, out => (Loc.block hg most fuel out).bind fun r => .ite (.pure _) (Loc.blocks hg most fuel k r.2)
end

end Go.Proofs.Ytabeanealkopbaa.Infl
