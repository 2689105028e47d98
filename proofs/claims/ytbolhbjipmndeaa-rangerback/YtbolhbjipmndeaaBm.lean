/- What is written is read again: act by act. -/
import Derived.Test.YtbolhbjipmndeaaBo
import Derived.Test.YtbolhbjipmndeaaDDt
namespace Go.Proofs.Ytbolhbjipmndeaa.D
open Go.RowKit Rang
set_option maxRecDepth 100000
set_option linter.unusedVariables false

/-- an encoder with where it stands, and its chances -/
structure Sta where
  c : Enc
  T : Nat
  k : Nat
  ch : List Nat

def Ok (s : Sta) : Prop := Wide s.c s.T s.k ∧ Chs s.ch

def putS (s : Sta) (i : Nat) (bit : Bool) : Sta :=
  ⟨putE s.c (s.ch.getD i 0) bit, Rang.stepT (putR s.c.rng (s.ch.getD i 0) bit) (putT s.c.rng s.T (s.ch.getD i 0) bit), Rang.stepK (putR s.c.rng (s.ch.getD i 0) bit) s.k, s.ch.set i (after (s.ch.getD i 0) bit)⟩
def dirS (s : Sta) (bit : Bool) : Sta := ⟨dirE s.c bit, Rang.stepT (s.c.rng / 2) (dirT s.c.rng s.T bit), Rang.stepK (s.c.rng / 2) s.k, s.ch⟩

theorem Ok.put {s : Sta} (h : Ok s) {i : Nat} (hi : i < s.ch.length) (bit : Bool) : Ok (putS s i bit) := ⟨(put_wide h.1 (h.2.at hi) bit).1, h.2.set hi bit⟩
theorem Ok.dir {s : Sta} (h : Ok s) (bit : Bool) : Ok (dirS s bit) := ⟨(dir_wide h.1 bit).1, h.2⟩

def AheadS (s : Sta) (Tf K : Nat) : Prop := Ahead s.T s.k s.c.rng Tf K
def FollowsS (B : List Nat) (d : Dec) (s : Sta) : Prop := Follows B d s.c.rng s.T s.k

theorem AheadS.put {s : Sta} {Tf K i : Nat} {bit : Bool} (h : Ok s) (hi : i < s.ch.length) (ha : AheadS (putS s i bit) Tf K) : AheadS s Tf K := (Ahead.put h.1 (h.2.at hi) ha).2
theorem AheadS.dir {s : Sta} {Tf K : Nat} {bit : Bool} (h : Ok s) (ha : AheadS (dirS s bit) Tf K) : AheadS s Tf K := (Ahead.dir h.1 ha).2

section
variable {B : List Nat} {K : Nat}

theorem FollowsS.put (hl : B.length = K + 5) (hb : ∀ z ∈ B, z < 256) {s : Sta} {d : Dec} {i : Nat} {bit : Bool} (h : Ok s) (hi : i < s.ch.length) (hf : FollowsS B d s) (ha : AheadS (putS s i bit) (num B) K) :
    ∃ d', gotD B d (s.ch.getD i 0) = (bit, d') ∧ gotCh s.ch i (s.ch.getD i 0) (bit, d') = (putS s i bit).ch ∧ d'.over = false ∧ FollowsS B d' (putS s i bit) := by
  have h1 := follows_put hl hb h.1 (h.2.at hi) hf ha
  have e : gotD B d (s.ch.getD i 0) = getD B d (s.ch.getD i 0) := by unfold gotD; rw [if_neg (by rw [hf.over]; simp)]
  refine ⟨(getD B d (s.ch.getD i 0)).2, by rw [e, ← h1.1], ?_, h1.2.over, h1.2⟩
  unfold gotCh
  rw [if_neg (by rw [h1.2.over]; simp)]
  rfl

theorem FollowsS.dir (hl : B.length = K + 5) (hb : ∀ z ∈ B, z < 256) {s : Sta} {d : Dec} {bit : Bool} (h : Ok s) (hf : FollowsS B d s) (ha : AheadS (dirS s bit) (num B) K) : (dirD B d).1 = bit ∧ FollowsS B (dirD B d).2 (dirS s bit) := follows_dir hl hb h.1 hf ha
end

def dirsS (v : Nat) : Nat → Sta → Sta
  | 0, s => s
  | n + 1, s => dirsS v n (dirS s (v.testBit n))

theorem dirsS_is (v : Nat) : ∀ (n : Nat) (s : Sta), (dirsS v n s).c = dirsE v n s.c ∧ (dirsS v n s).ch = s.ch
  | 0, s => ⟨rfl, rfl⟩
  | n + 1, s => dirsS_is v n (dirS s (v.testBit n))

theorem dirsS_ok (v : Nat) : ∀ (n : Nat) (s : Sta), Ok s → Ok (dirsS v n s)
  | 0, s, h => h
  | n + 1, s, h => dirsS_ok v n _ (h.dir _)

theorem dirsS_ahead (v : Nat) {Tf K : Nat} : ∀ (n : Nat) (s : Sta), Ok s → AheadS (dirsS v n s) Tf K → AheadS s Tf K
  | 0, s, h, ha => ha
  | n + 1, s, h, ha => (dirsS_ahead v n _ (h.dir _) ha).dir h

theorem mod_succ (v n : Nat) : v % 2 ^ (n + 1) = v % 2 ^ n + (v.testBit n).toNat * 2 ^ n := by
  rw [Nat.mod_pow_succ, bit_mod, Nat.mul_comm]

theorem dirsS_follow (v : Nat) {B : List Nat} {K : Nat} (hl : B.length = K + 5) (hb : ∀ z ∈ B, z < 256) : ∀ (n v0 : Nat) (s : Sta) (d : Dec), Ok s → FollowsS B d s → AheadS (dirsS v n s) (num B) K → ∃ d', dirsD B n v0 d = (v0 * 2 ^ n + v % 2 ^ n, d') ∧ FollowsS B d' (dirsS v n s)
  | 0, v0, s, d, h, hf, ha => ⟨d, by simp [dirsD, Nat.mod_one], hf⟩
  | n + 1, v0, s, d, h, hf, ha => by
    have h1 := FollowsS.dir hl hb h hf (dirsS_ahead v n _ (h.dir _) ha)
    obtain ⟨d', e, h2⟩ := dirsS_follow v hl hb n (2 * v0 + (v.testBit n).toNat) _ _ (h.dir (v.testBit n)) h1.2 ha
    refine ⟨d', ?_, h2⟩
    rw [dirsD, if_neg (by rw [hf.over]; simp), h1.1, e, mod_succ, Nat.pow_succ]
    congr 1
    rw [Nat.add_mul, Nat.mul_comm 2 v0, Nat.mul_assoc, Nat.mul_comm 2 (2 ^ n)]
    omega

def putsS (base : Nat) : Nat → List Bool → Sta → Sta
  | _, [], s => s
  | m, b :: bs, s => putsS base (2 * m + b.toNat) bs (putS s (base + m) b)

theorem putsS_is (base : Nat) : ∀ (bs : List Bool) (m : Nat) (s : Sta), (putsS base m bs s).c = (putsE base m bs (s.c, s.ch)).1 ∧ (putsS base m bs s).ch = (putsE base m bs (s.c, s.ch)).2
  | [], m, s => ⟨rfl, rfl⟩
  | b :: bs, m, s => putsS_is base bs _ _

/-- all chances that so many bits may need are there -/
def Fits (base m r N : Nat) : Prop := r = 0 ∨ base + (m + 1) * 2 ^ (r - 1) ≤ N

theorem Fits.lt {base m r N : Nat} (h : Fits base m (r + 1) N) : base + m < N := by
  rcases h with h | h
  · omega
  · rw [Nat.add_sub_cancel] at h
    have := Nat.two_pow_pos r
    have h2 : (m + 1) * 1 ≤ (m + 1) * 2 ^ r := Nat.mul_le_mul_left _ this
    omega

theorem Fits.next {base m r N : Nat} (h : Fits base m (r + 1) N) (b : Bool) : Fits base (2 * m + b.toNat) r N := by
  rcases h with h | h
  · omega
  · rw [Nat.add_sub_cancel] at h
    cases r with
    | zero => exact .inl rfl
    | succ r =>
      refine .inr ?_
      rw [Nat.add_sub_cancel]
      rw [Nat.pow_succ] at h
      have hb := Bool.toNat_le b
      have h2 : (2 * m + b.toNat + 1) * 2 ^ r ≤ (2 * m + 2) * 2 ^ r := Nat.mul_le_mul_right _ (by omega)
      have h3 : (m + 1) * (2 ^ r * 2) = (2 * m + 2) * 2 ^ r := by rw [Nat.mul_comm (2 ^ r) 2, ← Nat.mul_assoc]; congr 1; omega
      omega

theorem putS_len (s : Sta) (i : Nat) (b : Bool) : (putS s i b).ch.length = s.ch.length := List.length_set ..

theorem putsS_ok (base : Nat) : ∀ (bs : List Bool) (m : Nat) (s : Sta), Ok s → Fits base m bs.length s.ch.length → Ok (putsS base m bs s)
  | [], m, s, h, _ => h
  | b :: bs, m, s, h, hf => putsS_ok base bs _ _ (h.put hf.lt b) (by rw [putS_len]; exact hf.next b)

theorem putsS_ahead (base : Nat) {Tf K : Nat} : ∀ (bs : List Bool) (m : Nat) (s : Sta), Ok s → Fits base m bs.length s.ch.length → AheadS (putsS base m bs s) Tf K → AheadS s Tf K
  | [], m, s, h, _, ha => ha
  | b :: bs, m, s, h, hf, ha => (putsS_ahead base bs _ _ (h.put hf.lt b) (by rw [putS_len]; exact hf.next b) ha).put h hf.lt

def foldM : Nat → List Bool → Nat
  | m, [] => m
  | m, b :: bs => foldM (2 * m + b.toNat) bs
def valL : Nat → Nat → List Bool → Nat
  | _, v, [] => v
  | i, v, b :: bs => valL (i + 1) (v + b.toNat * 2 ^ i) bs

theorem putsS_follow (base : Nat) {B : List Nat} {K : Nat} (hl : B.length = K + 5) (hb : ∀ z ∈ B, z < 256) : ∀ (bs : List Bool) (i m v : Nat) (s : Sta) (d : Dec), Ok s → Fits base m bs.length s.ch.length → FollowsS B d s → AheadS (putsS base m bs s) (num B) K →
    ∃ d', getsD B base bs.length i m v (d, s.ch) = ((foldM m bs, valL i v bs), (d', (putsS base m bs s).ch)) ∧ FollowsS B d' (putsS base m bs s)
  | [], i, m, v, s, d, h, _, hf, ha => ⟨d, rfl, hf⟩
  | b :: bs, i, m, v, s, d, h, hfit, hf, ha => by
    have hfit' : Fits base (2 * m + b.toNat) bs.length (putS s (base + m) b).ch.length := by rw [putS_len]; exact hfit.next b
    have hok := h.put hfit.lt b
    obtain ⟨d1, e1, e2, e3, h1⟩ := FollowsS.put hl hb h hfit.lt hf (putsS_ahead base bs _ _ hok hfit' ha)
    obtain ⟨d', e4, h2⟩ := putsS_follow base hl hb bs (i + 1) (2 * m + b.toNat) (v + b.toNat * 2 ^ i) _ d1 hok hfit' h1 ha
    refine ⟨d', ?_, h2⟩
    rw [List.length_cons, getsD]
    simp only
    rw [e1, e2]
    rw [if_neg (by simp only; rw [e3]; simp)]
    exact e4

theorem foldM_append : ∀ (a b : List Bool) (m : Nat), foldM m (a ++ b) = foldM (foldM m a) b
  | [], b, m => rfl
  | x :: a, b, m => foldM_append a b _
theorem valL_append : ∀ (a b : List Bool) (i v : Nat), valL i v (a ++ b) = valL (i + a.length) (valL i v a) b
  | [], b, i, v => rfl
  | x :: a, b, i, v => by rw [List.cons_append, valL, valL_append a b, valL, List.length_cons, Nat.add_right_comm, Nat.add_assoc]

theorem fold_high (v n : Nat) : ∀ j, j ≤ n → foldM 1 ((List.range j).map fun i => v.testBit (n - 1 - i)) = 2 ^ j + v % 2 ^ n / 2 ^ (n - j)
  | 0, _ => by simp [foldM, Nat.div_eq_of_lt (Nat.mod_lt v (Nat.two_pow_pos n))]
  | j + 1, h => by
    rw [List.range_succ, List.map_append, foldM_append, fold_high v n j (by omega)]
    show 2 * (2 ^ j + v % 2 ^ n / 2 ^ (n - j)) + (v.testBit (n - 1 - j)).toNat = _
    have e1 : (v % 2 ^ n).testBit (n - 1 - j) = v.testBit (n - 1 - j) := by rw [Nat.testBit_mod_two_pow]; simp; omega
    have e2 := bit_mod (v % 2 ^ n) (n - 1 - j)
    rw [e1] at e2
    rw [← e2, show n - j = n - 1 - j + 1 by omega, show n - (j + 1) = n - 1 - j by omega, Nat.pow_succ 2 (n - 1 - j), ← Nat.div_div_eq_div_mul, Nat.pow_succ]
    generalize v % 2 ^ n / 2 ^ (n - 1 - j) = q
    omega

theorem val_low (v : Nat) : ∀ j, valL 0 0 ((List.range j).map fun i => v.testBit i) = v % 2 ^ j
  | 0 => by simp [valL, Nat.mod_one]
  | j + 1 => by
    rw [List.range_succ, List.map_append, valL_append, val_low v j]
    rw [List.length_map, List.length_range, Nat.zero_add, List.map_cons, List.map_nil, valL, valL, mod_succ]

theorem bits_len (v n : Nat) (high : Bool) : (bitsT v n high).length = n := by simp [bitsT]

theorem tree_value (v n : Nat) (high : Bool) (hv : v < 2 ^ n) : treeV n high (foldM 1 (bitsT v n high), valL 0 0 (bitsT v n high)) = (v : Int) := by
  unfold treeV
  cases high
  · have := val_low v n
    have e : bitsT v n false = (List.range n).map fun i => v.testBit i := by unfold bitsT; simp
    rw [if_neg (by simp), e, this, Nat.mod_eq_of_lt hv]
  · have := fold_high v n n (Nat.le_refl _)
    have e : bitsT v n true = (List.range n).map fun i => v.testBit (n - 1 - i) := by unfold bitsT; simp
    rw [if_pos rfl, e, this, Nat.mod_eq_of_lt hv, Nat.sub_self]
    simp
    generalize (2 : Int) ^ n = P
    omega

theorem fits_tree {base n N : Nat} (h : base + 2 ^ n ≤ N) : Fits base 1 n N := by
  cases n with
  | zero => exact .inl rfl
  | succ n => exact .inr (by rw [Nat.add_sub_cancel]; rw [Nat.pow_succ] at h; omega)

/-- an act that may be -/
def May (a : Int × Int × Int × Int) (N : Nat) : Prop :=
  (a.1 = 0 ∧ 0 ≤ a.2.1 ∧ a.2.1 < (N : Int) ∧ 0 ≤ a.2.2.1 ∧ a.2.2.1 ≤ 1) ∨ (a.1 = 1 ∧ DirOk a.2.2.1 a.2.2.2) ∨ ((a.1 = 2 ∨ a.1 = 3) ∧ MayB a.2.1 a.2.2.2 N ∧ 0 ≤ a.2.2.1 ∧ a.2.2.1 < 2 ^ a.2.2.2.toNat)

/-- what an act does -/
def actS (a : Int × Int × Int × Int) (s : Sta) : Sta :=
  if a.1 = 0 then putS s a.2.1.toNat (decide (a.2.2.1 = 1))
  else if a.1 = 1 then dirsS a.2.2.1.toNat a.2.2.2.toNat s
  else putsS a.2.1.toNat 1 (bitsT a.2.2.1.toNat a.2.2.2.toNat (decide (a.1 = 2))) s

/-- acts, one behind the other -/
def actsS : List (Int × Int × Int × Int) → Sta → Sta
  | [], s => s
  | a :: l, s => actsS l (actS a s)

theorem actsS_snoc (l : List (Int × Int × Int × Int)) (a : Int × Int × Int × Int) (s : Sta) : actsS (l ++ [a]) s = actS a (actsS l s) := by
  induction l generalizing s with
  | nil => rfl
  | cons x l ih => exact ih _

theorem putsS_len (base : Nat) (bs : List Bool) (m : Nat) (s : Sta) : (putsS base m bs s).ch.length = s.ch.length := by
  rw [(putsS_is base bs m s).2, puts_len]

theorem actS_len (a : Int × Int × Int × Int) (s : Sta) : (actS a s).ch.length = s.ch.length := by
  unfold actS
  split
  · exact putS_len ..
  · split
    · rw [(dirsS_is _ _ s).2]
    · exact putsS_len ..

theorem tree_parts {a : Int × Int × Int × Int} {N : Nat} (h : MayB a.2.1 a.2.2.2 N ∧ 0 ≤ a.2.2.1 ∧ a.2.2.1 < 2 ^ a.2.2.2.toNat) : Fits a.2.1.toNat 1 (bitsT a.2.2.1.toNat a.2.2.2.toNat (decide (a.1 = 2))).length N := by
  rw [bits_len]
  obtain ⟨b, m, e1, e2, h1, h2⟩ := mayB_nat h.1
  rw [e1, e2]
  exact fits_tree h2

theorem actS_ok {a : Int × Int × Int × Int} {s : Sta} (h : Ok s) (hm : May a s.ch.length) : Ok (actS a s) := by
  unfold actS
  rcases hm with ⟨e, h1, h2, _⟩ | ⟨e, _⟩ | ⟨e, h1⟩
  · rw [if_pos e]; exact h.put (by omega) _
  · rw [if_neg (by omega), if_pos e]; exact dirsS_ok _ _ _ h
  · rw [if_neg (by omega), if_neg (by omega)]; exact putsS_ok _ _ _ _ h (tree_parts h1)

theorem actS_ahead {a : Int × Int × Int × Int} {s : Sta} {Tf K : Nat} (h : Ok s) (hm : May a s.ch.length) (ha : AheadS (actS a s) Tf K) : AheadS s Tf K := by
  unfold actS at ha
  rcases hm with ⟨e, h1, h2, _⟩ | ⟨e, _⟩ | ⟨e, h1⟩
  · rw [if_pos e] at ha; exact ha.put h (by omega)
  · rw [if_neg (by omega), if_pos e] at ha; exact dirsS_ahead _ _ _ h ha
  · rw [if_neg (by omega), if_neg (by omega)] at ha; exact putsS_ahead _ _ _ _ h (tree_parts h1) ha

theorem actsS_ahead {Tf K : Nat} : ∀ (l : List (Int × Int × Int × Int)) (s : Sta), Ok s → (∀ a ∈ l, May a s.ch.length) → AheadS (actsS l s) Tf K → AheadS s Tf K
  | [], s, h, _, ha => ha
  | a :: l, s, h, hm, ha => actS_ahead h (hm a (List.mem_cons_self ..)) (actsS_ahead l _ (actS_ok h (hm a (List.mem_cons_self ..))) (fun b hb => by rw [actS_len]; exact hm b (List.mem_cons_of_mem _ hb)) ha)
end Go.Proofs.Ytbolhbjipmndeaa.D
