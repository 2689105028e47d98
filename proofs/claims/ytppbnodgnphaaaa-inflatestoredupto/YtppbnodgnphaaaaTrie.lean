/- Ways of words: nodes that lead from bit to bit. A beginning of a word is kept as one number: a 1, and its bits behind it. It names no program. -/
import Derived.Test.YtppbnodgnphaaaaLens
namespace Go.Proofs.Ytppbnodgnphaaaa

def updB (T : Nat → Bool) (j : Nat) (y : Bool) : Nat → Bool := fun i => if i = j then y else T i

structure Trie (N : Nat) (A B S : Nat → Nat) (H : Nat → Bool) (P : Nat → Prop) (Wd : Nat → Nat → Prop) (ix ky : Nat → Nat) : Prop where
  two : 2 ≤ N
  out : ∀ a, a = 0 ∨ N ≤ a → A a = 0 ∧ B a = 0 ∧ S a = 0 ∧ H a = false
  root : ky 1 = 1
  inK : ∀ a, 1 ≤ a → a < N → P (ky a) ∧ ix (ky a) = a
  inX : ∀ k, P k → 1 ≤ ix k ∧ ix k < N ∧ ky (ix k) = k ∧ 1 ≤ k
  no : ∀ k, ¬ P k → ix k = 0
  kid : ∀ a, 1 ≤ a → a < N → A a = ix (2 * ky a) ∧ B a = ix (2 * ky a + 1)
  closed : ∀ k, P k → 2 ≤ k → P (k / 2)
  mark : ∀ a, 1 ≤ a → a < N → (∀ i, Wd i (ky a) → H a = true ∧ S a = i) ∧ ((∀ i, ¬ Wd i (ky a)) → H a = false ∧ S a = 0)
  wdP : ∀ i k, Wd i k → P k

section
variable {N : Nat} {A B S : Nat → Nat} {H : Nat → Bool} {P P' : Nat → Prop} {Wd Wd' : Nat → Nat → Prop} {ix ky : Nat → Nat}

theorem Trie.congr (h : Trie N A B S H P Wd ix ky) (hp : ∀ k, P k ↔ P' k) (hw : ∀ i k, Wd i k ↔ Wd' i k) : Trie N A B S H P' Wd' ix ky where
  two := h.two
  out := h.out
  root := h.root
  inK := fun a h1 h2 => ⟨(hp _).1 (h.inK a h1 h2).1, (h.inK a h1 h2).2⟩
  inX := fun k hk => h.inX k ((hp _).2 hk)
  no := fun k hk => h.no k (fun h' => hk ((hp _).1 h'))
  kid := h.kid
  closed := fun k hk h2 => (hp _).1 (h.closed k ((hp _).2 hk) h2)
  mark := fun a h1 h2 => ⟨fun i hi => (h.mark a h1 h2).1 i ((hw _ _).2 hi), fun hi => (h.mark a h1 h2).2 (fun i hi' => hi i ((hw _ _).1 hi'))⟩
  wdP := fun i k hk => (hp _).1 (h.wdP i k ((hw _ _).2 hk))

theorem Trie.start : Trie 2 (fun _ => 0) (fun _ => 0) (fun _ => 0) (fun _ => false) (fun k => k = 1) (fun _ _ => False) (fun k => if k = 1 then 1 else 0) (fun a => if a = 1 then 1 else 0) where
  two := by omega
  out := fun _ _ => ⟨rfl, rfl, rfl, rfl⟩
  root := rfl
  inK := fun a h1 h2 => by obtain rfl : a = 1 := by omega
                           exact ⟨rfl, rfl⟩
  inX := fun k hk => by subst hk; exact ⟨by simp, by simp, by simp, by omega⟩
  no := fun k hk => if_neg hk
  kid := fun a h1 h2 => by obtain rfl : a = 1 := by omega
                           exact ⟨rfl, rfl⟩
  closed := fun k hk h2 => by omega
  mark := fun a _ _ => ⟨fun i hi => hi.elim, fun _ => ⟨rfl, rfl⟩⟩
  wdP := fun i k hk => hk.elim

/-- One beginning more: a node behind another one. -/
theorem Trie.add (h : Trie N A B S H P Wd ix ky) (a b : Nat) (ha : 1 ≤ a) (haN : a < N) (hb : b ≤ 1) (c : Nat) (hc : c = 2 * ky a + b) (hP : ¬ P c) :
    Trie (N + 1) (if b = 0 then upd A a N else A) (if b = 0 then B else upd B a N) S H (fun k => P k ∨ k = c) Wd (upd ix c N) (upd ky N c) := by
  have hka := (h.inX _ (h.inK a ha haN).1).2.2.2
  have hc1 : 2 ≤ c := by omega
  have hc2 : c / 2 = ky a := by omega
  have kyo : ∀ a', a' < N → upd ky N c a' = ky a' := fun a' h' => if_neg (by omega)
  have kyN : upd ky N c N = c := if_pos rfl
  have ixc : upd ix c N c = N := if_pos rfl
  have ixo : ∀ k, k ≠ c → upd ix c N k = ix k := fun k h' => if_neg h'
  have neK : ∀ a', 1 ≤ a' → a' < N → ky a' ≠ c := fun a' h1 h2 e => hP (e ▸ (h.inK a' h1 h2).1)
  have noC : ∀ d, d ≤ 1 → ix (2 * c + d) = 0 := fun d hd => h.no _ (fun hp => hP (by
    have := h.closed _ hp (by omega)
    rwa [show (2 * c + d) / 2 = c by omega] at this))
  refine ⟨by have := h.two; omega, ?_, ?_, ?_, ?_, ?_, ?_, ?_, ?_, fun i k hk => .inl (h.wdP i k hk)⟩
  · intro a' ha'
    have h0 := h.out a' (by omega)
    have hne : a' ≠ a := by omega
    by_cases e : b = 0
    · rw [if_pos e, if_pos e]; exact ⟨by rw [show upd A a N a' = A a' from if_neg hne]; exact h0.1, h0.2⟩
    · rw [if_neg e, if_neg e]; exact ⟨h0.1, by rw [show upd B a N a' = B a' from if_neg hne]; exact h0.2.1, h0.2.2⟩
  · rw [kyo 1 (by have := h.two; omega)]; exact h.root
  · intro a' h1 h2
    by_cases e : a' = N
    · subst e; rw [kyN, ixc]; exact ⟨.inr rfl, rfl⟩
    · have h3 := h.inK a' h1 (by omega)
      rw [kyo a' (by omega), ixo _ (neK a' h1 (by omega))]
      exact ⟨.inl h3.1, h3.2⟩
  · intro k hk
    by_cases e : k = c
    · subst e; rw [ixc, kyN]; exact ⟨by omega, by omega, rfl, by omega⟩
    · have h3 := h.inX k (hk.resolve_right e)
      rw [ixo k e, kyo _ h3.2.1]
      exact ⟨h3.1, by omega, h3.2.2⟩
  · intro k hk
    rw [ixo k (fun e => hk (.inr e))]
    exact h.no k (fun hp => hk (.inl hp))
  · intro a' h1 h2
    by_cases e : a' = N
    · subst e
      have h0 := h.out a' (by omega)
      have hne : a' ≠ a := by omega
      have h4 := noC 0 (by omega)
      have h5 := noC 1 (by omega)
      rw [kyN, ixo _ (by omega), ixo _ (by omega)]
      by_cases e0 : b = 0
      · rw [if_pos e0, if_pos e0, show upd A a a' a' = A a' from if_neg hne]; exact ⟨by rw [h0.1]; exact h4.symm, by rw [h0.2.1]; exact h5.symm⟩
      · rw [if_neg e0, if_neg e0, show upd B a a' a' = B a' from if_neg hne]; exact ⟨by rw [h0.1]; exact h4.symm, by rw [h0.2.1]; exact h5.symm⟩
    · have h3 := h.kid a' h1 (by omega)
      rw [kyo a' (by omega)]
      by_cases ea : a' = a
      · subst ea
        by_cases e0 : b = 0
        · subst e0
          rw [if_pos rfl, if_pos rfl, show upd A a' N a' = N from if_pos rfl, show 2 * ky a' = c by omega, ixc, ixo _ (by omega)]
          exact ⟨rfl, by rw [h3.2]; congr 1; omega⟩
        · obtain rfl : b = 1 := by omega
          rw [if_neg e0, if_neg e0, show upd B a' N a' = N from if_pos rfl, ← hc, ixc, ixo _ (by omega)]
          exact ⟨h3.1, rfl⟩
      · have hkne : ky a' ≠ ky a := fun e' => ea (by
          have e1 := (h.inK a' h1 (by omega)).2
          have e2 := (h.inK a ha haN).2
          rw [e'] at e1
          omega)
        rw [ixo _ (by omega), ixo _ (by omega)]
        by_cases e0 : b = 0
        · rw [if_pos e0, if_pos e0, show upd A a N a' = A a' from if_neg ea]; exact h3
        · rw [if_neg e0, if_neg e0, show upd B a N a' = B a' from if_neg ea]; exact h3
  · intro k hk h2
    by_cases e : k = c
    · subst e; rw [hc2]; exact .inl (h.inK a ha haN).1
    · exact .inl (h.closed k (hk.resolve_right e) h2)
  · intro a' h1 h2
    by_cases e : a' = N
    · subst e
      rw [kyN]
      have h0 := h.out a' (by omega)
      exact ⟨fun i hi => absurd (h.wdP i c hi) hP, fun _ => ⟨h0.2.2.2, h0.2.2.1⟩⟩
    · rw [kyo a' (by omega)]
      exact h.mark a' h1 (by omega)

/-- A node is a word's end. -/
theorem Trie.put (h : Trie N A B S H P Wd ix ky) (a s : Nat) (ha : 1 ≤ a) (haN : a < N) (h0 : ¬ P (2 * ky a)) (h1 : ¬ P (2 * ky a + 1)) (hw : ∀ i, ¬ Wd i (ky a)) :
    Trie N (upd A a 0) (upd B a 0) (upd S a s) (updB H a true) P (fun i k => Wd i k ∨ i = s ∧ k = ky a) ix ky := by
  have hk := h.inK a ha haN
  refine ⟨h.two, ?_, h.root, h.inK, h.inX, h.no, ?_, h.closed, ?_, ?_⟩
  · intro a' ha'
    have h3 := h.out a' ha'
    have hne : a' ≠ a := by omega
    exact ⟨by rw [show upd A a 0 a' = A a' from if_neg hne]; exact h3.1, by rw [show upd B a 0 a' = B a' from if_neg hne]; exact h3.2.1, by rw [show upd S a s a' = S a' from if_neg hne]; exact h3.2.2.1, by rw [show updB H a true a' = H a' from if_neg hne]; exact h3.2.2.2⟩
  · intro a' h1' h2'
    by_cases e : a' = a
    · subst e
      rw [show upd A a' 0 a' = 0 from if_pos rfl, show upd B a' 0 a' = 0 from if_pos rfl, h.no _ h0, h.no _ h1]
      exact ⟨rfl, rfl⟩
    · rw [show upd A a 0 a' = A a' from if_neg e, show upd B a 0 a' = B a' from if_neg e]
      exact h.kid a' h1' h2'
  · intro a' h1' h2'
    by_cases e : a' = a
    · subst e
      rw [show updB H a' true a' = true from if_pos rfl, show upd S a' s a' = s from if_pos rfl]
      refine ⟨fun i hi => ?_, fun hi => absurd (.inr ⟨rfl, rfl⟩) (hi s)⟩
      rcases hi with hi | ⟨rfl, _⟩
      · exact absurd hi (hw i)
      · exact ⟨rfl, rfl⟩
    · rw [show updB H a true a' = H a' from if_neg e, show upd S a s a' = S a' from if_neg e]
      have hkne : ky a' ≠ ky a := fun e' => e (by
        have e1 := (h.inK a' h1' h2').2
        have e2 := hk.2
        rw [e'] at e1
        omega)
      have h3 := h.mark a' h1' h2'
      refine ⟨fun i hi => ?_, fun hi => h3.2 (fun i hi' => hi i (.inl hi'))⟩
      rcases hi with hi | ⟨_, e'⟩
      · exact h3.1 i hi
      · exact absurd e' hkne
  · intro i k hi
    rcases hi with hi | ⟨_, rfl⟩
    · exact h.wdP i k hi
    · exact hk.1

end

/-! ### The keys of words -/

/-- a word's bits behind a 1 -/
def key (ls : List Nat) (i : Nat) : Nat := 2 ^ Canon.ln ls i + Canon.wd ls i

/-- the beginnings of the words of the symbols below s -/
def Beg (ls : List Nat) (s : Nat) (k : Nat) : Prop := k = 1 ∨ ∃ i, i < s ∧ 0 < Canon.ln ls i ∧ ∃ d, d ≤ Canon.ln ls i ∧ key ls i / 2 ^ d = k

/-- the words of the symbols below s -/
def Wrd (ls : List Nat) (s : Nat) (i k : Nat) : Prop := i < s ∧ 0 < Canon.ln ls i ∧ key ls i = k

/-- those beginnings, and the first l of the word of s -/
def BegUp (ls : List Nat) (s l : Nat) (k : Nat) : Prop := Beg ls s k ∨ ∃ d, Canon.ln ls s - l ≤ d ∧ d ≤ Canon.ln ls s ∧ key ls s / 2 ^ d = k

/-- what is known of lengths whose code is not over-full -/
structure Good (ls : List Nat) : Prop where
  small : ∀ l ∈ ls, l ≤ 20
  sum : Canon.sum ls ≤ 1048576

theorem Good.has {ls : List Nat} (h : Good ls) {i : Nat} (hi : i < ls.length) (h0 : 0 < Canon.ln ls i) : Canon.Has ls i := by
  refine ⟨hi, h0, h.small _ ?_⟩
  rw [Canon.ln, List.getD_eq_getElem?_getD, List.getElem?_eq_getElem hi]
  exact List.getElem_mem _

/-- a beginning of length m of a word -/
theorem key_div {L W d : Nat} (hd : d ≤ L) : (2 ^ L + W) / 2 ^ d = 2 ^ (L - d) + W / 2 ^ d := by
  have hp : 0 < 2 ^ d := Nat.two_pow_pos _
  rw [show 2 ^ L = 2 ^ d * 2 ^ (L - d) by rw [← Nat.pow_add]; congr 1; omega, Nat.mul_add_div hp]

theorem pow_between {a b x y : Nat} (hx : x < 2 ^ a) (hy : y < 2 ^ b) (h : 2 ^ a + x = 2 ^ b + y) : a = b ∧ x = y := by
  rcases Nat.lt_trichotomy a b with e | e | e
  · have : 2 ^ (a + 1) ≤ 2 ^ b := Nat.pow_le_pow_right (by decide) e
    rw [Nat.pow_succ] at this
    omega
  · subst e; exact ⟨rfl, by omega⟩
  · have : 2 ^ (b + 1) ≤ 2 ^ a := Nat.pow_le_pow_right (by decide) e
    rw [Nat.pow_succ] at this
    omega

/-- no word is a beginning of another one, by their keys -/
theorem Good.free {ls : List Nat} (h : Good ls) {i j d : Nat} (hi : i < ls.length) (hi0 : 0 < Canon.ln ls i) (hj : j < ls.length) (hj0 : 0 < Canon.ln ls j) (hd : d ≤ Canon.ln ls j) (e : key ls j / 2 ^ d = key ls i) : i = j ∧ d = 0 := by
  have Hi := h.has hi hi0
  have Hj := h.has hj hj0
  have wi := Canon.wd_lt Hi h.sum
  have wj := Canon.wd_lt Hj h.sum
  rw [key, key, key_div hd] at e
  have hq : Canon.wd ls j / 2 ^ d < 2 ^ (Canon.ln ls j - d) := by
    rw [Nat.div_lt_iff_lt_mul (Nat.two_pow_pos _), ← Nat.pow_add, show Canon.ln ls j - d + d = Canon.ln ls j by omega]
    exact wj
  obtain ⟨e1, e2⟩ := pow_between hq wi e
  have := Canon.free Hi Hj (by omega) (by rw [show Canon.ln ls j - Canon.ln ls i = d by omega]; exact e2)
  subst this
  exact ⟨rfl, by omega⟩

theorem key_pos (ls : List Nat) (i : Nat) : 1 ≤ key ls i := by
  have : 0 < 2 ^ Canon.ln ls i := Nat.two_pow_pos _
  unfold key; omega

theorem div_div_succ (k d : Nat) : k / 2 ^ d / 2 = k / 2 ^ (d + 1) := by rw [Nat.div_div_eq_div_mul, Nat.pow_succ]

theorem key_top {ls : List Nat} {i : Nat} (h : Canon.wd ls i < 2 ^ Canon.ln ls i) : key ls i / 2 ^ Canon.ln ls i = 1 := by
  rw [key, key_div (Nat.le_refl _), Nat.sub_self, Nat.div_eq_of_lt h]

theorem key_ge {ls : List Nat} {i d : Nat} (hd : d ≤ Canon.ln ls i) : 2 ^ (Canon.ln ls i - d) ≤ key ls i / 2 ^ d := by
  rw [key, key_div hd]; exact Nat.le_add_right _ _

/-- behind the last bit, all beginnings of the word are there -/
theorem BegUp.all (ls : List Nat) (s : Nat) (h0 : 0 < Canon.ln ls s) (k : Nat) : BegUp ls s (Canon.ln ls s) k ↔ Beg ls (s + 1) k := by
  constructor
  · rintro (h | ⟨d, _, h2, h3⟩)
    · rcases h with h | ⟨i, hi, r⟩
      · exact .inl h
      · exact .inr ⟨i, by omega, r⟩
    · exact .inr ⟨s, by omega, h0, d, h2, h3⟩
  · rintro (h | ⟨i, hi, r0, d, r1, r2⟩)
    · exact .inl (.inl h)
    · by_cases e : i = s
      · subst e; exact .inr ⟨d, by omega, r1, r2⟩
      · exact .inl (.inr ⟨i, by omega, r0, d, r1, r2⟩)

theorem BegUp.zero {ls : List Nat} {s : Nat} (hw : Canon.wd ls s < 2 ^ Canon.ln ls s) (k : Nat) : BegUp ls s 0 k ↔ Beg ls s k := by
  constructor
  · rintro (h | ⟨d, h1, h2, h3⟩)
    · exact h
    · obtain rfl : d = Canon.ln ls s := by omega
      rw [key_top hw] at h3
      exact .inl h3.symm
  · exact .inl

theorem BegUp.succ (ls : List Nat) (s l : Nat) (hl : l < Canon.ln ls s) (k : Nat) : BegUp ls s (l + 1) k ↔ (BegUp ls s l k ∨ k = key ls s / 2 ^ (Canon.ln ls s - (l + 1))) := by
  constructor
  · rintro (h | ⟨d, h1, h2, h3⟩)
    · exact .inl (.inl h)
    · by_cases e : d = Canon.ln ls s - (l + 1)
      · subst e; exact .inr h3.symm
      · exact .inl (.inr ⟨d, by omega, h2, h3⟩)
  · rintro ((h | ⟨d, h1, h2, h3⟩) | h)
    · exact .inl h
    · exact .inr ⟨d, by omega, h2, h3⟩
    · exact .inr ⟨_, by omega, by omega, h.symm⟩

/-- the next bit of the word -/
theorem key_step (ls : List Nat) (s i : Nat) (hi : i < Canon.ln ls s) : key ls s / 2 ^ i = 2 * (key ls s / 2 ^ (i + 1)) + Canon.wd ls s / 2 ^ i % 2 := by
  have h1 := div_div_succ (key ls s) i
  have h2 : key ls s / 2 ^ i % 2 = Canon.wd ls s / 2 ^ i % 2 := by
    rw [key, key_div (by omega), show Canon.ln ls s - i = (Canon.ln ls s - i - 1) + 1 by omega, Nat.pow_succ]
    omega
  omega

/-- nothing goes on behind a word -/
theorem Good.ends {ls : List Nat} (h : Good ls) {s : Nat} (hs : s < ls.length) (h0 : 0 < Canon.ln ls s) (b : Nat) (hb : b ≤ 1) : ¬ Beg ls (s + 1) (2 * key ls s + b) := by
  have hp := key_pos ls s
  rintro (e | ⟨i, hi, r0, d, r1, r2⟩)
  · omega
  · have h3 : key ls i / 2 ^ (d + 1) = key ls s := by rw [← div_div_succ, r2]; omega
    by_cases e : d + 1 ≤ Canon.ln ls i
    · have := h.free hs h0 (by omega) r0 e h3
      omega
    · obtain rfl : d = Canon.ln ls i := by omega
      rw [key_top (Canon.wd_lt (h.has (by omega) r0) h.sum)] at r2
      omega

theorem Good.new {ls : List Nat} (h : Good ls) {s : Nat} (hs : s < ls.length) (h0 : 0 < Canon.ln ls s) (i : Nat) : ¬ Wrd ls s i (key ls s) := by
  rintro ⟨h1, h2, h3⟩
  have := h.free hs h0 (j := i) (d := 0) (by omega) h2 (by omega) (by simpa using h3)
  omega

theorem Wrd.succ (ls : List Nat) (s : Nat) (h0 : 0 < Canon.ln ls s) (i k : Nat) : Wrd ls (s + 1) i k ↔ (Wrd ls s i k ∨ i = s ∧ k = key ls s) := by
  constructor
  · rintro ⟨h1, h2, h3⟩
    by_cases e : i = s
    · subst e; exact .inr ⟨rfl, h3.symm⟩
    · exact .inl ⟨by omega, h2, h3⟩
  · rintro (⟨h1, h2, h3⟩ | ⟨rfl, rfl⟩)
    · exact ⟨by omega, h2, h3⟩
    · exact ⟨by omega, h0, rfl⟩

theorem Beg.skip (ls : List Nat) (s : Nat) (h0 : ¬ 0 < Canon.ln ls s) (k : Nat) : Beg ls (s + 1) k ↔ Beg ls s k := by
  constructor
  · rintro (h | ⟨i, hi, r0, r⟩)
    · exact .inl h
    · exact .inr ⟨i, by have : i ≠ s := by rintro rfl; exact h0 r0
                        omega, r0, r⟩
  · rintro (h | ⟨i, hi, r⟩)
    · exact .inl h
    · exact .inr ⟨i, by omega, r⟩

theorem Wrd.skip (ls : List Nat) (s : Nat) (h0 : ¬ 0 < Canon.ln ls s) (i k : Nat) : Wrd ls (s + 1) i k ↔ Wrd ls s i k := by
  constructor
  · rintro ⟨h1, h2, h3⟩
    exact ⟨by have : i ≠ s := by rintro rfl; exact h0 h2
              omega, h2, h3⟩
  · rintro ⟨h1, h2, h3⟩
    exact ⟨by omega, h2, h3⟩

end Go.Proofs.Ytppbnodgnphaaaa
