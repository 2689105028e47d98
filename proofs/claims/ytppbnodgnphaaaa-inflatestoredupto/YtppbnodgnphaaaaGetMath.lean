/- What is got by a code, of any bits. It names no program. -/
import Derived.Test.YtppbnodgnphaaaaTrie
namespace Go.Proofs.Ytppbnodgnphaaaa

/-- the first n bits, behind a 1 -/
def kf (f : Nat → Bool) : Nat → Nat
  | 0 => 1
  | n + 1 => 2 * kf f n + (f n).toNat

theorem kf_pos (f : Nat → Bool) : ∀ n, 1 ≤ kf f n
  | 0 => Nat.le_refl _
  | n + 1 => by have := kf_pos f n; rw [kf]; omega

theorem kf_two (f : Nat → Bool) (n : Nat) (h : 1 ≤ n) : 2 ≤ kf f n := by
  obtain ⟨m, rfl⟩ : ∃ m, n = m + 1 := ⟨n - 1, by omega⟩
  have := kf_pos f m
  rw [kf]; omega

/-- a word's beginning that is no word -/
def Pre (ls : List Nat) (k : Nat) : Prop := Beg ls ls.length k ∧ ∀ i, ¬ Wrd ls ls.length i k

/-- what is got of the bits f, m of them there: a symbol, how many bits were read, an error -/
def GetIs (ls : List Nat) (f : Nat → Bool) (m : Nat) (s n e : Nat) : Prop :=
  n ≤ m ∧ (∀ j, 1 ≤ j → j < n → Pre ls (kf f j)) ∧
  ((e = 0 ∧ 1 ≤ n ∧ Wrd ls ls.length s (kf f n)) ∨ (e = 11 ∧ s = 0 ∧ 1 ≤ n ∧ ¬ Beg ls ls.length (kf f n)) ∨ (e = 10 ∧ s = 0 ∧ n = m ∧ (1 ≤ n → Pre ls (kf f n))))

theorem Wrd.beg {ls : List Nat} {i k : Nat} (h : Wrd ls ls.length i k) : Beg ls ls.length k := .inr ⟨i, h.1, h.2.1, 0, by omega, by rw [← h.2.2]; simp⟩

theorem Wrd.one {ls : List Nat} (hg : Good ls) {i j k : Nat} (h : Wrd ls ls.length i k) (h' : Wrd ls ls.length j k) : i = j := by
  have := hg.free (d := 0) h.1 h.2.1 h'.1 h'.2.1 (by omega) (by rw [h.2.2, Nat.pow_zero, Nat.div_one, h'.2.2])
  exact this.1

theorem GetIs.stop {ls : List Nat} {f : Nat → Bool} {m s n e s' n' e' : Nat} (h : GetIs ls f m s n e) (h' : GetIs ls f m s' n' e') : ¬ n < n' := by
  intro hlt
  obtain ⟨h1, _, h3⟩ := h
  obtain ⟨k1, k2, _⟩ := h'
  rcases h3 with ⟨_, hn, hw⟩ | ⟨_, _, hn, hb⟩ | ⟨_, _, hn, _⟩
  · exact (k2 n hn hlt).2 _ hw
  · exact hb (k2 n hn hlt).1
  · omega

theorem GetIs.one {ls : List Nat} (hg : Good ls) {f : Nat → Bool} {m s n e s' n' e' : Nat} (h : GetIs ls f m s n e) (h' : GetIs ls f m s' n' e') : s = s' ∧ n = n' ∧ e = e' := by
  have hn : n = n' := by have := h.stop h'; have := h'.stop h; omega
  subst hn
  have r := h.2.2
  have r' := h'.2.2
  rcases r with ⟨rfl, q1, q2⟩ | ⟨rfl, rfl, q1, q2⟩ | ⟨rfl, rfl, q1, q2⟩ <;> rcases r' with ⟨rfl, p1, p2⟩ | ⟨rfl, rfl, p1, p2⟩ | ⟨rfl, rfl, p1, p2⟩
  · exact ⟨q2.one hg p2, rfl, rfl⟩
  · exact absurd q2.beg p2
  · exact absurd q2 ((p2 q1).2 _)
  · exact absurd p2.beg q2
  · exact ⟨rfl, rfl, rfl⟩
  · exact absurd (p2 q1).1 q2
  · exact absurd p2 ((q2 p1).2 _)
  · exact absurd (q2 p1).1 p2
  · exact ⟨rfl, rfl, rfl⟩

/-- nothing that is no beginning goes on to one -/
theorem Beg.half {ls : List Nat} {k : Nat} (h : Beg ls ls.length k) (h2 : 2 ≤ k) (hg : Good ls) : Beg ls ls.length (k / 2) := by
  rcases h with rfl | ⟨i, h1, h2', d, h3, h4⟩
  · omega
  · by_cases e : d + 1 ≤ Canon.ln ls i
    · exact .inr ⟨i, h1, h2', d + 1, e, by rw [← div_div_succ, h4]⟩
    · obtain rfl : d = Canon.ln ls i := by omega
      rw [key_top (Canon.wd_lt (hg.has h1 h2') hg.sum)] at h4
      omega

/-- a beginning that is no word goes on -/
theorem Pre.child {ls : List Nat} {k : Nat} (hg : Good ls) (h : Pre ls k) (hne : k = 1 → ∃ i, i < ls.length ∧ 0 < Canon.ln ls i) : ∃ b, b ≤ 1 ∧ Beg ls ls.length (2 * k + b) := by
  obtain ⟨hb, hw⟩ := h
  have core : ∀ i, i < ls.length → 0 < Canon.ln ls i → ∀ d, d ≤ Canon.ln ls i → key ls i / 2 ^ d = k → ∃ b, b ≤ 1 ∧ Beg ls ls.length (2 * k + b) := by
    intro i h1 h2 d h3 h4
    rcases d with _ | d
    · exact absurd ⟨h1, h2, by simpa using h4⟩ (hw i)
    · refine ⟨key ls i / 2 ^ d % 2, by omega, .inr ⟨i, h1, h2, d, by omega, ?_⟩⟩
      have := div_div_succ (key ls i) d
      rw [h4] at this
      omega
  rcases hb with rfl | ⟨i, h1, h2, d, h3, h4⟩
  · obtain ⟨i, h1, h2⟩ := hne rfl
    exact core i h1 h2 _ (Nat.le_refl _) (key_top (Canon.wd_lt (hg.has h1 h2) hg.sum))
  · exact core i h1 h2 d h3 h4

/-- the bits of a number, one by one -/
theorem kf_eq (f : Nat → Bool) (W N : Nat) (hW : W < 2 ^ N) (h : ∀ j, j < N → f j = W.testBit (N - 1 - j)) : ∀ n, n ≤ N → kf f n = (2 ^ N + W) / 2 ^ (N - n)
  | 0, _ => by rw [kf, Nat.sub_zero, key_div (Nat.le_refl _), Nat.sub_self, Nat.div_eq_of_lt hW]
  | n + 1, hn => by
    rw [kf, kf_eq f W N hW h n (by omega), h n (by omega), key_div (by omega), key_div (by omega)]
    have e1 : N - n = (N - (n + 1)) + 1 := by omega
    have e2 := div_div_succ W (N - (n + 1))
    have e3 : (W.testBit (N - 1 - n)).toNat = W / 2 ^ (N - (n + 1)) % 2 := by
      rw [show N - 1 - n = N - (n + 1) by omega, Nat.testBit_eq_decide_div_mod_eq]
      have : W / 2 ^ (N - (n + 1)) % 2 < 2 := Nat.mod_lt _ (by omega)
      by_cases e : W / 2 ^ (N - (n + 1)) % 2 = 1
      · simp [e]
      · simp [e]; omega
    rw [e3, e1, ← e2, show N - (N - (n + 1) + 1) = n by omega, show N - (N - (n + 1)) = n + 1 by omega, Nat.pow_succ]
    omega

/-- a word that stands there is got -/
theorem GetIs.word {ls : List Nat} (hg : Good ls) {f : Nat → Bool} {m i : Nat} (hi : i < ls.length) (h0 : 0 < Canon.ln ls i) (hm : Canon.ln ls i ≤ m) (h : ∀ j, j < Canon.ln ls i → f j = (Canon.wd ls i).testBit (Canon.ln ls i - 1 - j)) :
    GetIs ls f m i (Canon.ln ls i) 0 := by
  have hw := Canon.wd_lt (hg.has hi h0) hg.sum
  have hk := kf_eq f (Canon.wd ls i) (Canon.ln ls i) hw h
  refine ⟨hm, fun j h1 h2 => ⟨?_, fun s hs => ?_⟩, .inl ⟨rfl, h0, hi, h0, ?_⟩⟩
  · exact .inr ⟨i, hi, h0, Canon.ln ls i - j, by omega, by rw [hk j (by omega)]; rfl⟩
  · have e : key ls i / 2 ^ (Canon.ln ls i - j) = key ls s := by rw [hs.2.2, hk j (by omega)]; rfl
    have := hg.free hs.1 hs.2.1 hi h0 (by omega) e
    omega
  · rw [hk _ (Nat.le_refl _), Nat.sub_self]; simp [key]

/-- as numbers: kf is a 1 and its n bits -/
def vf (f : Nat → Bool) : Nat → Nat
  | 0 => 0
  | n + 1 => 2 * vf f n + (f n).toNat

theorem kf_vf (f : Nat → Bool) : ∀ n, kf f n = 2 ^ n + vf f n ∧ vf f n < 2 ^ n
  | 0 => ⟨rfl, by simp [vf]⟩
  | n + 1 => by
    obtain ⟨h1, h2⟩ := kf_vf f n
    have := Bool.toNat_le (f n)
    rw [kf, vf, h1, Nat.pow_succ]
    omega

/-- of a full code any bits go on -/
theorem full_beg {ls : List Nat} (hg : Good ls) (hs : Canon.sum ls = 1048576) (f : Nat → Bool) (n : Nat) (h1 : 1 ≤ n) (hp : ∀ j, 1 ≤ j → j < n → Pre ls (kf f j)) : Beg ls ls.length (kf f n) := by
  obtain ⟨hk, hv⟩ := kf_vf f n
  have hn : n ≤ 20 := by
    rcases Nat.lt_or_ge 20 n with hlt | hge
    · obtain ⟨hb, hw⟩ := hp (n - 1) (by omega) (by omega)
      obtain ⟨hk', hv'⟩ := kf_vf f (n - 1)
      rcases hb with e | ⟨i, hi, h0, d, hd, e⟩
      · have := kf_two f (n - 1) (by omega); omega
      · have hh := hg.has hi h0
        have hwd := Canon.wd_lt hh hg.sum
        rw [key, key_div hd] at e
        have hq : Canon.wd ls i / 2 ^ d < 2 ^ (Canon.ln ls i - d) := by
          rw [Nat.div_lt_iff_lt_mul (Nat.two_pow_pos _), ← Nat.pow_add, show Canon.ln ls i - d + d = Canon.ln ls i by omega]
          exact hwd
        rw [hk'] at e
        obtain ⟨e1, _⟩ := pow_between hq hv' e
        have hd0 : d = 0 := by have := hh.2.2; omega
        subst hd0
        exfalso
        refine hw i ⟨hi, h0, ?_⟩
        rw [hk', ← e, key]; simp
    · exact hge
  rcases Canon.full_reads hs hn hv with ⟨i, hh, hl, e⟩ | ⟨i, hh, hl, e⟩
  · have hwd := Canon.wd_lt hh hg.sum
    have ek : kf f n / 2 ^ (n - Canon.ln ls i) = key ls i := by
      rw [hk, key_div (by omega), show n - (n - Canon.ln ls i) = Canon.ln ls i by omega, e, key]
    by_cases e0 : Canon.ln ls i = n
    · rw [e0, Nat.sub_self, Nat.pow_zero, Nat.div_one] at ek
      exact Wrd.beg ⟨hh.1, hh.2.1, ek.symm⟩
    · -- a word that stood there ahead of n
      have hkj : ∀ d, d ≤ n → kf f (n - d) = kf f n / 2 ^ d := by
        intro d
        induction d with
        | zero => intro _; simp
        | succ d ih =>
          intro hd
          rw [← div_div_succ, ← ih (by omega)]
          have : n - d = (n - (d + 1)) + 1 := by omega
          rw [this, kf]
          have := Bool.toNat_le (f (n - (d + 1)))
          omega
      have h3 := hkj (n - Canon.ln ls i) (by omega)
      rw [show n - (n - Canon.ln ls i) = Canon.ln ls i by omega, ek] at h3
      exact absurd ⟨hh.1, hh.2.1, h3.symm⟩ ((hp (Canon.ln ls i) hh.2.1 (by omega)).2 i)
  · have hwd := Canon.wd_lt hh hg.sum
    refine .inr ⟨i, hh.1, hh.2.1, Canon.ln ls i - n, by omega, ?_⟩
    rw [key, key_div (by omega), e, hk, show Canon.ln ls i - (Canon.ln ls i - n) = n by omega]

end Go.Proofs.Ytppbnodgnphaaaa
