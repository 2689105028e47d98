/- Products of registers are powers of a step, and a linear map is known by where the single bits go. -/
import Derived.Test.YtnijllkafakoiaaMath
namespace Go.Proofs.Ytnijllkafakoiaa

def osum (g : Nat → Nat) (b : Nat → Bool) : Nat → Nat
  | 0 => 0
  | n + 1 => osum g b n ^^^ (if b n then g n else 0)

theorem osum_congr {g g' : Nat → Nat} {b b' : Nat → Bool} : ∀ n, (∀ i, i < n → g i = g' i) → (∀ i, i < n → b i = b' i) → osum g b n = osum g' b' n
  | 0, _, _ => rfl
  | n + 1, h1, h2 => by rw [osum, osum, osum_congr n (fun i hi => h1 i (by omega)) (fun i hi => h2 i (by omega)), h1 n (by omega), h2 n (by omega)]

theorem osum_lin {f : Nat → Nat} (hf : Lin f) (g : Nat → Nat) (b : Nat → Bool) : ∀ n, f (osum g b n) = osum (fun i => f (g i)) b n
  | 0 => hf.zero
  | n + 1 => by
    rw [osum, osum, hf, osum_lin hf g b n]
    by_cases h : b n <;> simp [h, hf.zero]

theorem xor_four (a b c d : Nat) : a ^^^ b ^^^ (c ^^^ d) = a ^^^ c ^^^ (b ^^^ d) := by
  rw [Nat.xor_assoc, Nat.xor_assoc, ← Nat.xor_assoc b, Nat.xor_comm b c, Nat.xor_assoc]

theorem osum_xor (g : Nat → Nat) (b b' : Nat → Bool) : ∀ n, osum g (fun i => b i != b' i) n = osum g b n ^^^ osum g b' n
  | 0 => by simp [osum]
  | n + 1 => by
    rw [osum, osum, osum, osum_xor g b b' n, xor_four]
    congr 1
    cases b n <;> cases b' n <;> simp

theorem osum_add (g g' : Nat → Nat) (b : Nat → Bool) : ∀ n, osum (fun i => g i ^^^ g' i) b n = osum g b n ^^^ osum g' b n
  | 0 => by simp [osum]
  | n + 1 => by
    rw [osum, osum, osum, osum_add g g' b n, xor_four]
    congr 1
    cases b n <;> simp

theorem osum_shift (g : Nat → Nat) (b : Nat → Bool) : ∀ n, osum g b (n + 1) = (if b 0 then g 0 else 0) ^^^ osum (fun i => g (i + 1)) (fun i => b (i + 1)) n
  | 0 => by simp [osum]
  | n + 1 => by rw [osum, osum_shift g b n, osum, Nat.xor_assoc]

theorem osum_none (g : Nat → Nat) (b : Nat → Bool) : ∀ n, (∀ i, i < n → b i = false) → osum g b n = 0
  | 0, _ => rfl
  | n + 1, h => by rw [osum, osum_none g b n (fun i hi => h i (by omega)), h n (by omega)]; simp

/-- a linear map is known by where the single bits go -/
theorem span {f : Nat → Nat} (hf : Lin f) : ∀ (n r : Nat), r < 2 ^ n → osum (fun i => f (2 ^ i)) r.testBit n = f r
  | 0, r, h => by
    have : r = 0 := by simp at h; omega
    subst this
    exact hf.zero.symm
  | n + 1, r, h => by
    have hs := split_xor r n
    have e : osum (fun i => f (2 ^ i)) r.testBit n = f (r % 2 ^ n) := by
      rw [← span hf n (r % 2 ^ n) (Nat.mod_lt _ (Nat.two_pow_pos n))]
      exact osum_congr n (fun _ _ => rfl) (fun i hi => by rw [Nat.testBit_mod_two_pow]; simp [hi])
    rw [osum, e]
    have hq : r / 2 ^ n = 0 ∨ r / 2 ^ n = 1 := by
      have : r / 2 ^ n < 2 := by
        rw [Nat.pow_succ, Nat.mul_comm] at h
        exact (Nat.div_lt_iff_lt_mul (Nat.two_pow_pos n)).2 h
      generalize r / 2 ^ n = q at this
      omega
    have ht : r.testBit n = decide (r / 2 ^ n = 1) := by
      have := @Nat.testBit_div_two_pow n r 0
      rw [Nat.zero_add] at this
      rw [← this, Nat.testBit_zero]
      rcases hq with h | h <;> rw [h] <;> rfl
    rcases hq with h | h
    · rw [ht, h]
      rw [h] at hs
      simp at hs ⊢
      rw [← hs]
    · rw [ht, h]
      rw [h, Nat.mul_one] at hs
      simp
      rw [← hf, Nat.xor_comm, ← hs]

/-- two registers, multiplied: its first j bits -/
def prod (f : Nat → Nat) (a b j : Nat) : Nat := osum (fun i => it f i a) (fun i => b.testBit (31 - i)) j

theorem prod_lin (f : Nat → Nat) (a b b' j : Nat) : prod f a (b ^^^ b') j = prod f a b j ^^^ prod f a b' j := by
  rw [prod, prod, prod, ← osum_xor]
  exact osum_congr j (fun _ _ => rfl) (fun i _ => by rw [Nat.testBit_xor])

theorem prod_lin' {f : Nat → Nat} (hf : Lin f) (b j : Nat) : Lin (fun a => prod f a b j) := by
  intro a a'
  show prod f (a ^^^ a') b j = prod f a b j ^^^ prod f a' b j
  rw [prod, prod, prod, ← osum_add]
  exact osum_congr j (fun i _ => hf.it i a a') (fun _ _ => rfl)

theorem prod_top (f : Nat → Nat) (a : Nat) : prod f a 2147483648 32 = a := by
  rw [prod, osum_shift, osum_none _ _ 31 (fun i hi => by
    show Nat.testBit (2 ^ 31) (31 - (i + 1)) = false
    rw [Nat.testBit_two_pow]; simp; omega)]
  rw [show Nat.testBit 2147483648 (31 - 0) = true from by decide]
  simp [it]

theorem prod_half {f : Nat → Nat} (hf : Lin f) (a b : Nat) (hb : b < 4294967296) : prod f a (b / 2) 32 = f (prod f a b 31) := by
  rw [prod, osum_shift, prod, osum_lin hf]
  have h0 : Nat.testBit (b / 2) (31 - 0) = false := by
    apply Nat.testBit_lt_two_pow
    show b / 2 < 2147483648
    omega
  rw [h0]
  simp only [Bool.false_eq_true, if_false, Nat.zero_xor]
  refine osum_congr 31 (fun i _ => it_succ f i a) (fun i hi => ?_)
  have := @Nat.testBit_div_two_pow 1 b (31 - (i + 1))
  rw [show 31 - (i + 1) + 1 = 31 - i by omega] at this
  exact this

theorem poly_low : ∀ k, k < 32 → prod (lstep 3988292384) (2 ^ k) 3988292384 32 = it (lstep 3988292384) 32 (2 ^ k) := by decide +kernel

theorem prod_poly (a : Nat) (ha : a < 4294967296) : prod (lstep 3988292384) a 3988292384 32 = it (lstep 3988292384) 32 a := by
  have h1 := span (prod_lin' (lstep_lin 3988292384) 3988292384 32) 32 a ha
  have h2 := span ((lstep_lin 3988292384).it 32) 32 a ha
  rw [← h1, ← h2]
  exact osum_congr 32 (fun i hi => poly_low i hi) (fun _ _ => rfl)

theorem prod_step (a b : Nat) (ha : a < 4294967296) (hb : b < 4294967296) : prod (lstep 3988292384) a (lstep 3988292384 b) 32 = lstep 3988292384 (prod (lstep 3988292384) a b 32) := by
  rw [lstep_eq 3988292384 b, prod_lin, prod_half (lstep_lin _) a b hb]
  have h : prod (lstep 3988292384) a b 32 = prod (lstep 3988292384) a b 31 ^^^ (if b.testBit 0 then it (lstep 3988292384) 31 a else 0) := rfl
  rw [h, lstep_lin 3988292384 (prod _ a b 31)]
  congr 1
  rw [Nat.testBit_zero]
  by_cases ho : b % 2 = 1
  · rw [if_pos ho, prod_poly a ha]
    simp [ho, it_succ (lstep 3988292384) 31 a]
  · have : prod (lstep 3988292384) a 0 32 = 0 := osum_none _ _ _ (fun i _ => by simp)
    rw [if_neg ho, this]
    simp [ho, (lstep_lin 3988292384).zero]

theorem prod_pow (a m : Nat) (ha : a < 4294967296) : prod (lstep 3988292384) a (it (lstep 3988292384) m 2147483648) 32 = it (lstep 3988292384) m a := by
  induction m with
  | zero => exact prod_top _ a
  | succ m ih =>
    rw [it_succ, it_succ, prod_step a _ ha (it_lt (fun r hr => lstep_lt (w := 32) (by decide) hr) m _ (by omega)), ih]

/-- what is left where the rest of the bits are 0 -/
theorem prod_rest (f : Nat → Nat) (a b j : Nat) (hb : b * 2 ^ j % 4294967296 = 0) (hj : j ≤ 32) : prod f a b 32 = prod f a b j := by
  have hz : ∀ i, j ≤ i → i < 32 → b.testBit (31 - i) = false := fun i h1 h2 => by
    have h3 : Nat.testBit (b * 2 ^ j % 2 ^ 32) (31 - i + j) = false := by rw [show b * 2 ^ j % 2 ^ 32 = 0 from hb]; simp
    rw [Nat.testBit_mod_two_pow, Nat.testBit_mul_two_pow] at h3
    simp at h3
    exact h3 (by omega)
  have : ∀ d, j + d ≤ 32 → prod f a b (j + d) = prod f a b j := fun d => by
    induction d with
    | zero => intro _; rfl
    | succ d ih =>
      intro h
      have := ih (by omega)
      rw [← Nat.add_assoc]
      show osum _ _ (j + d + 1) = _
      rw [osum, hz (j + d) (by omega) (by omega)]
      simpa [prod] using this
  have h := this (32 - j) (by omega)
  rwa [show j + (32 - j) = 32 by omega] at h

/-- Join's answer -/
def joined (a b n : Nat) : Nat := it (lstep 3988292384) (8 * n) a ^^^ b

end Go.Proofs.Ytnijllkafakoiaa
