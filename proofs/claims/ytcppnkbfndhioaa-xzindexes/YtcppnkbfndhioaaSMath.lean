/- Registers whose bits fall out one by one: steps are linear, and eight of them are a table's row. -/
import Derived.KernelRfl
namespace Go.Proofs.Ytcppnkbfndhioaa.S

/-- f, n times -/
def it (f : Nat → Nat) : Nat → Nat → Nat
  | 0, x => x
  | n + 1, x => it f n (f x)

theorem it_succ (f : Nat → Nat) (n x : Nat) : it f (n + 1) x = f (it f n x) := by
  induction n generalizing x with
  | zero => rfl
  | succ n ih => rw [it, ih]; rfl

theorem it_add (f : Nat → Nat) (m n x : Nat) : it f (m + n) x = it f m (it f n x) := by
  induction n generalizing x with
  | zero => rfl
  | succ n ih => rw [← Nat.add_assoc, it, ih]; rfl

theorem it_mul (f : Nat → Nat) (m n x : Nat) : it f (m * n) x = it (it f m) n x := by
  induction n generalizing x with
  | zero => rfl
  | succ n ih => rw [Nat.mul_succ, it_add, ih, it]

def Lin (f : Nat → Nat) : Prop := ∀ a b, f (a ^^^ b) = f a ^^^ f b

theorem Lin.it {f : Nat → Nat} (h : Lin f) (n : Nat) : Lin (it f n) := by
  induction n with
  | zero => exact fun a b => rfl
  | succ n ih => intro a b; rw [Ytcppnkbfndhioaa.S.it, h, ih]; rfl

theorem Lin.zero {f : Nat → Nat} (h : Lin f) : f 0 = 0 := by
  have := h 0 0
  simpa using this

/-- a register through a bit 0, the lowest bit first -/
def lstep (p r : Nat) : Nat := if r % 2 = 1 then r / 2 ^^^ p else r / 2

theorem lstep_eq (p r : Nat) : lstep p r = r / 2 ^^^ (if r % 2 = 1 then p else 0) := by
  unfold lstep; split <;> simp

theorem lstep_lin (p : Nat) : Lin (lstep p) := by
  intro a b
  rw [lstep_eq, lstep_eq, lstep_eq]
  have h1 : (a ^^^ b) / 2 = a / 2 ^^^ b / 2 := Nat.xor_div_two
  have h2 : (a ^^^ b) % 2 = (a % 2 + b % 2) % 2 := by
    have := @Nat.xor_mod_two_eq_one a b
    omega
  rw [h1, h2]
  rcases Nat.mod_two_eq_zero_or_one a with ha | ha <;> rcases Nat.mod_two_eq_zero_or_one b with hb | hb <;> simp only [ha, hb]
  · simp
  · simp [Nat.xor_assoc]
  · simp; rw [Nat.xor_assoc, Nat.xor_assoc, Nat.xor_comm p]
  · simp
    rw [show a / 2 ^^^ p ^^^ (b / 2 ^^^ p) = a / 2 ^^^ b / 2 ^^^ (p ^^^ p) by rw [Nat.xor_assoc, Nat.xor_assoc, ← Nat.xor_assoc p, Nat.xor_comm p (b / 2), Nat.xor_assoc]]
    simp

theorem lstep_even (p y : Nat) : lstep p (2 * y) = y := by
  unfold lstep
  rw [if_neg (by omega)]
  omega

theorem lstep_pow (p y k : Nat) : it (lstep p) k (2 ^ k * y) = y := by
  induction k with
  | zero => simp [it]
  | succ k ih => rw [it, show 2 ^ (k + 1) * y = 2 * (2 ^ k * y) by rw [Nat.pow_succ, Nat.mul_comm (2 ^ k) 2, Nat.mul_assoc], lstep_even, ih]

theorem lstep_lt {p r w : Nat} (hp : p < 2 ^ w) (hr : r < 2 ^ w) : lstep p r < 2 ^ w := by
  unfold lstep
  split
  · exact Nat.xor_lt_two_pow (by omega) hp
  · omega

/-- a register through a bit 0, the highest of its 32 bits first -/
def hstep (p r : Nat) : Nat := (2 * r) % 4294967296 ^^^ (if r / 2147483648 % 2 = 1 then p else 0)

theorem hstep_lin (p : Nat) : Lin (hstep p) := by
  intro a b
  unfold hstep
  have h1 : 2 * (a ^^^ b) % 4294967296 = 2 * a % 4294967296 ^^^ 2 * b % 4294967296 := by
    have e : 2 * (a ^^^ b) = 2 * a ^^^ 2 * b := by
      have := @Nat.shiftLeft_xor_distrib 1 a b
      simpa [Nat.shiftLeft_eq, Nat.mul_comm] using this
    rw [e]
    exact Nat.xor_mod_two_pow (n := 32)
  have h2 : (a ^^^ b) / 2147483648 = a / 2147483648 ^^^ b / 2147483648 := by
    have := @Nat.shiftRight_xor_distrib 31 a b
    simpa [Nat.shiftRight_eq_div_pow] using this
  have h3 : (a / 2147483648 ^^^ b / 2147483648) % 2 = (a / 2147483648 % 2 + b / 2147483648 % 2) % 2 := by
    have := @Nat.xor_mod_two_eq_one (a / 2147483648) (b / 2147483648)
    omega
  rw [h1, h2, h3]
  generalize 2 * a % 4294967296 = A
  generalize 2 * b % 4294967296 = B
  rcases Nat.mod_two_eq_zero_or_one (a / 2147483648) with ha | ha <;> rcases Nat.mod_two_eq_zero_or_one (b / 2147483648) with hb | hb <;> simp only [ha, hb]
  · simp
  · simp [Nat.xor_assoc]
  · simp; rw [Nat.xor_assoc, Nat.xor_assoc, Nat.xor_comm p]
  · simp
    rw [show A ^^^ p ^^^ (B ^^^ p) = A ^^^ B ^^^ (p ^^^ p) by rw [Nat.xor_assoc, Nat.xor_assoc, ← Nat.xor_assoc p, Nat.xor_comm p B, Nat.xor_assoc]]
    simp

theorem hstep_lt {p r : Nat} (hp : p < 4294967296) : hstep p r < 4294967296 := by
  unfold hstep
  refine Nat.xor_lt_two_pow (n := 32) (by omega) ?_
  split <;> omega

/-- bytes behind a register -/
def crc (f : Nat → Nat) (s : Nat) (r : Nat) (zs : List Nat) : Nat := zs.foldl (fun r c => it f 8 (r ^^^ c * s)) r

/-! ### Bit by bit -/

/-- what the bits put in, one place further each time -/
def laid (e : Nat → Nat) (b : Nat → Nat) : Nat → Nat
  | 0 => 0
  | k + 1 => laid e b k ^^^ b k * e k

/-- a register through k bits -/
def thru (f : Nat → Nat) (e0 : Nat) (b : Nat → Nat) (r : Nat) : Nat → Nat
  | 0 => r
  | k + 1 => f (thru f e0 b r k ^^^ b k * e0)

theorem it_back {f : Nat → Nat} {e : Nat → Nat} {K : Nat} (he : ∀ j, j + 1 < K → f (e (j + 1)) = e j) : ∀ k, k < K → it f k (e k) = e 0
  | 0, _ => rfl
  | k + 1, h => by rw [it, he k h, it_back he k (by omega)]

theorem thru_eq {f : Nat → Nat} (hf : Lin f) {e : Nat → Nat} {K : Nat} (he : ∀ j, j + 1 < K → f (e (j + 1)) = e j) (b : Nat → Nat) (hb : ∀ j, b j = 0 ∨ b j = 1) (r : Nat) :
    ∀ k, k ≤ K → thru f (e 0) b r k = it f k (r ^^^ laid e b k)
  | 0, _ => by simp [thru, laid, it]
  | k + 1, h => by
    rw [thru, thru_eq hf he b hb r k (by omega), it_succ, laid, ← Nat.xor_assoc, hf.it k (r ^^^ laid e b k)]
    congr 2
    rcases hb k with h0 | h1
    · rw [h0]; simp [(hf.it k).zero]
    · rw [h1]; simp [it_back he k (by omega)]

theorem thru_congr {f : Nat → Nat} {e0 : Nat} {b b' : Nat → Nat} (h : ∀ j, b j = b' j) (r k : Nat) : thru f e0 b r k = thru f e0 b' r k := by
  induction k with
  | zero => rfl
  | succ k ih => rw [thru, thru, ih, h]

/-- a register through the first i bits of bytes -/
def rrun (f : Nat → Nat) (e0 : Nat) (bt : Nat → Nat → Nat) (zs : List Nat) (r : Nat) : Nat → Nat
  | 0 => r
  | i + 1 => f (rrun f e0 bt zs r i ^^^ bt (zs.getD (i / 8) 0) (i % 8) * e0)

theorem rrun_thru (f : Nat → Nat) (e0 : Nat) (bt : Nat → Nat → Nat) (zs : List Nat) (r k : Nat) : ∀ j, j ≤ 8 → rrun f e0 bt zs r (8 * k + j) = thru f e0 (bt (zs.getD k 0)) (rrun f e0 bt zs r (8 * k)) j
  | 0, _ => rfl
  | j + 1, h => by
    rw [← Nat.add_assoc, rrun, rrun_thru f e0 bt zs r k j (by omega), thru, show (8 * k + j) / 8 = k by omega, show (8 * k + j) % 8 = j by omega]

theorem rrun_crc {f : Nat → Nat} (hf : Lin f) {e : Nat → Nat} (he : ∀ j, j + 1 < 8 → f (e (j + 1)) = e j) {bt : Nat → Nat → Nat} (hb : ∀ c j, bt c j = 0 ∨ bt c j = 1) {s : Nat} (hl : ∀ c, c < 256 → laid e (bt c) 8 = c * s)
    (zs : List Nat) (hz : ∀ z ∈ zs, z < 256) (r : Nat) : ∀ k, k ≤ zs.length → rrun f (e 0) bt zs r (8 * k) = crc f s r (zs.take k)
  | 0, _ => by simp [rrun, crc]
  | k + 1, h => by
    have h1 := rrun_thru f (e 0) bt zs r k 8 (by omega)
    have hk : k < zs.length := by omega
    have hg : zs.getD k 0 = zs[k] := by simp [hk]
    rw [show 8 * (k + 1) = 8 * k + 8 by omega, h1, thru_eq hf he _ (hb _) _ 8 (by omega), hl _ (by rw [hg]; exact hz _ (List.getElem_mem hk)), rrun_crc hf he hb hl zs hz r k (by omega)]
    rw [List.take_succ_eq_append_getElem hk, crc, crc, List.foldl_append, hg]
    rfl

theorem rrun_all {f : Nat → Nat} (hf : Lin f) {e : Nat → Nat} (he : ∀ j, j + 1 < 8 → f (e (j + 1)) = e j) {bt : Nat → Nat → Nat} (hb : ∀ c j, bt c j = 0 ∨ bt c j = 1) {s : Nat} (hl : ∀ c, c < 256 → laid e (bt c) 8 = c * s)
    (zs : List Nat) (hz : ∀ z ∈ zs, z < 256) (r : Nat) : rrun f (e 0) bt zs r (8 * zs.length) = crc f s r zs := by
  rw [rrun_crc hf he hb hl zs hz r _ (Nat.le_refl _), List.take_length]

/-- the bits of a byte, the lowest first -/
def btl (c j : Nat) : Nat := c / 2 ^ j % 2
/-- the bits of a byte, the highest first -/
def bth (c j : Nat) : Nat := c / 2 ^ (7 - j) % 2

theorem laid_low : ∀ c, c < 256 → laid (fun j => 2 ^ j) (btl c) 8 = c * 1 := by decide +kernel
theorem laid_high : ∀ c, c < 256 → laid (fun j => 2 ^ (31 - j)) (bth c) 8 = c * 16777216 := by decide +kernel

theorem crc_low_bits (p : Nat) (zs : List Nat) (hz : ∀ z ∈ zs, z < 256) (r : Nat) : rrun (lstep p) 1 btl zs r (8 * zs.length) = crc (lstep p) 1 r zs :=
  rrun_all (lstep_lin p) (e := fun j => 2 ^ j) (fun j _ => by show lstep p (2 ^ (j + 1)) = 2 ^ j; rw [Nat.pow_succ, Nat.mul_comm, lstep_even]) (fun c j => by unfold btl; omega) laid_low zs hz r

theorem hstep_small {p y : Nat} (h : y < 2147483648) : hstep p y = 2 * y := by
  unfold hstep
  rw [if_neg (by omega)]
  simp
  omega

theorem crc_high_bits (p : Nat) (zs : List Nat) (hz : ∀ z ∈ zs, z < 256) (r : Nat) : rrun (hstep p) 2147483648 bth zs r (8 * zs.length) = crc (hstep p) 16777216 r zs :=
  rrun_all (hstep_lin p) (e := fun j => 2 ^ (31 - j)) (fun j hj => by
    show hstep p (2 ^ (31 - (j + 1))) = 2 ^ (31 - j)
    have : 2 ^ (31 - (j + 1)) < 2147483648 := Nat.pow_lt_pow_right (a := 2) (n := 31) (by omega) (by omega)
    rw [hstep_small this, show 31 - j = (31 - (j + 1)) + 1 by omega, Nat.pow_succ, Nat.mul_comm]) (fun c j => by unfold bth; omega) laid_high zs hz r

/-! ### By a table -/

theorem split_xor (r k : Nat) : r = 2 ^ k * (r / 2 ^ k) ^^^ r % 2 ^ k := by
  apply Nat.eq_of_testBit_eq
  intro i
  rw [Nat.testBit_xor, Nat.testBit_two_pow_mul, Nat.testBit_mod_two_pow, Nat.testBit_div_two_pow]
  by_cases h : k ≤ i
  · simp [h, show ¬ i < k by omega]
  · simp [h, show i < k by omega]

theorem low_row (p r c : Nat) : it (lstep p) 8 (r ^^^ c * 1) = r / 256 ^^^ it (lstep p) 8 (r % 256 ^^^ c) := by
  have h := split_xor r 8
  have h2 : r ^^^ c * 1 = 2 ^ 8 * (r / 2 ^ 8) ^^^ (r % 2 ^ 8 ^^^ c) := by
    rw [← Nat.xor_assoc, ← h, Nat.mul_one]
  rw [h2, (lstep_lin p).it 8, lstep_pow]

theorem hit_small {p : Nat} : ∀ (k y : Nat), y * 2 ^ k < 4294967296 → it (hstep p) k y = y * 2 ^ k
  | 0, y, _ => by simp [it]
  | k + 1, y, h => by
    have e : y * 2 ^ (k + 1) = (2 * y) * 2 ^ k := by rw [Nat.pow_succ, Nat.mul_comm (2 ^ k) 2, ← Nat.mul_assoc, Nat.mul_comm y 2]
    have hk : 0 < 2 ^ k := Nat.two_pow_pos k
    have hy : 2 * y < 4294967296 := by
      rw [e] at h
      exact Nat.lt_of_le_of_lt (Nat.le_mul_of_pos_right _ hk) h
    rw [it, hstep_small (by omega), hit_small k (2 * y) (by rw [← e]; exact h), e]

theorem xor_mul_pow (a b k : Nat) : (a ^^^ b) * 2 ^ k = a * 2 ^ k ^^^ b * 2 ^ k := by
  have := @Nat.shiftLeft_xor_distrib k a b
  simpa [Nat.shiftLeft_eq] using this

theorem high_row (p r c : Nat) : it (hstep p) 8 (r ^^^ c * 16777216) = (r * 256) % 4294967296 ^^^ it (hstep p) 8 ((r / 16777216 ^^^ c) * 16777216) := by
  have h := split_xor r 24
  have h2 : r ^^^ c * 16777216 = r % 2 ^ 24 ^^^ (r / 2 ^ 24 ^^^ c) * 2 ^ 24 := by
    rw [xor_mul_pow, ← Nat.xor_assoc, Nat.mul_comm (r / 2 ^ 24), Nat.xor_comm (r % 2 ^ 24), ← h]
  rw [h2, (hstep_lin p).it 8, hit_small 8 (r % 2 ^ 24) (by omega)]
  congr 1
  omega

/-- what a row of the table is: a sum of two rows -/
theorem low_sum (p i bit : Nat) (k : Nat) (hk : bit = 2 ^ k) (h : i % (2 * bit) = 0) : it (lstep p) 8 (i + bit) = it (lstep p) 8 i ^^^ it (lstep p) 8 bit := by
  rw [← (lstep_lin p).it 8]
  congr 1
  have := split_xor (i + bit) (k + 1)
  have e1 : (i + bit) % 2 ^ (k + 1) = bit := by
    have e2 : 2 ^ (k + 1) = 2 * bit := by rw [hk, Nat.pow_succ, Nat.mul_comm]
    have hp : 0 < bit := by rw [hk]; exact Nat.two_pow_pos k
    rw [e2, Nat.add_mod, h, Nat.zero_add, Nat.mod_mod, Nat.mod_eq_of_lt (by omega)]
  have e3 : 2 ^ (k + 1) * ((i + bit) / 2 ^ (k + 1)) = i := by
    have := Nat.div_add_mod (i + bit) (2 ^ (k + 1))
    rw [e1] at this
    omega
  rw [e1, e3] at this
  exact this

theorem low_unit (p k : Nat) (hk : k ≤ 8) : it (lstep p) 8 (2 ^ (8 - k)) = it (lstep p) k 1 := by
  have := it_add (lstep p) k (8 - k) (2 ^ (8 - k))
  rw [show k + (8 - k) = 8 by omega] at this
  rw [this]
  have h2 := lstep_pow p 1 (8 - k)
  rw [Nat.mul_one] at h2
  rw [h2]

theorem high_sum (p i k : Nat) (h : i < 2 ^ k) : it (hstep p) 8 ((2 ^ k + i) * 16777216) = it (hstep p) 8 (i * 16777216) ^^^ it (hstep p) 8 (2 ^ k * 16777216) := by
  rw [← (hstep_lin p).it 8]
  congr 1
  have := split_xor (2 ^ k + i) k
  have e1 : (2 ^ k + i) % 2 ^ k = i := by rw [Nat.add_mod_left, Nat.mod_eq_of_lt h]
  have e2 : (2 ^ k + i) / 2 ^ k = 1 := by rw [Nat.add_div_left _ (Nat.two_pow_pos k), Nat.div_eq_of_lt h]
  rw [e1, e2, Nat.mul_one, Nat.xor_comm] at this
  have h3 := xor_mul_pow i (2 ^ k) 24
  rw [← this] at h3
  exact h3

theorem high_unit (p k : Nat) (hk : k < 8) : it (hstep p) 8 (2 ^ k * 16777216) = it (hstep p) (k + 1) 2147483648 := by
  have := it_add (hstep p) (k + 1) (7 - k) (2 ^ k * 16777216)
  rw [show k + 1 + (7 - k) = 8 by omega] at this
  have e : 2 ^ k * 16777216 * 2 ^ (7 - k) = 2147483648 := by
    rw [Nat.mul_comm, ← Nat.mul_assoc, ← Nat.pow_add, show 7 - k + k = 7 by omega]
  rw [this, hit_small (7 - k) _ (by rw [e]; omega), e]

theorem it_lt {f : Nat → Nat} {B : Nat} (h : ∀ r, r < B → f r < B) : ∀ n r, r < B → it f n r < B
  | 0, _, hr => hr
  | n + 1, r, hr => it_lt h n _ (h r hr)

theorem crc_lt {f : Nat → Nat} {B k s : Nat} (hB : B = 2 ^ k) (h : ∀ r, r < B → f r < B) : ∀ (zs : List Nat), (∀ z ∈ zs, z * s < B) → ∀ r, r < B → crc f s r zs < B
  | [], _, r, hr => hr
  | z :: zs, hz, r, hr => by
    show crc f s (it f 8 (r ^^^ z * s)) zs < B
    refine crc_lt hB h zs (fun y hy => hz y (List.mem_cons_of_mem _ hy)) _ (it_lt h 8 _ ?_)
    subst hB
    exact Nat.xor_lt_two_pow hr (hz z (List.mem_cons_self ..))

end Go.Proofs.Ytcppnkbfndhioaa.S
