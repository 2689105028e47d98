/-
  Plain facts on bits in bytes, with no program in them: the bits of a number in either order, the bytes that bits make, and how both grow by one bit.
-/
namespace Go.Proofs.Ytppbnodgnphaaaa.Mth

/-- The number whose bits below n are f's. -/
def mk (f : Nat → Bool) : Nat → Nat
  | 0 => 0
  | n + 1 => mk f n ||| ((f n).toNat <<< n)

theorem toNat_shift_testBit (b : Bool) (n r : Nat) : (b.toNat <<< n).testBit r = (b && decide (r = n)) := by
  rw [Nat.testBit_shiftLeft]
  cases b with
  | false => simp
  | true =>
    by_cases h : r = n
    · subst h; simp
    · by_cases h2 : n ≤ r
      · obtain ⟨d, hd⟩ : ∃ d, r - n = d + 1 := ⟨r - n - 1, by omega⟩
        simp [h, h2, hd, Nat.testBit_succ]
      · simp [h, h2]

theorem mk_testBit (f : Nat → Bool) (n r : Nat) : (mk f n).testBit r = (decide (r < n) && f r) := by
  induction n with
  | zero => simp [mk]
  | succ n ih =>
    rw [mk, Nat.testBit_or, ih, toNat_shift_testBit]
    by_cases h : r = n
    · subst h; simp
    · by_cases h2 : r < n
      · have : r < n + 1 := by omega
        simp [h, h2, this]
      · have : ¬ r < n + 1 := by omega
        simp [h, h2, this]

theorem mk_lt (f : Nat → Bool) (n : Nat) : mk f n < 2 ^ n := by
  apply Nat.lt_pow_two_of_testBit
  intro i hi
  rw [mk_testBit]
  have : ¬ i < n := by omega
  simp [this]

/-- Which power of 2 the i-th of n bits stands for. -/
def rk (high : Bool) (n i : Nat) : Nat := if high then n - 1 - i else i

theorem rk_lt {high : Bool} {n i : Nat} (h : i < n) : rk high n i < n := by unfold rk; split <;> omega
theorem rk_rk {high : Bool} {n i : Nat} (h : i < n) : rk high n (rk high n i) = i := by unfold rk; split <;> omega
theorem rk_inj {high : Bool} {n i j : Nat} (hi : i < n) (hj : j < n) (h : rk high n i = rk high n j) : i = j := by
  have := rk_rk (high := high) hi; rw [h, rk_rk hj] at this; omega

/-- The n bits of v, in an order. -/
def bitsOf (high : Bool) (v n : Nat) : List Bool := (List.range n).map fun i => v.testBit (rk high n i)

theorem bitsOf_length (high : Bool) (v n : Nat) : (bitsOf high v n).length = n := by simp [bitsOf]
theorem bitsOf_get (high : Bool) (v n i : Nat) (h : i < n) : (bitsOf high v n)[i]? = some (v.testBit (rk high n i)) := by
  simp [bitsOf, h]
theorem bitsOf_take_succ (high : Bool) (v n k : Nat) (h : k < n) :
    (bitsOf high v n).take (k + 1) = (bitsOf high v n).take k ++ [v.testBit (rk high n k)] := by
  rw [List.take_add_one, bitsOf_get _ _ _ _ h]; rfl

/-- The i-th byte of bits. -/
def octet (high : Bool) (L : List Bool) (i : Nat) : Nat := mk (fun r => L.getD (8 * i + rk high 8 r) false) 8

theorem octet_testBit (high : Bool) (L : List Bool) (i r : Nat) :
    (octet high L i).testBit r = (decide (r < 8) && L.getD (8 * i + rk high 8 r) false) := mk_testBit _ _ _

theorem octet_lt (high : Bool) (L : List Bool) (i : Nat) : octet high L i < 256 := mk_lt _ 8

/-- The bytes of bits, m of them. -/
def pk (high : Bool) (m : Nat) (L : List Bool) : List Nat := (List.range m).map (octet high L)

theorem pk_length (high : Bool) (m : Nat) (L : List Bool) : (pk high m L).length = m := by simp [pk]
theorem pk_get (high : Bool) (m : Nat) (L : List Bool) (i : Nat) (h : i < m) : (pk high m L)[i]? = some (octet high L i) := by simp [pk, h]

theorem getD_append_one (L : List Bool) (b : Bool) (j : Nat) :
    (L ++ [b]).getD j false = if j = L.length then b else L.getD j false := by
  simp only [List.getD_eq_getElem?_getD]
  by_cases h : j < L.length
  · have : j ≠ L.length := by omega
    simp [List.getElem?_append_left h, this]
  · by_cases h2 : j = L.length
    · subst h2; simp
    · have h3 : L.length < j := by omega
      rw [if_neg h2, List.getElem?_eq_none (l := L) (i := j) (by omega), List.getElem?_eq_none (by simp; omega)]

/-- One bit more: it is laid into the byte in which its place is. -/
theorem octet_append_at (high : Bool) (L : List Bool) (b : Bool) (i p : Nat) (hp : p < 8) (h : L.length = 8 * i + p) :
    octet high (L ++ [b]) i = octet high L i ||| (b.toNat <<< rk high 8 p) := by
  apply Nat.eq_of_testBit_eq
  intro r
  rw [Nat.testBit_or, octet_testBit, octet_testBit, toNat_shift_testBit, getD_append_one]
  by_cases h8 : r < 8
  · by_cases hr : r = rk high 8 p
    · subst hr
      rw [rk_rk hp, if_pos (by omega)]
      rw [List.getD_eq_getElem?_getD, List.getElem?_eq_none (l := L) (i := 8 * i + p) (by omega)]
      simp [h8]
    · have : 8 * i + rk high 8 r ≠ L.length := by
        intro e
        apply hr
        have e2 : rk high 8 r = p := by omega
        rw [← e2, rk_rk h8]
      rw [if_neg this]
      simp [hr]
  · have : r ≠ rk high 8 p := by have := rk_lt (high := high) hp; omega
    simp [h8, this]

theorem octet_append_other (high : Bool) (L : List Bool) (b : Bool) (i : Nat) (h : L.length < 8 * i ∨ 8 * i + 8 ≤ L.length) :
    octet high (L ++ [b]) i = octet high L i := by
  apply Nat.eq_of_testBit_eq
  intro r
  rw [octet_testBit, octet_testBit, getD_append_one]
  by_cases h8 : r < 8
  · have := rk_lt (high := high) h8
    rw [if_neg (by omega)]
  · simp [h8]

theorem octet_beyond (high : Bool) (L : List Bool) (i : Nat) (h : L.length ≤ 8 * i) : octet high L i = 0 := by
  apply Nat.eq_of_testBit_eq
  intro r
  rw [octet_testBit]
  simp [List.getElem?_eq_none (l := L) (i := 8 * i + rk high 8 r) (by omega)]

/-- A byte 0 more, where no bit stands in it yet. -/
theorem pk_succ_beyond (high : Bool) (L : List Bool) (m : Nat) (h : L.length ≤ 8 * m) : pk high (m + 1) L = pk high m L ++ [0] := by
  simp [pk, List.range_succ, octet_beyond high L m h]

theorem pk_append_one (high : Bool) (L : List Bool) (b : Bool) (i p : Nat) (hp : p < 8) (h : L.length = 8 * i + p) :
    pk high (i + 1) (L ++ [b]) = (pk high (i + 1) L).set i (octet high L i ||| (b.toNat <<< rk high 8 p)) := by
  apply List.ext_getElem?
  intro j
  by_cases hj : j < i + 1
  · by_cases e : j = i
    · subst e
      rw [pk_get _ _ _ _ hj, octet_append_at high L b j p hp h, List.getElem?_set_self (by rw [pk_length]; exact hj)]
    · rw [pk_get _ _ _ _ hj, List.getElem?_set_ne (by omega), pk_get _ _ _ _ hj, octet_append_other high L b j (by omega)]
  · rw [List.getElem?_eq_none (by rw [pk_length]; omega), List.getElem?_eq_none (by rw [List.length_set, pk_length]; omega)]

/-- A bit of a number, as the program takes it. -/
theorem shift_and_one (v k : Nat) : (v >>> k) % 256 % 2 = (v.testBit k).toNat := by
  rw [Nat.mod_mod_of_dvd _ (by decide : 2 ∣ 256)]
  rw [Nat.testBit_eq_decide_div_mod_eq, Nat.shiftRight_eq_div_pow]
  rcases Nat.mod_two_eq_zero_or_one (v / 2 ^ k) with h | h <;> simp [h]

/-- A number's bits are those of its parts: high first, the upper part ahead; low first, the lower part ahead. -/
theorem bitsOf_parts_high (v n k : Nat) (hk : k ≤ n) : bitsOf true (v / 2 ^ k) (n - k) ++ bitsOf true (v % 2 ^ k) k = bitsOf true v n := by
  apply List.ext_getElem?
  intro i
  by_cases h : i < n - k
  · rw [List.getElem?_append_left (by rw [bitsOf_length]; exact h), bitsOf_get _ _ _ _ h, bitsOf_get _ _ _ _ (by omega), Nat.testBit_div_two_pow]
    congr 2
    simp [rk]; omega
  · rw [List.getElem?_append_right (by rw [bitsOf_length]; omega), bitsOf_length]
    by_cases h2 : i < n
    · rw [bitsOf_get _ _ _ _ (by omega), bitsOf_get _ _ _ _ h2, Nat.testBit_mod_two_pow]
      have : rk true k (i - (n - k)) < k := rk_lt (by omega)
      simp only [this, decide_true, Bool.true_and]
      congr 2
      simp [rk]; omega
    · rw [List.getElem?_eq_none (by rw [bitsOf_length]; omega), List.getElem?_eq_none (by rw [bitsOf_length]; omega)]

theorem bitsOf_parts_low (v n k : Nat) (hk : k ≤ n) : bitsOf false (v % 2 ^ k) k ++ bitsOf false (v / 2 ^ k) (n - k) = bitsOf false v n := by
  apply List.ext_getElem?
  intro i
  by_cases h : i < k
  · rw [List.getElem?_append_left (by rw [bitsOf_length]; exact h), bitsOf_get _ _ _ _ h, bitsOf_get _ _ _ _ (by omega), Nat.testBit_mod_two_pow]
    simp [rk, h]
  · rw [List.getElem?_append_right (by rw [bitsOf_length]; omega), bitsOf_length]
    by_cases h2 : i < n
    · rw [bitsOf_get _ _ _ _ (by omega), bitsOf_get _ _ _ _ h2, Nat.testBit_div_two_pow]
      congr 2
      simp [rk]; omega
    · rw [List.getElem?_eq_none (by rw [bitsOf_length]; omega), List.getElem?_eq_none (by rw [bitsOf_length]; omega)]

/-- A number that is gathered bit by bit. -/
def acc (high : Bool) (n : Nat) (f : Nat → Bool) : Nat → Nat
  | 0 => 0
  | i + 1 => acc high n f i ||| ((f i).toNat <<< rk high n i)

theorem acc_testBit (high : Bool) (n : Nat) (f : Nat → Bool) (i r : Nat) (hi : i ≤ n) : (acc high n f i).testBit r = (decide (r < n) && (decide (rk high n r < i) && f (rk high n r))) := by
  induction i with
  | zero => simp [acc]
  | succ i ih =>
    rw [acc, Nat.testBit_or, ih (by omega), toNat_shift_testBit]
    by_cases hr : r < n
    · by_cases e : r = rk high n i
      · have e2 : rk high n r = i := by rw [e, rk_rk (by omega)]
        simp [hr, e2, ← e]
      · have e2 : rk high n r ≠ i := fun h => e (by rw [← h, rk_rk hr])
        by_cases h3 : rk high n r < i
        · have : rk high n r < i + 1 := by omega
          simp [hr, e, h3, this]
        · have : ¬ rk high n r < i + 1 := by omega
          simp [hr, e, h3, this]
    · have e : r ≠ rk high n i := by have := rk_lt (high := high) (show i < n by omega); omega
      simp [hr, e]

theorem acc_lt (high : Bool) (n : Nat) (f : Nat → Bool) (i : Nat) (hi : i ≤ n) : acc high n f i < 2 ^ n := by
  apply Nat.lt_pow_two_of_testBit
  intro j hj
  rw [acc_testBit _ _ _ _ _ hi]
  have : ¬ j < n := by omega
  simp [this]

/-- A bit of bytes. -/
def bitIn (high : Bool) (zs : List Nat) (i : Nat) : Bool := (zs.getD (i / 8) 0).testBit (rk high 8 (i % 8))

theorem bitIn_pk (high : Bool) (m : Nat) (L : List Bool) (i : Nat) (h : i < 8 * m) : bitIn high (pk high m L) i = L.getD i false := by
  have h1 : i / 8 < m := by omega
  have h2 : i % 8 < 8 := by omega
  unfold bitIn
  rw [List.getD_eq_getElem?_getD, pk_get _ _ _ _ h1, Option.getD_some, octet_testBit, rk_rk h2]
  have h3 := rk_lt (high := high) h2
  simp [h3, show 8 * (i / 8) + i % 8 = i by omega]

/-- The number of n bits from a place on. -/
def numAt (high : Bool) (n : Nat) (f : Nat → Bool) : Nat := acc high n f n

theorem numAt_bitsOf (high : Bool) (V n : Nat) (hV : V < 2 ^ n) (f : Nat → Bool) (h : ∀ i, i < n → f i = V.testBit (rk high n i)) : numAt high n f = V := by
  apply Nat.eq_of_testBit_eq
  intro r
  unfold numAt
  rw [acc_testBit _ _ _ _ _ (Nat.le_refl _)]
  by_cases hr : r < n
  · have h1 := rk_lt (high := high) hr
    rw [h _ h1, rk_rk hr]
    simp [hr, h1]
  · have : V.testBit r = false := Nat.testBit_lt_two_pow (Nat.lt_of_lt_of_le hV (Nat.pow_le_pow_right (by decide) (by omega)))
    simp [hr, this]

theorem shift_one (z k : Nat) : (z >>> k) % 2 = (z.testBit k).toNat := by
  rw [Nat.testBit_eq_decide_div_mod_eq, Nat.shiftRight_eq_div_pow]
  rcases Nat.mod_two_eq_zero_or_one (z / 2 ^ k) with h | h <;> simp [h]

end Go.Proofs.Ytppbnodgnphaaaa.Mth
