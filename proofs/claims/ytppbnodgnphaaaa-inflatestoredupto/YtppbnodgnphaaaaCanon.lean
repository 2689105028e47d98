/- Canonical prefix codes, by their lengths: the words' places in the 2^20 ways of 20 bits lie one behind the other. (For stage 4; it names no program.) -/
import Derived.KernelRfl
namespace Go.Proofs.Ytppbnodgnphaaaa.Canon

/-- how many symbols have words of length l -/
def cn (ls : List Nat) (l : Nat) : Nat := if l = 0 then 0 else ls.count l

/-- the first word of a length -/
def fst (ls : List Nat) : Nat → Nat
  | 0 => 0
  | l + 1 => (fst ls l + cn ls l) * 2

/-- the places that words shorter than l take -/
def kr (ls : List Nat) : Nat → Nat
  | 0 => 0
  | l + 1 => kr ls l + cn ls l * 2 ^ (20 - l)

theorem fst_kr (ls : List Nat) : ∀ l, l ≤ 20 → fst ls l * 2 ^ (20 - l) = kr ls l
  | 0, _ => by simp [fst, kr]
  | l + 1, h => by
    rw [fst, kr, ← fst_kr ls l (by omega), ← Nat.add_mul, Nat.mul_assoc, show 20 - l = (20 - (l + 1)) + 1 by omega, Nat.pow_succ, Nat.mul_comm (2 ^ (20 - (l + 1))) 2]

theorem kr_mono (ls : List Nat) {l m : Nat} (h : l ≤ m) : kr ls l ≤ kr ls m := by
  induction m with
  | zero => obtain rfl : l = 0 := by omega
            exact Nat.le_refl _
  | succ m ih =>
    by_cases e : l = m + 1
    · subst e; exact Nat.le_refl _
    · rw [kr]
      have := ih (by omega)
      omega

/-- the symbol's length -/
def ln (ls : List Nat) (i : Nat) : Nat := ls.getD i 0

/-- how many symbols ahead of it have its length -/
def rk (ls : List Nat) (i : Nat) : Nat := (ls.take i).count (ln ls i)

/-- its word -/
def wd (ls : List Nat) (i : Nat) : Nat := fst ls (ln ls i) + rk ls i

/-- the first place that begins with its word -/
def lo (ls : List Nat) (i : Nat) : Nat := wd ls i * 2 ^ (20 - ln ls i)

/-- symbol i has a word -/
def Has (ls : List Nat) (i : Nat) : Prop := i < ls.length ∧ 0 < ln ls i ∧ ln ls i ≤ 20

theorem take_succ_count (ls : List Nat) (i l : Nat) (h : i < ls.length) : (ls.take (i + 1)).count l = (ls.take i).count l + (if ln ls i = l then 1 else 0) := by
  rw [List.take_succ_eq_append_getElem h, List.count_append]
  have : ln ls i = ls[i] := by simp [ln, h]
  rw [this, List.count_singleton]
  by_cases e : ls[i] = l <;> simp [e]

theorem count_take_le (ls : List Nat) (l : Nat) {i j : Nat} (h : i ≤ j) : (ls.take i).count l ≤ (ls.take j).count l := by
  have : ls.take i = (ls.take j).take i := by rw [List.take_take, Nat.min_eq_left h]
  rw [this]
  exact (List.take_sublist _ _).count_le _

theorem rk_lt {ls : List Nat} {i : Nat} (h : Has ls i) : rk ls i < cn ls (ln ls i) := by
  obtain ⟨h1, h2, _⟩ := h
  rw [cn, if_neg (by omega)]
  have e := take_succ_count ls i (ln ls i) h1
  rw [if_pos rfl] at e
  have := count_take_le ls (ln ls i) (show i + 1 ≤ ls.length by omega)
  rw [List.take_length] at this
  rw [rk]
  omega

theorem lo_eq {ls : List Nat} {i : Nat} (h : Has ls i) : lo ls i = kr ls (ln ls i) + rk ls i * 2 ^ (20 - ln ls i) := by
  rw [lo, wd, Nat.add_mul, fst_kr ls _ h.2.2]

/-- the word's places end ahead of those of longer words -/
theorem hi_le {ls : List Nat} {i : Nat} (h : Has ls i) : lo ls i + 2 ^ (20 - ln ls i) ≤ kr ls (ln ls i + 1) := by
  rw [lo_eq h, kr]
  have := rk_lt h
  have h2 : (rk ls i + 1) * 2 ^ (20 - ln ls i) ≤ cn ls (ln ls i) * 2 ^ (20 - ln ls i) := Nat.mul_le_mul_right _ this
  rw [Nat.add_mul, Nat.one_mul] at h2
  omega

theorem apart {ls : List Nat} {i j : Nat} (hi : Has ls i) (hj : Has ls j) (h : ln ls i < ln ls j ∨ ln ls i = ln ls j ∧ i < j) : lo ls i + 2 ^ (20 - ln ls i) ≤ lo ls j := by
  rcases h with h | ⟨h, hij⟩
  · have h1 := hi_le hi
    have h2 := kr_mono ls (show ln ls i + 1 ≤ ln ls j by omega)
    rw [lo_eq hj]
    omega
  · rw [lo_eq hi, lo_eq hj, h]
    have e := take_succ_count ls i (ln ls i) hi.1
    rw [if_pos rfl] at e
    have h1 : rk ls i + 1 ≤ rk ls j := by
      have := count_take_le ls (ln ls i) (show i + 1 ≤ j by omega)
      rw [rk, rk, ← h]
      omega
    have h2 : (rk ls i + 1) * 2 ^ (20 - ln ls j) ≤ rk ls j * 2 ^ (20 - ln ls j) := Nat.mul_le_mul_right _ h1
    rw [Nat.add_mul, Nat.one_mul] at h2
    omega

/-- two words' places do not meet -/
theorem sole {ls : List Nat} {i j x : Nat} (hi : Has ls i) (hj : Has ls j) (h1 : lo ls i ≤ x ∧ x < lo ls i + 2 ^ (20 - ln ls i)) (h2 : lo ls j ≤ x ∧ x < lo ls j + 2 ^ (20 - ln ls j)) : i = j := by
  rcases Nat.lt_trichotomy (ln ls i) (ln ls j) with h | h | h
  · have := apart hi hj (.inl h); omega
  · rcases Nat.lt_trichotomy i j with e | e | e
    · have := apart hi hj (.inr ⟨h, e⟩); omega
    · exact e
    · have := apart hj hi (.inr ⟨h.symm, e⟩); omega
  · have := apart hj hi (.inl h); omega

/-- the q-th symbol of a length -/
theorem nth_of (l : Nat) : ∀ (ls : List Nat) (q : Nat), q < ls.count l → ∃ i, i < ls.length ∧ ls.getD i 0 = l ∧ (ls.take i).count l = q
  | [], q, h => by simp at h
  | x :: ls, q, h => by
    by_cases e : x = l
    · subst e
      rcases q with _ | q
      · exact ⟨0, by simp, by simp, by simp⟩
      · rw [List.count_cons_self] at h
        obtain ⟨i, h1, h2, h3⟩ := nth_of x ls q (by omega)
        exact ⟨i + 1, by simpa using h1, by simpa using h2, by simp [h3]⟩
    · rw [List.count_cons_of_ne (by exact e)] at h
      obtain ⟨i, h1, h2, h3⟩ := nth_of l ls q h
      exact ⟨i + 1, by simpa using h1, by simpa using h2, by rw [List.take_succ_cons, List.count_cons_of_ne (by exact e)]; exact h3⟩

/-- every place below the words' sum has its word -/
theorem cover (ls : List Nat) (x : Nat) : ∀ m, m ≤ 21 → x < kr ls m → ∃ i, Has ls i ∧ ln ls i < m ∧ lo ls i ≤ x ∧ x < lo ls i + 2 ^ (20 - ln ls i)
  | 0, _, h => by simp [kr] at h
  | m + 1, hm, h => by
    by_cases hx : x < kr ls m
    · obtain ⟨i, h1, h2, h3⟩ := cover ls x m (by omega) hx
      exact ⟨i, h1, by omega, h3⟩
    · rw [kr] at h
      have hp : 0 < 2 ^ (20 - m) := Nat.two_pow_pos _
      have hq : (x - kr ls m) / 2 ^ (20 - m) < cn ls m := by
        rw [Nat.div_lt_iff_lt_mul hp]
        generalize cn ls m * 2 ^ (20 - m) = P at h
        omega
      have hm0 : m ≠ 0 := by
        intro e
        rw [cn, if_pos e] at hq
        exact absurd hq (Nat.not_lt_zero _)
      rw [cn, if_neg hm0] at hq
      obtain ⟨i, h1, h2, h3⟩ := nth_of m ls _ hq
      have hl : ln ls i = m := h2
      have hh : Has ls i := ⟨h1, by omega, by omega⟩
      refine ⟨i, hh, by omega, ?_⟩
      rw [lo_eq hh, hl, rk, hl, h3]
      have hd := Nat.div_add_mod (x - kr ls m) (2 ^ (20 - m))
      have hr := Nat.mod_lt (x - kr ls m) hp
      rw [Nat.mul_comm] at hd
      omega

/-- the sum as the symbols are gone through -/
theorem kr_snoc (ls : List Nat) (x : Nat) : ∀ m, m ≤ 21 → kr (ls ++ [x]) m = kr ls m + (if 0 < x ∧ x < m then 2 ^ (20 - x) else 0)
  | 0, _ => by simp [kr]
  | m + 1, h => by
    rw [kr, kr, kr_snoc ls x m (by omega)]
    have hc : cn (ls ++ [x]) m = cn ls m + (if 0 < m ∧ x = m then 1 else 0) := by
      unfold cn
      by_cases h0 : m = 0
      · simp [h0]
      · rw [if_neg h0, if_neg h0, List.count_append, List.count_singleton]
        by_cases e : x = m
        · simp [e]; omega
        · simp [e]
    rw [hc, Nat.add_mul]
    by_cases e : x = m
    · subst e
      by_cases h0 : 0 < x
      · rw [if_neg (by omega), if_pos ⟨h0, rfl⟩, if_pos ⟨h0, by omega⟩]; omega
      · rw [if_neg (by omega), if_neg (by omega), if_neg (by omega)]; omega
    · rw [if_neg (show ¬ (0 < m ∧ x = m) by omega)]
      by_cases h1 : 0 < x ∧ x < m
      · rw [if_pos h1, if_pos (by omega)]; omega
      · rw [if_neg h1, if_neg (by omega)]; omega

/-- over-full: above 2^20; full: 2^20 -/
def sum (ls : List Nat) : Nat := kr ls 21

theorem sum_nil : sum [] = 0 := by simp [sum, kr, cn]

theorem sum_snoc (ls : List Nat) (x : Nat) (h : x ≤ 20) : sum (ls ++ [x]) = sum ls + (if 0 < x then 2 ^ (20 - x) else 0) := by
  rw [sum, kr_snoc ls x 21 (by omega), sum]
  by_cases h0 : 0 < x
  · rw [if_pos ⟨h0, by omega⟩, if_pos h0]
  · rw [if_neg (by omega), if_neg h0]

/-- a word has as many bits as its length says, where the code is not over-full -/
theorem wd_lt {ls : List Nat} {i : Nat} (h : Has ls i) (hs : sum ls ≤ 1048576) : wd ls i < 2 ^ ln ls i := by
  have h1 := hi_le h
  have h2 := kr_mono ls (show ln ls i + 1 ≤ 21 by have := h.2.2; omega)
  have h3 : (wd ls i + 1) * 2 ^ (20 - ln ls i) ≤ 2 ^ ln ls i * 2 ^ (20 - ln ls i) := by
    rw [← Nat.pow_add, show ln ls i + (20 - ln ls i) = 20 by have := h.2.2; omega, Nat.add_mul, Nat.one_mul]
    show lo ls i + _ ≤ 1048576
    unfold sum at hs
    omega
  exact Nat.le_of_mul_le_mul_right h3 (Nat.two_pow_pos _)

/-! ### Beginnings -/

/-- v, of n bits, begins with the word of i -/
theorem begins_iff {n l v b : Nat} (hl : l ≤ n) (hn : n ≤ 20) : v / 2 ^ (n - l) = b ↔ b * 2 ^ (20 - l) ≤ v * 2 ^ (20 - n) ∧ v * 2 ^ (20 - n) < b * 2 ^ (20 - l) + 2 ^ (20 - l) := by
  have e : 20 - l = (n - l) + (20 - n) := by omega
  have hp : 0 < 2 ^ (n - l) := Nat.two_pow_pos _
  have hq : 0 < 2 ^ (20 - n) := Nat.two_pow_pos _
  rw [e, Nat.pow_add, ← Nat.mul_assoc]
  have e2 : b * 2 ^ (n - l) * 2 ^ (20 - n) + 2 ^ (n - l) * 2 ^ (20 - n) = (b * 2 ^ (n - l) + 2 ^ (n - l)) * 2 ^ (20 - n) := by rw [Nat.add_mul]
  rw [e2, Nat.mul_le_mul_right_iff hq, Nat.mul_lt_mul_right hq]
  constructor
  · intro h
    have hd := Nat.div_add_mod v (2 ^ (n - l))
    have hr := Nat.mod_lt v hp
    rw [h, Nat.mul_comm] at hd
    omega
  · rintro ⟨h1, h2⟩
    refine Nat.div_eq_of_lt_le h1 ?_
    rw [Nat.add_mul, Nat.one_mul]
    exact h2

/-- no word begins with another one -/
theorem free {ls : List Nat} {i j : Nat} (hi : Has ls i) (hj : Has ls j) (hl : ln ls i ≤ ln ls j) (h : wd ls j / 2 ^ (ln ls j - ln ls i) = wd ls i) : i = j := by
  have h2 := (begins_iff hl hj.2.2).1 h
  have hp : 0 < 2 ^ (20 - ln ls j) := Nat.two_pow_pos _
  exact sole hi hj (x := lo ls j) ⟨h2.1, h2.2⟩ ⟨Nat.le_refl _, by omega⟩

/-- of a full code: whatever n bits are, a word is their beginning, or they are that of a word that is longer -/
theorem full_reads {ls : List Nat} (hs : sum ls = 1048576) {n v : Nat} (hn : n ≤ 20) (hv : v < 2 ^ n) :
    (∃ i, Has ls i ∧ ln ls i ≤ n ∧ v / 2 ^ (n - ln ls i) = wd ls i) ∨ (∃ i, Has ls i ∧ n < ln ls i ∧ wd ls i / 2 ^ (ln ls i - n) = v) := by
  have hq : 0 < 2 ^ (20 - n) := Nat.two_pow_pos _
  have hx : v * 2 ^ (20 - n) < kr ls 21 := by
    show _ < sum ls
    rw [hs, show 1048576 = 2 ^ n * 2 ^ (20 - n) by rw [← Nat.pow_add, show n + (20 - n) = 20 by omega]]
    exact Nat.mul_lt_mul_of_pos_right hv hq
  obtain ⟨i, hh, _, h1, h2⟩ := cover ls _ 21 (by omega) hx
  by_cases hl : ln ls i ≤ n
  · exact .inl ⟨i, hh, hl, (begins_iff hl hn).2 ⟨h1, h2⟩⟩
  · refine .inr ⟨i, hh, by omega, ?_⟩
    have hl20 := hh.2.2
    -- the word's first place is just v's
    have e : 20 - n = (ln ls i - n) + (20 - ln ls i) := by omega
    have hp : 0 < 2 ^ (20 - ln ls i) := Nat.two_pow_pos _
    have h3 : v * 2 ^ (ln ls i - n) = wd ls i := by
      rw [e, Nat.pow_add, ← Nat.mul_assoc] at h1 h2
      unfold lo at h1 h2
      have a1 := Nat.le_of_mul_le_mul_right h1 hp
      have e2 : wd ls i * 2 ^ (20 - ln ls i) + 2 ^ (20 - ln ls i) = (wd ls i + 1) * 2 ^ (20 - ln ls i) := by rw [Nat.add_mul, Nat.one_mul]
      rw [e2] at h2
      have a2 := Nat.lt_of_mul_lt_mul_right h2
      omega
    rw [← h3, Nat.mul_div_cancel _ (Nat.two_pow_pos _)]

end Go.Proofs.Ytppbnodgnphaaaa.Canon
