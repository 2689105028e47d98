/-
  Digits: what is told of a number is read back, and the document's own way of reading gives the same.
-/
import Derived.Lib.AtoiAll
import Derived.Lib.ItoaNum
import Derived.RowKit
namespace Go.Proofs.YtbefokclbcdmhaaDoor
open Go.Lib Go.RowKit

theorem parse_append : ∀ (l r : List UInt8) (acc a : Nat), parseUint10 acc l = .ok a → parseUint10 acc (l ++ r) = parseUint10 a r
  | [], r, acc, a, h => by simp only [parseUint10] at h; injection h with h; rw [h]; rfl
  | c :: l, r, acc, a, h => by
    simp only [parseUint10] at h
    rw [List.cons_append, parseUint10]
    split at h
    · rename_i h1
      rw [if_pos h1]
      split at h
      · cases h
      · rename_i h2
        rw [if_neg h2]
        split at h
        · cases h
        · rename_i h3
          rw [if_neg h3]
          exact parse_append l r _ a h
    · cases h

theorem ofNat_digit (d : Nat) (h : d < 10) : (UInt8.ofNat (48 + d)).toNat = 48 + d := by
  simp [UInt8.toNat_ofNat']
  omega

theorem dec_digit (u : Nat) : ∀ c ∈ decDigits u, 48 ≤ c.toNat ∧ c.toNat ≤ 57 := by
  induction u using Nat.strongRecOn with
  | _ u ih =>
    intro c hc
    by_cases h : u < 10
    · rw [decDigits, dif_pos h] at hc
      simp only [List.mem_singleton] at hc
      rw [hc, ofNat_digit u h]; omega
    · rw [decDigits, dif_neg h] at hc
      rcases List.mem_append.1 hc with h1 | h1
      · exact ih (u / 10) (by omega) c h1
      · simp only [List.mem_singleton] at h1
        rw [h1, ofNat_digit _ (by omega)]; omega

theorem dec_ne (u : Nat) : decDigits u ≠ [] := by
  rw [decDigits]
  split <;> simp

theorem parse_one (a d : Nat) (hd : d < 10) (h : a * 10 + d < 18446744073709551616) : parseUint10 a [UInt8.ofNat (48 + d)] = .ok (a * 10 + d) := by
  have e := ofNat_digit d hd
  rw [parseUint10, if_pos (by omega), if_neg (by omega), if_neg (by omega), parseUint10]
  congr 1
  omega

theorem parse_dec (u : Nat) : u < 18446744073709551616 → parseUint10 0 (decDigits u) = .ok u := by
  induction u using Nat.strongRecOn with
  | _ u ih =>
    intro hu
    by_cases h : u < 10
    · rw [decDigits, dif_pos h]
      have := parse_one 0 u h (by omega)
      rw [this]; congr 1; omega
    · rw [decDigits, dif_neg h, parse_append _ _ _ _ (ih (u / 10) (by omega) (by omega)), parse_one _ _ (by omega) (by omega)]
      congr 1; omega

theorem mag_dec (u : Nat) (h : u < 18446744073709551616) : parseMag (decDigits u) = .ok u := by
  rw [parseMag, if_neg (dec_ne u), parse_dec u h]

/-- an int -/
def I64 (n : Int) : Prop := -9223372036854775808 ≤ n ∧ n ≤ 9223372036854775807

theorem atoi_itoa (n : Int) (h : I64 n) : atoiAll (itoa n) = .ok n := by
  unfold I64 at h
  by_cases c : n < 0
  · rw [itoa, if_pos c]
    have e45 : (45 : UInt8).toNat = 45 := rfl
    simp only [atoiAll, e45]
    rw [if_pos (Or.inr trivial), mag_dec n.natAbs (by omega)]
    simp only
    rw [if_neg (by simp), if_neg (by omega), if_pos trivial]
    congr 1
    omega
  · rw [itoa, if_neg c]
    obtain ⟨x, r, hx⟩ : ∃ x r, decDigits n.toNat = x :: r := by
      cases hd : decDigits n.toNat with
      | nil => exact absurd hd (dec_ne _)
      | cons x r => exact ⟨x, r, rfl⟩
    have hm := mag_dec n.toNat (by omega)
    have hdx := dec_digit n.toNat x (by rw [hx]; simp)
    rw [hx] at hm ⊢
    simp only [atoiAll]
    rw [if_neg (by omega), hm]
    simp only
    rw [if_neg (by omega), if_neg (by omega), if_neg (by omega)]
    congr 1
    omega

theorem itoa_inj {n m : Int} (hn : I64 n) (hm : I64 m) (h : itoa n = itoa m) : n = m := by
  have h1 := atoi_itoa n hn
  rw [h, atoi_itoa m hm] at h1
  injection h1 with h1
  exact h1.symm

/-- one byte on the document's way -/
def stepW (v : Int) (c : UInt8) : Int := if 48 ≤ c.toNat ∧ c.toNat ≤ 57 then wrap64 (wrap64 (v * 10) - ((c.toNat : Int) - 48)) else v
def foldW (l : List UInt8) : Int := l.foldl stepW 0

theorem foldW_append (l : List UInt8) (c : UInt8) : foldW (l ++ [c]) = stepW (foldW l) c := by simp [foldW]

theorem step_dec (a d : Nat) (hd : d < 10) (h : a * 10 + d ≤ 9223372036854775808) : stepW (-(a : Int)) (UInt8.ofNat (48 + d)) = -((a * 10 + d : Nat) : Int) := by
  have e := ofNat_digit d hd
  rw [stepW, if_pos (by omega), e]
  unfold wrap64
  omega

theorem fold_dec (u : Nat) : u ≤ 9223372036854775808 → (decDigits u).foldl stepW 0 = -(u : Int) := by
  induction u using Nat.strongRecOn with
  | _ u ih =>
    intro hu
    by_cases h : u < 10
    · rw [decDigits, dif_pos h]
      have := step_dec 0 u h (by omega)
      simp only [List.foldl_cons, List.foldl_nil]
      have e0 : (-((0 : Nat) : Int)) = 0 := rfl
      rw [e0] at this
      rw [this]; omega
    · rw [decDigits, dif_neg h, List.foldl_append, ih (u / 10) (by omega) (by omega)]
      simp only [List.foldl_cons, List.foldl_nil]
      rw [step_dec _ _ (by omega) (by omega)]; omega

theorem nDigits_le : ∀ (k u : Nat), 1 ≤ k → u < 10 ^ k → nDigits u ≤ k
  | 0, u, h, _ => by omega
  | 1, u, _, h => by rw [nDigits_small (by simpa using h)]; exact Nat.le_refl _
  | k + 2, u, _, h => by
    by_cases c : u < 10
    · rw [nDigits_small c]; omega
    · rw [nDigits_big c]
      have := nDigits_le (k + 1) (u / 10) (by omega) (by rw [Nat.pow_succ] at h; omega)
      omega

theorem itoa_len (n : Int) (h : I64 n) : (itoa n).length ≤ 20 := by
  unfold I64 at h
  unfold itoa
  split
  · rw [List.length_cons, decDigits_length]
    have := nDigits_le 19 n.natAbs (by omega) (by omega)
    omega
  · rw [decDigits_length]
    have := nDigits_le 19 n.toNat (by omega) (by omega)
    omega

theorem fold_itoa (n : Int) (h : I64 n) : foldW ((itoa n).take 21) = -((n.natAbs : Nat) : Int) := by
  rw [List.take_of_length_le (by have := itoa_len n h; omega)]
  unfold I64 at h
  unfold foldW itoa
  split
  · rw [List.foldl_cons]
    have e45 : stepW 0 45 = 0 := by rfl
    rw [e45, fold_dec _ (by omega)]
  · rw [fold_dec _ (by omega)]; omega

theorem wrap64_I64 (x : Int) : I64 (wrap64 x) := by unfold I64 wrap64; omega
theorem stepW_I64 (v : Int) (c : UInt8) (h : I64 v) : I64 (stepW v c) := by
  unfold stepW
  split
  · exact wrap64_I64 _
  · exact h
theorem foldW_I64 (l : List UInt8) : I64 (foldW l) := by
  unfold foldW
  have : ∀ (l : List UInt8) (v : Int), I64 v → I64 (l.foldl stepW v) := by
    intro l
    induction l with
    | nil => intro v h; exact h
    | cons c r ih => intro v h; exact ih _ (stepW_I64 v c h)
  exact this l 0 ⟨by decide, by decide⟩

/-- what is read of a text, and the error -/
def rdA (s : List UInt8) : Int := match atoiAll s with | .ok v => if itoa v = s then v else 0 | _ => 0
def rdB (s : List UInt8) : Int := match atoiAll s with | .ok v => if itoa v = s then 0 else 11 | _ => 11

theorem rd_of {s : List UInt8} {v : Int} (hv : I64 v) (h : itoa v = s) : rdA s = v ∧ rdB s = 0 := by
  have e := atoi_itoa v hv
  rw [h] at e
  simp [rdA, rdB, e, h]

theorem rd_none {s : List UInt8} (h : ∀ v, I64 v → itoa v ≠ s) (hb : ∀ v, atoiAll s = .ok v → I64 v) : rdA s = 0 ∧ rdB s = 11 := by
  cases e : atoiAll s with
  | «syntax» => simp [rdA, rdB, e]
  | range => simp [rdA, rdB, e]
  | ok v => simp [rdA, rdB, e, h v (hb v e)]
end Go.Proofs.YtbefokclbcdmhaaDoor
