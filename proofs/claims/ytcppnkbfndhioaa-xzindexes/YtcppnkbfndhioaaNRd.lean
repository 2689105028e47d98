/-
  What number.Low and number.High tell.
-/
import Derived.Test.YtcppnkbfndhioaaNPutTwo
namespace Go.Proofs.Ytcppnkbfndhioaa.N
open Go.RowKit
set_option maxRecDepth 100000

/-- three numbers, as a call tells them -/
def tri (r : Nat × Nat × Nat) : Value := .tuple #[.int .u64 (r.1 : Int), .int .i64 (r.2.1 : Int), .int .i64 (r.2.2 : Int)]

theorem within_ok (a : Option Addr) (len cap : Nat) (p : Int) (w : World) : Calls Try.prog 47 #[.slice a len cap, .int .i64 p] w fun e w' => e = .returned (.bool (decide (0 ≤ p) && decide (p ≤ len))) ∧ w' = w := by
  by_cases h : 0 ≤ p
  · go_enter Try.func47, Try.ntmps47
    go_wp2
    go_ret
    refine ⟨?_, rfl⟩
    simp [h]
  · have : (decide (0 ≤ p) && decide (p ≤ (len : Int))) = false := by simp [h]
    rw [this]
    clear this
    go_enter Try.func47, Try.ntmps47
    go_wp2
    go_ret
    exact ⟨rfl, rfl⟩

theorem or_add (v d i : Nat) (hv : v < 2 ^ i) : v ||| d * 2 ^ i = v + d * 2 ^ i := by
  have := Nat.two_pow_add_eq_or_of_lt (i := i) (b := v) hv d
  rw [Nat.or_comm, Nat.mul_comm, ← this]
  omega

/-- the number of n bytes at p, the highest first, of which i are read -/
def hiN (zs : List Nat) (p n : Nat) : Nat → Nat
  | 0 => 0
  | i + 1 => hiN zs p n i + zs.getD (p + i) 0 * 256 ^ (n - 1 - i)

theorem hiN_form (zs : List Nat) (p n : Nat) (hs : ∀ j, zs.getD j 0 < 256) : ∀ i, i ≤ n → ∃ q, hiN zs p n i = q * 256 ^ (n - i) ∧ q < 256 ^ i
  | 0, _ => ⟨0, by simp [hiN], by simp⟩
  | i + 1, h => by
    obtain ⟨q, e, hq⟩ := hiN_form zs p n hs i (by omega)
    refine ⟨q * 256 + zs.getD (p + i) 0, ?_, ?_⟩
    · rw [hiN, e, show n - i = (n - (i + 1)) + 1 by omega, Nat.pow_succ, show n - 1 - i = n - (i + 1) by omega, Nat.add_mul, Nat.mul_assoc, Nat.mul_comm 256]
    · have := hs (p + i)
      rw [Nat.pow_succ]; omega

theorem hiN_lt (zs : List Nat) (p n : Nat) (hs : ∀ j, zs.getD j 0 < 256) (hn : n ≤ 8) (i : Nat) (hi : i ≤ n) : hiN zs p n i < 18446744073709551616 := by
  obtain ⟨q, e, hq⟩ := hiN_form zs p n hs i hi
  rw [e]
  have h1 : q * 256 ^ (n - i) < 256 ^ i * 256 ^ (n - i) := Nat.mul_lt_mul_of_pos_right hq (Nat.pow_pos (by omega))
  rw [← Nat.pow_add, show i + (n - i) = n by omega] at h1
  have h2 : 256 ^ n ≤ 256 ^ 8 := Nat.pow_le_pow_right (by omega) hn
  omega

theorem getD_small {zs : List Nat} (hs : ∀ z ∈ zs, z < 256) (j : Nat) : zs.getD j 0 < 256 := by
  by_cases h : j < zs.length
  · exact hs _ (getD_mem zs j h)
  · rw [List.getD_eq_getElem?_getD, List.getElem?_eq_none (by omega)]; simp

theorem hi_or (zs : List Nat) (p n i : Nat) (hs : ∀ j, zs.getD j 0 < 256) (hi : i < n) : hiN zs p n i ||| zs.getD (p + i) 0 * 2 ^ (8 * (n - 1 - i)) = hiN zs p n (i + 1) := by
  obtain ⟨q, e, hq⟩ := hiN_form zs p n hs i (by omega)
  have e8 : ∀ k, 256 ^ k = 2 ^ (8 * k) := fun k => by rw [Nat.pow_mul]
  have hz := hs (p + i)
  rw [hiN, e, e8, e8, show 8 * (n - i) = 8 * (n - 1 - i) + 8 by omega]
  have hlt : zs.getD (p + i) 0 * 2 ^ (8 * (n - 1 - i)) < 2 ^ (8 * (n - 1 - i) + 8) := by
    rw [Nat.pow_add, Nat.mul_comm]
    exact Nat.mul_lt_mul_of_pos_left (by omega) (Nat.pow_pos (by omega))
  rw [Nat.or_comm, or_add _ q _ hlt]
  omega

/-- the number of i bytes at p, the lowest first -/
def loN (zs : List Nat) (p : Nat) : Nat → Nat
  | 0 => 0
  | i + 1 => loN zs p i + zs.getD (p + i) 0 * 256 ^ i

theorem loN_pow (zs : List Nat) (p : Nat) (hs : ∀ j, zs.getD j 0 < 256) : ∀ i, loN zs p i < 256 ^ i
  | 0 => by simp [loN]
  | i + 1 => by
    have h1 := loN_pow zs p hs i
    have h2 : zs.getD (p + i) 0 * 256 ^ i ≤ 255 * 256 ^ i := Nat.mul_le_mul (by have := hs (p + i); omega) (Nat.le_refl _)
    rw [loN, Nat.pow_succ]; omega
theorem loN_lt (zs : List Nat) (p : Nat) (hs : ∀ j, zs.getD j 0 < 256) (i : Nat) (hi : i ≤ 8) : loN zs p i < 18446744073709551616 := by
  have h1 := loN_pow zs p hs i
  have h2 : 256 ^ i ≤ 256 ^ 8 := Nat.pow_le_pow_right (by omega) hi
  omega
theorem lo_or (zs : List Nat) (p i : Nat) (hs : ∀ j, zs.getD j 0 < 256) : loN zs p i ||| zs.getD (p + i) 0 * 2 ^ (8 * i) = loN zs p (i + 1) := by
  have e8 : 256 ^ i = 2 ^ (8 * i) := by rw [Nat.pow_mul]
  have h := loN_pow zs p hs i
  rw [e8] at h
  rw [or_add _ _ _ h, loN, e8]

end Go.Proofs.Ytcppnkbfndhioaa.N
