/-
  What number.Low and number.High, and the document's Read, tell in every case.
-/
import Derived.Test.YtcppnkbfndhioaaNRd
namespace Go.Proofs.Ytcppnkbfndhioaa.N
open Go.RowKit

theorem own_block {w : World} {base n : Nat} {v : Value} {xs : List Value} (h : w.ownsRow base 5 1 v n xs) (hn : 0 < n) : ∃ g cap, v = .slice (some ⟨g, 0, none⟩) n cap ∧ n ≤ cap ∧ base ≤ g ∧ g < w.heap.size := by
  rcases h.2 with ⟨_, e'⟩ | ⟨g, cap, cur, e, hb, hh, hle, _⟩
  · omega
  · exact ⟨g, cap, e, by simpa using hle, hb, heap_lt hh⟩

/-- the value of n bytes at p -/
def valN (high : Bool) (zs : List Nat) (p n : Nat) : Nat := if high then hiN zs p n n else loN zs p n
/-- what is read: the number, the place behind it, the error -/
def rdRes (high : Bool) (zs : List Nat) (p n : Int) : Nat × Nat × Nat :=
  if n < 1 ∨ 8 < n ∨ p < 0 ∨ (zs.length : Int) < p then (0, 0, 2) else if (zs.length : Int) - p < n then (0, 0, 10) else (valN high zs p.toNat n.toNat, p.toNat + n.toNat, 0)

theorem rd_arg {high : Bool} {zs : List Nat} {p n : Int} (h : n < 1 ∨ 8 < n ∨ p < 0 ∨ (zs.length : Int) < p) : rdRes high zs p n = (0, 0, 2) := by rw [rdRes, if_pos h]
theorem rd_end {high : Bool} {zs : List Nat} {p n : Int} (h : ¬ (n < 1 ∨ 8 < n ∨ p < 0 ∨ (zs.length : Int) < p)) (h2 : (zs.length : Int) - p < n) : rdRes high zs p n = (0, 0, 10) := by rw [rdRes, if_neg h, if_pos h2]
theorem rd_yes {high : Bool} {zs : List Nat} {p n : Nat} (h : ¬ ((n : Int) < 1 ∨ 8 < (n : Int) ∨ (p : Int) < 0 ∨ (zs.length : Int) < p)) (h2 : ¬ (zs.length : Int) - p < n) : rdRes high zs p n = (valN high zs p n, p + n, 0) := by
  rw [rdRes, if_neg h, if_neg h2]; simp

/-- the document's way: the number of the first i bytes of x, the highest first -/
def upN (xs : List Nat) : Nat → Nat
  | 0 => 0
  | i + 1 => upN xs i * 256 + xs.getD i 0

theorem upN_lt (xs : List Nat) (hs : ∀ j, xs.getD j 0 < 256) : ∀ i, upN xs i < 256 ^ i
  | 0 => by simp [upN]
  | i + 1 => by
    have := upN_lt xs hs i
    have := hs i
    rw [upN, Nat.pow_succ]; omega

theorem up_hi (zs : List Nat) (p n : Nat) (h : p + n ≤ zs.length) : ∀ i, i ≤ n → hiN zs p n i = upN ((zs.drop p).take n) i * 256 ^ (n - i)
  | 0, _ => by simp [hiN, upN]
  | i + 1, hi => by
    have e : ((zs.drop p).take n).getD i 0 = zs.getD (p + i) 0 := by
      simp [List.getD_eq_getElem?_getD, show i < n by omega, List.getElem?_drop]
    rw [hiN, up_hi zs p n h i (by omega), upN, e, show n - i = (n - (i + 1)) + 1 by omega, Nat.pow_succ, show n - 1 - i = n - (i + 1) by omega, Nat.add_mul, Nat.mul_assoc, Nat.mul_comm 256]

theorem up_lo (zs : List Nat) (p n : Nat) (h : p + n ≤ zs.length) : ∀ i, i ≤ n → loN zs p n = upN ((zs.drop p).take n).reverse i * 256 ^ (n - i) + loN zs p (n - i)
  | 0, _ => by simp [upN]
  | i + 1, hi => by
    have hlen : ((zs.drop p).take n).length = n := by simp; omega
    have e : ((zs.drop p).take n).reverse.getD i 0 = zs.getD (p + (n - (i + 1))) 0 := by
      rw [List.getD_eq_getElem?_getD, List.getElem?_reverse (by omega), hlen, List.getElem?_take, if_pos (by omega), List.getElem?_drop, List.getD_eq_getElem?_getD]
      congr 3
      omega
    have e2 : loN zs p (n - i) = loN zs p (n - (i + 1)) + zs.getD (p + (n - (i + 1))) 0 * 256 ^ (n - (i + 1)) := by
      rw [show n - i = (n - (i + 1)) + 1 by omega, loN]
    rw [up_lo zs p n h i (by omega), upN, e, e2, show n - i = (n - (i + 1)) + 1 by omega, Nat.pow_succ, Nat.add_mul, Nat.mul_assoc, Nat.mul_comm 256]
    omega

theorem up_val (high : Bool) (zs : List Nat) (p n : Nat) (h : p + n ≤ zs.length) : valN high zs p n = upN (if high then (zs.drop p).take n else ((zs.drop p).take n).reverse) n := by
  cases high
  · have := up_lo zs p n h n (Nat.le_refl _)
    simp [loN] at this
    simpa [valN] using this
  · have := up_hi zs p n h n (Nat.le_refl _)
    simp at this
    simpa [valN] using this

end Go.Proofs.Ytcppnkbfndhioaa.N
