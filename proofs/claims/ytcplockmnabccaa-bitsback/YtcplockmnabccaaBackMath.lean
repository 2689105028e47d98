/-
  Plain facts for BitsBack, with no program in them: the bits of numbers that stand one behind the other, and where each number's bits are.
-/
import Derived.Test.YtcplockmnabccaaMath
namespace Go.Proofs.Ytcplockmnabccaa.Mth

/-- The bits of the first i numbers. -/
def run (high : Bool) (X K : Nat → Nat) : Nat → List Bool
  | 0 => []
  | i + 1 => run high X K i ++ bitsOf high (X i) (K i)

theorem run_length_le (high : Bool) (X K : Nat → Nat) (hK : ∀ i, K i ≤ 64) (i : Nat) : (run high X K i).length ≤ 64 * i := by
  induction i with
  | zero => simp [run]
  | succ i ih => simp only [run, List.length_append, bitsOf_length]; have := hK i; omega

theorem run_length_succ (high : Bool) (X K : Nat → Nat) (i : Nat) : (run high X K (i + 1)).length = (run high X K i).length + K i := by
  simp only [run, List.length_append, bitsOf_length]

theorem run_prefix (high : Bool) (X K : Nat → Nat) (i d : Nat) : ∃ T, run high X K (i + d) = run high X K i ++ T := by
  induction d with
  | zero => exact ⟨[], by simp⟩
  | succ d ih =>
    obtain ⟨T, hT⟩ := ih
    exact ⟨T ++ bitsOf high (X (i + d)) (K (i + d)), by rw [← Nat.add_assoc, run, hT, List.append_assoc]⟩

theorem run_mono (high : Bool) (X K : Nat → Nat) (i n : Nat) (h : i ≤ n) : (run high X K i).length ≤ (run high X K n).length := by
  obtain ⟨T, hT⟩ := run_prefix high X K i (n - i)
  rw [show i + (n - i) = n by omega] at hT
  rw [hT]; simp

theorem run_get (high : Bool) (X K : Nat → Nat) (i n j : Nat) (hi : i < n) (hj : j < K i) :
    (run high X K n).getD ((run high X K i).length + j) false = (X i).testBit (rk high (K i) j) := by
  obtain ⟨T, hT⟩ := run_prefix high X K (i + 1) (n - (i + 1))
  rw [show i + 1 + (n - (i + 1)) = n by omega] at hT
  rw [hT, run, List.append_assoc, List.getD_eq_getElem?_getD, List.getElem?_append_right (by omega), show (run high X K i).length + j - (run high X K i).length = j by omega,
    List.getElem?_append_left (by rw [bitsOf_length]; exact hj), bitsOf_get _ _ _ _ hj]
  rfl

/-- What is got at the place of the i-th number is that number. -/
theorem run_num (high : Bool) (X K : Nat → Nat) (m i n : Nat) (hi : i < n) (hX : X i < 2 ^ K i) (hm : (run high X K n).length ≤ 8 * m) :
    numAt high (K i) (fun j => bitIn high (pk high m (run high X K n)) ((run high X K i).length + j)) = X i := by
  apply numAt_bitsOf _ _ _ hX
  intro j hj
  have h1 := run_mono high X K (i + 1) n hi
  rw [run_length_succ] at h1
  rw [bitIn_pk _ _ _ _ (by omega), run_get high X K i n j hi hj]

end Go.Proofs.Ytcplockmnabccaa.Mth
