/-
  math/bits.Len64 at this program: the library's contract, laid in plain words; and how many bytes of seven bits a number needs.
-/
import Derived.Shelf.Strconv.Itoa0
import Derived.Test.YtcppnkbfndhioaaProg
namespace Go.Proofs
open Go.Shelf
set_option maxRecDepth 100000
def Try.lays129_ren : Go.Shelf.Ren := ⟨fun | 129 => 34 | n => n, fun | 53 => 46 | 3 => 3 | 4 => 4 | 46 => 61 | 5 => 5 | 9 => 9 | n => n, fun | n => n⟩
theorem Try.lays129 : Go.Proofs.Lays.n129 Try.prog Try.lays129_ren := {
  mixed := by kernel_rfl
  f129 := Try.func34.trans (congrArg some (by kernel_rfl))
  t3 := Try.underlying3
  a3 := Try.isAgg3
  z3 := Try.sizeOf3
  v3 := Try.zeroValue3
  t4 := Try.underlying4
  a4 := Try.isAgg4
  z4 := Try.sizeOf4
  v4 := Try.zeroValue4
  t5 := Try.underlying5
  a5 := Try.isAgg5
  z5 := Try.sizeOf5
  v5 := Try.zeroValue5
  t9 := Try.underlying9
  a9 := Try.isAgg9
  z9 := Try.sizeOf9
  v9 := Try.zeroValue9
  t46 := Try.underlying61
  a46 := Try.isAgg61
  z46 := Try.sizeOf61
  v46 := Try.zeroValue61
  t53 := Try.underlying46
  a53 := Try.isAgg46
  z53 := Try.sizeOf46
  v53 := Try.zeroValue46 }
theorem Try.bits_Len64 (x : Int) (w : World) (h0 : 0 ≤ x) (h1 : x ≤ 18446744073709551615) :
    Calls Try.prog 34 #[.int .u64 x] w fun e w' => e = .returned (.int .i64 (Lib.bitLen x.toNat)) ∧ w' = w := Any.bits_Len64 Try.lays129 x w h0 h1
end Go.Proofs
namespace Go.Proofs.Ytcppnkbfndhioaa.N
open Go.Lib

theorem bitLenAux_le : ∀ (f x : Nat), bitLenAux f x ≤ f
  | 0, _ => Nat.le_refl _
  | f + 1, x => by
    have := bitLenAux_le f (x / 2)
    rw [bitLenAux]
    split <;> omega

theorem bitLen_le63 (x : Nat) (h : x < 9223372036854775808) : bitLen x ≤ 63 := by
  rw [bitLen, bitLenAux_fuel 63 x (by omega) 64 (by omega)]
  exact bitLenAux_le 63 x

theorem bitLen_le7 : ∀ n : Fin 128, bitLen n.val ≤ 7 := by decide +kernel

/-- how many bytes of seven bits -/
def nb (V : Nat) : Nat := max 1 ((bitLen V + 6) / 7)

theorem nb_small (V : Nat) (h : V < 128) : nb V = 1 := by
  have := bitLen_le7 ⟨V, h⟩
  simp only at this
  unfold nb
  omega

theorem bitLen_pos (x : Nat) (h0 : x ≠ 0) (h : x < 2 ^ 64) : 1 ≤ bitLen x := by
  rw [bitLen_half x h0 h]; omega

theorem nb_big (V : Nat) (h : 128 ≤ V) (hV : V < 9223372036854775808) : nb V = 1 + nb (V / 128) := by
  have e := bitLen_shift 7 V (by omega) (by omega)
  have p := bitLen_pos (V / 2 ^ 7) (by omega) (by omega)
  unfold nb
  rw [e]
  have : V / 2 ^ 7 = V / 128 := rfl
  rw [this] at *
  omega

theorem nb_spec : ∀ (f V : Nat), V < 128 ^ f → V < 9223372036854775808 → V / 128 ^ (nb V - 1) < 128 ∧ ∀ i, i < nb V - 1 → 128 ≤ V / 128 ^ i
  | 0, V, h, _ => by
    obtain rfl : V = 0 := by simpa using h
    rw [nb_small 0 (by omega)]
    exact ⟨by omega, fun i hi => by omega⟩
  | f + 1, V, h, hV => by
    by_cases c : V < 128
    · rw [nb_small V c]
      exact ⟨by omega, fun i hi => by omega⟩
    · have ih := nb_spec f (V / 128) (by rw [Nat.pow_succ] at h; omega) (by omega)
      have e := nb_big V (by omega) hV
      have e1 : 1 ≤ nb (V / 128) := by unfold nb; omega
      have key : ∀ i, V / 128 ^ (i + 1) = V / 128 / 128 ^ i := fun i => by rw [Nat.pow_succ, Nat.mul_comm, Nat.div_div_eq_div_mul]
      refine ⟨?_, fun i hi => ?_⟩
      · rw [show nb V - 1 = (nb (V / 128) - 1) + 1 by omega, key]
        exact ih.1
      · cases i with
        | zero => simpa using c
        | succ i => rw [key]; exact ih.2 i (by omega)

theorem nb_le (V : Nat) (hV : V < 9223372036854775808) : 1 ≤ nb V ∧ nb V ≤ 9 := by
  have := bitLen_le63 V hV
  unfold nb
  omega
end Go.Proofs.Ytcppnkbfndhioaa.N
