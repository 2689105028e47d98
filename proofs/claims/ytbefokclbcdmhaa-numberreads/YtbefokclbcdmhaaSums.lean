/- What number.Add, number.Mul, number.sizeOf and math/bits.Mul answer, for every argument: the sum or the product and true where it is an int, else 0 and false; the world stays as it was. -/
import Derived.Test.YtbefokclbcdmhaaRows
import Derived.WalkKit
import Derived.ProofKit
import Derived.OpenShut
import Derived.Lib.Mul64
import Derived.Laws.Bits64b
namespace Go.Proofs.Ytbefokclbcdmhaa
open Go.RowKit Go.Lib

/-- is it an int? -/
def isInt (x : Int) : Bool := decide (-9223372036854775808 ≤ x) && decide (x ≤ 9223372036854775807)
/-- the number where it is an int, else 0 -/
def orNone (x : Int) : Int := if isInt x then x else 0

theorem wf_i64 {a : Int} (h : (Lit.int .i64 a).wf = true) : -9223372036854775808 ≤ a ∧ a ≤ 9223372036854775807 := by
  simp only [Lit.wf, Bool.and_eq_true, decide_eq_true_eq] at h
  have e1 : IntKind.i64.min = -9223372036854775808 := rfl
  have e2 : IntKind.i64.max = 9223372036854775807 := rfl
  omega

namespace Mul64
theorem maskN (a : Nat) (ha : a < 18446744073709551616) : bits .and .u64 (a : Int) 4294967295 = ((a % 4294967296 : Nat) : Int) := by
  have h := bits_and_u64_nat a 4294967295 ha (by omega)
  have e : a &&& 4294967295 = a % 4294967296 := Nat.and_two_pow_sub_one_eq_mod a 32
  rw [e] at h
  exact h
theorem divN (a : Nat) : (a : Int) / 4294967296 = ((a / 4294967296 : Nat) : Int) := by omega
theorem mulN (a b : Nat) : (a : Int) * (b : Int) = ((a * b : Nat) : Int) := (Int.natCast_mul a b).symm
theorem addN (a b : Nat) : (a : Int) + (b : Int) = ((a + b : Nat) : Int) := (Int.natCast_add a b).symm
theorem wrapN (a : Nat) (ha : a < 18446744073709551616) : IntKind.u64.wrap (a : Int) = (a : Int) := by rw [IntKind.wrap_u64]; omega
theorem wrapM (a : Nat) : IntKind.u64.wrap (a : Int) = ((a % 18446744073709551616 : Nat) : Int) := by rw [IntKind.wrap_u64]; omega
end Mul64

set_option maxHeartbeats 1000000 in
theorem mul64_ok (x y : Nat) (hx : x < 18446744073709551616) (hy : y < 18446744073709551616) (w : World) :
    Calls Try.prog 43 #[.int .u64 x, .int .u64 y] w fun e w' => e = .returned (.tuple #[.int .u64 ((x * y / 18446744073709551616 : Nat) : Int), .int .u64 ((x * y % 18446744073709551616 : Nat) : Int)]) ∧ w' = w := by
  obtain ⟨bd, bt, bw, hhi⟩ := Lib.mul64_hi x y hx hy
  have ba := Lib.half_mul_le (a := x / 4294967296) (b := y / 4294967296) (by omega) (by omega)
  have bb := Lib.half_mul_le (a := x / 4294967296) (b := y % 4294967296) (by omega) (by omega)
  have bc := Lib.half_mul_le (a := x % 4294967296) (b := y / 4294967296) (by omega) (by omega)
  have ba' : x / 4294967296 * (y / 4294967296) < 18446744073709551616 := by omega
  have bb' : x / 4294967296 * (y % 4294967296) < 18446744073709551616 := by omega
  have bc' : x % 4294967296 * (y / 4294967296) < 18446744073709551616 := by omega
  have bh1 : x / 4294967296 * (y / 4294967296) + (x / 4294967296 * (y % 4294967296) + x % 4294967296 * (y % 4294967296) / 4294967296) / 4294967296 < 18446744073709551616 := by omega
  have bh : x / 4294967296 * (y / 4294967296) + (x / 4294967296 * (y % 4294967296) + x % 4294967296 * (y % 4294967296) / 4294967296) / 4294967296 + ((x / 4294967296 * (y % 4294967296) + x % 4294967296 * (y % 4294967296) / 4294967296) % 4294967296 + x % 4294967296 * (y / 4294967296)) / 4294967296 < 18446744073709551616 := by omega
  go_enter Try.func43, Try.ntmps43
  go_wp2
  simp only [Mul64.maskN x hx, Mul64.maskN y hy, Mul64.divN, Mul64.mulN, Mul64.addN, Mul64.wrapN _ bd, Mul64.wrapN _ bb', Mul64.wrapN _ bt, Mul64.maskN _ bt, Mul64.wrapN _ bc', Mul64.wrapN _ bw, Mul64.wrapN _ ba', Mul64.wrapN _ bh1, Mul64.wrapN _ bh, Mul64.wrapM]
  rw [hhi]
  go_ret2
  exact ⟨rfl, rfl⟩

set_option maxHeartbeats 1000000 in
theorem bmul_ok (x y : Nat) (hx : x < 18446744073709551616) (hy : y < 18446744073709551616) (w : World) :
    Calls Try.prog 40 #[.int .u64 x, .int .u64 y] w fun e w' => e = .returned (.tuple #[.int .u64 ((x * y / 18446744073709551616 : Nat) : Int), .int .u64 ((x * y % 18446744073709551616 : Nat) : Int)]) ∧ w' = w := by
  have c64 := mul64_ok x y hx hy w
  go_enter Try.func40, Try.ntmps40
  go_wp2_with (go_at_call 43; refine c64.mono ?_; rintro e w' ⟨rfl, hw⟩; rw [hw])
  go_ret2
  exact ⟨rfl, rfl⟩

/-- how far a number is from 0 -/
def sz (a : Int) : Int := ((a.natAbs : Nat) : Int)
theorem sizeOf_ok (a : Int) (h : -9223372036854775808 ≤ a ∧ a ≤ 9223372036854775807) (w : World) :
    Calls Try.prog 41 #[.int .i64 a] w fun e w' => e = .returned (.int .u64 (sz a)) ∧ w' = w := by
  rw [sz]
  by_cases c : a < 0
  · have e : ((a.natAbs : Nat) : Int) = -a := by omega
    rw [e]
    clear e
    go_enter Try.func41, Try.ntmps41
    go_wp2
    go_ret
    refine ⟨?_, rfl⟩
    have e : IntKind.u64.wrap (-IntKind.u64.wrap a) = -a := by rw [IntKind.wrap_u64, IntKind.wrap_u64]; omega
    rw [← e]
    rfl
  · have e : ((a.natAbs : Nat) : Int) = a := by omega
    rw [e]
    clear e
    go_enter Try.func41, Try.ntmps41
    go_wp2
    go_ret
    exact ⟨rfl, rfl⟩

theorem add_ok (a b : Int) (ha : -9223372036854775808 ≤ a ∧ a ≤ 9223372036854775807) (hb : -9223372036854775808 ≤ b ∧ b ≤ 9223372036854775807) (w : World) :
    Calls Try.prog 23 #[.int .i64 a, .int .i64 b] w fun e w' => e = .returned (.tuple #[.int .i64 (orNone (a + b)), .bool (isInt (a + b))]) ∧ w' = w := by
  by_cases c1 : 0 < b
  · have c2 : ¬ b < 0 := by omega
    by_cases c3 : 9223372036854775807 - b < a
    · have e : isInt (a + b) = false := by simp only [isInt, Bool.and_eq_false_iff, decide_eq_false_iff_not]; omega
      have e2 : orNone (a + b) = 0 := by rw [orNone, e]; rfl
      rw [e, e2]
      clear e e2
      have c4 : IntKind.i64.wrap (9223372036854775807 - b) < a := by rw [IntKind.wrap_i64]; omega
      go_enter Try.func23, Try.ntmps23
      go_wp2
      go_ret2
      exact ⟨rfl, rfl⟩
    · have e : isInt (a + b) = true := by simp only [isInt, Bool.and_eq_true, decide_eq_true_eq]; omega
      have e2 : orNone (a + b) = a + b := by rw [orNone, e]; rfl
      rw [e, e2]
      clear e e2
      have c4 : ¬ IntKind.i64.wrap (9223372036854775807 - b) < a := by rw [IntKind.wrap_i64]; omega
      go_enter Try.func23, Try.ntmps23
      go_wp2
      go_ret2
      exact ⟨rfl, rfl⟩
  · by_cases c2 : b < 0
    · by_cases c3 : a < -9223372036854775808 - b
      · have e : isInt (a + b) = false := by simp only [isInt, Bool.and_eq_false_iff, decide_eq_false_iff_not]; omega
        have e2 : orNone (a + b) = 0 := by rw [orNone, e]; rfl
        rw [e, e2]
        clear e e2
        have c4 : a < IntKind.i64.wrap (-9223372036854775808 - b) := by rw [IntKind.wrap_i64]; omega
        go_enter Try.func23, Try.ntmps23
        go_wp2
        go_ret2
        exact ⟨rfl, rfl⟩
      · have e : isInt (a + b) = true := by simp only [isInt, Bool.and_eq_true, decide_eq_true_eq]; omega
        have e2 : orNone (a + b) = a + b := by rw [orNone, e]; rfl
        rw [e, e2]
        clear e e2
        have c4 : ¬ a < IntKind.i64.wrap (-9223372036854775808 - b) := by rw [IntKind.wrap_i64]; omega
        go_enter Try.func23, Try.ntmps23
        go_wp2
        go_ret2
        exact ⟨rfl, rfl⟩
    · have e : isInt (a + b) = true := by simp only [isInt, Bool.and_eq_true, decide_eq_true_eq]; omega
      have e2 : orNone (a + b) = a + b := by rw [orNone, e]; rfl
      rw [e, e2]
      clear e e2
      go_enter Try.func23, Try.ntmps23
      go_wp2
      go_ret2
      exact ⟨rfl, rfl⟩

theorem refAdd_ok (a b : Int) (ha : -9223372036854775808 ≤ a ∧ a ≤ 9223372036854775807) (hb : -9223372036854775808 ≤ b ∧ b ≤ 9223372036854775807) (w : World) :
    Calls Try.prog 25 #[.int .i64 a, .int .i64 b] w fun e w' => e = .returned (.tuple #[.int .i64 (orNone (a + b)), .bool (isInt (a + b))]) ∧ w' = w := by
  by_cases c1 : 0 < b
  · have c2 : ¬ b < 0 := by omega
    by_cases c3 : 9223372036854775807 - b < a
    · have e : isInt (a + b) = false := by simp only [isInt, Bool.and_eq_false_iff, decide_eq_false_iff_not]; omega
      have e2 : orNone (a + b) = 0 := by rw [orNone, e]; rfl
      rw [e, e2]
      clear e e2
      have c4 : IntKind.i64.wrap (9223372036854775807 - b) < a := by rw [IntKind.wrap_i64]; omega
      go_enter Try.func25, Try.ntmps25
      go_wp2
      go_ret2
      exact ⟨rfl, rfl⟩
    · have e : isInt (a + b) = true := by simp only [isInt, Bool.and_eq_true, decide_eq_true_eq]; omega
      have e2 : orNone (a + b) = a + b := by rw [orNone, e]; rfl
      rw [e, e2]
      clear e e2
      have c4 : ¬ IntKind.i64.wrap (9223372036854775807 - b) < a := by rw [IntKind.wrap_i64]; omega
      go_enter Try.func25, Try.ntmps25
      go_wp2
      go_ret2
      exact ⟨rfl, rfl⟩
  · by_cases c2 : b < 0
    · by_cases c3 : a < -9223372036854775808 - b
      · have e : isInt (a + b) = false := by simp only [isInt, Bool.and_eq_false_iff, decide_eq_false_iff_not]; omega
        have e2 : orNone (a + b) = 0 := by rw [orNone, e]; rfl
        rw [e, e2]
        clear e e2
        have c4 : a < IntKind.i64.wrap (-9223372036854775808 - b) := by rw [IntKind.wrap_i64]; omega
        go_enter Try.func25, Try.ntmps25
        go_wp2
        go_ret2
        exact ⟨rfl, rfl⟩
      · have e : isInt (a + b) = true := by simp only [isInt, Bool.and_eq_true, decide_eq_true_eq]; omega
        have e2 : orNone (a + b) = a + b := by rw [orNone, e]; rfl
        rw [e, e2]
        clear e e2
        have c4 : ¬ a < IntKind.i64.wrap (-9223372036854775808 - b) := by rw [IntKind.wrap_i64]; omega
        go_enter Try.func25, Try.ntmps25
        go_wp2
        go_ret2
        exact ⟨rfl, rfl⟩
    · have e : isInt (a + b) = true := by simp only [isInt, Bool.and_eq_true, decide_eq_true_eq]; omega
      have e2 : orNone (a + b) = a + b := by rw [orNone, e]; rfl
      rw [e, e2]
      clear e e2
      go_enter Try.func25, Try.ntmps25
      go_wp2
      go_ret2
      exact ⟨rfl, rfl⟩

/-- the product by its size and the signs of its factors -/
theorem mul_sizes (a b A B : Int) (hA : A = (a.natAbs : Int)) (hB : B = (b.natAbs : Int)) :
    ((a < 0 ∧ ¬ b < 0 ∨ ¬ a < 0 ∧ b < 0) → a * b = -(A * B)) ∧ ((a < 0 ∧ b < 0 ∨ ¬ a < 0 ∧ ¬ b < 0) → a * b = A * B) := by
  constructor
  · rintro (⟨h1, h2⟩ | ⟨h1, h2⟩)
    · have e1 : A = -a := by omega
      have e2 : B = b := by omega
      rw [e1, e2, Int.neg_mul, Int.neg_neg]
    · have e1 : A = a := by omega
      have e2 : B = -b := by omega
      rw [e1, e2, Int.mul_neg, Int.neg_neg]
  · rintro (⟨h1, h2⟩ | ⟨h1, h2⟩)
    · have e1 : A = -a := by omega
      have e2 : B = -b := by omega
      rw [e1, e2, Int.neg_mul_neg]
    · have e1 : A = a := by omega
      have e2 : B = b := by omega
      rw [e1, e2]

/-- Mul where just one factor is below 0 -/
theorem mul_below (a b : Int) (ha : -9223372036854775808 ≤ a ∧ a ≤ 9223372036854775807) (hb : -9223372036854775808 ≤ b ∧ b ≤ 9223372036854775807) (s : a < 0 ∧ ¬ b < 0 ∨ ¬ a < 0 ∧ b < 0) (H S : Int) (w : World)
    (cm : Calls Try.prog 40 #[.int .u64 (sz a), .int .u64 (sz b)] w fun e w' => e = .returned (.tuple #[.int .u64 H, .int .u64 S]) ∧ w' = w)
    (hH : 0 ≤ H) (hS : 0 ≤ S ∧ S < 18446744073709551616) (hP : a * b = -(H * 18446744073709551616 + S)) :
    Calls Try.prog 24 #[.int .i64 a, .int .i64 b] w fun e w' => e = .returned (.tuple #[.int .i64 (orNone (a * b)), .bool (isInt (a * b))]) ∧ w' = w := by
  by_cases h0 : H = 0
  · by_cases h1 : 9223372036854775808 < S
    · have e : isInt (a * b) = false := by simp only [isInt, Bool.and_eq_false_iff, decide_eq_false_iff_not]; omega
      have e2 : orNone (a * b) = 0 := by rw [orNone, e]; rfl
      rw [e, e2]
      clear e e2 hP
      subst h0
      rcases s with ⟨s1, s2⟩ | ⟨s1, s2⟩
      all_goals
        go_enter Try.func24, Try.ntmps24
        go_wp2_with (first | (go_at_call 41; refine (sizeOf_ok _ (by assumption) _).mono ?_; rintro e w' ⟨rfl, hw⟩; rw [hw]) | (go_at_call 40; refine cm.mono ?_; rintro e w' ⟨rfl, hw⟩; rw [hw]))
        go_ret2
        exact ⟨rfl, rfl⟩
    · have e : isInt (a * b) = true := by simp only [isInt, Bool.and_eq_true, decide_eq_true_eq]; omega
      have e2 : orNone (a * b) = -S := by rw [orNone, e]; simp only [if_true]; omega
      have e3 : wrap64 (IntKind.u64.wrap (-S)) = -S := by rw [IntKind.wrap_u64]; unfold wrap64; omega
      rw [e, e2, ← e3]
      clear e e2 hP e3
      subst h0
      rcases s with ⟨s1, s2⟩ | ⟨s1, s2⟩
      all_goals
        go_enter Try.func24, Try.ntmps24
        go_wp2_with (first | (go_at_call 41; refine (sizeOf_ok _ (by assumption) _).mono ?_; rintro e w' ⟨rfl, hw⟩; rw [hw]) | (go_at_call 40; refine cm.mono ?_; rintro e w' ⟨rfl, hw⟩; rw [hw]))
        go_ret2
        exact ⟨rfl, rfl⟩
  · have e : isInt (a * b) = false := by simp only [isInt, Bool.and_eq_false_iff, decide_eq_false_iff_not]; omega
    have e2 : orNone (a * b) = 0 := by rw [orNone, e]; rfl
    rw [e, e2]
    clear e e2 hP
    have h0' : (H == 0) = false := by simpa using h0
    rcases s with ⟨s1, s2⟩ | ⟨s1, s2⟩
    all_goals
      go_enter Try.func24, Try.ntmps24
      go_wp2_with (first | (go_at_call 41; refine (sizeOf_ok _ (by assumption) _).mono ?_; rintro e w' ⟨rfl, hw⟩; rw [hw]) | (go_at_call 40; refine cm.mono ?_; rintro e w' ⟨rfl, hw⟩; rw [hw]))
      go_ret2
      exact ⟨rfl, rfl⟩

/-- Mul where both factors are below 0, or none -/
theorem mul_above (a b : Int) (ha : -9223372036854775808 ≤ a ∧ a ≤ 9223372036854775807) (hb : -9223372036854775808 ≤ b ∧ b ≤ 9223372036854775807) (s : a < 0 ∧ b < 0 ∨ ¬ a < 0 ∧ ¬ b < 0) (H S : Int) (w : World)
    (cm : Calls Try.prog 40 #[.int .u64 (sz a), .int .u64 (sz b)] w fun e w' => e = .returned (.tuple #[.int .u64 H, .int .u64 S]) ∧ w' = w)
    (hH : 0 ≤ H) (hS : 0 ≤ S ∧ S < 18446744073709551616) (hP : a * b = H * 18446744073709551616 + S) :
    Calls Try.prog 24 #[.int .i64 a, .int .i64 b] w fun e w' => e = .returned (.tuple #[.int .i64 (orNone (a * b)), .bool (isInt (a * b))]) ∧ w' = w := by
  by_cases h0 : H = 0
  · by_cases h1 : 9223372036854775807 < S
    · have e : isInt (a * b) = false := by simp only [isInt, Bool.and_eq_false_iff, decide_eq_false_iff_not]; omega
      have e2 : orNone (a * b) = 0 := by rw [orNone, e]; rfl
      rw [e, e2]
      clear e e2 hP
      subst h0
      rcases s with ⟨s1, s2⟩ | ⟨s1, s2⟩
      all_goals
        go_enter Try.func24, Try.ntmps24
        go_wp2_with (first | (go_at_call 41; refine (sizeOf_ok _ (by assumption) _).mono ?_; rintro e w' ⟨rfl, hw⟩; rw [hw]) | (go_at_call 40; refine cm.mono ?_; rintro e w' ⟨rfl, hw⟩; rw [hw]))
        go_ret2
        exact ⟨rfl, rfl⟩
    · have e : isInt (a * b) = true := by simp only [isInt, Bool.and_eq_true, decide_eq_true_eq]; omega
      have e2 : orNone (a * b) = S := by rw [orNone, e]; simp only [if_true]; omega
      rw [e, e2]
      clear e e2 hP
      subst h0
      rcases s with ⟨s1, s2⟩ | ⟨s1, s2⟩
      all_goals
        go_enter Try.func24, Try.ntmps24
        go_wp2_with (first | (go_at_call 41; refine (sizeOf_ok _ (by assumption) _).mono ?_; rintro e w' ⟨rfl, hw⟩; rw [hw]) | (go_at_call 40; refine cm.mono ?_; rintro e w' ⟨rfl, hw⟩; rw [hw]))
        go_ret2
        exact ⟨rfl, rfl⟩
  · have e : isInt (a * b) = false := by simp only [isInt, Bool.and_eq_false_iff, decide_eq_false_iff_not]; omega
    have e2 : orNone (a * b) = 0 := by rw [orNone, e]; rfl
    rw [e, e2]
    clear e e2 hP
    have h0' : (H == 0) = false := by simpa using h0
    rcases s with ⟨s1, s2⟩ | ⟨s1, s2⟩
    all_goals
      go_enter Try.func24, Try.ntmps24
      go_wp2_with (first | (go_at_call 41; refine (sizeOf_ok _ (by assumption) _).mono ?_; rintro e w' ⟨rfl, hw⟩; rw [hw]) | (go_at_call 40; refine cm.mono ?_; rintro e w' ⟨rfl, hw⟩; rw [hw]))
      go_ret2
      exact ⟨rfl, rfl⟩

theorem mul_ok (a b : Int) (ha : -9223372036854775808 ≤ a ∧ a ≤ 9223372036854775807) (hb : -9223372036854775808 ≤ b ∧ b ≤ 9223372036854775807) (w : World) :
    Calls Try.prog 24 #[.int .i64 a, .int .i64 b] w fun e w' => e = .returned (.tuple #[.int .i64 (orNone (a * b)), .bool (isInt (a * b))]) ∧ w' = w := by
  have cm := bmul_ok a.natAbs b.natAbs (by omega) (by omega) w
  have hs := mul_sizes a b (sz a) (sz b) rfl rfl
  have hP : sz a * sz b = ((a.natAbs * b.natAbs / 18446744073709551616 : Nat) : Int) * 18446744073709551616 + ((a.natAbs * b.natAbs % 18446744073709551616 : Nat) : Int) := by
    rw [sz, sz, ← Int.natCast_mul]; omega
  have hS : (0 : Int) ≤ ((a.natAbs * b.natAbs % 18446744073709551616 : Nat) : Int) ∧ ((a.natAbs * b.natAbs % 18446744073709551616 : Nat) : Int) < 18446744073709551616 := by omega
  have hH : (0 : Int) ≤ ((a.natAbs * b.natAbs / 18446744073709551616 : Nat) : Int) := by omega
  rw [hP] at hs
  by_cases s : a < 0 ∧ ¬ b < 0 ∨ ¬ a < 0 ∧ b < 0
  · exact mul_below a b ha hb s _ _ w cm hH hS (hs.1 s)
  · exact mul_above a b ha hb (by omega) _ _ w cm hH hS (hs.2 (by omega))

theorem quo_not (a b c k : Int) (hb2 : 2 ≤ b ∨ b ≤ -2) (hb : -9223372036854775808 ≤ b ∧ b ≤ 9223372036854775807) (hc : -9223372036854775808 ≤ c ∧ c ≤ 9223372036854775807)
    (hk : a * b = c + k * 18446744073709551616) (h0 : k ≠ 0) : wrap64 (c.tdiv b) ≠ a := by
  intro h
  have n1 : (c.tdiv b).natAbs = c.natAbs / b.natAbs := Int.natAbs_tdiv _ _
  have n2 : (c.tmod b).natAbs = c.natAbs % b.natAbs := Int.natAbs_tmod _ _
  have n3 : c.natAbs / b.natAbs ≤ c.natAbs / 2 := Nat.div_le_div_left (by omega) (by omega)
  have n4 : c.natAbs % b.natAbs < b.natAbs := Nat.mod_lt _ (by omega)
  have n5 : b * c.tdiv b + c.tmod b = c := Int.mul_tdiv_add_tmod c b
  have n6 : wrap64 (c.tdiv b) = c.tdiv b := by unfold wrap64; omega
  rw [n6] at h
  rw [h, Int.mul_comm] at n5
  omega

theorem refMul_ok (a b : Int) (ha : -9223372036854775808 ≤ a ∧ a ≤ 9223372036854775807) (hb : -9223372036854775808 ≤ b ∧ b ≤ 9223372036854775807) (w : World) :
    Calls Try.prog 26 #[.int .i64 a, .int .i64 b] w fun e w' => e = .returned (.tuple #[.int .i64 (orNone (a * b)), .bool (isInt (a * b))]) ∧ w' = w := by
  by_cases a0 : a = 0
  · subst a0
    rw [Int.zero_mul]
    go_enter Try.func26, Try.ntmps26
    go_wp2
    go_ret2
    exact ⟨rfl, rfl⟩
  by_cases b0 : b = 0
  · subst b0
    rw [Int.mul_zero]
    go_enter Try.func26, Try.ntmps26
    go_wp2
    go_ret2
    exact ⟨rfl, rfl⟩
  by_cases c1 : a = -1 ∧ b = -9223372036854775808
  · obtain ⟨rfl, rfl⟩ := c1
    go_enter Try.func26, Try.ntmps26
    go_wp2
    go_ret2
    exact ⟨rfl, rfl⟩
  by_cases c2 : b = -1 ∧ a = -9223372036854775808
  · obtain ⟨rfl, rfl⟩ := c2
    go_enter Try.func26, Try.ntmps26
    go_wp2
    go_ret2
    exact ⟨rfl, rfl⟩
  have hm : b = 1 → a * b = a := by rintro rfl; exact Int.mul_one a
  have hm' : b = -1 → a * b = -a := by rintro rfl; exact Int.mul_neg_one a
  have d1 : (a * b).tdiv b = a := Int.mul_tdiv_cancel _ b0
  have t1 : (a == -1) = false ∨ (a == -1) = true ∧ (b == -9223372036854775808) = false := by
    by_cases x : a = -1
    · right; refine ⟨by simpa using x, ?_⟩
      have : ¬ b = -9223372036854775808 := fun y => c1 ⟨x, y⟩
      simpa using this
    · left; simpa using x
  have t2 : (b == -1) = false ∨ (b == -1) = true ∧ (a == -9223372036854775808) = false := by
    by_cases x : b = -1
    · right; refine ⟨by simpa using x, ?_⟩
      have : ¬ a = -9223372036854775808 := fun y => c2 ⟨x, y⟩
      simpa using this
    · left; simpa using x
  have ea : (a == 0) = false := by simpa using a0
  have eb : (b == 0) = false := by simpa using b0
  by_cases c : isInt (a * b) = true
  · have r : -9223372036854775808 ≤ a * b ∧ a * b ≤ 9223372036854775807 := by simpa [isInt] using c
    have e3 : wrap64 (a * b) = a * b := by unfold wrap64; omega
    have e2 : orNone (a * b) = wrap64 (a * b) := by rw [e3, orNone, c]; rfl
    have e4 : wrap64 ((wrap64 (a * b)).tdiv b) = a := by rw [e3, d1]; unfold wrap64; omega
    have e5 : (wrap64 ((wrap64 (a * b)).tdiv b) != a) = false := by simpa using e4
    rw [c, e2]
    clear c e2 r d1 hm hm' c1 c2 e3 e4
    rcases t1 with x | ⟨x, y⟩ <;> rcases t2 with z | ⟨z, u⟩
    all_goals
      go_enter Try.func26, Try.ntmps26
      go_wp2
      go_ret2
      exact ⟨rfl, rfl⟩
  · have c' : isInt (a * b) = false := by simpa using c
    have r : ¬ (-9223372036854775808 ≤ a * b ∧ a * b ≤ 9223372036854775807) := by simpa [isInt] using c
    have e2 : orNone (a * b) = 0 := by rw [orNone, c']; rfl
    have hC : -9223372036854775808 ≤ wrap64 (a * b) ∧ wrap64 (a * b) ≤ 9223372036854775807 := by unfold wrap64; omega
    have e4 : wrap64 ((wrap64 (a * b)).tdiv b) ≠ a := by
      refine quo_not a b (wrap64 (a * b)) ((a * b - wrap64 (a * b)) / 18446744073709551616) ?_ hb hC ?_ ?_
      · omega
      · unfold wrap64; omega
      · unfold wrap64; omega
    rw [c', e2]
    have e3 : (wrap64 ((wrap64 (a * b)).tdiv b) != a) = true := by simpa using e4
    clear c c' e2 r d1 hm hm' c1 c2 hC e4
    rcases t1 with x | ⟨x, y⟩ <;> rcases t2 with z | ⟨z, u⟩
    all_goals
      go_enter Try.func26, Try.ntmps26
      go_wp2
      go_ret2
      exact ⟨rfl, rfl⟩
end Go.Proofs.Ytbefokclbcdmhaa
