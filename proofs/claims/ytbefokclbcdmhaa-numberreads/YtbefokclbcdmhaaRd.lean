/-
  What number.Low and number.High tell.
-/
import Derived.Test.YtbefokclbcdmhaaPutTwo
namespace Go.Proofs.Ytbefokclbcdmhaa
open Go.RowKit

/-- three numbers, as a call tells them -/
def tri (r : Nat × Nat × Nat) : Value := .tuple #[.int .u64 (r.1 : Int), .int .i64 (r.2.1 : Int), .int .i64 (r.2.2 : Int)]

theorem within_ok (a : Option Addr) (len cap : Nat) (p : Int) (w : World) : Calls Try.prog 35 #[.slice a len cap, .int .i64 p] w fun e w' => e = .returned (.bool (decide (0 ≤ p) && decide (p ≤ len))) ∧ w' = w := by
  by_cases h : 0 ≤ p
  · go_enter Try.func35, Try.ntmps35
    go_wp2
    go_ret
    refine ⟨?_, rfl⟩
    simp [h]
  · have : (decide (0 ≤ p) && decide (p ≤ (len : Int))) = false := by simp [h]
    rw [this]
    clear this
    go_enter Try.func35, Try.ntmps35
    go_wp2
    go_ret
    exact ⟨rfl, rfl⟩

theorem or_add (v d i : Nat) (hv : v < 2 ^ i) : v ||| d * 2 ^ i = v + d * 2 ^ i := by
  have := Nat.two_pow_add_eq_or_of_lt (i := i) (b := v) hv d
  rw [Nat.or_comm, Nat.mul_comm, ← this]
  omega

/-- the number of n bytes at p, the highest first, of which i are read -/
def hiN (zs : List Nat) (p n : Nat) : Nat → Nat
  | 0 => 0
  | i + 1 => hiN zs p n i + zs.getD (p + i) 0 * 256 ^ (n - 1 - i)

theorem hiN_form (zs : List Nat) (p n : Nat) (hs : ∀ j, zs.getD j 0 < 256) : ∀ i, i ≤ n → ∃ q, hiN zs p n i = q * 256 ^ (n - i) ∧ q < 256 ^ i
  | 0, _ => ⟨0, by simp [hiN], by simp⟩
  | i + 1, h => by
    obtain ⟨q, e, hq⟩ := hiN_form zs p n hs i (by omega)
    refine ⟨q * 256 + zs.getD (p + i) 0, ?_, ?_⟩
    · rw [hiN, e, show n - i = (n - (i + 1)) + 1 by omega, Nat.pow_succ, show n - 1 - i = n - (i + 1) by omega, Nat.add_mul, Nat.mul_assoc, Nat.mul_comm 256]
    · have := hs (p + i)
      rw [Nat.pow_succ]; omega

theorem hiN_lt (zs : List Nat) (p n : Nat) (hs : ∀ j, zs.getD j 0 < 256) (hn : n ≤ 8) (i : Nat) (hi : i ≤ n) : hiN zs p n i < 18446744073709551616 := by
  obtain ⟨q, e, hq⟩ := hiN_form zs p n hs i hi
  rw [e]
  have h1 : q * 256 ^ (n - i) < 256 ^ i * 256 ^ (n - i) := Nat.mul_lt_mul_of_pos_right hq (Nat.pow_pos (by omega))
  rw [← Nat.pow_add, show i + (n - i) = n by omega] at h1
  have h2 : 256 ^ n ≤ 256 ^ 8 := Nat.pow_le_pow_right (by omega) hn
  omega

theorem getD_small {zs : List Nat} (hs : ∀ z ∈ zs, z < 256) (j : Nat) : zs.getD j 0 < 256 := by
  by_cases h : j < zs.length
  · exact hs _ (getD_mem zs j h)
  · rw [List.getD_eq_getElem?_getD, List.getElem?_eq_none (by omega)]; simp

theorem hi_or (zs : List Nat) (p n i : Nat) (hs : ∀ j, zs.getD j 0 < 256) (hi : i < n) : hiN zs p n i ||| zs.getD (p + i) 0 * 2 ^ (8 * (n - 1 - i)) = hiN zs p n (i + 1) := by
  obtain ⟨q, e, hq⟩ := hiN_form zs p n hs i (by omega)
  have e8 : ∀ k, 256 ^ k = 2 ^ (8 * k) := fun k => by rw [Nat.pow_mul]
  have hz := hs (p + i)
  rw [hiN, e, e8, e8, show 8 * (n - i) = 8 * (n - 1 - i) + 8 by omega]
  have hlt : zs.getD (p + i) 0 * 2 ^ (8 * (n - 1 - i)) < 2 ^ (8 * (n - 1 - i) + 8) := by
    rw [Nat.pow_add, Nat.mul_comm]
    exact Nat.mul_lt_mul_of_pos_left (by omega) (Nat.pow_pos (by omega))
  rw [Nat.or_comm, or_add _ q _ hlt]
  omega

set_option maxRecDepth 100000 in
set_option maxHeartbeats 1000000 in
theorem get_ok31 (v : Value) (zs : List Nat) (p n : Nat) (w : World) (hr : Reads w v zs) (hp : p + n ≤ zs.length) (hn1 : 1 ≤ n ∧ n ≤ 8) (hs : ∀ z ∈ zs, z < 256) (hn : zs.length ≤ 140737488355328) :
    Calls Try.prog 34 #[v, .int .i64 (p : Int), .int .i64 (n : Int), .func (.func 31) #[] #[]] w fun e w' => e = .returned (tri (hiN zs p n n, p + n, 0)) ∧ Below w.heap.size w w' := by
  obtain ⟨a, cap, rfl, hsrc⟩ := hr.spot
  have HS := hide hsrc
  have hs2 := getD_small hs
  have HSM := hide hs2
  clear hsrc hr hs hs2
  have cw := within_ok a zs.length cap p
  have hb : (decide ((0 : Int) ≤ p) && decide ((p : Int) ≤ zs.length)) = true := by simp; omega
  rw [hb] at cw
  clear hb
  have h1 : ¬ (n : Int) < 1 := by omega
  have h2 : ¬ 8 < (n : Int) := by omega
  have h3 : ¬ (zs.length : Int) - p < n := by omega
  go_enter Try.func34, Try.ntmps34
  go_wp2_with (go_at_call 35; refine (cw _).mono ?_; rintro e w' ⟨rfl, hw⟩; rw [hw])
  go_loopg [8, 11, 31] n (fun gk v u c ws => ∃ i : Nat, gk = n - i ∧ i ≤ n ∧ c = .int .i64 (i : Int) ∧ v = .int .u64 ((hiN zs p n i : Nat) : Int) ∧ Below w.heap.size w ws)
  case atStart => exact ⟨0, by omega, by omega, rfl, rfl, Below.refl _ _⟩
  case round =>
    obtain ⟨i, rfl, hil, rfl, rfl, hbel⟩ := hrel
    by_cases hlt : i < n
    · have hlt' : (i : Int) < (n : Int) := by omega
      obtain ⟨ab, ao, rfl, hcell⟩ := unhide HS (by omega)
      have hcl := cell_stays hbel (hcell (p + i) (by omega))
      have HNX : Hid (hiN zs p n (i + 1) = hiN zs p n i ||| zs.getD (p + i) 0 * 2 ^ (8 * (n - 1 - i))) := hide (hi_or zs p n i (unhide HSM) hlt).symm
      have hA := hiN_lt zs p n (unhide HSM) hn1.2 i (by omega)
      have hz := unhide HSM (p + i)
      have hcw := which31 i n hlt hn1.2
      have hr8 : n - 1 - i ≤ 7 := by omega
      generalize n - 1 - i = r at HNX hcw hr8
      generalize zs.getD (p + i) 0 = c at hcl hz HNX
      generalize hiN zs p n i = V at hA HNX ⊢
      have hsh : c * 2 ^ (8 * r) < 18446744073709551616 := by
        have e1 : 2 ^ (8 * r) ≤ 2 ^ 56 := Nat.pow_le_pow_right (by omega) (by omega)
        have e2 : c * 2 ^ (8 * r) ≤ 255 * 2 ^ 56 := Nat.mul_le_mul (by omega) e1
        omega
      have hor : bits .or .u64 (V : Int) (IntKind.u64.wrap ((c : Int) * 2 ^ (8 * r))) = ((V ||| c * 2 ^ (8 * r) : Nat) : Int) := by
        have e1 : ((c : Int) * 2 ^ (8 * r)) = ((c * 2 ^ (8 * r) : Nat) : Int) := by simp
        rw [e1, IntKind.wrap_u64, show ((c * 2 ^ (8 * r) : Nat) : Int) % 18446744073709551616 = ((c * 2 ^ (8 * r) : Nat) : Int) by omega]
        exact u64_or_nat V _ hA hsh
      generalize V ||| c * 2 ^ (8 * r) = N at hor HNX
      have hcl' : wr.cell? ⟨ab, ao + (p + i), none⟩ = some (.int .u8 (c : Int)) := hcl
      have h4 : (0 : Int) ≤ 8 * (r : Int) := by omega
      have hlt2 : (p : Int) + i < zs.length := by omega
      have HB := hide hbel
      clear hcell hcl hbel hsh
      go_wp2_with fail
      go_quiet (first | (go_at_call 31; refine Calls.quiet_of_same (hcw _)))
      go_wp2_with fail
      go_roundg (n - (i + 1))
      case measure => omega
      case rel => exact ⟨i + 1, rfl, by omega, by go_num, by rw [unhide HNX], (unhide HB).trans ⟨rfl, rfl, rfl, Nat.le_refl _, fun _ _ => rfl⟩⟩
    · obtain rfl : i = n := by omega
      have HB := hide hbel
      clear hbel
      go_wp2_with fail
      go_ret3
      exact ⟨rfl, unhide HB⟩

/-- the number of i bytes at p, the lowest first -/
def loN (zs : List Nat) (p : Nat) : Nat → Nat
  | 0 => 0
  | i + 1 => loN zs p i + zs.getD (p + i) 0 * 256 ^ i

theorem loN_pow (zs : List Nat) (p : Nat) (hs : ∀ j, zs.getD j 0 < 256) : ∀ i, loN zs p i < 256 ^ i
  | 0 => by simp [loN]
  | i + 1 => by
    have h1 := loN_pow zs p hs i
    have h2 : zs.getD (p + i) 0 * 256 ^ i ≤ 255 * 256 ^ i := Nat.mul_le_mul (by have := hs (p + i); omega) (Nat.le_refl _)
    rw [loN, Nat.pow_succ]; omega
theorem loN_lt (zs : List Nat) (p : Nat) (hs : ∀ j, zs.getD j 0 < 256) (i : Nat) (hi : i ≤ 8) : loN zs p i < 18446744073709551616 := by
  have h1 := loN_pow zs p hs i
  have h2 : 256 ^ i ≤ 256 ^ 8 := Nat.pow_le_pow_right (by omega) hi
  omega
theorem lo_or (zs : List Nat) (p i : Nat) (hs : ∀ j, zs.getD j 0 < 256) : loN zs p i ||| zs.getD (p + i) 0 * 2 ^ (8 * i) = loN zs p (i + 1) := by
  have e8 : 256 ^ i = 2 ^ (8 * i) := by rw [Nat.pow_mul]
  have h := loN_pow zs p hs i
  rw [e8] at h
  rw [or_add _ _ _ h, loN, e8]

set_option maxRecDepth 100000 in
set_option maxHeartbeats 1000000 in
theorem get_ok28 (v : Value) (zs : List Nat) (p n : Nat) (w : World) (hr : Reads w v zs) (hp : p + n ≤ zs.length) (hn1 : 1 ≤ n ∧ n ≤ 8) (hs : ∀ z ∈ zs, z < 256) (hn : zs.length ≤ 140737488355328) :
    Calls Try.prog 34 #[v, .int .i64 (p : Int), .int .i64 (n : Int), .func (.func 28) #[] #[]] w fun e w' => e = .returned (tri (loN zs p n, p + n, 0)) ∧ Below w.heap.size w w' := by
  obtain ⟨a, cap, rfl, hsrc⟩ := hr.spot
  have HS := hide hsrc
  have hs2 := getD_small hs
  have HSM := hide hs2
  clear hsrc hr hs hs2
  have cw := within_ok a zs.length cap p
  have hb : (decide ((0 : Int) ≤ p) && decide ((p : Int) ≤ zs.length)) = true := by simp; omega
  rw [hb] at cw
  clear hb
  have h1 : ¬ (n : Int) < 1 := by omega
  have h2 : ¬ 8 < (n : Int) := by omega
  have h3 : ¬ (zs.length : Int) - p < n := by omega
  go_enter Try.func34, Try.ntmps34
  go_wp2_with (go_at_call 35; refine (cw _).mono ?_; rintro e w' ⟨rfl, hw⟩; rw [hw])
  go_loopg [8, 11, 31] n (fun gk v u c ws => ∃ i : Nat, gk = n - i ∧ i ≤ n ∧ c = .int .i64 (i : Int) ∧ v = .int .u64 ((loN zs p i : Nat) : Int) ∧ Below w.heap.size w ws)
  case atStart => exact ⟨0, by omega, by omega, rfl, rfl, Below.refl _ _⟩
  case round =>
    obtain ⟨i, rfl, hil, rfl, rfl, hbel⟩ := hrel
    by_cases hlt : i < n
    · have hlt' : (i : Int) < (n : Int) := by omega
      obtain ⟨ab, ao, rfl, hcell⟩ := unhide HS (by omega)
      have hcl := cell_stays hbel (hcell (p + i) (by omega))
      have HNX : Hid (loN zs p (i + 1) = loN zs p i ||| zs.getD (p + i) 0 * 2 ^ (8 * i)) := hide (lo_or zs p i (unhide HSM)).symm
      have hA := loN_lt zs p (unhide HSM) i (by omega)
      have hz := unhide HSM (p + i)
      have hcw := (fun w => which28 (i : Int) (n : Int) w)
      have hr8 : i ≤ 7 := by omega
      generalize zs.getD (p + i) 0 = c at hcl hz HNX
      generalize loN zs p i = V at hA HNX ⊢
      have hsh : c * 2 ^ (8 * i) < 18446744073709551616 := by
        have e1 : 2 ^ (8 * i) ≤ 2 ^ 56 := Nat.pow_le_pow_right (by omega) (by omega)
        have e2 : c * 2 ^ (8 * i) ≤ 255 * 2 ^ 56 := Nat.mul_le_mul (by omega) e1
        omega
      have hor : bits .or .u64 (V : Int) (IntKind.u64.wrap ((c : Int) * 2 ^ (8 * i))) = ((V ||| c * 2 ^ (8 * i) : Nat) : Int) := by
        have e1 : ((c : Int) * 2 ^ (8 * i)) = ((c * 2 ^ (8 * i) : Nat) : Int) := by simp
        rw [e1, IntKind.wrap_u64, show ((c * 2 ^ (8 * i) : Nat) : Int) % 18446744073709551616 = ((c * 2 ^ (8 * i) : Nat) : Int) by omega]
        exact u64_or_nat V _ hA hsh
      generalize V ||| c * 2 ^ (8 * i) = N at hor HNX
      have hcl' : wr.cell? ⟨ab, ao + (p + i), none⟩ = some (.int .u8 (c : Int)) := hcl
      have h4 : (0 : Int) ≤ 8 * (i : Int) := by omega
      have hlt2 : (p : Int) + i < zs.length := by omega
      have HB := hide hbel
      clear hcell hcl hbel hsh
      go_wp2_with fail
      go_quiet (first | (go_at_call 28; refine Calls.quiet_of_same (hcw _)))
      go_wp2_with fail
      go_roundg (n - (i + 1))
      case measure => omega
      case rel => exact ⟨i + 1, rfl, by omega, by go_num, by rw [unhide HNX], (unhide HB).trans ⟨rfl, rfl, rfl, Nat.le_refl _, fun _ _ => rfl⟩⟩
    · obtain rfl : i = n := by omega
      have HB := hide hbel
      clear hbel
      go_wp2_with fail
      go_ret3
      exact ⟨rfl, unhide HB⟩

end Go.Proofs.Ytbefokclbcdmhaa
