/- Numbers of two bytes: number.High and the document's Read. -/
import Derived.Test.YthafoojlkaifkaaBase
namespace Go.Proofs.Ythafoojlkaifkaa
open Go.RowKit
/-- three numbers, as a call tells them -/
def tri (r : Nat × Nat × Nat) : Value := .tuple #[.int .u64 (r.1 : Int), .int .i64 (r.2.1 : Int), .int .i64 (r.2.2 : Int)]


theorem within_ok (a : Option Addr) (len cap : Nat) (p : Int) (w : World) : Calls Try.prog 31 #[.slice a len cap, .int .i64 p] w fun e w' => e = .returned (.bool (decide (0 ≤ p) && decide (p ≤ len))) ∧ w' = w := by
  by_cases h : 0 ≤ p
  · go_enter Try.func31, Try.ntmps31
    go_wp2
    go_ret
    refine ⟨?_, rfl⟩
    simp [h]
  · have : (decide (0 ≤ p) && decide (p ≤ (len : Int))) = false := by simp [h]
    rw [this]
    clear this
    go_enter Try.func31, Try.ntmps31
    go_wp2
    go_ret
    exact ⟨rfl, rfl⟩


theorem or_add (v d i : Nat) (hv : v < 2 ^ i) : v ||| d * 2 ^ i = v + d * 2 ^ i := by
  have := Nat.two_pow_add_eq_or_of_lt (i := i) (b := v) hv d
  rw [Nat.or_comm, Nat.mul_comm, ← this]
  omega


/-- the number of n bytes at p, the highest first, of which i are read -/
def hiN (zs : List Nat) (p n : Nat) : Nat → Nat
  | 0 => 0
  | i + 1 => hiN zs p n i + zs.getD (p + i) 0 * 256 ^ (n - 1 - i)


theorem hiN_form (zs : List Nat) (p n : Nat) (hs : ∀ j, zs.getD j 0 < 256) : ∀ i, i ≤ n → ∃ q, hiN zs p n i = q * 256 ^ (n - i) ∧ q < 256 ^ i
  | 0, _ => ⟨0, by simp [hiN], by simp⟩
  | i + 1, h => by
    obtain ⟨q, e, hq⟩ := hiN_form zs p n hs i (by omega)
    refine ⟨q * 256 + zs.getD (p + i) 0, ?_, ?_⟩
    · rw [hiN, e, show n - i = (n - (i + 1)) + 1 by omega, Nat.pow_succ, show n - 1 - i = n - (i + 1) by omega, Nat.add_mul, Nat.mul_assoc, Nat.mul_comm 256]
    · have := hs (p + i)
      rw [Nat.pow_succ]; omega


theorem hiN_lt (zs : List Nat) (p n : Nat) (hs : ∀ j, zs.getD j 0 < 256) (hn : n ≤ 8) (i : Nat) (hi : i ≤ n) : hiN zs p n i < 18446744073709551616 := by
  obtain ⟨q, e, hq⟩ := hiN_form zs p n hs i hi
  rw [e]
  have h1 : q * 256 ^ (n - i) < 256 ^ i * 256 ^ (n - i) := Nat.mul_lt_mul_of_pos_right hq (Nat.pow_pos (by omega))
  rw [← Nat.pow_add, show i + (n - i) = n by omega] at h1
  have h2 : 256 ^ n ≤ 256 ^ 8 := Nat.pow_le_pow_right (by omega) hn
  omega


theorem getD_small {zs : List Nat} (hs : ∀ z ∈ zs, z < 256) (j : Nat) : zs.getD j 0 < 256 := by
  by_cases h : j < zs.length
  · exact hs _ (getD_mem zs j h)
  · rw [List.getD_eq_getElem?_getD, List.getElem?_eq_none (by omega)]; simp


theorem hi_or (zs : List Nat) (p n i : Nat) (hs : ∀ j, zs.getD j 0 < 256) (hi : i < n) : hiN zs p n i ||| zs.getD (p + i) 0 * 2 ^ (8 * (n - 1 - i)) = hiN zs p n (i + 1) := by
  obtain ⟨q, e, hq⟩ := hiN_form zs p n hs i (by omega)
  have e8 : ∀ k, 256 ^ k = 2 ^ (8 * k) := fun k => by rw [Nat.pow_mul]
  have hz := hs (p + i)
  rw [hiN, e, e8, e8, show 8 * (n - i) = 8 * (n - 1 - i) + 8 by omega]
  have hlt : zs.getD (p + i) 0 * 2 ^ (8 * (n - 1 - i)) < 2 ^ (8 * (n - 1 - i) + 8) := by
    rw [Nat.pow_add, Nat.mul_comm]
    exact Nat.mul_lt_mul_of_pos_left (by omega) (Nat.pow_pos (by omega))
  rw [Nat.or_comm, or_add _ q _ hlt]
  omega


theorem which29 (i n : Nat) (h : i < n) (hn : n ≤ 8) (w : World) : Calls Try.prog 29 #[.int .i64 (i : Int), .int .i64 (n : Int)] w fun e w' => e = .returned (.int .i64 (((n - 1 - i : Nat)) : Int)) ∧ w' = w := by
  go_enter Try.func29, Try.ntmps29
  go_wp2
  go_ret
  refine ⟨?_, rfl⟩
  rw [show (((n - 1 - i : Nat)) : Int) = (n : Int) - 1 - i by omega]
  rfl


set_option maxRecDepth 100000 in
set_option maxHeartbeats 1000000 in
theorem get_ok29 (v : Value) (zs : List Nat) (p n : Nat) (w : World) (hr : Reads w v zs) (hp : p + n ≤ zs.length) (hn1 : 1 ≤ n ∧ n ≤ 8) (hs : ∀ z ∈ zs, z < 256) (hn : zs.length ≤ 140737488355328) :
    Calls Try.prog 28 #[v, .int .i64 (p : Int), .int .i64 (n : Int), .func (.func 29) #[] #[]] w fun e w' => e = .returned (tri (hiN zs p n n, p + n, 0)) ∧ Below w.heap.size w w' := by
  obtain ⟨a, cap, rfl, hsrc⟩ := hr.spot
  have HS := hide hsrc
  have hs2 := getD_small hs
  have HSM := hide hs2
  clear hsrc hr hs hs2
  have cw := within_ok a zs.length cap p
  have hb : (decide ((0 : Int) ≤ p) && decide ((p : Int) ≤ zs.length)) = true := by simp; omega
  rw [hb] at cw
  clear hb
  have h1 : ¬ (n : Int) < 1 := by omega
  have h2 : ¬ 8 < (n : Int) := by omega
  have h3 : ¬ (zs.length : Int) - p < n := by omega
  go_enter Try.func28, Try.ntmps28
  go_wp2_with (go_at_call 31; refine (cw _).mono ?_; rintro e w' ⟨rfl, hw⟩; rw [hw])
  go_loopg [8, 11, 31] n (fun gk v u c ws => ∃ i : Nat, gk = n - i ∧ i ≤ n ∧ c = .int .i64 (i : Int) ∧ v = .int .u64 ((hiN zs p n i : Nat) : Int) ∧ Below w.heap.size w ws)
  case atStart => exact ⟨0, by omega, by omega, rfl, rfl, Below.refl _ _⟩
  case round =>
    obtain ⟨i, rfl, hil, rfl, rfl, hbel⟩ := hrel
    by_cases hlt : i < n
    · have hlt' : (i : Int) < (n : Int) := by omega
      obtain ⟨ab, ao, rfl, hcell⟩ := unhide HS (by omega)
      have hcl := cell_stays hbel (hcell (p + i) (by omega))
      have HNX : Hid (hiN zs p n (i + 1) = hiN zs p n i ||| zs.getD (p + i) 0 * 2 ^ (8 * (n - 1 - i))) := hide (hi_or zs p n i (unhide HSM) hlt).symm
      have hA := hiN_lt zs p n (unhide HSM) hn1.2 i (by omega)
      have hz := unhide HSM (p + i)
      have hcw := which29 i n hlt hn1.2
      have hr8 : n - 1 - i ≤ 7 := by omega
      generalize n - 1 - i = r at HNX hcw hr8
      generalize zs.getD (p + i) 0 = c at hcl hz HNX
      generalize hiN zs p n i = V at hA HNX ⊢
      have hsh : c * 2 ^ (8 * r) < 18446744073709551616 := by
        have e1 : 2 ^ (8 * r) ≤ 2 ^ 56 := Nat.pow_le_pow_right (by omega) (by omega)
        have e2 : c * 2 ^ (8 * r) ≤ 255 * 2 ^ 56 := Nat.mul_le_mul (by omega) e1
        omega
      have hor : bits .or .u64 (V : Int) (IntKind.u64.wrap ((c : Int) * 2 ^ (8 * r))) = ((V ||| c * 2 ^ (8 * r) : Nat) : Int) := by
        have e1 : ((c : Int) * 2 ^ (8 * r)) = ((c * 2 ^ (8 * r) : Nat) : Int) := by simp
        rw [e1, IntKind.wrap_u64, show ((c * 2 ^ (8 * r) : Nat) : Int) % 18446744073709551616 = ((c * 2 ^ (8 * r) : Nat) : Int) by omega]
        exact u64_or_nat V _ hA hsh
      generalize V ||| c * 2 ^ (8 * r) = N at hor HNX
      have hcl' : wr.cell? ⟨ab, ao + (p + i), none⟩ = some (.int .u8 (c : Int)) := hcl
      have h4 : (0 : Int) ≤ 8 * (r : Int) := by omega
      have hlt2 : (p : Int) + i < zs.length := by omega
      have HB := hide hbel
      clear hcell hcl hbel hsh
      go_wp2_with fail
      go_quiet (first | (go_at_call 29; refine Calls.quiet_of_same (hcw _)))
      go_wp2_with fail
      go_roundg (n - (i + 1))
      case measure => omega
      case rel => exact ⟨i + 1, rfl, by omega, by go_num, by rw [unhide HNX], (unhide HB).trans ⟨rfl, rfl, rfl, Nat.le_refl _, fun _ _ => rfl⟩⟩
    · obtain rfl : i = n := by omega
      have HB := hide hbel
      clear hbel
      go_wp2_with fail
      go_ret3
      exact ⟨rfl, unhide HB⟩


/-- the value of n bytes at p -/
def valN (high : Bool) (zs : List Nat) (p n : Nat) : Nat := if high then hiN zs p n n else 0

/-- what is read: the number, the place behind it, the error -/
def rdRes (high : Bool) (zs : List Nat) (p n : Int) : Nat × Nat × Nat :=
  if n < 1 ∨ 8 < n ∨ p < 0 ∨ (zs.length : Int) < p then (0, 0, 2) else if (zs.length : Int) - p < n then (0, 0, 10) else (valN high zs p.toNat n.toNat, p.toNat + n.toNat, 0)


theorem rd_arg {high : Bool} {zs : List Nat} {p n : Int} (h : n < 1 ∨ 8 < n ∨ p < 0 ∨ (zs.length : Int) < p) : rdRes high zs p n = (0, 0, 2) := by rw [rdRes, if_pos h]

theorem rd_end {high : Bool} {zs : List Nat} {p n : Int} (h : ¬ (n < 1 ∨ 8 < n ∨ p < 0 ∨ (zs.length : Int) < p)) (h2 : (zs.length : Int) - p < n) : rdRes high zs p n = (0, 0, 10) := by rw [rdRes, if_neg h, if_pos h2]

theorem rd_yes {high : Bool} {zs : List Nat} {p n : Nat} (h : ¬ ((n : Int) < 1 ∨ 8 < (n : Int) ∨ (p : Int) < 0 ∨ (zs.length : Int) < p)) (h2 : ¬ (zs.length : Int) - p < n) : rdRes high zs p n = (valN high zs p n, p + n, 0) := by
  rw [rdRes, if_neg h, if_neg h2]; simp


/-- the document's way: the number of the first i bytes of x, the highest first -/
def upN (xs : List Nat) : Nat → Nat
  | 0 => 0
  | i + 1 => upN xs i * 256 + xs.getD i 0


theorem upN_lt (xs : List Nat) (hs : ∀ j, xs.getD j 0 < 256) : ∀ i, upN xs i < 256 ^ i
  | 0 => by simp [upN]
  | i + 1 => by
    have := upN_lt xs hs i
    have := hs i
    rw [upN, Nat.pow_succ]; omega


theorem up_hi (zs : List Nat) (p n : Nat) (h : p + n ≤ zs.length) : ∀ i, i ≤ n → hiN zs p n i = upN ((zs.drop p).take n) i * 256 ^ (n - i)
  | 0, _ => by simp [hiN, upN]
  | i + 1, hi => by
    have e : ((zs.drop p).take n).getD i 0 = zs.getD (p + i) 0 := by
      simp [List.getD_eq_getElem?_getD, show i < n by omega, List.getElem?_drop]
    rw [hiN, up_hi zs p n h i (by omega), upN, e, show n - i = (n - (i + 1)) + 1 by omega, Nat.pow_succ, show n - 1 - i = n - (i + 1) by omega, Nat.add_mul, Nat.mul_assoc, Nat.mul_comm 256]


theorem up_val (zs : List Nat) (p n : Nat) (h : p + n ≤ zs.length) : valN true zs p n = upN (if true then (zs.drop p).take n else ((zs.drop p).take n).reverse) n := by
  have := up_hi zs p n h n (Nat.le_refl _)
  simp at this
  simpa [valN] using this

set_option maxRecDepth 100000 in
set_option maxHeartbeats 1000000 in
theorem refRead_high (a : Option Addr) (cap : Nat) (zs : List Nat) (p n : Int) (w : World) (hr : Reads w (.slice a zs.length cap) zs) (hs : ∀ z ∈ zs, z < 256) (hl : zs.length ≤ 140737488355328) (hc : zs.length ≤ cap) :
    Calls Try.prog 14 #[.slice a zs.length cap, .int .i64 p, .int .i64 n, .bool true] w fun e w' => e = .returned (tri (rdRes true zs p n)) ∧ w' = w := by
  by_cases h1 : n < 1
  · rw [rd_arg (by omega)]
    go_enter Try.func14, Try.ntmps14
    go_wp2_with fail
    go_ret3
    exact ⟨rfl, rfl⟩
  by_cases h2 : 8 < n
  · rw [rd_arg (by omega)]
    go_enter Try.func14, Try.ntmps14
    go_wp2_with fail
    go_ret3
    exact ⟨rfl, rfl⟩
  by_cases h3 : p < 0
  · rw [rd_arg (by omega)]
    go_enter Try.func14, Try.ntmps14
    go_wp2_with fail
    go_ret3
    exact ⟨rfl, rfl⟩
  by_cases h4 : (zs.length : Int) < p
  · rw [rd_arg (by omega)]
    go_enter Try.func14, Try.ntmps14
    go_wp2_with fail
    go_ret3
    exact ⟨rfl, rfl⟩
  by_cases h5 : (zs.length : Int) - p < n
  · rw [rd_end (by omega) h5]
    go_enter Try.func14, Try.ntmps14
    go_wp2_with fail
    go_ret3
    exact ⟨rfl, rfl⟩
  obtain ⟨N, rfl⟩ := Int.eq_ofNat_of_zero_le (show 0 ≤ n by omega)
  obtain ⟨P, rfl⟩ := Int.eq_ofNat_of_zero_le (show 0 ≤ p by omega)
  rw [rd_yes (by omega) h5, up_val zs P N (by omega)]
  obtain ⟨ab, ao, rfl, hcell⟩ : ∃ ab ao, a = some ⟨ab, ao, none⟩ ∧ ∀ j, j < zs.length → w.cell? ⟨ab, ao + j, none⟩ = some (.int .u8 ((zs.getD j 0 : Nat) : Int)) := by
    obtain ⟨a', c', e, h⟩ := hr.spot
    injection e with e1
    subst e1
    obtain ⟨b, o, e2, h3⟩ := h (by omega)
    exact ⟨b, o, e2, h3⟩
  have HX : Hid (Reads w (.slice (some ⟨ab, ao + P, none⟩) N (cap - P)) ((zs.drop P).take N)) := by
    have hlen : ((zs.drop P).take N).length = N := by simp; omega
    refine hide ⟨_, _, by rw [hlen], fun _ => ⟨_, rfl, fun j u hj => ?_⟩⟩
    have hjN : j < N := by have := (List.getElem?_eq_some_iff.1 hj).1; rw [List.length_map] at this; omega
    have e : (⟨ab, ao + P, none⟩ : Addr).add j = ⟨ab, ao + (P + j), none⟩ := by by_cases hq : j = 0 <;> simp [Addr.add, hq] <;> omega
    rw [e, hcell (P + j) (by omega)]
    rw [List.getElem?_map, List.getElem?_take, if_pos hjN, List.getElem?_drop, List.getElem?_eq_getElem (by omega)] at hj
    simp only [Option.map_some, bv] at hj
    rw [← hj]
    simp [List.getD_eq_getElem?_getD, show P + j < zs.length by omega]
  have hlen : ((zs.drop P).take N).length = N := by simp; omega
  have hsx : ∀ z ∈ (zs.drop P).take N, z < 256 := fun z hz => hs z (List.mem_of_mem_drop (List.mem_of_mem_take hz))
  simp only [if_true]
  generalize (zs.drop P).take N = xs at HX hlen hsx ⊢
  subst hlen
  have hN8 : xs.length ≤ 8 := by omega
  have hN1 : 1 ≤ xs.length := by omega
  have hcI : (zs.length : Int) ≤ (cap : Int) := by omega
  have hPN : (P : Int) + (xs.length : Int) ≤ (zs.length : Int) := by omega
  have HSX := hide hsx
  clear hcell hr hs hsx
  go_enter Try.func14, Try.ntmps14
  go_wp2_with fail
  have HSM := hide (getD_small (unhide HSX))
  have HCELL : Hid (∀ j, j < xs.length → w.cell? ⟨ab, ao + P + j, none⟩ = some (.int .u8 ((xs.getD j 0 : Nat) : Int))) := by
    obtain ⟨a', c', e, h⟩ := (unhide HX).spot
    injection e with e1
    obtain ⟨b, o, e2, h3⟩ := h (by omega)
    rw [e2] at e1
    injection e1 with e1
    injection e1 with e4 e5
    subst e4 e5
    exact hide h3
  go_loopg [12, 13] xs.length (fun gk v c ws => ∃ i : Nat, gk = xs.length - i ∧ i ≤ xs.length ∧ c = .int .i64 (i : Int) ∧ v = .int .u64 ((upN xs i : Nat) : Int) ∧ ws = w)
  case atStart => exact ⟨0, by omega, by omega, rfl, rfl, rfl⟩
  case round =>
    obtain ⟨i, rfl, hil, rfl, rfl, rfl⟩ := hrel
    by_cases hlt : i < xs.length
    · have hlt' : (i : Int) < (xs.length : Int) := by omega
      have hcl := unhide HCELL i hlt
      have hz := unhide HSM i
      have hU := upN_lt xs (unhide HSM) i
      have hU2 : upN xs i < 72057594037927936 := by
        have : 256 ^ i ≤ 256 ^ 7 := Nat.pow_le_pow_right (by omega) (by omega)
        omega
      have HU : Hid (upN xs (i + 1) = upN xs i * 256 + xs.getD i 0) := hide rfl
      generalize (xs).getD i 0 = c at hcl hz HU
      generalize upN xs i = U at hU hU2 HU ⊢
      clear hU
      go_wp2_with fail
      go_roundg (xs.length - (i + 1))
      case measure => omega
      case rel => exact ⟨i + 1, rfl, by omega, by go_num, by rw [unhide HU]; go_num, rfl⟩
    · obtain rfl : i = xs.length := by omega
      go_wp2_with fail
      go_ret3
      exact ⟨rfl, rfl⟩


theorem high_two (v : Value) (zs : List Nat) (w : World) (hr : Reads w v zs) (hs : ∀ z ∈ zs, z < 256) (hl : zs.length = 2) :
    Calls Try.prog 26 #[v, .int .i64 0, .int .i64 2] w fun e w' => e = .returned (tri (zs.getD 0 0 * 256 + zs.getD 1 0, 2, 0)) ∧ Below w.heap.size w w' := by
  have c := get_ok29 v zs 0 2 w hr (by omega) (by omega) hs (by omega)
  have e : hiN zs 0 2 2 = zs.getD 0 0 * 256 + zs.getD 1 0 := by simp [hiN]
  rw [e] at c
  unfold tri at *
  generalize zs.getD 0 0 * 256 + zs.getD 1 0 = V at *
  go_enter Try.func26, Try.ntmps26
  go_wp2_with fail
  refine c.mono ?_
  rintro e w' ⟨rfl, hb⟩
  have HB := hide hb
  clear hb c
  go_wp2_with fail
  go_ret3
  exact ⟨rfl, unhide HB⟩
end Go.Proofs.Ythafoojlkaifkaa
