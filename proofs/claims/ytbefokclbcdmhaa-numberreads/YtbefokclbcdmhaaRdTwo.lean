/-
  What number.Low and number.High, and the document's Read, tell in every case.
-/
import Derived.Test.YtbefokclbcdmhaaRd
namespace Go.Proofs.Ytbefokclbcdmhaa
open Go.RowKit

theorem own_block {w : World} {base n : Nat} {v : Value} {xs : List Value} (h : w.ownsRow base 5 1 v n xs) (hn : 0 < n) : ∃ g cap, v = .slice (some ⟨g, 0, none⟩) n cap ∧ n ≤ cap ∧ base ≤ g ∧ g < w.heap.size := by
  rcases h.2 with ⟨_, e'⟩ | ⟨g, cap, cur, e, hb, hh, hle, _⟩
  · omega
  · exact ⟨g, cap, e, by simpa using hle, hb, heap_lt hh⟩

/-- the value of n bytes at p -/
def valN (high : Bool) (zs : List Nat) (p n : Nat) : Nat := if high then hiN zs p n n else loN zs p n
/-- what is read: the number, the place behind it, the error -/
def rdRes (high : Bool) (zs : List Nat) (p n : Int) : Nat × Nat × Nat :=
  if n < 1 ∨ 8 < n ∨ p < 0 ∨ (zs.length : Int) < p then (0, 0, 2) else if (zs.length : Int) - p < n then (0, 0, 10) else (valN high zs p.toNat n.toNat, p.toNat + n.toNat, 0)

theorem rd_arg {high : Bool} {zs : List Nat} {p n : Int} (h : n < 1 ∨ 8 < n ∨ p < 0 ∨ (zs.length : Int) < p) : rdRes high zs p n = (0, 0, 2) := by rw [rdRes, if_pos h]
theorem rd_end {high : Bool} {zs : List Nat} {p n : Int} (h : ¬ (n < 1 ∨ 8 < n ∨ p < 0 ∨ (zs.length : Int) < p)) (h2 : (zs.length : Int) - p < n) : rdRes high zs p n = (0, 0, 10) := by rw [rdRes, if_neg h, if_pos h2]
theorem rd_yes {high : Bool} {zs : List Nat} {p n : Nat} (h : ¬ ((n : Int) < 1 ∨ 8 < (n : Int) ∨ (p : Int) < 0 ∨ (zs.length : Int) < p)) (h2 : ¬ (zs.length : Int) - p < n) : rdRes high zs p n = (valN high zs p n, p + n, 0) := by
  rw [rdRes, if_neg h, if_neg h2]; simp

theorem get_arg (F : Fn) (a : Option Addr) (len cap : Nat) (p n : Int) (h : n < 1 ∨ 8 < n ∨ p < 0 ∨ (len : Int) < p) (w : World) :
    Calls Try.prog 34 #[.slice a len cap, .int .i64 p, .int .i64 n, .func F #[] #[]] w fun e w' => e = .returned (tri (0, 0, 2)) ∧ Below w.heap.size w w' := by
  by_cases h1 : n < 1
  · go_enter Try.func34, Try.ntmps34
    go_wp2_with fail
    go_ret3
    exact ⟨rfl, Below.refl _ _⟩
  · by_cases h2 : 8 < n
    · go_enter Try.func34, Try.ntmps34
      go_wp2_with fail
      go_ret3
      exact ⟨rfl, Below.refl _ _⟩
    · have cw := within_ok a len cap p
      have hb : (decide ((0 : Int) ≤ p) && decide (p ≤ (len : Int))) = false := by
        rw [Bool.and_eq_false_iff, decide_eq_false_iff_not, decide_eq_false_iff_not]; omega
      rw [hb] at cw
      clear hb h
      go_enter Try.func34, Try.ntmps34
      go_wp2_with (go_at_call 35; refine (cw _).mono ?_; rintro e w' ⟨rfl, hw⟩; rw [hw])
      go_ret3
      exact ⟨rfl, Below.refl _ _⟩

theorem get_end (F : Fn) (a : Option Addr) (len cap : Nat) (p n : Int) (h : ¬ (n < 1 ∨ 8 < n ∨ p < 0 ∨ (len : Int) < p)) (h2 : (len : Int) - p < n) (w : World) :
    Calls Try.prog 34 #[.slice a len cap, .int .i64 p, .int .i64 n, .func F #[] #[]] w fun e w' => e = .returned (tri (0, 0, 10)) ∧ Below w.heap.size w w' := by
  have cw := within_ok a len cap p
  have hb : (decide ((0 : Int) ≤ p) && decide (p ≤ (len : Int))) = true := by simp; omega
  rw [hb] at cw
  have h3 : ¬ n < 1 := by omega
  have h4 : ¬ 8 < n := by omega
  have h5 : 0 ≤ p := by omega
  have h6 : p ≤ (len : Int) := by omega
  clear hb h
  go_enter Try.func34, Try.ntmps34
  go_wp2_with (go_at_call 35; refine (cw _).mono ?_; rintro e w' ⟨rfl, hw⟩; rw [hw])
  go_ret3
  exact ⟨rfl, Below.refl _ _⟩

theorem get28_any (v : Value) (zs : List Nat) (p n : Int) (w : World) (hr : Reads w v zs) (hs : ∀ z ∈ zs, z < 256) (hl : zs.length ≤ 140737488355328) :
    Calls Try.prog 34 #[v, .int .i64 p, .int .i64 n, .func (.func 28) #[] #[]] w fun e w' => e = .returned (tri (rdRes false zs p n)) ∧ Below w.heap.size w w' := by
  have hr0 := hr
  obtain ⟨a, cap, rfl, _⟩ := hr0
  by_cases h : n < 1 ∨ 8 < n ∨ p < 0 ∨ (zs.length : Int) < p
  · rw [rd_arg h]; exact get_arg _ a _ cap p n h w
  · by_cases h2 : (zs.length : Int) - p < n
    · rw [rd_end h h2]; exact get_end _ a _ cap p n h h2 w
    · obtain ⟨N, rfl⟩ := Int.eq_ofNat_of_zero_le (show 0 ≤ n by omega)
      obtain ⟨P, rfl⟩ := Int.eq_ofNat_of_zero_le (show 0 ≤ p by omega)
      rw [rd_yes h h2]
      exact get_ok28 _ zs P N w hr (by omega) (by omega) hs hl

theorem get31_any (v : Value) (zs : List Nat) (p n : Int) (w : World) (hr : Reads w v zs) (hs : ∀ z ∈ zs, z < 256) (hl : zs.length ≤ 140737488355328) :
    Calls Try.prog 34 #[v, .int .i64 p, .int .i64 n, .func (.func 31) #[] #[]] w fun e w' => e = .returned (tri (rdRes true zs p n)) ∧ Below w.heap.size w w' := by
  have hr0 := hr
  obtain ⟨a, cap, rfl, _⟩ := hr0
  by_cases h : n < 1 ∨ 8 < n ∨ p < 0 ∨ (zs.length : Int) < p
  · rw [rd_arg h]; exact get_arg _ a _ cap p n h w
  · by_cases h2 : (zs.length : Int) - p < n
    · rw [rd_end h h2]; exact get_end _ a _ cap p n h h2 w
    · obtain ⟨N, rfl⟩ := Int.eq_ofNat_of_zero_le (show 0 ≤ n by omega)
      obtain ⟨P, rfl⟩ := Int.eq_ofNat_of_zero_le (show 0 ≤ p by omega)
      rw [rd_yes h h2]
      exact get_ok31 _ zs P N w hr (by omega) (by omega) hs hl

theorem low_any (v : Value) (zs : List Nat) (p n : Int) (w : World) (hr : Reads w v zs) (hs : ∀ z ∈ zs, z < 256) (hl : zs.length ≤ 140737488355328) :
    Calls Try.prog 14 #[v, .int .i64 p, .int .i64 n] w fun e w' => e = .returned (tri (rdRes false zs p n)) ∧ Below w.heap.size w w' := by
  have c := get28_any v zs p n w hr hs hl
  unfold tri at *
  generalize rdRes false zs p n = R at *
  go_enter Try.func14, Try.ntmps14
  go_wp2_with fail
  refine c.mono ?_
  rintro e w' ⟨rfl, hb⟩
  have HB := hide hb
  clear hb c
  go_wp2_with fail
  go_ret3
  exact ⟨rfl, unhide HB⟩

theorem high_any (v : Value) (zs : List Nat) (p n : Int) (w : World) (hr : Reads w v zs) (hs : ∀ z ∈ zs, z < 256) (hl : zs.length ≤ 140737488355328) :
    Calls Try.prog 16 #[v, .int .i64 p, .int .i64 n] w fun e w' => e = .returned (tri (rdRes true zs p n)) ∧ Below w.heap.size w w' := by
  have c := get31_any v zs p n w hr hs hl
  unfold tri at *
  generalize rdRes true zs p n = R at *
  go_enter Try.func16, Try.ntmps16
  go_wp2_with fail
  refine c.mono ?_
  rintro e w' ⟨rfl, hb⟩
  have HB := hide hb
  clear hb c
  go_wp2_with fail
  go_ret3
  exact ⟨rfl, unhide HB⟩

/-- the document's way: the number of the first i bytes of x, the highest first -/
def upN (xs : List Nat) : Nat → Nat
  | 0 => 0
  | i + 1 => upN xs i * 256 + xs.getD i 0

theorem upN_lt (xs : List Nat) (hs : ∀ j, xs.getD j 0 < 256) : ∀ i, upN xs i < 256 ^ i
  | 0 => by simp [upN]
  | i + 1 => by
    have := upN_lt xs hs i
    have := hs i
    rw [upN, Nat.pow_succ]; omega

theorem up_hi (zs : List Nat) (p n : Nat) (h : p + n ≤ zs.length) : ∀ i, i ≤ n → hiN zs p n i = upN ((zs.drop p).take n) i * 256 ^ (n - i)
  | 0, _ => by simp [hiN, upN]
  | i + 1, hi => by
    have e : ((zs.drop p).take n).getD i 0 = zs.getD (p + i) 0 := by
      simp [List.getD_eq_getElem?_getD, show i < n by omega, List.getElem?_drop]
    rw [hiN, up_hi zs p n h i (by omega), upN, e, show n - i = (n - (i + 1)) + 1 by omega, Nat.pow_succ, show n - 1 - i = n - (i + 1) by omega, Nat.add_mul, Nat.mul_assoc, Nat.mul_comm 256]

theorem up_lo (zs : List Nat) (p n : Nat) (h : p + n ≤ zs.length) : ∀ i, i ≤ n → loN zs p n = upN ((zs.drop p).take n).reverse i * 256 ^ (n - i) + loN zs p (n - i)
  | 0, _ => by simp [upN]
  | i + 1, hi => by
    have hlen : ((zs.drop p).take n).length = n := by simp; omega
    have e : ((zs.drop p).take n).reverse.getD i 0 = zs.getD (p + (n - (i + 1))) 0 := by
      rw [List.getD_eq_getElem?_getD, List.getElem?_reverse (by omega), hlen, List.getElem?_take, if_pos (by omega), List.getElem?_drop, List.getD_eq_getElem?_getD]
      congr 3
      omega
    have e2 : loN zs p (n - i) = loN zs p (n - (i + 1)) + zs.getD (p + (n - (i + 1))) 0 * 256 ^ (n - (i + 1)) := by
      rw [show n - i = (n - (i + 1)) + 1 by omega, loN]
    rw [up_lo zs p n h i (by omega), upN, e, e2, show n - i = (n - (i + 1)) + 1 by omega, Nat.pow_succ, Nat.add_mul, Nat.mul_assoc, Nat.mul_comm 256]
    omega

theorem up_val (high : Bool) (zs : List Nat) (p n : Nat) (h : p + n ≤ zs.length) : valN high zs p n = upN (if high then (zs.drop p).take n else ((zs.drop p).take n).reverse) n := by
  cases high
  · have := up_lo zs p n h n (Nat.le_refl _)
    simp [loN] at this
    simpa [valN] using this
  · have := up_hi zs p n h n (Nat.le_refl _)
    simp at this
    simpa [valN] using this

set_option maxRecDepth 100000 in
set_option maxHeartbeats 1000000 in
theorem refRead_high (a : Option Addr) (cap : Nat) (zs : List Nat) (p n : Int) (w : World) (hr : Reads w (.slice a zs.length cap) zs) (hs : ∀ z ∈ zs, z < 256) (hl : zs.length ≤ 140737488355328) (hc : zs.length ≤ cap) :
    Calls Try.prog 15 #[.slice a zs.length cap, .int .i64 p, .int .i64 n, .bool true] w fun e w' => e = .returned (tri (rdRes true zs p n)) ∧ Below w.heap.size w w' := by
  by_cases h1 : n < 1
  · rw [rd_arg (by omega)]
    go_enter Try.func15, Try.ntmps15
    go_wp2_with fail
    go_ret3
    exact ⟨rfl, Below.refl _ _⟩
  by_cases h2 : 8 < n
  · rw [rd_arg (by omega)]
    go_enter Try.func15, Try.ntmps15
    go_wp2_with fail
    go_ret3
    exact ⟨rfl, Below.refl _ _⟩
  by_cases h3 : p < 0
  · rw [rd_arg (by omega)]
    go_enter Try.func15, Try.ntmps15
    go_wp2_with fail
    go_ret3
    exact ⟨rfl, Below.refl _ _⟩
  by_cases h4 : (zs.length : Int) < p
  · rw [rd_arg (by omega)]
    go_enter Try.func15, Try.ntmps15
    go_wp2_with fail
    go_ret3
    exact ⟨rfl, Below.refl _ _⟩
  by_cases h5 : (zs.length : Int) - p < n
  · rw [rd_end (by omega) h5]
    go_enter Try.func15, Try.ntmps15
    go_wp2_with fail
    go_ret3
    exact ⟨rfl, Below.refl _ _⟩
  obtain ⟨N, rfl⟩ := Int.eq_ofNat_of_zero_le (show 0 ≤ n by omega)
  obtain ⟨P, rfl⟩ := Int.eq_ofNat_of_zero_le (show 0 ≤ p by omega)
  rw [rd_yes (by omega) h5, up_val true zs P N (by omega)]
  obtain ⟨ab, ao, rfl, hcell⟩ : ∃ ab ao, a = some ⟨ab, ao, none⟩ ∧ ∀ j, j < zs.length → w.cell? ⟨ab, ao + j, none⟩ = some (.int .u8 ((zs.getD j 0 : Nat) : Int)) := by
    obtain ⟨a', c', e, h⟩ := hr.spot
    injection e with e1
    subst e1
    obtain ⟨b, o, e2, h3⟩ := h (by omega)
    exact ⟨b, o, e2, h3⟩
  have HX : Hid (Reads w (.slice (some ⟨ab, ao + P, none⟩) N (cap - P)) ((zs.drop P).take N)) := by
    have hlen : ((zs.drop P).take N).length = N := by simp; omega
    refine hide ⟨_, _, by rw [hlen], fun _ => ⟨_, rfl, fun j u hj => ?_⟩⟩
    have hjN : j < N := by have := (List.getElem?_eq_some_iff.1 hj).1; rw [List.length_map] at this; omega
    have e : (⟨ab, ao + P, none⟩ : Addr).add j = ⟨ab, ao + (P + j), none⟩ := by by_cases hq : j = 0 <;> simp [Addr.add, hq] <;> omega
    rw [e, hcell (P + j) (by omega)]
    rw [List.getElem?_map, List.getElem?_take, if_pos hjN, List.getElem?_drop, List.getElem?_eq_getElem (by omega)] at hj
    simp only [Option.map_some, bv] at hj
    rw [← hj]
    simp [List.getD_eq_getElem?_getD, show P + j < zs.length by omega]
  have hlen : ((zs.drop P).take N).length = N := by simp; omega
  have hsx : ∀ z ∈ (zs.drop P).take N, z < 256 := fun z hz => hs z (List.mem_of_mem_drop (List.mem_of_mem_take hz))
  simp only [if_true]
  generalize (zs.drop P).take N = xs at HX hlen hsx ⊢
  subst hlen
  have hN8 : xs.length ≤ 8 := by omega
  have hN1 : 1 ≤ xs.length := by omega
  have hcI : (zs.length : Int) ≤ (cap : Int) := by omega
  have hPN : (P : Int) + (xs.length : Int) ≤ (zs.length : Int) := by omega
  have HSX := hide hsx
  clear hcell hr hs hsx
  go_enter Try.func15, Try.ntmps15
  go_wp2_with fail
  have HSM := hide (getD_small (unhide HSX))
  have HCELL : Hid (∀ j, j < xs.length → w.cell? ⟨ab, ao + P + j, none⟩ = some (.int .u8 ((xs.getD j 0 : Nat) : Int))) := by
    obtain ⟨a', c', e, h⟩ := (unhide HX).spot
    injection e with e1
    obtain ⟨b, o, e2, h3⟩ := h (by omega)
    rw [e2] at e1
    injection e1 with e1
    injection e1 with e4 e5
    subst e4 e5
    exact hide h3
  go_loopg [12, 13] xs.length (fun gk v c ws => ∃ i : Nat, gk = xs.length - i ∧ i ≤ xs.length ∧ c = .int .i64 (i : Int) ∧ v = .int .u64 ((upN xs i : Nat) : Int) ∧ ws = w)
  case atStart => exact ⟨0, by omega, by omega, rfl, rfl, rfl⟩
  case round =>
    obtain ⟨i, rfl, hil, rfl, rfl, rfl⟩ := hrel
    by_cases hlt : i < xs.length
    · have hlt' : (i : Int) < (xs.length : Int) := by omega
      have hcl := unhide HCELL i hlt
      have hz := unhide HSM i
      have hU := upN_lt xs (unhide HSM) i
      have hU2 : upN xs i < 72057594037927936 := by
        have : 256 ^ i ≤ 256 ^ 7 := Nat.pow_le_pow_right (by omega) (by omega)
        omega
      have HU : Hid (upN xs (i + 1) = upN xs i * 256 + xs.getD i 0) := hide rfl
      generalize (xs).getD i 0 = c at hcl hz HU
      generalize upN xs i = U at hU hU2 HU ⊢
      clear hU
      go_wp2_with fail
      go_roundg (xs.length - (i + 1))
      case measure => omega
      case rel => exact ⟨i + 1, rfl, by omega, by go_num, by rw [unhide HU]; go_num, rfl⟩
    · obtain rfl : i = xs.length := by omega
      go_wp2_with fail
      go_ret3
      exact ⟨rfl, Below.refl _ _⟩

set_option maxRecDepth 100000 in
set_option maxHeartbeats 1000000 in
theorem refRead_low (a : Option Addr) (cap : Nat) (zs : List Nat) (p n : Int) (w : World) (hr : Reads w (.slice a zs.length cap) zs) (hs : ∀ z ∈ zs, z < 256) (hl : zs.length ≤ 140737488355328) (hc : zs.length ≤ cap) :
    Calls Try.prog 15 #[.slice a zs.length cap, .int .i64 p, .int .i64 n, .bool false] w fun e w' => e = .returned (tri (rdRes false zs p n)) ∧ Below w.heap.size w w' := by
  by_cases h1 : n < 1
  · rw [rd_arg (by omega)]
    go_enter Try.func15, Try.ntmps15
    go_wp2_with fail
    go_ret3
    exact ⟨rfl, Below.refl _ _⟩
  by_cases h2 : 8 < n
  · rw [rd_arg (by omega)]
    go_enter Try.func15, Try.ntmps15
    go_wp2_with fail
    go_ret3
    exact ⟨rfl, Below.refl _ _⟩
  by_cases h3 : p < 0
  · rw [rd_arg (by omega)]
    go_enter Try.func15, Try.ntmps15
    go_wp2_with fail
    go_ret3
    exact ⟨rfl, Below.refl _ _⟩
  by_cases h4 : (zs.length : Int) < p
  · rw [rd_arg (by omega)]
    go_enter Try.func15, Try.ntmps15
    go_wp2_with fail
    go_ret3
    exact ⟨rfl, Below.refl _ _⟩
  by_cases h5 : (zs.length : Int) - p < n
  · rw [rd_end (by omega) h5]
    go_enter Try.func15, Try.ntmps15
    go_wp2_with fail
    go_ret3
    exact ⟨rfl, Below.refl _ _⟩
  obtain ⟨N, rfl⟩ := Int.eq_ofNat_of_zero_le (show 0 ≤ n by omega)
  obtain ⟨P, rfl⟩ := Int.eq_ofNat_of_zero_le (show 0 ≤ p by omega)
  rw [rd_yes (by omega) h5, up_val false zs P N (by omega)]
  obtain ⟨ab, ao, rfl, hcell⟩ : ∃ ab ao, a = some ⟨ab, ao, none⟩ ∧ ∀ j, j < zs.length → w.cell? ⟨ab, ao + j, none⟩ = some (.int .u8 ((zs.getD j 0 : Nat) : Int)) := by
    obtain ⟨a', c', e, h⟩ := hr.spot
    injection e with e1
    subst e1
    obtain ⟨b, o, e2, h3⟩ := h (by omega)
    exact ⟨b, o, e2, h3⟩
  have HX : Hid (Reads w (.slice (some ⟨ab, ao + P, none⟩) N (cap - P)) ((zs.drop P).take N)) := by
    have hlen : ((zs.drop P).take N).length = N := by simp; omega
    refine hide ⟨_, _, by rw [hlen], fun _ => ⟨_, rfl, fun j u hj => ?_⟩⟩
    have hjN : j < N := by have := (List.getElem?_eq_some_iff.1 hj).1; rw [List.length_map] at this; omega
    have e : (⟨ab, ao + P, none⟩ : Addr).add j = ⟨ab, ao + (P + j), none⟩ := by by_cases hq : j = 0 <;> simp [Addr.add, hq] <;> omega
    rw [e, hcell (P + j) (by omega)]
    rw [List.getElem?_map, List.getElem?_take, if_pos hjN, List.getElem?_drop, List.getElem?_eq_getElem (by omega)] at hj
    simp only [Option.map_some, bv] at hj
    rw [← hj]
    simp [List.getD_eq_getElem?_getD, show P + j < zs.length by omega]
  have hlen : ((zs.drop P).take N).length = N := by simp; omega
  have hsx : ∀ z ∈ (zs.drop P).take N, z < 256 := fun z hz => hs z (List.mem_of_mem_drop (List.mem_of_mem_take hz))
  simp only [if_false, Bool.false_eq_true]
  generalize (zs.drop P).take N = xs at HX hlen hsx ⊢
  subst hlen
  have hN8 : xs.length ≤ 8 := by omega
  have hN1 : 1 ≤ xs.length := by omega
  have hcI : (zs.length : Int) ≤ (cap : Int) := by omega
  have hPN : (P : Int) + (xs.length : Int) ≤ (zs.length : Int) := by omega
  have HSX := hide hsx
  clear hcell hr hs hsx
  go_enter Try.func15, Try.ntmps15
  go_wp2_with fail
  refine (turned_ok _ xs _ (unhide HX) (by omega)).mono ?_
  rintro e w1 ⟨lv, rfl, hown, hb1⟩
  obtain ⟨g, c1, rfl, hcc, hg1, hg2⟩ := own_block hown (by omega)
  have HRD := hide (own_reads hown (by simp))
  have HB := hide hb1
  have HSM := hide (getD_small (zs := xs.reverse) (fun z hz => unhide HSX z (List.mem_reverse.1 hz)))
  have HCELL : Hid (∀ j, j < xs.length → w1.cell? ⟨g, j, none⟩ = some (.int .u8 ((xs.reverse.getD j 0 : Nat) : Int))) := by
    obtain ⟨a', c', e, h⟩ := (unhide HRD).spot
    injection e with e1
    obtain ⟨b, o, e2, h3⟩ := h (by simp; omega)
    rw [e2] at e1
    injection e1 with e1
    injection e1 with e4 e5
    subst e4 e5
    refine hide fun j hj => ?_
    have := h3 j (by simpa using hj)
    rw [Nat.zero_add] at this
    exact this
  clear hown hb1
  go_wp2_with fail
  go_loopg [12, 13] xs.length (fun gk v c ws => ∃ i : Nat, gk = xs.length - i ∧ i ≤ xs.length ∧ c = .int .i64 (i : Int) ∧ v = .int .u64 ((upN xs.reverse i : Nat) : Int) ∧ ws = w1)
  case atStart => exact ⟨0, by omega, by omega, rfl, rfl, rfl⟩
  case round =>
    obtain ⟨i, rfl, hil, rfl, rfl, rfl⟩ := hrel
    by_cases hlt : i < xs.length
    · have hlt' : (i : Int) < (xs.length : Int) := by omega
      have hcl := unhide HCELL i hlt
      have hz := unhide HSM i
      have hU := upN_lt xs.reverse (unhide HSM) i
      have hU2 : upN xs.reverse i < 72057594037927936 := by
        have : 256 ^ i ≤ 256 ^ 7 := Nat.pow_le_pow_right (by omega) (by omega)
        omega
      have HU : Hid (upN xs.reverse (i + 1) = upN xs.reverse i * 256 + xs.reverse.getD i 0) := hide rfl
      generalize (xs.reverse).getD i 0 = c at hcl hz HU
      generalize upN xs.reverse i = U at hU hU2 HU ⊢
      clear hU
      go_wp2_with fail
      go_roundg (xs.length - (i + 1))
      case measure => omega
      case rel => exact ⟨i + 1, rfl, by omega, by go_num, by rw [unhide HU]; go_num, rfl⟩
    · obtain rfl : i = xs.length := by omega
      go_wp2_with fail
      go_ret3
      exact ⟨rfl, unhide HB⟩
end Go.Proofs.Ytbefokclbcdmhaa
