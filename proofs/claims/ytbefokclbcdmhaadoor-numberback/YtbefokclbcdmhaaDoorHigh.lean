/-
  What number.High tells.
-/
import Derived.Test.YtbefokclbcdmhaaDoorVar
namespace Go.Proofs.YtbefokclbcdmhaaDoor
open Go.RowKit

/-- the number of n bytes at p, the highest first, of which i are read -/
def hiN (zs : List Nat) (p n : Nat) : Nat → Nat
  | 0 => 0
  | i + 1 => hiN zs p n i + zs.getD (p + i) 0 * 256 ^ (n - 1 - i)

theorem hiN_form (zs : List Nat) (p n : Nat) (hs : ∀ j, zs.getD j 0 < 256) : ∀ i, i ≤ n → ∃ q, hiN zs p n i = q * 256 ^ (n - i) ∧ q < 256 ^ i
  | 0, _ => ⟨0, by simp [hiN], by simp⟩
  | i + 1, h => by
    obtain ⟨q, e, hq⟩ := hiN_form zs p n hs i (by omega)
    refine ⟨q * 256 + zs.getD (p + i) 0, ?_, ?_⟩
    · rw [hiN, e, show n - i = (n - (i + 1)) + 1 by omega, Nat.pow_succ, show n - 1 - i = n - (i + 1) by omega, Nat.add_mul, Nat.mul_assoc, Nat.mul_comm 256]
    · have := hs (p + i)
      rw [Nat.pow_succ]; omega

theorem hiN_lt (zs : List Nat) (p n : Nat) (hs : ∀ j, zs.getD j 0 < 256) (hn : n ≤ 8) (i : Nat) (hi : i ≤ n) : hiN zs p n i < 18446744073709551616 := by
  obtain ⟨q, e, hq⟩ := hiN_form zs p n hs i hi
  rw [e]
  have h1 : q * 256 ^ (n - i) < 256 ^ i * 256 ^ (n - i) := Nat.mul_lt_mul_of_pos_right hq (Nat.pow_pos (by omega))
  rw [← Nat.pow_add, show i + (n - i) = n by omega] at h1
  have h2 : 256 ^ n ≤ 256 ^ 8 := Nat.pow_le_pow_right (by omega) hn
  omega

theorem getD_small {zs : List Nat} (hs : ∀ z ∈ zs, z < 256) (j : Nat) : zs.getD j 0 < 256 := by
  by_cases h : j < zs.length
  · exact hs _ (getD_mem zs j h)
  · rw [List.getD_eq_getElem?_getD, List.getElem?_eq_none (by omega)]; simp

theorem hi_or (zs : List Nat) (p n i : Nat) (hs : ∀ j, zs.getD j 0 < 256) (hi : i < n) : hiN zs p n i ||| zs.getD (p + i) 0 * 2 ^ (8 * (n - 1 - i)) = hiN zs p n (i + 1) := by
  obtain ⟨q, e, hq⟩ := hiN_form zs p n hs i (by omega)
  have e8 : ∀ k, 256 ^ k = 2 ^ (8 * k) := fun k => by rw [Nat.pow_mul]
  have hz := hs (p + i)
  rw [hiN, e, e8, e8, show 8 * (n - i) = 8 * (n - 1 - i) + 8 by omega]
  have hlt : zs.getD (p + i) 0 * 2 ^ (8 * (n - 1 - i)) < 2 ^ (8 * (n - 1 - i) + 8) := by
    rw [Nat.pow_add, Nat.mul_comm]
    exact Nat.mul_lt_mul_of_pos_left (by omega) (Nat.pow_pos (by omega))
  rw [Nat.or_comm, or_add _ q _ hlt]
  omega

theorem which20 (i n : Nat) (h : i < n) (hn : n ≤ 8) (w : World) : Calls Tryd.prog 20 #[.int .i64 (i : Int), .int .i64 (n : Int)] w fun e w' => e = .returned (.int .i64 (((n - 1 - i : Nat)) : Int)) ∧ w' = w := which31 i n h hn w

set_option maxRecDepth 100000 in
set_option maxHeartbeats 1000000 in
theorem get_ok (v : Value) (zs : List Nat) (p n : Nat) (w : World) (hr : Reads w v zs) (hp : p + n ≤ zs.length) (hn1 : 1 ≤ n ∧ n ≤ 8) (hs : ∀ z ∈ zs, z < 256) (hn : zs.length ≤ 140737488355328) :
    Calls Tryd.prog 21 #[v, .int .i64 (p : Int), .int .i64 (n : Int), .func (.func 20) #[] #[]] w fun e w' => e = .returned (tri (hiN zs p n n, p + n, 0)) ∧ Below w.heap.size w w' := by
  obtain ⟨a, cap, rfl, hsrc⟩ := hr.spot
  have HS := hide hsrc
  have hs2 := getD_small hs
  have HSM := hide hs2
  clear hsrc hr hs hs2
  have cw := within_ok a zs.length cap p
  have hb : (decide ((0 : Int) ≤ p) && decide ((p : Int) ≤ zs.length)) = true := by simp; omega
  rw [hb] at cw
  clear hb
  have h1 : ¬ (n : Int) < 1 := by omega
  have h2 : ¬ 8 < (n : Int) := by omega
  have h3 : ¬ (zs.length : Int) - p < n := by omega
  go_enter Tryd.func21, Tryd.ntmps21
  go_wp2_with (go_at_call 18; refine (cw _).mono ?_; rintro e w' ⟨rfl, hw⟩; rw [hw])
  go_loopg [8, 11, 31] n (fun gk v u c ws => ∃ i : Nat, gk = n - i ∧ i ≤ n ∧ c = .int .i64 (i : Int) ∧ v = .int .u64 ((hiN zs p n i : Nat) : Int) ∧ Below w.heap.size w ws)
  case atStart => exact ⟨0, by omega, by omega, rfl, rfl, Below.refl _ _⟩
  case round =>
    obtain ⟨i, rfl, hil, rfl, rfl, hbel⟩ := hrel
    by_cases hlt : i < n
    · have hlt' : (i : Int) < (n : Int) := by omega
      obtain ⟨ab, ao, rfl, hcell⟩ := unhide HS (by omega)
      have hcl := cell_stays hbel (hcell (p + i) (by omega))
      have HNX : Hid (hiN zs p n (i + 1) = hiN zs p n i ||| zs.getD (p + i) 0 * 2 ^ (8 * (n - 1 - i))) := hide (hi_or zs p n i (unhide HSM) hlt).symm
      have hA := hiN_lt zs p n (unhide HSM) hn1.2 i (by omega)
      have hz := unhide HSM (p + i)
      have hcw := which20 i n hlt hn1.2
      have hr8 : n - 1 - i ≤ 7 := by omega
      generalize n - 1 - i = r at HNX hcw hr8
      generalize zs.getD (p + i) 0 = c at hcl hz HNX
      generalize hiN zs p n i = V at hA HNX ⊢
      have hsh : c * 2 ^ (8 * r) < 18446744073709551616 := by
        have e1 : 2 ^ (8 * r) ≤ 2 ^ 56 := Nat.pow_le_pow_right (by omega) (by omega)
        have e2 : c * 2 ^ (8 * r) ≤ 255 * 2 ^ 56 := Nat.mul_le_mul (by omega) e1
        omega
      have hor : bits .or .u64 (V : Int) (IntKind.u64.wrap ((c : Int) * 2 ^ (8 * r))) = ((V ||| c * 2 ^ (8 * r) : Nat) : Int) := by
        have e1 : ((c : Int) * 2 ^ (8 * r)) = ((c * 2 ^ (8 * r) : Nat) : Int) := by simp
        rw [e1, IntKind.wrap_u64, show ((c * 2 ^ (8 * r) : Nat) : Int) % 18446744073709551616 = ((c * 2 ^ (8 * r) : Nat) : Int) by omega]
        exact u64_or_nat V _ hA hsh
      generalize V ||| c * 2 ^ (8 * r) = N at hor HNX
      have hcl' : wr.cell? ⟨ab, ao + (p + i), none⟩ = some (.int .u8 (c : Int)) := hcl
      have h4 : (0 : Int) ≤ 8 * (r : Int) := by omega
      have hlt2 : (p : Int) + i < zs.length := by omega
      have HB := hide hbel
      clear hcell hcl hbel hsh
      go_wp2_with fail
      go_quiet (first | (go_at_call 20; refine Calls.quiet_of_same (hcw _)))
      go_wp2_with fail
      go_roundg (n - (i + 1))
      case measure => omega
      case rel => exact ⟨i + 1, rfl, by omega, by go_num, by rw [unhide HNX], (unhide HB).trans ⟨rfl, rfl, rfl, Nat.le_refl _, fun _ _ => rfl⟩⟩
    · obtain rfl : i = n := by omega
      have HB := hide hbel
      clear hbel
      go_wp2_with fail
      go_ret3
      exact ⟨rfl, unhide HB⟩

theorem high_ok (v : Value) (zs : List Nat) (p n : Nat) (w : World) (hr : Reads w v zs) (hp : p + n ≤ zs.length) (hn1 : 1 ≤ n ∧ n ≤ 8) (hs : ∀ z ∈ zs, z < 256) (hn : zs.length ≤ 140737488355328) :
    Calls Tryd.prog 13 #[v, .int .i64 (p : Int), .int .i64 (n : Int)] w fun e w' => e = .returned (tri (hiN zs p n n, p + n, 0)) ∧ Below w.heap.size w w' := by
  have c := get_ok v zs p n w hr hp hn1 hs hn
  unfold tri at *
  generalize ((hiN zs p n n, p + n, 0) : Nat × Nat × Nat) = R at *
  go_enter Tryd.func13, Tryd.ntmps13
  go_wp2_with fail
  refine c.mono ?_
  rintro e w' ⟨rfl, hb⟩
  have HB := hide hb
  clear hb c
  go_wp2_with fail
  go_ret3
  exact ⟨rfl, unhide HB⟩

theorem getD_app (a b : List Nat) (i : Nat) : (a ++ b).getD (a.length + i) 0 = b.getD i 0 := by
  rw [List.getD_eq_getElem?_getD, List.getD_eq_getElem?_getD, List.getElem?_append_right (by omega)]
  congr 2
  omega

def highB (V n : Nat) : List Nat := (List.range n).map fun i => V / 256 ^ (n - 1 - i) % 256
theorem highB_length (V n : Nat) : (highB V n).length = n := by simp [highB]
theorem highB_small (V n : Nat) : ∀ z ∈ highB V n, z < 256 := by
  intro z hz
  simp only [highB, List.mem_map] at hz
  obtain ⟨i, _, rfl⟩ := hz
  exact Nat.mod_lt _ (by omega)
theorem highB_get (V n i : Nat) (h : i < n) : (highB V n).getD i 0 = V / 256 ^ (n - 1 - i) % 256 := by
  simp [highB, List.getD_eq_getElem?_getD, h]

theorem hi_back (pre : List Nat) (V n : Nat) (hV : V < 256 ^ n) : ∀ i, i ≤ n → hiN (pre ++ highB V n) pre.length n i = V / 256 ^ (n - i) * 256 ^ (n - i)
  | 0, _ => by rw [hiN, Nat.sub_zero, Nat.div_eq_of_lt hV, Nat.zero_mul]
  | i + 1, h => by
    rw [hiN, hi_back pre V n hV i (by omega), getD_app, highB_get V n i (by omega)]
    have e1 : n - 1 - i = n - (i + 1) := by omega
    have e2 : 256 ^ (n - i) = 256 ^ (n - (i + 1)) * 256 := by rw [show n - i = (n - (i + 1)) + 1 by omega, Nat.pow_succ]
    rw [e1, e2, ← Nat.div_div_eq_div_mul]
    generalize 256 ^ (n - (i + 1)) = B
    generalize V / B = x
    have : x / 256 * (B * 256) + x % 256 * B = (x / 256 * 256 + x % 256) * B := by rw [Nat.add_mul, Nat.mul_comm B 256, Nat.mul_assoc]
    rw [this]
    congr 1
    omega

theorem hi_back_all (pre : List Nat) (V n : Nat) (hV : V < 256 ^ n) : hiN (pre ++ highB V n) pre.length n n = V := by
  rw [hi_back pre V n hV n (Nat.le_refl _), Nat.sub_self]; simp

theorem varB_get (W j : Nat) : (j < nb W - 1 → (varB W).getD j 0 = W / 128 ^ j % 128 + 128) ∧ (j = nb W - 1 → (varB W).getD j 0 = W / 128 ^ (nb W - 1) % 128) := by
  constructor
  · intro h
    simp [varB, varUp, List.getD_eq_getElem?_getD, h, List.getElem?_append_left]
  · intro h
    subst h
    have : (varUp W (nb W - 1)).length = nb W - 1 := varUp_length _ _
    simp [varB, List.getD_eq_getElem?_getD, this]

theorem var_back_at (pre : List Nat) (W : Nat) (hW : W < 9223372036854775808) : ∀ k i, i + k = nb W - 1 → varRd (pre ++ varB W) pre.length (9 - i) i (W % 128 ^ i) = (W, pre.length + nb W, 0)
  | 0, i, h => by
    have hn := nb_le W hW
    obtain ⟨s1, s2⟩ := nb_spec 9 W (by omega) hW
    have hlen : (pre ++ varB W).length = pre.length + nb W := by rw [List.length_append, varB_length W hn.1]
    have hg := (varB_get W i).2 (by omega)
    have hi : i = nb W - 1 := by omega
    rw [show 9 - i = (8 - i) + 1 by omega, varRd, if_neg (by omega), getD_app, hg, ← hi]
    rw [← hi] at s1
    have hm : W / 128 ^ i % 128 = W / 128 ^ i := Nat.mod_eq_of_lt s1
    rw [hm]
    have hc : ¬ (W / 128 ^ i = 0 ∧ 0 < i) := by
      rintro ⟨c1, c2⟩
      have := s2 (i - 1) (by omega)
      have e : W / 128 ^ i = W / 128 ^ (i - 1) / 128 := by rw [show i = (i - 1) + 1 by omega, Nat.pow_succ, Nat.div_div_eq_div_mul]; rfl
      omega
    rw [if_neg hc, if_pos s1, hm]
    have e := Nat.mod_add_div W (128 ^ i)
    rw [Nat.mul_comm] at e
    rw [e]
    congr 2
    omega
  | k + 1, i, h => by
    have hn := nb_le W hW
    have hlen : (pre ++ varB W).length = pre.length + nb W := by rw [List.length_append, varB_length W hn.1]
    have hg := (varB_get W i).1 (by omega)
    have ih := var_back_at pre W hW k (i + 1) (by omega)
    rw [show 9 - i = (9 - (i + 1)) + 1 by omega, varRd, if_neg (by omega), getD_app, hg, if_neg (by omega), if_neg (by omega)]
    rw [show (W / 128 ^ i % 128 + 128) % 128 = W / 128 ^ i % 128 by omega, show W % 128 ^ i + W / 128 ^ i % 128 * 128 ^ i = W % 128 ^ (i + 1) by rw [Nat.mod_pow_succ, Nat.mul_comm]]
    exact ih

theorem var_back (pre : List Nat) (W : Nat) (hW : W < 9223372036854775808) : varRd (pre ++ varB W) pre.length 9 0 0 = (W, pre.length + nb W, 0) := by
  have := var_back_at pre W hW (nb W - 1) 0 (by omega)
  simpa [Nat.mod_one] using this
end Go.Proofs.YtbefokclbcdmhaaDoor
