/-
  What number.Var and number.High tell.
-/
import Derived.Test.YtbefokclbcdmhaaDoorPutVar
namespace Go.Proofs.YtbefokclbcdmhaaDoor
open Go.RowKit

/-- Var's way: k bytes may follow, i are read, and spell v -/
def varRd (zs : List Nat) (p : Nat) : Nat → Nat → Nat → Nat × Nat × Nat
  | 0, i, _ => if p + i = zs.length then (0, 0, 10) else (0, 0, 11)
  | k + 1, i, v =>
    if p + i = zs.length then (0, 0, 10)
    else if zs.getD (p + i) 0 = 0 ∧ 0 < i then (0, 0, 11)
    else if zs.getD (p + i) 0 < 128 then (v + zs.getD (p + i) 0 % 128 * 128 ^ i, p + i + 1, 0)
    else varRd zs p k (i + 1) (v + zs.getD (p + i) 0 % 128 * 128 ^ i)

/-- three numbers, as a call tells them -/
def tri (r : Nat × Nat × Nat) : Value := .tuple #[.int .u64 (r.1 : Int), .int .i64 (r.2.1 : Int), .int .i64 (r.2.2 : Int)]

theorem within_ok (a : Option Addr) (len cap : Nat) (p : Int) (w : World) : Calls Tryd.prog 18 #[.slice a len cap, .int .i64 p] w fun e w' => e = .returned (.bool (decide (0 ≤ p) && decide (p ≤ len))) ∧ w' = w := by
  by_cases h : 0 ≤ p
  · go_enter Tryd.func18, Tryd.ntmps18
    go_wp2
    go_ret
    refine ⟨?_, rfl⟩
    simp [h]
  · have : (decide (0 ≤ p) && decide (p ≤ (len : Int))) = false := by simp [h]
    rw [this]
    clear this
    go_enter Tryd.func18, Tryd.ntmps18
    go_wp2
    go_ret
    exact ⟨rfl, rfl⟩

theorem andNot7 (c : Nat) (h : c < 256) : bits .andNot .u8 (c : Int) 128 = ((c % 128 : Nat) : Int) := by
  have h1 := u8_andNot_nat c 128 h (by omega)
  have e : c &&& (255 - 128) = c % 128 := Nat.and_two_pow_sub_one_eq_mod c 7
  rw [e] at h1
  exact h1

theorem or_add (v d i : Nat) (hv : v < 2 ^ i) : v ||| d * 2 ^ i = v + d * 2 ^ i := by
  have := Nat.two_pow_add_eq_or_of_lt (i := i) (b := v) hv d
  rw [Nat.or_comm, Nat.mul_comm, ← this]
  omega

set_option maxRecDepth 100000 in
set_option maxHeartbeats 1000000 in
theorem var_ok (v : Value) (zs : List Nat) (p : Nat) (w : World) (hr : Reads w v zs) (hp : p ≤ zs.length) (hs : ∀ z ∈ zs, z < 256) (hn : zs.length ≤ 140737488355328) :
    Calls Tryd.prog 11 #[v, .int .i64 (p : Int)] w fun e w' => e = .returned (tri (varRd zs p 9 0 0)) ∧ Below w.heap.size w w' := by
  obtain ⟨a, cap, rfl, hsrc⟩ := hr.spot
  have HS := hide hsrc
  have HSM := hide hs
  clear hsrc hr hs
  have cw := within_ok a zs.length cap p
  have hb : (decide ((0 : Int) ≤ p) && decide ((p : Int) ≤ zs.length)) = true := by simp; omega
  rw [hb] at cw
  clear hb
  go_enter Tryd.func11, Tryd.ntmps11
  go_wp2_with (go_at_call 18; refine (cw _).mono ?_; rintro e w' ⟨rfl, hw⟩; rw [hw])
  go_loopg [4, 7, 8, 17] 10 (fun gk v i b c ws => ∃ (k V : Nat), gk = 10 - k ∧ k ≤ 9 ∧ c = .int .i64 (k : Int) ∧ v = .int .u64 (V : Int) ∧ V < 2 ^ (7 * k) ∧ Hid (varRd zs p 9 0 0 = varRd zs p (9 - k) k V) ∧ p + k ≤ zs.length ∧ ws = w)
  case atStart => exact ⟨0, 0, by omega, by omega, rfl, rfl, by omega, hide rfl, by omega, rfl⟩
  case round =>
    obtain ⟨k, V, rfl, hk, rfl, rfl, hV, HP, hPk, rfl⟩ := hrel
    by_cases hend : p + k = zs.length
    · have he : ¬ (k : Int) < (zs.length : Int) - (p : Int) := by omega
      have HE : Hid (varRd zs p 9 0 0 = (0, 0, 10)) := hide (by
        rw [unhide HP]
        rcases Nat.lt_or_ge k 9 with h | h
        · rw [show 9 - k = (8 - k) + 1 by omega, varRd, if_pos hend]
        · rw [show 9 - k = 0 by omega, varRd, if_pos hend])
      clear hV
      go_wp2_with fail
      go_ret3
      refine ⟨?_, Below.refl _ _⟩
      rw [unhide HE]
      rfl
    · have he : (k : Int) < (zs.length : Int) - (p : Int) := by omega
      have hpk : p + k < zs.length := by omega
      obtain ⟨ab, ao, rfl, hcell⟩ := unhide HS (by omega)
      have hcl := hcell (p + k) hpk
      have hz := unhide HSM _ (getD_mem zs (p + k) hpk)
      have hlt2 : (p : Int) + k < zs.length := by omega
      by_cases h9 : k = 9
      · have h9' : ((k : Int) == 9) = true := by simp; omega
        have HE : Hid (varRd zs p 9 0 0 = (0, 0, 11)) := hide (by rw [unhide HP, show 9 - k = 0 by omega, varRd, if_neg hend])
        generalize zs.getD (p + k) 0 = c at hcl hz
        clear hV h9 hcell
        go_wp2_with fail
        go_ret3
        refine ⟨?_, Below.refl _ _⟩
        rw [unhide HE]
        rfl
      · have h9' : ((k : Int) == 9) = false := by simp; omega
        have HN : Hid (varRd zs p 9 0 0 = if zs.getD (p + k) 0 = 0 ∧ 0 < k then (0, 0, 11) else if zs.getD (p + k) 0 < 128 then (V + zs.getD (p + k) 0 % 128 * 128 ^ k, p + k + 1, 0) else varRd zs p (9 - (k + 1)) (k + 1) (V + zs.getD (p + k) 0 % 128 * 128 ^ k)) := hide (by
          rw [unhide HP, show 9 - k = (9 - (k + 1)) + 1 by omega, varRd, if_neg hend])
        generalize zs.getD (p + k) 0 = c at hcl hz HN
        have han := andNot7 c hz
        have hm := Nat.mod_lt c (show 128 > 0 by omega)
        have hsh : c % 128 * 2 ^ (7 * k) < 9223372036854775808 := by
          have h1 : 2 ^ (7 * k) ≤ 2 ^ 56 := Nat.pow_le_pow_right (by omega) (by omega)
          have h2 : c % 128 * 2 ^ (7 * k) ≤ 127 * 2 ^ 56 := Nat.mul_le_mul (by omega) h1
          omega
        have hV63 : V < 9223372036854775808 := by
          have h1 : 2 ^ (7 * k) ≤ 2 ^ 56 := Nat.pow_le_pow_right (by omega) (by omega)
          omega
        have hor := u64_or_nat V (c % 128 * 2 ^ (7 * k)) (by omega) (by omega)
        rw [or_add V (c % 128) (7 * k) hV] at hor
        have hor' : bits .or .u64 (V : Int) (IntKind.u64.wrap ((c : Int) % 128 * 2 ^ (7 * k))) = ((V + c % 128 * 2 ^ (7 * k) : Nat) : Int) := by
          have e1 : ((c : Int) % 128 * 2 ^ (7 * k)) = ((c % 128 * 2 ^ (7 * k) : Nat) : Int) := by simp
          rw [e1, IntKind.wrap_u64, show ((c % 128 * 2 ^ (7 * k) : Nat) : Int) % 18446744073709551616 = ((c % 128 * 2 ^ (7 * k) : Nat) : Int) by omega]
          exact hor
        have h128 : 128 ^ k = 2 ^ (7 * k) := by rw [Nat.pow_mul]
        rw [h128] at HN
        have hnew : V + c % 128 * 2 ^ (7 * k) < 2 ^ (7 * (k + 1)) := by
          have e1 : 2 ^ (7 * (k + 1)) = 128 * 2 ^ (7 * k) := by rw [Nat.mul_add, Nat.pow_add]; omega
          rw [e1]
          have h2 : c % 128 * 2 ^ (7 * k) ≤ 127 * 2 ^ (7 * k) := Nat.mul_le_mul (by omega) (Nat.le_refl _)
          omega
        have HNEW := hide hnew
        have hcl' : wr.cell? ⟨ab, ao + (p + k), none⟩ = some (.int .u8 (c : Int)) := hcl
        have h3 : (0 : Int) ≤ 7 * (k : Int) := by omega
        clear hor hcell hcl hV hnew h128 hend hsh
        generalize V + c % 128 * 2 ^ (7 * k) = N at hor' HNEW HN
        by_cases hA : c = 0 ∧ 0 < k
        · have HE : Hid (varRd zs p 9 0 0 = (0, 0, 11)) := hide (by rw [unhide HN, if_pos hA])
          have hc0 : ((c : Int) == 0) = true := by simp; omega
          have hk0 : (0 : Int) < k := by omega
          clear hA
          go_wp2_with fail
          go_ret3
          refine ⟨?_, Below.refl _ _⟩
          rw [unhide HE]
          rfl
        · by_cases hB : c < 128
          · have HE : Hid (varRd zs p 9 0 0 = (N, p + k + 1, 0)) := hide (by rw [unhide HN, if_neg hA, if_pos hB])
            have hc7 : ((c : Int) / 128 == 0) = true := by simp; omega
            by_cases hz0 : c = 0
            · have hc0 : ((c : Int) == 0) = true := by simp; omega
              have hk0 : ¬ (0 : Int) < k := by omega
              clear hA hB hz0
              go_wp2_with fail
              go_ret3
              refine ⟨?_, Below.refl _ _⟩
              rw [unhide HE]
              rfl
            · have hc0 : ((c : Int) == 0) = false := by simp; omega
              clear hA hB hz0
              go_wp2_with fail
              go_ret3
              refine ⟨?_, Below.refl _ _⟩
              rw [unhide HE]
              rfl
          · have HE : Hid (varRd zs p 9 0 0 = varRd zs p (9 - (k + 1)) (k + 1) N) := hide (by rw [unhide HN, if_neg hA, if_neg hB])
            have hc7 : ((c : Int) / 128 == 0) = false := by simp; omega
            have hc0 : ((c : Int) == 0) = false := by simp; omega
            clear hA hB
            go_wp2_with fail
            go_roundg (10 - (k + 1))
            case measure => omega
            case rel => exact ⟨k + 1, N, rfl, by omega, by go_num, rfl, unhide HNEW, hide (unhide HE), by omega, rfl⟩
end Go.Proofs.YtbefokclbcdmhaaDoor
