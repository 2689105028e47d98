/-
  What the document's Var tells.
-/
import Derived.Test.YtcppnkbfndhioaaNRdTwo
namespace Go.Proofs.Ytcppnkbfndhioaa.N
open Go.RowKit
set_option maxRecDepth 100000

/-- the document's way: k bytes may follow, i are read, and spell v -/
def varRef (zs : List Nat) (p : Nat) : Nat → Nat → Nat → Nat × Nat × Nat
  | 0, _, _ => (0, 0, 11)
  | k + 1, i, v =>
    if zs.length ≤ p + i then (0, 0, 10)
    else if i = 9 then (0, 0, 11)
    else if zs.getD (p + i) 0 = 0 ∧ 0 < i then (0, 0, 11)
    else if zs.getD (p + i) 0 < 128 then (v + zs.getD (p + i) 0 % 128 * 2 ^ (7 * i), p + i + 1, 0)
    else varRef zs p k (i + 1) (v + zs.getD (p + i) 0 % 128 * 2 ^ (7 * i))
/-- what Var tells at any place -/
def varAll (zs : List Nat) (p : Int) : Nat × Nat × Nat := if p < 0 ∨ (zs.length : Int) < p then (0, 0, 2) else varRef zs p.toNat 10 0 0
theorem varAll_arg {zs : List Nat} {p : Int} (h : p < 0 ∨ (zs.length : Int) < p) : varAll zs p = (0, 0, 2) := by rw [varAll, if_pos h]
theorem varAll_at {zs : List Nat} {p : Nat} (h : p ≤ zs.length) : varAll zs p = varRef zs p 10 0 0 := by rw [varAll, if_neg (by omega)]; rfl

set_option maxRecDepth 100000 in
set_option maxHeartbeats 1000000 in
theorem refVar_any (v : Value) (zs : List Nat) (p : Int) (w : World) (hr : Reads w v zs) (hs : ∀ z ∈ zs, z < 256) (hn : zs.length ≤ 140737488355328) :
    Calls Try.prog 23 #[v, .int .i64 p] w fun e w' => e = .returned (tri (varAll zs p)) ∧ Below w.heap.size w w' := by
  obtain ⟨a, cap, rfl, hsrc⟩ := hr.spot
  have HS := hide hsrc
  have HSM := hide (getD_small hs)
  clear hsrc hr hs
  by_cases h3 : p < 0
  · rw [varAll_arg (.inl h3)]
    go_enter Try.func23, Try.ntmps23
    go_wp2_with fail
    go_ret3
    exact ⟨rfl, Below.refl _ _⟩
  by_cases h4 : (zs.length : Int) < p
  · rw [varAll_arg (.inr h4)]
    go_enter Try.func23, Try.ntmps23
    go_wp2_with fail
    go_ret3
    exact ⟨rfl, Below.refl _ _⟩
  obtain ⟨P, rfl⟩ := Int.eq_ofNat_of_zero_le (show 0 ≤ p by omega)
  rw [varAll_at (by omega)]
  have hP : P ≤ zs.length := by omega
  go_enter Try.func23, Try.ntmps23
  go_wp2_with fail
  go_loopg [7, 8, 9] 10 (fun gk v c x ws => ∃ (k V : Nat), gk = 10 - k ∧ k ≤ 9 ∧ c = .int .i64 (k : Int) ∧ v = .int .u64 (V : Int) ∧ V < 2 ^ (7 * k) ∧ Hid (varRef zs P 10 0 0 = varRef zs P (10 - k) k V) ∧ ws = w)
  case atStart => exact ⟨0, 0, by omega, by omega, rfl, rfl, by omega, hide rfl, rfl⟩
  case round =>
    obtain ⟨k, V, rfl, hk, rfl, rfl, hV, HP, rfl⟩ := hrel
    by_cases hend : zs.length ≤ P + k
    · have he : (zs.length : Int) ≤ (P : Int) + (k : Int) := by omega
      have HE : Hid (varRef zs P 10 0 0 = (0, 0, 10)) := hide (by rw [unhide HP, show 10 - k = (9 - k) + 1 by omega, varRef, if_pos hend])
      clear hV
      go_wp2_with fail
      go_ret3
      refine ⟨?_, Below.refl _ _⟩
      rw [unhide HE]
      rfl
    · have he : ¬ (zs.length : Int) ≤ (P : Int) + (k : Int) := by omega
      by_cases h9 : k = 9
      · have h9' : ((k : Int) == 9) = true := by simp; omega
        have HE : Hid (varRef zs P 10 0 0 = (0, 0, 11)) := hide (by rw [unhide HP, show 10 - k = (9 - k) + 1 by omega, varRef, if_neg hend, if_pos h9])
        clear hV h9
        go_wp2_with fail
        go_ret3
        refine ⟨?_, Below.refl _ _⟩
        rw [unhide HE]
        rfl
      · have h9' : ((k : Int) == 9) = false := by simp; omega
        obtain ⟨ab, ao, rfl, hcell⟩ := unhide HS (by omega)
        have hcl := hcell (P + k) (by omega)
        have hz := unhide HSM (P + k)
        have HN : Hid (varRef zs P 10 0 0 = if zs.getD (P + k) 0 = 0 ∧ 0 < k then (0, 0, 11) else if zs.getD (P + k) 0 < 128 then (V + zs.getD (P + k) 0 % 128 * 2 ^ (7 * k), P + k + 1, 0) else varRef zs P (10 - (k + 1)) (k + 1) (V + zs.getD (P + k) 0 % 128 * 2 ^ (7 * k))) := hide (by
          rw [unhide HP, show 10 - k = (10 - (k + 1)) + 1 by omega, varRef, if_neg hend, if_neg h9])
        generalize zs.getD (P + k) 0 = c at hcl hz HN
        have hm := Nat.mod_lt c (show 128 > 0 by omega)
        have hmt : Int.tmod (c : Int) 128 = ((c % 128 : Nat) : Int) := rfl
        have hsh : c % 128 * 2 ^ (7 * k) < 9223372036854775808 := by
          have h1 : 2 ^ (7 * k) ≤ 2 ^ 56 := Nat.pow_le_pow_right (by omega) (by omega)
          have h2 : c % 128 * 2 ^ (7 * k) ≤ 127 * 2 ^ 56 := Nat.mul_le_mul (by omega) h1
          omega
        have hV63 : V < 9223372036854775808 := by
          have h1 : 2 ^ (7 * k) ≤ 2 ^ 56 := Nat.pow_le_pow_right (by omega) (by omega)
          omega
        have hor := u64_or_nat V (c % 128 * 2 ^ (7 * k)) (by omega) (by omega)
        rw [or_add V (c % 128) (7 * k) hV] at hor
        have hor' : bits .or .u64 (V : Int) (IntKind.u64.wrap ((c : Int) % 128 * 2 ^ (7 * k))) = ((V + c % 128 * 2 ^ (7 * k) : Nat) : Int) := by
          have e1 : ((c : Int) % 128 * 2 ^ (7 * k)) = ((c % 128 * 2 ^ (7 * k) : Nat) : Int) := by simp
          rw [e1, IntKind.wrap_u64, show ((c % 128 * 2 ^ (7 * k) : Nat) : Int) % 18446744073709551616 = ((c % 128 * 2 ^ (7 * k) : Nat) : Int) by omega]
          exact hor
        have hnew : V + c % 128 * 2 ^ (7 * k) < 2 ^ (7 * (k + 1)) := by
          have e1 : 2 ^ (7 * (k + 1)) = 128 * 2 ^ (7 * k) := by rw [Nat.mul_add, Nat.pow_add]; omega
          rw [e1]
          have h2 : c % 128 * 2 ^ (7 * k) ≤ 127 * 2 ^ (7 * k) := Nat.mul_le_mul (by omega) (Nat.le_refl _)
          omega
        have HNEW := hide hnew
        have h3 : (0 : Int) ≤ 7 * (k : Int) := by omega
        have hlt2 : (P : Int) + k < zs.length := by omega
        clear hor hcell hV hnew hend hsh
        generalize V + c % 128 * 2 ^ (7 * k) = N at hor' HNEW HN
        by_cases hA : c = 0 ∧ 0 < k
        · have HE : Hid (varRef zs P 10 0 0 = (0, 0, 11)) := hide (by rw [unhide HN, if_pos hA])
          have hc0 : ((c : Int) == 0) = true := by simp; omega
          have hk0 : (0 : Int) < k := by omega
          clear hA
          go_wp2_with fail
          go_ret3
          refine ⟨?_, Below.refl _ _⟩
          rw [unhide HE]
          rfl
        · by_cases hB : c < 128
          · have HE : Hid (varRef zs P 10 0 0 = (N, P + k + 1, 0)) := hide (by rw [unhide HN, if_neg hA, if_pos hB])
            have hB' : (c : Int) < 128 := by omega
            by_cases hz0 : c = 0
            · have hc0 : ((c : Int) == 0) = true := by simp; omega
              have hk0 : ¬ (0 : Int) < k := by omega
              clear hA hB hz0
              go_wp2_with fail
              go_ret3
              refine ⟨?_, Below.refl _ _⟩
              rw [unhide HE]
              rfl
            · have hc0 : ((c : Int) == 0) = false := by simp; omega
              clear hA hB hz0
              go_wp2_with fail
              go_ret3
              refine ⟨?_, Below.refl _ _⟩
              rw [unhide HE]
              rfl
          · have HE : Hid (varRef zs P 10 0 0 = varRef zs P (10 - (k + 1)) (k + 1) N) := hide (by rw [unhide HN, if_neg hA, if_neg hB])
            have hB' : ¬ (c : Int) < 128 := by omega
            have hc0 : ((c : Int) == 0) = false := by simp; omega
            clear hA hB
            go_wp2_with fail
            go_roundg (10 - (k + 1))
            case measure => omega
            case rel => exact ⟨k + 1, N, rfl, by omega, by go_num, rfl, unhide HNEW, hide (unhide HE), rfl⟩
end Go.Proofs.Ytcppnkbfndhioaa.N
