/- sums.product and sums.Join. -/
import Derived.Test.YtnijllkafakoiaaJoinMath
import Derived.Test.YtnijllkafakoiaaLow
namespace Go.Proofs.Ytnijllkafakoiaa
open Go.RowKit

theorem top_bit (b j : Nat) (hj : j < 32) : b * 2 ^ j % 4294967296 / 2147483648 = (if b.testBit (31 - j) then 1 else 0) := by
  have h : Nat.testBit (b * 2 ^ j % 2 ^ 32) 31 = b.testBit (31 - j) := by
    rw [Nat.testBit_mod_two_pow, Nat.testBit_mul_two_pow]
    simp; omega
  have h2 : b * 2 ^ j % 4294967296 < 4294967296 := Nat.mod_lt _ (by omega)
  rw [← h]
  show b * 2 ^ j % 4294967296 / 2147483648 = (if Nat.testBit (b * 2 ^ j % 4294967296) 31 then 1 else 0)
  generalize b * 2 ^ j % 4294967296 = X at h2
  have h3 := @Nat.testBit_div_two_pow 31 X 0
  rw [Nat.zero_add, Nat.testBit_zero] at h3
  rw [← h3]
  show X / 2147483648 = (if decide (X / 2147483648 % 2 = 1) then 1 else 0)
  have : X / 2147483648 = 0 ∨ X / 2147483648 = 1 := by omega
  rcases this with h | h <;> rw [h] <;> rfl

theorem prod_lt {f : Nat → Nat} (hf : ∀ r, r < 4294967296 → f r < 4294967296) (a b : Nat) (ha : a < 4294967296) : ∀ j, prod f a b j < 4294967296
  | 0 => by simp [prod, osum]
  | j + 1 => by
    have ih := prod_lt hf a b ha j
    rw [prod] at ih ⊢
    rw [osum]
    refine Nat.xor_lt_two_pow (n := 32) ih ?_
    split
    · exact it_lt hf j a ha
    · omega

set_option maxHeartbeats 2000000 in
theorem product_walk (a b : Nat) (w : World) (ha : a < 4294967296) (hb : b < 4294967296) :
    Calls Try.prog 24 #[.int .u32 (a : Int), .int .u32 (b : Int)] w fun e w' => e = .returned (.int .u32 (prod (lstep pl) a b 32 : Int)) ∧ w' = w := by
  have HA := hide ha
  have HB0 : Hid (b = b * 2 ^ 0 % 4294967296) := hide (by omega)
  clear ha hb
  go_enter Try.func24, Try.ntmps24
  go_wp2_with fail
  go_loopg [0, 1, 5] 32 (fun gk x y p ws => ∃ j : Nat, gk = 32 - j ∧ j ≤ 32 ∧ x = .int .u32 (it (lstep pl) j a : Int) ∧ y = .int .u32 ((b * 2 ^ j % 4294967296 : Nat) : Int) ∧ p = .int .u32 (prod (lstep pl) a b j : Int) ∧ ws = w)
  case atStart => exact ⟨0, by omega, by omega, rfl, by rw [← unhide HB0], rfl, rfl⟩
  case round =>
    obtain ⟨j, rfl, hj, rfl, rfl, rfl, rfl⟩ := hrel
    have hB : b * 2 ^ j % 4294967296 < 4294967296 := Nat.mod_lt _ (by omega)
    by_cases hz : b * 2 ^ j % 4294967296 = 0
    · have HR := hide (prod_rest (lstep pl) a b j hz hj)
      rw [hz]
      clear hz hB hj
      go_wp2_with fail
      go_ret
      exact ⟨by rw [unhide HR]; rfl, rfl⟩
    · have hj32 : j < 32 := by
        rcases Nat.lt_or_ge j 32 with h | h
        · exact h
        · obtain rfl : j = 32 := by omega
          exact absurd (by show b * 4294967296 % 4294967296 = 0; omega) hz
      have ht := top_bit b j hj32
      have HNB : Hid (b * 2 ^ j % 4294967296 * 2 % 4294967296 = b * 2 ^ (j + 1) % 4294967296) := hide (by
        rw [Nat.pow_succ, ← Nat.mul_assoc]; generalize b * 2 ^ j = X; omega)
      have HNP : Hid (prod (lstep pl) a b (j + 1) = prod (lstep pl) a b j ^^^ (if b.testBit (31 - j) then it (lstep pl) j a else 0)) := hide rfl
      have HNA : Hid (lstep pl (it (lstep pl) j a) = it (lstep pl) (j + 1) a) := hide (it_succ _ _ _).symm
      have hA := it_lt (fun r hr => lstep_lt (w := 32) (p := pl) (by decide) hr) j a (unhide HA)
      have hP := prod_lt (fun r hr => lstep_lt (w := 32) (p := pl) (by decide) hr) a b (unhide HA) j
      have HK := hide hj32
      generalize b * 2 ^ j % 4294967296 = B at *
      generalize it (lstep pl) j a = A at *
      obtain ⟨P, hPP⟩ : ∃ P, P = prod (lstep pl) a b j := ⟨_, rfl⟩
      rw [← hPP] at HNP hP ⊢
      have hc := lstep_walk32 A pl wr hA (by decide)
      rw [unhide HNA] at hc
      have HC := hide hc
      obtain ⟨B', hB'⟩ : ∃ B', B' = B * 2 % 4294967296 := ⟨_, rfl⟩
      have hBi : (B : Int) * 2 % 4294967296 = (B' : Int) := by omega
      have HB' : Hid (B' = b * 2 ^ (j + 1) % 4294967296) := hide (by rw [hB', unhide HNB])
      have hne : ((B : Int) == 0) = false := by simp; omega
      have hne' : (B : Int) ≠ 0 := by omega
      by_cases htb : b.testBit (31 - j)
      · rw [htb] at ht HNP
        simp only [if_true] at ht HNP
        have hti : (B : Int) / 2147483648 = 1 := by omega
        obtain ⟨P', hP'⟩ : ∃ P', P ^^^ A = P' := ⟨_, rfl⟩
        have hx := xor_32 hP hA hP'
        rw [hP'] at HNP
        clear hc hz hB hj hj32 ht hA hP hPP hB' htb hP'
        go_wp2_with fail
        refine (unhide HC).mono ?_
        rintro e ws ⟨rfl, rfl⟩
        go_wp2_with fail
        go_roundg (32 - (j + 1))
        case measure => have := unhide HK; omega
        case rel => exact ⟨j + 1, rfl, unhide HK, rfl, by rw [← unhide HB'] <;> first | rfl | rw [hBi], by rw [unhide HNP], rfl⟩
      · have htb' : b.testBit (31 - j) = false := by simpa using htb
        rw [htb'] at ht HNP
        simp only [if_false, Bool.false_eq_true, Nat.xor_zero] at ht HNP
        have hti : (B : Int) / 2147483648 = 0 := by omega
        have hB2 : (B : Int) * 2 = (B' : Int) := by omega
        clear hc hz hB hj hj32 ht hA hP hPP hB' htb htb'
        go_wp2_with fail
        refine (unhide HC).mono ?_
        rintro e ws ⟨rfl, rfl⟩
        go_wp2_with fail
        go_roundg (32 - (j + 1))
        case measure => have := unhide HK; omega
        case rel => exact ⟨j + 1, rfl, unhide HK, rfl, by rw [← unhide HB'] <;> first | rfl | rw [hBi], by rw [unhide HNP], rfl⟩

theorem product_way (a m : Nat) (w : World) (ha : a < 4294967296) :
    Calls Try.prog 24 #[.int .u32 (a : Int), .int .u32 (it (lstep pl) m 2147483648 : Int)] w fun e w' => e = .returned (.int .u32 (it (lstep pl) m a : Int)) ∧ w' = w := by
  have h := product_walk a (it (lstep pl) m 2147483648) w ha (it_lt (fun r hr => lstep_lt (w := 32) (p := pl) (by decide) hr) m _ (by omega))
  rw [prod_pow a m ha] at h
  exact h

theorem way_one : it (lstep pl) 8 2147483648 = 8388608 := by decide +kernel

theorem wrap64_eq (n : Nat) (h : n < 4611686018427387904) : wrap64 (n : Int) = (n : Int) := by unfold wrap64; omega

set_option maxHeartbeats 2000000 in
theorem join_bad (a b : Nat) (n : Int) (w : World) (hn : n < 0) :
    Calls Try.prog 17 #[.int .u32 (a : Int), .int .u32 (b : Int), .int .i64 n] w fun e w' => e = .returned (.tuple #[.int .u32 0, .int .i64 2]) ∧ w' = w := by
  go_enter Try.func17, Try.ntmps17
  go_wp2_with fail
  go_ret2
  exact ⟨rfl, rfl⟩

set_option maxHeartbeats 2000000 in
theorem join_walk (a b n : Nat) (w : World) (ha : a < 4294967296) (hb : b < 4294967296) (hn : n < 9223372036854775808) :
    Calls Try.prog 17 #[.int .u32 (a : Int), .int .u32 (b : Int), .int .i64 (n : Int)] w fun e w' => e = .returned (.tuple #[.int .u32 (joined a b n : Int), .int .i64 0]) ∧ w' = w := by
  have HA := hide ha
  have HB := hide hb
  have HN := hide hn
  have hn0 : ¬ (n : Int) < 0 := by omega
  clear ha hb hn
  go_enter Try.func17, Try.ntmps17
  go_wp2_with fail
  go_loopg [0, 2, 8] n (fun gk x y v ws => ∃ (A N m : Nat), gk = N ∧ N ≤ n ∧ A < 4294967296 ∧ x = .int .u32 (A : Int) ∧ y = .int .i64 (N : Int) ∧ v = .int .u32 (it (lstep pl) m 2147483648 : Int) ∧ it (lstep pl) (m * N) A = it (lstep pl) (8 * n) a ∧ ws = w)
  case atStart => exact ⟨a, n, 8, rfl, by omega, unhide HA, rfl, rfl, by rw [way_one]; rfl, rfl, rfl⟩
  case round =>
    obtain ⟨A, N, m, hgk, hNn, hA, rfl, rfl, rfl, hfin, rfl⟩ := hrel
    obtain ⟨v, hv⟩ : ∃ v, v = it (lstep pl) m 2147483648 := ⟨_, rfl⟩
    have hvb : v < 4294967296 := by rw [hv]; exact it_lt (fun r hr => lstep_lt (w := 32) (p := pl) (by decide) hr) m _ (by omega)
    have hc2 := product_way v m wr hvb
    have hc1 := product_way A m wr hA
    rw [← hv] at hc1 hc2 ⊢
    have HV : Hid (it (lstep pl) m v = it (lstep pl) (2 * m) 2147483648) := hide (by rw [hv, ← it_add, Nat.two_mul])
    rw [unhide HV] at hc2
    have HC1 := hide hc1
    have HC2 := hide hc2
    have HFIN := hide hfin
    have HAA := hide hA
    have HGK := hide hgk
    clear hc1 hc2 hfin hv hvb hgk
    by_cases hN : 0 < N
    · obtain ⟨H, hH⟩ : ∃ H, H = N / 2 := ⟨_, rfl⟩
      have hHi : (N : Int) / 2 = (H : Int) := by omega
      have hNi : (0 : Int) < (N : Int) := by omega
      have HHB : Hid (H < 4611686018427387904) := hide (by have := unhide HN; omega)
      have HH : Hid (H < N ∧ H ≤ n ∧ 0 < N) := hide (by omega)
      by_cases ho : N % 2 = 1
      · have hoi : (N : Int) % 2 = 1 := by omega
        have HF2 : Hid (it (lstep pl) (2 * m * H) (it (lstep pl) m A) = it (lstep pl) (8 * n) a) := hide (by
          rw [← it_add, ← unhide HFIN]
          congr 1
          have e : N = 2 * H + 1 := by omega
          rw [e, Nat.mul_add, Nat.mul_one, ← Nat.mul_assoc, Nat.mul_comm m 2])
        have HAB : Hid (it (lstep pl) m A < 4294967296) := hide (it_lt (fun r hr => lstep_lt (w := 32) (p := pl) (by decide) hr) m _ hA)
        clear hH hN ho hA hNn
        go_wp2_with fail
        refine (unhide HC1).mono ?_
        rintro e ws ⟨rfl, rfl⟩
        go_wp2_with fail
        refine (unhide HC2).mono ?_
        rintro e ws ⟨rfl, rfl⟩
        go_wp2_with fail
        go_roundg H
        case measure => have := unhide HH; have := unhide HGK; omega
        case rel => exact ⟨_, H, 2 * m, rfl, (unhide HH).2.1, unhide HAB, rfl, by rw [wrap64_eq _ (unhide HHB)], rfl, unhide HF2, rfl⟩
      · have hoi : (N : Int) % 2 = 0 := by omega
        have HF2 : Hid (it (lstep pl) (2 * m * H) A = it (lstep pl) (8 * n) a) := hide (by
          rw [← unhide HFIN]
          congr 1
          have e : N = 2 * H := by omega
          rw [e, ← Nat.mul_assoc, Nat.mul_comm m 2])
        clear hH hN ho hA hNn
        go_wp2_with fail
        refine (unhide HC2).mono ?_
        rintro e ws ⟨rfl, rfl⟩
        go_wp2_with fail
        go_roundg H
        case measure => have := unhide HH; have := unhide HGK; omega
        case rel => exact ⟨_, H, 2 * m, rfl, (unhide HH).2.1, unhide HAA, rfl, by rw [wrap64_eq _ (unhide HHB)], rfl, unhide HF2, rfl⟩
    · obtain rfl : N = 0 := by omega
      have HE : Hid (joined a b n = A ^^^ b) := hide (by rw [joined, ← unhide HFIN]; rfl)
      obtain ⟨y, hy⟩ : ∃ y, A ^^^ b = y := ⟨_, rfl⟩
      have hx := xor_32 hA (unhide HB) hy
      rw [hy] at HE
      clear hN hA hNn hy
      go_wp2_with fail
      go_ret2
      exact ⟨by rw [unhide HE]; rfl, rfl⟩
end Go.Proofs.Ytnijllkafakoiaa
