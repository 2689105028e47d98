/- May, Tree. -/
import Derived.Test.YtbolhbjipmndeaaDBi
namespace Go.Proofs.Ytbolhbjipmndeaa.D
open Go.RowKit Rang
set_option maxRecDepth 100000
set_option linter.unusedVariables false
attribute [local go_sem ↓] Go.wp_at_zero Go.wp_at_succ

set_option maxHeartbeats 2000000 in
theorem may_ok (base n N : Nat) (w : World) (hn : n ≤ 16) (hb : base + 2 ^ n ≤ N) (hN : N ≤ 140737488355328) :
    Calls Try.prog 54 #[.int .i64 (base : Int), .int .i64 (n : Int), .int .i64 (N : Int)] w fun e w' => e = .returned (.bool true) ∧ w' = w := by
  have hp : 2 ^ n ≤ 2 ^ 16 := Nat.pow_le_pow_right (by omega) hn
  obtain ⟨P, hP⟩ : ∃ P, P = 2 ^ n := ⟨_, rfl⟩
  have e1 : (2 : Int) ^ n = (P : Int) := by rw [hP]; simp
  rw [← hP] at hp hb
  have fP : wrap64 (P : Int) = (P : Int) := IntWalk.wrap64_in _ (by omega)
  have t1 : (0 : Int) ≤ (base : Int) := by omega
  have t2 : (n : Int) ≤ 16 := by omega
  have t3 : (P : Int) ≤ (N : Int) := by omega
  have t4 : (base : Int) ≤ (N : Int) - (P : Int) := by omega
  have fs : wrap64 ((N : Int) - (P : Int)) = (N : Int) - (P : Int) := IntWalk.wrap64_in _ (by omega)
  have hn2 : n < 64 := by omega
  clear hP hp hb
  go_enter Try.func54, Try.ntmps54
  go_wp2_with fail
  go_ret
  exact ⟨rfl, rfl⟩

/-- bits by a tree's chances -/
def putsE (base : Nat) : Nat → List Bool → Enc × List Nat → Enc × List Nat
  | _, [], s => s
  | m, b :: bs, s => putsE base (2 * m + b.toNat) bs (putE s.1 (s.2.getD (base + m) 0) b, s.2.set (base + m) (after (s.2.getD (base + m) 0) b))

/-- a number's bits, the highest or the lowest first -/
def bitsT (v n : Nat) (high : Bool) : List Bool := (List.range n).map fun i => v.testBit (if high then n - 1 - i else i)

theorem bitsT_drop (v n : Nat) (high : Bool) (i : Nat) (hi : i < n) : (bitsT v n high).drop i = v.testBit (if high then n - 1 - i else i) :: (bitsT v n high).drop (i + 1) := by
  rw [List.drop_eq_getElem_cons (by simpa [bitsT] using hi)]
  congr 1
  simp [bitsT]

set_option maxHeartbeats 4000000 in
theorem tree_ok (B pb gc cc : Nat) (w : World) (ov : Value) (c : Enc) (ch : List Nat) (k base v n : Nat) (high : Bool) (h : ES B w pb gc cc ov c ch k) (hn : n ≤ 16) (hb : base + 2 ^ n ≤ ch.length) (hv : v < 2 ^ n) (hk : k ≤ 80000000000000) (hN : ch.length ≤ 140737488355328) :
    Calls Try.prog 21 #[.pointer (some ⟨pb, 0, none⟩), .int .i64 (base : Int), .int .i64 (v : Int), .int .i64 (n : Int), .bool high] w fun e w' => e = .returned (.int .i64 0) ∧ ∃ ov' k', ES B w' pb gc cc ov' (putsE base 1 (bitsT v n high) (c, ch)).1 (putsE base 1 (bitsT v n high) (c, ch)).2 k' ∧ k' ≤ k + n ∧ Tch w w' pb gc cc ov ov' := by
  have HE := hide h
  have HM := hide (may_ok base n ch.length w hn hb hN)
  have c0 := h.ec.enc.chs
  have hp : 2 ^ n ≤ 2 ^ 16 := Nat.pow_le_pow_right (by omega) hn
  obtain ⟨P, hP⟩ : ∃ P, P = 2 ^ n := ⟨_, rfl⟩
  have e1 : (2 : Int) ^ n = (P : Int) := by rw [hP]; simp
  have HP := hide hP
  rw [← hP] at hp hb hv
  have fP : wrap64 (P : Int) = (P : Int) := IntWalk.wrap64_in _ (by omega)
  have d2 : decide ((v : Int) < 0) = false := decide_eq_false (by omega)
  have t2 : ¬ (P : Int) ≤ (v : Int) := by omega
  have d3 : decide (P ≤ v) = false := decide_eq_false (by omega)
  have d4 : decide ((P : Int) ≤ (v : Int)) = false := decide_eq_false t2
  have hP16 : P ≤ 65536 := by omega
  obtain ⟨N, hNN⟩ : ∃ N, N = ch.length := ⟨_, rfl⟩
  have HNN := hide hNN
  rw [← hNN] at HM c0 hb hN
  have hn2 : n < 64 := by omega
  have hv2 : v < 65536 := by omega
  obtain ⟨R, hR⟩ : ∃ R, R = putsE base 1 (bitsT v n high) (c, ch) := ⟨_, rfl⟩
  have HR := hide hR
  rw [← hR]
  clear h hP hNN hp hv hR
  go_enter Try.func21, Try.ntmps21
  go_wp2_with fail
  refine (unhide HM).mono ?_
  rintro e w1 ⟨rfl, rfl⟩
  go_wp2_with fail
  clear e1 fP d2 t2 d3 d4 c0
  go_loopg [11, 12] n (fun gk mv d ws => ∃ (i m : Nat) (s : Enc × List Nat) (ov' : Value) (k' : Nat), gk = n - i ∧ i ≤ n ∧ m + 1 ≤ 2 ^ (i + 1) ∧ mv = .int .i64 (m : Int) ∧ d = .int .i64 (i : Int) ∧ Hid (ES B ws pb gc cc ov' s.1 s.2 k') ∧ Hid (s.2.length = N) ∧ Hid (putsE base m ((bitsT v n high).drop i) s = R) ∧ Hid (k' ≤ k + i) ∧ Hid (Tch w1 ws pb gc cc ov ov'))
  case atStart => exact ⟨0, 1, (c, ch), ov, k, by omega, by omega, by decide, rfl, rfl, HE, hide (unhide HNN).symm, hide (unhide HR).symm, hide (Nat.le_refl _), hide (Tch.refl _ _ _ _ _)⟩
  case round =>
    clear HE
    obtain ⟨i, m, ⟨c', ch'⟩, ov', k', rfl, hi, hm, rfl, rfl, HE, HL, HX, HK, HT⟩ := hrel
    rename World => wi
    by_cases hlt : i < n
    · have tl : (i : Int) < (n : Int) := by omega
      have hmp : 2 ^ (i + 1) ≤ 2 ^ n := Nat.pow_le_pow_right (by omega) (by omega)
      rw [← unhide HP] at hmp
      have hX := unhide HX
      rw [bitsT_drop v n high i hlt] at hX
      simp only [putsE] at hX
      obtain ⟨kk, hkk⟩ : ∃ kk, kk = (if high then n - 1 - i else i) := ⟨_, rfl⟩
      rw [← hkk] at hX
      obtain ⟨bit, hbit⟩ : ∃ bit, bit = v.testBit kk := ⟨_, rfl⟩
      obtain ⟨x, hx⟩ : ∃ x, x = v / 2 ^ kk := ⟨_, rfl⟩
      have fx : (v : Int) / 2 ^ kk = (x : Int) := by rw [hx]; simp
      have hxv : x ≤ v := by rw [hx]; exact Nat.div_le_self _ _
      obtain ⟨y, hy⟩ : ∃ y, y = bit.toNat := ⟨_, rfl⟩
      have hy1 : y ≤ 1 := by rw [hy]; exact Bool.toNat_le bit
      have fx2 : (x : Int).tmod 2 = (y : Int) := by
        rw [show (2 : Int) = ((2 : Nat) : Int) from rfl, tmod_nat, hx, bit_mod, hy, hbit]
      have hkn : kk < n := by rw [hkk]; split <;> omega
      rw [← hbit, ← hy] at hX
      have HX2 := hide hX
      have HPU := hide (put_es B pb gc cc wi ov' c' ch' k' (base + m) bit (unhide HE) (by have := unhide HL; simp only at this; omega) (by have := unhide HK; omega))
      rw [← hy, show ((base + m : Nat) : Int) = (base : Int) + (m : Int) by omega] at HPU
      have hpw : 2 * m + y + 1 ≤ 2 ^ (i + 1 + 1) := by rw [Nat.pow_succ]; omega
      have HPW := hide hpw
      have hm2 : m < 65536 := by omega
      have hbm : base + m ≤ 140737488355328 := by omega
      clear hbit hx hy hX HX hm hmp hpw
      have fin : ∀ (e : Ending) (w1 : World), True := fun _ _ => trivial
      cases high
      · obtain rfl : i = kk := by rw [hkk]; rfl
        clear hkk
        go_wp2_with fail
        refine (unhide HPU).mono ?_
        rintro e w5 ⟨rfl, ov5, k5, h5, h6, h7⟩
        have H5 := hide h5
        have H6 := hide h6
        have H7 := hide ((unhide HT).trans h7)
        clear h5 h6 h7 HPU
        go_wp2_with fail
        go_roundg (n - (i + 1))
        case measure => omega
        case rel => exact ⟨i + 1, 2 * m + y, _, ov5, k5, rfl, by omega, unhide HPW, by go_num, by go_num, H5, hide (by rw [List.length_set]; exact unhide HL), HX2, hide (by have := unhide HK; have := unhide H6; omega), H7⟩
      · have fk : (n : Int) - 1 - (i : Int) = (kk : Int) := by rw [hkk]; simp only [if_true]; omega
        clear hkk
        go_wp2_with fail
        refine (unhide HPU).mono ?_
        rintro e w5 ⟨rfl, ov5, k5, h5, h6, h7⟩
        have H5 := hide h5
        have H6 := hide h6
        have H7 := hide ((unhide HT).trans h7)
        clear h5 h6 h7 HPU
        go_wp2_with fail
        go_roundg (n - (i + 1))
        case measure => omega
        case rel => exact ⟨i + 1, 2 * m + y, _, ov5, k5, rfl, by omega, unhide HPW, by go_num, by go_num, H5, hide (by rw [List.length_set]; exact unhide HL), HX2, hide (by have := unhide HK; have := unhide H6; omega), H7⟩
    · obtain rfl : n = i := by omega
      have tl : ¬ (n : Int) < (n : Int) := by omega
      go_wp2_with fail
      go_ret
      have hX := unhide HX
      rw [List.drop_eq_nil_of_le (by simp [bitsT]), putsE] at hX
      rw [← hX]
      exact ⟨rfl, ov', k', unhide HE, unhide HK, unhide HT⟩
end Go.Proofs.Ytbolhbjipmndeaa.D
