/- putTree, Tree, Reverse (the program's). -/
import Derived.Test.YtbolhbjipmndeaaPv
namespace Go.Proofs.Ytbolhbjipmndeaa.D
open Go.RowKit Rang
set_option maxRecDepth 100000
set_option linter.unusedVariables false
attribute [local go_sem ↓] Go.wp_at_zero Go.wp_at_succ

theorem mayB_nat {base n : Int} {N : Nat} (h : MayB base n N) : ∃ b m : Nat, base = b ∧ n = m ∧ m ≤ 16 ∧ b + 2 ^ m ≤ N := by
  obtain ⟨b, rfl⟩ := Int.eq_ofNat_of_zero_le h.1
  obtain ⟨m, rfl⟩ := Int.eq_ofNat_of_zero_le h.2.1
  refine ⟨b, m, rfl, rfl, by have := h.2.2.1; omega, ?_⟩
  have := h.2.2.2
  rw [show (m : Int).toNat = m from rfl] at this
  exact_mod_cast this

theorem mayB_of {b m N : Nat} (h1 : m ≤ 16) (h2 : b + 2 ^ m ≤ N) : MayB b m N := ⟨by omega, by omega, by omega, by rw [show (m : Int).toNat = m from rfl]; exact_mod_cast h2⟩

set_option maxHeartbeats 4000000 in
theorem puttree_high (B pb gc : Nat) (w : World) (ov : Value) (c : Enc) (ch : List Nat) (k base v n : Nat) (a b : Nat) (h : PS B w pb gc ov c ch k) (hcap : Cap w a v ∧ Cap w b n) (hn : n ≤ 16) (hb : base + 2 ^ n ≤ ch.length) (hv : v < 2 ^ n) (hk : k ≤ 80000000000000) (hN : ch.length ≤ 140737488355328) :
    Calls Try.prog 53 #[.pointer (some ⟨pb, 0, none⟩), .int .i64 (base : Int), .int .i64 (v : Int), .int .i64 (n : Int), .func (.func 73) #[] #[.pointer (some ⟨a, 0, none⟩), .pointer (some ⟨b, 0, none⟩)]] w fun e w' => e = .returned (.int .i64 0) ∧ ∃ ov' k', PS B w' pb gc ov' (putsE base 1 (bitsT v n true) (c, ch)).1 (putsE base 1 (bitsT v n true) (c, ch)).2 k' ∧ k' ≤ k + n ∧ Tch w w' pb gc 0 ov ov' := by
  have HE := hide h
  have HCP := hide hcap
  have HG := hide (good_ok pb w true h.pc.enc.made)
  have HM := hide (hasTree_yes (some ⟨gc, 0, none⟩) ch.length ch.length base n w hN (mayB_of hn hb))
  have HV := hide (hasBits_yes v n w (by omega) hv)
  have c1 := h.pc.enc.chs
  obtain ⟨P, hP⟩ : ∃ P, P = 2 ^ n := ⟨_, rfl⟩
  have HP := hide hP
  have hp : 2 ^ n ≤ 2 ^ 16 := Nat.pow_le_pow_right (by omega) hn
  rw [← hP] at hb hp
  obtain ⟨N, hNN⟩ : ∃ N, N = ch.length := ⟨_, rfl⟩
  have HNN := hide hNN
  rw [← hNN] at HM c1 hb hN
  obtain ⟨R, hR⟩ : ∃ R, R = putsE base 1 (bitsT v n true) (c, ch) := ⟨_, rfl⟩
  have HR := hide hR
  rw [← hR]
  clear h hcap hP hNN hv hR
  go_enter Try.func53, Try.ntmps53
  go_wp2_with (first | (go_at_call 41; refine (unhide HG).mono ?_; rintro e w1 ⟨rfl, rfl⟩) | (go_at_call 74; refine (unhide HM).mono ?_; rintro e w1 ⟨rfl, rfl⟩) | (go_at_call 49; refine (unhide HV).mono ?_; rintro e w1 ⟨rfl, rfl⟩))
  clear HG HM HV c1
  go_loopg [11, 32] n (fun gk mv d ws => ∃ (i m : Nat) (s : Enc × List Nat) (ov' : Value) (k' : Nat), gk = n - i ∧ i ≤ n ∧ m + 1 ≤ 2 ^ (i + 1) ∧ mv = .int .i64 (m : Int) ∧ d = .int .i64 (i : Int) ∧ Hid (PS B ws pb gc ov' s.1 s.2 k') ∧ Hid (s.2.length = N) ∧ Hid (putsE base m ((bitsT v n true).drop i) s = R) ∧ Hid (k' ≤ k + i) ∧ Hid (Tch w1 ws pb gc 0 ov ov') ∧ Hid (Cap ws a v ∧ Cap ws b n))
  case atStart => exact ⟨0, 1, (c, ch), ov, k, by omega, by omega, by decide, rfl, rfl, HE, hide (unhide HNN).symm, hide (unhide HR).symm, hide (Nat.le_refl _), hide (Tch.refl _ _ _ _ _), HCP⟩
  case round =>
    clear HE HCP
    obtain ⟨i, m, ⟨c', ch'⟩, ov', k', rfl, hi, hm, rfl, rfl, HE, HL, HX, HK, HT, HCP⟩ := hrel
    by_cases hlt : i < n
    · have tl : (i : Int) < (n : Int) := by omega
      have hmp : 2 ^ (i + 1) ≤ 2 ^ n := Nat.pow_le_pow_right (by omega) (by omega)
      rw [← unhide HP] at hmp
      have hX := unhide HX
      rw [bitsT_drop v n true i hlt] at hX
      simp only [putsE, if_true] at hX
      have HTL := hide (tell_high a b v n i wr (unhide HCP).1 (unhide HCP).2 hlt (by omega))
      obtain ⟨bit, hbit⟩ : ∃ bit, bit = v.testBit (n - 1 - i) := ⟨_, rfl⟩
      rw [← hbit] at hX HTL
      obtain ⟨y, hy⟩ : ∃ y, y = bit.toNat := ⟨_, rfl⟩
      have hy1 : y ≤ 1 := by rw [hy]; exact Bool.toNat_le bit
      rw [← hy] at hX HTL
      have HX2 := hide hX
      have HPU := hide (pput_ps B pb gc wr ov' c' ch' k' (base + m) bit (unhide HE) (by have := unhide HL; simp only at this; omega) (by have := unhide HK; omega))
      rw [← hy, show ((base + m : Nat) : Int) = (base : Int) + (m : Int) by omega] at HPU
      have hpw : 2 * m + y + 1 ≤ 2 ^ (i + 1 + 1) := by rw [Nat.pow_succ]; omega
      have HPW := hide hpw
      have hm2 : m < 65536 := by omega
      have hbm : base + m ≤ 140737488355328 := by omega
      clear hbit hy hX HX hm hmp hpw
      go_wp2_with (first | (go_at_call 73; refine (unhide HTL).mono ?_; rintro e w5 ⟨rfl, rfl⟩) | (go_at_call 46; refine (unhide HPU).mono ?_; rintro e w5 ⟨rfl, ov5, k5, h5, h6, h7⟩; have H5 := hide h5; have H6 := hide h6; have H7 := hide h7; clear h5 h6 h7))
      go_roundg (n - (i + 1))
      case measure => omega
      case rel => exact ⟨i + 1, 2 * m + y, _, ov5, k5, rfl, by omega, unhide HPW, by go_num, by go_num, H5, hide (by rw [List.length_set]; exact unhide HL), HX2, hide (by have := unhide HK; have := unhide H6; omega), hide ((unhide HT).trans (unhide H7)), hide (⟨(unhide HCP).1.keep (unhide HE).pc (unhide H7), (unhide HCP).2.keep (unhide HE).pc (unhide H7)⟩)⟩
    · obtain rfl : n = i := by omega
      have tl : ¬ (n : Int) < (n : Int) := by omega
      go_wp2_with fail
      go_ret
      have hX := unhide HX
      rw [List.drop_eq_nil_of_le (by simp [bitsT]), putsE] at hX
      rw [← hX]
      exact ⟨rfl, ov', k', unhide HE, unhide HK, unhide HT⟩

set_option maxHeartbeats 4000000 in
theorem puttree_low (B pb gc : Nat) (w : World) (ov : Value) (c : Enc) (ch : List Nat) (k base v n : Nat) (a : Nat) (h : PS B w pb gc ov c ch k) (hcap : Cap w a v) (hn : n ≤ 16) (hb : base + 2 ^ n ≤ ch.length) (hv : v < 2 ^ n) (hk : k ≤ 80000000000000) (hN : ch.length ≤ 140737488355328) :
    Calls Try.prog 53 #[.pointer (some ⟨pb, 0, none⟩), .int .i64 (base : Int), .int .i64 (v : Int), .int .i64 (n : Int), .func (.func 75) #[] #[.pointer (some ⟨a, 0, none⟩)]] w fun e w' => e = .returned (.int .i64 0) ∧ ∃ ov' k', PS B w' pb gc ov' (putsE base 1 (bitsT v n false) (c, ch)).1 (putsE base 1 (bitsT v n false) (c, ch)).2 k' ∧ k' ≤ k + n ∧ Tch w w' pb gc 0 ov ov' := by
  have HE := hide h
  have HCP := hide hcap
  have HG := hide (good_ok pb w true h.pc.enc.made)
  have HM := hide (hasTree_yes (some ⟨gc, 0, none⟩) ch.length ch.length base n w hN (mayB_of hn hb))
  have HV := hide (hasBits_yes v n w (by omega) hv)
  have c1 := h.pc.enc.chs
  obtain ⟨P, hP⟩ : ∃ P, P = 2 ^ n := ⟨_, rfl⟩
  have HP := hide hP
  have hp : 2 ^ n ≤ 2 ^ 16 := Nat.pow_le_pow_right (by omega) hn
  rw [← hP] at hb hp
  obtain ⟨N, hNN⟩ : ∃ N, N = ch.length := ⟨_, rfl⟩
  have HNN := hide hNN
  rw [← hNN] at HM c1 hb hN
  obtain ⟨R, hR⟩ : ∃ R, R = putsE base 1 (bitsT v n false) (c, ch) := ⟨_, rfl⟩
  have HR := hide hR
  rw [← hR]
  clear h hcap hP hNN hv hR
  go_enter Try.func53, Try.ntmps53
  go_wp2_with (first | (go_at_call 41; refine (unhide HG).mono ?_; rintro e w1 ⟨rfl, rfl⟩) | (go_at_call 74; refine (unhide HM).mono ?_; rintro e w1 ⟨rfl, rfl⟩) | (go_at_call 49; refine (unhide HV).mono ?_; rintro e w1 ⟨rfl, rfl⟩))
  clear HG HM HV c1
  go_loopg [11, 32] n (fun gk mv d ws => ∃ (i m : Nat) (s : Enc × List Nat) (ov' : Value) (k' : Nat), gk = n - i ∧ i ≤ n ∧ m + 1 ≤ 2 ^ (i + 1) ∧ mv = .int .i64 (m : Int) ∧ d = .int .i64 (i : Int) ∧ Hid (PS B ws pb gc ov' s.1 s.2 k') ∧ Hid (s.2.length = N) ∧ Hid (putsE base m ((bitsT v n false).drop i) s = R) ∧ Hid (k' ≤ k + i) ∧ Hid (Tch w1 ws pb gc 0 ov ov') ∧ Hid (Cap ws a v))
  case atStart => exact ⟨0, 1, (c, ch), ov, k, by omega, by omega, by decide, rfl, rfl, HE, hide (unhide HNN).symm, hide (unhide HR).symm, hide (Nat.le_refl _), hide (Tch.refl _ _ _ _ _), HCP⟩
  case round =>
    clear HE HCP
    obtain ⟨i, m, ⟨c', ch'⟩, ov', k', rfl, hi, hm, rfl, rfl, HE, HL, HX, HK, HT, HCP⟩ := hrel
    by_cases hlt : i < n
    · have tl : (i : Int) < (n : Int) := by omega
      have hmp : 2 ^ (i + 1) ≤ 2 ^ n := Nat.pow_le_pow_right (by omega) (by omega)
      rw [← unhide HP] at hmp
      have hX := unhide HX
      rw [bitsT_drop v n false i hlt] at hX
      simp only [putsE, Bool.false_eq_true, if_false] at hX
      have HTL := hide (tell_low a v i wr (unhide HCP) (by omega))
      obtain ⟨bit, hbit⟩ : ∃ bit, bit = v.testBit (i) := ⟨_, rfl⟩
      rw [← hbit] at hX HTL
      obtain ⟨y, hy⟩ : ∃ y, y = bit.toNat := ⟨_, rfl⟩
      have hy1 : y ≤ 1 := by rw [hy]; exact Bool.toNat_le bit
      rw [← hy] at hX HTL
      have HX2 := hide hX
      have HPU := hide (pput_ps B pb gc wr ov' c' ch' k' (base + m) bit (unhide HE) (by have := unhide HL; simp only at this; omega) (by have := unhide HK; omega))
      rw [← hy, show ((base + m : Nat) : Int) = (base : Int) + (m : Int) by omega] at HPU
      have hpw : 2 * m + y + 1 ≤ 2 ^ (i + 1 + 1) := by rw [Nat.pow_succ]; omega
      have HPW := hide hpw
      have hm2 : m < 65536 := by omega
      have hbm : base + m ≤ 140737488355328 := by omega
      clear hbit hy hX HX hm hmp hpw
      go_wp2_with (first | (go_at_call 75; refine (unhide HTL).mono ?_; rintro e w5 ⟨rfl, rfl⟩) | (go_at_call 46; refine (unhide HPU).mono ?_; rintro e w5 ⟨rfl, ov5, k5, h5, h6, h7⟩; have H5 := hide h5; have H6 := hide h6; have H7 := hide h7; clear h5 h6 h7))
      go_roundg (n - (i + 1))
      case measure => omega
      case rel => exact ⟨i + 1, 2 * m + y, _, ov5, k5, rfl, by omega, unhide HPW, by go_num, by go_num, H5, hide (by rw [List.length_set]; exact unhide HL), HX2, hide (by have := unhide HK; have := unhide H6; omega), hide ((unhide HT).trans (unhide H7)), hide ((unhide HCP).keep (unhide HE).pc (unhide H7))⟩
    · obtain rfl : n = i := by omega
      have tl : ¬ (n : Int) < (n : Int) := by omega
      go_wp2_with fail
      go_ret
      have hX := unhide HX
      rw [List.drop_eq_nil_of_le (by simp [bitsT]), putsE] at hX
      rw [← hX]
      exact ⟨rfl, ov', k', unhide HE, unhide HK, unhide HT⟩

set_option maxHeartbeats 4000000 in
theorem puttree_bad (B pb gc : Nat) (w : World) (ov : Value) (c : Enc) (ch : List Nat) (base v n : Int) (f : Value) (h : PC B w pb gc ov c ch) (hN : ch.length ≤ 140737488355328) (hbad : ¬ (MayB base n ch.length ∧ 0 ≤ v ∧ v < 2 ^ n.toNat)) :
    Calls Try.prog 53 #[.pointer (some ⟨pb, 0, none⟩), .int .i64 base, .int .i64 v, .int .i64 n, f] w fun e w' => e = .returned (.int .i64 2) ∧ w = w' := by
  have HG := hide (good_ok pb w true h.enc.made)
  have c1 := h.enc.chs
  obtain ⟨N, hNN⟩ : ∃ N, N = ch.length := ⟨_, rfl⟩
  rw [← hNN] at hN hbad c1
  clear h hNN
  by_cases hm : MayB base n N
  · have HM := hide (hasTree_yes (some ⟨gc, 0, none⟩) N N base n w hN hm)
    obtain ⟨b, m, rfl, rfl, h1, h2⟩ := mayB_nat hm
    have HV := hide (hasBits_no v m w (by omega) (fun h => hbad ⟨hm, h.1, h.2⟩))
    clear hbad hm h1 h2
    go_enter Try.func53, Try.ntmps53
    go_wp2_with (first | (go_at_call 41; refine (unhide HG).mono ?_; rintro e w1 ⟨rfl, rfl⟩) | (go_at_call 74; refine (unhide HM).mono ?_; rintro e w1 ⟨rfl, rfl⟩) | (go_at_call 49; refine (unhide HV).mono ?_; rintro e w1 ⟨rfl, rfl⟩))
    go_ret
    exact ⟨rfl, rfl⟩
  · have HM := hide (hasTree_no (some ⟨gc, 0, none⟩) N N base n w hN hm)
    clear hbad hm
    go_enter Try.func53, Try.ntmps53
    go_wp2_with (first | (go_at_call 41; refine (unhide HG).mono ?_; rintro e w1 ⟨rfl, rfl⟩) | (go_at_call 74; refine (unhide HM).mono ?_; rintro e w1 ⟨rfl, rfl⟩))
    go_ret
    exact ⟨rfl, rfl⟩

/-- a call that took nothing: the encoder is as it was -/
def Refused (B : Nat) (w w' : World) (pb gc : Nat) (ov : Value) (c : Enc) (ch : List Nat) : Prop := PC B w' pb gc ov c ch ∧ Tch w w' pb gc 0 ov ov

set_option maxHeartbeats 2000000 in
theorem ptree_ok (B pb gc : Nat) (w : World) (ov : Value) (c : Enc) (ch : List Nat) (k base v n : Nat) (h : PS B w pb gc ov c ch k) (hn : n ≤ 16) (hb : base + 2 ^ n ≤ ch.length) (hv : v < 2 ^ n) (hk : k ≤ 80000000000000) (hN : ch.length ≤ 140737488355328) :
    Calls Try.prog 20 #[.pointer (some ⟨pb, 0, none⟩), .int .i64 (base : Int), .int .i64 (v : Int), .int .i64 (n : Int)] w fun e w' => e = .returned (.int .i64 0) ∧ ∃ ov' k', PS B w' pb gc ov' (putsE base 1 (bitsT v n true) (c, ch)).1 (putsE base 1 (bitsT v n true) (c, ch)).2 k' ∧ k' ≤ k + n ∧ Tch w w' pb gc 0 ov ov' := by
  have HC := caps_high (v : Int) (n : Int) w
  have H1 := hide (puttree_high B pb gc _ ov c ch k base v n w.heap.size (w.heap.size + 1) ((h.alloc _).alloc _) HC hn hb hv hk hN)
  have HT := hide (((Tch.refl w pb gc 0 ov).alloc (.cells #[.int .i64 (v : Int)] 3)).alloc (.cells #[.int .i64 (n : Int)] 3))
  clear HC h hv hb
  go_enter Try.func20, Try.ntmps20
  go_wp2_with (first | (go_at_call 50; refine (high_ok v n w).mono ?_; rintro e w1 ⟨rfl, rfl⟩) | (go_at_call 53; refine (unhide H1).mono ?_; rintro e w1 ⟨rfl, ov', k', h1, h2, h3⟩))
  go_ret
  exact ⟨rfl, ov', k', h1, h2, (unhide HT).trans h3⟩

set_option maxHeartbeats 2000000 in
theorem prev_ok (B pb gc : Nat) (w : World) (ov : Value) (c : Enc) (ch : List Nat) (k base v n : Nat) (h : PS B w pb gc ov c ch k) (hn : n ≤ 16) (hb : base + 2 ^ n ≤ ch.length) (hv : v < 2 ^ n) (hk : k ≤ 80000000000000) (hN : ch.length ≤ 140737488355328) :
    Calls Try.prog 22 #[.pointer (some ⟨pb, 0, none⟩), .int .i64 (base : Int), .int .i64 (v : Int), .int .i64 (n : Int)] w fun e w' => e = .returned (.int .i64 0) ∧ ∃ ov' k', PS B w' pb gc ov' (putsE base 1 (bitsT v n false) (c, ch)).1 (putsE base 1 (bitsT v n false) (c, ch)).2 k' ∧ k' ≤ k + n ∧ Tch w w' pb gc 0 ov ov' := by
  have HC := caps_low (v : Int) w
  have H1 := hide (puttree_low B pb gc _ ov c ch k base v n w.heap.size (h.alloc _) HC hn hb hv hk hN)
  have HT := hide ((Tch.refl w pb gc 0 ov).alloc (.cells #[.int .i64 (v : Int)] 3))
  clear HC h hv hb
  go_enter Try.func22, Try.ntmps22
  go_wp2_with (first | (go_at_call 55; refine (low_ok v w).mono ?_; rintro e w1 ⟨rfl, rfl⟩) | (go_at_call 53; refine (unhide H1).mono ?_; rintro e w1 ⟨rfl, ov', k', h1, h2, h3⟩))
  go_ret
  exact ⟨rfl, ov', k', h1, h2, (unhide HT).trans h3⟩

set_option maxHeartbeats 2000000 in
theorem ptree_bad (B pb gc : Nat) (w : World) (ov : Value) (c : Enc) (ch : List Nat) (base v n : Int) (h : PC B w pb gc ov c ch) (hN : ch.length ≤ 140737488355328) (hbad : ¬ (MayB base n ch.length ∧ 0 ≤ v ∧ v < 2 ^ n.toNat)) :
    Calls Try.prog 20 #[.pointer (some ⟨pb, 0, none⟩), .int .i64 base, .int .i64 v, .int .i64 n] w fun e w' => e = .returned (.int .i64 2) ∧ Refused B w w' pb gc ov c ch := by
  have H1 := hide (puttree_bad B pb gc _ ov c ch base v n (.func (.func 73) #[] #[.pointer (some ⟨w.heap.size, 0, none⟩), .pointer (some ⟨w.heap.size + 1, 0, none⟩)]) ((h.alloc (.cells #[.int .i64 v] 3)).alloc (.cells #[.int .i64 n] 3)) hN hbad)
  have HT := hide (((Tch.refl w pb gc 0 ov).alloc (.cells #[.int .i64 v] 3)).alloc (.cells #[.int .i64 n] 3))
  have HE := hide ((h.alloc (.cells #[.int .i64 v] 3)).alloc (.cells #[.int .i64 n] 3))
  clear hbad h
  go_enter Try.func20, Try.ntmps20
  go_wp2_with (first | (go_at_call 50; refine (high_ok v n w).mono ?_; rintro e w1 ⟨rfl, rfl⟩) | (go_at_call 53; refine (unhide H1).mono ?_; rintro e w1 ⟨rfl, rfl⟩))
  go_ret
  exact ⟨rfl, unhide HE, unhide HT⟩

set_option maxHeartbeats 2000000 in
theorem prev_bad (B pb gc : Nat) (w : World) (ov : Value) (c : Enc) (ch : List Nat) (base v n : Int) (h : PC B w pb gc ov c ch) (hN : ch.length ≤ 140737488355328) (hbad : ¬ (MayB base n ch.length ∧ 0 ≤ v ∧ v < 2 ^ n.toNat)) :
    Calls Try.prog 22 #[.pointer (some ⟨pb, 0, none⟩), .int .i64 base, .int .i64 v, .int .i64 n] w fun e w' => e = .returned (.int .i64 2) ∧ Refused B w w' pb gc ov c ch := by
  have H1 := hide (puttree_bad B pb gc _ ov c ch base v n (.func (.func 75) #[] #[.pointer (some ⟨w.heap.size, 0, none⟩)]) (h.alloc (.cells #[.int .i64 v] 3)) hN hbad)
  have HT := hide ((Tch.refl w pb gc 0 ov).alloc (.cells #[.int .i64 v] 3))
  have HE := hide (h.alloc (.cells #[.int .i64 v] 3))
  clear hbad h
  go_enter Try.func22, Try.ntmps22
  go_wp2_with (first | (go_at_call 55; refine (low_ok v w).mono ?_; rintro e w1 ⟨rfl, rfl⟩) | (go_at_call 53; refine (unhide H1).mono ?_; rintro e w1 ⟨rfl, rfl⟩))
  go_ret
  exact ⟨rfl, unhide HE, unhide HT⟩
end Go.Proofs.Ytbolhbjipmndeaa.D
