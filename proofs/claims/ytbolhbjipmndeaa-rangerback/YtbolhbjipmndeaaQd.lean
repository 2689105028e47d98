/- getTree, Tree, Reverse of the program's decoder. -/
import Derived.Test.YtbolhbjipmndeaaQc
import Derived.Test.YtbolhbjipmndeaaPu
import Derived.Laws.BitsLemmas
namespace Go.Proofs.Ytbolhbjipmndeaa.D
open Go.RowKit Rang
set_option maxRecDepth 100000
set_option linter.unusedVariables false
attribute [local go_sem ↓] Go.wp_at_zero Go.wp_at_succ

theorem wrap62 : ∀ n : Int, 0 ≤ n → n < 2 ^ 62 → IntKind.i64.wrap n = n := fun n h1 h2 => by
  rw [IntKind.wrap_i64]
  have : (2 : Int) ^ 62 = 4611686018427387904 := by decide
  omega

theorem or_zero (v : Nat) (hv : v < 65536) : bits .or .i64 (v : Int) 0 = (v : Int) := by
  have h := bits_join .i64 62 (by decide) wrap62 0 (v : Int) 0 (by omega) (by simp) (by have : (2 : Int) ^ 62 = 4611686018427387904 := by decide
                                                                                        omega) (by omega) (by simp) (by decide)
  rw [h]
  omega

theorem pow_facts (pl : Nat) (h : pl < 16) : ∃ Q : Nat, Q = 2 ^ pl ∧ (2 : Int) ^ pl = (Q : Int) ∧ wrap64 (Q : Int) = (Q : Int) ∧ IntKind.i64.wrap (Q : Int) = (Q : Int) := by
  have hp : 2 ^ pl ≤ 2 ^ 15 := Nat.pow_le_pow_right (by decide) (by omega)
  refine ⟨2 ^ pl, rfl, by simp, ?_, ?_⟩
  · generalize 2 ^ pl = Q at hp
    exact IntWalk.wrap64_in _ (by omega)
  · generalize 2 ^ pl = Q at hp
    rw [IntKind.wrap_i64]; omega

theorem or_comm64 (x y : Int) : bits .or .i64 x y = bits .or .i64 y x := by simp only [bits, BitVec.or_comm]

theorem or_low (v i : Nat) (hv : v < 2 ^ i) (hi : i < 16) : bits .or .i64 (v : Int) ((2 ^ i : Nat) : Int) = ((v + 2 ^ i : Nat) : Int) := by
  have hp : 2 ^ i ≤ 2 ^ 15 := Nat.pow_le_pow_right (by decide) (by omega)
  have hb : (2 : Int) ^ 62 = 4611686018427387904 := by decide
  rw [or_comm64, bits_join .i64 62 (by decide) wrap62 i ((2 ^ i : Nat) : Int) (v : Int) (by omega) (by simp) (by omega) (by omega) (by exact_mod_cast hv) (by omega)]
  omega

theorem or_high (v t : Nat) (hv : v % 2 ^ (t + 1) = 0) (hv2 : v < 65536) (ht : t < 16) : bits .or .i64 (v : Int) ((2 ^ t : Nat) : Int) = ((v + 2 ^ t : Nat) : Int) := by
  have hp : 2 ^ t ≤ 2 ^ 15 := Nat.pow_le_pow_right (by decide) (by omega)
  have hb : (2 : Int) ^ 62 = 4611686018427387904 := by decide
  have hlt : 2 ^ t < 2 ^ (t + 1) := by rw [Nat.pow_succ]; have := Nat.two_pow_pos t; omega
  rw [bits_join .i64 62 (by decide) wrap62 (t + 1) (v : Int) ((2 ^ t : Nat) : Int) (by omega) (by exact_mod_cast hv) (by omega) (by omega) (by exact_mod_cast hlt) (by omega)]
  omega

/-- the bits that were read, the highest first -/
def valH (n i m : Nat) : Nat := (m - 2 ^ i) * 2 ^ (n - i)

theorem valH_step {n i m y : Nat} (h1 : 2 ^ i ≤ m) (h2 : i < n) : valH n (i + 1) (2 * m + y) = valH n i m + y * 2 ^ (n - 1 - i) := by
  unfold valH
  rw [show n - i = n - 1 - i + 1 by omega, show n - (i + 1) = n - 1 - i by omega, Nat.pow_succ 2 i, Nat.pow_succ 2 (n - 1 - i)]
  rw [show 2 * m + y - 2 ^ i * 2 = (m - 2 ^ i) * 2 + y by omega, Nat.add_mul, Nat.mul_assoc, Nat.mul_comm 2]

theorem valH_mod {n i m : Nat} (h2 : i < n) : valH n i m % 2 ^ (n - 1 - i + 1) = 0 := by
  unfold valH
  rw [show n - i = n - 1 - i + 1 by omega]
  exact Nat.mul_mod_left _ _

theorem valH_lt {n i m : Nat} (h1 : m + 1 ≤ 2 ^ (i + 1)) (h2 : i ≤ n) : valH n i m < 2 ^ n := by
  unfold valH
  have e : 2 ^ n = 2 ^ i * 2 ^ (n - i) := by rw [← Nat.pow_add, Nat.add_sub_cancel' h2]
  rw [e]
  refine Nat.mul_lt_mul_of_pos_right ?_ (Nat.two_pow_pos _)
  rw [Nat.pow_succ] at h1
  have := Nat.two_pow_pos i
  omega

theorem valH_end {n m : Nat} : valH n n m = m - 2 ^ n := by unfold valH; simp

theorem Cap.keepQ {w w' : World} {pb gc : Nat} {a : Nat} {x : Int} {gr o rc : Nat} {rcs : Array Value} {Bs : List Nat} {d : Dec} {ch : List Nat} (h : Cap w a x) (he : QAt w pb gc gr o rc rcs Bs d ch) (ht : DT w w' pb gc 0) : Cap w' a x := by
  unfold Cap
  rw [ht.keep a ?_ ?_]
  · exact h
  · rintro rfl
    have := he.cells
    rw [show w.heap[a]? = _ from h] at this
    injection this with this
    injection this with _ h2
    cases h2
  · rintro rfl
    have := he.chs
    rw [PCh, show w.heap[a]? = _ from h] at this
    injection this with this
    injection this with _ h2
    cases h2

set_option maxHeartbeats 1000000 in
theorem place_high (a n t : Nat) (w : World) (h1 : Cap w a n) (ht : t < n) (hn : n ≤ 31) : Calls Try.prog 67 #[.int .i64 (t : Int), .pointer (some ⟨a, 0, none⟩)] w fun e w' => e = .returned (.int .i64 ((n - 1 - t : Nat) : Int)) ∧ w' = w := by
  have c1 := h1.cell
  obtain ⟨m, hm⟩ : ∃ m, m = n - 1 - t := ⟨_, rfl⟩
  rw [← hm]
  have f1 : wrap64 ((n : Int) - 1) = (n : Int) - 1 := IntWalk.wrap64_in _ (by omega)
  have f2 : (n : Int) - 1 - (t : Int) = (m : Int) := by omega
  have f3 : wrap64 (m : Int) = (m : Int) := IntWalk.wrap64_in _ (by omega)
  clear hm h1
  go_enter Try.func67, Try.ntmps67
  go_wp2_with fail
  go_ret
  exact ⟨rfl, rfl⟩

set_option maxHeartbeats 1000000 in
theorem place_low (t : Nat) (w : World) : Calls Try.prog 68 #[.int .i64 (t : Int)] w fun e w' => e = .returned (.int .i64 (t : Int)) ∧ w' = w := by
  go_enter Try.func68, Try.ntmps68
  go_wp2_with fail
  go_ret
  exact ⟨rfl, rfl⟩

theorem gets_step {Bs : List Nat} {base : Nat} (g i m v : Nat) (s : Dec × List Nat) {bit : Bool} {D : Dec} {C : List Nat} (hX : (bit, D) = gotD Bs s.1 (s.2.getD (base + m) 0)) (hC : C = gotCh s.2 (base + m) (s.2.getD (base + m) 0) (bit, D)) :
    getsD Bs base (g + 1) i m v s = if D.over then ((2 * m + bit.toNat, v + bit.toNat * 2 ^ i), (D, C)) else getsD Bs base g (i + 1) (2 * m + bit.toNat) (v + bit.toNat * 2 ^ i) (D, C) := by
  rw [getsD, ← hX, ← hC]

theorem gets_over {Bs : List Nat} {base : Nat} {d : Dec} {ch : List Nat} (h : d.over = true) : ∀ n i m v, (getsD Bs base n i m v (d, ch)).2 = (d, ch)
  | 0, i, m, v => rfl
  | n + 1, i, m, v => by
    have e : gotD Bs d (ch.getD (base + m) 0) = (false, d) := by unfold gotD; rw [if_pos h]
    have e2 : gotCh ch (base + m) (ch.getD (base + m) 0) (false, d) = ch := by unfold gotCh; rw [if_pos h]
    rw [gets_step (bit := false) (D := d) (C := ch) n i m v (d, ch) e.symm e2.symm, if_pos h]

set_option maxHeartbeats 8000000 in
theorem gettree_high (w : World) (pb gc gr : Nat) (rcs : Array Value) (Bs : List Nat) (d : Dec) (ch : List Nat) (base n : Nat) (a : Nat) (h : QS w pb gc gr rcs Bs d ch) (hcap : Cap w a n) (hn : n ≤ 16) (hb : base + 2 ^ n ≤ ch.length) (hN : ch.length ≤ 140737488355328) :
    Calls Try.prog 66 #[.pointer (some ⟨pb, 0, none⟩), .int .i64 (base : Int), .int .i64 (n : Int), .func (.func 67) #[] #[.pointer (some ⟨a, 0, none⟩)]] w fun e w' => e = .returned (toldV (getsD Bs base n 0 1 0 (d, ch)).2.1 (treeV n true (getsD Bs base n 0 1 0 (d, ch)).1)) ∧ QS w' pb gc gr rcs Bs (getsD Bs base n 0 1 0 (d, ch)).2.1 (getsD Bs base n 0 1 0 (d, ch)).2.2 ∧ DT w w' pb gc 0 := by
  have HE := hide h
  have HCP := hide hcap
  have HG := hide (dgood_ok pb w true h.made)
  have HM := hide (hasTree_yes (some ⟨gc, 0, none⟩) ch.length ch.length base n w hN (mayB_of hn hb))
  have c1 := h.chv
  obtain ⟨P, hP⟩ : ∃ P, P = 2 ^ n := ⟨_, rfl⟩
  have HP := hide hP
  have hp : 2 ^ n ≤ 2 ^ 16 := Nat.pow_le_pow_right (by omega) hn
  rw [← hP] at hb hp
  have hP16 : P ≤ 65536 := by omega
  obtain ⟨N, hNN⟩ : ∃ N, N = ch.length := ⟨_, rfl⟩
  have HNN := hide hNN
  rw [← hNN] at HM c1 hb hN
  obtain ⟨R, hR⟩ : ∃ R, R = getsD Bs base n 0 1 0 (d, ch) := ⟨_, rfl⟩
  have HR := hide hR
  rw [← hR]
  clear h hcap hP hNN hR hp
  go_enter Try.func66, Try.ntmps66
  go_wp2_with (first | (go_at_call 59; refine (unhide HG).mono ?_; rintro e w1 ⟨rfl, rfl⟩) | (go_at_call 74; refine (unhide HM).mono ?_; rintro e w1 ⟨rfl, rfl⟩))
  clear HG HM c1
  go_loopg [10, 11, 26] n (fun gk vv mv iv ws => ∃ (i m v vl : Nat) (s : Dec × List Nat), gk + i = n ∧ Hid (2 ^ i ≤ m ∧ m + 1 ≤ 2 ^ (i + 1) ∧ v < 65536) ∧ vv = .int .i64 (v : Int) ∧ mv = .int .i64 (m : Int) ∧ iv = .int .i64 (i : Int) ∧ Hid (QS ws pb gc gr rcs Bs s.1 s.2) ∧ Hid (s.2.length = N) ∧ Hid ((s.1.over = false → getsD Bs base gk i m vl s = R ∧ v = valH n i m) ∧ (s.1.over = true → R.2 = s)) ∧ Hid (DT w1 ws pb gc 0) ∧ Hid (Cap ws a n))
  case atStart =>
    refine ⟨0, 1, 0, 0, (d, ch), by omega, hide ⟨by decide, by decide, by decide⟩, rfl, rfl, rfl, HE, hide (unhide HNN).symm, hide ⟨fun _ => ⟨(unhide HR).symm, (by simp [valH])⟩, fun ho => ?_⟩, hide (DT.refl _ _ _ _), HCP⟩
    rw [unhide HR]
    exact gets_over ho n 0 1 0
  case round =>
    clear HE HCP
    obtain ⟨i, m, v, vl, ⟨d', ch'⟩, hgk, HMV, rfl, rfl, rfl, HE, HL, HX, HT, HCP⟩ := hrel
    by_cases hlt : 0 < gk
    · obtain ⟨g, rfl⟩ : ∃ g, gk = g + 1 := ⟨gk - 1, by omega⟩
      have hlt2 : i < n := by omega
      have tl : (i : Int) < (n : Int) := by omega
      have hmp : 2 ^ (i + 1) ≤ 2 ^ n := Nat.pow_le_pow_right (by omega) (by omega)
      rw [← unhide HP] at hmp
      have hmb := (unhide HMV).2.1
      have hm1 : m < 65536 := by omega
      have hbm : base + m < N := by omega
      have hbm2 : base + m ≤ 140737488355328 := by omega
      have HGT := hide (qget_qs wr pb gc gr rcs Bs d' ch' (base + m) (unhide HE) (by have := unhide HL; simp only at this; rw [this]; exact hbm))
      obtain ⟨X, hXX⟩ : ∃ X, X = gotD Bs d' (ch'.getD (base + m) 0) := ⟨_, rfl⟩
      obtain ⟨C, hC⟩ : ∃ C, C = gotCh ch' (base + m) (ch'.getD (base + m) 0) X := ⟨_, rfl⟩
      have HCL : Hid (C.length = N) := hide (by rw [hC, got_len]; exact unhide HL)
      rw [← hXX, ← hC] at HGT
      obtain ⟨bit, D⟩ := X
      simp only at HGT
      obtain ⟨pl, hpl⟩ : ∃ pl, pl = n - 1 - i := ⟨_, rfl⟩
      have HPL := hide (fun W (hc : Cap W a n) => (show Calls Try.prog 67 #[.int .i64 (i : Int), .pointer (some ⟨a, 0, none⟩)] W (fun e w' => e = .returned (.int .i64 (pl : Int)) ∧ w' = W) from hpl ▸ place_high a n i W hc hlt2 (by omega)))
      have hpl16 : pl < 16 := by omega
      obtain ⟨v', hv'⟩ : ∃ v', v' = v + bit.toNat * 2 ^ pl := ⟨_, rfl⟩
      have HX2 : Hid (((D.over = false → getsD Bs base g (i + 1) (2 * m + bit.toNat) (vl + bit.toNat * 2 ^ i) (D, C) = R ∧ v' = valH n (i + 1) (2 * m + bit.toNat)) ∧ (D.over = true → R.2 = (D, C))) ∧ v' < 65536 ∧ (bit = true → bits .or .i64 (v : Int) ((2 ^ pl : Nat) : Int) = (v' : Int))) := hide (by
        by_cases ho : d'.over = true
        · have e : gotD Bs d' (ch'.getD (base + m) 0) = (false, d') := by unfold gotD; rw [if_pos ho]
          rw [e] at hXX
          obtain ⟨rfl, rfl⟩ := Prod.mk.inj hXX
          have e2 : C = ch' := by rw [hC]; unfold gotCh; rw [if_pos ho]
          subst e2
          refine ⟨⟨fun h => (by rw [ho] at h; cases h), (unhide HX).2⟩, ?_, fun h => (by cases h)⟩
          rw [hv']
          simpa using (unhide HMV).2.2
        · have h1 := (unhide HX).1 (by simpa using ho)
          rw [gets_step g i m vl (d', ch') hXX hC] at h1
          obtain ⟨h1, h1v⟩ := h1
          have hbit : bit.toNat ≤ 1 := Bool.toNat_le bit
          have hst := valH_step (y := bit.toNat) (unhide HMV).1 hlt2
          have hval : v' = valH n (i + 1) (2 * m + bit.toNat) := by rw [hst, hv', h1v, hpl]
          have hvlt : v' < 65536 := by rw [hval]; have := valH_lt (n := n) (i := i + 1) (m := 2 * m + bit.toNat) (by rw [Nat.pow_succ]; have := (unhide HMV).2.1; omega) (by omega); have e := unhide HP; omega
          refine ⟨⟨fun h => ⟨(by rw [if_neg (by simp [h])] at h1; exact h1), hval⟩, fun h => (by rw [if_pos h] at h1; rw [← h1])⟩, hvlt, fun h => ?_⟩
          subst h
          rw [hv', Bool.toNat_true, Nat.one_mul]
          exact or_high v pl (by rw [h1v, hpl]; exact valH_mod hlt2) (unhide HMV).2.2 hpl16)
      have HMV2 : Hid (2 ^ (i + 1) ≤ 2 * m + bit.toNat ∧ 2 * m + bit.toNat + 1 ≤ 2 ^ (i + 1 + 1) ∧ v' < 65536) := hide (by
        have h1 := (unhide HMV).1
        have h2 := Bool.toNat_le bit
        refine ⟨by rw [Nat.pow_succ]; omega, by rw [Nat.pow_succ]; omega, (unhide HX2).2.1⟩)
      have HV0 := hide hv'
      rw [show ((base + m : Nat) : Int) = (base : Int) + (m : Int) by omega] at HGT
      have hpl64 : pl < 64 := by omega
      have hv65 := (unhide HMV).2.2
      clear hXX hC hpl hv' HX hmp hmb
      cases bit
      · have fo := or_zero v hv65
        obtain rfl : v' = v := by rw [unhide HV0]; simp
        go_wp2_with fail
        refine (unhide HGT).mono ?_
        rintro e w5 ⟨rfl, h5, h6⟩
        have H5 := hide h5
        have H6 := hide h6
        clear h5 h6 HGT
        go_wp2_with fail
        refine (unhide HPL _ ((unhide HCP).keepQ (unhide HE).qa.choose_spec.choose_spec (unhide H6))).mono ?_
        rintro e w6 ⟨rfl, rfl⟩
        clear HPL
        go_wp2_with fail
        go_roundg g
        case measure => omega
        case rel => exact ⟨i + 1, 2 * m + 0, v', vl + 0 * 2 ^ i, (D, C), by omega, HMV2, rfl, by go_num, by go_num, H5, HCL, hide (unhide HX2).1, hide ((unhide HT).trans (unhide H6)), hide ((unhide HCP).keepQ (unhide HE).qa.choose_spec.choose_spec (unhide H6))⟩
      · go_wp2_with fail
        refine (unhide HGT).mono ?_
        rintro e w5 ⟨rfl, h5, h6⟩
        have H5 := hide h5
        have H6 := hide h6
        clear h5 h6 HGT
        go_wp2_with fail
        refine (unhide HPL _ ((unhide HCP).keepQ (unhide HE).qa.choose_spec.choose_spec (unhide H6))).mono ?_
        rintro e w6 ⟨rfl, rfl⟩
        clear HPL
        have hfo := (unhide HX2).2.2 (by first | exact rfl | exact True.intro)
        obtain ⟨Q, hQ, eQ, fQ, fQ2⟩ := pow_facts pl hpl16
        rw [← hQ] at hfo
        clear hQ
        go_upto_region 11 with fail
        clear eQ fQ fQ2 hfo
        go_wp2_with fail
        go_roundg g
        case measure => omega
        case rel => exact ⟨i + 1, 2 * m + 1, v', vl + 1 * 2 ^ i, (D, C), by omega, HMV2, rfl, by go_num, by go_num, H5, HCL, hide (unhide HX2).1, hide ((unhide HT).trans (unhide H6)), hide ((unhide HCP).keepQ (unhide HE).qa.choose_spec.choose_spec (unhide H6))⟩
    · obtain rfl : gk = 0 := by omega
      obtain rfl : i = n := by omega
      have tl : ¬ (i : Int) < (i : Int) := by omega
      go_wp2_with (first | (go_at_call 60; refine (unless_qs wr pb gc gr rcs Bs d' ch' _ (unhide HE)).mono ?_; rintro e w3 ⟨⟨x, y', rfl, H3⟩, rfl⟩))
      go_ret2
      by_cases ho : d'.over = true
      · have e := (unhide HX).2 ho
        rw [e]
        exact ⟨(congrArg Ending.returned (unhide H3)).trans (congrArg Ending.returned (toldV_over ho _ _)), unhide HE, unhide HT⟩
      · obtain ⟨e, hv⟩ := (unhide HX).1 (by simpa using ho)
        rw [← e, getsD]
        refine ⟨(congrArg Ending.returned (unhide H3)).trans ?_, unhide HE, unhide HT⟩
        unfold treeV
        rw [if_pos rfl, hv, valH_end]
        have h1 := (unhide HMV).1
        have h2 : ((m - 2 ^ i : Nat) : Int) = (m : Int) - 2 ^ i := by rw [Int.natCast_sub h1]; simp
        rw [h2]

set_option maxHeartbeats 8000000 in
theorem gettree_low (w : World) (pb gc gr : Nat) (rcs : Array Value) (Bs : List Nat) (d : Dec) (ch : List Nat) (base n : Nat)  (h : QS w pb gc gr rcs Bs d ch) (hcap : True) (hn : n ≤ 16) (hb : base + 2 ^ n ≤ ch.length) (hN : ch.length ≤ 140737488355328) :
    Calls Try.prog 66 #[.pointer (some ⟨pb, 0, none⟩), .int .i64 (base : Int), .int .i64 (n : Int), .func (.func 68) #[] #[]] w fun e w' => e = .returned (toldV (getsD Bs base n 0 1 0 (d, ch)).2.1 (treeV n false (getsD Bs base n 0 1 0 (d, ch)).1)) ∧ QS w' pb gc gr rcs Bs (getsD Bs base n 0 1 0 (d, ch)).2.1 (getsD Bs base n 0 1 0 (d, ch)).2.2 ∧ DT w w' pb gc 0 := by
  have HE := hide h
  have HCP := hide hcap
  have HG := hide (dgood_ok pb w true h.made)
  have HM := hide (hasTree_yes (some ⟨gc, 0, none⟩) ch.length ch.length base n w hN (mayB_of hn hb))
  have c1 := h.chv
  obtain ⟨P, hP⟩ : ∃ P, P = 2 ^ n := ⟨_, rfl⟩
  have HP := hide hP
  have hp : 2 ^ n ≤ 2 ^ 16 := Nat.pow_le_pow_right (by omega) hn
  rw [← hP] at hb hp
  have hP16 : P ≤ 65536 := by omega
  obtain ⟨N, hNN⟩ : ∃ N, N = ch.length := ⟨_, rfl⟩
  have HNN := hide hNN
  rw [← hNN] at HM c1 hb hN
  obtain ⟨R, hR⟩ : ∃ R, R = getsD Bs base n 0 1 0 (d, ch) := ⟨_, rfl⟩
  have HR := hide hR
  rw [← hR]
  clear h hcap hP hNN hR hp
  go_enter Try.func66, Try.ntmps66
  go_wp2_with (first | (go_at_call 59; refine (unhide HG).mono ?_; rintro e w1 ⟨rfl, rfl⟩) | (go_at_call 74; refine (unhide HM).mono ?_; rintro e w1 ⟨rfl, rfl⟩))
  clear HG HM c1
  go_loopg [10, 11, 26] n (fun gk vv mv iv ws => ∃ (i m v vl : Nat) (s : Dec × List Nat), gk + i = n ∧ Hid (2 ^ i ≤ m ∧ m + 1 ≤ 2 ^ (i + 1) ∧ v < 65536) ∧ vv = .int .i64 (v : Int) ∧ mv = .int .i64 (m : Int) ∧ iv = .int .i64 (i : Int) ∧ Hid (QS ws pb gc gr rcs Bs s.1 s.2) ∧ Hid (s.2.length = N) ∧ Hid ((s.1.over = false → getsD Bs base gk i m vl s = R ∧ v = vl ∧ vl < 2 ^ i) ∧ (s.1.over = true → R.2 = s)) ∧ Hid (DT w1 ws pb gc 0) ∧ Hid (True))
  case atStart =>
    refine ⟨0, 1, 0, 0, (d, ch), by omega, hide ⟨by decide, by decide, by decide⟩, rfl, rfl, rfl, HE, hide (unhide HNN).symm, hide ⟨fun _ => ⟨(unhide HR).symm, ⟨rfl, by decide⟩⟩, fun ho => ?_⟩, hide (DT.refl _ _ _ _), HCP⟩
    rw [unhide HR]
    exact gets_over ho n 0 1 0
  case round =>
    clear HE HCP
    obtain ⟨i, m, v, vl, ⟨d', ch'⟩, hgk, HMV, rfl, rfl, rfl, HE, HL, HX, HT, HCP⟩ := hrel
    by_cases hlt : 0 < gk
    · obtain ⟨g, rfl⟩ : ∃ g, gk = g + 1 := ⟨gk - 1, by omega⟩
      have hlt2 : i < n := by omega
      have tl : (i : Int) < (n : Int) := by omega
      have hmp : 2 ^ (i + 1) ≤ 2 ^ n := Nat.pow_le_pow_right (by omega) (by omega)
      rw [← unhide HP] at hmp
      have hmb := (unhide HMV).2.1
      have hm1 : m < 65536 := by omega
      have hbm : base + m < N := by omega
      have hbm2 : base + m ≤ 140737488355328 := by omega
      have HGT := hide (qget_qs wr pb gc gr rcs Bs d' ch' (base + m) (unhide HE) (by have := unhide HL; simp only at this; rw [this]; exact hbm))
      obtain ⟨X, hXX⟩ : ∃ X, X = gotD Bs d' (ch'.getD (base + m) 0) := ⟨_, rfl⟩
      obtain ⟨C, hC⟩ : ∃ C, C = gotCh ch' (base + m) (ch'.getD (base + m) 0) X := ⟨_, rfl⟩
      have HCL : Hid (C.length = N) := hide (by rw [hC, got_len]; exact unhide HL)
      rw [← hXX, ← hC] at HGT
      obtain ⟨bit, D⟩ := X
      simp only at HGT
      obtain ⟨pl, hpl⟩ : ∃ pl, pl = i := ⟨_, rfl⟩
      have HPL := hide (fun W (_ : True) => (show Calls Try.prog 68 #[.int .i64 (i : Int)] W (fun e w' => e = .returned (.int .i64 (pl : Int)) ∧ w' = W) from (by rw [hpl]; exact place_low i W)))
      have hpl16 : pl < 16 := by omega
      obtain ⟨v', hv'⟩ : ∃ v', v' = v + bit.toNat * 2 ^ pl := ⟨_, rfl⟩
      have HX2 : Hid (((D.over = false → getsD Bs base g (i + 1) (2 * m + bit.toNat) (vl + bit.toNat * 2 ^ i) (D, C) = R ∧ v' = vl + bit.toNat * 2 ^ i ∧ vl + bit.toNat * 2 ^ i < 2 ^ (i + 1)) ∧ (D.over = true → R.2 = (D, C))) ∧ v' < 65536 ∧ (bit = true → bits .or .i64 (v : Int) ((2 ^ pl : Nat) : Int) = (v' : Int))) := hide (by
        by_cases ho : d'.over = true
        · have e : gotD Bs d' (ch'.getD (base + m) 0) = (false, d') := by unfold gotD; rw [if_pos ho]
          rw [e] at hXX
          obtain ⟨rfl, rfl⟩ := Prod.mk.inj hXX
          have e2 : C = ch' := by rw [hC]; unfold gotCh; rw [if_pos ho]
          subst e2
          refine ⟨⟨fun h => (by rw [ho] at h; cases h), (unhide HX).2⟩, ?_, fun h => (by cases h)⟩
          rw [hv']
          simpa using (unhide HMV).2.2
        · have h1 := (unhide HX).1 (by simpa using ho)
          rw [gets_step g i m vl (d', ch') hXX hC] at h1
          obtain ⟨h1, h1v, h1b⟩ := h1
          have hbit : bit.toNat ≤ 1 := Bool.toNat_le bit
          have hz : bit.toNat * 2 ^ i ≤ 1 * 2 ^ i := Nat.mul_le_mul_right _ hbit
          have hlb : vl + bit.toNat * 2 ^ i < 2 ^ (i + 1) := by rw [Nat.pow_succ]; omega
          have hval : v' = vl + bit.toNat * 2 ^ i := by rw [hv', h1v, hpl]
          have hvlt : v' < 65536 := by rw [hval]; have : 2 ^ (i + 1) ≤ 2 ^ 16 := Nat.pow_le_pow_right (by decide) (by omega); omega
          refine ⟨⟨fun h => ⟨(by rw [if_neg (by simp [h])] at h1; exact h1), hval, hlb⟩, fun h => (by rw [if_pos h] at h1; rw [← h1])⟩, hvlt, fun h => ?_⟩
          subst h
          rw [hv', Bool.toNat_true, Nat.one_mul]
          rw [hpl, h1v]; exact or_low vl i h1b (by omega))
      have HMV2 : Hid (2 ^ (i + 1) ≤ 2 * m + bit.toNat ∧ 2 * m + bit.toNat + 1 ≤ 2 ^ (i + 1 + 1) ∧ v' < 65536) := hide (by
        have h1 := (unhide HMV).1
        have h2 := Bool.toNat_le bit
        refine ⟨by rw [Nat.pow_succ]; omega, by rw [Nat.pow_succ]; omega, (unhide HX2).2.1⟩)
      have HV0 := hide hv'
      rw [show ((base + m : Nat) : Int) = (base : Int) + (m : Int) by omega] at HGT
      have hpl64 : pl < 64 := by omega
      have hv65 := (unhide HMV).2.2
      clear hXX hC hpl hv' HX hmp hmb
      cases bit
      · have fo := or_zero v hv65
        obtain rfl : v' = v := by rw [unhide HV0]; simp
        go_wp2_with fail
        refine (unhide HGT).mono ?_
        rintro e w5 ⟨rfl, h5, h6⟩
        have H5 := hide h5
        have H6 := hide h6
        clear h5 h6 HGT
        go_wp2_with fail
        refine (unhide HPL _ (True.intro)).mono ?_
        rintro e w6 ⟨rfl, rfl⟩
        clear HPL
        go_wp2_with fail
        go_roundg g
        case measure => omega
        case rel => exact ⟨i + 1, 2 * m + 0, v', vl + 0 * 2 ^ i, (D, C), by omega, HMV2, rfl, by go_num, by go_num, H5, HCL, hide (unhide HX2).1, hide ((unhide HT).trans (unhide H6)), hide (True.intro)⟩
      · go_wp2_with fail
        refine (unhide HGT).mono ?_
        rintro e w5 ⟨rfl, h5, h6⟩
        have H5 := hide h5
        have H6 := hide h6
        clear h5 h6 HGT
        go_wp2_with fail
        refine (unhide HPL _ (True.intro)).mono ?_
        rintro e w6 ⟨rfl, rfl⟩
        clear HPL
        have hfo := (unhide HX2).2.2 (by first | exact rfl | exact True.intro)
        obtain ⟨Q, hQ, eQ, fQ, fQ2⟩ := pow_facts pl hpl16
        rw [← hQ] at hfo
        clear hQ
        go_upto_region 11 with fail
        clear eQ fQ fQ2 hfo
        go_wp2_with fail
        go_roundg g
        case measure => omega
        case rel => exact ⟨i + 1, 2 * m + 1, v', vl + 1 * 2 ^ i, (D, C), by omega, HMV2, rfl, by go_num, by go_num, H5, HCL, hide (unhide HX2).1, hide ((unhide HT).trans (unhide H6)), hide (True.intro)⟩
    · obtain rfl : gk = 0 := by omega
      obtain rfl : i = n := by omega
      have tl : ¬ (i : Int) < (i : Int) := by omega
      go_wp2_with (first | (go_at_call 60; refine (unless_qs wr pb gc gr rcs Bs d' ch' _ (unhide HE)).mono ?_; rintro e w3 ⟨⟨x, y', rfl, H3⟩, rfl⟩))
      go_ret2
      by_cases ho : d'.over = true
      · have e := (unhide HX).2 ho
        rw [e]
        exact ⟨(congrArg Ending.returned (unhide H3)).trans (congrArg Ending.returned (toldV_over ho _ _)), unhide HE, unhide HT⟩
      · obtain ⟨e, hv, h1b⟩ := (unhide HX).1 (by simpa using ho)
        rw [← e, getsD]
        refine ⟨(congrArg Ending.returned (unhide H3)).trans ?_, unhide HE, unhide HT⟩
        unfold treeV
        rw [if_neg (by simp), hv]
end Go.Proofs.Ytbolhbjipmndeaa.D
