/- Bit, Direct. -/
import Derived.Test.YtbolhbjipmndeaaDPt
namespace Go.Proofs.Ytbolhbjipmndeaa.D
open Go.RowKit Rang
set_option maxRecDepth 100000
set_option linter.unusedVariables false
attribute [local go_sem ↓] Go.wp_at_zero Go.wp_at_succ

/-- all chances are chances -/
def Chs (ch : List Nat) : Prop := ∀ p ∈ ch, 31 ≤ p ∧ p ≤ 2017

theorem Chs.at {ch : List Nat} (h : Chs ch) {i : Nat} (hi : i < ch.length) : 31 ≤ ch.getD i 0 ∧ ch.getD i 0 ≤ 2017 := h _ (getD_mem hi)

theorem Chs.set {ch : List Nat} (h : Chs ch) {i : Nat} (hi : i < ch.length) (bit : Bool) : Chs (ch.set i (after (ch.getD i 0) bit)) := fun p hp => by
  rcases List.mem_or_eq_of_mem_set hp with h1 | h1
  · exact h p h1
  · rw [h1]; exact after_ok (h.at hi) bit

theorem wide_tame {c : Enc} {T k : Nat} (h : Wide c T k) (hk : k ≤ 90000000000000) : Tame c ∧ c.low + c.rng ≤ 8589934592 := by
  have h1 := h.st.lo
  have h2 := h.st.len
  have h3 := h.lo
  exact ⟨⟨by omega, h.st.kept, by omega, by omega⟩, h1⟩

/-- an encoder with its chances, whose range is wide -/
structure ES (B : Nat) (w : World) (pb gc cc : Nat) (ov : Value) (c : Enc) (ch : List Nat) (k : Nat) : Prop where
  ec : EC B w pb gc cc ov c ch
  wide : ∃ T, Wide c T k
  chs : Chs ch
  base : B ≤ w.heap.size

theorem stepK_le (r k : Nat) : stepK r k ≤ k + 1 := by unfold stepK; split <;> omega

theorem put_es (B pb gc cc : Nat) (w : World) (ov : Value) (c : Enc) (ch : List Nat) (k i : Nat) (bit : Bool) (h : ES B w pb gc cc ov c ch k) (hi : i < ch.length) (hk : k ≤ 90000000000000) :
    Calls Try.prog 47 #[.pointer (some ⟨pb, 0, none⟩), .int .i64 (i : Int), .int .i64 (bit.toNat : Int)] w fun e w' => e = .returned (.tuple #[]) ∧ ∃ ov' k', ES B w' pb gc cc ov' (putE c (ch.getD i 0) bit) (ch.set i (after (ch.getD i 0) bit)) k' ∧ k' ≤ k + 1 ∧ Tch w w' pb gc cc ov ov' := by
  obtain ⟨T, hw⟩ := h.wide
  have h1 := wide_tame hw hk
  refine (put_ok B pb gc cc w ov c ch i bit h.ec hi (h.chs.at hi) h1.1 h1.2 hw.lo hw.hi h.base).mono ?_
  rintro e w' ⟨rfl, ov', h2, h3⟩
  have h4 := (put_wide hw (h.chs.at hi) bit).1
  exact ⟨rfl, ov', _, ⟨h2, ⟨_, h4⟩, h.chs.set hi bit, Nat.le_trans h.base h3.size⟩, stepK_le _ _, h3⟩

set_option maxHeartbeats 2000000 in
theorem bit_ok (B pb gc cc : Nat) (w : World) (ov : Value) (c : Enc) (ch : List Nat) (k : Nat) (i : Nat) (bit : Bool) (h : ES B w pb gc cc ov c ch k) (hi : i < ch.length) (hk : k ≤ 90000000000000) :
    Calls Try.prog 17 #[.pointer (some ⟨pb, 0, none⟩), .int .i64 (i : Int), .int .i64 (bit.toNat : Int)] w fun e w' => e = .returned (.int .i64 0) ∧ ∃ ov' k', ES B w' pb gc cc ov' (putE c (ch.getD i 0) bit) (ch.set i (after (ch.getD i 0) bit)) k' ∧ k' ≤ k + 1 ∧ Tch w w' pb gc cc ov ov' := by
  have HP := hide (put_es B pb gc cc w ov c ch k i bit h hi hk)
  have c0 := h.ec.enc.chs
  have hl : ch.length ≤ 1000000000000000 ∨ True := .inr trivial
  obtain ⟨n, hn⟩ : ∃ n, n = ch.length := ⟨_, rfl⟩
  rw [← hn] at c0 hi
  have ti : (i : Int) < (n : Int) := by omega
  have ti2 : ¬ (i : Int) < 0 := by omega
  have ti3 : ¬ (n : Int) ≤ (i : Int) := by omega
  obtain ⟨x, hx⟩ : ∃ x, x = bit.toNat := ⟨_, rfl⟩
  have hx1 : x ≤ 1 := by rw [hx]; exact Bool.toNat_le bit
  rw [← hx] at HP ⊢
  have tx1 : ¬ (x : Int) < 0 := by omega
  have tx2 : ¬ (1 : Int) < (x : Int) := by omega
  clear hn h hx hl
  go_enter Try.func17, Try.ntmps17
  go_wp2_with fail
  refine (unhide HP).mono ?_
  rintro e w1 ⟨rfl, h1⟩
  have H1 := hide h1
  clear h1 HP
  go_wp2_with fail
  go_ret
  exact ⟨rfl, unhide H1⟩

set_option maxHeartbeats 2000000 in
/-- no such chance, or no bit -/
theorem bit_bad (B pb gc cc : Nat) (w : World) (ov : Value) (c : Enc) (ch : List Nat) (i bit : Int) (h : EC B w pb gc cc ov c ch) (hb : ¬ (0 ≤ i ∧ i < (ch.length : Int) ∧ 0 ≤ bit ∧ bit ≤ 1)) :
    Calls Try.prog 17 #[.pointer (some ⟨pb, 0, none⟩), .int .i64 i, .int .i64 bit] w fun e w' => e = .returned (.int .i64 2) ∧ w = w' := by
  have c0 := h.enc.chs
  obtain ⟨n, hn⟩ : ∃ n, n = ch.length := ⟨_, rfl⟩
  rw [← hn] at c0 hb
  clear hn h
  by_cases h1 : i < 0
  · have d1 : decide (i < 0) = true := decide_eq_true h1
    go_enter Try.func17, Try.ntmps17
    go_wp2_with fail
    go_ret
    exact ⟨rfl, rfl⟩
  · have d1 : decide (i < 0) = false := decide_eq_false h1
    by_cases h2 : (n : Int) ≤ i
    · have d2 : decide ((n : Int) ≤ i) = true := decide_eq_true h2
      go_enter Try.func17, Try.ntmps17
      go_wp2_with fail
      go_ret
      exact ⟨rfl, rfl⟩
    · have d2 : decide ((n : Int) ≤ i) = false := decide_eq_false h2
      by_cases h3 : bit < 0
      · have d3 : decide (bit < 0) = true := decide_eq_true h3
        go_enter Try.func17, Try.ntmps17
        go_wp2_with fail
        go_ret
        exact ⟨rfl, rfl⟩
      · have d3 : decide (bit < 0) = false := decide_eq_false h3
        have h4 : 1 < bit := by omega
        have d4 : decide (1 < bit) = true := decide_eq_true h4
        go_enter Try.func17, Try.ntmps17
        go_wp2_with fail
        go_ret
        exact ⟨rfl, rfl⟩

/-- direct bits, the highest first -/
def dirsE (v : Nat) : Nat → Enc → Enc
  | 0, c => c
  | n + 1, c => dirsE v n (dirE c (v.testBit n))

theorem bit_mod (v i : Nat) : ((v / 2 ^ i : Nat)) % 2 = (v.testBit i).toNat := by
  rw [Nat.testBit, Nat.shiftRight_eq_div_pow, Nat.and_comm, Nat.and_one_is_mod]
  rcases Nat.mod_two_eq_zero_or_one (v / 2 ^ i) with h | h <;> rw [h] <;> rfl

set_option maxHeartbeats 4000000 in
theorem direct_ok (B pb gc cc : Nat) (w : World) (ov : Value) (c : Enc) (ch : List Nat) (k v n : Nat) (h : ES B w pb gc cc ov c ch k) (hn : n ≤ 31) (hv : v < 2 ^ n) (hk : k ≤ 80000000000000) :
    Calls Try.prog 19 #[.pointer (some ⟨pb, 0, none⟩), .int .i64 (v : Int), .int .i64 (n : Int)] w fun e w' => e = .returned (.int .i64 0) ∧ ∃ ov' k', ES B w' pb gc cc ov' (dirsE v n c) ch k' ∧ k' ≤ k + n ∧ Tch w w' pb gc cc ov ov' := by
  have HE := hide h
  have hp : 2 ^ n ≤ 2 ^ 31 := Nat.pow_le_pow_right (by omega) hn
  have hv2 : v < 2147483648 := by omega
  obtain ⟨P, hP⟩ : ∃ P, P = 2 ^ n := ⟨_, rfl⟩
  have t1 : ¬ (31 : Int) < (n : Int) := by omega
  have e1 : (2 : Int) ^ n = (P : Int) := by rw [hP]; simp
  have fP : wrap64 (P : Int) = (P : Int) := IntWalk.wrap64_in _ (by omega)
  have d1 : decide ((n : Int) < 0) = false := decide_eq_false (by omega)
  have d2 : decide ((v : Int) < 0) = false := decide_eq_false (by omega)
  have t2 : ¬ (P : Int) ≤ (v : Int) := by omega
  have hn2 : n < 64 := by omega
  clear h hP hp hv
  go_enter Try.func19, Try.ntmps19
  go_wp2_with fail
  clear e1 fP d1 d2 t2
  go_loopg [7] n (fun gk d ws => ∃ (c' : Enc) (ov' : Value) (k' : Nat), gk ≤ n ∧ d = .int .i64 ((gk : Int) - 1) ∧ Hid (ES B ws pb gc cc ov' c' ch k') ∧ Hid (dirsE v gk c' = dirsE v n c) ∧ Hid (k' + gk ≤ k + n) ∧ Hid (Tch w ws pb gc cc ov ov'))
  case atStart => exact ⟨c, ov, k, Nat.le_refl _, rfl, HE, hide rfl, hide (Nat.le_refl _), hide (Tch.refl _ _ _ _ _)⟩
  case round =>
    clear HE
    obtain ⟨c', ov', k', hgk, rfl, HE, HX, HK, HT⟩ := hrel
    rename World => wi
    by_cases h0 : 0 < gk
    · obtain ⟨j, rfl⟩ : ∃ j, gk = j + 1 := ⟨gk - 1, by omega⟩
      rw [show (((j + 1 : Nat)) : Int) - 1 = (j : Int) by omega]
      obtain ⟨low, rng, kept, wait, out⟩ := c'
      obtain ⟨T, hw⟩ := (unhide HE).wide
      have hlo := hw.lo
      have hhi := hw.hi
      have htm := wide_tame hw (by have := unhide HK; omega)
      have hdw := dir_wide hw (v.testBit j)
      simp only at hlo hhi hdw
      obtain ⟨bit, hbit⟩ : ∃ bit, bit = v.testBit j := ⟨_, rfl⟩
      obtain ⟨x, hx⟩ : ∃ x, x = v / 2 ^ j := ⟨_, rfl⟩
      have fx : (v : Int) / 2 ^ j = (x : Int) := by rw [hx]; simp
      have hxv : x ≤ v := by rw [hx]; exact Nat.div_le_self _ _
      have fx2 : (x : Int).tmod 2 = (bit.toNat : Int) := by
        rw [show (2 : Int) = ((2 : Nat) : Int) from rfl, tmod_nat, hx, bit_mod, hbit]
      have hX := unhide HX
      rw [dirsE, ← hbit] at hX
      rw [← hbit] at hdw
      have HX2 := hide hX
      have HDW := hide hdw
      have HTM := hide htm
      obtain ⟨r2, hr2⟩ : ∃ r2, r2 = rng / 2 := ⟨_, rfl⟩
      have fr2 : (rng : Int) / 2 = (r2 : Int) := by omega
      have HR2 := hide hr2
      have hr2b : 8388608 ≤ r2 ∧ r2 < 2147483648 := by omega
      have hj63 : j < 64 := by omega
      have fwj : IntKind.i64.wrap ((j : Int) - 1) = (j : Int) - 1 := by rw [IntKind.wrap_i64]; omega
      clear hbit hx hX hdw htm hw hr2 HX
      have c2 := (unhide HE).ec.enc.rng
      have f2 := (unhide HE).ec.enc.free 2
      have c1 := (unhide HE).ec.enc.low
      have f1 := (unhide HE).ec.enc.free 1
      simp only at c1 c2
      cases bit
      · have fx3 : (x : Int).tmod 2 = 0 := fx2
        have h3 := (unhide HE).ec.enc.setField 2 (.int .u64 (r2 : Int)) ⟨low, r2, kept, wait, out⟩ rfl rfl
        have h4 := (unhide HE).ec.step h3.1 h3.2
        have HE2 := hide h4.1
        have HD2 := hide h4.2
        clear fx2 h3 h4
        go_wp2_with fail
        refine (settle_ok B pb _ _ ov' _ (unhide HE2).enc ⟨(unhide HTM).1.low, (unhide HTM).1.kept, (unhide HTM).1.wait, (unhide HTM).1.out⟩ (by simp only; omega) (by simp only; omega) (by have := (unhide HE).base; have := (unhide HD2).size; omega)).mono ?_
        rintro e w5 ⟨rfl, ov5, h6, h7⟩
        have h8 := (unhide HE2).step h6 h7
        have HE4 : Hid (ES B w5 pb gc cc ov5 (dirE ⟨low, rng, kept, wait, out⟩ false) ch (stepK (rng / 2) k')) := hide ⟨by have h9 := h8.1; rw [unhide HR2] at h9; exact h9, ⟨_, (unhide HDW).1⟩, (unhide HE).chs, Nat.le_trans (unhide HE).base ((unhide HD2).trans h8.2).size⟩
        have HD4 := hide (((unhide HT).trans (unhide HD2)).trans h8.2)
        clear h6 h7 h8
        go_wp2_with fail
        go_roundg j
        case measure => omega
        case rel => exact ⟨_, ov5, _, by omega, rfl, HE4, HX2, hide (by have := unhide HK; have := stepK_le (rng / 2) k'; omega), HD4⟩
      · have fx3 : (x : Int).tmod 2 = 1 := fx2
        have h3 := (unhide HE).ec.enc.setField 2 (.int .u64 (r2 : Int)) ⟨low, r2, kept, wait, out⟩ rfl rfl
        have h4 := (unhide HE).ec.step h3.1 h3.2
        have HE1 := hide h4.1
        have HD1 := hide h4.2
        clear fx2 h3 h4
        go_upto_region 8 with fail
        obtain ⟨W2, hW2⟩ : ∃ W2, W2 = wi.setCell ⟨pb, 2, none⟩ (.int .u64 (r2 : Int)) := ⟨_, rfl⟩
        rw [← hW2] at HE1 HD1 ⊢
        clear hW2 c1 c2 f1 f2
        have k1 : W2.drew.cell? ⟨pb, 1, none⟩ = some (.int .u64 (low : Int)) := (unhide HE1).enc.low
        have k2 : W2.drew.cell? ⟨pb, 2, none⟩ = some (.int .u64 (r2 : Int)) := (unhide HE1).enc.rng
        have kf : W2.drew.frozen? ⟨pb, 1, none⟩ = false := (unhide HE1).enc.free 1
        have hlb : low + r2 < 8589934592 := by have := (unhide HTM).2; simp only at this; omega
        have fl : IntKind.u64.wrap ((low : Int) + (r2 : Int)) = (low : Int) + (r2 : Int) := IntWalk.u64_in _ (by omega)
        refine wp_tail 10 (by kernel_rfl) (by kernel_rfl) ?_
        simp only [List.take_succ_cons, List.take_zero, List.drop_succ_cons, List.drop_zero]
        repeat still_step
        try refine wpStill_nil ?_
        have h3' := ((unhide HE1).drewN 1).enc.setField 1 (.int .u64 ((low : Int) + (r2 : Int))) ⟨low + r2, r2, kept, wait, out⟩ (by simp [ecells]) rfl
        have h4' := ((unhide HE1).drewN 1).step h3'.1 h3'.2
        have HE2 := hide h4'.1
        have HD2 := hide (((unhide HD1).drewN 1).trans h4'.2)
        clear h3' h4'
        go_wp2_with fail
        refine (settle_ok B pb _ _ ov' _ (unhide HE2).enc ⟨hlb, (unhide HTM).1.kept, (unhide HTM).1.wait, (unhide HTM).1.out⟩ (by simp only; omega) (by simp only; omega) (by have := (unhide HE).base; have := (unhide HD2).size; omega)).mono ?_
        rintro e w5 ⟨rfl, ov5, h6, h7⟩
        have h8 := (unhide HE2).step h6 h7
        have HE4 : Hid (ES B w5 pb gc cc ov5 (dirE ⟨low, rng, kept, wait, out⟩ true) ch (stepK (rng / 2) k')) := hide ⟨by have h9 := h8.1; rw [unhide HR2] at h9; exact h9, ⟨_, (unhide HDW).1⟩, (unhide HE).chs, Nat.le_trans (unhide HE).base ((unhide HD2).trans h8.2).size⟩
        have HD4 := hide (((unhide HT).trans (unhide HD2)).trans h8.2)
        clear h6 h7 h8
        go_wp2_with fail
        go_roundg j
        case measure => omega
        case rel => exact ⟨_, ov5, _, by omega, rfl, HE4, HX2, hide (by have := unhide HK; have := stepK_le (rng / 2) k'; omega), HD4⟩
    · obtain rfl : gk = 0 := by omega
      go_wp2_with fail
      go_ret
      refine ⟨rfl, ov', k', ?_, by have := unhide HK; omega, unhide HT⟩
      have := unhide HX
      rw [dirsE] at this
      rw [← this]
      exact unhide HE
end Go.Proofs.Ytbolhbjipmndeaa.D
