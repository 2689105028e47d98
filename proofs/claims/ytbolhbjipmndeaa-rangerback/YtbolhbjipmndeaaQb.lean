/- get, getDirect, unlessEnded (the program's decoder). -/
import Derived.Test.YtbolhbjipmndeaaQa
import Derived.Test.YtbolhbjipmndeaaPp
namespace Go.Proofs.Ytbolhbjipmndeaa.D
open Go.RowKit Rang
set_option maxRecDepth 100000
set_option linter.unusedVariables false
attribute [local go_sem ↓] Go.wp_at_zero Go.wp_at_succ

theorem QAt.learnt {w : World} {pb gc gr o rc : Nat} {rcs : Array Value} {Bs : List Nat} {d : Dec} {ch : List Nat} (h : QAt w pb gc gr o rc rcs Bs d ch) (i : Nat) (bit : Bool) (hi : i < ch.length) (hp : 31 ≤ ch.getD i 0 ∧ ch.getD i 0 ≤ 2017) :
    Calls Try.prog 70 #[.slice (some ⟨gc, 0, none⟩) ch.length ch.length, .int .i64 (i : Int), .int .i64 (bit.toNat : Int)] w fun e w' => e = .returned (.tuple #[]) ∧ QAt w' pb gc gr o rc rcs Bs d (ch.set i (after (ch.getD i 0) bit)) ∧ DT w w' pb gc 0 := by
  refine (learn_ok w gc ch i bit h.chs hi hp).mono ?_
  rintro e w' ⟨rfl, q, rfl⟩
  have h1 := (h.drewN q).setCh i (after (ch.getD i 0) bit)
  exact ⟨rfl, h1.1, ((DT.refl w pb gc 0).drewN q).trans h1.2⟩

set_option maxHeartbeats 2000000 in
theorem qget_over (w : World) (pb gc gr o rc : Nat) (rcs : Array Value) (Bs : List Nat) (d : Dec) (ch : List Nat) (i : Int) (h : QAt w pb gc gr o rc rcs Bs d ch) (h5 : d.over = true) :
    Calls Try.prog 61 #[.pointer (some ⟨pb, 0, none⟩), .int .i64 i] w fun e w' => e = .returned (.int .i64 0) ∧ w' = w := by
  have c5 := h.over
  rw [h5] at c5
  clear h h5
  go_enter Try.func61, Try.ntmps61
  go_wp2_with fail
  go_ret
  exact ⟨rfl, rfl⟩

set_option maxHeartbeats 2000000 in
theorem qdir_over (w : World) (pb gc gr o rc : Nat) (rcs : Array Value) (Bs : List Nat) (d : Dec) (ch : List Nat) (h : QAt w pb gc gr o rc rcs Bs d ch) (h5 : d.over = true) :
    Calls Try.prog 64 #[.pointer (some ⟨pb, 0, none⟩)] w fun e w' => e = .returned (.int .i64 0) ∧ w' = w := by
  have c5 := h.over
  rw [h5] at c5
  clear h h5
  go_enter Try.func64, Try.ntmps64
  go_wp2_with fail
  go_ret
  exact ⟨rfl, rfl⟩

set_option maxHeartbeats 2000000 in
theorem unless_ok (w : World) (pb gc gr o rc : Nat) (rcs : Array Value) (Bs : List Nat) (d : Dec) (ch : List Nat) (v : Int) (h : QAt w pb gc gr o rc rcs Bs d ch) :
    Calls Try.prog 60 #[.pointer (some ⟨pb, 0, none⟩), .int .i64 v] w fun e w' => (∃ x y : Int, e = .returned (.tuple #[.int .i64 x, .int .i64 y]) ∧ Hid (Value.tuple #[.int .i64 x, .int .i64 y] = toldV d v)) ∧ w' = w := by
  have c5 := h.over
  obtain ⟨code, rng, at_, over⟩ := d
  simp only at c5
  clear h
  cases over
  · go_enter Try.func60, Try.ntmps60
    go_wp2_with fail
    go_ret2
    exact ⟨⟨v, 0, rfl, hide rfl⟩, rfl⟩
  · go_enter Try.func60, Try.ntmps60
    go_wp2_with fail
    go_ret2
    exact ⟨⟨0, 10, rfl, hide rfl⟩, rfl⟩

set_option maxHeartbeats 8000000 in
theorem qget_ok (w : World) (pb gc gr o rc : Nat) (rcs : Array Value) (Bs : List Nat) (d : Dec) (ch : List Nat) (i : Nat) (h : QAt w pb gc gr o rc rcs Bs d ch) (hi : i < ch.length) (hp : 31 ≤ ch.getD i 0 ∧ ch.getD i 0 ≤ 2017) (h1 : 16777216 ≤ d.rng) (h2 : d.rng < 4294967296) (h3 : d.code < 4294967296) (h4 : d.at_ ≤ Bs.length) (h5 : d.over = false) (hB : Bs.length ≤ 140737488355328) :
    Calls Try.prog 61 #[.pointer (some ⟨pb, 0, none⟩), .int .i64 (i : Int)] w fun e w' => e = .returned (.int .i64 ((getD Bs d (ch.getD i 0)).1.toNat : Int)) ∧ QIs w pb gc gr rcs Bs (getD Bs d (ch.getD i 0)).2 (gotCh ch i (ch.getD i 0) (getD Bs d (ch.getD i 0))) w' := by
  have hs := chance_split h1 hp
  obtain ⟨code, rng, at_, over⟩ := d
  simp only at h1 h2 h3 h4 h5 hs
  subst h5
  have HBo : ∀ q, Calls Try.prog 69 #[.slice (some ⟨gc, 0, none⟩) ch.length ch.length, .int .u32 (rng : Int), .int .i64 (i : Int)] (w.drewN q) fun e w' => e = .returned (.int .u32 ((rng / 2048 * ch.getD i 0 : Nat) : Int)) ∧ w' = w.drewN q := fun q => bound_ok (w.drewN q) gc ch rng i (h.drewN q).chs hi h2 hp.2
  obtain ⟨b, hb⟩ : ∃ b, b = rng / 2048 * ch.getD i 0 := ⟨_, rfl⟩
  rw [← hb] at hs HBo
  have c1 : ∀ q, (w.drewN q).cell? ⟨pb, 1, none⟩ = some (.slice (some ⟨gc, 0, none⟩) ch.length ch.length) := fun q => h.chv
  have c3 : ∀ q, (w.drewN q).cell? ⟨pb, 3, none⟩ = some (.int .u32 (rng : Int)) := fun q => h.rng
  have c5 := h.over
  simp only at c5
  have HBo := hide HBo
  have HE := hide h
  have HB := hide hb
  have HP := hide hp
  have HI := hide hi
  obtain ⟨n, hn⟩ : ∃ n, n = ch.length := ⟨_, rfl⟩
  have HN := hide hn
  rw [← hn] at c1 HBo
  clear hb h hp hi hn
  by_cases hcb : code < b
  · have HGD : Hid (getD Bs ⟨code, rng, at_, false⟩ (ch.getD i 0) = (false, settleD Bs ⟨code, b, at_, false⟩)) := hide (by unfold getD; simp only; rw [← unhide HB, if_pos hcb])
    have tcb : (code : Int) < (b : Int) := by omega
    rw [unhide HGD]
    obtain ⟨D, hD⟩ : ∃ D, D = settleD Bs ⟨code, b, at_, false⟩ := ⟨_, rfl⟩
    have HDD := hide hD
    rw [← hD]
    clear hD
    go_enter Try.func61, Try.ntmps61
    go_upto_region 4 with fail
    go_quiet (first | (go_at_call 69; refine Calls.quiet_of_same (unhide HBo _)))
    have HE1 := hide ((unhide HE).drewN nq)
    have HD1 : Hid (DT w (w.drewN nq) pb gc 0) := hide ((DT.refl w pb gc 0).drewN nq)
    obtain ⟨W1, hW1⟩ : ∃ W1, W1 = w.drewN nq := ⟨_, rfl⟩
    rw [← hW1] at HE1 HD1 ⊢
    clear hW1 c1 c3
    have c2 := (unhide HE1).code
    have c3 := (unhide HE1).rng
    have f3 := (unhide HE1).free 3
    have h3' := (unhide HE1).setField 3 (.int .u32 (b : Int)) ⟨code, b, at_, false⟩ rfl rfl
    have HE2 := hide h3'.1
    have HD2 := hide ((unhide HD1).trans h3'.2)
    clear h3'
    simp only at c2 c3
    go_upto_region 10 with fail
    obtain ⟨W2, hW2⟩ : ∃ W2, W2 = W1.setCell ⟨pb, 3, none⟩ (.int .u32 (b : Int)) := ⟨_, rfl⟩
    rw [← hW2] at HE2 HD2 ⊢
    clear hW2 c2 c3 f3 HE1 HD1
    have HWD := hide (qwiden_ok W2 pb gc gr o rc rcs Bs ⟨code, b, at_, false⟩ ch (unhide HE2) (by simp only; omega) (by simp only; omega) (by simp only; omega) h4 rfl hB)
    rw [← unhide HDD] at HWD
    clear h1 h2 h3 hs tcb
    go_wp2_with fail
    refine (unhide HWD).mono ?_
    rintro e w3 ⟨rfl, o3, rc3, h6, h7⟩
    have HE3 := hide h6
    have HD3 := hide ((unhide HD2).trans h7)
    have c5 := h6.over
    clear h6 h7 HWD
    obtain ⟨ov, hov⟩ : ∃ ov, ov = D.over := ⟨_, rfl⟩
    rw [← hov] at c5
    have HOV := hide hov
    clear hov
    cases ov
    · have k1 := (unhide HE3).chv
      have HC := hide ((unhide HE3).learnt i false (unhide HI) (unhide HP))
      rw [← unhide HN] at k1 HC
      go_wp2_with (first | (go_at_call 70; refine (unhide HC).mono ?_; rintro e w4 ⟨rfl, h8, h9⟩; have HE4 := hide h8; have HD4 := hide ((unhide HD3).trans h9); clear h8 h9 HC))
      go_ret
      refine ⟨rfl, o3, rc3, ?_, unhide HD4⟩
      have e : gotCh ch i (ch.getD i 0) (false, D) = ch.set i (after (ch.getD i 0) false) := by unfold gotCh; simp only; rw [← unhide HOV]; rfl
      rw [e]
      exact unhide HE4
    · go_wp2_with fail
      go_ret
      refine ⟨rfl, o3, rc3, ?_, unhide HD3⟩
      have e : gotCh ch i (ch.getD i 0) (false, D) = ch := by unfold gotCh; simp only; rw [← unhide HOV]; rfl
      rw [e]
      exact unhide HE3
  · have HGD : Hid (getD Bs ⟨code, rng, at_, false⟩ (ch.getD i 0) = (true, settleD Bs ⟨code - b, rng - b, at_, false⟩)) := hide (by unfold getD; simp only; rw [← unhide HB, if_neg hcb])
    have tcb : ¬ (code : Int) < (b : Int) := by omega
    rw [unhide HGD]
    obtain ⟨D, hD⟩ : ∃ D, D = settleD Bs ⟨code - b, rng - b, at_, false⟩ := ⟨_, rfl⟩
    have HDD := hide hD
    rw [← hD]
    clear hD
    go_enter Try.func61, Try.ntmps61
    go_upto_region 4 with fail
    go_quiet (first | (go_at_call 69; refine Calls.quiet_of_same (unhide HBo _)))
    have HE1 := hide ((unhide HE).drewN nq)
    have HD1 : Hid (DT w (w.drewN nq) pb gc 0) := hide ((DT.refl w pb gc 0).drewN nq)
    obtain ⟨W1, hW1⟩ : ∃ W1, W1 = w.drewN nq := ⟨_, rfl⟩
    rw [← hW1] at HE1 HD1 ⊢
    clear hW1 c1 c3
    have c2 := (unhide HE1).code
    have f2 := (unhide HE1).free 2
    have c3 := (unhide HE1).rng
    have f3 := (unhide HE1).free 3
    have h3' := (unhide HE1).setField 2 (.int .u32 ((code : Int) - (b : Int))) ⟨code - b, rng, at_, false⟩ (by simp [qcells]; omega) rfl
    have h3'' := h3'.1.setField 3 (.int .u32 ((rng : Int) - (b : Int))) ⟨code - b, rng - b, at_, false⟩ (by simp [qcells]; omega) rfl
    have HE2 := hide h3''.1
    have HD2 := hide (((unhide HD1).trans h3'.2).trans h3''.2)
    have fl : ((code : Int) - (b : Int)) % 4294967296 = (code : Int) - (b : Int) := by omega
    have fr : ((rng : Int) - (b : Int)) % 4294967296 = (rng : Int) - (b : Int) := by omega
    clear h3' h3''
    simp only at c2 c3
    go_upto_region 10 with fail
    obtain ⟨W2, hW2⟩ : ∃ W2, W2 = (W1.setCell ⟨pb, 2, none⟩ (.int .u32 ((code : Int) - (b : Int)))).setCell ⟨pb, 3, none⟩ (.int .u32 ((rng : Int) - (b : Int))) := ⟨_, rfl⟩
    rw [← hW2] at HE2 HD2 ⊢
    clear hW2 c2 c3 f3 f2 HE1 HD1
    have HWD := hide (qwiden_ok W2 pb gc gr o rc rcs Bs ⟨code - b, rng - b, at_, false⟩ ch (unhide HE2) (by simp only; omega) (by simp only; omega) (by simp only; omega) h4 rfl hB)
    rw [← unhide HDD] at HWD
    clear h1 h2 h3 hs tcb
    go_wp2_with fail
    refine (unhide HWD).mono ?_
    rintro e w3 ⟨rfl, o3, rc3, h6, h7⟩
    have HE3 := hide h6
    have HD3 := hide ((unhide HD2).trans h7)
    have c5 := h6.over
    clear h6 h7 HWD
    obtain ⟨ov, hov⟩ : ∃ ov, ov = D.over := ⟨_, rfl⟩
    rw [← hov] at c5
    have HOV := hide hov
    clear hov
    cases ov
    · have k1 := (unhide HE3).chv
      have HC := hide ((unhide HE3).learnt i true (unhide HI) (unhide HP))
      rw [← unhide HN] at k1 HC
      go_wp2_with (first | (go_at_call 70; refine (unhide HC).mono ?_; rintro e w4 ⟨rfl, h8, h9⟩; have HE4 := hide h8; have HD4 := hide ((unhide HD3).trans h9); clear h8 h9 HC))
      go_ret
      refine ⟨rfl, o3, rc3, ?_, unhide HD4⟩
      have e : gotCh ch i (ch.getD i 0) (true, D) = ch.set i (after (ch.getD i 0) true) := by unfold gotCh; simp only; rw [← unhide HOV]; rfl
      rw [e]
      exact unhide HE4
    · go_wp2_with fail
      go_ret
      refine ⟨rfl, o3, rc3, ?_, unhide HD3⟩
      have e : gotCh ch i (ch.getD i 0) (true, D) = ch := by unfold gotCh; simp only; rw [← unhide HOV]; rfl
      rw [e]
      exact unhide HE3

set_option maxHeartbeats 8000000 in
theorem qdir_ok (w : World) (pb gc gr o rc : Nat) (rcs : Array Value) (Bs : List Nat) (d : Dec) (ch : List Nat) (h : QAt w pb gc gr o rc rcs Bs d ch) (h1 : 16777216 ≤ d.rng) (h2 : d.rng < 4294967296) (h3 : d.code < 4294967296) (h4 : d.at_ ≤ Bs.length) (h5 : d.over = false) (hB : Bs.length ≤ 140737488355328) :
    Calls Try.prog 64 #[.pointer (some ⟨pb, 0, none⟩)] w fun e w' => e = .returned (.int .i64 ((dirD Bs d).1.toNat : Int)) ∧ QIs w pb gc gr rcs Bs (dirD Bs d).2 ch w' := by
  obtain ⟨code, rng, at_, over⟩ := d
  simp only at h1 h2 h3 h4 h5
  subst h5
  obtain ⟨b, hb⟩ : ∃ b, b = rng / 2 := ⟨_, rfl⟩
  have fb : (rng : Int) / 2 = (b : Int) := by omega
  have hb1 : 8388608 ≤ b := by omega
  have hb2 : b < 4294967296 := by omega
  have c3 := h.rng
  have f3 := h.free 3
  have c5 := h.over
  simp only at c3 c5
  have h6 := h.setField 3 (.int .u32 (b : Int)) ⟨code, b, at_, false⟩ rfl rfl
  have HE2 := hide h6.1
  have HD2 := hide h6.2
  have HB := hide hb
  clear hb h h6
  by_cases hcb : b ≤ code
  · have HGD : Hid (dirD Bs ⟨code, rng, at_, false⟩ = (true, settleD Bs ⟨code - b, b, at_, false⟩)) := hide (by unfold dirD; simp only; rw [← unhide HB, if_pos hcb])
    have tcb : (b : Int) ≤ (code : Int) := by omega
    rw [unhide HGD]
    obtain ⟨D, hD⟩ : ∃ D, D = settleD Bs ⟨code - b, b, at_, false⟩ := ⟨_, rfl⟩
    have HDD := hide hD
    rw [← hD]
    clear hD
    go_enter Try.func64, Try.ntmps64
    go_upto_region 5 with fail
    obtain ⟨W2, hW2⟩ : ∃ W2, W2 = w.setCell ⟨pb, 3, none⟩ (.int .u32 (b : Int)) := ⟨_, rfl⟩
    rw [← hW2] at HE2 HD2 ⊢
    clear hW2 c3 f3 c5
    have c2 : ∀ q, (W2.drewN q).cell? ⟨pb, 2, none⟩ = some (.int .u32 (code : Int)) := fun q => (unhide HE2).code
    have c3 : ∀ q, (W2.drewN q).cell? ⟨pb, 3, none⟩ = some (.int .u32 (b : Int)) := fun q => (unhide HE2).rng
    go_quiet (first | fail)
    go_upto_region 7 with fail
    have HE3 := hide ((unhide HE2).drewN nq)
    have HD3 := hide ((unhide HD2).drewN nq)
    obtain ⟨W3, hW3⟩ : ∃ W3, W3 = W2.drewN nq := ⟨_, rfl⟩
    rw [← hW3] at HE3 HD3 ⊢
    clear hW3 c2 c3 HE2 HD2
    have c2 : W3.drew.cell? ⟨pb, 2, none⟩ = some (.int .u32 (code : Int)) := (unhide HE3).code
    have c3 : W3.drew.cell? ⟨pb, 3, none⟩ = some (.int .u32 (b : Int)) := (unhide HE3).rng
    have f2 : W3.drew.frozen? ⟨pb, 2, none⟩ = false := (unhide HE3).free 2
    have fl : IntKind.u32.wrap ((code : Int) - (b : Int)) = (code : Int) - (b : Int) := by rw [IntKind.wrap_u32]; omega
    have h7 := ((unhide HE3).drewN 1).setField 2 (.int .u32 ((code : Int) - (b : Int))) ⟨code - b, b, at_, false⟩ (by simp [qcells]; omega) rfl
    have HE4 := hide h7.1
    have HD4 := hide (((unhide HD3).drewN 1).trans h7.2)
    have HWD := hide (qwiden_ok _ pb gc gr o rc rcs Bs ⟨code - b, b, at_, false⟩ ch h7.1 (by simp only; omega) (by simp only; omega) (by simp only; omega) h4 rfl hB)
    clear h7
    rw [← unhide HDD] at HWD
    clear h1 h2 h3
    refine wp_tail 11 (by kernel_rfl) (by kernel_rfl) ?_
    simp only [List.take_succ_cons, List.take_zero, List.drop_succ_cons, List.drop_zero]
    repeat still_step
    try refine wpStill_nil ?_
    go_wp2_with (first | (go_at_call 78; refine (unhide HWD).mono ?_; rintro e w3 ⟨rfl, o3, rc3, h8, h9⟩; have HE5 := hide h8; have HD5 := hide ((unhide HD4).trans h9); clear h8 h9 HWD))
    go_ret
    exact ⟨rfl, o3, rc3, unhide HE5, unhide HD5⟩
  · have HGD : Hid (dirD Bs ⟨code, rng, at_, false⟩ = (false, settleD Bs ⟨code, b, at_, false⟩)) := hide (by unfold dirD; simp only; rw [← unhide HB, if_neg hcb])
    have tcb : ¬ (b : Int) ≤ (code : Int) := by omega
    have dcb : decide ((b : Int) ≤ (code : Int)) = false := decide_eq_false tcb
    rw [unhide HGD]
    obtain ⟨D, hD⟩ : ∃ D, D = settleD Bs ⟨code, b, at_, false⟩ := ⟨_, rfl⟩
    have HDD := hide hD
    rw [← hD]
    clear hD
    go_enter Try.func64, Try.ntmps64
    go_upto_region 5 with fail
    obtain ⟨W2, hW2⟩ : ∃ W2, W2 = w.setCell ⟨pb, 3, none⟩ (.int .u32 (b : Int)) := ⟨_, rfl⟩
    rw [← hW2] at HE2 HD2 ⊢
    clear hW2 c3 f3 c5
    have c2 : ∀ q, (W2.drewN q).cell? ⟨pb, 2, none⟩ = some (.int .u32 (code : Int)) := fun q => (unhide HE2).code
    have c3 : ∀ q, (W2.drewN q).cell? ⟨pb, 3, none⟩ = some (.int .u32 (b : Int)) := fun q => (unhide HE2).rng
    go_quiet (first | fail)
    have HE3 := hide ((unhide HE2).drewN nq)
    have HD3 := hide ((unhide HD2).drewN nq)
    obtain ⟨W3, hW3⟩ : ∃ W3, W3 = W2.drewN nq := ⟨_, rfl⟩
    rw [← hW3] at HE3 HD3 ⊢
    clear hW3 c2 c3 HE2 HD2
    have HWD := hide (qwiden_ok _ pb gc gr o rc rcs Bs ⟨code, b, at_, false⟩ ch (unhide HE3) (by simp only; omega) (by simp only; omega) (by simp only; omega) h4 rfl hB)
    rw [← unhide HDD] at HWD
    clear h1 h2 h3
    go_wp2_with (first | (go_at_call 78; refine (unhide HWD).mono ?_; rintro e w3 ⟨rfl, o3, rc3, h8, h9⟩; have HE5 := hide h8; have HD5 := hide ((unhide HD3).trans h9); clear h8 h9 HWD))
    go_ret
    exact ⟨rfl, o3, rc3, unhide HE5, unhide HD5⟩
end Go.Proofs.Ytbolhbjipmndeaa.D
