/- put, putDirect (the program's): a bit by a chance, and a direct one. -/
import Derived.Test.YtbolhbjipmndeaaPw
namespace Go.Proofs.Ytbolhbjipmndeaa.D
open Go.RowKit Rang
set_option maxRecDepth 100000
set_option linter.unusedVariables false
attribute [local go_sem ↓] Go.wp_at_zero Go.wp_at_succ

theorem PC.learnt {B : Nat} {w : World} {pb gc : Nat} {ov : Value} {c : Enc} {ch : List Nat} (h : PC B w pb gc ov c ch) (i : Nat) (bit : Bool) (hi : i < ch.length) (hp : 31 ≤ ch.getD i 0 ∧ ch.getD i 0 ≤ 2017) :
    Calls Try.prog 70 #[.slice (some ⟨gc, 0, none⟩) ch.length ch.length, .int .i64 (i : Int), .int .i64 (bit.toNat : Int)] w fun e w' => e = .returned (.tuple #[]) ∧ PC B w' pb gc ov c (ch.set i (after (ch.getD i 0) bit)) ∧ Tch w w' pb gc 0 ov ov ∧ w'.heap.size = w.heap.size := by
  refine (learn_ok w gc ch i bit h.chs hi hp).mono ?_
  rintro e w' ⟨rfl, q, rfl⟩
  have h1 := (h.drewN q).setCh i (after (ch.getD i 0) bit)
  exact ⟨rfl, h1.1, ((Tch.refl w pb gc 0 ov).drewN q).trans h1.2, by rw [World.size_setCell]; rfl⟩

set_option maxHeartbeats 8000000 in
theorem pput_ok (B pb gc : Nat) (w : World) (ov : Value) (c : Enc) (ch : List Nat) (i : Nat) (bit : Bool) (h : PC B w pb gc ov c ch) (hi : i < ch.length) (hp : 31 ≤ ch.getD i 0 ∧ ch.getD i 0 ≤ 2017) (ht : PTame c) (hlr : c.low + c.rng ≤ 8589934592) (h1 : 16777216 ≤ c.rng) (h2 : c.rng < 4294967296) (hB : B ≤ w.heap.size) :
    Calls Try.prog 46 #[.pointer (some ⟨pb, 0, none⟩), .int .i64 (i : Int), .int .i64 (bit.toNat : Int)] w fun e w' => e = .returned (.tuple #[]) ∧ ∃ ov', PC B w' pb gc ov' (putE c (ch.getD i 0) bit) (ch.set i (after (ch.getD i 0) bit)) ∧ Tch w w' pb gc 0 ov ov' := by
  have hs := chance_split h1 hp
  obtain ⟨low, rng, kept, wait, out⟩ := c
  simp only at h1 h2 hlr hs
  have HBo : ∀ q, Calls Try.prog 69 #[.slice (some ⟨gc, 0, none⟩) ch.length ch.length, .int .u32 (rng : Int), .int .i64 (i : Int)] (w.drewN q) fun e w' => e = .returned (.int .u32 ((rng / 2048 * ch.getD i 0 : Nat) : Int)) ∧ w' = w.drewN q := fun q => bound_ok (w.drewN q) gc ch rng i (h.drewN q).chs hi h2 hp.2
  obtain ⟨b, hb⟩ : ∃ b, b = rng / 2048 * ch.getD i 0 := ⟨_, rfl⟩
  rw [← hb] at hs HBo
  have c1 : ∀ q, (w.drewN q).cell? ⟨pb, 1, none⟩ = some (.slice (some ⟨gc, 0, none⟩) ch.length ch.length) := fun q => h.enc.chs
  have c3 : ∀ q, (w.drewN q).cell? ⟨pb, 3, none⟩ = some (.int .u32 (rng : Int)) := fun q => h.enc.rng
  have HBo := hide HBo
  have HE := hide h
  have HT := hide ht
  have HB := hide hb
  have HP := hide hp
  have HI := hide hi
  obtain ⟨n, hn⟩ : ∃ n, n = ch.length := ⟨_, rfl⟩
  have HN := hide hn
  rw [← hn] at c1 HBo
  clear hb h ht hp hi hn
  cases bit
  · go_enter Try.func46, Try.ntmps46
    go_upto_region 0 with fail
    go_quiet (first | (go_at_call 69; refine Calls.quiet_of_same (unhide HBo _)))
    have HE1 := hide ((unhide HE).drewN nq)
    have HD : Hid (Tch w (w.drewN nq) pb gc 0 ov ov) := hide ((Tch.refl w pb gc 0 ov).drewN nq)
    have hsz : (w.drewN nq).heap.size = w.heap.size := rfl
    obtain ⟨W1, hW1⟩ : ∃ W1, W1 = w.drewN nq := ⟨_, rfl⟩
    rw [← hW1] at HE1 HD hsz ⊢
    clear hW1 c1 c3
    have c3 := (unhide HE1).enc.rng
    have f3 := (unhide HE1).enc.free 3
    have h3 := (unhide HE1).enc.setField 3 (.int .u32 (b : Int)) ⟨low, b, kept, wait, out⟩ rfl rfl
    have h4 := (unhide HE1).step h3.1 h3.2
    have HE2 := hide h4.1
    have HD2 := hide ((unhide HD).trans h4.2)
    clear h3 h4
    go_upto_region 5 with fail
    obtain ⟨W2, hW2⟩ : ∃ W2, W2 = W1.setCell ⟨pb, 3, none⟩ (.int .u32 (b : Int)) := ⟨_, rfl⟩
    have hsz2 : W2.heap.size = w.heap.size := by rw [hW2]; simpa using hsz
    rw [← hW2] at HE2 HD2 ⊢
    clear hW2 c3 f3 HE1 HD hsz
    have k1 := (unhide HE2).enc.chs
    have HC := hide ((unhide HE2).learnt i false (unhide HI) (unhide HP))
    rw [← unhide HN] at k1 HC
    go_wp2_with fail
    refine (unhide HC).mono ?_
    rintro e w3 ⟨rfl, h5, h6, h7⟩
    have HE3 := hide h5
    have HD3 := hide ((unhide HD2).trans h6)
    have hsz3 : w3.heap.size = w.heap.size := h7.trans hsz2
    clear h5 h6 h7 HC k1
    go_wp2_with fail
    refine (pwiden_ok B pb _ _ ov _ (unhide HE3).enc ⟨(unhide HT).low, (unhide HT).kept, (unhide HT).wait⟩ (by simp only; omega) (by simp only; omega) (by omega)).mono ?_
    rintro e w5 ⟨rfl, ov5, h6, h7⟩
    have h8 := (unhide HE3).step h6 h7
    have HE4 := hide h8.1
    have HD4 := hide ((unhide HD3).trans h8.2)
    clear h6 h7 h8
    go_wp2_with fail
    go_end0
    refine ⟨rfl, ov5, ?_, unhide HD4⟩
    have h9 := unhide HE4
    rw [unhide HB] at h9
    exact h9
  · go_enter Try.func46, Try.ntmps46
    go_upto_region 0 with fail
    go_quiet (first | (go_at_call 69; refine Calls.quiet_of_same (unhide HBo _)))
    have HE1 := hide ((unhide HE).drewN nq)
    have HD : Hid (Tch w (w.drewN nq) pb gc 0 ov ov) := hide ((Tch.refl w pb gc 0 ov).drewN nq)
    have hsz : (w.drewN nq).heap.size = w.heap.size := rfl
    obtain ⟨W1, hW1⟩ : ∃ W1, W1 = w.drewN nq := ⟨_, rfl⟩
    rw [← hW1] at HE1 HD hsz ⊢
    clear hW1 c1 c3
    have c2 := (unhide HE1).enc.low
    have f2 := (unhide HE1).enc.free 2
    have c3 := (unhide HE1).enc.rng
    have f3 := (unhide HE1).enc.free 3
    have h3 := (unhide HE1).enc.setField 2 (.int .u64 ((low : Int) + (b : Int))) ⟨low + b, rng, kept, wait, out⟩ (by simp [pcells]) rfl
    have h4 := (unhide HE1).step h3.1 h3.2
    have h3' := h4.1.enc.setField 3 (.int .u32 ((rng : Int) - (b : Int))) ⟨low + b, rng - b, kept, wait, out⟩ (by simp [pcells]; omega) rfl
    have h4' := h4.1.step h3'.1 h3'.2
    have HE2 := hide h4'.1
    have HD2 := hide (((unhide HD).trans h4.2).trans h4'.2)
    have fl : ((low : Int) + (b : Int)) % 18446744073709551616 = (low : Int) + (b : Int) := by omega
    have fr : ((rng : Int) - (b : Int)) % 4294967296 = (rng : Int) - (b : Int) := by omega
    have fb : (b : Int) % 18446744073709551616 = (b : Int) := by omega
    clear h3 h4 h3' h4'
    go_upto_region 5 with fail
    obtain ⟨W2, hW2⟩ : ∃ W2, W2 = (W1.setCell ⟨pb, 2, none⟩ (.int .u64 ((low : Int) + (b : Int)))).setCell ⟨pb, 3, none⟩ (.int .u32 ((rng : Int) - (b : Int))) := ⟨_, rfl⟩
    have hsz2 : W2.heap.size = w.heap.size := by rw [hW2]; simpa using hsz
    rw [← hW2] at HE2 HD2 ⊢
    clear hW2 c3 f3 c2 f2 HE1 HD hsz
    have k1 := (unhide HE2).enc.chs
    have HC := hide ((unhide HE2).learnt i true (unhide HI) (unhide HP))
    rw [← unhide HN] at k1 HC
    go_wp2_with fail
    refine (unhide HC).mono ?_
    rintro e w3 ⟨rfl, h5, h6, h7⟩
    have HE3 := hide h5
    have HD3 := hide ((unhide HD2).trans h6)
    have hsz3 : w3.heap.size = w.heap.size := h7.trans hsz2
    clear h5 h6 h7 HC k1
    go_wp2_with fail
    refine (pwiden_ok B pb _ _ ov _ (unhide HE3).enc ⟨by simp only; omega, (unhide HT).kept, (unhide HT).wait⟩ (by simp only; omega) (by simp only; omega) (by omega)).mono ?_
    rintro e w5 ⟨rfl, ov5, h6, h7⟩
    have h8 := (unhide HE3).step h6 h7
    have HE4 := hide h8.1
    have HD4 := hide ((unhide HD3).trans h8.2)
    clear h6 h7 h8
    go_wp2_with fail
    go_end0
    refine ⟨rfl, ov5, ?_, unhide HD4⟩
    have h9 := unhide HE4
    rw [unhide HB] at h9
    exact h9

set_option maxHeartbeats 4000000 in
theorem pdir_ok (B pb gc : Nat) (w : World) (ov : Value) (c : Enc) (ch : List Nat) (bit : Bool) (h : PC B w pb gc ov c ch) (ht : PTame c) (hlr : c.low + c.rng ≤ 8589934592) (h1 : 16777216 ≤ c.rng) (h2 : c.rng < 4294967296) (hB : B ≤ w.heap.size) :
    Calls Try.prog 51 #[.pointer (some ⟨pb, 0, none⟩), .int .i64 (bit.toNat : Int)] w fun e w' => e = .returned (.tuple #[]) ∧ ∃ ov', PC B w' pb gc ov' (dirE c bit) ch ∧ Tch w w' pb gc 0 ov ov' := by
  obtain ⟨low, rng, kept, wait, out⟩ := c
  simp only at h1 h2 hlr
  obtain ⟨b, hb⟩ : ∃ b, b = rng / 2 := ⟨_, rfl⟩
  have fb : (rng : Int) / 2 = (b : Int) := by omega
  have hb1 : 8388608 ≤ b := by omega
  have hb2 : b < 4294967296 := by omega
  have hb3 : low + b + b ≤ 8589934592 := by omega
  have HB := hide hb
  have HE := hide h
  have HT := hide ht
  have c3 := h.enc.rng
  have f3 := h.enc.free 3
  have h3 := h.enc.setField 3 (.int .u32 (b : Int)) ⟨low, b, kept, wait, out⟩ rfl rfl
  have h4 := h.step h3.1 h3.2
  have HE2 := hide h4.1
  have HD2 := hide h4.2
  clear hb h ht h3 h4
  cases bit
  · go_enter Try.func51, Try.ntmps51
    go_upto_region 3 with fail
    obtain ⟨W2, hW2⟩ : ∃ W2, W2 = w.setCell ⟨pb, 3, none⟩ (.int .u32 (b : Int)) := ⟨_, rfl⟩
    have hsz2 : W2.heap.size = w.heap.size := by rw [hW2]; simp
    rw [← hW2] at HE2 HD2 ⊢
    clear hW2 c3 f3
    go_wp2_with fail
    refine (pwiden_ok B pb _ _ ov _ (unhide HE2).enc ⟨(unhide HT).low, (unhide HT).kept, (unhide HT).wait⟩ (by simp only; omega) (by simp only; omega) (by omega)).mono ?_
    rintro e w5 ⟨rfl, ov5, h6, h7⟩
    have h8 := (unhide HE2).step h6 h7
    have HE4 := hide h8.1
    have HD4 := hide ((unhide HD2).trans h8.2)
    clear h6 h7 h8
    go_wp2_with fail
    go_end0
    refine ⟨rfl, ov5, ?_, unhide HD4⟩
    have h9 := unhide HE4
    rw [unhide HB] at h9
    exact h9
  · go_enter Try.func51, Try.ntmps51
    go_upto_region 2 with fail
    obtain ⟨W2, hW2⟩ : ∃ W2, W2 = w.setCell ⟨pb, 3, none⟩ (.int .u32 (b : Int)) := ⟨_, rfl⟩
    have hsz2 : W2.heap.size = w.heap.size := by rw [hW2]; simp
    rw [← hW2] at HE2 HD2 ⊢
    clear hW2 c3 f3
    have c2 : W2.drew.cell? ⟨pb, 2, none⟩ = some (.int .u64 (low : Int)) := (unhide HE2).enc.low
    have c3 : W2.drew.cell? ⟨pb, 3, none⟩ = some (.int .u32 (b : Int)) := (unhide HE2).enc.rng
    have f2 : W2.drew.frozen? ⟨pb, 2, none⟩ = false := (unhide HE2).enc.free 2
    have fl : ((low : Int) + (b : Int)) % 18446744073709551616 = (low : Int) + (b : Int) := by omega
    have fl2 : IntKind.u64.wrap ((low : Int) + (b : Int)) = (low : Int) + (b : Int) := by rw [IntKind.wrap_u64]; omega
    have fb1 : (b : Int) % 18446744073709551616 = (b : Int) := by omega
    have fb2 : IntKind.u64.wrap (b : Int) = (b : Int) := by rw [IntKind.wrap_u64]; omega
    have h3 := ((unhide HE2).drewN 1).enc.setField 2 (.int .u64 ((low : Int) + (b : Int))) ⟨low + b, b, kept, wait, out⟩ (by simp [pcells]) rfl
    have h4 := ((unhide HE2).drewN 1).step h3.1 h3.2
    have HE3 := hide h4.1
    have HD3 := hide (((unhide HD2).drewN 1).trans h4.2)
    clear h3 h4
    refine wp_tail 12 (by kernel_rfl) (by kernel_rfl) ?_
    simp only [List.take_succ_cons, List.take_zero, List.drop_succ_cons, List.drop_zero]
    repeat still_step
    try refine wpStill_nil ?_
    go_wp2_with fail
    refine (pwiden_ok B pb _ _ ov _ (unhide HE3).enc ⟨by simp only; omega, (unhide HT).kept, (unhide HT).wait⟩ (by simp only; omega) (by simp only; omega) (by rw [size_set]; omega)).mono ?_
    rintro e w5 ⟨rfl, ov5, h6, h7⟩
    have h8 := (unhide HE3).step h6 h7
    have HE4 := hide h8.1
    have HD4 := hide ((unhide HD3).trans h8.2)
    clear h6 h7 h8
    go_wp2_with fail
    go_end0
    refine ⟨rfl, ov5, ?_, unhide HD4⟩
    have h9 := unhide HE4
    rw [unhide HB] at h9
    exact h9
end Go.Proofs.Ytbolhbjipmndeaa.D
