/- A decoder's get. -/
import Derived.Test.YtbolhbjipmndeaaDDe
namespace Go.Proofs.Ytbolhbjipmndeaa.D
open Go.RowKit Rang
set_option maxRecDepth 100000
set_option linter.unusedVariables false
attribute [local go_sem ↓] Go.wp_at_zero Go.wp_at_succ

theorem get_over (w : World) (pb gc cc : Nat) (ba : Option Addr) (bc : Nat) (Bs : List Nat) (d : Dec) (ch : List Nat) (i : Int) (h : DAt w pb gc cc ba bc Bs d ch) (h5 : d.over = true) :
    Calls Try.prog 63 #[.pointer (some ⟨pb, 0, none⟩), .int .i64 i] w fun e w' => e = .returned (.int .i64 0) ∧ w' = w := by
  have c5 := h.over
  rw [h5] at c5
  clear h h5
  go_enter Try.func63, Try.ntmps63
  go_wp2_with fail
  go_ret
  exact ⟨rfl, rfl⟩

theorem told_ok (w : World) (pb gc cc : Nat) (ba : Option Addr) (bc : Nat) (Bs : List Nat) (d : Dec) (ch : List Nat) (v : Int) (h : DAt w pb gc cc ba bc Bs d ch) :
    Calls Try.prog 62 #[.pointer (some ⟨pb, 0, none⟩), .int .i64 v] w fun e w' => e = .returned (.tuple #[.int .i64 (if d.over then 0 else v), .int .i64 (if d.over then 10 else 0)]) ∧ w' = w := by
  have c5 := h.over
  obtain ⟨code, rng, at_, over⟩ := d
  simp only at c5
  clear h
  cases over
  · go_enter Try.func62, Try.ntmps62
    go_wp2_with fail
    go_ret2
    exact ⟨rfl, rfl⟩
  · go_enter Try.func62, Try.ntmps62
    go_wp2_with fail
    go_ret2
    exact ⟨rfl, rfl⟩

/-- the chances behind a get -/
def gotCh (ch : List Nat) (i p : Nat) (x : Bool × Dec) : List Nat := if x.2.over then ch else ch.set i (after p x.1)

theorem set_set_back (ch : List Nat) (i x : Nat) (h : i < ch.length) : (ch.set i x).set i (ch.getD i 0) = ch := by
  rw [List.set_set]
  apply List.ext_getElem?
  intro k
  by_cases hk : i = k
  · subst hk
    rw [List.getElem?_set_self h, List.getD_eq_getElem?_getD, List.getElem?_eq_getElem h]
    rfl
  · rw [List.getElem?_set_ne hk]

set_option maxHeartbeats 8000000 in
theorem get_ok (w : World) (pb gc cc : Nat) (ba : Option Addr) (bc : Nat) (Bs : List Nat) (d : Dec) (ch : List Nat) (i : Nat) (h : DAt w pb gc cc ba bc Bs d ch) (hi : i < ch.length) (hp : 31 ≤ ch.getD i 0 ∧ ch.getD i 0 ≤ 2017) (h1 : 16777216 ≤ d.rng) (h2 : d.rng < 4294967296) (h3 : d.code < 4294967296) (h4 : d.at_ ≤ Bs.length) (h5 : d.over = false) (hB : Bs.length ≤ 140737488355328) :
    Calls Try.prog 63 #[.pointer (some ⟨pb, 0, none⟩), .int .i64 (i : Int)] w fun e w' => e = .returned (.int .i64 ((getD Bs d (ch.getD i 0)).1.toNat : Int)) ∧ DAt w' pb gc cc ba bc Bs (getD Bs d (ch.getD i 0)).2 (gotCh ch i (ch.getD i 0) (getD Bs d (ch.getD i 0))) ∧ DT w w' pb gc cc := by
  have hs := chance_split h1 hp
  obtain ⟨code, rng, at_, over⟩ := d
  simp only at h1 h2 h3 h4 h5 hs
  subst h5
  obtain ⟨p, hpp⟩ : ∃ p, p = ch.getD i 0 := ⟨_, rfl⟩
  have cp := h.chs.cell i hi
  rw [← hpp] at hp hs cp ⊢
  have c0 : ∀ q, (w.drewN q).cell? ⟨pb, 0, none⟩ = some (.slice (some ⟨gc, 0, none⟩) ch.length cc) := fun q => h.chv
  have c2 : ∀ q, (w.drewN q).cell? ⟨pb, 1, none⟩ = some (.int .u64 (rng : Int)) := fun q => h.rng
  have cp : ∀ q, (w.drewN q).cell? ⟨gc, i, none⟩ = some (.int .i64 (p : Int)) := fun q => cp
  have c5 : w.cell? ⟨pb, 5, none⟩ = some (.bool false) := h.over
  have HE := hide h
  obtain ⟨b, hb⟩ : ∃ b, b = rng / 2048 * p := ⟨_, rfl⟩
  obtain ⟨q, hq⟩ : ∃ q, q = rng / 2048 := ⟨_, rfl⟩
  have fq : (rng : Int) / 2048 = (q : Int) := by omega
  have fb : (q : Int) * (p : Int) = (b : Int) := by rw [hb, ← hq]; simp
  rw [← hb] at hs
  have fq2 : IntKind.u64.wrap (q : Int) = (q : Int) := IntWalk.u64_in _ (by omega)
  have fb2 : IntKind.u64.wrap (b : Int) = (b : Int) := IntWalk.u64_in _ (by omega)
  have fp2 : IntKind.u64.wrap (p : Int) = (p : Int) := IntWalk.u64_in _ (by omega)
  have fm : (p : Int) % 18446744073709551616 = (p : Int) := by omega
  have fbm : (b : Int) % 18446744073709551616 = (b : Int) := by omega
  obtain ⟨n, hn⟩ : ∃ n, n = ch.length := ⟨_, rfl⟩
  have HN := hide hn
  rw [← hn] at c0 hi
  have ti : (i : Int) < (n : Int) := by omega
  have HG : Hid (getD Bs ⟨code, rng, at_, false⟩ p = if code < b then (false, settleD Bs ⟨code, b, at_, false⟩) else (true, settleD Bs ⟨code - b, rng - b, at_, false⟩)) := hide (by unfold getD; rw [hb])
  have HPP := hide hpp
  clear hq hb hpp hn h
  by_cases hcb : code < b
  · have HG1 : Hid (getD Bs ⟨code, rng, at_, false⟩ p = (false, settleD Bs ⟨code, b, at_, false⟩)) := hide (by rw [unhide HG, if_pos hcb])
    have tcb : (code : Int) < (b : Int) := by omega
    go_enter Try.func63, Try.ntmps63
    go_upto_region 2 with fail
    go_quiet (fail)
    have HE1 := hide ((unhide HE).drewN nq)
    have HD : Hid (DT w (w.drewN nq) pb gc cc) := hide ((DT.refl w pb gc cc).drewN nq)
    obtain ⟨W1, hW1⟩ : ∃ W1, W1 = w.drewN nq := ⟨_, rfl⟩
    rw [← hW1] at HE1 HD ⊢
    clear hW1 c0 c2 cp c5
    have c2 := (unhide HE1).rng
    have c3 := (unhide HE1).code
    have f2 := (unhide HE1).free 1
    have h3' := (unhide HE1).setField 1 (.int .u64 (b : Int)) ⟨code, b, at_, false⟩ rfl
    have HE2 := hide h3'.1
    have HD2 := hide ((unhide HD).trans h3'.2)
    have k0 : (W1.setCell ⟨pb, 1, none⟩ (.int .u64 (b : Int))).cell? ⟨pb, 0, none⟩ = some (.slice (some ⟨gc, 0, none⟩) n cc) := by rw [unhide HN]; exact (unhide HE2).chv
    have kp : (W1.setCell ⟨pb, 1, none⟩ (.int .u64 (b : Int))).cell? ⟨gc, i, none⟩ = some (.int .i64 (p : Int)) := by rw [unhide HPP]; exact (unhide HE2).chs.cell i (by rw [← unhide HN]; exact hi)
    have k0' : ∀ q, ((W1.setCell ⟨pb, 1, none⟩ (.int .u64 (b : Int))).drewN q).cell? ⟨pb, 0, none⟩ = some (.slice (some ⟨gc, 0, none⟩) n cc) := fun q => k0
    have kp' : ∀ q, ((W1.setCell ⟨pb, 1, none⟩ (.int .u64 (b : Int))).drewN q).cell? ⟨gc, i, none⟩ = some (.int .i64 (p : Int)) := fun q => kp
    clear h3'
    go_wp2_with fail
    obtain ⟨W2, hW2⟩ : ∃ W2, W2 = W1.setCell ⟨pb, 1, none⟩ (.int .u64 (b : Int)) := ⟨_, rfl⟩
    rw [← hW2] at HE2 HD2 ⊢
    clear hW2 c2 c3 f2 HE1 HD k0 kp k0' kp'
    have k0 : W2.drew.cell? ⟨pb, 0, none⟩ = some (.slice (some ⟨gc, 0, none⟩) n cc) := by rw [unhide HN]; exact (unhide HE2).chv
    have kp : W2.drew.cell? ⟨gc, i, none⟩ = some (.int .i64 (p : Int)) := by rw [unhide HPP]; exact (unhide HE2).chs.cell i (by rw [← unhide HN]; exact hi)
    have kf : W2.drew.frozen? ⟨gc, i, none⟩ = false := (unhide HE2).chs.free i
    refine wp_tail 9 (by kernel_rfl) (by kernel_rfl) ?_
    simp only [List.take_succ_cons, List.take_zero, List.drop_succ_cons, List.drop_zero]
    repeat (first | still_call (after_ok' p false _ (by omega)) | still_step)
    try refine wpStill_nil ?_
    have h5' := ((unhide HE2).drewN 1).setCh i (after p false)
    have HE3 := hide h5'.1
    have HD3 := hide (((unhide HD2).drewN 1).trans h5'.2)
    clear h5'
    go_wp2_with fail
    refine (dsettle_ok _ pb gc cc ba bc Bs _ _ (unhide HE3) (by simp only; omega) (by simp only; omega) (by simp only; omega) (by simp only; omega) rfl hB).mono ?_
    rintro e w5 ⟨rfl, h6, h7⟩
    have HS5 : Hid (DT w w5 pb gc cc) := hide ((unhide HD3).trans h7)
    obtain ⟨D, hD⟩ : ∃ D, D = settleD Bs ⟨code, b, at_, false⟩ := ⟨_, rfl⟩
    rw [← hD] at h6 HG1
    obtain ⟨dc, dr, da, dov⟩ := D
    have c5 : w5.cell? ⟨pb, 5, none⟩ = some (.bool dov) := h6.over
    have HE5 := hide h6
    clear h6 h7 hD
    cases dov
    · go_wp2_with fail
      go_ret
      rw [unhide HG1]
      exact ⟨rfl, unhide HE5, unhide HS5⟩
    · have k0 : w5.cell? ⟨pb, 0, none⟩ = some (.slice (some ⟨gc, 0, none⟩) n cc) := by rw [unhide HN]; have := (unhide HE5).chv; rw [List.length_set] at this; exact this
      obtain ⟨v5, k1⟩ : ∃ v5 : Nat, w5.cell? ⟨gc, i, none⟩ = some (.int .i64 (v5 : Int)) := ⟨_, (unhide HE5).chs.cell i (by rw [List.length_set, ← unhide HN]; exact hi)⟩
      have kf5 : w5.frozen? ⟨gc, i, none⟩ = false := (unhide HE5).chs.free i
      have h8 := (unhide HE5).setCh i p
      rw [show (ch.set i (after p false)).set i p = ch from by rw [unhide HPP]; exact set_set_back ch i _ (by rw [← unhide HN]; exact hi)] at h8
      have H8 := hide h8.1
      have H9 := hide ((unhide HS5).trans h8.2)
      clear h8
      go_wp2_with fail
      go_ret
      rw [unhide HG1]
      exact ⟨rfl, unhide H8, unhide H9⟩
  · have HG1 : Hid (getD Bs ⟨code, rng, at_, false⟩ p = (true, settleD Bs ⟨code - b, rng - b, at_, false⟩)) := hide (by rw [unhide HG, if_neg hcb])
    have tcb : decide ((code : Int) < (b : Int)) = false := decide_eq_false (by omega)
    have fl : ((code : Int) - (b : Int)) % 18446744073709551616 = (code : Int) - (b : Int) := by omega
    have fr : ((rng : Int) - (b : Int)) % 18446744073709551616 = (rng : Int) - (b : Int) := by omega
    go_enter Try.func63, Try.ntmps63
    go_upto_region 2 with fail
    go_quiet (fail)
    have HE1 := hide ((unhide HE).drewN nq)
    have HD : Hid (DT w (w.drewN nq) pb gc cc) := hide ((DT.refl w pb gc cc).drewN nq)
    obtain ⟨W1, hW1⟩ : ∃ W1, W1 = w.drewN nq := ⟨_, rfl⟩
    rw [← hW1] at HE1 HD ⊢
    clear hW1 c0 c2 cp c5
    have c2 := (unhide HE1).rng
    have c3 := (unhide HE1).code
    have f2 := (unhide HE1).free 1
    have f3 := (unhide HE1).free 2
    have h4' := (unhide HE1).setField 2 (.int .u64 ((code : Int) - (b : Int))) ⟨code - b, rng, at_, false⟩ (by simp [dcells]; omega)
    have g2 := h4'.1.rng
    have g3 := h4'.1.free 1
    have h3' := h4'.1.setField 1 (.int .u64 ((rng : Int) - (b : Int))) ⟨code - b, rng - b, at_, false⟩ (by simp [dcells]; omega)
    have HE2 := hide h3'.1
    have HD2 := hide (((unhide HD).trans h4'.2).trans h3'.2)
    clear h4'
    have k0 : ((W1.setCell ⟨pb, 2, none⟩ (.int .u64 ((code : Int) - (b : Int)))).setCell ⟨pb, 1, none⟩ (.int .u64 ((rng : Int) - (b : Int)))).cell? ⟨pb, 0, none⟩ = some (.slice (some ⟨gc, 0, none⟩) n cc) := by rw [unhide HN]; exact (unhide HE2).chv
    have kp : ((W1.setCell ⟨pb, 2, none⟩ (.int .u64 ((code : Int) - (b : Int)))).setCell ⟨pb, 1, none⟩ (.int .u64 ((rng : Int) - (b : Int)))).cell? ⟨gc, i, none⟩ = some (.int .i64 (p : Int)) := by rw [unhide HPP]; exact (unhide HE2).chs.cell i (by rw [← unhide HN]; exact hi)
    have k0' : ∀ q, (((W1.setCell ⟨pb, 2, none⟩ (.int .u64 ((code : Int) - (b : Int)))).setCell ⟨pb, 1, none⟩ (.int .u64 ((rng : Int) - (b : Int)))).drewN q).cell? ⟨pb, 0, none⟩ = some (.slice (some ⟨gc, 0, none⟩) n cc) := fun q => k0
    have kp' : ∀ q, (((W1.setCell ⟨pb, 2, none⟩ (.int .u64 ((code : Int) - (b : Int)))).setCell ⟨pb, 1, none⟩ (.int .u64 ((rng : Int) - (b : Int)))).drewN q).cell? ⟨gc, i, none⟩ = some (.int .i64 (p : Int)) := fun q => kp
    clear h3'
    go_wp2_with fail
    obtain ⟨W2, hW2⟩ : ∃ W2, W2 = ((W1.setCell ⟨pb, 2, none⟩ (.int .u64 ((code : Int) - (b : Int)))).setCell ⟨pb, 1, none⟩ (.int .u64 ((rng : Int) - (b : Int)))) := ⟨_, rfl⟩
    rw [← hW2] at HE2 HD2 ⊢
    clear hW2 c2 c3 f2 f3 g2 g3 HE1 HD k0 kp k0' kp'
    have k0 : W2.drew.cell? ⟨pb, 0, none⟩ = some (.slice (some ⟨gc, 0, none⟩) n cc) := by rw [unhide HN]; exact (unhide HE2).chv
    have kp : W2.drew.cell? ⟨gc, i, none⟩ = some (.int .i64 (p : Int)) := by rw [unhide HPP]; exact (unhide HE2).chs.cell i (by rw [← unhide HN]; exact hi)
    have kf : W2.drew.frozen? ⟨gc, i, none⟩ = false := (unhide HE2).chs.free i
    refine wp_tail 9 (by kernel_rfl) (by kernel_rfl) ?_
    simp only [List.take_succ_cons, List.take_zero, List.drop_succ_cons, List.drop_zero]
    repeat (first | still_call (after_ok' p true _ (by omega)) | still_step)
    try refine wpStill_nil ?_
    have h5' := ((unhide HE2).drewN 1).setCh i (after p true)
    have HE3 := hide h5'.1
    have HD3 := hide (((unhide HD2).drewN 1).trans h5'.2)
    clear h5'
    go_wp2_with fail
    refine (dsettle_ok _ pb gc cc ba bc Bs _ _ (unhide HE3) (by simp only; omega) (by simp only; omega) (by simp only; omega) (by simp only; omega) rfl hB).mono ?_
    rintro e w5 ⟨rfl, h6, h7⟩
    have HS5 : Hid (DT w w5 pb gc cc) := hide ((unhide HD3).trans h7)
    obtain ⟨D, hD⟩ : ∃ D, D = settleD Bs ⟨code - b, rng - b, at_, false⟩ := ⟨_, rfl⟩
    rw [← hD] at h6 HG1
    obtain ⟨dc, dr, da, dov⟩ := D
    have c5 : w5.cell? ⟨pb, 5, none⟩ = some (.bool dov) := h6.over
    have HE5 := hide h6
    clear h6 h7 hD
    cases dov
    · go_wp2_with fail
      go_ret
      rw [unhide HG1]
      exact ⟨rfl, unhide HE5, unhide HS5⟩
    · have k0 : w5.cell? ⟨pb, 0, none⟩ = some (.slice (some ⟨gc, 0, none⟩) n cc) := by rw [unhide HN]; have := (unhide HE5).chv; rw [List.length_set] at this; exact this
      obtain ⟨v5, k1⟩ : ∃ v5 : Nat, w5.cell? ⟨gc, i, none⟩ = some (.int .i64 (v5 : Int)) := ⟨_, (unhide HE5).chs.cell i (by rw [List.length_set, ← unhide HN]; exact hi)⟩
      have kf5 : w5.frozen? ⟨gc, i, none⟩ = false := (unhide HE5).chs.free i
      have h8 := (unhide HE5).setCh i p
      rw [show (ch.set i (after p true)).set i p = ch from by rw [unhide HPP]; exact set_set_back ch i _ (by rw [← unhide HN]; exact hi)] at h8
      have H8 := hide h8.1
      have H9 := hide ((unhide HS5).trans h8.2)
      clear h8
      go_wp2_with fail
      go_ret
      rw [unhide HG1]
      exact ⟨rfl, unhide H8, unhide H9⟩
end Go.Proofs.Ytbolhbjipmndeaa.D
