/- A block by the fixed code. -/
import Derived.Test.YtppbnodgnphaaaaBlk
namespace Go.Proofs.Ytppbnodgnphaaaa
open Go.RowKit Mth Infl
set_option maxRecDepth 100000
set_option linter.unusedVariables false

section
variable {rb rp : Nat} {v v1 : Value} {w w1 w' : World} {B g p q most : Nat} {zs out : List Nat} {sv dv : Value}

set_option maxHeartbeats 2000000 in
theorem fixedBlock_there {cs cd : Nat} (h : RAt w B rb rp g zs p v out most (.pointer (some ⟨cs, 0, none⟩)) (.pointer (some ⟨cd, 0, none⟩))) (c1 : COk fixedL w B cs v) (c2 : COk fixedD w B cd v) (hz : zs.length ≤ 140737488355328) (hm : most ≤ 268435456) :
    Calls Try.prog 38 #[.pointer (some ⟨rb, 0, none⟩)] w fun e w' => ∃ F, BlkIs (toks gg fixedL fixedD most F out (Infl.bitsOf zs) p) w B rb rp g zs v most e w' := by
  have k3 := h.c3
  have hd : Chg rb rp v w v w.drew := (Chg.refl _ _ _ _).drewN 1
  have r1 : RAt w.drew B rb rp g zs p v out most (.pointer (some ⟨cs, 0, none⟩)) (.pointer (some ⟨cd, 0, none⟩)) := h.drewN 1
  have HT := hide (tokens_ok r1 hz hm (c1.chg hd h.lb h.lp) (by rw [fixedL_len]; decide) (c2.chg hd h.lb h.lp) (by rw [fixedD_len]; decide))
  have HB : Hid (∀ F e w', Did (toks gg fixedL fixedD most F out (Infl.bitsOf zs) p) w.drew B rb rp g zs v most (.pointer (some ⟨cs, 0, none⟩)) (.pointer (some ⟨cd, 0, none⟩)) e w' → BlkIs (toks gg fixedL fixedD most F out (Infl.bitsOf zs) p) w B rb rp g zs v most e w') := hide fun F e w' hdid => hdid.blk hd (.inr ⟨cs, cd, rfl, rfl, c1.chg hd h.lb h.lp, c2.chg hd h.lb h.lp⟩)
  have j3 := r1.c3
  have j4 := r1.c4
  clear h c1 c2 hd r1
  go_enter Try.func38, Try.ntmps38
  go_wp2_with fail
  refine wp_tail 9 (by kernel_rfl) (by kernel_rfl) ?_
  simp only [List.take_succ_cons, List.take_zero, List.drop_succ_cons, List.drop_zero]
  repeat still_step
  try refine wpStill_nil ?_
  go_wp2_with fail
  refine (unhide HT).mono ?_
  rintro e w2 ⟨F, hd⟩
  have HE := hide (unhide HB F e w2 hd)
  rcases hd with ⟨v', o, q, _, rfl, _, _⟩ | ⟨b, v', _, _, _, rfl, _⟩
  · go_wp2_with fail
    go_ret
    exact ⟨F, unhide HE⟩
  · go_wp2_with fail
    go_ret
    exact ⟨F, unhide HE⟩

set_option maxHeartbeats 2000000 in
theorem fixedBlock_new (h : RAt w B rb rp g zs p v out most (.pointer none) dv) (hz : zs.length ≤ 140737488355328) (hm : most ≤ 268435456) :
    Calls Try.prog 38 #[.pointer (some ⟨rb, 0, none⟩)] w fun e w' => ∃ F, BlkIs (toks gg fixedL fixedD most F out (Infl.bitsOf zs) p) w B rb rp g zs v most e w' := by
  have k3 := h.c3
  have HR := hide h
  clear h
  go_enter Try.func38, Try.ntmps38
  go_wp2_with fail
  refine (fixed_ok _).mono ?_
  rintro e w1 ⟨rfl, a1, b1⟩
  have A1 := hide a1
  have B1 := hide b1
  clear a1 b1
  go_wp2_with fail
  refine (fives_ok _).mono ?_
  rintro e w2 ⟨rfl, a2, b2⟩
  have HB2 : Hid (Below w.heap.size w w2) := hide ((unhide B1).trans (b2.mono (unhide B1).size))
  have HN := hide (codesOf_ok fixedL fixedD _ _ w2 ((ints_reads (unhide A1) fixedL fixedL_is).stays b2) (ints_reads a2 fixedD (by decide)) (by rw [fixedL_len]; decide) (by rw [fixedD_len]; decide) fixedL_le fixedD_le)
  clear a2 b2 A1 B1
  go_wp2_with fail
  refine (unhide HN).mono ?_
  rintro e w3 ⟨hb, ⟨cs, cd, e1, e2, rfl, c1, c2⟩ | ⟨hce, rfl⟩⟩
  · have r2 := (unhide HR).below (unhide HB2)
    have r3 := r2.below hb
    have hd3 : Chg rb rp v w v w3 := Chg.of_below _ _ _ ((unhide HB2).trans (hb.mono (unhide HB2).size))
    have hc1 : COk fixedL w3 B cs v := COk.new r2 c1
    have hc2 : COk fixedD w3 B cd v := COk.new r2 c2
    have r4 := r3.codes (.pointer (some ⟨cs, 0, none⟩)) (.pointer (some ⟨cd, 0, none⟩))
    have hd4 := (Chg.refl rb rp v w3).codes (.pointer (some ⟨cs, 0, none⟩)) (.pointer (some ⟨cd, 0, none⟩))
    have f3 := r3.fz 3
    have f4 := r3.fz 4
    have k3' := r3.c3
    have k4' := r3.c4
    have HR4 := hide r4
    have HD4 := hide (hd3.trans hd4)
    have HC1 := hide (hc1.chg hd4 r3.lb r3.lp)
    have HC2 := hide (hc2.chg hd4 r3.lb r3.lp)
    clear r2 r3 hd3 hc1 hc2 r4 hd4 hb e1 e2 c1 c2 HN HB2 HR k3
    go_upto_region 5 with fail
    clear f3 f4 k3' k4'
    generalize (w3.setCell ⟨rb, 3, none⟩ (.pointer (some ⟨cs, 0, none⟩))).setCell ⟨rb, 4, none⟩ (.pointer (some ⟨cd, 0, none⟩)) = w4 at HR4 HD4 HC1 HC2 ⊢
    have hd : Chg rb rp v w4 v w4.drew := (Chg.refl _ _ _ _).drewN 1
    have r5 : RAt w4.drew B rb rp g zs p v out most (.pointer (some ⟨cs, 0, none⟩)) (.pointer (some ⟨cd, 0, none⟩)) := (unhide HR4).drewN 1
    have HT := hide (tokens_ok r5 hz hm ((unhide HC1).chg hd r5.lb r5.lp) (by rw [fixedL_len]; decide) ((unhide HC2).chg hd r5.lb r5.lp) (by rw [fixedD_len]; decide))
    have HB : Hid (∀ F e w', Did (toks gg fixedL fixedD most F out (Infl.bitsOf zs) p) w4.drew B rb rp g zs v most (.pointer (some ⟨cs, 0, none⟩)) (.pointer (some ⟨cd, 0, none⟩)) e w' → BlkIs (toks gg fixedL fixedD most F out (Infl.bitsOf zs) p) w B rb rp g zs v most e w') := hide fun F e w' hdid => hdid.blk ((unhide HD4).trans hd) (.inr ⟨cs, cd, rfl, rfl, (unhide HC1).chg hd r5.lb r5.lp, (unhide HC2).chg hd r5.lb r5.lp⟩)
    have j3 := r5.c3
    have j4 := r5.c4
    clear r5 hd HR4 HD4 HC1 HC2
    refine wp_tail 9 (by kernel_rfl) (by kernel_rfl) ?_
    simp only [List.take_succ_cons, List.take_zero, List.drop_succ_cons, List.drop_zero]
    repeat still_step
    try refine wpStill_nil ?_
    go_wp2_with fail
    refine (unhide HT).mono ?_
    rintro e w5 ⟨F, hd⟩
    have HE := hide (unhide HB F e w5 hd)
    rcases hd with ⟨v', o, q, _, rfl, _, _⟩ | ⟨b, v', _, _, _, rfl, _⟩
    · go_wp2_with fail
      go_ret
      exact ⟨F, unhide HE⟩
    · go_wp2_with fail
      go_ret
      exact ⟨F, unhide HE⟩
  · exfalso
    rcases hce with hce | ⟨_, hce⟩
    · rw [ce_fixedL] at hce; cases hce
    · rw [ce_fixedD] at hce; cases hce

theorem fixedBlock_ok (h : RAt w B rb rp g zs p v out most sv dv) (hf : FixOk w B v sv dv) (hz : zs.length ≤ 140737488355328) (hm : most ≤ 268435456) :
    Calls Try.prog 38 #[.pointer (some ⟨rb, 0, none⟩)] w fun e w' => ∃ F, BlkIs (toks gg fixedL fixedD most F out (Infl.bitsOf zs) p) w B rb rp g zs v most e w' := by
  rcases hf with rfl | ⟨cs, cd, rfl, rfl, c1, c2⟩
  · exact fixedBlock_new h hz hm
  · exact fixedBlock_there h c1 c2 hz hm
end
end Go.Proofs.Ytppbnodgnphaaaa
