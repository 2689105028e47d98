/- The law SuffixTurns, walked. -/
import Derived.Test.YtpemgjcgcmleiaaTn
import Derived.Test.YtpemgjcgcmleiaaIn
namespace Go.Proofs.Ytpemgjcgcmleiaa
open Go.RowKit Suf
set_option maxRecDepth 100000
set_option linter.unusedVariables false

set_option maxHeartbeats 8000000 in
theorem turns_law (ba : Option Addr) (bcap : Nat) (zs : List Nat) (w : World)
    (hr : (ba = none ∧ bcap = 0 ∧ zs = []) ∨ ∃ ad, ba = some ad ∧ ∀ (j : Nat) u, (zs.map bv)[j]? = some u → w.cell? (ad.add j) = some u) (hs : ∀ z ∈ zs, z < 256) (hl : zs.length ≤ 140737488351232) (hcap : zs.length ≤ bcap) :
    Calls Try.prog 3 #[.slice ba zs.length bcap] w fun e w' => e = .returned (.bool true) ∧ Below w.heap.size w w' := by
  obtain ⟨i0, hi, hz0, hz1, hz2⟩ := info_parts info5
  have HR := hide (reads_of hr)
  have HSRC := hide hr
  have HSM := hide hs
  have HLN : Hid (zs.length ≤ 140737488355328) := hide (by omega)
  clear hr hs
  go_enter Try.func3, Try.ntmps3
  go_upto_region 1 with fail
  go_cut [3] (fun v7 wc => wc.ownsRow w.heap.size 5 1 v7 (zs.length + 1) ((zs ++ [90]).map bv) ∧ Below w.heap.size w wc)
  case first =>
    rcases unhide HSRC with ⟨rfl, rfl, rfl⟩ | ⟨ad, rfl, hcell⟩
    · have HN0 : Hid (∀ (j : Nat) u, [bv 90][j]? = some u → ((w.alloc (.cells #[] 5)).alloc (.cells #[bv 90] 5)).cell? ((⟨w.heap.size + 1, 0, none⟩ : Addr).add j) = some u) := hide (by have := news_one (w := w.alloc (.cells #[] 5)) (bv 90) 5; simpa using this)
      go_wp2_with (at_builtin; first | (refine wpList_append_own_none rfl (.tmp 19) (.tmp 20) 22 rfl w.heap.size 5 i0 1 Try.underlying22 hi _ 0 [] (by rfl) (World.ownsRow_made w #[] 0 (Nat.le_refl _) (by unfold maxLen; omega) rfl) (by rfl) ?_) | (refine wpList_append_own _ rfl (.tmp 21) (.tmp 22) 22 rfl w.heap.size 5 i0 (.int .u8 0) 1 1 Try.underlying22 hi hz0 hz1 hz2 rfl (by decide) _ 0 [] (by rfl) ((World.ownsRow_made w #[] 0 (Nat.le_refl _) (by unfold maxLen; omega) rfl).alloc _) ⟨w.heap.size + 1, 0, none⟩ 1 1 [bv 90] (by rfl) rfl (by exact unhide HN0) (by intro u hu; simp at hu; subst hu; rfl) (by unfold maxLen; omega) (by omega) (by simp; omega) ?_; intro v' w1 hown' hgrow _; have HO' := hide hown'; have HG := hide hgrow; clear hown' hgrow))
      go_meet
      exact ⟨by simpa using unhide HO', (((Below.refl _ _).alloc (Nat.le_refl _) _).alloc (by simp) _).grown (unhide HG) (by simp; omega) (fun k e => by simp [Value.ownBlock] at e; omega)⟩
    · have HC := hide hcell
      clear hcell
      go_wp2_with (at_builtin; first | (refine wpList_append_own _ rfl (.tmp 19) (.tmp 20) 22 rfl w.heap.size 5 i0 (.int .u8 0) 1 1 Try.underlying22 hi hz0 hz1 hz2 rfl (by decide) _ 0 [] (by rfl) (World.ownsRow_made w #[] 0 (Nat.le_refl _) (by unfold maxLen; omega) rfl) ad zs.length bcap (zs.map bv) (by rfl) (by simp) (by intro j u hj; exact cell_stays (by exact (Below.refl _ _).alloc (Nat.le_refl _) _) (unhide HC j u hj)) (by intro u hu; simp at hu; obtain ⟨z, _, rfl⟩ := hu; rfl) (by unfold maxLen; omega) (by omega) (by simp) ?_; intro v' w1 hown' hgrow _; have HO' : Hid (w1.ownsRow w.heap.size 5 1 v' zs.length (zs.map bv)) := hide (by simpa using hown'); have HB1 : Hid (Below w.heap.size w w1) := hide (((Below.refl _ _).alloc (Nat.le_refl _) _).grown hgrow (by simp) (fun k e => by simp [Value.ownBlock] at e; omega)); have hsz1 : w.heap.size ≤ w1.heap.size := (unhide HB1).size; have HN1 : Hid (∀ (j : Nat) u, [bv 90][j]? = some u → (w1.alloc (.cells #[bv 90] 5)).cell? ((⟨w1.heap.size, 0, none⟩ : Addr).add j) = some u) := hide (news_one _ _); clear hown' hgrow) | (refine wpList_append_own _ rfl (.tmp 21) (.tmp 22) 22 rfl w.heap.size 5 i0 (.int .u8 0) 1 1 Try.underlying22 hi hz0 hz1 hz2 rfl (by decide) _ zs.length (zs.map bv) (by rfl) ((unhide HO').alloc _) ⟨w1.heap.size, 0, none⟩ 1 1 [bv 90] (by rfl) rfl (by exact unhide HN1) (by intro u hu; simp at hu; subst hu; rfl) (by unfold maxLen; omega) (by omega) (by simp; omega) ?_; intro v2 w2 hown' hgrow _; have HO2 := hide hown'; have HG2 := hide hgrow; clear hown' hgrow))
      go_meet
      exact ⟨by have := unhide HO2; rw [List.map_append]; exact this, ((unhide HB1).alloc hsz1 _).grown (unhide HG2) (by simp; omega) (fun k e => ((unhide HO').lt k e).1)⟩
  case rest =>
    obtain ⟨hown, hbel⟩ := hcut
    obtain ⟨g, cap, rfl, hcap2, hg1, hg2⟩ := own_block hown (by omega)
    have HBI := hide (take_reads hown).bytes
    have HRI := hide (reads_row hown (by simp))
    have HB0 := hide hbel
    have hsz0 := hbel.size
    have hcap' : (zs.length : Int) ≤ (cap : Int) := by omega
    clear hown hbel
    have HB_wc := hide (Below.refl wc.heap.size wc)
    go_wp2_with fail
    refine (turn_told zs _ _ _ ((unhide HBI).stays (unhide HB_wc)) (unhide HSM)).mono ?_
    rintro e w1 ⟨x, cc, rr, ee, rfl, hti, hrow, hbl⟩
    have HTI := hide hti
    have HV_x := hide hrow
    have HB_w1 := hide ((unhide HB_wc).trans (hbl.mono (unhide HB_wc).size))
    have HL_w1 := hide hbl
    clear hrow hbl hti
    go_wp2_with fail
    refine (turn_told zs _ _ _ ((unhide HBI).stays (unhide HB_w1)) (unhide HSM)).mono ?_
    rintro e w2 ⟨y, c', r', e', rfl, hti, hrow, hbl⟩
    obtain ⟨rfl, rfl, rfl⟩ := (unhide HTI).one hti
    have HV_y := hide hrow
    have HB_w2 := hide ((unhide HB_w1).trans (hbl.mono (unhide HB_w1).size))
    have HL_w2 := hide hbl
    clear hrow hbl hti
    go_wp2_with fail
    refine (rturn_told zs _ _ _ ((unhide HR).stays ((unhide HB0).trans ((unhide HB_w2).mono hsz0))).bytes (unhide HSM)).mono ?_
    rintro e w3 ⟨want, c', r', e', rfl, hti, hrow, hbl⟩
    obtain ⟨rfl, rfl, rfl⟩ := (unhide HTI).one hti
    have HV_want := hide hrow
    have HB_w3 := hide ((unhide HB_w2).trans (hbl.mono (unhide HB_w2).size))
    have HL_w3 := hide hbl
    clear hrow hbl hti
    go_wp2_with fail
    refine (rows_told zs _ _ _ ((unhide HBI).stays (unhide HB_w3)) (unhide HSM)).mono ?_
    rintro e w4 ⟨oo, hti, l, rfl, hrow, hbl⟩
    have HRI2 := hide hti
    have HV_l := hide hrow
    have HB_w4 := hide ((unhide HB_w3).trans (hbl.mono (unhide HB_w3).size))
    have HL_w4 := hide hbl
    clear hrow hbl hti
    go_wp2_with fail
    refine (rows_told zs _ _ _ ((unhide HBI).stays (unhide HB_w4)) (unhide HSM)).mono ?_
    rintro e w5 ⟨o', hti, m, rfl, hrow, hbl⟩
    obtain rfl := (unhide HRI2).one hti
    have HV_m := hide hrow
    have HB_w5 := hide ((unhide HB_w4).trans (hbl.mono (unhide HB_w4).size))
    have HL_w5 := hide hbl
    clear hrow hbl hti
    go_wp2_with fail
    refine (rrows_told zs _ _ _ ((unhide HR).stays ((unhide HB0).trans ((unhide HB_w5).mono hsz0))).bytes (unhide HSM)).mono ?_
    rintro e w6 ⟨o', hti, rows, rfl, hrow, hbl⟩
    obtain rfl := (unhide HRI2).one hti
    have HV_rows := hide hrow
    have HB_w6 := hide ((unhide HB_w5).trans (hbl.mono (unhide HB_w5).size))
    have HL_w6 := hide hbl
    clear hrow hbl hti
    have HO1 := hide (TurnIs.small (unhide HSM) (unhide HTI))
    have HO2 := hide (unhide HTI).len
    have HO3 := hide (unhide HRI2).len
    have s1 := (unhide HL_w1).size
    have s2 := (unhide HL_w2).size
    have s3 := (unhide HL_w3).size
    have s4 := (unhide HL_w4).size
    have s5 := (unhide HL_w5).size
    have s6 := (unhide HL_w6).size
    have HX := hide (((((unhide HV_x).of_below (unhide HL_w2)).of_below (unhide HL_w3)).of_below (unhide HL_w4)).of_below (unhide HL_w5) |>.of_below (unhide HL_w6))
    have HY := hide (((((unhide HV_y).of_below (unhide HL_w3)).of_below (unhide HL_w4)).of_below (unhide HL_w5)).of_below (unhide HL_w6))
    have HW := hide ((((unhide HV_want).of_below (unhide HL_w4)).of_below (unhide HL_w5)).of_below (unhide HL_w6))
    have HL := hide (((unhide HV_l).of_below (unhide HL_w5)).of_below (unhide HL_w6))
    have HM := hide ((unhide HV_m).of_below (unhide HL_w6))
    have HX' := HV_rows
    clear HV_x HV_y HV_want HV_l HV_m HV_rows HL_w1 HL_w2 HL_w3 HL_w4 HL_w5 HL_w6
    go_wp2_with fail
    refine (spoilt_ok _ _ _ _ x want _ _ (unhide HX) (unhide HW) (unhide HO1) (unhide HO2)).mono ?_
    rintro e w7 ⟨rfl, c7⟩
    have HY7 := hide ((unhide HY).of_chg c7 (.inr (Nat.le_refl _)))
    have HW7 := hide ((unhide HW).of_chg c7 (.inr (by omega)))
    have HL7 := hide ((unhide HL).of_chg c7 (.inr (by omega)))
    have HM7 := hide ((unhide HM).of_chg c7 (.inr (by omega)))
    have HN7 := hide ((unhide HX').of_chg c7 (.inr (by omega)))
    have HB_w7 := hide (c7.below (unhide HB_w6) (Nat.le_refl _) (unhide HB_w6).size)
    clear c7
    go_wp2_with fail
    refine (spoilt_ok _ _ _ _ y want _ _ (unhide HY7) (unhide HW7) (unhide HO1) (unhide HO2)).mono ?_
    rintro e w8 ⟨rfl, c8⟩
    have HL8 := hide ((unhide HL7).of_chg c8 (.inr (by omega)))
    have HM8 := hide ((unhide HM7).of_chg c8 (.inr (by omega)))
    have HN8 := hide ((unhide HN7).of_chg c8 (.inr (by omega)))
    have HB_w8 := hide (c8.below (unhide HB_w7) s1 (unhide HB_w7).size)
    clear c8
    go_wp2_with fail
    refine (same_ok _ _ _ _ l rows _ _ (unhide HL8) (unhide HN8) (.inl s5) (unhide HO3)).mono ?_
    rintro e w9 ⟨rfl, c9⟩
    have HM9 := hide ((unhide HM8).of_chg c9 (.inr (Nat.le_refl _)))
    have HN9 := hide ((unhide HN8).of_chg c9 (.inr s5))
    have HB_w9 := hide (c9.below (unhide HB_w8) (by omega) (unhide HB_w8).size)
    clear c9
    go_wp2_with fail
    refine (same_ok _ _ _ _ m rows _ _ (unhide HM9) (unhide HN9) (.inl (Nat.le_refl _)) (unhide HO3)).mono ?_
    rintro e w10 ⟨rfl, c10⟩
    have HBZ := hide (c10.below (unhide HB_w9) (by omega) (unhide HB_w9).size)
    have HBW := hide ((unhide HB0).trans ((unhide HBZ).mono hsz0))
    clear c10
    have hci := conv_reads ((unhide HRI).stays (unhide HBZ)) (big_small (unhide HSM))
    have hcb := conv_reads ((unhide HR).stays (unhide HBW)) (unhide HSM)
    have hsum : bs zs ++ (⟨#[90]⟩ : ByteArray) = bs (zs ++ [90]) := bs_append zs [90]
    have hszz : (bs zs).size ≤ 140737488351232 := by rw [bs_size]; omega
    go_wp2_with fail
    refine (names_ok _).mono ?_
    rintro e w11 ⟨rfl, rfl⟩
    go_wp2_with fail
    go_ret
    exact ⟨rfl, unhide HBW⟩
end Go.Proofs.Ytpemgjcgcmleiaa
