/-
  The law NumberReads, walked, over what number.Var tells.
-/
import Derived.Test.YtbefokclbcdmhaaRdVar
import Derived.Test.YtbefokclbcdmhaaBehind
namespace Go.Proofs.Ytbefokclbcdmhaa
open Go.RowKit

theorem take_reads {w : World} {base n cap g : Nat} {zs : List Nat} {z : Nat} (h : w.ownsRow base 5 1 (.slice (some ⟨g, 0, none⟩) n cap) n ((zs ++ [z]).map bv)) : Reads w (.slice (some ⟨g, 0, none⟩) zs.length cap) zs := by
  refine ⟨_, _, rfl, fun _ => ⟨_, rfl, fun j u hj => ?_⟩⟩
  refine h.cells rfl j u ?_
  rw [List.map_append, List.getElem?_append_left (by have := (List.getElem?_eq_some_iff.1 hj).1; omega)]
  exact hj

set_option maxRecDepth 100000 in
set_option maxHeartbeats 4000000 in
theorem reads_walk (ba : Option Addr) (bcap : Nat) (zs : List Nat) (p n : Int) (w : World)
    (hr : (ba = none ∧ bcap = 0 ∧ zs = []) ∨ ∃ ad, ba = some ad ∧ ∀ (j : Nat) u, (zs.map bv)[j]? = some u → w.cell? (ad.add j) = some u) (hs : ∀ z ∈ zs, z < 256) (hl : zs.length ≤ 140737488351232) (hcap : zs.length ≤ bcap)
    (cV : ∀ (v : Value) (w : World), Reads w v zs → Calls Try.prog 17 #[v, .int .i64 p] w fun e w' => e = .returned (tri (varAll zs p)) ∧ Below w.heap.size w w') :
    Calls Try.prog 4 #[.slice ba zs.length bcap, .int .i64 p, .int .i64 n] w fun e w' => e = .returned (.bool true) ∧ Below w.heap.size w w' := by
  obtain ⟨i0, hi, hz0, hz1, hz2⟩ := info_parts info5
  have HR := hide (reads_of hr)
  have HSRC := hide hr
  have cL := fun (v : Value) (w : World) (hr : Reads w v zs) => low_any v zs p n w hr hs (by omega)
  have cH := fun (v : Value) (w : World) (hr : Reads w v zs) => high_any v zs p n w hr hs (by omega)
  have rL := fun (w : World) (hr : Reads w (.slice ba zs.length bcap) zs) => refRead_low ba bcap zs p n w hr hs (by omega) hcap
  have rH := fun (w : World) (hr : Reads w (.slice ba zs.length bcap) zs) => refRead_high ba bcap zs p n w hr hs (by omega) hcap
  have rV := fun (v : Value) (w : World) (hr : Reads w v zs) => refVar_any v zs p w hr hs (by omega)
  unfold tri at cL cH rL rH rV cV
  generalize rdRes false zs p n = RL at *
  generalize rdRes true zs p n = RH at *
  generalize varAll zs p = RV at *
  obtain ⟨l1, l2, l3⟩ := RL
  obtain ⟨k1, k2, k3⟩ := RH
  obtain ⟨m1, m2, m3⟩ := RV
  simp only at cL cH rL rH rV cV
  have HSM := hide hs
  clear hr hs
  go_enter Try.func4, Try.ntmps4
  go_upto_region 1 with fail
  go_cut [7] (fun v7 wc => wc.ownsRow w.heap.size 5 1 v7 (zs.length + 1) ((zs ++ [90]).map bv) ∧ Below w.heap.size w wc)
  case first =>
    rcases unhide HSRC with ⟨rfl, rfl, rfl⟩ | ⟨ad, rfl, hcell⟩
    · have HN0 : Hid (∀ (j : Nat) u, [bv 90][j]? = some u → ((w.alloc (.cells #[] 5)).alloc (.cells #[bv 90] 5)).cell? ((⟨w.heap.size + 1, 0, none⟩ : Addr).add j) = some u) := hide (by have := news_one (w := w.alloc (.cells #[] 5)) (bv 90) 5; simpa using this)
      go_wp2_with (at_builtin; first | (refine wpList_append_own_none rfl (.tmp 15) (.tmp 16) 22 rfl w.heap.size 5 i0 1 Try.underlying22 hi _ 0 [] (by rfl) (World.ownsRow_made w #[] 0 (Nat.le_refl _) (by unfold maxLen; omega) rfl) (by rfl) ?_) | (refine wpList_append_own _ rfl (.tmp 17) (.tmp 18) 22 rfl w.heap.size 5 i0 (.int .u8 0) 1 1 Try.underlying22 hi hz0 hz1 hz2 rfl (by decide) _ 0 [] (by rfl) ((World.ownsRow_made w #[] 0 (Nat.le_refl _) (by unfold maxLen; omega) rfl).alloc _) ⟨w.heap.size + 1, 0, none⟩ 1 1 [bv 90] (by rfl) rfl (by exact unhide HN0) (by intro u hu; simp at hu; subst hu; rfl) (by unfold maxLen; omega) (by omega) (by simp; omega) ?_; intro v' w1 hown' hgrow _; have HO' := hide hown'; have HG := hide hgrow; clear hown' hgrow))
      go_meet
      exact ⟨by simpa using unhide HO', (((Below.refl _ _).alloc (Nat.le_refl _) _).alloc (by simp) _).grown (unhide HG) (by simp; omega) (fun k e => by simp [Value.ownBlock] at e; omega)⟩
    · have HC := hide hcell
      clear hcell
      go_wp2_with (at_builtin; first | (refine wpList_append_own _ rfl (.tmp 15) (.tmp 16) 22 rfl w.heap.size 5 i0 (.int .u8 0) 1 1 Try.underlying22 hi hz0 hz1 hz2 rfl (by decide) _ 0 [] (by rfl) (World.ownsRow_made w #[] 0 (Nat.le_refl _) (by unfold maxLen; omega) rfl) ad zs.length bcap (zs.map bv) (by rfl) (by simp) (by intro j u hj; exact cell_stays (by exact (Below.refl _ _).alloc (Nat.le_refl _) _) (unhide HC j u hj)) (by intro u hu; simp at hu; obtain ⟨z, _, rfl⟩ := hu; rfl) (by unfold maxLen; omega) (by omega) (by simp) ?_; intro v' w1 hown' hgrow _; have HO' : Hid (w1.ownsRow w.heap.size 5 1 v' zs.length (zs.map bv)) := hide (by simpa using hown'); have HB1 : Hid (Below w.heap.size w w1) := hide (((Below.refl _ _).alloc (Nat.le_refl _) _).grown hgrow (by simp) (fun k e => by simp [Value.ownBlock] at e; omega)); have hsz1 : w.heap.size ≤ w1.heap.size := (unhide HB1).size; have HN1 : Hid (∀ (j : Nat) u, [bv 90][j]? = some u → (w1.alloc (.cells #[bv 90] 5)).cell? ((⟨w1.heap.size, 0, none⟩ : Addr).add j) = some u) := hide (news_one _ _); clear hown' hgrow) | (refine wpList_append_own _ rfl (.tmp 17) (.tmp 18) 22 rfl w.heap.size 5 i0 (.int .u8 0) 1 1 Try.underlying22 hi hz0 hz1 hz2 rfl (by decide) _ zs.length (zs.map bv) (by rfl) ((unhide HO').alloc _) ⟨w1.heap.size, 0, none⟩ 1 1 [bv 90] (by rfl) rfl (by exact unhide HN1) (by intro u hu; simp at hu; subst hu; rfl) (by unfold maxLen; omega) (by omega) (by simp; omega) ?_; intro v2 w2 hown' hgrow _; have HO2 := hide hown'; have HG2 := hide hgrow; clear hown' hgrow))
      go_meet
      exact ⟨by have := unhide HO2; rw [List.map_append]; exact this, ((unhide HB1).alloc hsz1 _).grown (unhide HG2) (by simp; omega) (fun k e => ((unhide HO').lt k e).1)⟩
  case rest =>
    obtain ⟨hown, hbel⟩ := hcut
    obtain ⟨g, cap, rfl, hcap2, hg1, hg2⟩ := own_block hown (by omega)
    have HOWN := hide hown
    have HRo := hide (take_reads hown)
    have HB0 := hide hbel
    have hsz0 := hbel.size
    have hcap' : (zs.length : Int) ≤ (cap : Int) := by omega
    clear hown hbel
    go_wp2_with fail
    refine (cL _ _ (unhide HRo)).mono ?_
    rintro e w1 ⟨rfl, hb1⟩
    have HB1 := hide hb1
    clear hb1
    go_wp2_with fail
    refine (rL _ ((unhide HR).stays ((unhide HB0).trans ((unhide HB1).mono hsz0)))).mono ?_
    rintro e w2 ⟨rfl, hb2⟩
    have HB2 := hide ((unhide HB1).trans (hb2.mono (unhide HB1).size))
    clear hb2 HB1 cL rL
    go_wp2_with fail
    refine (cH _ _ ((unhide HRo).stays (unhide HB2))).mono ?_
    rintro e w3 ⟨rfl, hb3⟩
    have HB3 := hide ((unhide HB2).trans (hb3.mono (unhide HB2).size))
    clear hb3 HB2
    go_wp2_with fail
    refine (rH _ ((unhide HR).stays ((unhide HB0).trans ((unhide HB3).mono hsz0)))).mono ?_
    rintro e w4 ⟨rfl, hb4⟩
    have HB4 := hide ((unhide HB3).trans (hb4.mono (unhide HB3).size))
    clear hb4 HB3 cH rH
    go_wp2_with fail
    refine (cV _ _ ((unhide HRo).stays (unhide HB4))).mono ?_
    rintro e w5 ⟨rfl, hb5⟩
    have HB5 := hide ((unhide HB4).trans (hb5.mono (unhide HB4).size))
    clear hb5 HB4
    go_wp2_with fail
    refine (rV _ _ ((unhide HR).stays ((unhide HB0).trans ((unhide HB5).mono hsz0)))).mono ?_
    rintro e w6 ⟨rfl, hb6⟩
    have HB6 := hide ((unhide HB5).trans (hb6.mono (unhide HB5).size))
    have HBW : Hid (Below w.heap.size w w6) := hide ((unhide HB0).trans ((unhide HB6).mono hsz0))
    have hci := conv_bs ((reads_row (unhide HOWN) (by simp)).stays (unhide HB6)) (zs := zs ++ [90]) (by intro z hz; rcases List.mem_append.1 hz with h | h; exact unhide HSM z h; simp at h; omega)
    have hcb := conv_bs ((unhide HR).stays (unhide HBW)) (unhide HSM)
    have hsum : bs zs ++ (⟨#[90]⟩ : ByteArray) = bs (zs ++ [90]) := bs_append zs [90]
    have hszz : (bs zs).size ≤ 140737488351232 := by rw [bs_size]; omega
    clear hb6 HB5 cV rV
    go_wp2_with (go_at_call 13; refine (names_ok _).mono ?_; rintro e w' ⟨rfl, hw⟩; rw [hw])
    go_ret
    exact ⟨rfl, unhide HBW⟩
end Go.Proofs.Ytbefokclbcdmhaa
