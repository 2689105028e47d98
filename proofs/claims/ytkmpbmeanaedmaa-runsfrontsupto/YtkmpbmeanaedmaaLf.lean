/- The law RunsFronts, walked. -/
import Derived.Test.YtkmpbmeanaedmaaCt
namespace Go.Proofs.Ytkmpbmeanaedmaa
open Go.RowKit Runs
set_option maxRecDepth 100000
set_option linter.unusedVariables false
attribute [local go_sem ↓] Go.wp_at_zero Go.wp_at_succ

theorem used_small {b : List Nat} : ∀ z ∈ usedF b, z < 256 := fun z hz => (mem_used.1 hz).1

theorem toFront_small {l : List Nat} {k : Nat} (hl : ∀ z ∈ l, z < 256) (hk : k < l.length) : ∀ z ∈ toFront l k, z < 256 := fun z hz => hl z ((toFront_perm hk).mem_iff.1 hz)

theorem unf_small : ∀ (ps : List Int) (l out : List Nat), (∀ z ∈ l, z < 256) → (∀ z ∈ out, z < 256) → ∀ z ∈ (unf l ps out).1, z < 256
  | [], l, out, _, ho => by rw [unf]; exact ho
  | k :: r, l, out, hl, ho => by
    rw [unf]
    by_cases hk : k < 0 ∨ (l.length : Int) ≤ k
    · rw [if_pos hk]; intro z hz; simp at hz
    · rw [if_neg hk]
      have hk' : k.toNat < l.length := by omega
      refine unf_small r _ _ (toFront_small hl hk') fun z hz => ?_
      rcases List.mem_append.1 hz with h | h
      · exact ho z h
      · rw [List.mem_singleton] at h; rw [h]; exact hl _ (getD_mem hk')

theorem unf_len : ∀ (ps : List Int) (l out : List Nat), (unf l ps out).1.length ≤ out.length + ps.length
  | [], l, out => by rw [unf]; simp
  | k :: r, l, out => by
    rw [unf]
    by_cases hk : k < 0 ∨ (l.length : Int) ≤ k
    · rw [if_pos hk]; simp
    · rw [if_neg hk]
      have := unf_len r (toFront l k.toNat) (out ++ [l.getD k.toNat 0])
      rw [List.length_append, List.length_singleton] at this
      simp only [List.length_cons]
      omega

theorem unfrontOut_small {u : List Nat} (hu : ∀ z ∈ u, z < 256) (ps : List Int) : ∀ z ∈ (unfrontOut u ps).1, z < 256 := by
  unfold unfrontOut
  split
  · exact unf_small ps u [] hu (fun z hz => by simp at hz)
  · intro z hz; simp at hz

theorem unfrontOut_len (u : List Nat) (ps : List Int) : (unfrontOut u ps).1.length ≤ ps.length := by
  unfold unfrontOut
  split
  · have := unf_len ps u []; simpa using this
  · simp

theorem frontF_len (b : List Nat) : (frontF b).length = b.length := front_len b (usedF b)

set_option maxHeartbeats 8000000 in
theorem fronts_law (a0 : Option Addr) (c0 : Nat) (zs : List Nat) (a1 : Option Addr) (c1 : Nat) (us : List Nat) (a2 : Option Addr) (c2 : Nat) (ps : List Int) (w : World)
    (hr0 : SrcB w a0 c0 zs) (hs0 : ∀ z ∈ zs, z < 256) (hl0 : zs.length ≤ 1048576) (hc0 : zs.length ≤ c0) (hr1 : SrcB w a1 c1 us) (hs1 : ∀ z ∈ us, z < 256) (hl1 : us.length ≤ 1048576) (hc1 : us.length ≤ c1) (hr2 : SrcI w a2 c2 ps) (hl2 : ps.length ≤ 1048576) :
    Calls Try.prog 4 #[.slice a0 zs.length c0, .slice a1 us.length c1, .slice a2 ps.length c2] w fun e w' => e = .returned (.bool true) ∧ Below w.heap.size w w' := by
  have HR0 := hide hr0
  have HR1 := hide hr1
  have HR2 := hide hr2
  have HS0 := hide hs0
  have HS1 := hide hs1
  have HUO1 := hide (unfrontOut_small hs1 ps)
  have HUO2 : Hid ((unfrontOut us ps).1.length ≤ 1000000000) := hide (by have := unfrontOut_len us ps; omega)
  have HU1 := hide (used_small (b := zs))
  have HU2 : Hid ((usedF zs).length ≤ 1000000000) := hide (by have := used_len zs; omega)
  have HF2 : Hid ((frontF zs).length ≤ 1000000000) := hide (by rw [frontF_len]; omega)
  have HPF := hide (fun a c W (h : BytesIn W a zs) => pfront_ok zs a c W h hs0 hl0)
  have HRF := hide (fun a c W (h : BytesIn W a zs) => frontW_ok zs a c W h hs0 hl0)
  have HPU := hide (fun a c p d W (h : BytesIn W a us) (h' : IntsIn W p ps) => punfront_ok us a c ps p d W h hs1 h' hl1 hl2)
  have HRU := hide (fun a c p d W (h : BytesIn W a us) (h' : IntsIn W p ps) (hc : us.length ≤ c) => unfront_ok us a c ps p d W h hc h' hl1 hl2)
  obtain ⟨nz, hnz⟩ : ∃ nz, nz = zs.length := ⟨_, rfl⟩
  obtain ⟨nu, hnu⟩ : ∃ nu, nu = us.length := ⟨_, rfl⟩
  obtain ⟨np, hnp⟩ : ∃ np, np = ps.length := ⟨_, rfl⟩
  have HNZ := hide hnz
  have HNU := hide hnu
  have HNP := hide hnp
  rw [← hnz] at hl0 hc0 HPF HRF
  rw [← hnu] at hl1 hc1 HPU HRU
  rw [← hnp] at hl2 HPU HRU
  rw [← hnz, ← hnu, ← hnp]
  clear hnz hnu hnp hr0 hr1 hr2 hs0 hs1
  obtain ⟨⟨ol, oc⟩, hO⟩ : ∃ O, O = unfrontOut us ps := ⟨_, rfl⟩
  rw [← hO] at HUO1 HUO2 HPU HRU
  clear hO
  have HB_w := hide (Below.refl w.heap.size w)
  go_enter Try.func4, Try.ntmps4
  go_wp2_with (at_builtin; refine wp_catB rfl (.tmp 18) (.tmp 19) rfl zs a0 nz c0 (by rfl) (by rfl) (unhide HNZ).symm ((unhide HR0).stays (unhide HB_w)) (by rw [← unhide HNZ]; exact hl0) ?_; intro v1 x1 h1; have HV1 := hide h1; clear h1)
  have HB_x1 := hide ((unhide HB_w).trans ((unhide HV1).bel.mono (unhide HB_w).size))
  obtain ⟨va1, vc1, e1, -, hbi1, -⟩ := (unhide HV1).lies
  subst e1
  rw [← unhide HNZ]
  have HBI1 := hide hbi1
  have sx1 := (unhide HV1).bel.size
  have HLX1 := hide (unhide HV1).bel
  clear hbi1 HV1
  refine (unhide HPF _ _ _ (unhide HBI1)).mono ?_
  rintro e w1 ⟨u1, g1, rfl, hu, hg1, hp, hbl⟩
  have HU_1 := hide hu
  have HP_1 := hide (row_ints (by rw [frontF_len]; exact (unhide HNZ).symm) hp (Nat.le_refl g1))
  have HB_w1 := hide ((unhide HB_x1).trans (hbl.mono (unhide HB_x1).size))
  have HL_w1 := hide hbl
  have sw1 := hbl.size
  have sg1 := hp.lt
  clear hu hp hbl HBI1
  go_wp2_with (at_builtin; refine wp_catB rfl (.tmp 25) (.tmp 26) rfl zs a0 nz c0 (by rfl) (by rfl) (unhide HNZ).symm ((unhide HR0).stays (unhide HB_w1)) (by rw [← unhide HNZ]; exact hl0) ?_; intro v2 x2 h2; have HV2 := hide h2; clear h2)
  have HB_x2 := hide ((unhide HB_w1).trans ((unhide HV2).bel.mono (unhide HB_w1).size))
  obtain ⟨va2, vc2, e2, -, hbi2, -⟩ := (unhide HV2).lies
  subst e2
  rw [← unhide HNZ]
  have HBI2 := hide hbi2
  have sx2 := (unhide HV2).bel.size
  have HLX2 := hide (unhide HV2).bel
  clear hbi2 HV2
  refine (unhide HPF _ _ _ (unhide HBI2)).mono ?_
  rintro e w2 ⟨u2, g2, rfl, hu, hg2, hp, hbl⟩
  have HU_2 := hide hu
  have HP_2 := hide (row_ints (by rw [frontF_len]; exact (unhide HNZ).symm) hp (Nat.le_refl g2))
  have HB_w2 := hide ((unhide HB_x2).trans (hbl.mono (unhide HB_x2).size))
  have HL_w2 := hide hbl
  have sw2 := hbl.size
  have sg2 := hp.lt
  clear hu hp hbl HBI2
  go_wp2_with fail
  refine (unhide HRF _ _ _ ((unhide HR0).stays (unhide HB_w2)).bytes).mono ?_
  rintro e w3 ⟨want, list, rfl, hw1, hw2, -⟩
  have HW := hide hw1.toRow
  have HLI := hide hw2.toRow
  have HB_w3 := hide ((unhide HB_w2).trans (hw1.bel.mono (unhide HB_w2).size))
  have HL_w3 := hide hw1.bel
  have sw3 := hw1.bel.size
  clear hw1 hw2
  go_wp2_with (at_builtin; first | (refine wp_catB rfl (.tmp 37) (.tmp 38) rfl us a1 nu c1 (by rfl) (by rfl) (unhide HNU).symm ((unhide HR1).stays (unhide HB_w3)) (by rw [← unhide HNU]; exact hl1) ?_; intro v4 x4 h4; have HV4 := hide h4; have HB_x4 := hide ((unhide HB_w3).trans (h4.bel.mono (unhide HB_w3).size)); clear h4) | (refine wp_catI rfl (.tmp 40) (.tmp 41) rfl ps a2 np c2 (by rfl) (by rfl) (unhide HNP).symm ((unhide HR2).stays (unhide HB_x4)) (by rw [← unhide HNP]; exact hl2) ?_; intro v5 x5 h5; have HV5 := hide h5; have HB_x5 := hide ((unhide HB_x4).trans (h5.bel.mono (unhide HB_x4).size)); clear h5))
  obtain ⟨va4, vc4, e4, -, hbi4, -⟩ := (unhide HV4).lies
  subst e4
  obtain ⟨va5, vc5, e5, hbi5⟩ := (unhide HV5).lies
  subst e5
  rw [← unhide HNU, ← unhide HNP]
  have HBI4 := hide (hbi4.stays (unhide HV5).bel)
  have HBI5 := hide hbi5
  have sx4 := (unhide HV4).bel.size
  have sx5 := (unhide HV5).bel.size
  have HLX4 := hide (unhide HV4).bel
  have HLX5 := hide (unhide HV5).bel
  clear hbi4 hbi5 HV4 HV5
  refine (unhide HPU _ _ _ _ _ (unhide HBI4) (unhide HBI5)).mono ?_
  rintro e w6 ⟨x, rfl, hrow, hbl⟩
  have HX := hide hrow
  have HB_w6 := hide ((unhide HB_x5).trans (hbl.mono (unhide HB_x5).size))
  have HL_w6 := hide hbl
  have sw6 := hbl.size
  clear hrow hbl HBI4 HBI5
  go_wp2_with fail
  refine (unhide HRU _ _ _ _ _ ((unhide HR1).stays (unhide HB_w6)).bytes ((unhide HR2).stays (unhide HB_w6)).ints hc1).mono ?_
  rintro e w7 ⟨text, rfl, hst⟩
  have HT := hide hst.toRow
  have HB_w7 := hide ((unhide HB_w6).trans (hst.bel.mono (unhide HB_w6).size))
  have HL_w7 := hide hst.bel
  have sw7 := hst.bel.size
  clear hst
  have HU7 := hide (((((((unhide HU_1).of_below (unhide HLX2)).of_below (unhide HL_w2)).of_below (unhide HL_w3)).of_below (unhide HLX4)).of_below (unhide HLX5)).of_below (unhide HL_w6) |>.of_below (unhide HL_w7))
  have HP7 := hide (((((((unhide HP_1).of_below (unhide HLX2)).of_below (unhide HL_w2)).of_below (unhide HL_w3)).of_below (unhide HLX4)).of_below (unhide HLX5)).of_below (unhide HL_w6) |>.of_below (unhide HL_w7))
  have HV7 := hide (((((unhide HU_2).of_below (unhide HL_w3)).of_below (unhide HLX4)).of_below (unhide HLX5)).of_below (unhide HL_w6) |>.of_below (unhide HL_w7))
  have HQ7 := hide (((((unhide HP_2).of_below (unhide HL_w3)).of_below (unhide HLX4)).of_below (unhide HLX5)).of_below (unhide HL_w6) |>.of_below (unhide HL_w7))
  have HW7 := hide ((((unhide HW).of_below (unhide HLX4)).of_below (unhide HLX5)).of_below (unhide HL_w6) |>.of_below (unhide HL_w7))
  have HL7 := hide ((((unhide HLI).of_below (unhide HLX4)).of_below (unhide HLX5)).of_below (unhide HL_w6) |>.of_below (unhide HL_w7))
  have HX7 := hide ((unhide HX).of_below (unhide HL_w7))
  clear HU_1 HP_1 HU_2 HP_2 HW HLI HX HLX1 HLX2 HLX4 HLX5 HL_w1 HL_w2 HL_w3 HL_w6 HL_w7
  have HT7 := HT
  clear HT
  go_wp2_with fail
  refine (spoilt_ok _ _ _ _ u1 want _ _ (unhide HU7) (unhide HW7) (unhide HU1) (unhide HU2)).mono ?_
  rintro e w8 ⟨rfl, c8⟩
  have HP8 := hide ((unhide HP7).of_chg c8 (by omega))
  have HV8 := hide ((unhide HV7).of_chg c8 (by omega))
  have HQ8 := hide ((unhide HQ7).of_chg c8 (by omega))
  have HW8 := hide ((unhide HW7).of_chg c8 (by omega))
  have HL8 := hide ((unhide HL7).of_chg c8 (by omega))
  have HX8 := hide ((unhide HX7).of_chg c8 (by omega))
  have HT8 := hide ((unhide HT7).of_chg c8 (by omega))
  have HB_w8 := hide (c8.below (unhide HB_w7) (by omega) (unhide HB_w7).size)
  have sw8 := c8.size
  clear c8
  go_wp2_with fail
  refine (same_ok _ _ _ _ (Value.slice (some ⟨g1, 0, none⟩) nz nz) list _ _ (unhide HP8) (unhide HL8) (by omega) (unhide HF2)).mono ?_
  rintro e w9 ⟨rfl, c9⟩
  have HV9 := hide ((unhide HV8).of_chg c9 (by omega))
  have HQ9 := hide ((unhide HQ8).of_chg c9 (by omega))
  have HW9 := hide ((unhide HW8).of_chg c9 (by omega))
  have HL9 := hide ((unhide HL8).of_chg c9 (by omega))
  have HX9 := hide ((unhide HX8).of_chg c9 (by omega))
  have HT9 := hide ((unhide HT8).of_chg c9 (by omega))
  have HB_w9 := hide (c9.below (unhide HB_w8) (by omega) (unhide HB_w8).size)
  have sw9 := c9.size
  clear c9
  go_wp2_with fail
  refine (spoilt_ok _ _ _ _ u2 want _ _ (unhide HV9) (unhide HW9) (unhide HU1) (unhide HU2)).mono ?_
  rintro e w10 ⟨rfl, c10⟩
  have HQ10 := hide ((unhide HQ9).of_chg c10 (by omega))
  have HW10 := hide ((unhide HW9).of_chg c10 (by omega))
  have HL10 := hide ((unhide HL9).of_chg c10 (by omega))
  have HX10 := hide ((unhide HX9).of_chg c10 (by omega))
  have HT10 := hide ((unhide HT9).of_chg c10 (by omega))
  have HB_w10 := hide (c10.below (unhide HB_w9) (by omega) (unhide HB_w9).size)
  have sw10 := c10.size
  clear c10
  go_wp2_with fail
  refine (same_ok _ _ _ _ (Value.slice (some ⟨g2, 0, none⟩) nz nz) list _ _ (unhide HQ10) (unhide HL10) (by omega) (unhide HF2)).mono ?_
  rintro e w11 ⟨rfl, c11⟩
  have HX11 := hide ((unhide HX10).of_chg c11 (by omega))
  have HT11 := hide ((unhide HT10).of_chg c11 (by omega))
  have HB_w11 := hide (c11.below (unhide HB_w10) (by omega) (unhide HB_w10).size)
  have sw11 := c11.size
  clear c11
  go_wp2_with fail
  refine (spoilt_ok _ _ _ _ x text _ _ (unhide HX11) (unhide HT11) (unhide HUO1) (unhide HUO2)).mono ?_
  rintro e w12 ⟨rfl, c12⟩
  have HB_w12 := hide (c12.below (unhide HB_w11) (by omega) (unhide HB_w11).size)
  have sw12 := c12.size
  clear c12
  go_wp2_with fail
  refine (names_ok _).mono ?_
  rintro e w13 ⟨rfl, rfl⟩
  go_wp2_with fail
  go_ret
  exact ⟨rfl, unhide HB_w12⟩
end Go.Proofs.Ytkmpbmeanaedmaa
