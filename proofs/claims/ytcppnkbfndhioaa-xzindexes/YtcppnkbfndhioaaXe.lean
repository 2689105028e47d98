/- What the document's Index tells. -/
import Derived.Test.YtcppnkbfndhioaaXd
namespace Go.Proofs.Ytcppnkbfndhioaa
open Go.RowKit
set_option maxRecDepth 100000
set_option linter.unusedVariables false
attribute [local go_sem ↓] Go.wp_at_zero Go.wp_at_succ

theorem refPutVar_st (V : Nat) (hV : V < 9223372036854775808) (w : World) :
    Calls Try.prog 16 #[.int .u64 (V : Int)] w fun e w' => ∃ lv, e = .returned (.tuple #[lv, .int .i64 0]) ∧ StB w w' lv (N.varB V) := by
  refine (N.refPutVar_ok V hV w).mono ?_
  rintro e w' ⟨lv, rfl, h1, h2⟩
  exact ⟨lv, rfl, by rw [N.varB_length V (N.nb_le V hV).1]; exact h1, h2⟩

set_option maxHeartbeats 2000000 in
theorem refIndex_ok (l : List (Int × Int)) (v : Value) (w : World) (hr : ReadsR w v l) (hl : l.length ≤ 140737488355328) :
    Calls Try.prog 5 #[v] w fun e w' => ∃ v' x, e = .returned (.tuple #[v', .int .i64 x]) ∧ IdxIs w w' v' x l := by
  have HR := hide hr
  obtain ⟨a, cap, rfl, hcap, _⟩ := hr
  obtain ⟨n, hn⟩ : ∃ n, n = l.length := ⟨_, rfl⟩
  rw [← hn] at hl hcap HR ⊢
  have HN := hide hn
  clear hn
  by_cases hbig : 65536 < n
  · have hbi : (65536 : Int) < (n : Int) := by omega
    go_enter Try.func5, Try.ntmps5
    go_wp2_with fail
    go_ret2
    exact ⟨_, 2, rfl, .inl ⟨.inl (by rw [← unhide HN]; omega), rfl, rfl, Below.refl _ _⟩⟩
  have hbi : ¬ (65536 : Int) < (n : Int) := by omega
  go_enter Try.func5, Try.ntmps5
  go_wp2_with fail
  refine (refPutVar_st n (by omega) w).mono ?_
  rintro e w2 ⟨vn, rfl, h2⟩
  have HL := hide (varB_len n (by omega))
  obtain ⟨gn, cn, rfl, hcn, hgn1, hgn2⟩ := h2.made (by have := unhide HL; omega)
  have H2 := hide h2
  have HO2 := hide (StB.one w2 0)
  have HR2 := hide ((unhide H2).reads.stays (unhide HO2).bel)
  have HB2 := hide h2.bel
  clear h2 H2 hcn hgn1 hgn2
  go_wp2_with (at_builtin; go_must (refine wp_appB rfl (.tmp 22) (.tmp 23) rfl _ _ [0] (N.varB n) rfl rfl (unhide HO2) (unhide HR2) (by intro _ _ h; cases h) (by have := unhide HL; simp; omega) ?_; intro v3 w3 h3 hk3; have H3 := hide h3; clear h3 hk3))
  have HW2 := hide (unhide HB2).size
  clear HR2 HO2 HL
  go_loopg [6, 7] n (fun gk b c ws => ∃ (i : Nat) (vb : Value), gk = n - i ∧ i ≤ n ∧ b = vb ∧ c = .int .i64 (i : Int) ∧ Hid (allMay (l.take i) = true) ∧ Hid (StB w2 ws vb ([0] ++ N.varB n ++ recB (l.take i))))
  case atStart => exact ⟨0, _, by omega, by omega, rfl, rfl, hide rfl, hide (by simpa [recB] using unhide H3)⟩
  case round =>
    obtain ⟨i, vb, rfl, hi, rfl, rfl, HA, HS⟩ := hrel
    clear H3
    have HVN := hide (varB_len n (by omega)).2
    have HAT : Hid (allMay ((l.take i).take i) = true) := hide (by rw [List.take_take, Nat.min_self]; exact unhide HA)
    have HLE := hide (recB_le (l.take i) (unhide HA) i (by rw [List.length_take, ← unhide HN]; omega))
    rw [List.take_take, Nat.min_self] at HLE
    have HSL : Hid (([0] ++ N.varB n ++ recB (l.take i)).length ≤ 10 + 18 * i) := hide (by have := unhide HLE; have := unhide HVN; simp only [List.length_append, List.length_singleton]; omega)
    by_cases hlt : i < n
    · obtain ⟨a', cap', e, _, hs⟩ := (unhide HR).stays ((unhide HB2).trans ((unhide HS).bel.mono (unhide HW2)))
      injection e with e1 e2 e3
      subst e1 e3
      obtain ⟨b, off, rfl, hbB, hcell⟩ := hs (by rw [← unhide HN]; omega)
      obtain ⟨k1, k2⟩ := hcell i (by rw [← unhide HN]; omega)
      have HT := hide (recB_take (l := l) (i := i) (by rw [← unhide HN]; omega))
      have HMT : Hid (allMay (l.take (i + 1)) = (allMay (l.take i) && may (l.getD i (0, 0)).1 (l.getD i (0, 0)).2)) := hide (allMay_take (by rw [← unhide HN]; omega))
      have HX : Hid (may (l.getD i (0, 0)).1 (l.getD i (0, 0)).2 = false → allMay l = false) := hide (allMay_bad (by rw [← unhide HN]; omega))
      generalize l.getD i (0, 0) = r at k1 k2 HT HMT HX
      obtain ⟨s, t⟩ := r
      have HU := hide (may_ok s t wr)
      have HLT := hide hlt
      have hki : (i : Int) < (n : Int) := by omega
      clear hcell hs e2 hlt hbB
      cases hm : may s t with
      | false =>
        rw [hm] at HU HX
        go_wp2_with (go_at_call 17; go_must (refine (unhide HU).mono ?_; rintro e w1 ⟨rfl, h1⟩; have H1 := hide h1; clear h1))
        go_ret2
        exact ⟨_, 2, rfl, .inl ⟨.inr (unhide HX (by first | rfl | trivial)), rfl, rfl, (unhide HB2).trans (((unhide HS).bel.trans ((unhide H1).mono (unhide HS).bel.size)).mono (unhide HW2))⟩⟩
      | true =>
        rw [hm] at HU HMT
        obtain ⟨S, T, rfl, rfl, hS, hT⟩ := may_nat hm
        simp only [Int.toNat_natCast] at HT
        obtain ⟨gb, cb, rfl, hcb, hgb1, hgb2⟩ := (unhide HS).made (by simp)
        obtain ⟨LB, hLB⟩ : ∃ LB, LB = ([0] ++ N.varB n ++ recB (l.take i)).length := ⟨_, rfl⟩
        rw [← hLB] at hcb HSL ⊢
        have HLB := hide hLB
        rw [← hLB] at HS
        clear hLB hm
        have HLS := hide (varB_len S (by omega))
        have HLV := hide (varB_len T (by omega))
        go_upto_region 10 with (go_at_call 17; go_must (refine (unhide HU).mono ?_; rintro e w4 ⟨rfl, h4⟩; have H4 := hide h4; clear h4))
        have HS4 := hide ((unhide HS).stays (unhide H4))
        have j1 := cell_stays (unhide H4) k1
        have j2 := cell_stays (unhide H4) k2
        have HG4 : Hid (gb < w4.heap.size) := hide (Nat.lt_of_lt_of_le hgb2 (unhide H4).size)
        clear k1 k2 HS HU H4 hgb2
        go_wp2_with fail
        refine (refPutVar_st S (by omega) w4).mono ?_
        rintro e w5 ⟨va, rfl, h5⟩
        obtain ⟨ga, ca, rfl, hca, hga1, hga2⟩ := h5.made (by have := unhide HLS; omega)
        have H5 := hide h5
        have HS5 := hide ((unhide HS4).stays h5.bel)
        have k2 := cell_stays h5.bel j2
        have HGA : Hid (gb ≠ ga) := hide (by have := unhide HG4; omega)
        clear h5 HS4 j1 j2 hga1
        go_wp2_with fail
        refine (refPutVar_st T (by omega) w5).mono ?_
        rintro e w6 ⟨vc, rfl, h6⟩
        obtain ⟨gc, cc, rfl, hcc, hgc1, hgc2⟩ := h6.made (by have := unhide HLV; omega)
        have H6 := hide h6
        have HS6 := hide ((unhide HS5).stays h6.bel)
        have HA6 := hide ((unhide H5).reads.stays h6.bel)
        have HGC : Hid (gc < w6.heap.size ∧ (Value.slice (some ⟨gb, 0, none⟩) LB cb).ownBlock ≠ some gc) := hide ⟨hgc2, by intro h; have h2 : some gb = some gc := h; have := Option.some.inj h2; have := unhide HG4; have := (unhide H5).bel.size; omega⟩
        clear h6 HS5 H5 hgc1 hgc2 k2
        go_wp2_with (at_builtin; first
          | (refine wp_appB rfl (.tmp 57) (.tmp 58) rfl (.slice (some ⟨gb, 0, none⟩) LB cb) _ ([0] ++ N.varB n ++ recB (l.take i)) (N.varB S) rfl rfl (unhide HS6) (unhide HA6) (by intro _ _ h; cases h) (by have := unhide HLS; have := unhide HSL; rw [← unhide HLB]; omega) ?_; intro v7 w7 h7 hk7; have H7 := hide h7; have HC7 := hide (reads_kp (unhide H6).reads hk7 (unhide HGC).1 (unhide HGC).2); clear h7 hk7)
          | (refine wp_appB rfl (.tmp 59) (.tmp 60) rfl v7 _ ([0] ++ N.varB n ++ recB (l.take i) ++ N.varB S) (N.varB T) rfl rfl (unhide H7) (unhide HC7) (by intro _ _ h; cases h) (by have := unhide HLV; have := unhide HLS; have := unhide HSL; rw [List.length_append, ← unhide HLB]; omega) ?_; intro v8 w8 h8 hk8; have H8 := hide h8; clear h8 hk8))
        go_roundg (n - (i + 1))
        case measure => have := unhide HLT; omega
        case rel => exact ⟨i + 1, _, rfl, unhide HLT, rfl, by go_num, hide (by rw [unhide HMT, unhide HA]; rfl), hide (by rw [unhide HT]; simpa [List.append_assoc] using unhide H8)⟩
    · obtain rfl : i = n := by omega
      have HT : Hid (l.take i = l) := hide (List.take_of_length_le (by rw [← unhide HN]; exact Nat.le_refl _))
      rw [unhide HT] at HS HSL HA
      have HBD : Hid ([0] ++ N.varB i ++ recB l = bodyB l) := hide (by unfold bodyB; rw [unhide HN])
      rw [unhide HBD] at HS HSL
      have HFL := hide (refFilled_ok w2 _ (bodyB l) wr (unhide HS) (by unfold bodyB; simp) (by have := unhide HSL; omega))
      go_wp2_with fail
      refine (unhide HFL).mono ?_
      rintro e w3 ⟨vf, rfl, h2⟩
      have HFLN := hide (fillB_length (bodyB l))
      have HLK := hide (lack_lt (bodyB l).length)
      have H2 := hide h2
      have HSM := hide (fillB_small _ (bodyB_small l))
      clear h2 HFL
      obtain ⟨gf, cf, rfl, hcf, _, _⟩ := (unhide H2).made (by rw [unhide HFLN]; unfold bodyB; simp; omega)
      go_wp2_with fail
      refine (refCrc_ok _ (fillB (bodyB l)) w3 (unhide H2).reads (unhide HSM) (by have := unhide HSL; have := unhide HFLN; have := unhide HLK; omega)).mono ?_
      rintro e w4 ⟨vs, rfl, h3⟩
      obtain ⟨gs, cs, rfl, hcs, _, _⟩ := h3.made (by rw [crcB_length]; omega)
      have H3 := hide h3
      have HS3 := hide ((unhide H2).stays h3.bel)
      clear h3 H2
      obtain ⟨LD, hLD⟩ : ∃ LD, LD = (fillB (bodyB l)).length := ⟨_, rfl⟩
      rw [← hLD] at HS3 HFLN hcf ⊢
      have HLD := hide hLD
      clear hLD
      go_wp2_with (at_builtin; go_must (refine wp_appB rfl (.tmp 64) (.tmp 66) rfl (.slice (some ⟨gf, 0, none⟩) LD cf) _ (fillB (bodyB l)) (crcB (fillB (bodyB l))) rfl rfl (unhide HS3) (unhide H3).reads (by intro _ _ h; cases h) (by have := unhide HSL; have := unhide HFLN; have := unhide HLK; rw [crcB_length, ← unhide HLD]; omega) ?_; intro v5 w5 h5 hk5; have H5 := hide h5; clear h5 hk5))
      go_ret2
      exact ⟨_, 0, rfl, .inr ⟨by rw [← unhide HN]; omega, unhide HA, rfl, (unhide H5).base (unhide HB2)⟩⟩
end Go.Proofs.Ytcppnkbfndhioaa
