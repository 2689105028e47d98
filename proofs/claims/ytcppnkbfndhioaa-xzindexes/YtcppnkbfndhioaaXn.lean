/- What the document's ReadIndex tells, walked. -/
import Derived.Test.YtcppnkbfndhioaaXm
namespace Go.Proofs.Ytcppnkbfndhioaa
open Go.RowKit
set_option maxRecDepth 100000
set_option linter.unusedVariables false
attribute [local go_sem ↓] Go.wp_at_zero Go.wp_at_succ

/-- what it tells, as the program's -/
def RiIs (t : TypeId) (w w' : World) (e : Ending) (R : List (Int × Int) × Nat × Nat) : Prop :=
  ∃ lv, e = .returned (.tuple #[lv, .int .i64 (R.2.1 : Int), .int .i64 (R.2.2 : Int)]) ∧ (R.2.2 = 0 → StR t w w' lv R.1) ∧ (R.2.2 ≠ 0 → lv = .slice none 0 0) ∧ Below w.heap.size w w'

theorem RiIs.bad {t : TypeId} {w w' : World} {x : Nat} (hx : x ≠ 0) (hb : Below w.heap.size w w') : RiIs t w w' (.returned (.tuple #[.slice none 0 0, .int .i64 0, .int .i64 (x : Int)])) ([], 0, x) :=
  ⟨_, rfl, fun h => absurd h hx, fun _ => rfl, hb⟩

theorem undrew {w w1 : World} (h : Below w.drew.heap.size w.drew w1) : Below w.heap.size w w1 := ⟨h.os, h.tape, h.output, h.size, h.block⟩

theorem sub_reads {w : World} {b off p k c : Nat} {zs : List Nat} (hc : ∀ j, j < zs.length → w.cell? ⟨b, off + j, none⟩ = some (bv (zs.getD j 0))) (hk : p + k ≤ zs.length) : Reads w (.slice (some ⟨b, off + p, none⟩) k c) ((zs.drop p).take k) := by
  have hl : ((zs.drop p).take k).length = k := by simp; omega
  refine ⟨some ⟨b, off + p, none⟩, c, by rw [hl], fun _ => ⟨_, rfl, fun j u hj => ?_⟩⟩
  have hj2 : j < k := by
    have := (List.getElem?_eq_some_iff.1 hj).1
    simp at this; omega
  have e : (⟨b, off + p, none⟩ : Addr).add j = ⟨b, off + (p + j), none⟩ := by by_cases hq : j = 0 <;> simp [Addr.add, hq]; omega
  rw [e, hc (p + j) (by omega)]
  rw [List.getElem?_map, List.getElem?_take, if_pos hj2, List.getElem?_drop] at hj
  rw [← hj, List.getElem?_eq_getElem (by omega)]
  simp [List.getD_eq_getElem?_getD, show p + j < zs.length by omega]

theorem crcB_small (zs : List Nat) : ∀ z ∈ crcB zs, z < 256 := by
  intro z hz
  unfold crcB N.lowB at hz
  simp only [List.mem_map] at hz
  obtain ⟨i, _, rfl⟩ := hz
  exact Nat.mod_lt _ (by omega)

theorem sum_end {zs : List Nat} {p : Nat} (h : zs.length < p + 4) : sumF zs p = (10, p) := by
  unfold sumF expF
  rw [crcB_length, if_pos h]

theorem sum_is {zs : List Nat} {p : Nat} (h : ¬ zs.length < p + 4) : sumF zs p = if (zs.drop p).take 4 = crcB (zs.take p) then (0, p + 4) else (12, p + 4) := by
  unfold sumF expF
  rw [crcB_length, if_neg h]

theorem varAll_in {zs : List Nat} {p V q : Nat} (hp : p ≤ zs.length) (h : N.varAll zs p = (V, q, 0)) : V < 9223372036854775808 ∧ q ≤ zs.length := by
  rw [N.varAll_at hp] at h
  have := varRef_in zs p 10 0 0 rfl (by omega) (by simp) (by rw [h])
  rw [h] at this
  exact ⟨this.1, this.2.2⟩

set_option maxHeartbeats 4000000 in
theorem refReadIndex_ok (zs : List Nat) (v : Value) (w : World) (hr : Reads w v zs) (hcap : ∀ a n c, v = .slice a n c → zs.length ≤ c) (hsm : zs.length ≤ 140737488351232) (ho : ∀ z ∈ zs, z < 256) :
    Calls Try.prog 8 #[v] w fun e w' => RiIs 38 w w' e (riF zs) := by
  obtain ⟨a, cap, rfl, hsp⟩ := hr.spot
  have hcap' := hcap _ _ _ rfl
  clear hcap
  have HR := hide hr
  have HO := hide ho
  clear hr ho
  by_cases h0 : zs.length = 0
  · have HF := hide (head_empty h0)
    rw [h0]
    generalize riF zs = R at *
    obtain rfl := unhide HF
    go_enter Try.func8, Try.ntmps8
    go_wp2_with fail
    go_ret3
    exact RiIs.bad (by decide) (Below.refl _ _)
  obtain ⟨b, off, rfl, hcell⟩ := hsp (by omega)
  have hlen0 : 0 < zs.length := by omega
  have c0 := hcell 0 hlen0
  rw [Nat.add_zero] at c0
  have hl0 : (0 : Int) < (zs.length : Int) := by omega
  have hne0 : ((zs.length : Int) == 0) = false := by rw [beq_eq_false_iff_ne]; omega
  by_cases h1 : zs.getD 0 0 = 0
  · obtain ⟨A, hA⟩ : ∃ A, A = N.varAll zs 1 := ⟨_, rfl⟩
    obtain ⟨n, p0, x⟩ := A
    have HF := hide (head_var hlen0 h1 hA.symm)
    have HV := hide (N.refVar_any _ zs 1 w (unhide HR) (unhide HO) (by omega))
    rw [← hA] at HV
    have hin := longF_in zs 1 (by omega)
    have HIN : Hid (x = 0 → n < 9223372036854775808 ∧ p0 ≤ zs.length) := hide (fun hx => by
      unfold longF at hin
      rw [show ((1 : Nat) : Int) = 1 from rfl, ← hA, if_pos hx] at hin
      exact ⟨hin.1, hin.2.2⟩)
    unfold N.tri at HV
    simp only at HV
    rw [h1] at c0
    clear hin hA
    obtain ⟨L, hL⟩ : ∃ L, L = zs.length := ⟨_, rfl⟩
    rw [← hL] at hcap' hsm hl0 hne0 HV HIN HR ⊢
    have HL := hide hL
    have HCELL := hide hcell
    clear hcell hsp hL h0 hlen0
    generalize riF zs = R at *
    by_cases hx : x = 0
    · subst hx
      rw [if_neg (by simp)] at HF
      obtain ⟨hn63, hp0⟩ := unhide HIN rfl
      by_cases hbig : 65536 < n
      · rw [if_pos hbig] at HF
        obtain rfl := unhide HF
        have hbi : (65536 : Int) < (n : Int) := by omega
        go_enter Try.func8, Try.ntmps8
        go_wp2_with fail
        refine (unhide HV).mono ?_
        rintro e w1 ⟨rfl, h1⟩
        have H1 := hide h1
        clear h1
        go_wp2_with fail
        go_ret3
        exact RiIs.bad (by decide) (unhide H1)
      · rw [if_neg hbig] at HF
        have hbi : ¬ (65536 : Int) < (n : Int) := by omega
        go_enter Try.func8, Try.ntmps8
        go_wp2_with fail
        refine (unhide HV).mono ?_
        rintro e w1 ⟨rfl, h1⟩
        have H1 := hide h1
        clear h1 HV HIN c0
        go_wp2_with fail
        go_loopg [6, 8, 9] n (fun gk at' b' c ws => ∃ (i q : Nat) (rs : List (Int × Int)) (vb : Value), gk = n - i ∧ i ≤ n ∧ b' = vb ∧ at' = .int .i64 (q : Int) ∧ c = .int .i64 (i : Int) ∧ q ≤ L ∧ Hid (R = tailF zs (recsGo zs (n - i) q rs)) ∧ Hid (StR 38 w ws vb rs) ∧ Hid (rs.length = i))
        case atStart => exact ⟨0, p0, [], _, by omega, by omega, rfl, rfl, rfl, hp0, HF, hide ⟨World.ownsRow_nil _ _ _ _, unhide H1⟩, hide rfl⟩
        case round =>
          obtain ⟨i, q, rs, vb, rfl, hi, rfl, rfl, rfl, hq, HG, HS, HRL⟩ := hrel
          clear H1 HF
          by_cases hlt : i < n
          · obtain ⟨A, hA⟩ : ∃ A, A = N.varAll zs q := ⟨_, rfl⟩
            obtain ⟨s, q1, x⟩ := A
            have hrd := recs_round (k := n - (i + 1)) (rs := rs) hA.symm
            rw [show n - (i + 1) + 1 = n - i by omega] at hrd
            have HV1 := hide (N.refVar_any _ zs (q : Int) wr ((unhide HR).stays (unhide HS).bel) (unhide HO) (by rw [← unhide HL]; omega))
            rw [← hA] at HV1
            unfold N.tri at HV1
            simp only at HV1
            have HIN1 : Hid (x = 0 → s < 9223372036854775808 ∧ q1 ≤ L) := hide (fun hx => by rw [unhide HL]; exact varAll_in (by rw [← unhide HL]; exact hq) (by rw [← hA, hx]))
            have hki : (i : Int) < (n : Int) := by omega
            have HLT := hide hlt
            clear hA hlt
            by_cases hx : x = 0
            · subst hx
              obtain ⟨hs63, hq1⟩ := unhide HIN1 rfl
              rw [if_neg (by simp)] at hrd
              obtain ⟨B, hB⟩ : ∃ B, B = N.varAll zs q1 := ⟨_, rfl⟩
              have HV2 : Hid (∀ W, Below wr.heap.size wr W → _) := hide (fun W hW => N.refVar_any _ zs (q1 : Int) W (((unhide HR).stays (unhide HS).bel).stays hW) (unhide HO) (by rw [← unhide HL]; omega))
              obtain ⟨t, q2, y⟩ := B
              rw [← hB] at hrd HV2
              unfold N.tri at HV2
              simp only at HV2 hrd
              have HIN2 : Hid (y = 0 → t < 9223372036854775808 ∧ q2 ≤ L) := hide (fun hy => by rw [unhide HL]; exact varAll_in (by rw [← unhide HL]; exact hq1) (by rw [← hB, hy]))
              clear hB
              by_cases hy : y = 0
              · subst hy
                obtain ⟨ht63, hq2⟩ := unhide HIN2 rfl
                rw [if_neg (by simp)] at hrd
                have HRD := hide hrd
                have HM : Hid (∀ W, _) := hide (fun W => may_ok (s : Int) (t : Int) W)
                obtain ⟨av, cv, rfl⟩ := ownR_shape (unhide HS).own
                rw [unhide HRL] at HS ⊢
                clear hrd
                go_wp2_with fail
                refine (unhide HV1).mono ?_
                rintro e w2 ⟨rfl, h2⟩
                have H2 := hide h2
                clear h2
                go_wp2_with fail
                refine (unhide HV2 _ (unhide H2)).mono ?_
                rintro e w3 ⟨rfl, h3⟩
                have H3 := hide ((unhide H2).trans (h3.mono (unhide H2).size))
                clear h3 H2 HV1 HV2 HIN1 HIN2
                go_upto_region 22 with fail
                obtain ⟨W3, hW3⟩ : ∃ W3, W3 = w3.alloc (.cells #[.int .i64 (s : Int), .int .i64 (t : Int)] 38) := ⟨_, rfl⟩
                have k0 : W3.cell? ⟨w3.heap.size, 0, none⟩ = some (.int .i64 (s : Int)) := by rw [hW3]; simp only [World.cell?, heap_alloc_new]; rfl
                have k1 : W3.cell? ⟨w3.heap.size, 1, none⟩ = some (.int .i64 (t : Int)) := by rw [hW3]; simp only [World.cell?, heap_alloc_new]; rfl
                have HB3 : Hid (Below wr.heap.size wr W3) := hide (by rw [hW3]; exact (unhide H3).alloc (unhide H3).size _)
                rw [← hW3]
                generalize w3.heap.size = gx at *
                clear hW3 H3
                cases hm : may (s : Int) (t : Int) with
                | true =>
                  rw [hm] at HM HRD
                  rw [if_pos rfl] at HRD
                  rw [unhide HRD] at HG
                  go_wp2_with fail
                  refine (unhide HM _).mono ?_
                  rintro e w4 ⟨rfl, h4⟩
                  have j0 := cell_stays h4 k0
                  have j1 := cell_stays h4 k1
                  have HS4 := hide ((unhide HS).stays ((unhide HB3).trans (h4.mono (unhide HB3).size)))
                  clear h4 k0 k1 HS
                  go_wp2_with (at_builtin; go_must (refine wp_oneR rfl (.tmp 68) (.tmp 70) 29 38 rfl Try.underlying29 info38 (.slice av i cv) rs (s : Int) (t : Int) rfl rfl (unhide HS4) (by rw [unhide HRL]; omega) ?_; intro v5 w5 h5 h6; have H5 := hide h5; clear h5 h6))
                  go_roundg (n - (i + 1))
                  case measure => have := unhide HLT; omega
                  case rel => exact ⟨i + 1, q2, _, _, rfl, unhide HLT, rfl, rfl, by go_num, hq2, HG, H5, hide (by rw [List.length_append, unhide HRL]; rfl)⟩
                | false =>
                  rw [hm] at HM HRD
                  rw [if_neg (by decide)] at HRD
                  obtain rfl : R = ([], 0, 11) := by rw [unhide HG, unhide HRD]; exact tail_err (by decide)
                  go_wp2_with fail
                  refine (unhide HM _).mono ?_
                  rintro e w4 ⟨rfl, h4⟩
                  have H4 := hide ((unhide HB3).trans (h4.mono (unhide HB3).size))
                  clear h4
                  go_wp2_with fail
                  go_ret3
                  exact RiIs.bad (by decide) ((unhide HS).bel.trans ((unhide H4).mono (unhide HS).bel.size))
              · rw [if_pos hy] at hrd
                have hyy : ((y : Int) != 0) = true := by rw [bne_iff_ne]; omega
                obtain rfl : R = ([], 0, y) := by rw [unhide HG, hrd]; exact tail_err hy
                clear hrd
                go_wp2_with fail
                refine (unhide HV1).mono ?_
                rintro e w2 ⟨rfl, h2⟩
                have H2 := hide h2
                clear h2
                go_wp2_with fail
                refine (unhide HV2 _ (unhide H2)).mono ?_
                rintro e w3 ⟨rfl, h3⟩
                have H3 := hide ((unhide H2).trans (h3.mono (unhide H2).size))
                clear h3 H2
                go_wp2_with fail
                go_ret3
                exact RiIs.bad hy ((unhide HS).bel.trans ((unhide H3).mono (unhide HS).bel.size))
            · rw [if_pos hx] at hrd
              have hxx : ((x : Int) != 0) = true := by rw [bne_iff_ne]; omega
              obtain rfl : R = ([], 0, x) := by rw [unhide HG, hrd]; exact tail_err hx
              clear hrd
              go_wp2_with fail
              refine (unhide HV1).mono ?_
              rintro e w2 ⟨rfl, h2⟩
              have H2 := hide h2
              clear h2
              go_wp2_with fail
              go_ret3
              exact RiIs.bad hx ((unhide HS).bel.trans ((unhide H2).mono (unhide HS).bel.size))
          · obtain rfl : i = n := by omega
            have HN : Hid (recsGo zs (i - i) q rs = (rs, 0, q)) := hide (by rw [Nat.sub_self, recsGo])
            rw [unhide HN] at HG
            have HGT : Hid (tailF zs (rs, 0, q) = if (fillGo zs (lack q) q).1 ≠ 0 then ([], 0, (fillGo zs (lack q) q).1) else if (sumF zs (fillGo zs (lack q) q).2).1 ≠ 0 then ([], 0, (sumF zs (fillGo zs (lack q) q).2).1) else (rs, (sumF zs (fillGo zs (lack q) q).2).2, 0)) := hide (by rw [tailF, if_neg (by simp)])
            rw [unhide HGT] at HG
            have HSM := hide hsm
            clear HGT HN HRL hn63 hbi hbig
            go_wp2_with fail
            go_loopg [6] (lack q) (fun gk at' ws => ∃ (q' : Nat), gk = lack q' ∧ at' = .int .i64 (q' : Int) ∧ q' ≤ L ∧ Hid (fillGo zs (lack q) q = fillGo zs (lack q') q') ∧ ws = wr)
            case atStart => exact ⟨q, rfl, rfl, hq, hide rfl, rfl⟩
            case round =>
              obtain ⟨q', rfl, rfl, hq', HK, rfl⟩ := hrel
              have hm4 : Int.tmod (q' : Int) 4 = ((q' % 4 : Nat) : Int) := rfl
              by_cases hz : q' % 4 = 0
              · have hz' : (((q' % 4 : Nat) : Int) != 0) = false := by rw [hz]; rfl
                have HK2 : Hid (fillGo zs (lack q) q = (0, q')) := hide (by rw [unhide HK, fill_stop _ hz, fillGo])
                rw [unhide HK2, if_neg (by simp)] at HG
                clear hz hm4
                by_cases hend : L < q' + 4
                · have HE : Hid (sumF zs q' = (10, q')) := hide (sum_end (by rw [← unhide HL]; exact hend))
                  rw [unhide HE, if_pos (by simp)] at HG
                  obtain rfl := unhide HG
                  have hei : (L : Int) - (q' : Int) < 4 := by omega
                  go_wp2_with fail
                  go_ret3
                  exact RiIs.bad (by decide) (unhide HS).bel
                · have HE : Hid (sumF zs q' = if (zs.drop q').take 4 = crcB (zs.take q') then (0, q' + 4) else (12, q' + 4)) := hide (sum_is (by rw [← unhide HL]; exact hend))
                  have hei : ¬ (L : Int) - (q' : Int) < 4 := by omega
                  have hq4 : q' + 4 ≤ cap := by omega
                  have hqc : q' ≤ cap := by omega
                  have fw : IntKind.i64.wrap ((q' : Int) + 4) = (q' : Int) + 4 := by rw [IntKind.wrap_i64]; omega
                  have fw0 : (0 : Int) ≤ (q' : Int) + 4 := by omega
                  have fwt : ((q' : Int) + 4).toNat = q' + 4 := by omega
                  have hqd : ¬ cap = q' := by omega
                  have hq4i : (q' : Int) + 4 ≤ (cap : Int) := by omega
                  have HCW : Hid (∀ W, Below wr.heap.size wr W → ∀ j, j < zs.length → W.cell? ⟨b, off + j, none⟩ = some (bv (zs.getD j 0))) := hide (fun W hW j hj => cell_stays hW (cell_stays (unhide HS).bel (unhide HCELL j hj)))
                  have HSUB : Hid (∀ W, Below wr.heap.size wr W → (convert 23 9 (.slice (some ⟨b, off + q', none⟩) 4 (cap - q'))).run Try.prog W = .ok (.string ⟨(((zs.drop q').take 4).map UInt8.ofNat).toArray⟩) W) := hide (fun W hW => conv_reads (sub_reads (unhide HCW W hW) (by rw [← unhide HL]; omega)) (drop_take_small (unhide HO) q' 4))
                  have HCR : Hid (Calls Try.prog 19 #[.slice (some ⟨b, off, none⟩) q' cap] wr.drew _) := hide (refCrc_ok _ (zs.take q') wr.drew (by have := sub_reads (p := 0) (k := q') (c := cap) (unhide HCW wr.drew (below_drew (Below.refl _ _) 1)) (by rw [← unhide HL]; omega); simpa using this) (fun z hz => unhide HO z (List.mem_of_mem_take hz)) (by simp; omega))
                  have hsub := unhide HSUB wr.drew (below_drew (Below.refl _ _) 1)
                  have HCB := hide (crcB_length (zs.take q'))
                  have HCS := hide (crcB_small (zs.take q'))
                  have HTS := hide (drop_take_small (unhide HO) q' 4)
                  generalize (zs.drop q').take 4 = ts at *
                  generalize crcB (zs.take q') = cb at *
                  have HEQ := hide (map8_eq (unhide HCS) (unhide HTS))
                  clear hend
                  by_cases heq : ts = cb
                  · rw [unhide HE, if_pos heq, if_neg (by simp)] at HG
                    obtain rfl := unhide HG
                    have hmq : (List.map UInt8.ofNat cb == List.map UInt8.ofNat ts) = true := by rw [unhide HEQ]; exact decide_eq_true heq.symm
                    go_wp2_with fail
                    go_region_law (refine step_call 19 #[.slice (some ⟨b, off, none⟩) q' cap] rfl (by go_simp) ?_; refine (unhide HCR).mono ?_; rintro e w1 ⟨v', rfl, h1⟩; obtain ⟨gs, cs, rfl, _, _, _⟩ := h1.made (by rw [unhide HCB]; omega); rw [unhide HCB]; have hcv := conv_reads h1.reads (unhide HCS); rw [unhide HCB] at hcv; have hsub1 := unhide HSUB w1 (undrew h1.bel); have H1 := hide (undrew h1.bel); clear h1; refine ⟨_, rfl, ?_⟩)
                    all_goals (go_wp2_with fail; go_ret3; exact ⟨_, by rw [show ((q' + 4 : Nat) : Int) = (q' : Int) + 4 by omega]; rfl, fun _ => (unhide HS).stays (unhide H1), fun h => absurd rfl h, (unhide HS).bel.trans ((unhide H1).mono (unhide HS).bel.size)⟩)
                  · rw [unhide HE, if_neg heq, if_pos (by simp)] at HG
                    obtain rfl := unhide HG
                    have hmq : (List.map UInt8.ofNat cb == List.map UInt8.ofNat ts) = false := by rw [unhide HEQ]; exact decide_eq_false (fun e => heq e.symm)
                    go_wp2_with fail
                    go_region_law (refine step_call 19 #[.slice (some ⟨b, off, none⟩) q' cap] rfl (by go_simp) ?_; refine (unhide HCR).mono ?_; rintro e w1 ⟨v', rfl, h1⟩; obtain ⟨gs, cs, rfl, _, _, _⟩ := h1.made (by rw [unhide HCB]; omega); rw [unhide HCB]; have hcv := conv_reads h1.reads (unhide HCS); rw [unhide HCB] at hcv; have hsub1 := unhide HSUB w1 (undrew h1.bel); have H1 := hide (undrew h1.bel); clear h1; refine ⟨_, rfl, ?_⟩)
                    all_goals (go_wp2_with fail; go_ret3; exact RiIs.bad (by decide) ((unhide HS).bel.trans ((unhide H1).mono (unhide HS).bel.size)))
              · have hz' : (((q' % 4 : Nat) : Int) != 0) = true := by rw [bne_iff_ne]; omega
                have HK2 : Hid (fillGo zs (lack q) q = if (expF zs q' [0] 11).1 = 0 then fillGo zs (lack (q' + 1)) (expF zs q' [0] 11).2 else expF zs q' [0] 11) := hide (by rw [unhide HK, fill_step _ hz, fillGo])
                have HZ4 := hide (fill_step _ hz)
                clear hz
                generalize q' % 4 = r4 at *
                by_cases hend : L ≤ q'
                · have HE : Hid (expF zs q' [0] 11 = (10, q')) := hide (exp_end (by rw [← unhide HL]; exact hend))
                  rw [unhide HE, if_neg (by simp)] at HK2
                  obtain rfl : R = ([], 0, 10) := by rw [unhide HG, unhide HK2]; rfl
                  have hei : (L : Int) ≤ (q' : Int) := by omega
                  go_wp2_with fail
                  go_ret3
                  exact RiIs.bad (by decide) (unhide HS).bel
                · have hei : ¬ (L : Int) ≤ (q' : Int) := by omega
                  have hei2 : (q' : Int) < (L : Int) := by omega
                  have HE : Hid (expF zs q' [0] 11 = if zs.getD q' 0 = 0 then (0, q' + 1) else (11, q' + 1)) := hide (exp_one (by rw [← unhide HL]; omega))
                  have hcl := cell_stays (unhide HS).bel (unhide HCELL q' (by rw [← unhide HL]; omega))
                  generalize zs.getD q' 0 = z at hcl HE
                  by_cases hz0 : z = 0
                  · subst hz0
                    rw [unhide HE, if_pos rfl, if_pos rfl] at HK2
                    go_wp2_with fail
                    go_roundg (lack (q' + 1))
                    case measure => have := unhide HZ4; omega
                    case rel => exact ⟨q' + 1, rfl, by go_num, by omega, HK2, rfl⟩
                  · rw [unhide HE, if_neg hz0, if_neg (by simp)] at HK2
                    obtain rfl : R = ([], 0, 11) := by rw [unhide HG, unhide HK2]; rfl
                    have hzz : ((z : Int) != 0) = true := by rw [bne_iff_ne]; omega
                    go_wp2_with fail
                    go_ret3
                    exact RiIs.bad (by decide) (unhide HS).bel
    · rw [if_pos hx] at HF
      obtain rfl := unhide HF
      have hxx : ((x : Int) != 0) = true := by simp; omega
      go_enter Try.func8, Try.ntmps8
      go_wp2_with fail
      refine (unhide HV).mono ?_
      rintro e w1 ⟨rfl, h1⟩
      have H1 := hide h1
      clear h1
      go_wp2_with fail
      go_ret3
      exact RiIs.bad hx (unhide H1)
  · have HF := hide (head_form hlen0 h1)
    have hcx : ((zs.getD 0 0 : Int) != 0) = true := by rw [bne_iff_ne]; omega
    generalize zs.getD 0 0 = z at *
    generalize zs.length = L at *
    generalize riF zs = R at *
    obtain rfl := unhide HF
    clear hcell hsp
    go_enter Try.func8, Try.ntmps8
    go_wp2_with fail
    go_ret3
    exact RiIs.bad (by decide) (Below.refl _ _)
end Go.Proofs.Ytcppnkbfndhioaa
