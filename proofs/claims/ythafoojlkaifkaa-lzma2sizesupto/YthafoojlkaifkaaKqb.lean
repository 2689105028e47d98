/- The document's chunk, where it is told. -/
import Derived.Test.YthafoojlkaifkaaKm
namespace Go.Proofs.Ythafoojlkaifkaa.K
open Go.RowKit H
set_option maxRecDepth 100000
set_option linter.unusedVariables false
attribute [local go_sem ↓] Go.wp_at_zero Go.wp_at_succ

section
variable {w : World} {va : Option Addr} {vc : Nat} {zs : List Nat} {p : Nat}

set_option maxHeartbeats 4000000 in
theorem good_a6_ep (h : BK w va vc zs) (first props : Bool) (k : Nat) (hk : zs.getD p 0 = k) (hr : 224 ≤ k ∧ k < 256) (hn : p + 1 ≤ zs.length) (hfp : first = true) (hl : p + 6 ≤ zs.length) (hpr : propsB (zs.getD (p + 5) 0) = false) : Calls Try.prog 10 #[.slice va zs.length vc, .int .i64 (p : Int), .bool first, .bool props, .int .i64 1099511627776] w (ChIs (ckF zs p first props 1099511627776) w) := by
  have hbad : badK (zs.getD p 0) first props = false := by rw [hk]; unfold badK; cases first <;> cases props <;> simp at hfp ⊢ <;> omega
  have hk2 : zs.getD p 0 < 256 := getD_small h.sm p
  obtain ⟨KM, hKM⟩ : ∃ KM, KM = k % 32 * 65536 := ⟨_, rfl⟩
  have hkm : KM ≤ 2097152 := by omega
  obtain ⟨NN, hNN⟩ : ∃ NN, NN = two zs (p + 1) + KM := ⟨_, rfl⟩
  have hT1 := two_le h.sm (p + 1)
  have hT3 := two_le h.sm (p + 3)
  have hR : ckF zs p first props 1099511627776 = .err 11 := by
    unfold ckF
    rw [if_neg (by omega), hbad, if_neg (by simp), hk, ← hKM, ← hNN]
    rw [if_neg (by omega)]
    rw [if_neg (by omega)]
    rw [if_neg (by omega)]
    rw [if_neg (by omega)]
    rw [if_neg (by omega)]
    rw [if_neg (by omega)]
    rw [if_neg (by omega)]
    rw [if_pos hpr]
  have HKM := hide hKM
  clear hKM
  have HF := hide (ch_err (w := w) (er := 11) (n := 11) rfl (by decide) hR)
  generalize ChIs (ckF zs p first props 1099511627776) w = POST at HF ⊢
  have hb := h.own (by omega)
  obtain ⟨g, o, rfl, hcell⟩ := hb
  have hc := hcell p (by omega)
  rw [hk] at hc
  have hgl : g < w.heap.size := cell_lt hc
  have tp : ¬ (zs.length : Int) ≤ (p : Int) := by omega
  have tp2 : (p : Int) < (zs.length : Int) := by omega
  have f1 : Hid (wrap64 ((p : Int) + 1) = ((p + 1 : Nat) : Int)) := hide (by have := h.big; unfold wrap64; omega)
  have fk : Hid (wrap64 (k : Int) = (k : Int)) := hide (by unfold wrap64; omega)
  have hcapI : (zs.length : Int) ≤ (vc : Int) := by have := h.cap; omega
  have H1 := hide (h.rd2 (p + 1) (by omega))
  obtain ⟨T, hT⟩ : ∃ T, T = two zs (p + 1) := ⟨_, rfl⟩
  rw [← hT] at H1 hT1 hNN
  obtain ⟨T1, hT1'⟩ : ∃ T1, T1 = T - 1 := ⟨_, rfl⟩
  rw [← hT1'] at H1
  have q1 : Hid (wrap64 ((T1 : Nat) : Int) = (T1 : Int)) := hide (by unfold wrap64; omega)
  have q2 : Hid (wrap64 ((T1 : Int) + 1) = (T : Int)) := hide (by unfold wrap64; omega)
  have KMF := hide (km_facts T k KM NN hT1.1 (unhide HKM) hNN)
  clear hkm hNN
  have H2 := hide (h.rd2 (p + 1 + 2) (by omega))
  obtain ⟨S, hS⟩ : ∃ S, S = two zs (p + 3) := ⟨_, rfl⟩
  rw [show p + 1 + 2 = p + 3 by omega, ← hS] at H2
  rw [← hS] at hT3
  obtain ⟨S1, hS1'⟩ : ∃ S1, S1 = S - 1 := ⟨_, rfl⟩
  rw [← hS1'] at H2
  rw [show p + 1 + 2 = p + 3 by omega] at H1
  have s1 : Hid (wrap64 ((S1 : Nat) : Int) = (S1 : Int)) := hide (by unfold wrap64; omega)
  have s2 : Hid (wrap64 ((S1 : Int) + 1) = (S : Int)) := hide (by unfold wrap64; omega)
  have hb5 := hcell (p + 3 + 2) (by omega)
  have hb5s := getD_small h.sm (p + 3 + 2)
  have q4 : Hid (¬ (zs.length : Int) ≤ ((p + 3 + 2 : Nat) : Int)) := hide (by omega)
  have q4' : Hid (((p + 3 + 2 : Nat) : Int) < (zs.length : Int)) := hide (by omega)
  have HO := hide (rof_any _ hb5s)
  rw [show propsB (zs.getD (p + 3 + 2) 0) = false by rw [show p + 3 + 2 = p + 5 by omega]; exact hpr] at HO
  rw [if_neg (by simp)] at HO
  have s3 : Hid (wrap64 ((zs.getD (p + 3 + 2) 0 : Nat) : Int) = ((zs.getD (p + 3 + 2) 0 : Nat) : Int)) := hide (by unfold wrap64; omega)
  generalize zs.getD (p + 3 + 2) 0 = b5 at *
  generalize p + 3 + 2 = p5 at *
  have t0 : ¬ (k : Int) = 0 := by omega
  have t1 : ¬ (k : Int) = 1 := by omega
  have t2 : (3 : Int) ≤ (k : Int) := by omega
  have t3 : ¬ (k : Int) < 128 := by omega
  have t4 : (1 : Int) < (k : Int) := by omega
  have t5 : ¬ (k : Int) < 224 := by omega
  have t6 : (128 : Int) ≤ (k : Int) := by omega
  have t7 : ¬ (k : Int) < 192 := by omega
  have t8 : (192 : Int) ≤ (k : Int) := by omega
  clear h hk hr hn hcell hbad hR hT1 hT3 hk2 hl hpr hT hT1' hS hS1' hb5s
  subst hfp
  all_goals replace f1 := unhide f1
  all_goals replace fk := unhide fk
  all_goals go_enter Try.func10, Try.ntmps10
  all_goals go_upto_region 9 with fail
  all_goals (obtain ⟨x0, hx0⟩ : ∃ x0, x0 = (w.alloc (.cells #[.int .i64 0, .int .i64 0, .int .i64 0, .int .i64 0, .int .i64 0, .slice none 0 0] 40)).alloc (.cells #[.int .i64 (k : Int), .int .i64 0, .int .i64 0, .int .i64 0, .int .i64 0, .slice none 0 0] 40) := ⟨_, rfl⟩)
  all_goals have hcb0 := CB.first w (k : Int)
  all_goals (rw [← hx0] at hcb0; rw [← hx0])
  all_goals clear hx0
  all_goals (obtain ⟨RES, hRES⟩ : ∃ RES, RES = w.heap.size := ⟨_, rfl⟩)
  all_goals (obtain ⟨C, hC⟩ : ∃ C, C = w.heap.size + 1 := ⟨_, rfl⟩)
  all_goals (rw [← hC, ← hRES] at hcb0; rw [← hC, ← hRES])
  all_goals have hle1 : w.heap.size ≤ RES := by omega
  all_goals have hle2 : w.heap.size ≤ C := by omega
  all_goals have hle3 : ¬ RES = C := by omega
  all_goals have hle4 : ¬ C = RES := by omega
  all_goals clear hC hRES
  all_goals obtain ⟨u0, u1, u2, u3, u4, u5, v0, v1, v2, v3, v4, v5, uf, vf⟩ := hcb0.facts
  all_goals have cbb := hcb0.bl
  all_goals have HCB := hide hcb0
  all_goals clear hcb0
  all_goals have hcg := cell_stays' cbb hc
  all_goals obtain ⟨m, r1, r2, r3, r4⟩ := unhide KMF
  all_goals clear KMF
  all_goals replace q1 := unhide q1
  all_goals replace q2 := unhide q2
  all_goals replace s1 := unhide s1
  all_goals replace s2 := unhide s2
  all_goals replace q4 := unhide q4
  all_goals replace q4' := unhide q4'
  all_goals replace s3 := unhide s3
  all_goals have hb5x := cell_stays' cbb hb5
  all_goals have hgC : ¬ g = C := by omega
  all_goals have hgC2 : ¬ C = g := by omega
  all_goals clear hb5
  all_goals go_wp2_with fail
  all_goals refine (unhide H1 _ (by go_grown)).mono ?_
  all_goals rintro e x ⟨rfl, rfl⟩
  all_goals go_wp2_with fail
  all_goals refine (unhide H2 _ (by go_grown)).mono ?_
  all_goals rintro e x ⟨rfl, rfl⟩
  all_goals go_wp2_with fail
  all_goals refine (unhide HO _).mono ?_
  all_goals rintro e x ⟨a, b, c, rfl, rfl⟩
  all_goals go_upto_region 29 with fail
  all_goals refine on_world fun y hy => ?_
  all_goals have hcbY := (((((unhide HCB).set 1 (.int .i64 (T : Int)) rfl).set 1 (.int .i64 (NN : Int)) rfl).set 2 (.int .i64 a) rfl).set 3 (.int .i64 b) rfl).set 4 (.int .i64 c) rfl
  all_goals rw [← hy] at hcbY
  all_goals clear hy HCB u0 u1 u2 u3 u4 u5 v0 v1 v2 v3 v4 v5 uf vf cbb hcg
  all_goals obtain ⟨u0, u1, u2, u3, u4, u5, v0, v1, v2, v3, v4, v5, uf, vf⟩ := hcbY.facts
  all_goals have HCY := hide hcbY
  all_goals clear hcbY
  all_goals go_wp2_with fail
  all_goals refine on_world fun z hz => ?_
  all_goals obtain ⟨z0, z1, z2, z3, z4, z5, zb⟩ := six_set (unhide HCY) _ _ _ _ _ _ _ hz
  all_goals clear hz u0 u1 u2 u3 u4 u5 v0 v1 v2 v3 v4 v5 uf vf
  all_goals (try simp only [Exit.inBlock, Exit.then])
  all_goals refine bodyPost_ret (by simp [results, Try.results10, go_sem, z0, z1, z2, z3, z4, z5]; try rfl) rfl ?_
  all_goals exact unhide HF _ zb

set_option maxHeartbeats 4000000 in
theorem good_a6_e8 (h : BK w va vc zs) (first props : Bool) (k : Nat) (hk : zs.getD p 0 = k) (hr : 224 ≤ k ∧ k < 256) (hn : p + 1 ≤ zs.length) (hfp : first = true) (hl : p + 6 ≤ zs.length) (hpr : propsB (zs.getD (p + 5) 0) = true) (hl2 : zs.length < p + 6 + two zs (p + 3)) : Calls Try.prog 10 #[.slice va zs.length vc, .int .i64 (p : Int), .bool first, .bool props, .int .i64 1099511627776] w (ChIs (ckF zs p first props 1099511627776) w) := by
  have hbad : badK (zs.getD p 0) first props = false := by rw [hk]; unfold badK; cases first <;> cases props <;> simp at hfp ⊢ <;> omega
  have hk2 : zs.getD p 0 < 256 := getD_small h.sm p
  obtain ⟨KM, hKM⟩ : ∃ KM, KM = k % 32 * 65536 := ⟨_, rfl⟩
  have hkm : KM ≤ 2097152 := by omega
  obtain ⟨NN, hNN⟩ : ∃ NN, NN = two zs (p + 1) + KM := ⟨_, rfl⟩
  have hT1 := two_le h.sm (p + 1)
  have hT3 := two_le h.sm (p + 3)
  have hR : ckF zs p first props 1099511627776 = .err 10 := by
    unfold ckF
    rw [if_neg (by omega), hbad, if_neg (by simp), hk, ← hKM, ← hNN]
    rw [if_neg (by omega)]
    rw [if_neg (by omega)]
    rw [if_neg (by omega)]
    rw [if_neg (by omega)]
    rw [if_neg (by omega)]
    rw [if_neg (by omega)]
    rw [if_neg (by omega)]
    rw [if_neg (by rw [hpr]; simp)]
    rw [if_pos hl2]
  have HKM := hide hKM
  clear hKM
  have HF := hide (ch_err (w := w) (er := 10) (n := 10) rfl (by decide) hR)
  generalize ChIs (ckF zs p first props 1099511627776) w = POST at HF ⊢
  have hb := h.own (by omega)
  obtain ⟨g, o, rfl, hcell⟩ := hb
  have hc := hcell p (by omega)
  rw [hk] at hc
  have hgl : g < w.heap.size := cell_lt hc
  have tp : ¬ (zs.length : Int) ≤ (p : Int) := by omega
  have tp2 : (p : Int) < (zs.length : Int) := by omega
  have f1 : Hid (wrap64 ((p : Int) + 1) = ((p + 1 : Nat) : Int)) := hide (by have := h.big; unfold wrap64; omega)
  have fk : Hid (wrap64 (k : Int) = (k : Int)) := hide (by unfold wrap64; omega)
  have hcapI : (zs.length : Int) ≤ (vc : Int) := by have := h.cap; omega
  have H1 := hide (h.rd2 (p + 1) (by omega))
  obtain ⟨T, hT⟩ : ∃ T, T = two zs (p + 1) := ⟨_, rfl⟩
  rw [← hT] at H1 hT1 hNN
  obtain ⟨T1, hT1'⟩ : ∃ T1, T1 = T - 1 := ⟨_, rfl⟩
  rw [← hT1'] at H1
  have q1 : Hid (wrap64 ((T1 : Nat) : Int) = (T1 : Int)) := hide (by unfold wrap64; omega)
  have q2 : Hid (wrap64 ((T1 : Int) + 1) = (T : Int)) := hide (by unfold wrap64; omega)
  have KMF := hide (km_facts T k KM NN hT1.1 (unhide HKM) hNN)
  clear hkm hNN
  have H2 := hide (h.rd2 (p + 1 + 2) (by omega))
  obtain ⟨S, hS⟩ : ∃ S, S = two zs (p + 3) := ⟨_, rfl⟩
  rw [show p + 1 + 2 = p + 3 by omega, ← hS] at H2
  rw [← hS] at hT3 hl2
  obtain ⟨S1, hS1'⟩ : ∃ S1, S1 = S - 1 := ⟨_, rfl⟩
  rw [← hS1'] at H2
  rw [show p + 1 + 2 = p + 3 by omega] at H1
  have s1 : Hid (wrap64 ((S1 : Nat) : Int) = (S1 : Int)) := hide (by unfold wrap64; omega)
  have s2 : Hid (wrap64 ((S1 : Int) + 1) = (S : Int)) := hide (by unfold wrap64; omega)
  have hb5 := hcell (p + 3 + 2) (by omega)
  have hb5s := getD_small h.sm (p + 3 + 2)
  have q4 : Hid (¬ (zs.length : Int) ≤ ((p + 3 + 2 : Nat) : Int)) := hide (by omega)
  have q4' : Hid (((p + 3 + 2 : Nat) : Int) < (zs.length : Int)) := hide (by omega)
  have HO := hide (rof_any _ hb5s)
  rw [show propsB (zs.getD (p + 3 + 2) 0) = true by rw [show p + 3 + 2 = p + 5 by omega]; exact hpr] at HO
  rw [if_pos rfl] at HO
  have s3 : Hid (wrap64 ((zs.getD (p + 3 + 2) 0 : Nat) : Int) = ((zs.getD (p + 3 + 2) 0 : Nat) : Int)) := hide (by unfold wrap64; omega)
  generalize zs.getD (p + 3 + 2) 0 = b5 at *
  have f6 : Hid (wrap64 (((p + 3 + 2 : Nat) : Int) + 1) = ((p + 3 + 2 + 1 : Nat) : Int)) := hide (by have := h.big; unfold wrap64; omega)
  have q7 : Hid (wrap64 ((zs.length : Int) - ((p + 3 + 2 + 1 : Nat) : Int)) = ((zs.length - (p + 3 + 2 + 1) : Nat) : Int)) := hide (by have := h.big; unfold wrap64; omega)
  have q8 : Hid (((zs.length - (p + 3 + 2 + 1) : Nat) : Int) < (S : Int)) := hide (by omega)
  generalize p + 3 + 2 + 1 = p6 at *
  generalize p + 3 + 2 = p5 at *
  generalize zs.length - p6 = LD at *
  have t0 : ¬ (k : Int) = 0 := by omega
  have t1 : ¬ (k : Int) = 1 := by omega
  have t2 : (3 : Int) ≤ (k : Int) := by omega
  have t3 : ¬ (k : Int) < 128 := by omega
  have t4 : (1 : Int) < (k : Int) := by omega
  have t5 : ¬ (k : Int) < 224 := by omega
  have t6 : (128 : Int) ≤ (k : Int) := by omega
  have t7 : ¬ (k : Int) < 192 := by omega
  have t8 : (192 : Int) ≤ (k : Int) := by omega
  clear h hk hr hn hcell hbad hR hT1 hT3 hk2 hl hl2 hpr hT hT1' hS hS1' hb5s
  subst hfp
  all_goals replace f1 := unhide f1
  all_goals replace fk := unhide fk
  all_goals go_enter Try.func10, Try.ntmps10
  all_goals go_upto_region 9 with fail
  all_goals (obtain ⟨x0, hx0⟩ : ∃ x0, x0 = (w.alloc (.cells #[.int .i64 0, .int .i64 0, .int .i64 0, .int .i64 0, .int .i64 0, .slice none 0 0] 40)).alloc (.cells #[.int .i64 (k : Int), .int .i64 0, .int .i64 0, .int .i64 0, .int .i64 0, .slice none 0 0] 40) := ⟨_, rfl⟩)
  all_goals have hcb0 := CB.first w (k : Int)
  all_goals (rw [← hx0] at hcb0; rw [← hx0])
  all_goals clear hx0
  all_goals (obtain ⟨RES, hRES⟩ : ∃ RES, RES = w.heap.size := ⟨_, rfl⟩)
  all_goals (obtain ⟨C, hC⟩ : ∃ C, C = w.heap.size + 1 := ⟨_, rfl⟩)
  all_goals (rw [← hC, ← hRES] at hcb0; rw [← hC, ← hRES])
  all_goals have hle1 : w.heap.size ≤ RES := by omega
  all_goals have hle2 : w.heap.size ≤ C := by omega
  all_goals have hle3 : ¬ RES = C := by omega
  all_goals have hle4 : ¬ C = RES := by omega
  all_goals clear hC hRES
  all_goals obtain ⟨u0, u1, u2, u3, u4, u5, v0, v1, v2, v3, v4, v5, uf, vf⟩ := hcb0.facts
  all_goals have cbb := hcb0.bl
  all_goals have HCB := hide hcb0
  all_goals clear hcb0
  all_goals have hcg := cell_stays' cbb hc
  all_goals obtain ⟨m, r1, r2, r3, r4⟩ := unhide KMF
  all_goals clear KMF
  all_goals replace q1 := unhide q1
  all_goals replace q2 := unhide q2
  all_goals replace s1 := unhide s1
  all_goals replace s2 := unhide s2
  all_goals replace q4 := unhide q4
  all_goals replace q4' := unhide q4'
  all_goals replace s3 := unhide s3
  all_goals replace f6 := unhide f6
  all_goals replace q7 := unhide q7
  all_goals replace q8 := unhide q8
  all_goals have hb5x := cell_stays' cbb hb5
  all_goals have hgC : ¬ g = C := by omega
  all_goals have hgC2 : ¬ C = g := by omega
  all_goals clear hb5
  all_goals go_wp2_with fail
  all_goals refine (unhide H1 _ (by go_grown)).mono ?_
  all_goals rintro e x ⟨rfl, rfl⟩
  all_goals go_wp2_with fail
  all_goals refine (unhide H2 _ (by go_grown)).mono ?_
  all_goals rintro e x ⟨rfl, rfl⟩
  all_goals go_wp2_with fail
  all_goals refine (unhide HO _).mono ?_
  all_goals rintro e x ⟨a, b, c, rfl, rfl⟩
  all_goals go_upto_region 32 with fail
  all_goals refine on_world fun y hy => ?_
  all_goals have hcbY := (((((unhide HCB).set 1 (.int .i64 (T : Int)) rfl).set 1 (.int .i64 (NN : Int)) rfl).set 2 (.int .i64 a) rfl).set 3 (.int .i64 b) rfl).set 4 (.int .i64 c) rfl
  all_goals rw [← hy] at hcbY
  all_goals clear hy HCB u0 u1 u2 u3 u4 u5 v0 v1 v2 v3 v4 v5 uf vf cbb hcg
  all_goals obtain ⟨u0, u1, u2, u3, u4, u5, v0, v1, v2, v3, v4, v5, uf, vf⟩ := hcbY.facts
  all_goals have HCY := hide hcbY
  all_goals clear hcbY
  all_goals go_wp2_with fail
  all_goals refine on_world fun z hz => ?_
  all_goals obtain ⟨z0, z1, z2, z3, z4, z5, zb⟩ := six_set (unhide HCY) _ _ _ _ _ _ _ hz
  all_goals clear hz u0 u1 u2 u3 u4 u5 v0 v1 v2 v3 v4 v5 uf vf
  all_goals (try simp only [Exit.inBlock, Exit.then])
  all_goals refine bodyPost_ret (by simp [results, Try.results10, go_sem, z0, z1, z2, z3, z4, z5]; try rfl) rfl ?_
  all_goals exact unhide HF _ zb

set_option maxHeartbeats 4000000 in
theorem good_a6_ok (h : BK w va vc zs) (first props : Bool) (k : Nat) (hk : zs.getD p 0 = k) (hr : 224 ≤ k ∧ k < 256) (hn : p + 1 ≤ zs.length) (hfp : first = true) (hl : p + 6 ≤ zs.length) (hpr : propsB (zs.getD (p + 5) 0) = true) (hl2 : p + 6 + two zs (p + 3) ≤ zs.length) : Calls Try.prog 10 #[.slice va zs.length vc, .int .i64 (p : Int), .bool first, .bool props, .int .i64 1099511627776] w (ChIs (ckF zs p first props 1099511627776) w) := by
  have hbad : badK (zs.getD p 0) first props = false := by rw [hk]; unfold badK; cases first <;> cases props <;> simp at hfp ⊢ <;> omega
  have hk2 : zs.getD p 0 < 256 := getD_small h.sm p
  obtain ⟨KM, hKM⟩ : ∃ KM, KM = k % 32 * 65536 := ⟨_, rfl⟩
  have hkm : KM ≤ 2097152 := by omega
  obtain ⟨NN, hNN⟩ : ∃ NN, NN = two zs (p + 1) + KM := ⟨_, rfl⟩
  have hT1 := two_le h.sm (p + 1)
  have hT3 := two_le h.sm (p + 3)
  have hR : ckF zs p first props 1099511627776 = .told k NN (p + 6) (two zs (p + 3)) := by
    unfold ckF
    rw [if_neg (by omega), hbad, if_neg (by simp), hk, ← hKM, ← hNN]
    rw [if_neg (by omega)]
    rw [if_neg (by omega)]
    rw [if_neg (by omega)]
    rw [if_neg (by omega)]
    rw [if_neg (by omega)]
    rw [if_neg (by omega)]
    rw [if_neg (by omega)]
    rw [if_neg (by rw [hpr]; simp)]
    rw [if_neg (by omega)]
  have HKM := hide hKM
  clear hKM
  have HF := hide (ch_told (w := w) hR (k : Int) ((NN : Nat) : Int) ((p + 3 + 2 + 1 + two zs (p + 3) : Nat) : Int) rfl rfl (by omega))
  generalize ChIs (ckF zs p first props 1099511627776) w = POST at HF ⊢
  have hb := h.own (by omega)
  obtain ⟨g, o, rfl, hcell⟩ := hb
  have hc := hcell p (by omega)
  rw [hk] at hc
  have hgl : g < w.heap.size := cell_lt hc
  have tp : ¬ (zs.length : Int) ≤ (p : Int) := by omega
  have tp2 : (p : Int) < (zs.length : Int) := by omega
  have f1 : Hid (wrap64 ((p : Int) + 1) = ((p + 1 : Nat) : Int)) := hide (by have := h.big; unfold wrap64; omega)
  have fk : Hid (wrap64 (k : Int) = (k : Int)) := hide (by unfold wrap64; omega)
  have hcapI : (zs.length : Int) ≤ (vc : Int) := by have := h.cap; omega
  have H1 := hide (h.rd2 (p + 1) (by omega))
  obtain ⟨T, hT⟩ : ∃ T, T = two zs (p + 1) := ⟨_, rfl⟩
  rw [← hT] at H1 hT1 hNN
  obtain ⟨T1, hT1'⟩ : ∃ T1, T1 = T - 1 := ⟨_, rfl⟩
  rw [← hT1'] at H1
  have q1 : Hid (wrap64 ((T1 : Nat) : Int) = (T1 : Int)) := hide (by unfold wrap64; omega)
  have q2 : Hid (wrap64 ((T1 : Int) + 1) = (T : Int)) := hide (by unfold wrap64; omega)
  have KMF := hide (km_facts T k KM NN hT1.1 (unhide HKM) hNN)
  clear hkm hNN
  have H2 := hide (h.rd2 (p + 1 + 2) (by omega))
  obtain ⟨S, hS⟩ : ∃ S, S = two zs (p + 3) := ⟨_, rfl⟩
  rw [show p + 1 + 2 = p + 3 by omega, ← hS] at H2
  rw [← hS] at hT3 HF hl2
  obtain ⟨S1, hS1'⟩ : ∃ S1, S1 = S - 1 := ⟨_, rfl⟩
  rw [← hS1'] at H2
  rw [show p + 1 + 2 = p + 3 by omega] at H1
  have s1 : Hid (wrap64 ((S1 : Nat) : Int) = (S1 : Int)) := hide (by unfold wrap64; omega)
  have s2 : Hid (wrap64 ((S1 : Int) + 1) = (S : Int)) := hide (by unfold wrap64; omega)
  have hb5 := hcell (p + 3 + 2) (by omega)
  have hb5s := getD_small h.sm (p + 3 + 2)
  have q4 : Hid (¬ (zs.length : Int) ≤ ((p + 3 + 2 : Nat) : Int)) := hide (by omega)
  have q4' : Hid (((p + 3 + 2 : Nat) : Int) < (zs.length : Int)) := hide (by omega)
  have HO := hide (rof_any _ hb5s)
  rw [show propsB (zs.getD (p + 3 + 2) 0) = true by rw [show p + 3 + 2 = p + 5 by omega]; exact hpr] at HO
  rw [if_pos rfl] at HO
  have s3 : Hid (wrap64 ((zs.getD (p + 3 + 2) 0 : Nat) : Int) = ((zs.getD (p + 3 + 2) 0 : Nat) : Int)) := hide (by unfold wrap64; omega)
  generalize zs.getD (p + 3 + 2) 0 = b5 at *
  have f6 : Hid (wrap64 (((p + 3 + 2 : Nat) : Int) + 1) = ((p + 3 + 2 + 1 : Nat) : Int)) := hide (by have := h.big; unfold wrap64; omega)
  have q7 : Hid (wrap64 ((zs.length : Int) - ((p + 3 + 2 + 1 : Nat) : Int)) = ((zs.length - (p + 3 + 2 + 1) : Nat) : Int)) := hide (by have := h.big; unfold wrap64; omega)
  have q8 : Hid (¬ ((zs.length - (p + 3 + 2 + 1) : Nat) : Int) < (S : Int)) := hide (by omega)
  have q6 : Hid (wrap64 (((p + 3 + 2 + 1 : Nat) : Int) + (S : Int)) = ((p + 3 + 2 + 1 + S : Nat) : Int)) := hide (by have := h.big; unfold wrap64; omega)
  have g1 : Hid (¬ vc = p + 3 + 2 + 1) := hide (by have := h.cap; omega)
  have g2 : Hid (((p + 3 + 2 + 1 + S : Nat) : Int) ≤ (vc : Int)) := hide (by have := h.cap; omega)
  have g3 : Hid (p + 3 + 2 + 1 + S ≤ vc) := hide (by have := h.cap; omega)
  have g4 : Hid (p + 3 + 2 + 1 ≤ p + 3 + 2 + 1 + S) := hide (by omega)
  have g5 : Hid (((p + 3 + 2 + 1 : Nat) : Int) ≤ ((p + 3 + 2 + 1 + S : Nat) : Int)) := hide (by omega)
  generalize p + 3 + 2 + 1 + S = pe at *
  generalize p + 3 + 2 + 1 = p6 at *
  generalize p + 3 + 2 = p5 at *
  generalize zs.length - p6 = LD at *
  have t0 : ¬ (k : Int) = 0 := by omega
  have t1 : ¬ (k : Int) = 1 := by omega
  have t2 : (3 : Int) ≤ (k : Int) := by omega
  have t3 : ¬ (k : Int) < 128 := by omega
  have t4 : (1 : Int) < (k : Int) := by omega
  have t5 : ¬ (k : Int) < 224 := by omega
  have t6 : (128 : Int) ≤ (k : Int) := by omega
  have t7 : ¬ (k : Int) < 192 := by omega
  have t8 : (192 : Int) ≤ (k : Int) := by omega
  clear h hk hr hn hcell hbad hR hT1 hT3 hk2 hl hl2 hpr hT hT1' hS hS1' hb5s
  subst hfp
  all_goals replace f1 := unhide f1
  all_goals replace fk := unhide fk
  all_goals go_enter Try.func10, Try.ntmps10
  all_goals go_upto_region 9 with fail
  all_goals (obtain ⟨x0, hx0⟩ : ∃ x0, x0 = (w.alloc (.cells #[.int .i64 0, .int .i64 0, .int .i64 0, .int .i64 0, .int .i64 0, .slice none 0 0] 40)).alloc (.cells #[.int .i64 (k : Int), .int .i64 0, .int .i64 0, .int .i64 0, .int .i64 0, .slice none 0 0] 40) := ⟨_, rfl⟩)
  all_goals have hcb0 := CB.first w (k : Int)
  all_goals (rw [← hx0] at hcb0; rw [← hx0])
  all_goals clear hx0
  all_goals (obtain ⟨RES, hRES⟩ : ∃ RES, RES = w.heap.size := ⟨_, rfl⟩)
  all_goals (obtain ⟨C, hC⟩ : ∃ C, C = w.heap.size + 1 := ⟨_, rfl⟩)
  all_goals (rw [← hC, ← hRES] at hcb0; rw [← hC, ← hRES])
  all_goals have hle1 : w.heap.size ≤ RES := by omega
  all_goals have hle2 : w.heap.size ≤ C := by omega
  all_goals have hle3 : ¬ RES = C := by omega
  all_goals have hle4 : ¬ C = RES := by omega
  all_goals clear hC hRES
  all_goals obtain ⟨u0, u1, u2, u3, u4, u5, v0, v1, v2, v3, v4, v5, uf, vf⟩ := hcb0.facts
  all_goals have cbb := hcb0.bl
  all_goals have HCB := hide hcb0
  all_goals clear hcb0
  all_goals have hcg := cell_stays' cbb hc
  all_goals obtain ⟨m, r1, r2, r3, r4⟩ := unhide KMF
  all_goals clear KMF
  all_goals replace q1 := unhide q1
  all_goals replace q2 := unhide q2
  all_goals replace s1 := unhide s1
  all_goals replace s2 := unhide s2
  all_goals replace q4 := unhide q4
  all_goals replace q4' := unhide q4'
  all_goals replace s3 := unhide s3
  all_goals replace f6 := unhide f6
  all_goals replace q7 := unhide q7
  all_goals replace q8 := unhide q8
  all_goals replace q6 := unhide q6
  all_goals replace g1 := unhide g1
  all_goals replace g2 := unhide g2
  all_goals replace g3 := unhide g3
  all_goals replace g4 := unhide g4
  all_goals replace g5 := unhide g5
  all_goals have hb5x := cell_stays' cbb hb5
  all_goals have hgC : ¬ g = C := by omega
  all_goals have hgC2 : ¬ C = g := by omega
  all_goals clear hb5
  all_goals go_wp2_with fail
  all_goals refine (unhide H1 _ (by go_grown)).mono ?_
  all_goals rintro e x ⟨rfl, rfl⟩
  all_goals go_wp2_with fail
  all_goals refine (unhide H2 _ (by go_grown)).mono ?_
  all_goals rintro e x ⟨rfl, rfl⟩
  all_goals go_wp2_with fail
  all_goals refine (unhide HO _).mono ?_
  all_goals rintro e x ⟨a, b, c, rfl, rfl⟩
  all_goals go_upto_region 34 with fail
  all_goals refine on_world fun y hy => ?_
  all_goals have hcbY := ((((((unhide HCB).set 1 (.int .i64 (T : Int)) rfl).set 1 (.int .i64 (NN : Int)) rfl).set 2 (.int .i64 a) rfl).set 3 (.int .i64 b) rfl).set 4 (.int .i64 c) rfl).set 5 (.slice (some ⟨g, o + p6, none⟩) (pe - p6) (vc - p6)) rfl
  all_goals rw [← hy] at hcbY
  all_goals clear hy HCB u0 u1 u2 u3 u4 u5 v0 v1 v2 v3 v4 v5 uf vf cbb hcg
  all_goals obtain ⟨u0, u1, u2, u3, u4, u5, v0, v1, v2, v3, v4, v5, uf, vf⟩ := hcbY.facts
  all_goals have HCY := hide hcbY
  all_goals clear hcbY
  all_goals go_wp2_with fail
  all_goals refine on_world fun z hz => ?_
  all_goals obtain ⟨z0, z1, z2, z3, z4, z5, zb⟩ := six_set (unhide HCY) _ _ _ _ _ _ _ hz
  all_goals clear hz u0 u1 u2 u3 u4 u5 v0 v1 v2 v3 v4 v5 uf vf
  all_goals (try simp only [Exit.inBlock, Exit.then])
  all_goals refine bodyPost_ret (by simp [results, Try.results10, go_sem, z0, z1, z2, z3, z4, z5]; try rfl) rfl ?_
  all_goals (try rw [q6])
  all_goals exact unhide HF _ _ _ _ _ _ _ zb

end
end Go.Proofs.Ythafoojlkaifkaa.K
