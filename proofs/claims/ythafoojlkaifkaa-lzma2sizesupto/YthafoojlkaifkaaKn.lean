/- The document's chunk, where it is told. -/
import Derived.Test.YthafoojlkaifkaaKm
namespace Go.Proofs.Ythafoojlkaifkaa.K
open Go.RowKit H
set_option maxRecDepth 100000
set_option linter.unusedVariables false
attribute [local go_sem ↓] Go.wp_at_zero Go.wp_at_succ

section
variable {w : World} {va : Option Addr} {vc : Nat} {zs : List Nat} {p : Nat}

set_option maxHeartbeats 4000000 in
theorem good_a0_x (h : BK w va vc zs) (first props : Bool) (k : Nat) (hk : zs.getD p 0 = k) (hr : k = 0) (hn : p + 1 ≤ zs.length) (hfp : True)  : Calls Try.prog 10 #[.slice va zs.length vc, .int .i64 (p : Int), .bool first, .bool props, .int .i64 1099511627776] w (ChIs (ckF zs p first props 1099511627776) w) := by
  have hbad : badK (zs.getD p 0) first props = false := by rw [hk]; unfold badK; cases first <;> cases props <;> simp at hfp ⊢ <;> omega
  have hk2 : zs.getD p 0 < 256 := getD_small h.sm p
  have hT1 := two_le h.sm (p + 1)
  have hT3 := two_le h.sm (p + 3)
  have hR : ckF zs p first props 1099511627776 = .told 0 0 (p + 1) 0 := by
    unfold ckF
    rw [if_neg (by omega), hbad, if_neg (by simp), hk]
    rw [if_pos hr]
  have HF := hide (ch_told (w := w) hR 0 0 ((p + 1 : Nat) : Int) rfl rfl (by simp))
  generalize ChIs (ckF zs p first props 1099511627776) w = POST at HF ⊢
  have hb := h.own (by omega)
  obtain ⟨g, o, rfl, hcell⟩ := hb
  have hc := hcell p (by omega)
  rw [hk] at hc
  have hgl : g < w.heap.size := cell_lt hc
  have tp : ¬ (zs.length : Int) ≤ (p : Int) := by omega
  have tp2 : (p : Int) < (zs.length : Int) := by omega
  have f1 : Hid (wrap64 ((p : Int) + 1) = ((p + 1 : Nat) : Int)) := hide (by have := h.big; unfold wrap64; omega)
  have fk : Hid (wrap64 (k : Int) = (k : Int)) := hide (by unfold wrap64; omega)
  have hcapI : (zs.length : Int) ≤ (vc : Int) := by have := h.cap; omega
  have t0 : (k : Int) = 0 := by omega
  have t1 : ¬ (k : Int) = 1 := by omega
  have t2 : ¬ (3 : Int) ≤ (k : Int) := by omega
  have t3 : (k : Int) < 128 := by omega
  have t4 : ¬ (1 : Int) < (k : Int) := by omega
  have t5 : (k : Int) < 224 := by omega
  have t6 : ¬ (128 : Int) ≤ (k : Int) := by omega
  have t7 : (k : Int) < 192 := by omega
  have t8 : ¬ (192 : Int) ≤ (k : Int) := by omega
  clear h hk hn hcell hbad hR hT1 hT3 hk2 t0 t1 t2 t3 t4 t5 t6 t7 t8
  subst hr
  clear hfp
  cases first
  all_goals replace f1 := unhide f1
  all_goals replace fk := unhide fk
  all_goals go_enter Try.func10, Try.ntmps10
  all_goals go_wp2_with fail
  all_goals first
  | exact unhide HF _ _ _ _ _ _ _ (by go_grown)
  | (go_returns; exact unhide HF _ _ _ _ _ _ _ (by go_grown))

set_option maxHeartbeats 4000000 in
theorem good_a1_e3 (h : BK w va vc zs) (first props : Bool) (k : Nat) (hk : zs.getD p 0 = k) (hr : k = 1) (hn : p + 1 ≤ zs.length) (hfp : True) (hl : zs.length < p + 3) : Calls Try.prog 10 #[.slice va zs.length vc, .int .i64 (p : Int), .bool first, .bool props, .int .i64 1099511627776] w (ChIs (ckF zs p first props 1099511627776) w) := by
  have hbad : badK (zs.getD p 0) first props = false := by rw [hk]; unfold badK; cases first <;> cases props <;> simp at hfp ⊢ <;> omega
  have hk2 : zs.getD p 0 < 256 := getD_small h.sm p
  have hT1 := two_le h.sm (p + 1)
  have hT3 := two_le h.sm (p + 3)
  have hR : ckF zs p first props 1099511627776 = .err 10 := by
    unfold ckF
    rw [if_neg (by omega), hbad, if_neg (by simp), hk]
    rw [if_neg (by omega)]
    rw [if_pos hl]
  have HF := hide (ch_err (w := w) (er := 10) (n := 10) rfl (by decide) hR)
  generalize ChIs (ckF zs p first props 1099511627776) w = POST at HF ⊢
  have hb := h.own (by omega)
  obtain ⟨g, o, rfl, hcell⟩ := hb
  have hc := hcell p (by omega)
  rw [hk] at hc
  have hgl : g < w.heap.size := cell_lt hc
  have tp : ¬ (zs.length : Int) ≤ (p : Int) := by omega
  have tp2 : (p : Int) < (zs.length : Int) := by omega
  have f1 : Hid (wrap64 ((p : Int) + 1) = ((p + 1 : Nat) : Int)) := hide (by have := h.big; unfold wrap64; omega)
  have fk : Hid (wrap64 (k : Int) = (k : Int)) := hide (by unfold wrap64; omega)
  have hcapI : (zs.length : Int) ≤ (vc : Int) := by have := h.cap; omega
  have H1 := hide (h.rd2E (p + 1) (by omega) (by omega))
  have t0 : ¬ (k : Int) = 0 := by omega
  have t2 : ¬ (3 : Int) ≤ (k : Int) := by omega
  have t3 : (k : Int) < 128 := by omega
  have t4 : ¬ (1 : Int) < (k : Int) := by omega
  have t5 : (k : Int) < 224 := by omega
  have t6 : ¬ (128 : Int) ≤ (k : Int) := by omega
  have t7 : (k : Int) < 192 := by omega
  have t8 : ¬ (192 : Int) ≤ (k : Int) := by omega
  clear h hk hr hn hcell hbad hR hT1 hT3 hk2 hl
  clear hfp
  cases first
  all_goals replace f1 := unhide f1
  all_goals replace fk := unhide fk
  all_goals go_enter Try.func10, Try.ntmps10
  all_goals go_upto_region 9 with fail
  all_goals (obtain ⟨x0, hx0⟩ : ∃ x0, x0 = (w.alloc (.cells #[.int .i64 0, .int .i64 0, .int .i64 0, .int .i64 0, .int .i64 0, .slice none 0 0] 40)).alloc (.cells #[.int .i64 (k : Int), .int .i64 0, .int .i64 0, .int .i64 0, .int .i64 0, .slice none 0 0] 40) := ⟨_, rfl⟩)
  all_goals have hcb0 := CB.first w (k : Int)
  all_goals (rw [← hx0] at hcb0; rw [← hx0])
  all_goals clear hx0
  all_goals (obtain ⟨RES, hRES⟩ : ∃ RES, RES = w.heap.size := ⟨_, rfl⟩)
  all_goals (obtain ⟨C, hC⟩ : ∃ C, C = w.heap.size + 1 := ⟨_, rfl⟩)
  all_goals (rw [← hC, ← hRES] at hcb0; rw [← hC, ← hRES])
  all_goals have hle1 : w.heap.size ≤ RES := by omega
  all_goals have hle2 : w.heap.size ≤ C := by omega
  all_goals have hle3 : ¬ RES = C := by omega
  all_goals have hle4 : ¬ C = RES := by omega
  all_goals clear hC hRES
  all_goals obtain ⟨u0, u1, u2, u3, u4, u5, v0, v1, v2, v3, v4, v5, uf, vf⟩ := hcb0.facts
  all_goals have cbb := hcb0.bl
  all_goals have HCB := hide hcb0
  all_goals clear hcb0
  all_goals have hcg := cell_stays' cbb hc
  all_goals go_wp2_with fail
  all_goals refine (unhide H1 _ (by go_grown)).mono ?_
  all_goals rintro e x ⟨rfl, rfl⟩
  all_goals go_upto_region 11 with fail
  all_goals refine on_world fun y hy => ?_
  all_goals have hcbY := unhide HCB
  all_goals rw [← hy] at hcbY
  all_goals clear hy HCB u0 u1 u2 u3 u4 u5 v0 v1 v2 v3 v4 v5 uf vf cbb hcg
  all_goals obtain ⟨u0, u1, u2, u3, u4, u5, v0, v1, v2, v3, v4, v5, uf, vf⟩ := hcbY.facts
  all_goals have HCY := hide hcbY
  all_goals clear hcbY
  all_goals go_wp2_with fail
  all_goals refine on_world fun z hz => ?_
  all_goals obtain ⟨z0, z1, z2, z3, z4, z5, zb⟩ := six_set (unhide HCY) _ _ _ _ _ _ _ hz
  all_goals clear hz u0 u1 u2 u3 u4 u5 v0 v1 v2 v3 v4 v5 uf vf
  all_goals (try simp only [Exit.inBlock, Exit.then])
  all_goals refine bodyPost_ret (by simp [results, Try.results10, go_sem, z0, z1, z2, z3, z4, z5]; try rfl) rfl ?_
  all_goals exact unhide HF _ zb

set_option maxHeartbeats 4000000 in
theorem good_a1_e6 (h : BK w va vc zs) (first props : Bool) (k : Nat) (hk : zs.getD p 0 = k) (hr : k = 1) (hn : p + 1 ≤ zs.length) (hfp : True) (hl : p + 3 ≤ zs.length) (hl2 : zs.length < p + 3 + two zs (p + 1)) : Calls Try.prog 10 #[.slice va zs.length vc, .int .i64 (p : Int), .bool first, .bool props, .int .i64 1099511627776] w (ChIs (ckF zs p first props 1099511627776) w) := by
  have hbad : badK (zs.getD p 0) first props = false := by rw [hk]; unfold badK; cases first <;> cases props <;> simp at hfp ⊢ <;> omega
  have hk2 : zs.getD p 0 < 256 := getD_small h.sm p
  have hT1 := two_le h.sm (p + 1)
  have hT3 := two_le h.sm (p + 3)
  have hR : ckF zs p first props 1099511627776 = .err 10 := by
    unfold ckF
    rw [if_neg (by omega), hbad, if_neg (by simp), hk]
    rw [if_neg (by omega)]
    rw [if_neg (by omega)]
    rw [if_pos (by omega)]
    rw [if_neg (by omega)]
    rw [if_pos hl2]
  have HF := hide (ch_err (w := w) (er := 10) (n := 10) rfl (by decide) hR)
  generalize ChIs (ckF zs p first props 1099511627776) w = POST at HF ⊢
  have hb := h.own (by omega)
  obtain ⟨g, o, rfl, hcell⟩ := hb
  have hc := hcell p (by omega)
  rw [hk] at hc
  have hgl : g < w.heap.size := cell_lt hc
  have tp : ¬ (zs.length : Int) ≤ (p : Int) := by omega
  have tp2 : (p : Int) < (zs.length : Int) := by omega
  have f1 : Hid (wrap64 ((p : Int) + 1) = ((p + 1 : Nat) : Int)) := hide (by have := h.big; unfold wrap64; omega)
  have fk : Hid (wrap64 (k : Int) = (k : Int)) := hide (by unfold wrap64; omega)
  have hcapI : (zs.length : Int) ≤ (vc : Int) := by have := h.cap; omega
  have H1 := hide (h.rd2 (p + 1) (by omega))
  obtain ⟨T, hT⟩ : ∃ T, T = two zs (p + 1) := ⟨_, rfl⟩
  rw [← hT] at H1 hl2 hT1
  obtain ⟨T1, hT1'⟩ : ∃ T1, T1 = T - 1 := ⟨_, rfl⟩
  rw [← hT1'] at H1
  have q1 : Hid (wrap64 ((T1 : Nat) : Int) = (T1 : Int)) := hide (by unfold wrap64; omega)
  have q2 : Hid (wrap64 ((T1 : Int) + 1) = (T : Int)) := hide (by unfold wrap64; omega)
  have q3 : Hid (¬ (1099511627776 : Int) < (T : Int)) := hide (by omega)
  have q4 : Hid (wrap64 ((zs.length : Int) - ((p + 1 + 2 : Nat) : Int)) = ((zs.length - (p + 1 + 2) : Nat) : Int)) := hide (by have := h.big; unfold wrap64; omega)
  have q5 : Hid (((zs.length - (p + 1 + 2) : Nat) : Int) < (T : Int)) := hide (by omega)
  generalize p + 1 + 2 = p3 at *
  generalize zs.length - p3 = LD at *
  have t0 : ¬ (k : Int) = 0 := by omega
  have t2 : ¬ (3 : Int) ≤ (k : Int) := by omega
  have t3 : (k : Int) < 128 := by omega
  have t4 : ¬ (1 : Int) < (k : Int) := by omega
  have t5 : (k : Int) < 224 := by omega
  have t6 : ¬ (128 : Int) ≤ (k : Int) := by omega
  have t7 : (k : Int) < 192 := by omega
  have t8 : ¬ (192 : Int) ≤ (k : Int) := by omega
  clear h hk hr hn hcell hbad hR hT1 hT3 hk2 hl hl2 hT hT1'
  clear hfp
  cases first
  all_goals replace f1 := unhide f1
  all_goals replace fk := unhide fk
  all_goals go_enter Try.func10, Try.ntmps10
  all_goals go_upto_region 9 with fail
  all_goals (obtain ⟨x0, hx0⟩ : ∃ x0, x0 = (w.alloc (.cells #[.int .i64 0, .int .i64 0, .int .i64 0, .int .i64 0, .int .i64 0, .slice none 0 0] 40)).alloc (.cells #[.int .i64 (k : Int), .int .i64 0, .int .i64 0, .int .i64 0, .int .i64 0, .slice none 0 0] 40) := ⟨_, rfl⟩)
  all_goals have hcb0 := CB.first w (k : Int)
  all_goals (rw [← hx0] at hcb0; rw [← hx0])
  all_goals clear hx0
  all_goals (obtain ⟨RES, hRES⟩ : ∃ RES, RES = w.heap.size := ⟨_, rfl⟩)
  all_goals (obtain ⟨C, hC⟩ : ∃ C, C = w.heap.size + 1 := ⟨_, rfl⟩)
  all_goals (rw [← hC, ← hRES] at hcb0; rw [← hC, ← hRES])
  all_goals have hle1 : w.heap.size ≤ RES := by omega
  all_goals have hle2 : w.heap.size ≤ C := by omega
  all_goals have hle3 : ¬ RES = C := by omega
  all_goals have hle4 : ¬ C = RES := by omega
  all_goals clear hC hRES
  all_goals obtain ⟨u0, u1, u2, u3, u4, u5, v0, v1, v2, v3, v4, v5, uf, vf⟩ := hcb0.facts
  all_goals have cbb := hcb0.bl
  all_goals have HCB := hide hcb0
  all_goals clear hcb0
  all_goals have hcg := cell_stays' cbb hc
  all_goals replace q1 := unhide q1
  all_goals replace q2 := unhide q2
  all_goals replace q3 := unhide q3
  all_goals replace q4 := unhide q4
  all_goals replace q5 := unhide q5
  all_goals go_wp2_with fail
  all_goals refine (unhide H1 _ (by go_grown)).mono ?_
  all_goals rintro e x ⟨rfl, rfl⟩
  all_goals go_upto_region 32 with fail
  all_goals refine on_world fun y hy => ?_
  all_goals have hcbY := (unhide HCB).set 1 (.int .i64 (T : Int)) rfl
  all_goals rw [← hy] at hcbY
  all_goals clear hy HCB u0 u1 u2 u3 u4 u5 v0 v1 v2 v3 v4 v5 uf vf cbb hcg
  all_goals obtain ⟨u0, u1, u2, u3, u4, u5, v0, v1, v2, v3, v4, v5, uf, vf⟩ := hcbY.facts
  all_goals have HCY := hide hcbY
  all_goals clear hcbY
  all_goals go_wp2_with fail
  all_goals refine on_world fun z hz => ?_
  all_goals obtain ⟨z0, z1, z2, z3, z4, z5, zb⟩ := six_set (unhide HCY) _ _ _ _ _ _ _ hz
  all_goals clear hz u0 u1 u2 u3 u4 u5 v0 v1 v2 v3 v4 v5 uf vf
  all_goals (try simp only [Exit.inBlock, Exit.then])
  all_goals refine bodyPost_ret (by simp [results, Try.results10, go_sem, z0, z1, z2, z3, z4, z5]; try rfl) rfl ?_
  all_goals exact unhide HF _ zb

set_option maxHeartbeats 4000000 in
theorem good_a1_ok (h : BK w va vc zs) (first props : Bool) (k : Nat) (hk : zs.getD p 0 = k) (hr : k = 1) (hn : p + 1 ≤ zs.length) (hfp : True) (hl : p + 3 ≤ zs.length) (hl2 : p + 3 + two zs (p + 1) ≤ zs.length) : Calls Try.prog 10 #[.slice va zs.length vc, .int .i64 (p : Int), .bool first, .bool props, .int .i64 1099511627776] w (ChIs (ckF zs p first props 1099511627776) w) := by
  have hbad : badK (zs.getD p 0) first props = false := by rw [hk]; unfold badK; cases first <;> cases props <;> simp at hfp ⊢ <;> omega
  have hk2 : zs.getD p 0 < 256 := getD_small h.sm p
  have hT1 := two_le h.sm (p + 1)
  have hT3 := two_le h.sm (p + 3)
  have hR : ckF zs p first props 1099511627776 = .told k (two zs (p + 1)) (p + 3) (two zs (p + 1)) := by
    unfold ckF
    rw [if_neg (by omega), hbad, if_neg (by simp), hk]
    rw [if_neg (by omega)]
    rw [if_neg (by omega)]
    rw [if_pos (by omega)]
    rw [if_neg (by omega)]
    rw [if_neg (by omega)]
  have HF := hide (ch_told (w := w) hR (k : Int) ((two zs (p + 1) : Nat) : Int) ((p + 1 + 2 + two zs (p + 1) : Nat) : Int) rfl rfl (by omega))
  generalize ChIs (ckF zs p first props 1099511627776) w = POST at HF ⊢
  have hb := h.own (by omega)
  obtain ⟨g, o, rfl, hcell⟩ := hb
  have hc := hcell p (by omega)
  rw [hk] at hc
  have hgl : g < w.heap.size := cell_lt hc
  have tp : ¬ (zs.length : Int) ≤ (p : Int) := by omega
  have tp2 : (p : Int) < (zs.length : Int) := by omega
  have f1 : Hid (wrap64 ((p : Int) + 1) = ((p + 1 : Nat) : Int)) := hide (by have := h.big; unfold wrap64; omega)
  have fk : Hid (wrap64 (k : Int) = (k : Int)) := hide (by unfold wrap64; omega)
  have hcapI : (zs.length : Int) ≤ (vc : Int) := by have := h.cap; omega
  have H1 := hide (h.rd2 (p + 1) (by omega))
  obtain ⟨T, hT⟩ : ∃ T, T = two zs (p + 1) := ⟨_, rfl⟩
  rw [← hT] at H1 HF hl2 hT1
  obtain ⟨T1, hT1'⟩ : ∃ T1, T1 = T - 1 := ⟨_, rfl⟩
  rw [← hT1'] at H1
  have q1 : Hid (wrap64 ((T1 : Nat) : Int) = (T1 : Int)) := hide (by unfold wrap64; omega)
  have q2 : Hid (wrap64 ((T1 : Int) + 1) = (T : Int)) := hide (by unfold wrap64; omega)
  have q3 : Hid (¬ (1099511627776 : Int) < (T : Int)) := hide (by omega)
  have q4 : Hid (wrap64 ((zs.length : Int) - ((p + 1 + 2 : Nat) : Int)) = ((zs.length - (p + 1 + 2) : Nat) : Int)) := hide (by have := h.big; unfold wrap64; omega)
  have q5 : Hid (¬ ((zs.length - (p + 1 + 2) : Nat) : Int) < (T : Int)) := hide (by omega)
  have q6 : Hid (wrap64 (((p + 1 + 2 : Nat) : Int) + (T : Int)) = ((p + 1 + 2 + T : Nat) : Int)) := hide (by have := h.big; unfold wrap64; omega)
  have g1 : Hid (¬ vc = p + 1 + 2) := hide (by have := h.cap; omega)
  have g2 : Hid (((p + 1 + 2 + T : Nat) : Int) ≤ (vc : Int)) := hide (by have := h.cap; omega)
  have g3 : Hid (p + 1 + 2 + T ≤ vc) := hide (by have := h.cap; omega)
  have g4 : Hid (p + 1 + 2 ≤ p + 1 + 2 + T) := hide (by omega)
  have g5 : Hid (((p + 1 + 2 : Nat) : Int) ≤ ((p + 1 + 2 + T : Nat) : Int)) := hide (by omega)
  generalize p + 1 + 2 + T = pe at *
  generalize p + 1 + 2 = p3 at *
  generalize zs.length - p3 = LD at *
  have t0 : ¬ (k : Int) = 0 := by omega
  have t2 : ¬ (3 : Int) ≤ (k : Int) := by omega
  have t3 : (k : Int) < 128 := by omega
  have t4 : ¬ (1 : Int) < (k : Int) := by omega
  have t5 : (k : Int) < 224 := by omega
  have t6 : ¬ (128 : Int) ≤ (k : Int) := by omega
  have t7 : (k : Int) < 192 := by omega
  have t8 : ¬ (192 : Int) ≤ (k : Int) := by omega
  clear h hk hr hn hcell hbad hR hT1 hT3 hk2 hl hl2 hT hT1'
  clear hfp
  cases first
  all_goals replace f1 := unhide f1
  all_goals replace fk := unhide fk
  all_goals go_enter Try.func10, Try.ntmps10
  all_goals go_upto_region 9 with fail
  all_goals (obtain ⟨x0, hx0⟩ : ∃ x0, x0 = (w.alloc (.cells #[.int .i64 0, .int .i64 0, .int .i64 0, .int .i64 0, .int .i64 0, .slice none 0 0] 40)).alloc (.cells #[.int .i64 (k : Int), .int .i64 0, .int .i64 0, .int .i64 0, .int .i64 0, .slice none 0 0] 40) := ⟨_, rfl⟩)
  all_goals have hcb0 := CB.first w (k : Int)
  all_goals (rw [← hx0] at hcb0; rw [← hx0])
  all_goals clear hx0
  all_goals (obtain ⟨RES, hRES⟩ : ∃ RES, RES = w.heap.size := ⟨_, rfl⟩)
  all_goals (obtain ⟨C, hC⟩ : ∃ C, C = w.heap.size + 1 := ⟨_, rfl⟩)
  all_goals (rw [← hC, ← hRES] at hcb0; rw [← hC, ← hRES])
  all_goals have hle1 : w.heap.size ≤ RES := by omega
  all_goals have hle2 : w.heap.size ≤ C := by omega
  all_goals have hle3 : ¬ RES = C := by omega
  all_goals have hle4 : ¬ C = RES := by omega
  all_goals clear hC hRES
  all_goals obtain ⟨u0, u1, u2, u3, u4, u5, v0, v1, v2, v3, v4, v5, uf, vf⟩ := hcb0.facts
  all_goals have cbb := hcb0.bl
  all_goals have HCB := hide hcb0
  all_goals clear hcb0
  all_goals have hcg := cell_stays' cbb hc
  all_goals replace q1 := unhide q1
  all_goals replace q2 := unhide q2
  all_goals replace q3 := unhide q3
  all_goals replace q4 := unhide q4
  all_goals replace q5 := unhide q5
  all_goals replace q6 := unhide q6
  all_goals replace g1 := unhide g1
  all_goals replace g2 := unhide g2
  all_goals replace g3 := unhide g3
  all_goals replace g4 := unhide g4
  all_goals replace g5 := unhide g5
  all_goals go_wp2_with fail
  all_goals refine (unhide H1 _ (by go_grown)).mono ?_
  all_goals rintro e x ⟨rfl, rfl⟩
  all_goals go_upto_region 34 with fail
  all_goals refine on_world fun y hy => ?_
  all_goals have hcbY := ((unhide HCB).set 1 (.int .i64 (T : Int)) rfl).set 5 (.slice (some ⟨g, o + p3, none⟩) (pe - p3) (vc - p3)) rfl
  all_goals rw [← hy] at hcbY
  all_goals clear hy HCB u0 u1 u2 u3 u4 u5 v0 v1 v2 v3 v4 v5 uf vf cbb hcg
  all_goals obtain ⟨u0, u1, u2, u3, u4, u5, v0, v1, v2, v3, v4, v5, uf, vf⟩ := hcbY.facts
  all_goals have HCY := hide hcbY
  all_goals clear hcbY
  all_goals go_wp2_with fail
  all_goals refine on_world fun z hz => ?_
  all_goals obtain ⟨z0, z1, z2, z3, z4, z5, zb⟩ := six_set (unhide HCY) _ _ _ _ _ _ _ hz
  all_goals clear hz u0 u1 u2 u3 u4 u5 v0 v1 v2 v3 v4 v5 uf vf
  all_goals (try simp only [Exit.inBlock, Exit.then])
  all_goals refine bodyPost_ret (by simp [results, Try.results10, go_sem, z0, z1, z2, z3, z4, z5]; try rfl) rfl ?_
  all_goals (try rw [q6])
  all_goals exact unhide HF _ _ _ _ _ _ _ zb

set_option maxHeartbeats 4000000 in
theorem good_a2_e3 (h : BK w va vc zs) (first props : Bool) (k : Nat) (hk : zs.getD p 0 = k) (hr : k = 2) (hn : p + 1 ≤ zs.length) (hfp : first = false) (hl : zs.length < p + 3) : Calls Try.prog 10 #[.slice va zs.length vc, .int .i64 (p : Int), .bool first, .bool props, .int .i64 1099511627776] w (ChIs (ckF zs p first props 1099511627776) w) := by
  have hbad : badK (zs.getD p 0) first props = false := by rw [hk]; unfold badK; cases first <;> cases props <;> simp at hfp ⊢ <;> omega
  have hk2 : zs.getD p 0 < 256 := getD_small h.sm p
  have hT1 := two_le h.sm (p + 1)
  have hT3 := two_le h.sm (p + 3)
  have hR : ckF zs p first props 1099511627776 = .err 10 := by
    unfold ckF
    rw [if_neg (by omega), hbad, if_neg (by simp), hk]
    rw [if_neg (by omega)]
    rw [if_pos hl]
  have HF := hide (ch_err (w := w) (er := 10) (n := 10) rfl (by decide) hR)
  generalize ChIs (ckF zs p first props 1099511627776) w = POST at HF ⊢
  have hb := h.own (by omega)
  obtain ⟨g, o, rfl, hcell⟩ := hb
  have hc := hcell p (by omega)
  rw [hk] at hc
  have hgl : g < w.heap.size := cell_lt hc
  have tp : ¬ (zs.length : Int) ≤ (p : Int) := by omega
  have tp2 : (p : Int) < (zs.length : Int) := by omega
  have f1 : Hid (wrap64 ((p : Int) + 1) = ((p + 1 : Nat) : Int)) := hide (by have := h.big; unfold wrap64; omega)
  have fk : Hid (wrap64 (k : Int) = (k : Int)) := hide (by unfold wrap64; omega)
  have hcapI : (zs.length : Int) ≤ (vc : Int) := by have := h.cap; omega
  have H1 := hide (h.rd2E (p + 1) (by omega) (by omega))
  have t0 : ¬ (k : Int) = 0 := by omega
  have t1 : ¬ (k : Int) = 1 := by omega
  have t2 : ¬ (3 : Int) ≤ (k : Int) := by omega
  have t3 : (k : Int) < 128 := by omega
  have t4 : (1 : Int) < (k : Int) := by omega
  have t5 : (k : Int) < 224 := by omega
  have t6 : ¬ (128 : Int) ≤ (k : Int) := by omega
  have t7 : (k : Int) < 192 := by omega
  have t8 : ¬ (192 : Int) ≤ (k : Int) := by omega
  clear h hk hr hn hcell hbad hR hT1 hT3 hk2 hl
  subst hfp
  all_goals replace f1 := unhide f1
  all_goals replace fk := unhide fk
  all_goals go_enter Try.func10, Try.ntmps10
  all_goals go_upto_region 9 with fail
  all_goals (obtain ⟨x0, hx0⟩ : ∃ x0, x0 = (w.alloc (.cells #[.int .i64 0, .int .i64 0, .int .i64 0, .int .i64 0, .int .i64 0, .slice none 0 0] 40)).alloc (.cells #[.int .i64 (k : Int), .int .i64 0, .int .i64 0, .int .i64 0, .int .i64 0, .slice none 0 0] 40) := ⟨_, rfl⟩)
  all_goals have hcb0 := CB.first w (k : Int)
  all_goals (rw [← hx0] at hcb0; rw [← hx0])
  all_goals clear hx0
  all_goals (obtain ⟨RES, hRES⟩ : ∃ RES, RES = w.heap.size := ⟨_, rfl⟩)
  all_goals (obtain ⟨C, hC⟩ : ∃ C, C = w.heap.size + 1 := ⟨_, rfl⟩)
  all_goals (rw [← hC, ← hRES] at hcb0; rw [← hC, ← hRES])
  all_goals have hle1 : w.heap.size ≤ RES := by omega
  all_goals have hle2 : w.heap.size ≤ C := by omega
  all_goals have hle3 : ¬ RES = C := by omega
  all_goals have hle4 : ¬ C = RES := by omega
  all_goals clear hC hRES
  all_goals obtain ⟨u0, u1, u2, u3, u4, u5, v0, v1, v2, v3, v4, v5, uf, vf⟩ := hcb0.facts
  all_goals have cbb := hcb0.bl
  all_goals have HCB := hide hcb0
  all_goals clear hcb0
  all_goals have hcg := cell_stays' cbb hc
  all_goals go_wp2_with fail
  all_goals refine (unhide H1 _ (by go_grown)).mono ?_
  all_goals rintro e x ⟨rfl, rfl⟩
  all_goals go_upto_region 11 with fail
  all_goals refine on_world fun y hy => ?_
  all_goals have hcbY := unhide HCB
  all_goals rw [← hy] at hcbY
  all_goals clear hy HCB u0 u1 u2 u3 u4 u5 v0 v1 v2 v3 v4 v5 uf vf cbb hcg
  all_goals obtain ⟨u0, u1, u2, u3, u4, u5, v0, v1, v2, v3, v4, v5, uf, vf⟩ := hcbY.facts
  all_goals have HCY := hide hcbY
  all_goals clear hcbY
  all_goals go_wp2_with fail
  all_goals refine on_world fun z hz => ?_
  all_goals obtain ⟨z0, z1, z2, z3, z4, z5, zb⟩ := six_set (unhide HCY) _ _ _ _ _ _ _ hz
  all_goals clear hz u0 u1 u2 u3 u4 u5 v0 v1 v2 v3 v4 v5 uf vf
  all_goals (try simp only [Exit.inBlock, Exit.then])
  all_goals refine bodyPost_ret (by simp [results, Try.results10, go_sem, z0, z1, z2, z3, z4, z5]; try rfl) rfl ?_
  all_goals exact unhide HF _ zb

set_option maxHeartbeats 4000000 in
theorem good_a2_e6 (h : BK w va vc zs) (first props : Bool) (k : Nat) (hk : zs.getD p 0 = k) (hr : k = 2) (hn : p + 1 ≤ zs.length) (hfp : first = false) (hl : p + 3 ≤ zs.length) (hl2 : zs.length < p + 3 + two zs (p + 1)) : Calls Try.prog 10 #[.slice va zs.length vc, .int .i64 (p : Int), .bool first, .bool props, .int .i64 1099511627776] w (ChIs (ckF zs p first props 1099511627776) w) := by
  have hbad : badK (zs.getD p 0) first props = false := by rw [hk]; unfold badK; cases first <;> cases props <;> simp at hfp ⊢ <;> omega
  have hk2 : zs.getD p 0 < 256 := getD_small h.sm p
  have hT1 := two_le h.sm (p + 1)
  have hT3 := two_le h.sm (p + 3)
  have hR : ckF zs p first props 1099511627776 = .err 10 := by
    unfold ckF
    rw [if_neg (by omega), hbad, if_neg (by simp), hk]
    rw [if_neg (by omega)]
    rw [if_neg (by omega)]
    rw [if_pos (by omega)]
    rw [if_neg (by omega)]
    rw [if_pos hl2]
  have HF := hide (ch_err (w := w) (er := 10) (n := 10) rfl (by decide) hR)
  generalize ChIs (ckF zs p first props 1099511627776) w = POST at HF ⊢
  have hb := h.own (by omega)
  obtain ⟨g, o, rfl, hcell⟩ := hb
  have hc := hcell p (by omega)
  rw [hk] at hc
  have hgl : g < w.heap.size := cell_lt hc
  have tp : ¬ (zs.length : Int) ≤ (p : Int) := by omega
  have tp2 : (p : Int) < (zs.length : Int) := by omega
  have f1 : Hid (wrap64 ((p : Int) + 1) = ((p + 1 : Nat) : Int)) := hide (by have := h.big; unfold wrap64; omega)
  have fk : Hid (wrap64 (k : Int) = (k : Int)) := hide (by unfold wrap64; omega)
  have hcapI : (zs.length : Int) ≤ (vc : Int) := by have := h.cap; omega
  have H1 := hide (h.rd2 (p + 1) (by omega))
  obtain ⟨T, hT⟩ : ∃ T, T = two zs (p + 1) := ⟨_, rfl⟩
  rw [← hT] at H1 hl2 hT1
  obtain ⟨T1, hT1'⟩ : ∃ T1, T1 = T - 1 := ⟨_, rfl⟩
  rw [← hT1'] at H1
  have q1 : Hid (wrap64 ((T1 : Nat) : Int) = (T1 : Int)) := hide (by unfold wrap64; omega)
  have q2 : Hid (wrap64 ((T1 : Int) + 1) = (T : Int)) := hide (by unfold wrap64; omega)
  have q3 : Hid (¬ (1099511627776 : Int) < (T : Int)) := hide (by omega)
  have q4 : Hid (wrap64 ((zs.length : Int) - ((p + 1 + 2 : Nat) : Int)) = ((zs.length - (p + 1 + 2) : Nat) : Int)) := hide (by have := h.big; unfold wrap64; omega)
  have q5 : Hid (((zs.length - (p + 1 + 2) : Nat) : Int) < (T : Int)) := hide (by omega)
  generalize p + 1 + 2 = p3 at *
  generalize zs.length - p3 = LD at *
  have t0 : ¬ (k : Int) = 0 := by omega
  have t1 : ¬ (k : Int) = 1 := by omega
  have t2 : ¬ (3 : Int) ≤ (k : Int) := by omega
  have t3 : (k : Int) < 128 := by omega
  have t4 : (1 : Int) < (k : Int) := by omega
  have t5 : (k : Int) < 224 := by omega
  have t6 : ¬ (128 : Int) ≤ (k : Int) := by omega
  have t7 : (k : Int) < 192 := by omega
  have t8 : ¬ (192 : Int) ≤ (k : Int) := by omega
  clear h hk hr hn hcell hbad hR hT1 hT3 hk2 hl hl2 hT hT1'
  subst hfp
  all_goals replace f1 := unhide f1
  all_goals replace fk := unhide fk
  all_goals go_enter Try.func10, Try.ntmps10
  all_goals go_upto_region 9 with fail
  all_goals (obtain ⟨x0, hx0⟩ : ∃ x0, x0 = (w.alloc (.cells #[.int .i64 0, .int .i64 0, .int .i64 0, .int .i64 0, .int .i64 0, .slice none 0 0] 40)).alloc (.cells #[.int .i64 (k : Int), .int .i64 0, .int .i64 0, .int .i64 0, .int .i64 0, .slice none 0 0] 40) := ⟨_, rfl⟩)
  all_goals have hcb0 := CB.first w (k : Int)
  all_goals (rw [← hx0] at hcb0; rw [← hx0])
  all_goals clear hx0
  all_goals (obtain ⟨RES, hRES⟩ : ∃ RES, RES = w.heap.size := ⟨_, rfl⟩)
  all_goals (obtain ⟨C, hC⟩ : ∃ C, C = w.heap.size + 1 := ⟨_, rfl⟩)
  all_goals (rw [← hC, ← hRES] at hcb0; rw [← hC, ← hRES])
  all_goals have hle1 : w.heap.size ≤ RES := by omega
  all_goals have hle2 : w.heap.size ≤ C := by omega
  all_goals have hle3 : ¬ RES = C := by omega
  all_goals have hle4 : ¬ C = RES := by omega
  all_goals clear hC hRES
  all_goals obtain ⟨u0, u1, u2, u3, u4, u5, v0, v1, v2, v3, v4, v5, uf, vf⟩ := hcb0.facts
  all_goals have cbb := hcb0.bl
  all_goals have HCB := hide hcb0
  all_goals clear hcb0
  all_goals have hcg := cell_stays' cbb hc
  all_goals replace q1 := unhide q1
  all_goals replace q2 := unhide q2
  all_goals replace q3 := unhide q3
  all_goals replace q4 := unhide q4
  all_goals replace q5 := unhide q5
  all_goals go_wp2_with fail
  all_goals refine (unhide H1 _ (by go_grown)).mono ?_
  all_goals rintro e x ⟨rfl, rfl⟩
  all_goals go_upto_region 32 with fail
  all_goals refine on_world fun y hy => ?_
  all_goals have hcbY := (unhide HCB).set 1 (.int .i64 (T : Int)) rfl
  all_goals rw [← hy] at hcbY
  all_goals clear hy HCB u0 u1 u2 u3 u4 u5 v0 v1 v2 v3 v4 v5 uf vf cbb hcg
  all_goals obtain ⟨u0, u1, u2, u3, u4, u5, v0, v1, v2, v3, v4, v5, uf, vf⟩ := hcbY.facts
  all_goals have HCY := hide hcbY
  all_goals clear hcbY
  all_goals go_wp2_with fail
  all_goals refine on_world fun z hz => ?_
  all_goals obtain ⟨z0, z1, z2, z3, z4, z5, zb⟩ := six_set (unhide HCY) _ _ _ _ _ _ _ hz
  all_goals clear hz u0 u1 u2 u3 u4 u5 v0 v1 v2 v3 v4 v5 uf vf
  all_goals (try simp only [Exit.inBlock, Exit.then])
  all_goals refine bodyPost_ret (by simp [results, Try.results10, go_sem, z0, z1, z2, z3, z4, z5]; try rfl) rfl ?_
  all_goals exact unhide HF _ zb

set_option maxHeartbeats 4000000 in
theorem good_a2_ok (h : BK w va vc zs) (first props : Bool) (k : Nat) (hk : zs.getD p 0 = k) (hr : k = 2) (hn : p + 1 ≤ zs.length) (hfp : first = false) (hl : p + 3 ≤ zs.length) (hl2 : p + 3 + two zs (p + 1) ≤ zs.length) : Calls Try.prog 10 #[.slice va zs.length vc, .int .i64 (p : Int), .bool first, .bool props, .int .i64 1099511627776] w (ChIs (ckF zs p first props 1099511627776) w) := by
  have hbad : badK (zs.getD p 0) first props = false := by rw [hk]; unfold badK; cases first <;> cases props <;> simp at hfp ⊢ <;> omega
  have hk2 : zs.getD p 0 < 256 := getD_small h.sm p
  have hT1 := two_le h.sm (p + 1)
  have hT3 := two_le h.sm (p + 3)
  have hR : ckF zs p first props 1099511627776 = .told k (two zs (p + 1)) (p + 3) (two zs (p + 1)) := by
    unfold ckF
    rw [if_neg (by omega), hbad, if_neg (by simp), hk]
    rw [if_neg (by omega)]
    rw [if_neg (by omega)]
    rw [if_pos (by omega)]
    rw [if_neg (by omega)]
    rw [if_neg (by omega)]
  have HF := hide (ch_told (w := w) hR (k : Int) ((two zs (p + 1) : Nat) : Int) ((p + 1 + 2 + two zs (p + 1) : Nat) : Int) rfl rfl (by omega))
  generalize ChIs (ckF zs p first props 1099511627776) w = POST at HF ⊢
  have hb := h.own (by omega)
  obtain ⟨g, o, rfl, hcell⟩ := hb
  have hc := hcell p (by omega)
  rw [hk] at hc
  have hgl : g < w.heap.size := cell_lt hc
  have tp : ¬ (zs.length : Int) ≤ (p : Int) := by omega
  have tp2 : (p : Int) < (zs.length : Int) := by omega
  have f1 : Hid (wrap64 ((p : Int) + 1) = ((p + 1 : Nat) : Int)) := hide (by have := h.big; unfold wrap64; omega)
  have fk : Hid (wrap64 (k : Int) = (k : Int)) := hide (by unfold wrap64; omega)
  have hcapI : (zs.length : Int) ≤ (vc : Int) := by have := h.cap; omega
  have H1 := hide (h.rd2 (p + 1) (by omega))
  obtain ⟨T, hT⟩ : ∃ T, T = two zs (p + 1) := ⟨_, rfl⟩
  rw [← hT] at H1 HF hl2 hT1
  obtain ⟨T1, hT1'⟩ : ∃ T1, T1 = T - 1 := ⟨_, rfl⟩
  rw [← hT1'] at H1
  have q1 : Hid (wrap64 ((T1 : Nat) : Int) = (T1 : Int)) := hide (by unfold wrap64; omega)
  have q2 : Hid (wrap64 ((T1 : Int) + 1) = (T : Int)) := hide (by unfold wrap64; omega)
  have q3 : Hid (¬ (1099511627776 : Int) < (T : Int)) := hide (by omega)
  have q4 : Hid (wrap64 ((zs.length : Int) - ((p + 1 + 2 : Nat) : Int)) = ((zs.length - (p + 1 + 2) : Nat) : Int)) := hide (by have := h.big; unfold wrap64; omega)
  have q5 : Hid (¬ ((zs.length - (p + 1 + 2) : Nat) : Int) < (T : Int)) := hide (by omega)
  have q6 : Hid (wrap64 (((p + 1 + 2 : Nat) : Int) + (T : Int)) = ((p + 1 + 2 + T : Nat) : Int)) := hide (by have := h.big; unfold wrap64; omega)
  have g1 : Hid (¬ vc = p + 1 + 2) := hide (by have := h.cap; omega)
  have g2 : Hid (((p + 1 + 2 + T : Nat) : Int) ≤ (vc : Int)) := hide (by have := h.cap; omega)
  have g3 : Hid (p + 1 + 2 + T ≤ vc) := hide (by have := h.cap; omega)
  have g4 : Hid (p + 1 + 2 ≤ p + 1 + 2 + T) := hide (by omega)
  have g5 : Hid (((p + 1 + 2 : Nat) : Int) ≤ ((p + 1 + 2 + T : Nat) : Int)) := hide (by omega)
  generalize p + 1 + 2 + T = pe at *
  generalize p + 1 + 2 = p3 at *
  generalize zs.length - p3 = LD at *
  have t0 : ¬ (k : Int) = 0 := by omega
  have t1 : ¬ (k : Int) = 1 := by omega
  have t2 : ¬ (3 : Int) ≤ (k : Int) := by omega
  have t3 : (k : Int) < 128 := by omega
  have t4 : (1 : Int) < (k : Int) := by omega
  have t5 : (k : Int) < 224 := by omega
  have t6 : ¬ (128 : Int) ≤ (k : Int) := by omega
  have t7 : (k : Int) < 192 := by omega
  have t8 : ¬ (192 : Int) ≤ (k : Int) := by omega
  clear h hk hr hn hcell hbad hR hT1 hT3 hk2 hl hl2 hT hT1'
  subst hfp
  all_goals replace f1 := unhide f1
  all_goals replace fk := unhide fk
  all_goals go_enter Try.func10, Try.ntmps10
  all_goals go_upto_region 9 with fail
  all_goals (obtain ⟨x0, hx0⟩ : ∃ x0, x0 = (w.alloc (.cells #[.int .i64 0, .int .i64 0, .int .i64 0, .int .i64 0, .int .i64 0, .slice none 0 0] 40)).alloc (.cells #[.int .i64 (k : Int), .int .i64 0, .int .i64 0, .int .i64 0, .int .i64 0, .slice none 0 0] 40) := ⟨_, rfl⟩)
  all_goals have hcb0 := CB.first w (k : Int)
  all_goals (rw [← hx0] at hcb0; rw [← hx0])
  all_goals clear hx0
  all_goals (obtain ⟨RES, hRES⟩ : ∃ RES, RES = w.heap.size := ⟨_, rfl⟩)
  all_goals (obtain ⟨C, hC⟩ : ∃ C, C = w.heap.size + 1 := ⟨_, rfl⟩)
  all_goals (rw [← hC, ← hRES] at hcb0; rw [← hC, ← hRES])
  all_goals have hle1 : w.heap.size ≤ RES := by omega
  all_goals have hle2 : w.heap.size ≤ C := by omega
  all_goals have hle3 : ¬ RES = C := by omega
  all_goals have hle4 : ¬ C = RES := by omega
  all_goals clear hC hRES
  all_goals obtain ⟨u0, u1, u2, u3, u4, u5, v0, v1, v2, v3, v4, v5, uf, vf⟩ := hcb0.facts
  all_goals have cbb := hcb0.bl
  all_goals have HCB := hide hcb0
  all_goals clear hcb0
  all_goals have hcg := cell_stays' cbb hc
  all_goals replace q1 := unhide q1
  all_goals replace q2 := unhide q2
  all_goals replace q3 := unhide q3
  all_goals replace q4 := unhide q4
  all_goals replace q5 := unhide q5
  all_goals replace q6 := unhide q6
  all_goals replace g1 := unhide g1
  all_goals replace g2 := unhide g2
  all_goals replace g3 := unhide g3
  all_goals replace g4 := unhide g4
  all_goals replace g5 := unhide g5
  all_goals go_wp2_with fail
  all_goals refine (unhide H1 _ (by go_grown)).mono ?_
  all_goals rintro e x ⟨rfl, rfl⟩
  all_goals go_upto_region 34 with fail
  all_goals refine on_world fun y hy => ?_
  all_goals have hcbY := ((unhide HCB).set 1 (.int .i64 (T : Int)) rfl).set 5 (.slice (some ⟨g, o + p3, none⟩) (pe - p3) (vc - p3)) rfl
  all_goals rw [← hy] at hcbY
  all_goals clear hy HCB u0 u1 u2 u3 u4 u5 v0 v1 v2 v3 v4 v5 uf vf cbb hcg
  all_goals obtain ⟨u0, u1, u2, u3, u4, u5, v0, v1, v2, v3, v4, v5, uf, vf⟩ := hcbY.facts
  all_goals have HCY := hide hcbY
  all_goals clear hcbY
  all_goals go_wp2_with fail
  all_goals refine on_world fun z hz => ?_
  all_goals obtain ⟨z0, z1, z2, z3, z4, z5, zb⟩ := six_set (unhide HCY) _ _ _ _ _ _ _ hz
  all_goals clear hz u0 u1 u2 u3 u4 u5 v0 v1 v2 v3 v4 v5 uf vf
  all_goals (try simp only [Exit.inBlock, Exit.then])
  all_goals refine bodyPost_ret (by simp [results, Try.results10, go_sem, z0, z1, z2, z3, z4, z5]; try rfl) rfl ?_
  all_goals (try rw [q6])
  all_goals exact unhide HF _ _ _ _ _ _ _ zb

end
end Go.Proofs.Ythafoojlkaifkaa.K
