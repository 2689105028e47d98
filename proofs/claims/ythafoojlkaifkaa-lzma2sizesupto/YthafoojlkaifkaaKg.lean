/- A chunk's kind, and the rest of it. -/
import Derived.Test.YthafoojlkaifkaaKf
import Derived.Test.YthafoojlkaifkaaHd
namespace Go.Proofs.Ythafoojlkaifkaa.K
open Go.RowKit H
set_option maxRecDepth 100000
set_option linter.unusedVariables false
attribute [local go_sem ↓] Go.wp_at_zero Go.wp_at_succ

section
variable {w : World} {bb ub : Nat} {va : Option Addr} {vc : Nat} {zs : List Nat} {p : Nat} {rb : Nat} {bg pr : Bool}

theorem NK.but (h : NK w bb ub va vc zs p) {w' : World} (hb : But [] w w') : NK w' bb ub va vc zs p := h.move hb (fun g hg => by simp at hg) (by rw [hb.keep ub (heap_lt h.u) (by simp)]; exact h.u) h.le

def KEndIs (e10 : Int) (ub : Nat) (gs : List Nat) (w : World) (e : Ending) (w' : World) : Prop := (∃ k : Nat, e = .returned (.tuple #[.agg (ccells k 0 0 0 0 (.slice none 0 0)), .int .i64 e10])) ∧ But gs w w' ∧ UB w' ub

theorem kind_end (h : NK w bb ub va vc zs p) (hn : zs.length < p + 1) : Calls Try.prog 12 #[nextV bb ub, .pointer (some ⟨rb, 0, none⟩)] w (KEndIs 10 ub [ub, rb] w) := by
  have HC := fun w' (hb : But [] w w') => hide (next_end (h.but hb) 1 hn (by omega))
  have HF : Hid (∀ w', But [] w w' → KEndIs 10 ub [ub, rb] w (.returned (.tuple #[.agg #[.int .u8 0, .int .i64 0, .int .i64 0, .int .i64 0, .int .i64 0, .slice none 0 0], .int .i64 10])) w') := hide fun w' hb => ⟨⟨0, rfl⟩, hb.more (by simp), (h.but hb).ub⟩
  generalize KEndIs 10 ub [ub, rb] w = POST at HF ⊢
  clear h hn
  unfold nextV
  go_enter Try.func12, Try.ntmps12
  go_wp2_with fail
  refine (unhide (HC _ ((But.refl [] w).alloc _))).mono ?_
  rintro e w1 ⟨rfl, rfl⟩
  go_wp2_with fail
  first
  | exact unhide HF _ (But.of_below (by go_grown))
  | (go_returns; exact unhide HF _ (But.of_below (by go_grown)))

def KindIs (bb ub : Nat) (va : Option Addr) (vc : Nat) (zs : List Nat) (p rb : Nat) (bg pr : Bool) (w : World) (e : Ending) (w' : World) : Prop :=
  (badK (zs.getD p 0) (!bg) pr = true ∧ KEndIs 11 ub [ub, rb] w e w') ∨ (badK (zs.getD p 0) (!bg) pr = false ∧ e = .returned (.tuple #[.agg (ccells (zs.getD p 0) 0 0 0 0 (.slice none 0 0)), .int .i64 0]) ∧ NK w' bb ub va vc zs (p + 1) ∧ RowAt w' rb true (nextP (zs.getD p 0) pr) ∧ But [ub, rb] w w')

/-- what is known in the region -/
structure KgS (x : World) (g o rb rc b : Nat) (bg pr : Bool) : Prop where
  c : x.cell? ⟨g, o, none⟩ = some (.int .u8 (b : Int))

set_option maxHeartbeats 2000000 in
theorem kind_ok (h : NK w bb ub va vc zs p) (hr : RowAt w rb bg pr) (hn : p + 1 ≤ zs.length) : Calls Try.prog 12 #[nextV bb ub, .pointer (some ⟨rb, 0, none⟩)] w (KindIs bb ub va vc zs p rb bg pr w) := by
  have HC := fun w' (hb : But [] w w') => hide (next_ok (h.but hb) 1 hn (by omega))
  have hx := getD_small h.sm p
  have HR := hide hr
  have HH := hide h
  unfold nextV
  go_enter Try.func12, Try.ntmps12
  go_upto_region 1 with fail
  obtain ⟨w0, hw0⟩ : ∃ w0, w0 = w.alloc (.cells #[.int .u8 0, .int .i64 0, .int .i64 0, .int .i64 0, .int .i64 0, .slice none 0 0] 37) := ⟨_, rfl⟩
  have hB0 : But [] w w0 := by rw [hw0]; exact (But.refl [] w).alloc _
  have HC0 := HC w0 hB0
  have hRC : w0.heap[w.heap.size]? = some (.cells #[.int .u8 0, .int .i64 0, .int .i64 0, .int .i64 0, .int .i64 0, .slice none 0 0] 37 (0, 0)) := by rw [hw0]; exact heap_alloc_new _ _
  have HRC := hide (And.intro hB0 hRC)
  rw [← hw0]
  obtain ⟨RC, hRCe⟩ : ∃ RC, RC = w.heap.size := ⟨_, rfl⟩
  rw [← hRCe] at HRC ⊢
  have HRCe := hide hRCe
  clear HC hB0 hRC hw0 h hr hRCe
  go_wp2_with fail
  refine (unhide HC0).mono ?_
  rintro e w1 ⟨g, o, rfl, rfl, h1, h2⟩
  have hcell : w1.cell? ⟨g, o + p, none⟩ = some (.int .u8 ((zs.getD p 0 : Nat) : Int)) := by
    obtain ⟨g', o', e, hc⟩ := h1.own (by omega)
    injection e with e
    injection e with e1 e2
    subst e1 e2
    exact hc p (by omega)
  have hgne : g ≠ rb := by
    obtain ⟨cur, hc⟩ := (unhide HH).blk ⟨g, o, none⟩ rfl (by omega)
    exact ne_types hc (unhide HR) (by decide)
  have hr1 : RowAt w1 rb bg pr := by
    unfold RowAt
    rw [h2.keep rb (by have := (unhide HRC).1.size; have := heap_lt (unhide HR); omega) (by simpa using ne_types (unhide HR) (unhide HH).u (by decide)), (unhide HRC).1.keep rb (heap_lt (unhide HR)) (by simp)]
    exact unhide HR
  have HFO : ∀ x, Hid (RowAt x rb bg pr → Calls Try.prog 16 #[.pointer (some ⟨rb, 0, none⟩), .int .u8 ((zs.getD p 0 : Nat) : Int)] x (FollowIs rb (zs.getD p 0) bg pr x)) := fun x => hide (follow_ok rb _ bg pr x · hx)
  have HRC1 : Hid (w1.heap[RC]? = some (.cells #[.int .u8 0, .int .i64 0, .int .i64 0, .int .i64 0, .int .i64 0, .slice none 0 0] 37 (0, 0))) := hide (by
    rw [h2.keep RC (heap_lt (unhide HRC).2) (by simp; have := heap_lt (unhide HH).u; have := unhide HRCe; omega)]
    exact (unhide HRC).2)
  have H12 := hide (And.intro h1 h2)
  have HGN := hide hgne
  have HGC : Hid (∃ cur, w1.heap[g]? = some (.cells cur 5 (0, 0))) := hide (h1.blk ⟨g, o, none⟩ rfl (by omega))
  have HR1 := hide hr1
  have HX := hide hx
  obtain ⟨b, hb⟩ : ∃ b, zs.getD p 0 = b := ⟨_, rfl⟩
  have Hb := hide hb
  rw [hb] at hcell HFO
  clear h1 h2 HC0 hn hgne hr1 hx hb HX
  go_wp2_with fail
  refine wp_region_noPanic ?_
  refine wp_region_held_drew (S := fun x => x.cell? ⟨g, o + p, none⟩ = some (.int .u8 (b : Int))) (by kernel_rfl) (show w1.drew.cell? _ = _ from hcell) (fun hHeld => ?_)
  clear hcell
  show wpAnyH _ _ _ _ _ _ _ _ w1.drew
  refine held_take 0 17 rfl rfl (by kernel_rfl) (by kernel_rfl) (by kernel_rfl) (by rfl) hHeld noPanic_panic (v := ?_) (fun x hSx => ?_) ?_
  rotate_left 1
  · (go_simp <;> with_reducible rfl)
  simp only [List.set_cons_zero, List.set_cons_succ]
  refine held_take 1 18 rfl rfl (by kernel_rfl) (by kernel_rfl) (by kernel_rfl) (by rfl) hHeld noPanic_panic (v := ?_) (fun x hSx => ?_) ?_
  rotate_left 1
  · (go_simp <;> with_reducible rfl)
  simp only [List.set_cons_zero, List.set_cons_succ]
  refine held_take 2 19 rfl rfl (by kernel_rfl) (by kernel_rfl) (by kernel_rfl) (by rfl) hHeld noPanic_panic (v := ?_) (fun x hSx => ?_) ?_
  rotate_left 1
  · (go_simp <;> with_reducible rfl)
  simp only [List.set_cons_zero, List.set_cons_succ]
  refine held_take 3 20 rfl rfl (by kernel_rfl) (by kernel_rfl) (by kernel_rfl) (by rfl) hHeld noPanic_panic (v := ?_) (fun x hSx => ?_) ?_
  rotate_left 1
  · (go_simp <;> with_reducible rfl)
  simp only [List.set_cons_zero, List.set_cons_succ]
  refine held_take 4 21 rfl rfl (by kernel_rfl) (by kernel_rfl) (by kernel_rfl) (by rfl) hHeld noPanic_panic (v := ?_) (fun x hSx => ?_) ?_
  rotate_left 1
  · (go_simp <;> with_reducible rfl)
  simp only [List.set_cons_zero, List.set_cons_succ]
  refine held_take 5 22 rfl rfl (by kernel_rfl) (by kernel_rfl) (by kernel_rfl) (by rfl) hHeld noPanic_panic (v := ?_) (fun x hSx => ?_) ?_
  rotate_left 1
  · (go_simp <;> with_reducible rfl)
  simp only [List.set_cons_zero, List.set_cons_succ]
  refine held_take 6 23 rfl rfl (by kernel_rfl) (by kernel_rfl) (by kernel_rfl) (by rfl) hHeld noPanic_panic (v := ?_) (fun x hSx => ?_) ?_
  rotate_left 1
  · (go_simp <;> with_reducible rfl)
  simp only [List.set_cons_zero, List.set_cons_succ]
  refine held_take 7 24 rfl rfl (by kernel_rfl) (by kernel_rfl) (by kernel_rfl) (by rfl) hHeld noPanic_panic (v := ?_) (fun x hSx => ?_) ?_
  rotate_left 1
  · (go_simp <;> with_reducible rfl)
  simp only [List.set_cons_zero, List.set_cons_succ]
  refine held_enter 8 25 (by kernel_rfl) rfl rfl (by rfl) (by go_simp <;> exact ⟨rfl, rfl⟩) ?_
  refine (unhide (HFO _) (show RowAt w1.drew rb bg pr from unhide HR1)).mono ?_
  intro e w3 hfo
  have hcase : ∃ r : Int, e = .returned (.int .i64 r) ∧ But [rb] w1 w3 := by
    rcases hfo with ⟨_, rfl, rfl⟩ | ⟨_, rfl, _, hbut⟩
    · exact ⟨11, rfl, (But.refl _ _).drew⟩
    · exact ⟨0, rfl, ⟨hbut.os, hbut.tape, hbut.output, hbut.size, hbut.keep⟩⟩
  obtain ⟨r, rfl, hb3⟩ := hcase
  have hHeld : w3.cell? ⟨g, o + p, none⟩ = some (.int .u8 (b : Int)) := hb3.cell hHeld (by simpa using unhide HGN)
  have HFO3 : Hid (FollowIs rb b bg pr w1.drew (.returned (.int .i64 r)) w3) := hide hfo
  have HGR : Hid (g ≠ RC) := hide (by have := cell_lt hHeld; have h5 := heap_lt (unhide HRC1); intro e; subst e; have hc := unhide HGC; obtain ⟨cur, hc⟩ := hc; exact ne_types hc (unhide HRC1) (by decide) rfl)
  have hRC3 : w3.heap[RC]? = some (.cells #[.int .u8 0, .int .i64 0, .int .i64 0, .int .i64 0, .int .i64 0, .slice none 0 0] 37 (0, 0)) := by
    rw [hb3.keep RC (heap_lt (unhide HRC1)) (by simp; have := heap_lt (unhide HR); have := unhide HRCe; omega)]
    exact unhide HRC1
  have HB3 := hide hb3
  have HRC3 := hide hRC3
  clear hfo hb3 HFO
  refine ⟨_, rfl, hHeld, ?_⟩
  simp only [List.set_cons_zero, List.set_cons_succ]
  have q0 : w3.cell? ⟨RC, 0, none⟩ = some (.int .u8 0) := by simp [World.cell?, hRC3]
  have q1 : w3.cell? ⟨RC, 1, none⟩ = some (.int .i64 0) := by simp [World.cell?, hRC3]
  have q2 : w3.cell? ⟨RC, 2, none⟩ = some (.int .i64 0) := by simp [World.cell?, hRC3]
  have q3 : w3.cell? ⟨RC, 3, none⟩ = some (.int .i64 0) := by simp [World.cell?, hRC3]
  have q4 : w3.cell? ⟨RC, 4, none⟩ = some (.int .i64 0) := by simp [World.cell?, hRC3]
  have q5 : w3.cell? ⟨RC, 5, none⟩ = some (.slice none 0 0) := by simp [World.cell?, hRC3]
  have qf : ∀ i, w3.frozen? ⟨RC, i, none⟩ = false := fun i => by simp [World.frozen?, hRC3]
  clear hRC3
  have HX6 : Hid (w3.heap[RC]? = some (.cells #[.int .u8 0, .int .i64 0, .int .i64 0, .int .i64 0, .int .i64 0, .slice none 0 0] 37 (0, 0))) := HRC3
  refine held_skip 9 (w' := ((((((w3.setCell ⟨RC, 0, none⟩ (.int .u8 (b : Int))).setCell ⟨RC, 1, none⟩ (.int .i64 0)).setCell ⟨RC, 2, none⟩ (.int .i64 0)).setCell ⟨RC, 3, none⟩ (.int .i64 0)).setCell ⟨RC, 4, none⟩ (.int .i64 0)).setCell ⟨RC, 5, none⟩ (.slice none 0 0))) (by kernel_rfl) rfl rfl (by kernel_rfl) (by go_simp <;> first | exact ⟨rfl, rfl⟩ | rfl) ?_ ?_
  · refine (But.refl [RC] w3).set (g := RC) (by simp) 0 _ |>.set (g := RC) (by simp) 1 _ |>.set (g := RC) (by simp) 2 _ |>.set (g := RC) (by simp) 3 _ |>.set (g := RC) (by simp) 4 _ |>.set (g := RC) (by simp) 5 _ |>.cell hHeld ?_
    simpa using unhide HGR
  obtain ⟨w4, hw4⟩ : ∃ w4, w4 = ((((((w3.setCell ⟨RC, 0, none⟩ (.int .u8 (b : Int))).setCell ⟨RC, 1, none⟩ (.int .i64 0)).setCell ⟨RC, 2, none⟩ (.int .i64 0)).setCell ⟨RC, 3, none⟩ (.int .i64 0)).setCell ⟨RC, 4, none⟩ (.int .i64 0)).setCell ⟨RC, 5, none⟩ (.slice none 0 0)) := ⟨_, rfl⟩
  have HB4 : Hid (But [RC] w3 w4) := hide (by rw [hw4]; exact (But.refl [RC] w3).set (g := RC) (by simp) 0 _ |>.set (g := RC) (by simp) 1 _ |>.set (g := RC) (by simp) 2 _ |>.set (g := RC) (by simp) 3 _ |>.set (g := RC) (by simp) 4 _ |>.set (g := RC) (by simp) 5 _)
  have hHeld : w4.cell? ⟨g, o + p, none⟩ = some (.int .u8 (b : Int)) := (unhide HB4).cell hHeld (by simpa using unhide HGR)
  have hRC4 : w4.heap[RC]? = some (.cells (ccells b 0 0 0 0 (.slice none 0 0)) 37 (0, 0)) := by
    rw [hw4, heap_setCell_same _ RC 5 _ 37 _ (heap_setCell_same _ RC 4 _ 37 _ (heap_setCell_same _ RC 3 _ 37 _ (heap_setCell_same _ RC 2 _ 37 _ (heap_setCell_same _ RC 1 _ 37 _ (heap_setCell_same _ RC 0 _ 37 _ (unhide HX6))))))]
    rfl
  rw [← hw4]
  clear hw4 q0 q1 q2 q3 q4 q5 qf
  have q0 : w4.cell? ⟨RC, 0, none⟩ = some (.int .u8 (b : Int)) := by simp [World.cell?, hRC4, ccells]
  have q1 : w4.cell? ⟨RC, 1, none⟩ = some (.int .i64 0) := by simp [World.cell?, hRC4, ccells]
  have q2 : w4.cell? ⟨RC, 2, none⟩ = some (.int .i64 0) := by simp [World.cell?, hRC4, ccells]
  have q3 : w4.cell? ⟨RC, 3, none⟩ = some (.int .i64 0) := by simp [World.cell?, hRC4, ccells]
  have q4 : w4.cell? ⟨RC, 4, none⟩ = some (.int .i64 0) := by simp [World.cell?, hRC4, ccells]
  have q5 : w4.cell? ⟨RC, 5, none⟩ = some (.slice none 0 0) := by simp [World.cell?, hRC4, ccells]
  have HFIN : Hid (KindIs bb ub (some ⟨g, o, none⟩) vc zs p rb bg pr w (.returned (.tuple #[.agg (ccells b 0 0 0 0 (.slice none 0 0)), .int .i64 r])) w4) := hide (by
    have h1 := (unhide H12).1
    have h2 := (unhide H12).2
    have hb0 := (unhide HRC).1
    have hub := heap_lt (unhide HH).u
    have hre := unhide HRCe
    have hb4 : But [ub, rb] w w4 := by
      refine ⟨((unhide HB4).os.trans (unhide HB3).os).trans (h2.os.trans hb0.os), ((unhide HB4).tape.trans (unhide HB3).tape).trans (h2.tape.trans hb0.tape), ((unhide HB4).output.trans (unhide HB3).output).trans (h2.output.trans hb0.output), ?_, fun x hx hn => ?_⟩
      · have a := (unhide HB4).size; have b := (unhide HB3).size; have c := h2.size; have d := hb0.size; omega
      · have a := (unhide HB3).size; have c := h2.size; have d := hb0.size
        rw [(unhide HB4).keep x (by omega) (by simp; omega), (unhide HB3).keep x (by omega) (fun e => hn (by simp at e ⊢; exact .inr e)), h2.keep x (by omega) (fun e => hn (by simp at e ⊢; exact .inl e)), hb0.keep x hx (by simp)]
    rcases unhide HFO3 with ⟨e1, e2, rfl⟩ | ⟨e1, e2, hr3, hb3⟩
    · obtain rfl : r = 11 := by injection e2 with e2; injection e2
      exact .inl ⟨by rw [unhide Hb]; exact e1, ⟨_, rfl⟩, hb4, ⟨_, by rw [(unhide HB4).keep ub (by have := heap_lt h1.u; have := (unhide HB3).size; omega) (by simpa using ne_types h1.u (unhide HRC1) (by decide))]; exact h1.u⟩⟩
    · obtain rfl : r = 0 := by injection e2 with e2; injection e2
      refine .inr ⟨by rw [unhide Hb]; exact e1, by rw [unhide Hb], ?_, ?_, hb4⟩
      · have h3 : NK w3 bb ub (some ⟨g, o, none⟩) vc zs (p + 1) := h1.move (unhide HB3) (fun q hq _ => by obtain rfl := List.mem_singleton.1 hq; exact ⟨_, _, unhide HR1, by decide, by decide⟩) (by rw [(unhide HB3).keep ub (heap_lt h1.u) (by simpa using ne_types h1.u (unhide HR1) (by decide))]; exact h1.u) h1.le
        exact h3.move (unhide HB4) (fun q hq _ => by obtain rfl := List.mem_singleton.1 hq; exact ⟨_, _, unhide HX6, by decide, by decide⟩) (by rw [(unhide HB4).keep ub (heap_lt h3.u) (by simpa using ne_types h3.u (unhide HX6) (by decide))]; exact h3.u) h3.le
      · unfold RowAt
        rw [unhide Hb, (unhide HB4).keep rb (heap_lt hr3) (by simpa using ne_types hr3 (unhide HX6) (by decide))]
        exact hr3)
  unfold ccells at HFIN
  clear hRC4
  refine held_take 10 5 rfl rfl (by kernel_rfl) (by kernel_rfl) (by kernel_rfl) (by rfl) hHeld noPanic_panic (v := ?_) (fun x hSx => ?_) ?_
  rotate_left 1
  · (go_simp <;> with_reducible rfl)
  simp only [List.set_cons_zero, List.set_cons_succ]
  refine wpAnyH_done (by kernel_rfl) ?_ _
  refine NoPanic.normal ?_
  go_wp2_with fail
  try simp only [Exit.inBlock, Exit.then]
  refine bodyPost_ret (by simp [results, Try.results12, go_sem, q0, q1, q2, q3, q4, q5]; try rfl) rfl ?_
  exact unhide HFIN
end
end Go.Proofs.Ythafoojlkaifkaa.K
