/- For every int symbol: LengthOf and DistanceOf tell what the document says, and so do Fixed and Order, twice, also where what was told first has been spoilt. No condition. -/
import Derived.Test.YtppbnodgnphaaaaRows
import Derived.WalkKit
import Derived.ProofKit
import Derived.OpenShut
import Derived.ChangeOld
import Derived.SizedLaws
import Derived.Test.YtppbnodgnphaaaaFx
import Derived.Test.YtppbnodgnphaaaaLooks
namespace Go.Proofs.Ytppbnodgnphaaaa.inflateKnows
open Go.ChangeShapes Go.WideShapes Go.ChangeAt Go.RowKit
set_option linter.unusedVariables false      -- a walk need not use every 'w<i>' (that an integer argument fits its kind)

theorem own : ownKnob Try.prog.godebug = none := by kernel_rfl

/-! ### STEP 1: THE WALK: the Go text returns true. 'Grown w w'': the world has at most new blocks (Derived/RowKit3.lean). Part the cases AHEAD of 'go_enter' where a test parts the walk; take each callee by a contract of your own. -/
theorem rfixed_at (w : World) : Calls Try.prog 16 #[] w fun e w' => ∃ g cap, e = .returned (.slice (some ⟨g, 0, none⟩) 288 cap) ∧ w.heap.size ≤ g ∧ (∀ j, j < 288 → w'.cell? ⟨g, j, none⟩ = some (.int .i64 (fx j : Int))) ∧ Below w.heap.size w w' := by
  refine (rfixed_ok w).mono ?_
  rintro e w' ⟨lv, rfl, hown, hb⟩
  have hr := hown.2
  rcases hr with ⟨_, e'⟩ | ⟨g, cap, cur, e, hbg, hh, hn, hc, hs, ht⟩
  · cases e'
  · subst e
    refine ⟨g, cap, rfl, hbg, fun j hj => ?_, hb⟩
    have h2 : (cur.toList.take (288 * 1))[j]? = ((List.range 288).map fun i => iv (fx i : Int))[j]? := by rw [ht]
    rw [List.getElem?_take, if_pos (by omega), List.getElem?_map, List.getElem?_range hj] at h2
    simp only [World.cell?, hh]
    rw [← Array.getElem?_toList, h2]
    rfl

theorem orders_cell (w : World) (j : Nat) (hj : j < 19) : (w.alloc (.cells (Infl.order.map (fun z : Nat => iv (z : Int))).toArray 3)).cell? ⟨w.heap.size, j, none⟩ = some (.int .i64 ((Infl.order.getD j 0 : Nat) : Int)) := by
  simp only [World.cell?, heap_alloc_new]
  rw [List.getElem?_toArray, List.getElem?_map]
  rw [List.getD_eq_getElem?_getD, List.getElem?_eq_getElem (show j < Infl.order.length from hj)]
  rfl

theorem orders_at (w : World) : IntsAt (w.alloc (.cells (Infl.order.map (fun z : Nat => iv (z : Int))).toArray 3)) .i64 3 w.heap.size 19 (fun j => Infl.order.getD j 0) := by
  unfold IntsAt
  rw [heap_alloc_new]
  rfl

set_option maxRecDepth 100000 in
set_option maxHeartbeats 2000000 in
theorem walk (a0 : Int) (w0 : (Lit.int .i64 a0).wf = true) (w : World) :
    Calls Try.prog 4 #[.int .i64 a0] w fun e w' => e = .returned (.bool true) ∧ Below w.heap.size w w' := by
  clear w0
  obtain ⟨n, x, e, hl⟩ : ∃ n x e : Int, lenAns a0 = .tuple #[.int .i64 n, .int .i64 x, .int .i64 e] := by
    unfold lenAns; split
    · exact ⟨_, _, _, rfl⟩
    · exact ⟨_, _, _, rfl⟩
  obtain ⟨d, z, f, hd⟩ : ∃ n x e : Int, distAns a0 = .tuple #[.int .i64 n, .int .i64 x, .int .i64 e] := by
    unfold distAns; split
    · exact ⟨_, _, _, rfl⟩
    · exact ⟨_, _, _, rfl⟩
  have C1 := hide (len_ok a0 w)
  have C2 := hide (rlen_ok a0 w)
  have C3 := hide (dist_ok a0 w)
  have C4 := hide (rdist_ok a0 w)
  rw [hl] at C1 C2
  rw [hd] at C3 C4
  clear hl hd
  go_enter Try.func4, Try.ntmps4
  go_wp2_with fail
  refine (unhide C1).mono ?_
  rintro e w' ⟨rfl, hw⟩
  subst w'
  go_wp2_with fail
  refine (unhide C2).mono ?_
  rintro e w' ⟨rfl, hw⟩
  subst w'
  go_wp2_with fail
  refine (unhide C3).mono ?_
  rintro e w' ⟨rfl, hw⟩
  subst w'
  go_wp2_with fail
  refine (unhide C4).mono ?_
  rintro e w' ⟨rfl, hw⟩
  subst w'
  clear C1 C2 C3 C4
  go_wp2_with fail
  refine (fixed_ok _).mono ?_
  rintro e u1 ⟨rfl, a1, b1⟩
  have A1 := hide a1
  have B1 := hide b1
  clear a1 b1
  go_wp2_with fail
  refine (rfixed_at _).mono ?_
  rintro e v1 ⟨g1, cap1, rfl, l1, c1, d1⟩
  have L1 := hide l1
  have C1 := hide c1
  have D1 := hide d1
  clear l1 c1 d1
  go_wp2_with fail
  refine (same_ok _ g1 cap1 288 fx _ ((unhide A1).stays (unhide D1) (unhide A1).lt) (unhide C1) (by have := (unhide A1).lt; have := unhide L1; omega) (by decide)).mono ?_
  rintro e x1 ⟨rfl, o1⟩
  have HB1 : Hid (Below w.heap.size w x1) := hide ((Below.refl _ _).trans ((((unhide B1).trans ((unhide D1).mono (unhide B1).size)).trans (o1.below (Nat.le_refl _) (by have h1 := (unhide B1).size; have h2 := (unhide D1).size; omega))).mono (Nat.le_refl _)))
  clear o1 A1 B1 L1 C1 D1
  go_wp2_with fail
  refine (fixed_ok _).mono ?_
  rintro e u2 ⟨rfl, a2, b2⟩
  have A2 := hide a2
  have B2 := hide b2
  clear a2 b2
  go_wp2_with fail
  refine (rfixed_at _).mono ?_
  rintro e v2 ⟨g2, cap2, rfl, l2, c2, d2⟩
  have L2 := hide l2
  have C2 := hide c2
  have D2 := hide d2
  clear l2 c2 d2
  go_wp2_with fail
  refine (same_ok _ g2 cap2 288 fx _ ((unhide A2).stays (unhide D2) (unhide A2).lt) (unhide C2) (by have := (unhide A2).lt; have := unhide L2; omega) (by decide)).mono ?_
  rintro e x2 ⟨rfl, o2⟩
  have HB2 : Hid (Below w.heap.size w x2) := hide ((unhide HB1).trans ((((unhide B2).trans ((unhide D2).mono (unhide B2).size)).trans (o2.below (Nat.le_refl _) (by have h1 := (unhide B2).size; have h2 := (unhide D2).size; omega))).mono (unhide HB1).size))
  clear o2 A2 B2 L2 C2 D2
  go_wp2_with fail
  refine (order_ok _).mono ?_
  rintro e u3 ⟨rfl, hu3⟩
  have A3 : Hid (IntsAt u3 .i64 3 x2.heap.size 19 (fun j => Infl.order.getD j 0)) := hide (by rw [hu3]; exact orders_at _)
  have B3 : Hid (Below x2.heap.size x2 u3) := hide (by rw [hu3]; exact (Below.refl _ _).alloc (Nat.le_refl _) _)
  clear hu3
  go_wp2_with fail
  refine (rorder_ok _).mono ?_
  rintro e v3 ⟨rfl, hv3⟩
  have C3 : Hid (∀ j, j < 19 → v3.cell? ⟨u3.heap.size, j, none⟩ = some (.int .i64 ((Infl.order.getD j 0 : Nat) : Int))) := hide (by rw [hv3]; exact fun j hj => orders_cell _ j hj)
  have D3 : Hid (Below u3.heap.size u3 v3) := hide (by rw [hv3]; exact (Below.refl _ _).alloc (Nat.le_refl _) _)
  clear hv3
  go_wp2_with fail
  refine (same_ok _ _ 19 19 (fun j => Infl.order.getD j 0) _ ((unhide A3).stays (unhide D3) (unhide A3).lt) (unhide C3) (by have := (unhide A3).lt; omega) (by decide)).mono ?_
  rintro e x3 ⟨rfl, o3⟩
  have HB3 : Hid (Below w.heap.size w x3) := hide ((unhide HB2).trans ((((unhide B3).trans ((unhide D3).mono (unhide B3).size)).trans (o3.below (Nat.le_refl _) (by have h1 := (unhide B3).size; have h2 := (unhide D3).size; omega))).mono (unhide HB2).size))
  clear o3 A3 B3 C3 D3
  go_wp2_with fail
  refine (order_ok _).mono ?_
  rintro e u4 ⟨rfl, hu4⟩
  have A4 : Hid (IntsAt u4 .i64 3 x3.heap.size 19 (fun j => Infl.order.getD j 0)) := hide (by rw [hu4]; exact orders_at _)
  have B4 : Hid (Below x3.heap.size x3 u4) := hide (by rw [hu4]; exact (Below.refl _ _).alloc (Nat.le_refl _) _)
  clear hu4
  go_wp2_with fail
  refine (rorder_ok _).mono ?_
  rintro e v4 ⟨rfl, hv4⟩
  have C4 : Hid (∀ j, j < 19 → v4.cell? ⟨u4.heap.size, j, none⟩ = some (.int .i64 ((Infl.order.getD j 0 : Nat) : Int))) := hide (by rw [hv4]; exact fun j hj => orders_cell _ j hj)
  have D4 : Hid (Below u4.heap.size u4 v4) := hide (by rw [hv4]; exact (Below.refl _ _).alloc (Nat.le_refl _) _)
  clear hv4
  go_wp2_with fail
  refine (same_ok _ _ 19 19 (fun j => Infl.order.getD j 0) _ ((unhide A4).stays (unhide D4) (unhide A4).lt) (unhide C4) (by have := (unhide A4).lt; omega) (by decide)).mono ?_
  rintro e x4 ⟨rfl, o4⟩
  have HB4 : Hid (Below w.heap.size w x4) := hide ((unhide HB3).trans ((((unhide B4).trans ((unhide D4).mono (unhide B4).size)).trans (o4.below (Nat.le_refl _) (by have h1 := (unhide B4).size; have h2 := (unhide D4).size; omega))).mono (unhide HB3).size))
  clear o4 A4 B4 C4 D4
  go_wp2_with fail
  go_ret
  exact ⟨rfl, unhide HB4⟩

/-! ### THE ROW's STEP: WRITTEN OUT: LEAVE IT -/
set_option maxRecDepth 100000 in
theorem lifted (os : Os) (started : os.Started) (H : Type) (enc : TypeId × Value → H) :
    ReturnsInHanded {} Try.checked os 4 .any (Rows.inflateKnowsSpec.pre6 enc Try.prog Try.f4 Rows.inflateKnowsRow.domain false) (Rows.inflateKnowsSpec.post enc Try.prog Try.f4 false true false false) := by
  refine returnsInHanded_of_change (C := Try.checked) own started (by kernel_rfl) Try.func4
    (ChangeSpec.witness6 (enc := enc) (C := Try.checked) false ⟨#[], #[.int .i64 0], []⟩ 8 (by kernel_rfl) (by kernel_rfl) (by kernel_rfl) (by kernel_rfl)) ?_
  intro W base args ds gs before hval0 hW hcnd _
  have hval : ∀ (j : Nat) t v, Try.f4.params[j]? = some t → args[j]? = some v → Value.okWide Try.prog W .any base t v := hval0
  have hW' := hW
  obtain ⟨p, q, hA0, hV, rfl, hfz, hnd⟩ := hW
  have hA : DataW.TrodAll enc Try.prog W 0 (fun _ => true) true Try.f4.params.toList args.toList ds p := hA0
  rw [Try.params4] at hA hval
  obtain ⟨v0, vs0, d0, ds0, p0, q0, hargs, rfl, rfl, h0, r0⟩ := trodAll_cons hA
  obtain ⟨rfl, rfl, rfl⟩ := trodAll_nil r0
  obtain rfl : args = #[v0] := by cases args; simp_all
  obtain ⟨rfl, rfl⟩ := trodVars_none hV
  obtain ⟨a0, rfl, rfl, rfl, w0⟩ := open_int Try.underlying3 (hval 0 3 v0 rfl rfl) h0
  clear hA0 hval0
  refine (walk a0 w0 W).mono fun e W' ⟨he, hg⟩ => ?_
  subst he
  exact ⟨_, rfl, _, _, _, [], _, [], hW', trodAll_mk1 (shut_bool Try.underlying4 _), (trodAll_cons_mk (shut_int Try.underlying3 w0) trodAll_mk0), rfl, hg.frame _, fun h => by cases h⟩

theorem over : Rows.inflateKnowsRow.holds Try.pinned (OpenSpec.ofChange Rows.inflateKnowsSpec) :=
  OpenClaim.holds_of_wide 4 Try.f4 rfl rfl rfl rfl rfl rfl rfl ⟨rfl, rfl, rfl, rfl, rfl⟩ rfl rfl rfl rfl rfl (by kernel_rfl) Try.func4 (by kernel_rfl)
    (of_decide_eq_true (by kernel_rfl)) (by unfold Func.isWrapper; first | (rw [if_pos (by decide +kernel)]; kernel_rfl) | (rw [if_neg (by decide +kernel)]; exact ⟨rfl, rfl⟩))
    (fun os started H enc _ => lifted os started H enc)

/-- ████ THE STATEMENT ████ -/
theorem proved : Rows.InflateKnowsSaid :=
  over
end Go.Proofs.Ytppbnodgnphaaaa.inflateKnows

namespace Go.Proofs.Ytppbnodgnphaaaa
theorem inflateKnows_holds : Rows.InflateKnowsSaid := inflateKnows.proved
end Go.Proofs.Ytppbnodgnphaaaa
