/- For every struct of lengths, list of numbers and symbol, hamperlaw04.PrefixMakes returns true, and all of them read behind the call as they read before; there are no conditions. -/
import Derived.Test.YtclccccodeekmaaArgs
namespace Go.Proofs.Ytclccccodeekmaa.MakesFrame
open Go.ChangeShapes Go.WideShapes Go.ChangeAt Go.RowKit Go.Deep Go.Joins

set_option maxRecDepth 100000 in
theorem lifted (os : Os) (started : os.Started) (H : Type) (enc : TypeId × Value → H) :
    ReturnsInHanded {} Try.checked os 3 .any (Rows.prefixMakesSpec.pre6 enc Try.prog Try.f3 Rows.prefixMakesRow.domain false) (Rows.prefixMakesSpec.post enc Try.prog Try.f3 false true false false) := by
  refine returnsInHanded_of_change_sized (C := Try.checked) own started (by kernel_rfl) Try.func3
    (ChangeSpec.witness6 (enc := enc) (C := Try.checked) false ⟨#[], #[.agg #[.slice none 0 0, .int .i64 0, .bool false], .slice none 0 0, .int .i64 0], []⟩ 8 (by kernel_rfl) (by kernel_rfl) (by kernel_rfl) (by kernel_rfl)) ?_
  intro W base args ds gs before hval0 hW hcnd hsz0 _
  have hsz : (DataW.weightsEach Try.prog (Try.f3.params.toList ++ Rows.prefixMakesSpec.plain.varTypes Try.prog) (ds ++ gs)).all (· ≤ reachBytes) = true := hsz0
  have hval : ∀ (j : Nat) t v, Try.f3.params[j]? = some t → args[j]? = some v → Value.okWide Try.prog W .any base t v := hval0
  have hW' := hW
  obtain ⟨p, q, hA0, hV, rfl, hfz, hnd⟩ := hW
  have hA : DataW.TrodAll enc Try.prog W 0 (fun _ => true) true Try.f3.params.toList args.toList ds p := hA0
  rw [Try.params3] at hA hval hsz
  obtain ⟨v0, vs0, d0, ds0, p0, q0, hargs, rfl, rfl, h0, r0⟩ := trodAll_cons hA
  obtain ⟨v1, vs1, d1, ds1, p1, q1, rfl, rfl, rfl, h1, r1⟩ := trodAll_cons r0
  obtain ⟨v2, vs2, d2, ds2, p2, q2, rfl, rfl, rfl, h2, r2⟩ := trodAll_cons r1
  obtain ⟨rfl, rfl, rfl⟩ := trodAll_nil r2
  obtain rfl : args = #[v0, v1, v2] := by cases args; simp_all
  obtain ⟨rfl, rfl⟩ := trodVars_none hV
  have k0 := h0
  have k1 := h1
  have lt0 : ∀ x ∈ p0, x.block < W.heap.size := by obtain ⟨m, hm⟩ := k0; exact DataW.trod_lt m _ _ _ hm
  have lt1 : ∀ x ∈ p1, x.block < W.heap.size := by obtain ⟨m, hm⟩ := k1; exact DataW.trod_lt m _ _ _ hm
  obtain ⟨c0, c1, c2, y0, y1, y2, m, hv, hd, hp, t0, t1, t2⟩ := open_agg3 Try.underlying24 (by kernel_rfl) cells24 (hval 0 24 v0 rfl rfl) h0
  obtain ⟨a, cap, zs, e0, hr, hy0⟩ := ints_of t0
  obtain ⟨most, e1, _, _⟩ := DataW.trod_int Try.underlying3 t1
  obtain ⟨loose, e2, _⟩ := DataW.trod_bool Try.underlying4 t2
  obtain ⟨a1, l1, cap1, rfl⟩ := okWide_slice Try.underlying22 (hval 1 22 v1 rfl rfl)
  obtain ⟨fuel1, hf1⟩ := h1
  obtain ⟨b1, bcap1, os', e3, hr1, hy1⟩ := ints_of hf1
  obtain ⟨s, rfl, rfl, _, w2⟩ := open_int Try.underlying3 (hval 2 3 v2 rfl rfl) h2
  simp only [List.cons.injEq, and_true] at e0 e1 e2
  simp [Value.cells] at e3
  obtain ⟨rfl, rfl, rfl⟩ := e3
  subst e0 e1 e2 hv hd
  have hn : zs.length * 8 ≤ 140737488351232 := by
    rcases hy0 with ⟨_, rfl⟩ | ⟨el, sp, hy, hl⟩
    · simp
    · have := List.all_eq_true.1 hsz ((el.length + sp.length) * 8) (DataW.weights_mem_each (j := 0) (t := 24) (d := .agg [y0.1, y1.1, y2.1]) rfl rfl _ (by
        rw [hy]
        simp only [DataW.weights, Try.underlying24]
        simp only [List.map_cons, List.map_nil, DataW.weightsEach, DataW.weights, Try.underlying22, bytes3]
        simp))
      have h3 : (el.length + sp.length) * 8 ≤ reachBytes := of_decide_eq_true this
      have h4 : reachBytes = 140737488351232 := by decide
      rw [h4] at h3
      omega
  clear hA0 hval0
  refine (makes_walk a cap zs os' most s loose _ W hr hn hr1.reads).mono fun e W' ⟨he, bel⟩ => ?_
  subst he
  exact ⟨_, rfl, _, _, _, [], _, [], hW', trodAll_mk1 (shut_bool Try.underlying4 _), (trodAll_cons_mk (Below.trod laidOut (by kernel_rfl) (of_decide_eq_true (by kernel_rfl)) k0 bel lt0) (trodAll_cons_mk (Below.trod laidOut (by kernel_rfl) (of_decide_eq_true (by kernel_rfl)) k1 bel lt1) (trodAll_cons_mk (shut_int Try.underlying3 w2) trodAll_mk0))), rfl, bel.frame _, fun h => by cases h⟩

theorem proved : Rows.PrefixMakesSaid :=
  OpenClaim.holds_of_wide 3 Try.f3 rfl rfl rfl rfl rfl rfl rfl ⟨rfl, rfl, rfl, rfl, rfl⟩ rfl rfl rfl rfl rfl (by kernel_rfl) Try.func3 (by kernel_rfl)
    (of_decide_eq_true (by kernel_rfl)) (by unfold Func.isWrapper; first | (rw [if_pos (by decide +kernel)]; kernel_rfl) | (rw [if_neg (by decide +kernel)]; exact ⟨rfl, rfl⟩))
    (fun os started H enc _ => lifted os started H enc)

end Go.Proofs.Ytclccccodeekmaa.MakesFrame
namespace Go.Proofs.Ytclccccodeekmaa
theorem prefixMakes_holds : Rows.PrefixMakesSaid := MakesFrame.proved
end Go.Proofs.Ytclccccodeekmaa
