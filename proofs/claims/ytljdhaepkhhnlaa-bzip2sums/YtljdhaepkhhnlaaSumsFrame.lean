/- Bzip2Sums: any blocks' sums have the document's sum together, for every list of sums. -/
import Derived.Test.YtljdhaepkhhnlaaSu
import Derived.Test.YtljdhaepkhhnlaaRows
import Derived.ProofKit
import Derived.OpenShut
import Derived.ChangeOld
import Derived.SizedLaws
namespace Go.Proofs.Ytljdhaepkhhnlaa.Bzip2SumsFrame
open Go.ChangeShapes Go.WideShapes Go.ChangeAt Go.RowKit Go.Deep Go.Joins

theorem own : ownKnob Try.prog.godebug = none := by kernel_rfl
theorem laidOut : laidOutB Try.prog = true := by kernel_rfl
theorem cells32 : Try.prog.cellsOf 32 = 1 := by kernel_rfl
theorem bytes32 : Try.prog.bytesOf 32 = 4 := by kernel_rfl

set_option maxRecDepth 100000 in
theorem lifted (os : Os) (started : os.Started) (H : Type) (enc : TypeId × Value → H) :
    ReturnsInHanded {} Try.checked os 4 .any (Rows.bzip2SumsSpec.pre6 enc Try.prog Try.f4 Rows.bzip2SumsRow.domain false) (Rows.bzip2SumsSpec.post enc Try.prog Try.f4 false true false false) := by
  refine returnsInHanded_of_change_sized (C := Try.checked) own started (by kernel_rfl) Try.func4
    (ChangeSpec.witness6 (enc := enc) (C := Try.checked) false ⟨#[], #[.slice none 0 0], []⟩ 8 (by kernel_rfl) (by kernel_rfl) (by kernel_rfl) (by kernel_rfl)) ?_
  intro W base args ds gs before hval0 hW hcnd hsz0 _
  have hsz : (DataW.weightsEach Try.prog (Try.f4.params.toList ++ Rows.bzip2SumsSpec.plain.varTypes Try.prog) (ds ++ gs)).all (· ≤ reachBytes) = true := hsz0
  have hval : ∀ (j : Nat) t v, Try.f4.params[j]? = some t → args[j]? = some v → Value.okWide Try.prog W .any base t v := hval0
  have hW' := hW
  obtain ⟨p, q, hA0, hV, rfl, hfz, hnd⟩ := hW
  have hA : DataW.TrodAll enc Try.prog W 0 (fun _ => true) true Try.f4.params.toList args.toList ds p := hA0
  rw [Try.params4] at hA hval hsz
  obtain ⟨v0, vs0, d0, ds0, p0, q0, hargs, rfl, rfl, h0, r0⟩ := trodAll_cons hA
  obtain ⟨rfl, rfl, rfl⟩ := trodAll_nil r0
  obtain rfl : args = #[v0] := by cases args; simp_all
  obtain ⟨rfl, rfl⟩ := trodVars_none hV
  obtain ⟨a0, len0, cap0, rfl⟩ := okWide_slice Try.underlying31 (hval 0 31 v0 rfl rfl)
  have k0 := h0
  have lt0 : ∀ x ∈ p0, x.block < W.heap.size := by obtain ⟨m, hm⟩ := k0; exact DataW.trod_lt m _ _ _ hm
  obtain ⟨zs0, hzl0, hz0, hcp0, hsm0, hrd0⟩ : ∃ zs : List Nat, zs.length = len0 ∧ len0 ≤ 35184372087808 ∧ len0 ≤ cap0 ∧ (∀ z ∈ zs, z < 4294967296) ∧ ((a0 = none ∧ cap0 = 0 ∧ zs = []) ∨ ∃ ad, a0 = some ad ∧ ∀ (j : Nat) u, (zs.map uv)[j]? = some u → W.cell? (ad.add j) = some u) := by
    obtain ⟨fuel, hf⟩ := h0
    have hf2 := hf
    rcases open_ints Try.underlying31 Try.underlying32 cells32 hf with ⟨hcs, _⟩ | ⟨x, l, c, ys, hcs, _, hl, hm, hz, hx, hcell, hwz⟩
    · simp [Value.cells] at hcs
      obtain ⟨rfl, rfl, rfl⟩ := hcs
      exact ⟨[], rfl, by omega, by omega, by simp, .inl ⟨rfl, rfl, rfl⟩⟩
    · simp [Value.cells] at hcs
      obtain ⟨rfl, rfl, rfl⟩ := hcs
      have hlen : len0 ≤ 35184372087808 := by
        rcases open_slice Try.underlying31 hf2 with ⟨hcs, _⟩ | ⟨x', l', c', m', n', D, Pl, hcs, _, _, _, _, hx', _⟩
        · simp [Value.cells] at hcs
        · simp [Value.cells] at hcs
          obtain ⟨rfl, rfl, rfl⟩ := hcs
          simp only [Prod.mk.injEq] at hx'
          have hd1 := hx'.1
          subst hd1
          have hz := sized_slice hsz (j := 0) (t := 31) (e := 32) rfl rfl Try.underlying31
          simp [bytes32, reachBytes] at hz
          omega
      simp at hz
      have hb : ∀ y ∈ ys, 0 ≤ y ∧ y ≤ 4294967295 := fun y hy => bounds_u32 (hwz y hy)
      refine ⟨(ys.take len0).map Int.toNat, by simp; omega, hlen, by omega, ?_, .inr ⟨x, rfl, fun j u hj => ?_⟩⟩
      · intro z hz'
        obtain ⟨y, hy, rfl⟩ := List.mem_map.1 hz'
        have := hb y (List.mem_of_mem_take hy)
        omega
      · have hj2 : j < len0 := by
          have := (List.getElem?_eq_some_iff.1 hj).1
          simp at this; omega
        rw [hcell j (by omega)]
        rw [List.getElem?_map, List.getElem?_map, List.getElem?_take, if_pos hj2, List.getElem?_eq_getElem (by omega)] at hj
        simp [uv] at hj
        rw [← hj]
        have := hb ys[j] (List.getElem_mem _)
        simp [show j < ys.length by omega]
        omega
  clear hA0 hval0
  subst hzl0
  refine (sums_law zs0 a0 cap0 W hrd0 hsm0 (by omega)).mono fun e W' ⟨he, bel⟩ => ?_
  subst he
  exact ⟨_, rfl, _, _, _, [], _, [], hW', trodAll_mk1 (shut_bool Try.underlying4 _), (trodAll_cons_mk (Below.trod laidOut (by kernel_rfl) (of_decide_eq_true (by kernel_rfl)) k0 bel lt0) trodAll_mk0), rfl, bel.frame _, fun h => by cases h⟩

theorem proved : Rows.Bzip2SumsSaid :=
  OpenClaim.holds_of_wide 4 Try.f4 rfl rfl rfl rfl rfl rfl rfl ⟨rfl, rfl, rfl, rfl, rfl⟩ rfl rfl rfl rfl rfl (by kernel_rfl) Try.func4 (by kernel_rfl)
    (of_decide_eq_true (by kernel_rfl)) (by unfold Func.isWrapper; first | (rw [if_pos (by decide +kernel)]; kernel_rfl) | (rw [if_neg (by decide +kernel)]; exact ⟨rfl, rfl⟩))
    (fun os started H enc _ => lifted os started H enc)

end Go.Proofs.Ytljdhaepkhhnlaa.Bzip2SumsFrame
namespace Go.Proofs.Ytljdhaepkhhnlaa
theorem bzip2Sums_holds : Rows.Bzip2SumsSaid := Bzip2SumsFrame.proved
end Go.Proofs.Ytljdhaepkhhnlaa
