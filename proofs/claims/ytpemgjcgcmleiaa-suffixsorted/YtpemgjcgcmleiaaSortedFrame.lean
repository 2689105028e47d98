/- For all bytes, hamperlaw10.SuffixSorted returns true (the places that suffix.Rows tells are all places of the text, and the turnings there rise, like ones by their places; of more than 2^20 bytes Rows tells ErrBig), and its argument reads behind the call as it read before; there are no conditions. -/
import Derived.Test.YtpemgjcgcmleiaaRows
import Derived.Test.YtpemgjcgcmleiaaLs
import Derived.ProofKit
import Derived.OpenShut
import Derived.ChangeOld
import Derived.SizedLaws
namespace Go.Proofs.Ytpemgjcgcmleiaa.SuffixSortedFrame
open Go.ChangeShapes Go.WideShapes Go.ChangeAt Go.RowKit Go.Deep Go.Joins

theorem own : ownKnob Try.prog.godebug = none := by kernel_rfl
theorem laidOut : laidOutB Try.prog = true := by kernel_rfl
theorem cells5 : Try.prog.cellsOf 5 = 1 := by kernel_rfl
theorem bytes5 : Try.prog.bytesOf 5 = 1 := by kernel_rfl

set_option maxRecDepth 100000 in
theorem lifted (os : Os) (started : os.Started) (H : Type) (enc : TypeId × Value → H) :
    ReturnsInHanded {} Try.checked os 6 .any (Rows.suffixSortedSpec.pre6 enc Try.prog Try.f6 Rows.suffixSortedRow.domain false) (Rows.suffixSortedSpec.post enc Try.prog Try.f6 false true false false) := by
  refine returnsInHanded_of_change_sized (C := Try.checked) own started (by kernel_rfl) Try.func6
    (ChangeSpec.witness6 (enc := enc) (C := Try.checked) false ⟨#[], #[.slice none 0 0], []⟩ 8 (by kernel_rfl) (by kernel_rfl) (by kernel_rfl) (by kernel_rfl)) ?_
  intro W base args ds gs before hval0 hW hcnd hsz0 _
  have hsz : (DataW.weightsEach Try.prog (Try.f6.params.toList ++ Rows.suffixSortedSpec.plain.varTypes Try.prog) (ds ++ gs)).all (· ≤ reachBytes) = true := hsz0
  have hval : ∀ (j : Nat) t v, Try.f6.params[j]? = some t → args[j]? = some v → Value.okWide Try.prog W .any base t v := hval0
  have hW' := hW
  obtain ⟨p, q, hA0, hV, rfl, hfz, hnd⟩ := hW
  have hA : DataW.TrodAll enc Try.prog W 0 (fun _ => true) true Try.f6.params.toList args.toList ds p := hA0
  rw [Try.params6] at hA hval hsz
  obtain ⟨v0, vs0, d0, ds0, p0, q0, hargs, rfl, rfl, h0, r0⟩ := trodAll_cons hA
  obtain ⟨rfl, rfl, rfl⟩ := trodAll_nil r0
  obtain rfl : args = #[v0] := by cases args; simp_all
  obtain ⟨rfl, rfl⟩ := trodVars_none hV
  obtain ⟨a0, len0, cap0, rfl⟩ := okWide_slice Try.underlying22 (hval 0 22 v0 rfl rfl)
  have k0 := h0
  have lt0 : ∀ x ∈ p0, x.block < W.heap.size := by obtain ⟨m, hm⟩ := k0; exact DataW.trod_lt m _ _ _ hm
  obtain ⟨zs0, hzl0, hz0, hcp0, hsm0, hrd0⟩ : ∃ zs : List Nat, zs.length = len0 ∧ len0 ≤ 140737488351232 ∧ len0 ≤ cap0 ∧ (∀ z ∈ zs, z < 256) ∧ ((a0 = none ∧ cap0 = 0 ∧ zs = []) ∨ ∃ ad, a0 = some ad ∧ ∀ (j : Nat) u, (zs.map bv)[j]? = some u → W.cell? (ad.add j) = some u) := by
    obtain ⟨fuel, hf⟩ := h0
    have hf2 := hf
    rcases open_ints Try.underlying22 Try.underlying5 cells5 hf with ⟨hcs, _⟩ | ⟨x, l, c, ys, hcs, _, hl, hm, hz, hx, hcell, hwz⟩
    · simp [Value.cells] at hcs
      obtain ⟨rfl, rfl, rfl⟩ := hcs
      exact ⟨[], rfl, by omega, by omega, by simp, .inl ⟨rfl, rfl, rfl⟩⟩
    · simp [Value.cells] at hcs
      obtain ⟨rfl, rfl, rfl⟩ := hcs
      have hlen : len0 ≤ 140737488351232 := by
        rcases open_slice Try.underlying22 hf2 with ⟨hcs, _⟩ | ⟨x', l', c', m', n', D, Pl, hcs, _, _, _, _, hx', _⟩
        · simp [Value.cells] at hcs
        · simp [Value.cells] at hcs
          obtain ⟨rfl, rfl, rfl⟩ := hcs
          simp only [Prod.mk.injEq] at hx'
          have hd1 := hx'.1
          subst hd1
          have hz := sized_slice hsz (j := 0) (t := 22) (e := 5) rfl rfl Try.underlying22
          simp [bytes5, reachBytes] at hz
          omega
      simp at hz
      have hb : ∀ y ∈ ys, 0 ≤ y ∧ y ≤ 255 := fun y hy => bounds_u8 (hwz y hy)
      refine ⟨(ys.take len0).map Int.toNat, by simp; omega, hlen, by omega, ?_, .inr ⟨x, rfl, fun j u hj => ?_⟩⟩
      · intro z hz'
        obtain ⟨y, hy, rfl⟩ := List.mem_map.1 hz'
        have := hb y (List.mem_of_mem_take hy)
        omega
      · have hj2 : j < len0 := by
          have := (List.getElem?_eq_some_iff.1 hj).1
          simp at this; omega
        rw [hcell j (by omega)]
        rw [List.getElem?_map, List.getElem?_map, List.getElem?_take, if_pos hj2, List.getElem?_eq_getElem (by omega)] at hj
        simp [bv] at hj
        rw [← hj]
        have := hb ys[j] (List.getElem_mem _)
        simp [show j < ys.length by omega]
        omega
  clear hA0 hval0
  subst hzl0
  refine (sorted_law a0 cap0 zs0 W hrd0 hsm0 hz0 hcp0).mono fun e W' ⟨he, bel⟩ => ?_
  subst he
  exact ⟨_, rfl, _, _, _, [], _, [], hW', trodAll_mk1 (shut_bool Try.underlying4 _), (trodAll_cons_mk (Below.trod laidOut (by kernel_rfl) (of_decide_eq_true (by kernel_rfl)) k0 bel lt0) trodAll_mk0), rfl, bel.frame _, fun h => by cases h⟩

theorem proved : Rows.SuffixSortedSaid :=
  OpenClaim.holds_of_wide 6 Try.f6 rfl rfl rfl rfl rfl rfl rfl ⟨rfl, rfl, rfl, rfl, rfl⟩ rfl rfl rfl rfl rfl (by kernel_rfl) Try.func6 (by kernel_rfl)
    (of_decide_eq_true (by kernel_rfl)) (by unfold Func.isWrapper; first | (rw [if_pos (by decide +kernel)]; kernel_rfl) | (rw [if_neg (by decide +kernel)]; exact ⟨rfl, rfl⟩))
    (fun os started H enc _ => lifted os started H enc)

end Go.Proofs.Ytpemgjcgcmleiaa.SuffixSortedFrame
namespace Go.Proofs.Ytpemgjcgcmleiaa
theorem suffixSorted_holds : Rows.SuffixSortedSaid := SuffixSortedFrame.proved
end Go.Proofs.Ytpemgjcgcmleiaa
