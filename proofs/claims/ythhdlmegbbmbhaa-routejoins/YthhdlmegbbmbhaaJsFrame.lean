/- For any slice l of strings, hamperlaw17.RouteJoins returns true: route.Join makes of any names the document's path, or none, and leaves them as they were. No condition. -/
import Derived.Test.YthhdlmegbbmbhaaRows
import Derived.Test.YthhdlmegbbmbhaaJs
import Derived.WalkKit
import Derived.ProofKit
import Derived.OpenShut
import Derived.SizedLaws
import Derived.SliceStrings
namespace Go.Proofs.Ythhdlmegbbmbhaa.routeJoins
open Go.ChangeShapes Go.WideShapes Go.ChangeAt Go.RowKit
set_option linter.unusedVariables false

theorem own : ownKnob Try.prog.godebug = none := by kernel_rfl
theorem laidOut : laidOutB Try.prog = true := by kernel_rfl
theorem cells9 : Try.prog.cellsOf 9 = 1 := by kernel_rfl
theorem bytes9 : Try.prog.bytesOf 9 = 16 := by kernel_rfl

theorem cell_lt {w : World} {p : Addr} {u : Value} (h : w.cell? p = some u) : p.block < w.heap.size := by
  rcases Nat.lt_or_ge p.block w.heap.size with h' | h'
  · exact h'
  · simp [World.cell?, Array.getElem?_eq_none h'] at h

set_option maxRecDepth 100000 in
theorem lifted (os : Os) (started : os.Started) (H : Type) (enc : TypeId × Value → H) :
    ReturnsInHanded {} Try.checked os 5 .any (Rows.routeJoinsSpec.pre6 enc Try.prog Try.f5 Rows.routeJoinsRow.domain false) (Rows.routeJoinsSpec.post enc Try.prog Try.f5 false true false false) := by
  refine returnsInHanded_of_change_sized (C := Try.checked) own started (by kernel_rfl) Try.func5
    (ChangeSpec.witness6 (enc := enc) (C := Try.checked) false ⟨#[], #[.slice none 0 0], []⟩ 8 (by kernel_rfl) (by kernel_rfl) (by kernel_rfl) (by kernel_rfl)) ?_
  intro W base args ds gs before hval0 hW hcnd hsz0 _
  have hsz : (DataW.weightsEach Try.prog (Try.f5.params.toList ++ Rows.routeJoinsSpec.plain.varTypes Try.prog) (ds ++ gs)).all (· ≤ reachBytes) = true := hsz0
  have hval : ∀ (j : Nat) t v, Try.f5.params[j]? = some t → args[j]? = some v → Value.okWide Try.prog W .any base t v := hval0
  have hW' := hW
  obtain ⟨p, q, hA0, hV, rfl, hfz, hnd⟩ := hW
  have hA : DataW.TrodAll enc Try.prog W 0 (fun _ => true) true Try.f5.params.toList args.toList ds p := hA0
  rw [Try.params5] at hA hval hsz
  obtain ⟨v0, vs0, d0, ds0, p0, q0, hargs, rfl, rfl, h0, r0⟩ := trodAll_cons hA
  obtain ⟨rfl, rfl, rfl⟩ := trodAll_nil r0
  obtain rfl : args = #[v0] := by cases args; simp_all
  obtain ⟨rfl, rfl⟩ := trodVars_none hV
  obtain ⟨a1, len1, cap1, rfl⟩ := okWide_slice Try.underlying22 (hval 0 22 v0 rfl rfl)
  have k1 := h0
  have lt1 : ∀ x ∈ p0, x.block < W.heap.size := by obtain ⟨m, hm⟩ := k1; exact DataW.trod_lt m _ _ _ hm
  have law : Calls Try.prog 5 #[.slice a1 len1 cap1] W fun e w' => e = .returned (.bool true) ∧ Below W.heap.size W w' := by
    obtain ⟨fuel, hf⟩ := h0
    rcases open_strings Try.underlying22 Try.underlying9 cells9 hf with ⟨hcs, _⟩ | ⟨ad, l, c, ss, hcs, _, hlc, hcm, hsl, hx, hcell, hss⟩
    · simp [Value.cells] at hcs
      obtain ⟨rfl, rfl, rfl⟩ := hcs
      exact joins_law none 0 [] W (.inl ⟨rfl, rfl, rfl⟩) (Nat.le_refl _) (by simp) (fun x hx => by simp at hx)
    · simp [Value.cells] at hcs
      obtain ⟨rfl, rfl, rfl⟩ := hcs
      simp only [Prod.mk.injEq] at hx
      have hsl' : len1 ≤ ss.length := by rw [hsl]; split <;> omega
      have hw := sized_slice hsz (j := 0) (t := 22) (e := 9) rfl (by rw [hx.1]; rfl) Try.underlying22
      rw [bytes9] at hw
      have hst : (strs (H := H) (ss.take len1)).length = len1 := by simp [strs, List.length_take]; omega
      rw [hst] at hw
      have hr := reachBytes_lt
      have hl2 : (ss.take len1).length = len1 := by rw [List.length_take]; omega
      have hlw := joins_law (some ad) cap1 (ss.take len1) W (.inr ⟨ad, rfl, fun h0 => by
        obtain ⟨xb, xo, xs⟩ := ad
        have c0 := hcell 0 (by omega)
        have hs : xs = none := by simpa [Addr.add] using World.cell?_spot c0
        subst hs
        refine ⟨xb, xo, rfl, fun j x hx => ?_, cell_lt c0⟩
        have hj := (List.getElem?_eq_some_iff.1 hx).1
        rw [hl2] at hj
        have c := hcell j (by omega)
        rw [Addr.add_mid] at c
        rw [c]
        rw [List.getElem?_take_of_lt hj] at hx
        rw [List.getD_eq_getElem?_getD, hx]
        rfl⟩) (by rw [hl2]; exact hlc) (by rw [hl2]; omega) (fun x hx => hss x (List.mem_of_mem_take hx))
      rw [hl2] at hlw
      exact hlw
  refine law.mono fun e W' ⟨he, bel⟩ => ?_
  subst he
  exact ⟨_, rfl, _, _, _, [], _, [], hW', trodAll_mk1 (shut_bool Try.underlying4 _), (trodAll_cons_mk (Below.trod laidOut (by kernel_rfl) (of_decide_eq_true (by kernel_rfl)) k1 bel lt1) trodAll_mk0), rfl, bel.frame _, fun h => by cases h⟩

theorem proved : Rows.RouteJoinsSaid :=
  OpenClaim.holds_of_wide 5 Try.f5 rfl rfl rfl rfl rfl rfl rfl ⟨rfl, rfl, rfl, rfl, rfl⟩ rfl rfl rfl rfl rfl (by kernel_rfl) Try.func5 (by kernel_rfl)
    (of_decide_eq_true (by kernel_rfl)) (by unfold Func.isWrapper; first | (rw [if_pos (by decide +kernel)]; kernel_rfl) | (rw [if_neg (by decide +kernel)]; exact ⟨rfl, rfl⟩))
    (fun os started H enc _ => lifted os started H enc)

end Go.Proofs.Ythhdlmegbbmbhaa.routeJoins
namespace Go.Proofs.Ythhdlmegbbmbhaa
theorem routeJoins_holds : Rows.RouteJoinsSaid := routeJoins.proved
end Go.Proofs.Ythhdlmegbbmbhaa
