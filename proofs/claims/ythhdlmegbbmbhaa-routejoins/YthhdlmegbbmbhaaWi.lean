/- Within. -/
import Derived.Test.YthhdlmegbbmbhaaCm
import Derived.Test.YthhdlmegbbmbhaaMd
namespace Go.Proofs.Ythhdlmegbbmbhaa
open Go.RowKit Go.Shelf
set_option linter.unusedVariables false

set_option maxHeartbeats 2000000 in
theorem within_ok (s f : ByteArray) (w : World) (hs : s.size ≤ 9223372036854775807) (hf : f.size ≤ 9223372036854775807) :
    Calls Try.prog 22 #[.string s, .string f] w fun e w' => e = .returned (.bool (withinL s.data.toList f.data.toList)) ∧ Below w.heap.size w w' := by
  have HW := hide (withinL_is s.data.toList f.data.toList)
  have HV1 := hide (fun w => valid_ok s w hs)
  have HV2 := hide (fun w => valid_ok f w hf)
  obtain ⟨p1, hp1⟩ : ∃ p1, p1 = Lib.hasPrefix s.data.toList f.data.toList := ⟨_, rfl⟩
  obtain ⟨tl, htl⟩ : ∃ tl, tl = Lib.trimPrefix s.data.toList f.data.toList := ⟨_, rfl⟩
  obtain ⟨p2, hp2⟩ : ∃ p2, p2 = Lib.hasPrefix tl [47] := ⟨_, rfl⟩
  obtain ⟨v1, hv1⟩ : ∃ v1, v1 = validL s.data.toList := ⟨_, rfl⟩
  obtain ⟨v2, hv2⟩ : ∃ v2, v2 = validL f.data.toList := ⟨_, rfl⟩
  rw [← hp1, ← htl, ← hp2, ← hv1, ← hv2] at HW
  rw [← hv1] at HV1
  rw [← hv2] at HV2
  go_enter Try.func22, Try.ntmps22
  go_wp2_with fail
  refine (Try.strings_CutPrefix s f w).mono ?_
  rintro e w' ⟨rfl, rfl⟩
  rw [← hp1, ← htl]
  have HT : Hid (∀ w, Calls Try.prog 37 #[.string ⟨tl.toArray⟩, .string ⟨#[47]⟩] w fun e w' => e = .returned (.bool p2) ∧ w' = w) := hide fun w => by
    rw [hp2]
    have := Try.strings_HasPrefix ⟨tl.toArray⟩ ⟨#[47]⟩ w
    simpa using this
  clear hp1 htl hp2 hv1 hv2
  cases p1 with
  | false =>
    go_wp2_with fail
    go_ret
    exact ⟨by rw [unhide HW]; rfl, Below.refl _ _⟩
  | true =>
    go_wp2_with fail
    refine (unhide HT w').mono ?_
    rintro e w2 ⟨rfl, rfl⟩
    cases p2 with
    | false =>
      go_wp2_with fail
      go_ret
      exact ⟨by rw [unhide HW]; rfl, Below.refl _ _⟩
    | true =>
      go_wp2_with fail
      refine (unhide HV1 w2).mono ?_
      rintro e w3 ⟨rfl, hb3⟩
      have HB3 := hide hb3
      clear hb3
      cases v1 with
      | false =>
        go_wp2_with fail
        go_ret
        exact ⟨by rw [unhide HW]; rfl, unhide HB3⟩
      | true =>
        go_wp2_with fail
        refine (unhide HV2 w3).mono ?_
        rintro e w4 ⟨rfl, hb4⟩
        have HB4 := hide ((unhide HB3).trans (hb4.mono (unhide HB3).size))
        clear hb4
        cases v2 with
        | false =>
          go_wp2_with fail
          go_ret
          exact ⟨by rw [unhide HW]; rfl, unhide HB4⟩
        | true =>
          go_wp2_with fail
          go_ret
          exact ⟨by rw [unhide HW]; rfl, unhide HB4⟩

end Go.Proofs.Ythhdlmegbbmbhaa
