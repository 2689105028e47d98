/- Read; the document's Compare and Within. -/
import Derived.Test.YthhdlmegbbmbhaaRg
namespace Go.Proofs.Ythhdlmegbbmbhaa
open Go.RowKit Go.Shelf
set_option linter.unusedVariables false

set_option maxHeartbeats 2000000 in
theorem read_ok (s : ByteArray) (w : World) (hs : s.size ≤ 9223372036854775807) :
    Calls Try.prog 16 #[.string s] w fun e w' => e = .returned (.tuple #[.string ⟨(Doc.readL s.data.toList).toArray⟩, .bool (Doc.readF s.data.toList), .int .i64 (Doc.readE s.data.toList)]) ∧ Below w.heap.size w w' := by
  have HC := hide (Try.strings_CutSuffix s ⟨#[47]⟩ w hs)
  have hslash : (⟨#[47]⟩ : ByteArray).data.toList = [47] := rfl
  rw [hslash] at HC
  obtain ⟨p, hp⟩ : ∃ p : ByteArray, p = ⟨(Lib.trimSuffix s.data.toList [47]).toArray⟩ := ⟨_, rfl⟩
  have hpl : p.data.toList = Lib.trimSuffix s.data.toList [47] := by rw [hp]
  have hps : p.size ≤ s.size := by
    have h1 : (Lib.trimSuffix s.data.toList [47]).length ≤ s.data.toList.length := by
      unfold Lib.trimSuffix
      split
      · rw [List.length_take]; omega
      · exact Nat.le_refl _
    rw [← hpl] at h1
    simpa using h1
  rw [← hp] at HC
  obtain ⟨f, hf⟩ : ∃ f, f = Lib.hasSuffix s.data.toList [47] := ⟨_, rfl⟩
  rw [← hf] at HC
  have HV := hide (fun w => valid_ok p w (by omega))
  rw [hpl] at HV
  cases hv : validL (Lib.trimSuffix s.data.toList [47]) with
  | false =>
    have hn : ¬ validL (Lib.trimSuffix s.data.toList [47]) = true := by rw [hv]; exact Bool.false_ne_true
    have e1 : Doc.readL s.data.toList = [] := by unfold Doc.readL; rw [if_neg hn]
    have e2 : Doc.readF s.data.toList = false := by unfold Doc.readF; rw [hv, Bool.and_false]
    have e3 : Doc.readE s.data.toList = 20 := by unfold Doc.readE; rw [if_neg hn]
    rw [hv] at HV
    have E := hide (And.intro e1 (And.intro e2 e3))
    clear hn e1 e2 e3 hv hp hpl hps hf hslash
    go_enter Try.func16, Try.ntmps16
    go_wp2_with fail
    refine (unhide HC).mono ?_
    rintro e w0 ⟨rfl, rfl⟩
    go_wp2_with fail
    refine (unhide HV _).mono ?_
    rintro e w1 ⟨rfl, hb1⟩
    have HB1 := hide hb1
    clear hb1
    go_wp2_with fail
    go_ret3
    exact ⟨by rw [(unhide E).1, (unhide E).2.1, (unhide E).2.2]; rfl, unhide HB1⟩
  | true =>
    have e1 : Doc.readL s.data.toList = Lib.trimSuffix s.data.toList [47] := by unfold Doc.readL; rw [if_pos hv]
    have e2 : Doc.readF s.data.toList = f := by unfold Doc.readF; rw [hv, Bool.and_true, hf]
    have e3 : Doc.readE s.data.toList = 0 := by unfold Doc.readE; rw [if_pos hv]
    have hsm : p.size ≤ 1024 := validL_small (by rw [hpl]; exact hv)
    have HCL := hide (fun w => clone_ok p w (by omega))
    rw [hv] at HV
    have E := hide (And.intro e1 (And.intro e2 e3))
    have HP := hide hp
    clear e1 e2 e3 hv hp hpl hps hf hslash hsm
    go_enter Try.func16, Try.ntmps16
    go_wp2_with fail
    refine (unhide HC).mono ?_
    rintro e w0 ⟨rfl, rfl⟩
    go_wp2_with fail
    refine (unhide HV _).mono ?_
    rintro e w1 ⟨rfl, hb1⟩
    have HB1 := hide hb1
    clear hb1
    go_wp2_with fail
    refine (unhide HCL _).mono ?_
    rintro e w2 ⟨rfl, hb2⟩
    have HB2 := hide ((unhide HB1).trans (hb2.mono (unhide HB1).size))
    clear hb2
    go_wp2_with fail
    go_ret3
    exact ⟨by rw [(unhide E).1, (unhide E).2.1, (unhide E).2.2, ← unhide HP]; rfl, unhide HB2⟩

theorem consts_ok (w : World) : Calls Try.prog 13 #[] w fun e w' => e = .returned (.bool true) ∧ w' = w := by
  go_enter Try.func13, Try.ntmps13
  go_wp2_with fail
  go_ret
  exact ⟨rfl, rfl⟩

namespace Doc

theorem less_is (a b : List UInt8) : Op.bytesLess a b = decide (Lib.compareBytes a b = -1) := by
  induction a generalizing b with
  | nil => cases b <;> rfl
  | cons x r ih =>
    cases b with
    | nil => rfl
    | cons y s =>
      unfold Op.bytesLess Lib.compareBytes
      by_cases h1 : x < y
      · simp [h1]
      · by_cases h2 : y < x
        · have h3 : ¬ x = y := fun e => by subst e; exact h1 h2
          simp [h1, h2, h3]
        · have h3 : x = y := by
            apply UInt8.toNat.inj
            have a1 := mt UInt8.lt_iff_toNat_lt.2 h1
            have a2 := mt UInt8.lt_iff_toNat_lt.2 h2
            omega
          simp [h3, ih s]

end Doc
end Go.Proofs.Ythhdlmegbbmbhaa
