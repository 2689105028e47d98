/- For every two ints, number.Add and number.Mul do not hang on the order of their arguments, a sum that is told can be taken back, a product that is told can be divided again, and what is not told is 0. No condition. -/
import Derived.Test.YtnjjpmomdbhjjabRows
import Derived.WalkKit
import Derived.ProofKit
import Derived.OpenShut
import Derived.Test.YtnjjpmomdbhjjabSums
namespace Go.Proofs.Ytnjjpmomdbhjjab.numberTurns
open Go.ChangeShapes Go.WideShapes Go.ChangeAt Go.RowKit
set_option linter.unusedVariables false      -- a walk need not use every 'w<i>' (that an integer argument fits its kind)

theorem own : ownKnob Try.prog.godebug = none := by kernel_rfl

/-! ### STEP 1: THE WALK: the Go text returns true. 'Grown w w'': the world has at most new blocks (Derived/RowKit3.lean). Part the cases AHEAD of 'go_enter' where a test parts the walk; take each callee by a contract of your own. -/
theorem walk (a0 : Int) (a1 : Int) (w0 : (Lit.int .i64 a0).wf = true) (w1 : (Lit.int .i64 a1).wf = true) (w : World) :
    Calls Try.prog 3 #[.int .i64 a0, .int .i64 a1] w fun e w' => e = .returned (.bool true) ∧ Grown w w' := by
  have ha := wf_i64 w0
  have hb := wf_i64 w1
  clear w0 w1
  have c4 : ∀ x y, (x = a0 ∧ y = a1 ∨ x = a1 ∧ y = a0) → ∀ w, Calls Try.prog 4 #[.int .i64 x, .int .i64 y] w fun e w' => e = .returned (.tuple #[.int .i64 (orNone (a0 + a1)), .bool (isInt (a0 + a1))]) ∧ w' = w := by
    rintro x y (⟨rfl, rfl⟩ | ⟨rfl, rfl⟩) w
    · exact add_ok _ _ ha hb w
    · have h := add_ok _ _ hb ha w
      rw [Int.add_comm] at h
      exact h
  have c5 : ∀ x y, (x = a0 ∧ y = a1 ∨ x = a1 ∧ y = a0) → ∀ w, Calls Try.prog 5 #[.int .i64 x, .int .i64 y] w fun e w' => e = .returned (.tuple #[.int .i64 (orNone (a0 * a1)), .bool (isInt (a0 * a1))]) ∧ w' = w := by
    rintro x y (⟨rfl, rfl⟩ | ⟨rfl, rfl⟩) w
    · exact mul_ok _ _ ha hb w
    · have h := mul_ok _ _ hb ha w
      rw [Int.mul_comm] at h
      exact h
  have c35 : ∀ w, Calls Try.prog 5 #[.int .i64 3, .int .i64 (-5)] w fun e w' => e = .returned (.tuple #[.int .i64 (-15), .bool true]) ∧ w' = w := fun w => mul_ok 3 (-5) (by omega) (by omega) w
  have k4 : isInt (a0 + a1) = true ∧ orNone (a0 + a1) = a0 + a1 ∨ isInt (a0 + a1) = false ∧ orNone (a0 + a1) = 0 := by
    cases h : isInt (a0 + a1)
    · right; simp [orNone, h]
    · left; simp [orNone, h]
  have k5 : isInt (a0 * a1) = true ∧ orNone (a0 * a1) = a0 * a1 ∨ isInt (a0 * a1) = false ∧ orNone (a0 * a1) = 0 := by
    cases h : isInt (a0 * a1)
    · right; simp [orNone, h]
    · left; simp [orNone, h]
  have r4 : isInt (a0 + a1) = true → -9223372036854775808 ≤ a0 + a1 ∧ a0 + a1 ≤ 9223372036854775807 := by simp [isInt]
  have r5 : isInt (a0 * a1) = true → -9223372036854775808 ≤ a0 * a1 ∧ a0 * a1 ≤ 9223372036854775807 := by simp [isInt]
  have d1 : a1 ≠ 0 → (a0 * a1).tdiv a1 = a0 := fun h => Int.mul_tdiv_cancel _ h
  have d2 : (a0 * a1).tmod a1 = 0 := Int.mul_tmod_left _ _
  generalize a0 * a1 = P at *
  rcases k4 with ⟨k1, k2⟩ | ⟨k1, k2⟩ <;> rcases k5 with ⟨k3, k4⟩ | ⟨k3, k4⟩ <;> rw [k1, k2] at c4 <;> rw [k3, k4] at c5 <;> by_cases hz : a1 = 0
  all_goals
    clear k1 k2 k3 k4 r4 r5
    first
      | (subst hz; clear d1 d2)
      | (have d3 : wrap64 (P.tdiv a1) = a0 := by rw [d1 hz]; unfold wrap64; omega
         clear d1)
    go_enter Try.func3, Try.ntmps3
    go_wp2_with (first
      | (go_at_call 4; refine (c4 _ _ (by first | exact Or.inl ⟨rfl, rfl⟩ | exact Or.inr ⟨rfl, rfl⟩) _).mono ?_; rintro e w' ⟨rfl, hw⟩; rw [hw])
      | (go_at_call 5; first | (refine (c5 _ _ (by first | exact Or.inl ⟨rfl, rfl⟩ | exact Or.inr ⟨rfl, rfl⟩) _).mono ?_; rintro e w' ⟨rfl, hw⟩; rw [hw]) | (refine (c35 _).mono ?_; rintro e w' ⟨rfl, hw⟩; rw [hw])))
    go_ret
    exact ⟨rfl, by repeat (first | exact Grown.refl _ | apply Grown.drew | apply Grown.alloc)⟩

/-! ### THE ROW's STEP: WRITTEN OUT: LEAVE IT -/
set_option maxRecDepth 100000 in
theorem lifted (os : Os) (started : os.Started) (H : Type) (enc : TypeId × Value → H) :
    ReturnsInHanded {} Try.checked os 3 .any (Rows.numberTurnsSpec.pre6 enc Try.prog Try.f3 Rows.numberTurnsRow.domain false) (Rows.numberTurnsSpec.post enc Try.prog Try.f3 false true false false) := by
  refine returnsInHanded_of_change (C := Try.checked) own started (by kernel_rfl) Try.func3
    (ChangeSpec.witness6 (enc := enc) (C := Try.checked) false ⟨#[], #[.int .i64 0, .int .i64 0], []⟩ 8 (by kernel_rfl) (by kernel_rfl) (by kernel_rfl) (by kernel_rfl)) ?_
  intro W base args ds gs before hval0 hW hcnd _
  have hval : ∀ (j : Nat) t v, Try.f3.params[j]? = some t → args[j]? = some v → Value.okWide Try.prog W .any base t v := hval0
  have hW' := hW
  obtain ⟨p, q, hA0, hV, rfl, hfz, hnd⟩ := hW
  have hA : DataW.TrodAll enc Try.prog W 0 (fun _ => true) true Try.f3.params.toList args.toList ds p := hA0
  rw [Try.params3] at hA hval
  obtain ⟨v0, vs0, d0, ds0, p0, q0, hargs, rfl, rfl, h0, r0⟩ := trodAll_cons hA
  obtain ⟨v1, vs1, d1, ds1, p1, q1, rfl, rfl, rfl, h1, r1⟩ := trodAll_cons r0
  obtain ⟨rfl, rfl, rfl⟩ := trodAll_nil r1
  obtain rfl : args = #[v0, v1] := by cases args; simp_all
  obtain ⟨rfl, rfl⟩ := trodVars_none hV
  obtain ⟨a0, rfl, rfl, rfl, w0⟩ := open_int Try.underlying3 (hval 0 3 v0 rfl rfl) h0
  obtain ⟨a1, rfl, rfl, rfl, w1⟩ := open_int Try.underlying3 (hval 1 3 v1 rfl rfl) h1
  clear hA0 hval0
  simp only [List.append_nil] at hW'
  refine (walk a0 a1 w0 w1 W).mono fun e W' ⟨he, hg⟩ => ?_
  subst he
  exact ⟨_, rfl, post_of_same (pa := []) (pv := []) hW' (fun _ _ _ => (trodAll_cons_mk (shut_bool Try.underlying4 _) trodAll_mk0)) (fun sp _ => (trodAll_cons_mk (shut_int Try.underlying3 w0) (trodAll_cons_mk (shut_int Try.underlying3 w1) trodAll_mk0))) (fun _ _ => rfl) rfl
    (hg.frame _) hg.2.1 (ok_one (by kernel_rfl) rfl (okWide_bool_mk Try.underlying4 _))⟩

theorem over : Rows.numberTurnsRow.holds Try.pinned (OpenSpec.ofChange Rows.numberTurnsSpec) :=
  OpenClaim.holds_of_wide 3 Try.f3 rfl rfl rfl rfl rfl rfl rfl ⟨rfl, rfl, rfl, rfl, rfl⟩ rfl rfl rfl rfl rfl (by kernel_rfl) Try.func3 (by kernel_rfl)
    (of_decide_eq_true (by kernel_rfl)) (by unfold Func.isWrapper; first | (rw [if_pos (by decide +kernel)]; kernel_rfl) | (rw [if_neg (by decide +kernel)]; exact ⟨rfl, rfl⟩))
    (fun os started H enc _ => lifted os started H enc)

/-- ████ THE STATEMENT ████ -/
theorem proved : Rows.NumberTurnsSaid :=
  over
end Go.Proofs.Ytnjjpmomdbhjjab.numberTurns
namespace Go.Proofs.Ytnjjpmomdbhjjab
theorem numberTurns_holds : Rows.NumberTurnsSaid := numberTurns.proved
#print axioms numberTurns_holds
end Go.Proofs.Ytnjjpmomdbhjjab
