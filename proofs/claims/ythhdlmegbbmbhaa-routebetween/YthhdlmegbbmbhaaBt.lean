/- RouteBetween: what stands between a path and one that lies in it lies in it, and the order is one. -/
import Derived.Test.YthhdlmegbbmbhaaWi
namespace Go.Proofs.Ythhdlmegbbmbhaa
open Go.RowKit Go.Shelf
set_option linter.unusedVariables false

theorem cmpL_eq {a b : ByteArray} (h : cmpL a.data.toList b.data.toList = 0) : a = b := by
  have := pcs_inj (cmpPs_cmp.eq _ _ h)
  apply ByteArray.ext
  exact Array.toList_inj.1 this

theorem between_fact {a b c : List UInt8} (h1 : withinL c a = true) (h2 : validL b = true) (h3 : cmpL a b = -1) (h4 : cmpL b c = -1) : withinL b a = true := by
  unfold withinL at h1 ⊢
  simp only [Bool.and_eq_true, decide_eq_true_eq] at h1 ⊢
  have hp := cmpPs_between (pcs a) (pcs b) (pcs c) (by unfold cmpL at h3; omega) (by unfold cmpL at h4; omega) h1.1.2
  refine ⟨⟨⟨h2, h1.1.1.2⟩, hp⟩, ?_⟩
  rcases Nat.lt_or_ge (pcs a).length (pcs b).length with h | h
  · exact h
  · have e := hp.eq_of_length_le h
    unfold cmpL at h3
    rw [e, cmpPs_cmp.self] at h3
    omega

set_option maxHeartbeats 8000000 in
theorem between_law (a b c : ByteArray) (w : World) (ha : a.size ≤ 9223372036854775807) (hb : b.size ≤ 9223372036854775807) (hc : c.size ≤ 9223372036854775807) :
    Calls Try.prog 7 #[.string a, .string b, .string c] w fun e w' => e = .returned (.bool true) ∧ Below w.heap.size w w' := by
  have vx := cmpPs_cmp.vals (pcs a.data.toList) (pcs b.data.toList)
  have vy := cmpPs_cmp.vals (pcs b.data.toList) (pcs c.data.toList)
  have vz := cmpPs_cmp.vals (pcs a.data.toList) (pcs c.data.toList)
  have hba := cmpPs_cmp.anti (pcs a.data.toList) (pcs b.data.toList)
  have htr := cmpPs_cmp.trans (pcs a.data.toList) (pcs b.data.toList) (pcs c.data.toList)
  have heq := @cmpL_eq a b
  have hbt := @between_fact a.data.toList b.data.toList c.data.toList
  have H0 := hide (fun w => compare_ok ⟨#[97, 47, 98]⟩ ⟨#[97, 46, 98]⟩ w (by decide) (by decide))
  have e0 : cmpL (⟨#[97, 47, 98]⟩ : ByteArray).data.toList (⟨#[97, 46, 98]⟩ : ByteArray).data.toList = -1 := by decide
  rw [e0] at H0
  have H1 := hide (fun w => compare_ok a b w ha hb)
  have H2 := hide (fun w => compare_ok b c w hb hc)
  have H3 := hide (fun w => compare_ok a c w ha hc)
  have H4 := hide (fun w => compare_ok b a w hb ha)
  have H5 := hide (fun w => within_ok c a w hc ha)
  have H6 := hide (fun w => valid_ok b w hb)
  have H7 := hide (fun w => within_ok b a w hb ha)
  obtain ⟨q1, hq1⟩ : ∃ q1, q1 = withinL c.data.toList a.data.toList := ⟨_, rfl⟩
  obtain ⟨q2, hq2⟩ : ∃ q2, q2 = validL b.data.toList := ⟨_, rfl⟩
  obtain ⟨q3, hq3⟩ : ∃ q3, q3 = withinL b.data.toList a.data.toList := ⟨_, rfl⟩
  obtain ⟨x, hx⟩ : ∃ x, x = cmpL a.data.toList b.data.toList := ⟨_, rfl⟩
  obtain ⟨y, hy⟩ : ∃ y, y = cmpL b.data.toList c.data.toList := ⟨_, rfl⟩
  obtain ⟨z, hz⟩ : ∃ z, z = cmpL a.data.toList c.data.toList := ⟨_, rfl⟩
  change cmpL a.data.toList b.data.toList = _ ∨ cmpL a.data.toList b.data.toList = _ ∨ cmpL a.data.toList b.data.toList = _ at vx
  change cmpL b.data.toList c.data.toList = _ ∨ cmpL b.data.toList c.data.toList = _ ∨ cmpL b.data.toList c.data.toList = _ at vy
  change cmpL a.data.toList c.data.toList = _ ∨ cmpL a.data.toList c.data.toList = _ ∨ cmpL a.data.toList c.data.toList = _ at vz
  change cmpL b.data.toList a.data.toList = - cmpL a.data.toList b.data.toList at hba
  change cmpL a.data.toList b.data.toList ≤ 0 → cmpL b.data.toList c.data.toList ≤ 0 → cmpL a.data.toList c.data.toList ≤ 0 at htr
  rw [hba] at H4
  rw [← hx] at H1 H4 vx htr heq hbt
  rw [← hy] at H2 vy htr hbt
  rw [← hz] at H3 vz htr
  rw [← hq1] at H5 hbt
  rw [← hq2] at H6 hbt
  rw [← hq3] at H7 hbt
  clear hq1 hq2 hq3 hx hy hz hba ha hb hc e0
  have HQ := hide (fun h => heq h)
  have HB := hide hbt
  have HT := hide htr
  clear heq hbt htr
  go_enter Try.func7, Try.ntmps7
  go_wp2_with fail
  refine (unhide H0 _).mono ?_
  rintro e w0 ⟨rfl, hb0⟩
  have B0 := hide hb0
  clear hb0
  go_wp2_with fail
  refine (unhide H1 _).mono ?_
  rintro e w1 ⟨rfl, hb1⟩
  have B1 := hide ((unhide B0).trans (hb1.mono (unhide B0).size))
  clear hb1
  go_wp2_with fail
  refine (unhide H2 _).mono ?_
  rintro e w2 ⟨rfl, hb2⟩
  have B2 := hide ((unhide B1).trans (hb2.mono (unhide B1).size))
  clear hb2
  go_wp2_with fail
  refine (unhide H3 _).mono ?_
  rintro e w3 ⟨rfl, hb3⟩
  have B3 := hide ((unhide B2).trans (hb3.mono (unhide B2).size))
  clear hb3
  go_wp2_with fail
  refine (unhide H4 _).mono ?_
  rintro e w4 ⟨rfl, hb4⟩
  have B4 := hide ((unhide B3).trans (hb4.mono (unhide B3).size))
  clear hb4 B0 B1 B2 B3 H0 H1 H2 H3 H4
  have hxy : x = 0 → a = b := unhide HQ
  clear HQ
  have hfin : (∃ x' y' z' : Int, x' = x ∧ y' = y ∧ z' = z) := ⟨_, _, _, rfl, rfl, rfl⟩
  clear hfin
  rcases vx with rfl | rfl | rfl
  case' inr.inl => obtain rfl := hxy rfl
  all_goals clear hxy
  all_goals rcases vy with rfl | rfl | rfl
  all_goals rcases vz with rfl | rfl | rfl
  all_goals first
    | (exfalso
       have h := unhide HT (by omega) (by omega)
       omega)
    | skip
  all_goals clear HT
  all_goals go_wp2_with fail
  all_goals
    refine (unhide H5 _).mono ?_
    rintro e w5 ⟨rfl, hb5⟩
    have B5 := hide ((unhide B4).trans (hb5.mono (unhide B4).size))
    clear hb5 B4 H5
    cases q1 with
    | false =>
      go_wp2_with fail
      go_ret
      exact ⟨rfl, unhide B5⟩
    | true =>
      go_wp2_with fail
      refine (unhide H6 _).mono ?_
      rintro e w6 ⟨rfl, hb6⟩
      have B6 := hide ((unhide B5).trans (hb6.mono (unhide B5).size))
      clear hb6 B5 H6
      cases q2 with
      | false =>
        go_wp2_with fail
        go_ret
        exact ⟨rfl, unhide B6⟩
      | true =>
        go_wp2_with fail
        first
          | (go_ret
             exact ⟨rfl, unhide B6⟩)
          | (refine (unhide H7 _).mono ?_
             rintro e w7 ⟨rfl, hb7⟩
             have B7 := hide ((unhide B6).trans (hb7.mono (unhide B6).size))
             clear hb7 B6 H7
             have hq : q3 = true := by have h := unhide HB; simpa using h
             subst hq
             go_wp2_with fail
             go_ret
             exact ⟨rfl, unhide B7⟩)

theorem maxLen_le {n : Nat} (h : n ≤ maxLen) : n ≤ 9223372036854775807 := h

end Go.Proofs.Ythhdlmegbbmbhaa
