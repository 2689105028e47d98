/- RouteOrders. -/
import Derived.Test.YthhdlmegbbmbhaaRj
namespace Go.Proofs.Ythhdlmegbbmbhaa
open Go.RowKit Go.Shelf
set_option linter.unusedVariables false

theorem cmpL_self (a : List UInt8) : cmpL a a = 0 := cmpPs_cmp.self _

set_option maxHeartbeats 4000000 in
theorem orders_law (a b : ByteArray) (w : World) (ha : a.size ≤ 1048576) (hb : b.size ≤ 1048576) :
    Calls Try.prog 4 #[.string a, .string b] w fun e w' => e = .returned (.bool true) ∧ Below w.heap.size w w' := by
  have H1 := hide (fun w => compare_ok a b w (by omega) (by omega))
  have H2 := hide (fun w => Doc.compare_ok a b w (by omega) (by omega))
  have H3 := hide (fun w => compare_ok b a w (by omega) (by omega))
  have H4 := hide (fun w => Doc.compare_ok b a w (by omega) (by omega))
  have H5 := hide (fun w => compare_ok a a w (by omega) (by omega))
  have H6 := hide (fun w => within_ok a b w (by omega) (by omega))
  have H7 := hide (fun w => Doc.within_ok a b w (by omega) (by omega))
  rw [cmpL_self] at H5
  obtain ⟨x, hx⟩ : ∃ x, x = cmpL a.data.toList b.data.toList := ⟨_, rfl⟩
  obtain ⟨y, hy⟩ : ∃ y, y = cmpL b.data.toList a.data.toList := ⟨_, rfl⟩
  obtain ⟨q, hq⟩ : ∃ q, q = withinL a.data.toList b.data.toList := ⟨_, rfl⟩
  rw [← hx] at H1 H2
  rw [← hy] at H3 H4
  rw [← hq] at H6 H7
  clear hx hy hq ha hb
  go_enter Try.func4, Try.ntmps4
  go_wp2_with fail
  refine (unhide H1 _).mono ?_
  rintro e w1 ⟨rfl, hb1⟩
  have B1 := hide hb1
  clear hb1 H1
  go_wp2_with fail
  refine (unhide H2 _).mono ?_
  rintro e w2 ⟨rfl, hb2⟩
  have B2 := hide ((unhide B1).trans (hb2.mono (unhide B1).size))
  clear hb2 H2 B1
  go_wp2_with fail
  refine (unhide H3 _).mono ?_
  rintro e w3 ⟨rfl, hb3⟩
  have B3 := hide ((unhide B2).trans (hb3.mono (unhide B2).size))
  clear hb3 H3 B2
  go_wp2_with fail
  refine (unhide H4 _).mono ?_
  rintro e w4 ⟨rfl, hb4⟩
  have B4 := hide ((unhide B3).trans (hb4.mono (unhide B3).size))
  clear hb4 H4 B3
  go_wp2_with fail
  refine (unhide H5 _).mono ?_
  rintro e w5 ⟨rfl, hb5⟩
  have B5 := hide ((unhide B4).trans (hb5.mono (unhide B4).size))
  clear hb5 H5 B4
  go_wp2_with fail
  refine (unhide H6 _).mono ?_
  rintro e w6 ⟨rfl, hb6⟩
  have B6 := hide ((unhide B5).trans (hb6.mono (unhide B5).size))
  clear hb6 H6 B5
  go_wp2_with fail
  refine (unhide H7 _).mono ?_
  rintro e w7 ⟨rfl, hb7⟩
  have B7 := hide ((unhide B6).trans (hb7.mono (unhide B6).size))
  clear hb7 H7 B6
  go_wp2_with fail
  refine (consts_ok _).mono ?_
  rintro e w8 ⟨rfl, rfl⟩
  go_wp2_with fail
  go_ret
  exact ⟨rfl, unhide B7⟩

end Go.Proofs.Ythhdlmegbbmbhaa
