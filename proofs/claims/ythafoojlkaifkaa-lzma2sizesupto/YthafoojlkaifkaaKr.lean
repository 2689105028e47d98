/- The document's chunk, whatever it is. -/
import Derived.Test.YthafoojlkaifkaaKn
import Derived.Test.YthafoojlkaifkaaKo
import Derived.Test.YthafoojlkaifkaaKp
import Derived.Test.YthafoojlkaifkaaKpb
import Derived.Test.YthafoojlkaifkaaKq
import Derived.Test.YthafoojlkaifkaaKqb
namespace Go.Proofs.Ythafoojlkaifkaa.K
open Go.RowKit H
set_option maxRecDepth 100000
set_option linter.unusedVariables false

section
variable {w : World} {va : Option Addr} {vc : Nat} {zs : List Nat} {p : Nat}

theorem ch_ok (h : BK w va vc zs) (first props : Bool) (hp : p ≤ zs.length) : Calls Try.prog 10 #[.slice va zs.length vc, .int .i64 (p : Int), .bool first, .bool props, .int .i64 1099511627776] w (ChIs (ckF zs p first props 1099511627776) w) := by
  by_cases hn : zs.length < p + 1
  · exact ch_none h first props _ _ hn hp
  have hn' : p + 1 ≤ zs.length := by omega
  obtain ⟨k, hk⟩ : ∃ k, zs.getD p 0 = k := ⟨_, rfl⟩
  have hk2 : zs.getD p 0 < 256 := getD_small h.sm p
  rw [hk] at hk2
  by_cases c0 : k = 0
  · exact good_a0_x h first props k hk c0 hn' trivial
  by_cases c1 : k = 1
  · by_cases l3 : zs.length < p + 3
    · exact good_a1_e3 h first props k hk c1 hn' trivial l3
    by_cases l4 : zs.length < p + 3 + two zs (p + 1)
    · exact good_a1_e6 h first props k hk c1 hn' trivial (by omega) l4
    · exact good_a1_ok h first props k hk c1 hn' trivial (by omega) (by omega)
  by_cases c2 : k = 2
  · cases first
    · by_cases l3 : zs.length < p + 3
      · exact good_a2_e3 h false props k hk c2 hn' rfl l3
      by_cases l4 : zs.length < p + 3 + two zs (p + 1)
      · exact good_a2_e6 h false props k hk c2 hn' rfl (by omega) l4
      · exact good_a2_ok h false props k hk c2 hn' rfl (by omega) (by omega)
    · exact bad_a2 h true props k hk c2 hn' rfl
  by_cases c3 : k < 128
  · exact bad_a3 h first props k hk ⟨by omega, c3⟩ hn' trivial
  by_cases c4 : k < 192
  · by_cases hfp : first = false ∧ props = true
    · by_cases l3 : zs.length < p + 3
      · exact good_a4_e3 h first props k hk ⟨by omega, c4⟩ hn' hfp l3
      by_cases l5 : zs.length < p + 5
      · exact good_a4_e5 h first props k hk ⟨by omega, c4⟩ hn' hfp (by omega) l5
      by_cases l6 : zs.length < p + 5 + two zs (p + 3)
      · exact good_a4_e7 h first props k hk ⟨by omega, c4⟩ hn' hfp (by omega) l6
      · exact good_a4_ok h first props k hk ⟨by omega, c4⟩ hn' hfp (by omega) (by omega)
    · refine bad_a4 h first props k hk ⟨by omega, c4⟩ hn' ?_
      cases first <;> cases props <;> simp at hfp ⊢
  cases first
  · by_cases l3 : zs.length < p + 3
    · exact good_a5_e3 h false props k hk ⟨by omega, hk2⟩ hn' rfl l3
    by_cases l5 : zs.length < p + 5
    · exact good_a5_e5 h false props k hk ⟨by omega, hk2⟩ hn' rfl (by omega) l5
    by_cases l6 : zs.length < p + 6
    · exact good_a5_e6 h false props k hk ⟨by omega, hk2⟩ hn' rfl (by omega) l6
    cases hpr : propsB (zs.getD (p + 5) 0)
    · exact good_a5_ep h false props k hk ⟨by omega, hk2⟩ hn' rfl (by omega) hpr
    by_cases l8 : zs.length < p + 6 + two zs (p + 3)
    · exact good_a5_e8 h false props k hk ⟨by omega, hk2⟩ hn' rfl (by omega) hpr l8
    · exact good_a5_ok h false props k hk ⟨by omega, hk2⟩ hn' rfl (by omega) hpr (by omega)
  · by_cases c5 : k < 224
    · exact bad_a5 h true props k hk ⟨by omega, c5⟩ hn' rfl
    by_cases l3 : zs.length < p + 3
    · exact good_a6_e3 h true props k hk ⟨by omega, hk2⟩ hn' rfl l3
    by_cases l5 : zs.length < p + 5
    · exact good_a6_e5 h true props k hk ⟨by omega, hk2⟩ hn' rfl (by omega) l5
    by_cases l6 : zs.length < p + 6
    · exact good_a6_e6 h true props k hk ⟨by omega, hk2⟩ hn' rfl (by omega) l6
    cases hpr : propsB (zs.getD (p + 5) 0)
    · exact good_a6_ep h true props k hk ⟨by omega, hk2⟩ hn' rfl (by omega) hpr
    by_cases l8 : zs.length < p + 6 + two zs (p + 3)
    · exact good_a6_e8 h true props k hk ⟨by omega, hk2⟩ hn' rfl (by omega) hpr l8
    · exact good_a6_ok h true props k hk ⟨by omega, hk2⟩ hn' rfl (by omega) hpr (by omega)
end
end Go.Proofs.Ythafoojlkaifkaa.K
