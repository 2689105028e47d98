/- Props: Byte, Of, the document's Of. -/
import Derived.Test.YthafoojlkaifkaaPr
namespace Go.Proofs.Ythafoojlkaifkaa
open Go.RowKit
set_option maxRecDepth 100000
set_option linter.unusedVariables false
attribute [local go_sem ↓] Go.wp_at_zero Go.wp_at_succ

theorem of_yes (b : Nat) (hb : b < 256) (w : World) (h : VOk ((b : Int) % 9) ((b : Int) / 9 % 5) ((b : Int) / 45)) : Calls Try.prog 25 #[.int .u8 (b : Int)] w fun e w' => e = .returned (.tuple #[.agg (pcells ((b : Int) % 9) ((b : Int) / 9 % 5) ((b : Int) / 45)), .int .i64 0]) ∧ Below w.heap.size w w' := by
  obtain ⟨x, hx⟩ : ∃ x, x = (b : Int) % 9 := ⟨_, rfl⟩
  obtain ⟨y, hy⟩ : ∃ y, y = (b : Int) / 9 % 5 := ⟨_, rfl⟩
  obtain ⟨z, hz⟩ : ∃ z, z = (b : Int) / 45 := ⟨_, rfl⟩
  obtain ⟨q, hq⟩ : ∃ q, q = (b : Int) / 9 := ⟨_, rfl⟩
  have f0 : wrap64 (b : Int) = (b : Int) := by unfold wrap64; omega
  have f1 : (b : Int).tmod 9 = x := by rw [Int.tmod_eq_emod_of_nonneg (by omega)]; omega
  have f2 : (b : Int).tdiv 9 = q := by rw [Int.tdiv_eq_ediv_of_nonneg (by omega)]; omega
  have f3 : wrap64 q = q := by unfold wrap64; omega
  have f4 : q.tmod 5 = y := by rw [Int.tmod_eq_emod_of_nonneg (by omega)]; omega
  have f5 : q.tdiv 5 = z := by rw [Int.tdiv_eq_ediv_of_nonneg (by omega)]; omega
  have f6 : wrap64 z = z := by unfold wrap64; omega
  rw [← hx, ← hy, ← hz] at h ⊢
  have q1 := fun w => valid_ok x y z true w (by simpa using h)
  clear h hx hy hz hq hb
  unfold pcells at *
  go_enter Try.func25, Try.ntmps25
  go_wp2_with fail
  refine (q1 _).mono ?_
  rintro e w' ⟨rfl, rfl⟩
  go_wp2_with fail
  go_returns
  exact ⟨rfl, by go_grown⟩

theorem of_no (b : Nat) (hb : b < 256) (w : World) (h : ¬ VOk ((b : Int) % 9) ((b : Int) / 9 % 5) ((b : Int) / 45)) : Calls Try.prog 25 #[.int .u8 (b : Int)] w fun e w' => e = .returned (.tuple #[.agg (pcells 0 0 0), .int .i64 11]) ∧ Below w.heap.size w w' := by
  obtain ⟨x, hx⟩ : ∃ x, x = (b : Int) % 9 := ⟨_, rfl⟩
  obtain ⟨y, hy⟩ : ∃ y, y = (b : Int) / 9 % 5 := ⟨_, rfl⟩
  obtain ⟨z, hz⟩ : ∃ z, z = (b : Int) / 45 := ⟨_, rfl⟩
  obtain ⟨q, hq⟩ : ∃ q, q = (b : Int) / 9 := ⟨_, rfl⟩
  have f0 : wrap64 (b : Int) = (b : Int) := by unfold wrap64; omega
  have f1 : (b : Int).tmod 9 = x := by rw [Int.tmod_eq_emod_of_nonneg (by omega)]; omega
  have f2 : (b : Int).tdiv 9 = q := by rw [Int.tdiv_eq_ediv_of_nonneg (by omega)]; omega
  have f3 : wrap64 q = q := by unfold wrap64; omega
  have f4 : q.tmod 5 = y := by rw [Int.tmod_eq_emod_of_nonneg (by omega)]; omega
  have f5 : q.tdiv 5 = z := by rw [Int.tdiv_eq_ediv_of_nonneg (by omega)]; omega
  have f6 : wrap64 z = z := by unfold wrap64; omega
  rw [← hx, ← hy, ← hz] at h
  have q1 := fun w => valid_ok x y z false w (by simpa using h)
  clear h hx hy hz hq hb
  unfold pcells at *
  go_enter Try.func25, Try.ntmps25
  go_wp2_with fail
  refine (q1 _).mono ?_
  rintro e w' ⟨rfl, rfl⟩
  go_wp2_with fail
  go_returns
  exact ⟨rfl, by go_grown⟩

theorem rbyte_ok (lc lp pb : Int) (w : World) (h : 0 ≤ lc ∧ lc ≤ 4 ∧ 0 ≤ lp ∧ lp ≤ 4 ∧ 0 ≤ pb ∧ pb ≤ 4) : Calls Try.prog 22 #[.int .i64 lc, .int .i64 lp, .int .i64 pb] w fun e w' => e = .returned (.int .i64 ((pb * 5 + lp) * 9 + lc)) ∧ w' = w := by
  have f1 : wrap64 (pb * 5) = pb * 5 := by unfold wrap64; omega
  have f2 : wrap64 (pb * 5 + lp) = pb * 5 + lp := by unfold wrap64; omega
  have f3 : wrap64 ((pb * 5 + lp) * 9) = (pb * 5 + lp) * 9 := by unfold wrap64; omega
  have f4 : wrap64 ((pb * 5 + lp) * 9 + lc) = (pb * 5 + lp) * 9 + lc := by unfold wrap64; omega
  clear h
  go_enter Try.func22, Try.ntmps22
  go_wp2_with fail
  go_ret
  exact ⟨congrArg (fun x => Ending.returned (.int .i64 x)) f4, rfl⟩

/-- the document's Of -/
def Hit (b : Nat) (p l c : Nat) : Prop := l + c ≤ 4 ∧ (p * 5 + l) * 9 + c = b
def RofIs (b : Nat) (w : World) (e : Ending) (w' : World) : Prop := w' = w ∧ ((∃ p l c : Nat, p ≤ 4 ∧ Hit b p l c ∧ e = .returned (.tuple #[.int .i64 (c : Int), .int .i64 (l : Int), .int .i64 (p : Int), .int .i64 0])) ∨ ((∀ p l c : Nat, p ≤ 4 → ¬ Hit b p l c) ∧ e = .returned (.tuple #[.int .i64 0, .int .i64 0, .int .i64 0, .int .i64 11])))

set_option maxHeartbeats 2000000 in
theorem rof_ok (b : Nat) (hb : b < 256) (w : World) : Calls Try.prog 15 #[.int .i64 (b : Int)] w (RofIs b w) := by
  have HE : ∀ {p l c : Nat}, p ≤ 4 → Hit b p l c → RofIs b w (.returned (.tuple #[.int .i64 (c : Int), .int .i64 (l : Int), .int .i64 (p : Int), .int .i64 0])) w := fun h1 h2 => ⟨rfl, .inl ⟨_, _, _, h1, h2, rfl⟩⟩
  have HN : (∀ p l c : Nat, p ≤ 4 → ¬ Hit b p l c) → RofIs b w (.returned (.tuple #[.int .i64 0, .int .i64 0, .int .i64 0, .int .i64 11])) w := fun h => ⟨rfl, .inr ⟨h, rfl⟩⟩
  generalize RofIs b w = POST at HE HN ⊢
  have q1 := fun (c l p : Nat) (w : World) (h : c + l ≤ 4 ∧ p ≤ 4) => rvalid_yes (c : Int) (l : Int) (p : Int) w ⟨by omega, by omega, by omega, by omega, by omega, by omega, by omega⟩
  have q2 := fun (c l p : Nat) (w : World) (h : ¬ c + l ≤ 4) => rvalid_no (c : Int) (l : Int) (p : Int) w (by unfold VOk; omega)
  go_enter Try.func15, Try.ntmps15
  go_wp2_with fail
  go_loopg [6] 5 (fun gk v ws => ∃ P : Nat, gk + P = 5 ∧ v = .int .i64 (P : Int) ∧ (∀ p l c : Nat, p < P → p ≤ 4 → ¬ Hit b p l c) ∧ w = ws)
  case atStart => exact ⟨0, by omega, rfl, fun p l c h => by omega, rfl⟩
  case round =>
    obtain ⟨P, hk, rfl, hno, rfl⟩ := hrel
    by_cases h5 : P = 5
    · subst h5
      go_wp2_with fail
      go_returns
      exact HN fun p l c hp => hno p l c (by omega) hp
    · have t1 : (P : Int) ≤ 4 := by omega
      have hk4 : P ≤ 4 := by omega
      go_wp2_with fail
      go_loopg [7] 5 (fun gk v ws => ∃ L : Nat, gk + L = 5 ∧ v = .int .i64 (L : Int) ∧ (∀ l c : Nat, l < L → ¬ Hit b P l c) ∧ w = ws)
      case atStart => exact ⟨0, by omega, rfl, fun l c h => by omega, rfl⟩
      case round =>
        obtain ⟨L, hl, rfl, hno2, rfl⟩ := hrel
        by_cases h5 : L = 5
        · subst h5
          have f1 : wrap64 ((P : Int) + 1) = ((P + 1 : Nat) : Int) := by unfold wrap64; omega
          go_wp2_with fail
          go_roundg (4 - P)
          case rel =>
            refine ⟨P + 1, by omega, rfl, fun p l c h1 h2 h3 => ?_, rfl⟩
            rcases Nat.lt_or_ge p P with h4 | h4
            · exact hno p l c h4 h2 h3
            · obtain rfl : p = P := by omega
              exact hno2 l c (by have := h3.1; omega) h3
          case measure => omega
        · have t2 : (L : Int) ≤ 4 := by omega
          have hl4 : L ≤ 4 := by omega
          go_wp2_with fail
          go_loopg [8] 5 (fun gk v ws => ∃ C : Nat, gk + C = 5 ∧ v = .int .i64 (C : Int) ∧ (∀ c : Nat, c < C → ¬ Hit b P L c) ∧ w = ws)
          case atStart => exact ⟨0, by omega, rfl, fun c h => by omega, rfl⟩
          case round =>
            obtain ⟨C, hc, rfl, hno3, rfl⟩ := hrel
            by_cases h5 : C = 5
            · subst h5
              have f1 : wrap64 ((L : Int) + 1) = ((L + 1 : Nat) : Int) := by unfold wrap64; omega
              go_wp2_with fail
              go_roundg (4 - L)
              case rel =>
                refine ⟨L + 1, by omega, rfl, fun l c h1 h3 => ?_, rfl⟩
                rcases Nat.lt_or_ge l L with h4 | h4
                · exact hno2 l c h4 h3
                · obtain rfl : l = L := by omega
                  exact hno3 c (by have := h3.1; omega) h3
              case measure => omega
            · have t3 : (C : Int) ≤ 4 := by omega
              have hc4 : C ≤ 4 := by omega
              have f1 : wrap64 ((C : Int) + 1) = ((C + 1 : Nat) : Int) := by unfold wrap64; omega
              by_cases hv : C + L ≤ 4
              · have HV := q1 C L P w ⟨hv, hk4⟩
                have HB := rbyte_ok (C : Int) (L : Int) (P : Int) w ⟨by omega, by omega, by omega, by omega, by omega, by omega⟩
                obtain ⟨X, hX⟩ : ∃ X, X = (P * 5 + L) * 9 + C := ⟨_, rfl⟩
                rw [show ((P : Int) * 5 + (L : Int)) * 9 + (C : Int) = (X : Int) by omega] at HB
                by_cases he : X = b
                · have HF := HE hk4 (show Hit b P L C from ⟨by omega, by omega⟩)
                  subst he
                  clear hno hno2 hno3 q1 q2 HN HE hb hX hc hl hk h5 hv hl4 hk4 hc4 f1
                  go_wp2_with fail
                  refine HV.mono ?_
                  rintro e w' ⟨rfl, rfl⟩
                  go_wp2_with fail
                  refine HB.mono ?_
                  rintro e w' ⟨rfl, rfl⟩
                  go_wp2_with fail
                  go_returns
                  exact HF
                · have t5 : ¬ (X : Int) = (b : Int) := by omega
                  have HNX : ∀ c : Nat, c < C + 1 → ¬ Hit b P L c := fun c h1 h3 => by
                    rcases Nat.lt_or_ge c C with h4 | h4
                    · exact hno3 c h4 h3
                    · obtain rfl : c = C := by omega
                      exact he (hX.trans h3.2)
                  have HM : 4 - C < gk := by omega
                  clear hno hno2 hno3 q1 q2 HN HE hb hX hc hl hk h5 hv hl4 hk4 he
                  go_wp2_with fail
                  refine HV.mono ?_
                  rintro e w' ⟨rfl, rfl⟩
                  go_wp2_with fail
                  refine HB.mono ?_
                  rintro e w' ⟨rfl, rfl⟩
                  go_wp2_with fail
                  go_roundg (4 - C)
                  case rel => exact ⟨C + 1, by omega, rfl, HNX, rfl⟩
                  case measure => exact HM
              · have HV := q2 C L P w hv
                go_wp2_with fail
                refine HV.mono ?_
                rintro e w' ⟨rfl, rfl⟩
                go_wp2_with fail
                go_roundg (4 - C)
                case rel =>
                  refine ⟨C + 1, by omega, rfl, fun c h1 h3 => ?_, rfl⟩
                  rcases Nat.lt_or_ge c C with h4 | h4
                  · exact hno3 c h4 h3
                  · obtain rfl : c = C := by omega
                    exact hv (by have := h3.1; omega)
                case measure => omega
end Go.Proofs.Ythafoojlkaifkaa
