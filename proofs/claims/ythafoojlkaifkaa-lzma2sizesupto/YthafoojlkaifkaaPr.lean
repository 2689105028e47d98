/- Props: what may be, and what a byte says. -/
import Derived.Test.YthafoojlkaifkaaProg
import Derived.WalkKit
import Derived.WalkMore
import Derived.WalkSpells
import Derived.Handy
import Derived.KernelRfl
import Derived.Deep.LoopGhost
import Derived.Deep.DeepCutAuto
import Derived.Deep.CutBlock
import Derived.BigQuiet
import Derived.Deep.QuietTactic
import Derived.Deep.AppendLies
import Derived.Deep.DeepMust
import Derived.Deep.DrawnRows
import Derived.Deep.WholeRow
import Derived.Laws.Rows
import Derived.OwnWalk
namespace Go.Proofs.Ythafoojlkaifkaa
open Go.RowKit
set_option maxRecDepth 100000
set_option linter.unusedVariables false
attribute [local go_sem ↓] Go.wp_at_zero Go.wp_at_succ

theorem hide_ {p : Prop} (h : p) : p := h
def VOk (lc lp pb : Int) : Prop := 0 ≤ lc ∧ lc ≤ 4 ∧ 0 ≤ lp ∧ lp ≤ 4 ∧ 0 ≤ pb ∧ pb ≤ 4 ∧ lc + lp ≤ 4

theorem rvalid_yes (lc lp pb : Int) (w : World) (h : VOk lc lp pb) : Calls Try.prog 21 #[.int .i64 lc, .int .i64 lp, .int .i64 pb] w fun e w' => e = .returned (.bool true) ∧ w' = w := by
  obtain ⟨h1, h2, h3, h4, h5, h6, h7⟩ := h
  go_enter Try.func21, Try.ntmps21
  go_wp2_with fail
  go_ret
  exact ⟨rfl, rfl⟩

theorem no_cases {lc lp pb : Int} (h : ¬ VOk lc lp pb) : (¬ 0 ≤ lc) ∨ (0 ≤ lc ∧ ¬ lc ≤ 4) ∨ (0 ≤ lc ∧ lc ≤ 4 ∧ ¬ 0 ≤ lp) ∨ (0 ≤ lc ∧ lc ≤ 4 ∧ 0 ≤ lp ∧ ¬ lp ≤ 4) ∨ (0 ≤ lc ∧ lc ≤ 4 ∧ 0 ≤ lp ∧ lp ≤ 4 ∧ ¬ lc + lp ≤ 4 ∧ ¬ 0 ≤ pb) ∨ (0 ≤ lc ∧ lc ≤ 4 ∧ 0 ≤ lp ∧ lp ≤ 4 ∧ ¬ lc + lp ≤ 4 ∧ 0 ≤ pb ∧ ¬ pb ≤ 4) ∨ (0 ≤ lc ∧ lc ≤ 4 ∧ 0 ≤ lp ∧ lp ≤ 4 ∧ ¬ lc + lp ≤ 4 ∧ 0 ≤ pb ∧ pb ≤ 4) ∨ (0 ≤ lc ∧ lc ≤ 4 ∧ 0 ≤ lp ∧ lp ≤ 4 ∧ lc + lp ≤ 4 ∧ ¬ 0 ≤ pb) ∨ (0 ≤ lc ∧ lc ≤ 4 ∧ 0 ≤ lp ∧ lp ≤ 4 ∧ lc + lp ≤ 4 ∧ 0 ≤ pb ∧ ¬ pb ≤ 4) := by unfold VOk at h; omega

theorem rvalid_no (lc lp pb : Int) (w : World) (h : ¬ VOk lc lp pb) : Calls Try.prog 21 #[.int .i64 lc, .int .i64 lp, .int .i64 pb] w fun e w' => e = .returned (.bool false) ∧ w' = w := by
  have hc := no_cases h
  clear h
  rcases hc with h1 | ⟨h1, h2⟩ | ⟨h1, h2, h3⟩ | ⟨h1, h2, h3, h4⟩ | ⟨h1, h2, h3, h4, h5, h6⟩ | ⟨h1, h2, h3, h4, h5, h6, h7⟩ | ⟨h1, h2, h3, h4, h5, h6, h7⟩ | ⟨h1, h2, h3, h4, h5, h6⟩ | ⟨h1, h2, h3, h4, h5, h6, h7⟩
  all_goals go_enter Try.func21, Try.ntmps21
  all_goals go_wp2_with fail
  all_goals go_ret
  all_goals exact ⟨rfl, rfl⟩

theorem isprop_ok (n : Int) (b : Bool) (w : World) (h : b = true ↔ 0 ≤ n ∧ n ≤ 4) : Calls Try.prog 30 #[.int .i64 n] w fun e w' => e = .returned (.bool b) ∧ w' = w := by
  rcases (show (¬ 0 ≤ n) ∨ (0 ≤ n ∧ ¬ n ≤ 4) ∨ (0 ≤ n ∧ n ≤ 4) by omega) with h1 | ⟨h1, h2⟩ | ⟨h1, h2⟩
  · obtain rfl : b = false := by cases b; rfl; exact absurd (h.1 rfl).1 h1
    clear h
    go_enter Try.func30, Try.ntmps30
    go_wp2_with fail
    go_ret
    exact ⟨rfl, rfl⟩
  · obtain rfl : b = false := by cases b; rfl; exact absurd (h.1 rfl).2 h2
    clear h
    go_enter Try.func30, Try.ntmps30
    go_wp2_with fail
    go_ret
    exact ⟨rfl, rfl⟩
  · obtain rfl : b = true := h.2 ⟨h1, h2⟩
    clear h
    go_enter Try.func30, Try.ntmps30
    go_wp2_with fail
    go_ret
    exact ⟨rfl, rfl⟩

def pcells (lc lp pb : Int) : Array Value := #[.int .i64 lc, .int .i64 lp, .int .i64 pb]

theorem vno_cases {lc lp pb : Int} (h : ¬ VOk lc lp pb) : (¬ (0 ≤ lc ∧ lc ≤ 4)) ∨ ((0 ≤ lc ∧ lc ≤ 4) ∧ ¬ (0 ≤ lp ∧ lp ≤ 4)) ∨ ((0 ≤ lc ∧ lc ≤ 4) ∧ (0 ≤ lp ∧ lp ≤ 4) ∧ ¬ (0 ≤ pb ∧ pb ≤ 4)) ∨ ((0 ≤ lc ∧ lc ≤ 4) ∧ (0 ≤ lp ∧ lp ≤ 4) ∧ (0 ≤ pb ∧ pb ≤ 4) ∧ ¬ lc + lp ≤ 4) := by unfold VOk at h; omega

theorem sum_wrap {lc lp : Int} (h1 : 0 ≤ lc ∧ lc ≤ 4) (h2 : 0 ≤ lp ∧ lp ≤ 4) : wrap64 (lc + lp) = lc + lp := by
  rcases (show lc = 0 ∨ lc = 1 ∨ lc = 2 ∨ lc = 3 ∨ lc = 4 by omega) with rfl | rfl | rfl | rfl | rfl <;> rcases (show lp = 0 ∨ lp = 1 ∨ lp = 2 ∨ lp = 3 ∨ lp = 4 by omega) with rfl | rfl | rfl | rfl | rfl <;> (unfold wrap64; omega)

/-- may they be? -/
theorem valid_ok (lc lp pb : Int) (b : Bool) (w : World) (hb : b = true ↔ VOk lc lp pb) : Calls Try.prog 27 #[.agg (pcells lc lp pb)] w fun e w' => e = .returned (.bool b) ∧ w' = w.alloc (.cells (pcells lc lp pb) 35) := by
  by_cases h : VOk lc lp pb
  · obtain rfl : b = true := hb.2 h
    clear hb
    have q1 := fun w => hide_ (isprop_ok lc true w (by unfold VOk at h; simp; omega))
    have q2 := fun w => hide_ (isprop_ok lp true w (by unfold VOk at h; simp; omega))
    have q3 := fun w => hide_ (isprop_ok pb true w (by unfold VOk at h; simp; omega))
    obtain ⟨h1, h2, h3, h4, h5, h6, h7⟩ := h
    unfold pcells
    go_enter Try.func27, Try.ntmps27
    go_wp2_with fail
    refine (q1 _).mono ?_
    rintro e w' ⟨rfl, rfl⟩
    go_wp2_with fail
    refine (q2 _).mono ?_
    rintro e w' ⟨rfl, rfl⟩
    go_wp2_with fail
    refine (q3 _).mono ?_
    rintro e w' ⟨rfl, rfl⟩
    go_wp2_with fail
    go_ret
    exact ⟨rfl, rfl⟩
  · obtain rfl : b = false := by cases b; rfl; exact absurd (hb.1 rfl) h
    clear hb
    rcases vno_cases h with h1 | ⟨h1, h2⟩ | ⟨h1, h2, h3⟩ | ⟨h1, h2, h3, h4⟩
    · have q1 := fun w => hide_ (isprop_ok lc false w (by simpa using h1))
      clear h h1
      unfold pcells
      go_enter Try.func27, Try.ntmps27
      go_wp2_with fail
      refine (q1 _).mono ?_
      rintro e w' ⟨rfl, rfl⟩
      go_wp2_with fail
      go_ret
      exact ⟨rfl, rfl⟩
    · have q1 := fun w => hide_ (isprop_ok lc true w (by simpa using h1))
      have q2 := fun w => hide_ (isprop_ok lp false w (by simpa using h2))
      clear h h1 h2
      unfold pcells
      go_enter Try.func27, Try.ntmps27
      go_wp2_with fail
      refine (q1 _).mono ?_
      rintro e w' ⟨rfl, rfl⟩
      go_wp2_with fail
      refine (q2 _).mono ?_
      rintro e w' ⟨rfl, rfl⟩
      go_wp2_with fail
      go_ret
      exact ⟨rfl, rfl⟩
    · have q1 := fun w => hide_ (isprop_ok lc true w (by simpa using h1))
      have q2 := fun w => hide_ (isprop_ok lp true w (by simpa using h2))
      have q3 := fun w => hide_ (isprop_ok pb false w (by simpa using h3))
      clear h h1 h2 h3
      unfold pcells
      go_enter Try.func27, Try.ntmps27
      go_wp2_with fail
      refine (q1 _).mono ?_
      rintro e w' ⟨rfl, rfl⟩
      go_wp2_with fail
      refine (q2 _).mono ?_
      rintro e w' ⟨rfl, rfl⟩
      go_wp2_with fail
      refine (q3 _).mono ?_
      rintro e w' ⟨rfl, rfl⟩
      go_wp2_with fail
      go_ret
      exact ⟨rfl, rfl⟩
    · have q1 := fun w => hide_ (isprop_ok lc true w (by simpa using h1))
      have q2 := fun w => hide_ (isprop_ok lp true w (by simpa using h2))
      have q3 := fun w => hide_ (isprop_ok pb true w (by simpa using h3))
      have hw := sum_wrap h1 h2
      have hd : decide (lc + lp ≤ 4) = false := decide_eq_false h4
      clear h h1 h2 h3
      unfold pcells
      go_enter Try.func27, Try.ntmps27
      go_wp2_with fail
      refine (q1 _).mono ?_
      rintro e w' ⟨rfl, rfl⟩
      go_wp2_with fail
      refine (q2 _).mono ?_
      rintro e w' ⟨rfl, rfl⟩
      go_wp2_with fail
      refine (q3 _).mono ?_
      rintro e w' ⟨rfl, rfl⟩
      go_wp2_with fail
      go_ret
      exact ⟨rfl, rfl⟩
end Go.Proofs.Ythafoojlkaifkaa
