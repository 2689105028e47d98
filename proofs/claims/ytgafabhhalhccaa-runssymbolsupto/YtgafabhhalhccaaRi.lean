/- rising and within. -/
import Derived.Test.YtgafabhhalhccaaFp
namespace Go.Proofs.Ytgafabhhalhccaa
open Go.RowKit Runs
set_option maxRecDepth 100000
set_option linter.unusedVariables false
attribute [local go_sem ↓] Go.wp_at_zero Go.wp_at_succ

/-- a bool that says whether it is so -/
def SaysIf (p : Prop) (w : World) (e : Ending) (w' : World) : Prop := ∃ r q, e = .returned (.bool r) ∧ (r = true ↔ p) ∧ w' = w.drewN q

set_option maxHeartbeats 4000000 in
theorem rising_ok (u : List Nat) (a0 : Option Addr) (cap : Nat) (w : World) (hc : BytesIn w a0 u) (hn : u.length ≤ 1048576) :
    Calls Try.prog 33 #[.slice a0 u.length cap] w fun e w' => SaysIf (Up u) w e w' := by
  have HC := hide hc
  obtain ⟨n, hN⟩ : ∃ n, n = u.length := ⟨_, rfl⟩
  have HN := hide hN
  rw [← hN] at hn ⊢
  clear hN hc
  go_enter Try.func33, Try.ntmps33
  go_wp2_with fail
  go_loopg [3] n (fun gk d ws => ∃ (i q : Nat), gk = n + 1 - i ∧ 1 ≤ i ∧ (i ≤ n ∨ i = 1) ∧ d = .int .i64 (i : Int) ∧ Hid (∀ j, j + 1 < i → u.getD j 0 < u.getD (j + 1) 0) ∧ ws = w.drewN q)
  case atStart => exact ⟨1, 0, by omega, by omega, .inr rfl, rfl, hide (fun j hj => by omega), rfl⟩
  case round =>
    obtain ⟨i, q0, rfl, hi1, hi, rfl, HE, rfl⟩ := hrel
    by_cases hlt : i < n
    · have tl : (i : Int) < (n : Int) := by omega
      obtain ⟨i1, rfl⟩ : ∃ i1, i = i1 + 1 := ⟨i - 1, by omega⟩
      obtain ⟨g, off, rfl, c1⟩ := unhide HC i1 (by rw [← unhide HN]; omega)
      obtain ⟨g', off', e1, c2⟩ := unhide HC (i1 + 1) (by rw [← unhide HN]; exact hlt)
      cases e1
      have d1 : ∀ q, ((w.drewN q0).drewN q).cell? ⟨g, off + i1, none⟩ = some (.int .u8 ((u.getD i1 0 : Nat) : Int)) := fun q => c1
      have d2 : ∀ q, ((w.drewN q0).drewN q).cell? ⟨g, off + (i1 + 1), none⟩ = some (.int .u8 ((u.getD (i1 + 1) 0 : Nat) : Int)) := fun q => c2
      have fw : IntKind.i64.wrap (i1 : Int) = (i1 : Int) := by rw [IntKind.wrap_i64]; omega
      have tl1 : (i1 : Int) < (n : Int) := by omega
      obtain ⟨W6, hW6⟩ : ∃ W6, W6 = w.drewN q0 := ⟨_, rfl⟩
      have HW6 := hide hW6
      rw [← hW6] at d1 d2 ⊢
      obtain ⟨x, hx⟩ : ∃ x, x = u.getD i1 0 := ⟨_, rfl⟩
      obtain ⟨y, hy⟩ : ∃ y, y = u.getD (i1 + 1) 0 := ⟨_, rfl⟩
      rw [← hx] at d1
      rw [← hy] at d2
      have HX := hide hx
      have HY := hide hy
      clear c1 c2 hW6 hx hy
      by_cases hxy : y ≤ x
      · have f1 : (y : Int) ≤ (x : Int) := by omega
        have f2 : decide ((y : Int) ≤ (x : Int)) = true := decide_eq_true f1
        go_upto_region 3 with fail
        go_quiet (fail)
        go_wp2_with fail
        go_ret
        refine ⟨false, q0 + nq, rfl, ⟨fun h => by simp at h, fun h => ?_⟩, by rw [unhide HW6, World.drewN_drewN]⟩
        have := h i1 (by rw [← unhide HN]; exact hlt)
        rw [← unhide HX, ← unhide HY] at this
        omega
      · have f1 : ¬ (y : Int) ≤ (x : Int) := by omega
        have f2 : decide ((y : Int) ≤ (x : Int)) = false := decide_eq_false f1
        go_upto_region 3 with fail
        go_quiet (fail)
        go_wp2_with fail
        go_roundg (n + 1 - (i1 + 1 + 1))
        case measure => omega
        case rel =>
          refine ⟨i1 + 1 + 1, q0 + nq, rfl, by omega, by omega, by go_num, hide fun j hj => ?_, by rw [unhide HW6, World.drewN_drewN]⟩
          by_cases e : j = i1
          · rw [e, ← unhide HX, ← unhide HY]; omega
          · exact unhide HE j (by omega)
    · have tl : ¬ (i : Int) < (n : Int) := by omega
      go_wp2_with fail
      go_ret
      exact ⟨true, q0, rfl, ⟨fun _ j hj => unhide HE j (by rw [← unhide HN] at hj; omega), fun _ => rfl⟩, rfl⟩

set_option maxHeartbeats 4000000 in
theorem within_ok (ps : List Int) (a0 : Option Addr) (cap : Nat) (m : Int) (w : World) (hc : IntsIn w a0 ps) (hn : ps.length ≤ 1048576) :
    Calls Try.prog 34 #[.slice a0 ps.length cap, .int .i64 m] w fun e w' => SaysIf (∀ p ∈ ps, 0 ≤ p ∧ p < m) w e w' := by
  have HC := hide hc
  obtain ⟨n, hN⟩ : ∃ n, n = ps.length := ⟨_, rfl⟩
  have HN := hide hN
  rw [← hN] at hn ⊢
  clear hN hc
  go_enter Try.func34, Try.ntmps34
  go_wp2_with fail
  go_loopg [9] n (fun gk d ws => ∃ (i : Nat), gk = n - i ∧ i ≤ n ∧ d = .int .i64 (i : Int) ∧ Hid (∀ j, j < i → 0 ≤ ps.getD j 0 ∧ ps.getD j 0 < m) ∧ ws = w)
  case atStart => exact ⟨0, by omega, by omega, rfl, hide (fun j hj => by omega), rfl⟩
  case round =>
    obtain ⟨i, rfl, hi, rfl, HE, rfl⟩ := hrel
    by_cases hlt : i < n
    · have tl : (i : Int) < (n : Int) := by omega
      have hil : i < ps.length := by rw [← unhide HN]; exact hlt
      obtain ⟨g, off, rfl, c1⟩ := unhide HC i hil
      have hmem : ps.getD i 0 ∈ ps := by
        rw [List.getD_eq_getElem?_getD, List.getElem?_eq_getElem hil]
        exact List.getElem_mem hil
      obtain ⟨x, hx⟩ : ∃ x, x = ps.getD i 0 := ⟨_, rfl⟩
      rw [← hx] at c1 hmem
      have HX := hide hx
      have HM := hide hmem
      clear hx hmem
      by_cases h0 : x < 0
      · have f1 : decide (x < 0) = true := decide_eq_true h0
        go_wp2_with fail
        go_ret
        refine ⟨false, 0, rfl, ⟨fun h => by simp at h, fun h => ?_⟩, rfl⟩
        have := h x (unhide HM)
        omega
      · have f1 : decide (x < 0) = false := decide_eq_false h0
        by_cases hm : m ≤ x
        · have f2 : decide (m ≤ x) = true := decide_eq_true hm
          go_wp2_with fail
          go_ret
          refine ⟨false, 0, rfl, ⟨fun h => by simp at h, fun h => ?_⟩, rfl⟩
          have := h x (unhide HM)
          omega
        · have f2 : decide (m ≤ x) = false := decide_eq_false hm
          go_wp2_with fail
          go_roundg (n - (i + 1))
          case measure => omega
          case rel =>
            refine ⟨i + 1, rfl, by omega, by go_num, hide fun j hj => ?_, rfl⟩
            by_cases e : j = i
            · rw [e, ← unhide HX]; omega
            · exact unhide HE j (by omega)
    · obtain rfl : i = n := by omega
      have tl : ¬ (i : Int) < (i : Int) := by omega
      go_wp2_with fail
      go_ret
      refine ⟨true, 0, rfl, ⟨fun _ p hp => ?_, fun _ => rfl⟩, rfl⟩
      obtain ⟨j, hj, rfl⟩ := List.getElem_of_mem hp
      have := unhide HE j (by rw [unhide HN]; exact hj)
      rwa [List.getD_eq_getElem?_getD, List.getElem?_eq_getElem hj] at this
end Go.Proofs.Ytgafabhhalhccaa
