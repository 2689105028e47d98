/- has: whether a byte is there. -/
import Derived.Test.YtgafabhhalhccaaUn
namespace Go.Proofs.Ytgafabhhalhccaa
open Go.RowKit Runs
set_option maxRecDepth 100000
set_option linter.unusedVariables false
attribute [local go_sem ↓] Go.wp_at_zero Go.wp_at_succ

set_option maxHeartbeats 8000000 in
theorem has_ok (b : List Nat) (a0 : Option Addr) (cap c : Nat) (w : World) (hc : BytesIn w a0 b) (hn : b.length ≤ 1048576) :
    Calls Try.prog 31 #[.slice a0 b.length cap, .int .u8 (c : Int)] w fun e w' => e = .returned (.bool (decide (c ∈ b))) ∧ w' = w := by
  have HC := hide hc
  obtain ⟨n, hN⟩ : ∃ n, n = b.length := ⟨_, rfl⟩
  have HN := hide hN
  rw [← hN] at hn ⊢
  clear hN hc
  go_enter Try.func31, Try.ntmps31
  go_wp2_with fail
  go_loopg [5] n (fun gk av ws => ∃ (i : Nat), gk = n - i ∧ i ≤ n ∧ av = .int .i64 (i : Int) ∧ Hid (∀ j, j < i → b.getD j 0 ≠ c) ∧ ws = w)
  case atStart => exact ⟨0, by omega, by omega, rfl, hide (fun j hj => by omega), rfl⟩
  case round =>
    obtain ⟨i, rfl, hi, rfl, HX, rfl⟩ := hrel
    by_cases hlt : i < n
    · have tl : (i : Int) < (n : Int) := by omega
      have hib : i < b.length := by rw [← unhide HN]; exact hlt
      obtain ⟨g, off, rfl, c1⟩ := unhide HC i hib
      by_cases he : b.getD i 0 = c
      · rw [he] at c1
        have d1 : decide (c ∈ b) = true := decide_eq_true (he ▸ getD_mem hib)
        go_wp2_with fail
        go_ret
        exact ⟨by rw [d1]; rfl, rfl⟩
      · obtain ⟨z, hz⟩ : ∃ z, z = b.getD i 0 := ⟨_, rfl⟩
        rw [← hz] at c1 he
        have HZ := hide hz
        clear hz
        have f1 : ((z : Int) == (c : Int)) = false := by rw [beq_eq_false_iff_ne]; omega
        go_wp2_with fail
        go_roundg (n - (i + 1))
        case measure => omega
        case rel => exact ⟨i + 1, rfl, by omega, by go_num, hide (fun j hj => by
          rcases Nat.lt_or_ge j i with h | h
          · exact unhide HX j h
          · have e : j = i := by omega
            subst e
            rw [← unhide HZ]
            exact he), rfl⟩
    · have e : i = n := by omega
      subst e
      have d1 : decide (c ∈ b) = false := decide_eq_false (fun h => by
        obtain ⟨j, hj, hje⟩ := List.getElem_of_mem h
        refine unhide HX j (by rw [unhide HN]; exact hj) ?_
        rw [List.getD_eq_getElem?_getD, List.getElem?_eq_getElem hj]
        exact hje)
      go_wp2_with fail
      go_ret
      exact ⟨by rw [d1]; rfl, rfl⟩

end Go.Proofs.Ytgafabhhalhccaa
