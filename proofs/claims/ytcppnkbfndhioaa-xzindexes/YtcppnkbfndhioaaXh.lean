/- The cursor: what fills up; sums; long numbers; records. -/
import Derived.Test.YtcppnkbfndhioaaXg
namespace Go.Proofs.Ytcppnkbfndhioaa
open Go.RowKit
set_option maxRecDepth 100000
set_option linter.unusedVariables false
attribute [local go_sem ↓] Go.wp_at_zero Go.wp_at_succ

/-- the bytes 0 that fill up: the error, and the place behind them -/
def fillGo (zs : List Nat) : Nat → Nat → Nat × Nat
  | 0, p => (0, p)
  | k + 1, p => if (expF zs p [0] 11).1 = 0 then fillGo zs k (expF zs p [0] 11).2 else expF zs p [0] 11

theorem expF_le {zs : List Nat} {p : Nat} (hp : p ≤ zs.length) (ws : List Nat) (x : Nat) : (expF zs p ws x).2 ≤ zs.length := by
  unfold expF
  split
  · exact hp
  · split
    · show p + ws.length ≤ _; omega
    · show p + ws.length ≤ _; omega

set_option maxHeartbeats 1000000 in
theorem readFill_ok (g h cap p : Nat) (zs : List Nat) (w : World) (c : Cur w g h cap zs p) :
    Calls Try.prog 21 #[.pointer (some ⟨g, 0, none⟩)] w fun e w' => e = .returned (.int .i64 ((fillGo zs (lack p) p).1 : Int)) ∧ Step w w' g h cap zs (fillGo zs (lack p) p).2 := by
  have c1 := c.cell1
  have hlk := lack_lt p
  have HLK := hide (lacking_ok p w (by have := c.le; have := c.small; omega))
  have HS0 := hide (Step.refl c)
  obtain ⟨K, hK⟩ : ∃ K, K = lack p := ⟨_, rfl⟩
  rw [← hK] at HLK hlk ⊢
  clear c hK
  go_enter Try.func21, Try.ntmps21
  go_wp2_with (go_at_call 26; go_must (refine (unhide HLK).mono ?_; rintro e w1 ⟨rfl, rfl⟩))
  clear c1 HLK
  go_loopg [3, 9] K (fun gk b c ws => ∃ (i q : Nat), gk = K - i ∧ i ≤ K ∧ c = .int .i64 (i : Int) ∧ Hid (fillGo zs K p = fillGo zs (K - i) q) ∧ Hid (Step w1 ws g h cap zs q))
  case atStart => exact ⟨0, p, by omega, by omega, rfl, hide rfl, HS0⟩
  case round =>
    obtain ⟨i, q, rfl, hi, rfl, HF, HS⟩ := hrel
    by_cases hlt : i < K
    · have hki : (i : Int) < (K : Int) := by omega
      have HF2 : Hid (fillGo zs K p = if (expF zs q [0] 11).1 = 0 then fillGo zs (K - (i + 1)) (expF zs q [0] 11).2 else expF zs q [0] 11) := hide (by rw [unhide HF, show K - i = (K - (i + 1)) + 1 by omega, fillGo])
      have hgs := heap_lt (unhide HS).cur.cells
      have HC2 := hide ((unhide HS).cur.stays ((Below.refl _ _).alloc (Nat.le_refl _) (.cells #[bv 0] 5)))
      have HEX := hide (expect_ok g h cap q 11 zs [0] (.slice (some ⟨wr.heap.size, 0, none⟩) 1 1) _ (unhide HC2) (StB.one wr 0).reads (by intro a n k e; injection e with e1; injection e1 with e1; subst e1; show wr.heap.size ≠ g; omega) (by simp) (by simp))
      have HSA := hide ((unhide HS).stays ((Below.refl _ _).alloc (Nat.le_refl _) (.cells #[bv 0] 5)))
      have HLT := hide hlt
      clear hlt hi hgs HC2
      by_cases he : (expF zs q [0] 11).1 = 0
      · rw [if_pos he] at HF2
        rw [he] at HEX
        go_wp2_with (go_at_call 31; go_must (refine (unhide HEX).mono ?_; rintro e w2 ⟨rfl, h2⟩; have H2 := hide ((unhide HSA).trans h2); clear h2))
        go_roundg (K - (i + 1))
        case measure => have := unhide HLT; omega
        case rel => exact ⟨i + 1, _, rfl, unhide HLT, by go_num, HF2, H2⟩
      · rw [if_neg he] at HF2
        have hne : (((expF zs q [0] 11).1 : Int) != 0) = true := by simp; omega
        generalize expF zs q [0] 11 = r at *
        go_wp2_with (go_at_call 31; go_must (refine (unhide HEX).mono ?_; rintro e w2 ⟨rfl, h2⟩; have H2 := hide ((unhide HSA).trans h2); clear h2))
        go_ret
        rw [unhide HF2]
        exact ⟨rfl, unhide H2⟩
    · obtain rfl : i = K := by omega
      have HF2 : Hid (fillGo zs i p = (0, q)) := hide (by rw [unhide HF, Nat.sub_self, fillGo])
      go_wp2_with fail
      go_ret
      rw [unhide HF2]
      exact ⟨rfl, unhide HS⟩
end Go.Proofs.Ytcppnkbfndhioaa
