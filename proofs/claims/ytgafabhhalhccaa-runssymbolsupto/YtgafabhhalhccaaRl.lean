/- runLength: how many bytes the run has with which a text begins. -/
import Derived.Test.YtgafabhhalhccaaUf
namespace Go.Proofs.Ytgafabhhalhccaa
open Go.RowKit Runs
set_option maxRecDepth 100000
set_option linter.unusedVariables false
attribute [local go_sem ↓] Go.wp_at_zero Go.wp_at_succ

/-- how long the run is with which a text begins -/
def rlen (b : List Nat) : Nat := lead (b.getD 0 0) 258 (b.drop 1) + 1

set_option maxHeartbeats 4000000 in
theorem rl_ok (b : List Nat) (a0 : Option Addr) (cap : Nat) (w : World) (hc : BytesIn w a0 b) (h0 : 0 < b.length) (hn : b.length ≤ 1048576) :
    Calls Try.prog 26 #[.slice a0 b.length cap] w fun e w' => e = .returned (.int .i64 ((rlen b : Nat) : Int)) ∧ ∃ q, w' = w.drewN q := by
  have HC := hide hc
  obtain ⟨n, hN⟩ : ∃ n, n = b.length := ⟨_, rfl⟩
  have HN := hide hN
  rw [← hN] at hn h0 ⊢
  clear hN hc
  go_enter Try.func26, Try.ntmps26
  go_wp2_with fail
  go_loopg [3] 258 (fun gk mv ws => ∃ m q : Nat, gk = 259 - m ∧ 1 ≤ m ∧ m ≤ 259 ∧ m ≤ n ∧ mv = .int .i64 (m : Int) ∧ Hid (∀ j, j < m → b.getD (0 + j) 0 = b.getD 0 0) ∧ ws = w.drewN q)
  case atStart => exact ⟨1, 0, by omega, by omega, by omega, by omega, rfl, hide (fun j hj => by rw [show 0 + j = 0 by omega]), rfl⟩
  case round =>
    obtain ⟨m, q0, rfl, hm1, hm, ham, rfl, HE, rfl⟩ := hrel
    have HF : Hid ((m = n ∨ m = 259 ∨ b.getD (0 + m) 0 ≠ b.getD 0 0) → rlen b = m) := hide fun h => run_is (at_ := 0) (by rw [← unhide HN]; omega) hm1 hm (unhide HE) (by rw [← unhide HN]; omega)
    by_cases h1 : m < n
    · have t1 : (m : Int) < (n : Int) := by omega
      obtain ⟨g, off, rfl, c1⟩ := unhide HC 0 (by rw [← unhide HN]; exact h0)
      obtain ⟨g', off', e1, c2⟩ := unhide HC m (by rw [← unhide HN]; exact h1)
      injection e1 with e1
      injection e1 with e1 e2
      subst e1 e2
      rw [Nat.add_zero] at c1
      have d1 : ∀ q, ((w.drewN q0).drewN q).cell? ⟨g, off, none⟩ = some (.int .u8 ((b.getD 0 0 : Nat) : Int)) := fun q => c1
      have d2 : ∀ q, ((w.drewN q0).drewN q).cell? ⟨g, off + m, none⟩ = some (.int .u8 ((b.getD m 0 : Nat) : Int)) := fun q => c2
      clear c1 c2
      have n0 : (0 : Int) < (n : Int) := by omega
      by_cases h2 : m < 259
      · have t2 : (m : Int) < 259 := by omega
        obtain ⟨u, hu⟩ : ∃ u, u = b.getD m 0 := ⟨_, rfl⟩
        obtain ⟨v, hv⟩ : ∃ v, v = b.getD 0 0 := ⟨_, rfl⟩
        rw [← hu] at d2
        rw [← hv] at d1
        have HU := hide hu
        have HV := hide hv
        clear hu hv
        obtain ⟨W6, hW6⟩ : ∃ W6, W6 = w.drewN q0 := ⟨_, rfl⟩
        have HW6 := hide hW6
        rw [← hW6] at d1 d2 ⊢
        clear hW6
        by_cases huv : u = v
        · have f1 : ((u : Int) == (v : Int)) = true := by rw [beq_iff_eq]; omega
          have f2 : (u : Int) = (v : Int) := by omega
          subst huv
          go_upto_region 1 with fail
          go_quiet (fail)
          go_wp2_with fail
          go_roundg (259 - (m + 1))
          case measure => omega
          case rel =>
            refine ⟨m + 1, q0 + nq, rfl, by omega, by omega, by omega, by go_num, hide fun j hj => ?_, by rw [unhide HW6, World.drewN_drewN]⟩
            by_cases e : j = m
            · rw [e, ← unhide HV, Nat.zero_add, ← unhide HU]
            · exact unhide HE j (by omega)
        · have f1 : ((u : Int) == (v : Int)) = false := by rw [beq_eq_false_iff_ne]; omega
          have f2 : ¬ (u : Int) = (v : Int) := by omega
          go_upto_region 1 with fail
          go_quiet (fail)
          go_wp2_with fail
          go_ret
          exact ⟨by rw [unhide HF (.inr (.inr (by rw [Nat.zero_add, ← unhide HU, ← unhide HV]; exact huv)))]; rfl, q0 + nq, by rw [unhide HW6, World.drewN_drewN]⟩
      · have t2 : ¬ (m : Int) < 259 := by omega
        have t3 : decide ((m : Int) < 259) = false := decide_eq_false t2
        obtain ⟨W6, hW6⟩ : ∃ W6, W6 = w.drewN q0 := ⟨_, rfl⟩
        have HW6 := hide hW6
        rw [← hW6]
        clear hW6 d1 d2
        go_upto_region 1 with fail
        go_quiet (fail)
        go_wp2_with fail
        go_ret
        exact ⟨by rw [unhide HF (.inr (.inl (by omega)))]; rfl, q0 + nq, by rw [unhide HW6, World.drewN_drewN]⟩
    · have t1 : ¬ (m : Int) < (n : Int) := by omega
      obtain ⟨W6, hW6⟩ : ∃ W6, W6 = w.drewN q0 := ⟨_, rfl⟩
      have HW6 := hide hW6
      rw [← hW6]
      clear hW6
      go_upto_region 1 with fail
      go_quiet (fail)
      go_wp2_with fail
      go_ret
      exact ⟨by rw [unhide HF (.inl (by omega))]; rfl, q0 + nq, by rw [unhide HW6, World.drewN_drewN]⟩

end Go.Proofs.Ytgafabhhalhccaa
