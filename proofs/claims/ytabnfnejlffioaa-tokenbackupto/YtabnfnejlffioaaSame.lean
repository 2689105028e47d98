/- same: two lists of the same tokens are alike; names. -/
import Derived.Test.YtabnfnejlffioaaMeas
namespace Go.Proofs.Ytabnfnejlffioaa
open Go.RowKit
set_option linter.unusedVariables false

attribute [local go_sem ↓] Go.wp_at_zero Go.wp_at_succ

theorem names_ok (w : World) : Calls Try.prog 11 #[] w fun e w' => e = .returned (.bool true) ∧ w' = w := by
  go_enter Try.func11, Try.ntmps11
  go_wp2_with fail
  go_ret
  exact ⟨rfl, rfl⟩

set_option maxRecDepth 100000 in
set_option maxHeartbeats 1000000 in
theorem same_loop (ts : List Tok) (a b : Option Addr) (ca cb B B' : Nat) (w : World) (hlen : ts.length ≤ 140737488355328) (h1 : ReadsT B w (.slice a ts.length ca) ts) (h2 : ReadsT B' w (.slice b ts.length cb) ts) :
    Calls Try.prog 13 #[.slice a ts.length ca, .slice b ts.length cb] w fun e w' => e = .returned (.bool true) ∧ ∃ q, w' = w.drewN q := by
  have H1 := hide h1
  have H2 := hide h2
  clear h1 h2
  obtain ⟨n, hn⟩ : ∃ n, n = ts.length := ⟨_, rfl⟩
  rw [← hn] at H1 H2 hlen ⊢
  have HN := hide hn
  clear hn
  have e0 : ((n : Int) != (n : Int)) = false := by simp
  go_enter Try.func13, Try.ntmps13
  go_wp2_with fail
  go_loopg [5] n (fun gk d ws => ∃ (k q : Nat), gk = n - k ∧ k ≤ n ∧ d = .int .i64 (k : Int) ∧ ws = w.drewN q)
  case atStart => exact ⟨0, 0, by omega, by omega, rfl, rfl⟩
  case round =>
    obtain ⟨k, q, rfl, hk, rfl, rfl⟩ := hrel
    by_cases hlt : k < n
    · obtain ⟨a', cap', e, _, hs⟩ := unhide H1
      injection e with e1 e2 e3
      subst e1 e3
      obtain ⟨b1, off1, rfl, _, hcell1⟩ := hs (by rw [← unhide HN]; omega)
      obtain ⟨a', cap', e, _, hs2⟩ := unhide H2
      injection e with e1 e2 e3
      subst e1 e3
      obtain ⟨b2, off2, rfl, _, hcell2⟩ := hs2 (by rw [← unhide HN]; omega)
      obtain ⟨k1, k2, k3⟩ := hcell1 k (by rw [← unhide HN]; omega)
      obtain ⟨j1, j2, j3⟩ := hcell2 k (by rw [← unhide HN]; omega)
      obtain ⟨t, ht⟩ : ∃ t, t = ts.getD k tz := ⟨_, rfl⟩
      rw [← ht] at k1 k2 k3 j1 j2 j3
      have hki : (k : Int) < (n : Int) := by omega
      clear hcell1 hcell2 ht hs hs2
      go_wp2_with fail
      go_quiet (fail)
      go_wp2_with fail
      go_roundg (n - (k + 1))
      case measure => omega
      case rel => exact ⟨k + 1, q + nq, rfl, by omega, by go_num, by first | rfl | (rw [World.drewN_drewN])⟩
    · obtain rfl : k = n := by omega
      have hki : ¬ (k : Int) < (k : Int) := by omega
      go_wp2_with fail
      go_ret
      exact ⟨rfl, q, rfl⟩

theorem same_yes (ts : List Tok) (v u : Value) (B B' : Nat) (w : World) (hlen : ts.length ≤ 140737488355328) (h1 : ReadsT B w v ts) (h2 : ReadsT B' w u ts) :
    Calls Try.prog 13 #[v, u] w fun e w' => e = .returned (.bool true) ∧ ∃ q, w' = w.drewN q := by
  obtain ⟨a, ca, rfl, hs1⟩ := id h1
  obtain ⟨b, cb, rfl, hs2⟩ := id h2
  exact same_loop ts a b ca cb B B' w hlen h1 h2

end Go.Proofs.Ytabnfnejlffioaa
