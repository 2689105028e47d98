/- same: whether two lists of ints are alike. -/
import Derived.Test.YtdpbjeajipggbaaKit
namespace Go.Proofs.Ytdpbjeajipggbaa
open Go.RowKit
set_option linter.unusedVariables false

theorem same_iff {xs ys : List Int} (h : xs.length = ys.length) : xs = ys ↔ ∀ j, j < xs.length → xs.getD j 0 = ys.getD j 0 := by
  constructor
  · intro e j _; rw [e]
  · intro hj
    apply List.ext_getElem h
    intro i h1 h2
    have := hj i h1
    simpa [h1, h2] using this

set_option maxRecDepth 100000 in
set_option maxHeartbeats 1000000 in
theorem same_loop (xs ys : List Int) (a b : Option Addr) (ca cb : Nat) (w : World) (hlen : xs.length ≤ 140737488355328)
    (hs1 : 0 < xs.length → ∃ b off, a = some ⟨b, off, none⟩ ∧ ∀ j, j < xs.length → w.cell? ⟨b, off + j, none⟩ = some (.int .i64 (xs.getD j 0)))
    (hs2 : 0 < ys.length → ∃ b' off, b = some ⟨b', off, none⟩ ∧ ∀ j, j < ys.length → w.cell? ⟨b', off + j, none⟩ = some (.int .i64 (ys.getD j 0))) :
    Calls Try.prog 9 #[.slice a xs.length ca, .slice b ys.length cb] w fun e w' => (e = .returned (.bool true) ∧ xs = ys ∨ e = .returned (.bool false) ∧ xs ≠ ys) ∧ ∃ q, w' = w.drewN q := by
  have HS1 := hide hs1
  have HS2 := hide hs2
  have HIFF : Hid (xs.length = ys.length → (xs = ys ↔ ∀ j, j < xs.length → xs.getD j 0 = ys.getD j 0)) := hide same_iff
  clear hs1 hs2
  obtain ⟨n, hn⟩ : ∃ n, n = xs.length := ⟨_, rfl⟩
  obtain ⟨m, hm⟩ : ∃ m, m = ys.length := ⟨_, rfl⟩
  rw [← hn] at HS1 hlen HIFF ⊢
  rw [← hm] at HS2 HIFF ⊢
  have HN := hide hn
  have HM := hide hm
  clear hn hm
  by_cases hnm : n = m
  · subst hnm
    have e0 : ((n : Int) != (n : Int)) = false := by simp
    go_enter Try.func9, Try.ntmps9
    go_wp2_with fail
    go_loopg [5] n (fun gk d ws => ∃ (k q : Nat), gk = n - k ∧ k ≤ n ∧ (∀ j, j < k → xs.getD j 0 = ys.getD j 0) ∧ d = .int .i64 (k : Int) ∧ ws = w.drewN q)
    case atStart => exact ⟨0, 0, by omega, by omega, fun j h => by omega, rfl, rfl⟩
    case round =>
      obtain ⟨k, q, rfl, hk, hgood, rfl, rfl⟩ := hrel
      by_cases hlt : k < n
      · obtain ⟨b1, off1, rfl, hcell1⟩ := unhide HS1 (by omega)
        obtain ⟨b2, off2, rfl, hcell2⟩ := unhide HS2 (by omega)
        have k1 := hcell1 k hlt
        have k2 := hcell2 k hlt
        obtain ⟨x, hx⟩ : ∃ x, x = xs.getD k 0 := ⟨_, rfl⟩
        obtain ⟨y, hy⟩ : ∃ y, y = ys.getD k 0 := ⟨_, rfl⟩
        rw [← hx] at k1
        rw [← hy] at k2
        have hki : (k : Int) < (n : Int) := by omega
        by_cases e : x = y
        · have HG : Hid (∀ j, j < k + 1 → xs.getD j 0 = ys.getD j 0) := hide fun j hj => by
            by_cases e' : j = k
            · rw [e', ← hx, ← hy]; exact e
            · exact hgood j (by omega)
          have e1 : (x != y) = false := by simp [e]
          clear hcell1 hcell2 hx hy hgood e
          go_wp2_with fail
          go_quiet (fail)
          go_wp2_with fail
          go_roundg (n - (k + 1))
          case measure => omega
          case rel => exact ⟨k + 1, q + nq, rfl, by omega, unhide HG, by go_num, by first | rfl | (rw [World.drewN_drewN])⟩
        · have HNO : Hid (xs ≠ ys) := hide fun h => e (by rw [hx, hy, h])
          have e1 : (x != y) = true := by simp [e]
          clear hcell1 hcell2 hx hy hgood e
          go_wp2_with fail
          go_quiet (fail)
          go_wp2_with fail
          go_ret
          exact ⟨.inr ⟨rfl, unhide HNO⟩, q + nq, by first | rfl | (rw [World.drewN_drewN])⟩
      · obtain rfl : k = n := by omega
        have HYES : Hid (xs = ys) := hide ((unhide HIFF (by first | rfl | trivial)).2 hgood)
        have hki : ¬ (k : Int) < (k : Int) := by omega
        clear hgood
        go_wp2_with fail
        go_ret
        exact ⟨.inl ⟨rfl, unhide HYES⟩, q, rfl⟩
  · have e0 : ((n : Int) != (m : Int)) = true := by simp; omega
    have HNO : Hid (xs ≠ ys) := hide fun h => hnm (by rw [unhide HN, unhide HM, h])
    clear HS1 HS2 hnm HIFF
    go_enter Try.func9, Try.ntmps9
    go_wp2_with fail
    go_ret
    exact ⟨.inr ⟨rfl, unhide HNO⟩, 0, rfl⟩

theorem same_ok (xs ys : List Int) (v u : Value) (w : World) (h1 : ReadsI w v xs) (h2 : ReadsI w u ys) (hl1 : xs.length ≤ 140737488355328) :
    Calls Try.prog 9 #[v, u] w fun e w' => (e = .returned (.bool true) ∧ xs = ys ∨ e = .returned (.bool false) ∧ xs ≠ ys) ∧ ∃ q, w' = w.drewN q := by
  obtain ⟨a, ca, rfl, hs1⟩ := h1
  obtain ⟨b, cb, rfl, hs2⟩ := h2
  exact same_loop xs ys a b ca cb w hl1 hs1 hs2

end Go.Proofs.Ytdpbjeajipggbaa
