/- The document's run, Match and Parse; Parse of any arguments. -/
import Derived.Test.YtabnfnejlffioaaLong
namespace Go.Proofs.Ytabnfnejlffioaa
open Go.RowKit
set_option linter.unusedVariables false

attribute [local go_sem ↓] Go.wp_at_zero Go.wp_at_succ

/-- how long the piece is at a distance -/
def RunIs (z : Nat → Nat) (p d m c : Nat) : Prop := c ≤ m ∧ Eqs z p d c ∧ (c < m → ¬ Eqs z p d (c + 1))

set_option maxRecDepth 100000 in
set_option maxHeartbeats 4000000 in
theorem run_ok (zs : List Nat) (b0 off0 cap p d M : Nat) (w : World) (B : Nat) (hr : ReadsU B w (.slice (some ⟨b0, off0, none⟩) zs.length cap) zs) (hl : zs.length ≤ 1048576) (hp : p ≤ zs.length) (hd1 : 1 ≤ d) (hdp : d ≤ p) :
    Calls Try.prog 23 #[.slice (some ⟨b0, off0, none⟩) zs.length cap, .int .i64 (p : Int), .int .i64 (d : Int), .int .i64 (M : Int)] w fun e w' => ∃ c : Nat, e = .returned (.int .i64 (c : Int)) ∧ RunIs (zf zs) p d (min M (zs.length - p)) c ∧ ∃ q, w' = w.drewN q := by
  obtain ⟨L, hL⟩ : ∃ L, L = zs.length := ⟨_, rfl⟩
  have HKB : Hid (∀ j, j < L → w.cell? ⟨b0, off0 + j, none⟩ = some (.int .u8 (zs.getD j 0 : Int))) := hide fun j hj => by
    obtain ⟨a', c', e, _, hs⟩ := hr
    injection e with e1 e2 e3
    obtain ⟨b', o', e, _, hc⟩ := hs (by rw [← hL]; omega)
    rw [← e1] at e
    injection e with e
    injection e with e1 e2
    subst e1 e2
    exact hc j (by rw [← hL]; exact hj)
  rw [← hL] at hl hp ⊢
  clear hr hL
  obtain ⟨m0, hm0⟩ : ∃ m0, m0 = min M (L - p) := ⟨_, rfl⟩
  rw [← hm0]
  have HM0 := hide hm0
  clear hm0
  go_enter Try.func23, Try.ntmps23
  go_wp2_with fail
  go_loopg [9] (L + 1) (fun gk vk ws => ∃ (k q : Nat), gk = L + 1 - k ∧ k ≤ M ∧ p + k ≤ L ∧ vk = .int .i64 (k : Int) ∧ Hid (Eqs (zf zs) p d k) ∧ ws = w.drewN q)
  case atStart => exact ⟨0, 0, rfl, by omega, by omega, rfl, hide (fun i hi => by omega), rfl⟩
  case round =>
    obtain ⟨k, q, rfl, hk, hpk, rfl, HEQ, rfl⟩ := hrel
    by_cases hkM : k < M
    · have hkMi : (k : Int) < (M : Int) := by omega
      obtain ⟨pk, hpk2⟩ : ∃ pk : Nat, (p : Int) + (k : Int) = (pk : Int) := ⟨p + k, by omega⟩
      have hwpk : IntKind.i64.wrap (pk : Int) = (pk : Int) := IntWalk.i64_in _ (by omega)
      by_cases hpL2 : pk < L
      · have hpLi : (pk : Int) < (L : Int) := by omega
        obtain ⟨pb, hpb⟩ : ∃ pb : Nat, (pk : Int) - (d : Int) = (pb : Int) := ⟨pk - d, by omega⟩
        have hwpb : IntKind.i64.wrap (pb : Int) = (pb : Int) := IntWalk.i64_in _ (by omega)
        have hpbL : (pb : Int) < (L : Int) := by omega
        have b1 := unhide HKB pk hpL2
        have b2 := unhide HKB pb (by omega)
        obtain ⟨y1, hy1⟩ : ∃ y1, y1 = zs.getD pk 0 := ⟨_, rfl⟩
        obtain ⟨y2, hy2⟩ : ∃ y2, y2 = zs.getD pb 0 := ⟨_, rfl⟩
        rw [← hy1] at b1
        rw [← hy2] at b2
        by_cases hyy : y1 = y2
        · have HEQ2 : Hid (Eqs (zf zs) p d (k + 1)) := hide (eqs_next (unhide HEQ) (by
            show zs.getD (p + k) 0 = zs.getD (p + k - d) 0
            rw [show p + k = pk by omega, show pk - d = pb by omega, ← hy1, ← hy2]; exact hyy))
          have e1' : ((y1 : Int) == (y2 : Int)) = true := by simp [hyy]
          have e2' : (y1 == y2) = true := by simp [hyy]
          clear hy1 hy2 hyy HEQ
          go_wp2_with fail
          go_quiet (fail)
          go_wp2_with fail
          go_roundg (L + 1 - (k + 1))
          case measure => omega
          case rel => exact ⟨k + 1, q + nq, rfl, by omega, by omega, by go_num, HEQ2, by first | rfl | rw [World.drewN_drewN]⟩
        · have e1' : ((y1 : Int) == (y2 : Int)) = false := by simp; omega
          have e2' : (y1 == y2) = false := by simp [hyy]
          have HR : Hid (RunIs (zf zs) p d m0 k) := hide ⟨by rw [unhide HM0]; omega, unhide HEQ, fun _ he => hyy (by
            have : zs.getD (p + k) 0 = zs.getD (p + k - d) 0 := he k (by omega)
            rw [show p + k = pk by omega, show pk - d = pb by omega, ← hy1, ← hy2] at this
            exact this)⟩
          clear hy1 hy2 hyy HEQ
          go_wp2_with fail
          go_quiet (fail)
          go_wp2_with fail
          go_ret
          exact ⟨k, rfl, unhide HR, q + nq, by first | rfl | rw [World.drewN_drewN]⟩
      · have hpLi : ¬ (pk : Int) < (L : Int) := by omega
        have HR : Hid (RunIs (zf zs) p d m0 k) := hide ⟨by rw [unhide HM0]; omega, unhide HEQ, fun h => by rw [unhide HM0] at h; omega⟩
        clear HEQ
        go_wp2_with fail
        go_quiet (fail)
        go_wp2_with fail
        go_ret
        exact ⟨k, rfl, unhide HR, q + nq, by first | rfl | rw [World.drewN_drewN]⟩
    · have hkMi : ¬ (k : Int) < (M : Int) := by omega
      have HR : Hid (RunIs (zf zs) p d m0 k) := hide ⟨by rw [unhide HM0]; omega, unhide HEQ, fun h => by rw [unhide HM0] at h; omega⟩
      clear HEQ
      go_wp2_with fail
      go_quiet (fail)
      go_wp2_with fail
      go_ret
      exact ⟨k, rfl, unhide HR, q + nq, by first | rfl | rw [World.drewN_drewN]⟩

theorem best_step {z : Nat → Nat} {p j m n d c : Nat} (h : IsBest z p j m n d) (hc : RunIs z p (j + 1) m c) : (n < c → IsBest z p (j + 1) m c (j + 1)) ∧ (¬ n < c → IsBest z p (j + 1) m n d) := by
  obtain ⟨h1, h2, h3⟩ := h
  obtain ⟨k1, k2, k3⟩ := hc
  refine ⟨fun hlt => ⟨k1, .inr ⟨by omega, by omega, Nat.le_refl _, k2, fun d' e1 e2 he => ?_⟩, fun hl d' e1 e2 he => ?_⟩, fun hlt => ⟨h1, ?_, fun hl d' e1 e2 he => ?_⟩⟩
  · exact h3 (by omega) d' e1 (by omega) (he.mono (by omega))
  · by_cases e : d' = j + 1
    · subst e; exact k3 hl he
    · exact h3 (by omega) d' e1 (by omega) (he.mono (by omega))
  · rcases h2 with e | ⟨a1, a2, a3, a4, a5⟩
    · exact .inl e
    · exact .inr ⟨a1, a2, by omega, a4, a5⟩
  · by_cases e : d' = j + 1
    · subst e
      exact k3 (by omega) (he.mono (by omega))
    · exact h3 hl d' e1 (by omega) he

def RMIs (zs : List Nat) (p W M : Nat) (w : World) (e : Ending) (w' : World) : Prop := ∃ n d : Nat, e = .returned (.tuple #[.int .i64 (n : Int), .int .i64 (d : Int)]) ∧ IsBest (zf zs) p (min p W) (min M (zs.length - p)) n d ∧ ∃ q, w' = w.drewN q

set_option maxRecDepth 100000 in
set_option maxHeartbeats 4000000 in
theorem refmatch_ok (zs : List Nat) (a : Option Addr) (cap p W M : Nat) (w : World) (B : Nat) (hr : ReadsU B w (.slice a zs.length cap) zs) (hl : zs.length ≤ 1048576) (hp : p ≤ zs.length) (hW : 1 ≤ W) :
    Calls Try.prog 10 #[.slice a zs.length cap, .int .i64 (p : Int), .int .i64 (W : Int), .int .i64 (M : Int)] w fun e w' => RMIs zs p W M w e w' := by
  have HRUN : Hid (∀ q d, 1 ≤ d → d ≤ p → Calls Try.prog 23 #[.slice a zs.length cap, .int .i64 (p : Int), .int .i64 (d : Int), .int .i64 (M : Int)] (w.drewN q) fun e w' => ∃ c : Nat, e = .returned (.int .i64 (c : Int)) ∧ RunIs (zf zs) p d (min M (zs.length - p)) c ∧ ∃ q', w' = w.drewN q') := hide fun q d h1 h2 => by
    obtain ⟨b0, off0, rfl⟩ : ∃ b0 off0, a = some ⟨b0, off0, none⟩ := by
      obtain ⟨a', c', e, _, hs⟩ := hr
      injection e with e1 e2 e3
      obtain ⟨b', off', e, _⟩ := hs (by omega)
      exact ⟨b', off', by rw [e1]; exact e⟩
    refine (run_ok zs b0 off0 cap p d M (w.drewN q) B (hr.drewN q) hl hp h1 h2).mono ?_
    rintro e w' ⟨c, rfl, hc, q', rfl⟩
    exact ⟨c, rfl, hc, q + q', by rw [World.drewN_drewN]⟩
  obtain ⟨L, hL⟩ : ∃ L, L = zs.length := ⟨_, rfl⟩
  have HTX := hide hL
  rw [← hL] at hl hp HRUN ⊢
  obtain ⟨m0, hm0⟩ : ∃ m0, m0 = min M (L - p) := ⟨_, rfl⟩
  have hm0L : m0 ≤ L := by omega
  rw [← hm0] at HRUN
  have HM0 := hide hm0
  clear hm0 hr hL
  go_enter Try.func10, Try.ntmps10
  go_wp2_with fail
  go_loopg [10, 11, 12] (p + 1) (fun gk vn vd vj ws => ∃ (j n d q : Nat), gk = p + 1 - j ∧ j ≤ min p W ∧ n ≤ m0 ∧ vn = .int .i64 (n : Int) ∧ vd = .int .i64 (d : Int) ∧ vj = .int .i64 ((j + 1 : Nat) : Int) ∧ Hid (IsBest (zf zs) p j m0 n d) ∧ ws = w.drewN q)
  case atStart => exact ⟨0, 0, 0, 0, rfl, by omega, by omega, rfl, rfl, rfl, hide ⟨Nat.zero_le _, .inl ⟨rfl, rfl⟩, fun _ d' h1 h2 => by omega⟩, rfl⟩
  case round =>
    obtain ⟨j, n, d, q, rfl, hj, hn, rfl, rfl, rfl, HBE, rfl⟩ := hrel
    obtain ⟨bk, hbk⟩ : ∃ bk : Nat, bk = j + 1 := ⟨_, rfl⟩
    rw [← hbk]
    by_cases hc : bk ≤ W ∧ bk ≤ p
    · obtain ⟨hc1, hc2⟩ := hc
      have i1 : (bk : Int) ≤ (W : Int) := by omega
      have i2 : (bk : Int) ≤ (p : Int) := by omega
      have HRC := hide (unhide HRUN q bk (by omega) hc2)
      have HBK := hide hbk
      clear hbk
      go_wp2_with fail
      refine (unhide HRC).mono ?_
      rintro e w' ⟨c, rfl, hrun, q', rfl⟩
      rw [unhide HBK] at hrun
      have hst := best_step (unhide HBE) hrun
      have hcm := hrun.1
      clear HRC hrun HBE
      by_cases hnc : n < c
      · have i3 : (n : Int) < (c : Int) := by omega
        have HB2 := hide (hst.1 hnc)
        clear hst
        go_wp2_with fail
        go_roundg (p + 1 - (j + 1))
        case measure => have := unhide HBK; omega
        case rel => exact ⟨j + 1, c, j + 1, q', rfl, by have := unhide HBK; omega, hcm, rfl, by have := unhide HBK; congr 2, by have := unhide HBK; congr 1; omega, HB2, rfl⟩
      · have i3 : ¬ (n : Int) < (c : Int) := by omega
        have HB2 := hide (hst.2 hnc)
        clear hst
        go_wp2_with fail
        go_roundg (p + 1 - (j + 1))
        case measure => have := unhide HBK; omega
        case rel => exact ⟨j + 1, n, d, q', rfl, by have := unhide HBK; omega, hn, rfl, rfl, by have := unhide HBK; congr 1; omega, HB2, rfl⟩
    · have hcc : (¬ (bk : Int) ≤ (W : Int)) ∨ ((bk : Int) ≤ (W : Int) ∧ ¬ (bk : Int) ≤ (p : Int)) := by omega
      have hjm : j = min p W := by omega
      have HE : Hid (RMIs zs p W M w (.returned (.tuple #[.int .i64 (n : Int), .int .i64 (d : Int)])) (w.drewN q)) := hide ⟨n, d, rfl, by rw [← hjm, ← unhide HTX, ← unhide HM0]; exact unhide HBE, q, rfl⟩
      clear HBE hjm hc hbk
      rcases hcc with u1 | ⟨u1, u2⟩
      all_goals
        go_wp2_with fail
        go_ret2
        exact unhide HE

end Go.Proofs.Ytabnfnejlffioaa
