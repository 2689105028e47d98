/- LimitBest: the lengths are a full code's, not too long, and no other full code's lengths cost less. -/
import Derived.Test.YtdpbjeajipggbaaBestly
import Derived.Test.YtdpbjeajipggbaaMore
import Derived.Test.YtdpbjeajipggbaaSame
namespace Go.Proofs.Ytdpbjeajipggbaa
open Go.RowKit
set_option linter.unusedVariables false

attribute [local go_sem ↓] Go.wp_at_zero Go.wp_at_succ

theorem reads_four (w : World) (a b c d : Int) : ReadsI (w.alloc (.cells #[.int .i64 a, .int .i64 b, .int .i64 c, .int .i64 d] 3)) (.slice (some ⟨w.heap.size, 0, none⟩) 4 4) [a, b, c, d] := by
  refine ⟨_, 4, rfl, fun _ => ⟨w.heap.size, 0, rfl, fun j hj => ?_⟩⟩
  simp only [World.cell?, heap_alloc_new]
  match j, hj with
  | 0, _ => rfl
  | 1, _ => rfl
  | 2, _ => rfl
  | 3, _ => rfl

theorem probe_args : LArgs [1, 1, 2, 4] 3 := ⟨by decide, by decide, by decide, fun j hj => by
  match j, hj with
  | 0, _ => decide
  | 1, _ => decide
  | 2, _ => decide
  | 3, _ => decide⟩

theorem probe_lens (w : World) : Calls Try.prog 7 #[.slice (some ⟨w.heap.size, 0, none⟩) 4 4, .int .i64 3] (w.alloc (.cells #[.int .i64 1, .int .i64 1, .int .i64 2, .int .i64 4] 3)) fun e w' => ∃ g, e = .returned (.tuple #[.slice (some ⟨g, 0, none⟩) 4 4, .int .i64 0]) ∧ ReadsI w' (.slice (some ⟨g, 0, none⟩) 4 4) [3, 3, 2, 1] ∧ Below w.heap.size w w' := by
  refine (lens_ok [1, 1, 2, 4] 3 _ _ (reads_four w 1 1 2 4)).mono fun e w' ⟨v, x, he, hl, hb⟩ => ?_
  have hb2 : Below w.heap.size w w' := ((Below.refl _ _).alloc (Nat.le_refl _) _).trans (hb.mono (by simp))
  rcases hl with ⟨k1, _⟩ | ⟨_, k2, _⟩ | ⟨_, _, ⟨l, k3, k4⟩, _⟩ | ⟨_, _, rfl, l, g, k3, k4, rfl, k5, k6⟩
  · exact absurd probe_args k1
  · exact absurd k2 (by decide)
  · obtain rfl := k3.one probe_order
    exact absurd k4 (by decide)
  · obtain rfl := k3.one probe_order
    refine ⟨g, he, ?_, hb2⟩
    have := IntsAt.lens k6
    rw [show ([1, 1, 2, 4] : List Int).length = 4 from rfl, show (3 : Int).toNat = 3 from rfl, probe_ans] at this
    exact this

theorem probe_same (g : Nat) (w : World) (h : ReadsI w (.slice (some ⟨g, 0, none⟩) 4 4) [3, 3, 2, 1]) : Calls Try.prog 9 #[.slice (some ⟨g, 0, none⟩) 4 4, .slice (some ⟨w.heap.size, 0, none⟩) 4 4] (w.alloc (.cells #[.int .i64 3, .int .i64 3, .int .i64 2, .int .i64 1] 3)) fun e w' => e = .returned (.bool true) ∧ Below w.heap.size w w' := by
  refine (same_ok [3, 3, 2, 1] [3, 3, 2, 1] _ _ _ (h.stays ((Below.refl _ _).alloc (Nat.le_refl _) _)) (reads_four w 3 3 2 1) (by simp)).mono ?_
  rintro e w' ⟨⟨rfl, _⟩ | ⟨_, hc⟩, q, rfl⟩
  · exact ⟨rfl, below_drewN ((Below.refl _ _).alloc (Nat.le_refl _) _) q⟩
  · exact absurd rfl hc

theorem below_next {w ws ws' : World} (h : Below w.heap.size w ws) (h' : Below ws.heap.size ws ws') : Below w.heap.size w ws' := h.trans (h'.mono h.size)

theorem shl_nat {P c : Nat} (hP : P = 2 ^ c) (hb : P ≤ 1048576) : wrap64 ((2 : Int) ^ c) = (P : Int) := by
  have h2 : ((2 : Int) ^ c) = ((2 ^ c : Nat) : Int) := by simp
  rw [h2, ← hP, wrap64_eq]
  exact IntWalk.i64_in (P : Int) (by omega)

/-- the code, in memory -/
structure Coded (os : List Int) (most : Int) (l : List Nat) (M g : Nat) (w1 : World) : Prop where
  ord : IsOrder os l
  mst : most = (M : Int)
  m1 : 1 ≤ M
  m2 : M ≤ 20
  len : l.length ≤ 2 ^ M
  fit : tot os os.length ≤ 1099511627776
  nb : NoneBelow os
  sm : os.length ≤ 65536
  ia : IntsAt w1 .i64 3 g os.length (ans os l M)

theorem coded_cases {os : List Int} {most : Int} {a : Value} {e : Int} {lo : Nat} {w1 : World} (h1 : LensIs os most a e lo w1) :
    (a = .slice none 0 0 ∧ (e = 2 ∨ e = 3 ∨ e = 13)) ∨ (e = 0 ∧ ∃ l M g, a = .slice (some ⟨g, 0, none⟩) os.length os.length ∧ Coded os most l M g w1) := by
  rcases h1 with ⟨k1, rfl, rfl⟩ | ⟨k1, k2, rfl, rfl⟩ | ⟨k1, k2, k3, rfl, rfl⟩ | ⟨k1, k2, rfl, l, g, k3, k4, rfl, k5, k6⟩
  · exact .inl ⟨rfl, .inl rfl⟩
  · exact .inl ⟨rfl, .inr (.inl rfl)⟩
  · exact .inl ⟨rfl, .inr (.inr rfl)⟩
  · obtain ⟨M, rfl⟩ := Int.eq_ofNat_of_zero_le (show 0 ≤ most by have := k1.1; omega)
    rw [Int.toNat_natCast] at k4 k6
    have h3 := k1.1
    have h4 := k1.2.1
    exact .inr ⟨rfl, l, M, g, rfl, ⟨k3, rfl, by omega, by omega, k4, k2, k1.2.2.2, k1.2.2.1, k6⟩⟩

set_option maxRecDepth 100000 in
set_option maxHeartbeats 2000000 in
theorem best_walk (a b : Option Addr) (cap cb : Nat) (os ls : List Int) (most : Int) (w : World) (hr : ReadsN w a cap os) (hq : ReadsN w b cb ls) (hls : ls.length ≤ 140737488355328) :
    Calls Try.prog 5 #[.slice a os.length cap, .int .i64 most, .slice b ls.length cb] w fun e w' => e = .returned (.bool true) ∧ Below w.heap.size w w' := by
  have HR := hide hr.reads
  have HQ := hide hq.reads
  have HL1 := hide (lens_ok os most _ w hr.reads)
  clear hr hq
  obtain ⟨n, hn⟩ : ∃ n, n = os.length := ⟨_, rfl⟩
  rw [← hn] at HR HL1 ⊢
  have HN := hide hn
  clear hn
  obtain ⟨m, hm⟩ : ∃ m, m = ls.length := ⟨_, rfl⟩
  rw [← hm] at HQ hls ⊢
  have HM := hide hm
  clear hm
  go_enter Try.func5, Try.ntmps5
  go_upto_region 2 with (go_at_call 7; go_must (refine (unhide HL1).mono ?_; rintro e w1 ⟨va, ea, rfl, hA, hB1⟩; have HA := hide (coded_cases hA); have HB1 := hide hB1; clear hA hB1))
  clear HL1
  go_wp2_with fail
  refine (probe_lens w1).mono ?_
  rintro e w2 ⟨gp, rfl, hp, hb2⟩
  have HB2 := hide (below_next (unhide HB1) hb2)
  have HB12 := hide hb2
  have HP := hide (probe_same gp w2 hp)
  clear hb2 hp
  go_wp2_with fail
  refine (unhide HP).mono ?_
  rintro e wb ⟨rfl, hb3⟩
  have HB3 := hide (below_next (unhide HB2) hb3)
  have HB13 := hide ((unhide HB12).trans (hb3.mono (unhide HB12).size))
  clear hb3 HP
  have hA := unhide HA
  rw [← unhide HN] at hA
  clear HA
  rcases hA with ⟨rfl, rfl | rfl | rfl⟩ | ⟨rfl, l, M, g, rfl, hc⟩
  case inr =>
    obtain rfl := hc.mst
    have HRB := hide ((unhide HR).stays (unhide HB3))
    have HQB := hide ((unhide HQ).stays (unhide HB3))
    have HC := hide hc
    have hia := hc.ia.stays (unhide HB13) hc.ia.lt
    rw [← unhide HN] at hia
    have HIA := hide hia
    have hn6 : n ≤ 65536 := by rw [unhide HN]; exact hc.sm
    have hM2 : M ≤ 20 := hc.m2
    clear hia hc HR HQ HB12
    go_wp2_with fail
    go_loopg [11, 12, 13] n (fun gk c s d ws => ∃ (k q : Nat), gk = n - k ∧ k ≤ n ∧ c = .int .i64 ((raw os k).length : Int) ∧ s = .int .i64 (ksum (ans os l M) k : Int) ∧ d = .int .i64 (k : Int) ∧ ws = wb.drewN q)
    case atStart => exact ⟨0, 0, by omega, by omega, rfl, rfl, rfl, rfl⟩
    case round =>
      obtain ⟨k, q, rfl, hk, rfl, rfl, rfl, rfl⟩ := hrel
      have HRS := hide (raw_succ os k)
      have hrl : (raw os k).length ≤ k := raw_len os k
      obtain ⟨R, hR⟩ : ∃ R, R = (raw os k).length := ⟨_, rfl⟩
      obtain ⟨S, hS⟩ : ∃ S, S = ksum (ans os l M) k := ⟨_, rfl⟩
      have hSb : S ≤ 65536 * 1048576 := by rw [hS]; exact Nat.le_trans (ksum_le _ k) (Nat.mul_le_mul_right _ (by omega))
      rw [← hR] at hrl ⊢
      rw [← hS]
      have HRR := hide hR
      have HSS := hide hS
      clear hR hS
      by_cases hlt : k < n
      · obtain ⟨a', cap', e, hs⟩ := unhide HRB
        injection e with e1 e2 e3
        subst e1 e3
        obtain ⟨b0, off, rfl, hcell⟩ := hs (by rw [← unhide HN]; omega)
        have k2 := hcell k (by rw [← unhide HN]; omega)
        have hz := (unhide HC).nb k (by rw [← unhide HN]; omega)
        obtain ⟨z, hzz⟩ := Int.eq_ofNat_of_zero_le hz
        have hw : wt os k = z := by unfold wt; rw [hzz, Int.toNat_natCast]
        rw [hzz] at k2
        have k1 := (unhide HIA).cell k hlt
        have hiff := ans_iff (unhide HC).ord (unhide HC).m1 (unhide HC).len k (by rw [← unhide HN]; omega)
        have hcM := ans_le (unhide HC).ord (unhide HC).m1 (unhide HC).len k
        have HKS : Hid (ksum (ans os l M) (k + 1) = S + (if 0 < ans os l M k then 2 ^ (20 - ans os l M k) else 0)) := hide (by rw [ksum, unhide HSS])
        obtain ⟨c, hcc⟩ : ∃ c, c = ans os l M k := ⟨_, rfl⟩
        rw [← hcc] at k1 hiff hcM HKS
        rw [hw] at hiff
        have HW := hide hw
        have hki : (k : Int) < (n : Int) := by omega
        have hc0 : ¬ (c : Int) < 0 := by omega
        have hcm : ¬ (M : Int) < (c : Int) := by omega
        clear hcell hz hzz hw hcc hs e2
        by_cases h0 : 0 < c
        · have hzp := hiff.1 h0
          have hci : (0 : Int) < (c : Int) := by omega
          have hzi : (0 : Int) < (z : Int) := by omega
          obtain ⟨P, hP⟩ : ∃ P, P = 2 ^ (20 - c) := ⟨_, rfl⟩
          have hPb : P ≤ 1048576 := by rw [hP]; exact Nat.pow_le_pow_right (show 0 < 2 by decide) (show 20 - c ≤ 20 by omega)
          have hsh := shl_nat hP hPb
          have HKS2 : Hid (ksum (ans os l M) (k + 1) = S + P) := hide (by rw [unhide HKS, if_pos h0, hP])
          have HR2 : Hid ((raw os (k + 1)).length = R + 1) := hide (by rw [unhide HRS, if_pos (by rw [unhide HW]; exact hzp), List.length_append, unhide HRR]; rfl)
          have HP := hide hP
          clear hiff HKS hP
          go_wp2_with fail
          go_quiet (fail)
          go_wp2_with fail
          go_roundg (n - (k + 1))
          case measure => omega
          case rel => exact ⟨k + 1, q + nq, rfl, by omega, by rw [unhide HR2]; go_num, by rw [unhide HKS2]; go_num, by go_num, by first | rfl | (rw [World.drewN_drewN])⟩
        · have hzp : ¬ 0 < z := fun h => h0 (hiff.2 h)
          have hci : ¬ (0 : Int) < (c : Int) := by omega
          have hzi : ¬ (0 : Int) < (z : Int) := by omega
          have HKS2 : Hid (ksum (ans os l M) (k + 1) = S) := hide (by rw [unhide HKS, if_neg h0]; rfl)
          have HR2 : Hid ((raw os (k + 1)).length = R) := hide (by rw [unhide HRS, if_neg (by rw [unhide HW]; exact hzp), unhide HRR])
          clear hiff HKS
          go_wp2_with fail
          go_quiet (fail)
          go_wp2_with fail
          go_roundg (n - (k + 1))
          case measure => omega
          case rel => exact ⟨k + 1, q + nq, rfl, by omega, by rw [unhide HR2], by rw [unhide HKS2], by go_num, by first | rfl | (rw [World.drewN_drewN])⟩
      · obtain rfl : k = n := by omega
        have hll : R = l.length := by rw [unhide HRR, unhide HN]; exact (raw_perm (unhide HC).ord).length_eq.symm
        have HLL := hide hll
        have HB4 : Hid (Below w.heap.size w (wb.drewN q)) := hide (below_drewN (unhide HB3) q)
        have HIA2 : Hid (IntsAt (wb.drewN q) .i64 3 g k (ans os l M)) := hide (unhide HIA)
        have HRB2 : Hid (ReadsI (wb.drewN q) (.slice a k cap) os) := hide (unhide HRB)
        have HQB2 : Hid (ReadsI (wb.drewN q) (.slice b m cb) ls) := hide (unhide HQB)
        obtain ⟨wc, hwc⟩ : ∃ wc, wc = wb.drewN q := ⟨_, rfl⟩
        rw [← hwc] at HB4 HIA2 HRB2 HQB2 ⊢
        clear HRB HQB HIA HB3 hwc hll
        by_cases h2 : 2 ≤ R
        · obtain rfl : S = 1048576 := by rw [unhide HSS, unhide HN]; exact ksum_full (unhide HC).ord (unhide HC).m1 (unhide HC).m2 (unhide HC).len (by rw [← unhide HLL]; exact h2)
          have h2i : (2 : Int) ≤ (R : Int) := by omega
          have h2j : ¬ (R : Int) < 2 := by omega
          by_cases hmn : m = k
          · subst hmn
            have e0 : ((m : Int) != (m : Int)) = false := by simp
            go_wp2_with fail
            go_loopg [14, 15] m (fun gk s d ws => ∃ (k : Nat), gk = m - k ∧ k ≤ m ∧ Hid (∀ j, j < k → 0 ≤ ls.getD j 0 ∧ ls.getD j 0 ≤ (M : Int) ∧ (0 < wt os j → 0 < ls.getD j 0)) ∧ s = .int .i64 (ksum (fun i => (ls.getD i 0).toNat) k : Int) ∧ d = .int .i64 (k : Int) ∧ ws = wc)
            case atStart => exact ⟨0, by omega, by omega, hide fun j h => by omega, rfl, rfl, rfl⟩
            case round =>
              obtain ⟨k, rfl, hk, hgood, rfl, rfl, rfl⟩ := hrel
              obtain ⟨S, hS⟩ : ∃ S, S = ksum (fun i => (ls.getD i 0).toNat) k := ⟨_, rfl⟩
              have hSb : S ≤ 65536 * 1048576 := by rw [hS]; exact Nat.le_trans (ksum_le _ k) (Nat.mul_le_mul_right _ (by omega))
              rw [← hS]
              have HSS2 := hide hS
              clear hS
              by_cases hlt : k < m
              · obtain ⟨a', cap', e, hs⟩ := unhide HRB2
                injection e with e1 e2 e3
                subst e1 e3
                obtain ⟨b0, off, rfl, hcell⟩ := hs (by rw [← unhide HN]; omega)
                have k2 := hcell k (by rw [← unhide HN]; omega)
                have hz := (unhide HC).nb k (by rw [← unhide HN]; omega)
                obtain ⟨z, hzz⟩ := Int.eq_ofNat_of_zero_le hz
                have hw : wt os k = z := by unfold wt; rw [hzz, Int.toNat_natCast]
                rw [hzz] at k2
                clear hcell e2 hs hz hzz
                obtain ⟨a', cap', e, hs⟩ := unhide HQB2
                injection e with e1 e2 e3
                subst e1 e3
                obtain ⟨b1, off1, rfl, hcell⟩ := hs (by rw [← unhide HM]; omega)
                have k1 := hcell k (by rw [← unhide HM]; omega)
                clear hcell e2 hs
                obtain ⟨x, hx⟩ : ∃ x, x = ls.getD k 0 := ⟨_, rfl⟩
                rw [← hx] at k1
                have hki : (k : Int) < (m : Int) := by omega
                have HX := hide hx
                have HW := hide hw
                clear hx hw
                by_cases hx0 : x < 0
                · go_wp2_with fail
                  go_ret
                  exact ⟨rfl, unhide HB4⟩
                · by_cases hxM : (M : Int) < x
                  · go_wp2_with fail
                    go_ret
                    exact ⟨rfl, unhide HB4⟩
                  · obtain ⟨c, hcc⟩ := Int.eq_ofNat_of_zero_le (show 0 ≤ x by omega)
                    subst hcc
                    have HKS : Hid (ksum (fun i => (ls.getD i 0).toNat) (k + 1) = S + (if 0 < c then 2 ^ (20 - c) else 0)) := hide (by rw [ksum, unhide HSS2, ← unhide HX]; rfl)
                    by_cases h0 : 0 < c
                    · have e0 : ((c : Int) == 0) = false := by simp; omega
                      have hci : (0 : Int) < (c : Int) := by omega
                      have HG : Hid (∀ j, j < k + 1 → 0 ≤ ls.getD j 0 ∧ ls.getD j 0 ≤ (M : Int) ∧ (0 < wt os j → 0 < ls.getD j 0)) := hide fun j hj => by
                        by_cases e : j = k
                        · rw [e, ← unhide HX]; exact ⟨by omega, by omega, fun _ => hci⟩
                        · exact unhide hgood j (by omega)
                      obtain ⟨P, hP⟩ : ∃ P, P = 2 ^ (20 - c) := ⟨_, rfl⟩
                      have hPb : P ≤ 1048576 := by rw [hP]; exact Nat.pow_le_pow_right (show 0 < 2 by decide) (show 20 - c ≤ 20 by omega)
                      have hsh := shl_nat hP hPb
                      have HKS2 : Hid (ksum (fun i => (ls.getD i 0).toNat) (k + 1) = S + P) := hide (by rw [unhide HKS, if_pos h0, hP])
                      have HP := hide hP
                      clear HKS hP hgood
                      go_wp2_with fail
                      go_roundg (m - (k + 1))
                      case measure => omega
                      case rel => exact ⟨k + 1, rfl, by omega, HG, by rw [unhide HKS2]; go_num, by go_num, rfl⟩
                    · obtain rfl : c = 0 := by omega
                      by_cases hzp : (0 : Int) < (z : Int)
                      · go_wp2_with fail
                        go_ret
                        exact ⟨rfl, unhide HB4⟩
                      · have HG : Hid (∀ j, j < k + 1 → 0 ≤ ls.getD j 0 ∧ ls.getD j 0 ≤ (M : Int) ∧ (0 < wt os j → 0 < ls.getD j 0)) := hide fun j hj => by
                          by_cases e : j = k
                          · rw [e, ← unhide HX]; exact ⟨by omega, by omega, fun h => by rw [unhide HW] at h; omega⟩
                          · exact unhide hgood j (by omega)
                        have HKS2 : Hid (ksum (fun i => (ls.getD i 0).toNat) (k + 1) = S) := hide (by rw [unhide HKS, if_neg h0]; rfl)
                        clear HKS hgood
                        go_wp2_with fail
                        go_roundg (m - (k + 1))
                        case measure => omega
                        case rel => exact ⟨k + 1, rfl, by omega, HG, by rw [unhide HKS2], by go_num, rfl⟩
              · obtain rfl : k = m := by omega
                have hg := unhide hgood
                rw [unhide HM] at hg
                have hob := other_best (unhide HC).ord (unhide HC).m1 (unhide HC).m2 (unhide HC).len (by rw [← unhide HLL]; exact h2) (unhide HC).fit ls (by rw [← unhide HM, ← unhide HN]) (fun j hj => (hg j hj).1) (fun j hj => (hg j hj).2.1) (fun j hj => (hg j hj).2.2)
                have HCA : Hid (Calls Try.prog 11 #[.slice a k cap, .slice (some ⟨g, 0, none⟩) k k] wr fun e w' => e = .returned (.tuple #[.int .i64 (acc os (lensL (ans os l M) os.length) os.length : Nat), .int .i64 0]) ∧ w' = wr) := hide (by
                  have := Pair.cost (most := (M : Int)) (unhide HC).ord (unhide HC).m1 (unhide HC).m2 (unhide HC).len (unhide HC).fit (unhide HC).nb (unhide HC).sm (unhide HRB2) (by rw [← unhide HN]; exact unhide HIA2)
                  rw [← unhide HN] at this ⊢
                  exact this)
                have HCB : Hid (Calls Try.prog 11 #[.slice a k cap, .slice b k cb] wr fun e w' => e = .returned (.tuple #[.int .i64 (acc os ls os.length : Nat), .int .i64 0]) ∧ w' = wr) := hide (by
                  refine (cost_ok os ls _ _ _ (unhide HRB2) (unhide HQB2) (by rw [← unhide HN]; omega) (by rw [← unhide HM]; omega)).mono fun e w' ⟨x, y, he, hc, hw⟩ => ⟨?_, hw⟩
                  obtain ⟨rfl, rfl⟩ := hc.one (.inr (.inr ⟨⟨by rw [← unhide HM, ← unhide HN], (unhide HC).nb, fun j hj => (hg j hj).1⟩, hob.1, rfl, rfl⟩))
                  exact he)
                have hle := hob.2
                rw [← unhide HN, ← unhide HSS2, unhide HN] at hle
                obtain ⟨x, hx⟩ : ∃ x, x = acc os (lensL (ans os l M) os.length) os.length := ⟨_, rfl⟩
                obtain ⟨y, hy⟩ : ∃ y, y = acc os ls os.length := ⟨_, rfl⟩
                rw [← hx] at HCA hle
                rw [← hy] at HCB hle
                clear hx hy hob hg hgood
                go_upto_region 30 with (go_at_call 11; go_must (refine (unhide HCA).mono ?_; rintro e w' ⟨rfl, hww⟩; replace hww := hww.symm; subst hww))
                clear HCA
                by_cases hf : (1048576 : Int) < (S : Int)
                · go_wp2_with (go_at_call 11; go_must (refine (unhide HCB).mono ?_; rintro e w' ⟨rfl, hww⟩; replace hww := hww.symm; subst hww))
                  go_ret
                  exact ⟨rfl, unhide HB4⟩
                · have hle2 : (x : Int) ≤ (y : Int) := by have := hle (by omega); omega
                  clear hle
                  go_wp2_with (go_at_call 11; go_must (refine (unhide HCB).mono ?_; rintro e w' ⟨rfl, hww⟩; replace hww := hww.symm; subst hww))
                  go_ret
                  exact ⟨rfl, unhide HB4⟩
          · have e0 : ((m : Int) != (k : Int)) = true := by simp; omega
            go_wp2_with fail
            go_ret
            exact ⟨rfl, unhide HB4⟩
        · have h2i : ¬ (2 : Int) ≤ (R : Int) := by omega
          have h2j : (R : Int) < 2 := by omega
          go_wp2_with fail
          go_ret
          exact ⟨rfl, unhide HB4⟩
  all_goals go_wp2_with fail
  all_goals go_ret
  all_goals exact ⟨rfl, unhide HB3⟩

end Go.Proofs.Ytdpbjeajipggbaa
