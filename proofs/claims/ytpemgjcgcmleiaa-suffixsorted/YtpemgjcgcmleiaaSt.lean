/- sortTurnings: the places of a text's turnings, sorted. -/
import Derived.Test.YtpemgjcgcmleiaaBg
import Derived.Test.YtpemgjcgcmleiaaRf
namespace Go.Proofs.Ytpemgjcgcmleiaa
open Go.RowKit Suf Go.Sort
set_option maxRecDepth 100000
set_option linter.unusedVariables false
attribute [local go_sem ↓] Go.wp_at_zero Go.wp_at_succ

structure RSb (tb pg pb n q1 q2 : Nat) (x : World) : Prop where
  p : x.cell? ⟨tb, 0, none⟩ = some (.slice (some ⟨pg, 0, none⟩) n n)
  a : x.cell? ⟨pb, 0, none⟩ = some (.int .i64 (q1 : Int))
  c : x.cell? ⟨pb, 1, none⟩ = some (.int .i64 (q2 : Int))

theorem RSb.kp {tb pg pb n q1 q2 : Nat} {x y : World} (h : RSb tb pg pb n q1 q2 x) (hk : Kp (fun k => k = pg) x y) (h2 : tb ≠ pg) (h3 : pb ≠ pg) : RSb tb pg pb n q1 q2 y :=
  ⟨hk.cell h.p h2, hk.cell h.a h3, hk.cell h.c h3⟩

set_option maxHeartbeats 8000000 in
theorem sortT_ok (b : List Nat) (a0 : Option Addr) (cap : Nat) (w : World) (hc : BytesIn w a0 b) (hb : ∀ z ∈ b, z < 256) (hn : b.length ≤ 1048576) :
    Calls Try.prog 18 #[.slice a0 b.length cap] w fun e w' => ∃ g l, e = .returned (.slice (some ⟨g, 0, none⟩) b.length b.length) ∧ w.heap.size ≤ g ∧ IsRows b l ∧ IntsAt w' .i64 3 g b.length (fun i => l.getD i 0) ∧ Below w.heap.size w w' := by
  have HBG := hide (begin_ok b a0 cap w hc hb hn)
  obtain ⟨n, hN⟩ : ∃ n, n = b.length := ⟨_, rfl⟩
  have HNN := hide hN
  rw [← hN] at hn HBG ⊢
  clear hN hc hb
  go_enter Try.func18, Try.ntmps18
  go_wp2_with fail
  refine (unhide HBG).mono ?_
  clear HBG
  rintro e w1 ⟨tb, pg, rg, p, R, vo, vp, G, ps, rfl, hT, hG, hB⟩
  obtain ⟨H, hHH⟩ : ∃ H, H = w.heap.size := ⟨_, rfl⟩
  have HHH := hide hHH
  rw [← hHH] at hT hB
  have HT0 := hide hT
  have HG0 := hide hG
  have HB0 := hide hB
  clear hT hG hB hHH
  go_wp2_with fail
  go_loopg [4] (n - 4) (fun gk d ws => ∃ (h : Nat) (p1 R1 : Nat → Nat) (vo1 vp1 : Value) (G1 ps1 : List (Nat × Nat)), gk = n - h ∧ 4 ≤ h ∧ h ≤ 2097152 ∧ d = .int .i64 (h : Int) ∧ Hid (TAt H ws tb pg rg n p1 R1 vo1 vp1 G1 ps1) ∧ Hid (Grps b h p1 R1 G1 []) ∧ Hid (Below H w ws))
  case atStart => exact ⟨4, p, R, vo, vp, G, ps, rfl, by omega, by omega, rfl, HT0, HG0, HB0⟩
  case round =>
    clear HT0 HG0 HB0
    obtain ⟨h, p1, R1, vo1, vp1, G1, ps1, rfl, h4, hh2, rfl, HTR, HG1, HBR⟩ := hrel
    rename World => wr
    by_cases hlt : h < n
    · have tl : (h : Int) < (n : Int) := by omega
      have HRF : Hid (Calls Try.prog 24 #[.pointer (some ⟨tb, 0, none⟩), .int .i64 (h : Int)] wr fun e w' => RoundIs H wr tb pg rg b h R1 e w') := hide (refine_ok H wr tb pg rg b h p1 R1 vo1 vp1 G1 ps1 (by rw [← unhide HNN]; exact unhide HTR) (unhide HG1) (by omega) (by rw [← unhide HNN]; exact hlt) (by rw [← unhide HNN]; exact hn))
      go_wp2_with fail
      refine (unhide HRF).mono ?_
      clear HRF
      rintro e x1 ⟨p2, R2, vo2, vp2, G2, ps2, pt, rfl, hT2, hM2, hK2⟩
      rw [← unhide HNN] at hT2
      have hbs : H ≤ wr.heap.size := by have := (unhide HBR).size; rw [← unhide HHH] at this; exact this
      have HB2 : Hid (Below H w x1) := hide (hK2.below (unhide HBR) (fun k hk => hk) hbs)
      have HT2 := hide hT2
      have HM2 := hide hM2
      clear hT2 hM2 hK2 hbs HTR HG1 HBR
      cases pt with
      | true =>
        go_wp2_with fail
        go_roundg (n - (h * 2))
        case measure => omega
        case rel => exact ⟨h * 2, p2, R2, vo2, vp2, G2, ps2, rfl, by omega, by omega, by go_num, HT2, hide (by have := (unhide HM2).done; rw [show h + h = h * 2 by omega] at this; exact this), HB2⟩
      | false =>
        have HFR : Hid (Fin' b p2 R2 G2 []) := hide (Fin'.of (unhide HM2).done fun i k hi hk e => (unhide HM2).like (by omega) i k hi hk e)
        clear HM2
        have HTR := HT2
        have HBR := HB2
        clear HT2 HB2
        obtain ⟨va, vc, rfl, _⟩ := own_group (unhide HTR).op
        have c2 := (unhide HTR).c2
        have hgl : G2.length ≤ 1048576 := by
          obtain ⟨h', hg'⟩ := (unhide HFR).grps
          have := groups_le hg'
          rw [List.append_nil, ← unhide HNN] at this
          omega
        go_wp2_with fail
        clear c2
        go_loopg [24] G2.length (fun gk iv' ws => ∃ (i : Nat) (p' : Nat → Nat), gk = G2.length - i ∧ i ≤ G2.length ∧ iv' = .int .i64 (i : Int) ∧ Hid (TAt H ws tb pg rg n p' R2 (.slice va G2.length vc) vp2 G2 ps2) ∧ Hid (Fin' b p' R2 (G2.drop i) (G2.take i)) ∧ Hid (Below H w ws))
        case atStart => exact ⟨0, p2, rfl, by omega, rfl, HTR, hide (unhide HFR), HBR⟩
        case round =>
          clear HTR HFR HBR
          obtain ⟨i, p', rfl, hi, rfl, HT1, HF1, HB1⟩ := hrel
          rename World => wk
          by_cases hil : i < G2.length
          · have ti : (i : Int) < (G2.length : Int) := by omega
            obtain ⟨a', c', e, hgr⟩ := own_group (unhide HT1).op
            injection e with e1 e2 e3
            subst e1 e3
            obtain ⟨gO, rfl, hgo2, d1, d2⟩ := hgr i hil
            rw [Nat.mul_comm] at d1 d2
            obtain ⟨q, hq⟩ : ∃ q, q = G2.getD i (0, 0) := ⟨_, rfl⟩
            rw [← hq] at d1 d2
            have hF := unhide HF1
            rw [drop_head hil, ← hq] at hF
            obtain ⟨h', hg'⟩ := hF.grps
            have hgq := hg'.grp q (by simp)
            have HINJ : Hid (∀ r s, r < n → s < n → p' r = p' s → r = s) := hide (by rw [unhide HNN]; exact hg'.good.inj)
            rw [← unhide HNN] at hgq
            have HF2 := hide hF
            have HQ := hide hq
            clear hgr hq hF HF1 hg'
            obtain ⟨q1, q2⟩ := q
            have hq12 : q1 < q2 := hgq.1
            have hq2n : q2 ≤ n := hgq.2.1
            clear hgq
            dsimp only at d1 d2
            have z0 : (wk.alloc (.cells #[.int .i64 0, .int .i64 0] 56)).cell? ⟨wk.heap.size, 0, none⟩ = some (.int .i64 0) := by simp only [World.cell?, heap_alloc_new]; rfl
            have z1 : (wk.alloc (.cells #[.int .i64 0, .int .i64 0] 56)).cell? ⟨wk.heap.size, 1, none⟩ = some (.int .i64 0) := by simp only [World.cell?, heap_alloc_new]; rfl
            have z2 : ∀ o, (wk.alloc (.cells #[.int .i64 0, .int .i64 0] 56)).frozen? ⟨wk.heap.size, o, none⟩ = false := fun o => by simp only [World.frozen?, heap_alloc_new]; simp
            go_upto_region 9 with fail
            obtain ⟨pb, hpb⟩ : ∃ pb, pb = wk.heap.size := ⟨_, rfl⟩
            obtain ⟨W3, hW3⟩ : ∃ W3, W3 = wk.alloc (.cells #[.int .i64 (q1 : Int), .int .i64 (q2 : Int)] 56) := ⟨_, rfl⟩
            have HT3 : Hid (TAt H W3 tb pg rg n p' R2 (.slice (some ⟨gO, 0, none⟩) G2.length vc) vp2 G2 ps2) := hide (by rw [hW3]; exact (unhide HT1).alloc _)
            have hp3 : W3.heap[pb]? = some (.cells #[.int .i64 (q1 : Int), .int .i64 (q2 : Int)] 56 (0, 0)) := by rw [hW3, hpb]; exact heap_alloc_new _ _
            have HB3 : Hid (Below H w W3) := hide (by rw [hW3]; exact (unhide HB1).alloc (by have := (unhide HB1).size; rw [← unhide HHH] at this; exact this) _)
            have HRS : Hid (RSb tb pg pb n q1 q2 W3) := hide ⟨(unhide HT3).c0, by simp [World.cell?, hp3], by simp [World.cell?, hp3]⟩
            have HPBP : Hid (pb ≠ pg) := hide (by have := (unhide HT1).pl.lt; omega)
            rw [← hW3, ← hpb]
            clear hW3 hpb z0 z1 z2 d1 d2 HT1 HB1 hp3 hgo2
            have b1 : (q1 : Int) ≤ (q2 : Int) := by omega
            have b2 : (q2 : Int) ≤ (n : Int) := by omega
            have b3 : ¬ n = q1 := by omega
            have b4 : (q1 : Int) ≤ (n : Int) := by omega
            have b5 : q1 ≤ q2 := by omega
            have b6 : q2 ≤ n := by omega
            refine wp_region_noPanic ?_
            refine wp_region_held_drew (S := RSb tb pg pb n q1 q2) (by kernel_rfl) ⟨(unhide HRS).p, (unhide HRS).a, (unhide HRS).c⟩ (fun hHeld => ?_)
            obtain ⟨x1, hx1⟩ : ∃ x1, x1 = W3.drew := ⟨_, rfl⟩
            show wpAnyH _ _ _ _ _ _ _ _ W3.drew
            rw [← hx1] at hHeld ⊢
            have HTX1 : Hid (TAt H x1 tb pg rg n p' R2 (.slice (some ⟨gO, 0, none⟩) G2.length vc) vp2 G2 ps2) := hide (by rw [hx1]; exact (unhide HT3).drewN 1)
            have HBX1 : Hid (Below H w x1) := hide (by rw [hx1]; exact drewN_below (unhide HB3) 1)
            clear hx1 HT3 HB3 HRS
            refine held_take 0 28 rfl rfl (by kernel_rfl) (by kernel_rfl) (by kernel_rfl) (by rfl) hHeld noPanic_panic (v := ?_) (fun x hSx => ?_) ?_
            rotate_left 1
            · go_simp <;> with_reducible rfl
            simp only [List.set_cons_zero, List.set_cons_succ]
            refine held_take 1 29 rfl rfl (by kernel_rfl) (by kernel_rfl) (by kernel_rfl) (by rfl) hHeld noPanic_panic (v := ?_) (fun x hSx => ?_) ?_
            rotate_left 1
            · go_simp <;> with_reducible rfl
            simp only [List.set_cons_zero, List.set_cons_succ]
            refine held_take 2 30 rfl rfl (by kernel_rfl) (by kernel_rfl) (by kernel_rfl) (by rfl) hHeld noPanic_panic (v := ?_) (fun x hSx => ?_) ?_
            rotate_left 1
            · go_simp <;> with_reducible rfl
            simp only [List.set_cons_zero, List.set_cons_succ]
            refine held_take 3 31 rfl rfl (by kernel_rfl) (by kernel_rfl) (by kernel_rfl) (by rfl) hHeld noPanic_panic (v := ?_) (fun x hSx => ?_) ?_
            rotate_left 1
            · have q0 := hSx.p; clear hSx; go_simp <;> with_reducible rfl
            simp only [List.set_cons_zero, List.set_cons_succ]
            refine held_take 4 32 rfl rfl (by kernel_rfl) (by kernel_rfl) (by kernel_rfl) (by rfl) hHeld noPanic_panic (v := ?_) (fun x hSx => ?_) ?_
            rotate_left 1
            · go_simp <;> with_reducible rfl
            simp only [List.set_cons_zero, List.set_cons_succ]
            refine held_take 5 33 rfl rfl (by kernel_rfl) (by kernel_rfl) (by kernel_rfl) (by rfl) hHeld noPanic_panic (v := ?_) (fun x hSx => ?_) ?_
            rotate_left 1
            · have q0 := hSx.a; clear hSx; go_simp <;> with_reducible rfl
            simp only [List.set_cons_zero, List.set_cons_succ]
            refine held_take 6 34 rfl rfl (by kernel_rfl) (by kernel_rfl) (by kernel_rfl) (by rfl) hHeld noPanic_panic (v := ?_) (fun x hSx => ?_) ?_
            rotate_left 1
            · go_simp <;> with_reducible rfl
            simp only [List.set_cons_zero, List.set_cons_succ]
            refine held_take 7 35 rfl rfl (by kernel_rfl) (by kernel_rfl) (by kernel_rfl) (by rfl) hHeld noPanic_panic (v := ?_) (fun x hSx => ?_) ?_
            rotate_left 1
            · have q0 := hSx.c; clear hSx; go_simp <;> with_reducible rfl
            simp only [List.set_cons_zero, List.set_cons_succ]
            refine held_take 8 36 rfl rfl (by kernel_rfl) (by kernel_rfl) (by kernel_rfl) (by rfl) hHeld noPanic_panic (v := ?_) (fun x hSx => ?_) ?_
            rotate_left 1
            · go_simp <;> with_reducible rfl
            simp only [List.set_cons_zero, List.set_cons_succ]
            refine held_enter 9 37 (by kernel_rfl) rfl rfl (by rfl) (by go_simp <;> exact ⟨rfl, rfl⟩) ?_
            refine (sorti_ok x1 pg n p' q1 q2 (n - q1) (unhide HTX1).pl hq12 hq2n hn (unhide HINJ)).mono ?_
            rintro e x2 ⟨rfl, p3, hpm, hlt2, hpl2, hkp2⟩
            refine ⟨_, rfl, hHeld.kp hkp2 (unhide HTX1).tp (unhide HPBP), ?_⟩
            simp only [List.set_cons_zero, List.set_cons_succ]
            refine wpAnyH_done (by kernel_rfl) ?_ _
            refine NoPanic.normal ?_
            have HT5 : Hid (TAt H x2 tb pg rg n p3 R2 (.slice (some ⟨gO, 0, none⟩) G2.length vc) vp2 G2 ps2) := hide ⟨by rw [hkp2.keep _ (heap_lt (unhide HTX1).blk) (unhide HTX1).tp]; exact (unhide HTX1).blk, hpl2, (unhide HTX1).rk.of (hkp2.keep _ (unhide HTX1).rk.lt (unhide HTX1).d1.symm), own_kp (unhide HTX1).op hkp2 (fun k hk e => (unhide HTX1).vo_t.2.1 (by rw [hk, e])), own_kp (unhide HTX1).pc hkp2 (fun k hk e => (unhide HTX1).vp_t.2.1 (by rw [hk, e])), (unhide HTX1).d1, (unhide HTX1).d2, (unhide HTX1).ht⟩
            have HB5 : Hid (Below H w x2) := hide (hkp2.below (unhide HBX1) (fun k e => by rw [e]; exact (unhide HTX1).ht.2.1) (by have := (unhide HBX1).size; rw [← unhide HHH] at this; exact this))
            have HF5 : Hid (Fin' b p3 R2 (G2.drop (i + 1)) (G2.take (i + 1))) := hide (by have h1 := hpm; rw [unhide HNN] at h1; rw [take_snoc hil (unhide HQ)]; exact (unhide HF2).step h1 hlt2)
            clear hHeld hpm hlt2 hpl2 hkp2 HTX1 HBX1
            go_wp2_with fail
            go_roundg (G2.length - (i + 1))
            case measure => omega
            case rel => exact ⟨i + 1, p3, rfl, by omega, by go_num, HT5, HF5, HB5⟩
          · obtain rfl : i = G2.length := by omega
            have ti : ¬ (G2.length : Int) < (G2.length : Int) := by omega
            have c0 := (unhide HT1).c0
            go_wp2_with fail
            go_ret
            have hF := unhide HF1
            rw [List.drop_length] at hF
            rw [← unhide HHH]
            refine ⟨pg, rfl, (unhide HT1).ht.2.1, (List.range n).map p', by rw [unhide HNN]; exact hF.rows, (unhide HT1).pl.congr fun r hr => ?_, unhide HB1⟩
            rw [List.getElem?_map, List.getElem?_range hr]
            rfl
    · have tl : ¬ (h : Int) < (n : Int) := by omega
      have HFR : Hid (Fin' b p1 R1 G1 []) := hide (Fin'.of (unhide HG1) fun i k hi hk e => ((unhide HG1).good.eq i k hi hk e).rot (by rw [← unhide HNN]; omega))
      clear HG1
      obtain ⟨va, vc, rfl, _⟩ := own_group (unhide HTR).op
      have c2 := (unhide HTR).c2
      have hgl : G1.length ≤ 1048576 := by
        obtain ⟨h', hg'⟩ := (unhide HFR).grps
        have := groups_le hg'
        rw [List.append_nil, ← unhide HNN] at this
        omega
      go_wp2_with fail
      clear c2
      go_loopg [24] G1.length (fun gk iv' ws => ∃ (i : Nat) (p' : Nat → Nat), gk = G1.length - i ∧ i ≤ G1.length ∧ iv' = .int .i64 (i : Int) ∧ Hid (TAt H ws tb pg rg n p' R1 (.slice va G1.length vc) vp1 G1 ps1) ∧ Hid (Fin' b p' R1 (G1.drop i) (G1.take i)) ∧ Hid (Below H w ws))
      case atStart => exact ⟨0, p1, rfl, by omega, rfl, HTR, hide (unhide HFR), HBR⟩
      case round =>
        clear HTR HFR HBR
        obtain ⟨i, p', rfl, hi, rfl, HT1, HF1, HB1⟩ := hrel
        rename World => wk
        by_cases hil : i < G1.length
        · have ti : (i : Int) < (G1.length : Int) := by omega
          obtain ⟨a', c', e, hgr⟩ := own_group (unhide HT1).op
          injection e with e1 e2 e3
          subst e1 e3
          obtain ⟨gO, rfl, hgo2, d1, d2⟩ := hgr i hil
          rw [Nat.mul_comm] at d1 d2
          obtain ⟨q, hq⟩ : ∃ q, q = G1.getD i (0, 0) := ⟨_, rfl⟩
          rw [← hq] at d1 d2
          have hF := unhide HF1
          rw [drop_head hil, ← hq] at hF
          obtain ⟨h', hg'⟩ := hF.grps
          have hgq := hg'.grp q (by simp)
          have HINJ : Hid (∀ r s, r < n → s < n → p' r = p' s → r = s) := hide (by rw [unhide HNN]; exact hg'.good.inj)
          rw [← unhide HNN] at hgq
          have HF2 := hide hF
          have HQ := hide hq
          clear hgr hq hF HF1 hg'
          obtain ⟨q1, q2⟩ := q
          have hq12 : q1 < q2 := hgq.1
          have hq2n : q2 ≤ n := hgq.2.1
          clear hgq
          dsimp only at d1 d2
          have z0 : (wk.alloc (.cells #[.int .i64 0, .int .i64 0] 56)).cell? ⟨wk.heap.size, 0, none⟩ = some (.int .i64 0) := by simp only [World.cell?, heap_alloc_new]; rfl
          have z1 : (wk.alloc (.cells #[.int .i64 0, .int .i64 0] 56)).cell? ⟨wk.heap.size, 1, none⟩ = some (.int .i64 0) := by simp only [World.cell?, heap_alloc_new]; rfl
          have z2 : ∀ o, (wk.alloc (.cells #[.int .i64 0, .int .i64 0] 56)).frozen? ⟨wk.heap.size, o, none⟩ = false := fun o => by simp only [World.frozen?, heap_alloc_new]; simp
          go_upto_region 9 with fail
          obtain ⟨pb, hpb⟩ : ∃ pb, pb = wk.heap.size := ⟨_, rfl⟩
          obtain ⟨W3, hW3⟩ : ∃ W3, W3 = wk.alloc (.cells #[.int .i64 (q1 : Int), .int .i64 (q2 : Int)] 56) := ⟨_, rfl⟩
          have HT3 : Hid (TAt H W3 tb pg rg n p' R1 (.slice (some ⟨gO, 0, none⟩) G1.length vc) vp1 G1 ps1) := hide (by rw [hW3]; exact (unhide HT1).alloc _)
          have hp3 : W3.heap[pb]? = some (.cells #[.int .i64 (q1 : Int), .int .i64 (q2 : Int)] 56 (0, 0)) := by rw [hW3, hpb]; exact heap_alloc_new _ _
          have HB3 : Hid (Below H w W3) := hide (by rw [hW3]; exact (unhide HB1).alloc (by have := (unhide HB1).size; rw [← unhide HHH] at this; exact this) _)
          have HRS : Hid (RSb tb pg pb n q1 q2 W3) := hide ⟨(unhide HT3).c0, by simp [World.cell?, hp3], by simp [World.cell?, hp3]⟩
          have HPBP : Hid (pb ≠ pg) := hide (by have := (unhide HT1).pl.lt; omega)
          rw [← hW3, ← hpb]
          clear hW3 hpb z0 z1 z2 d1 d2 HT1 HB1 hp3 hgo2
          have b1 : (q1 : Int) ≤ (q2 : Int) := by omega
          have b2 : (q2 : Int) ≤ (n : Int) := by omega
          have b3 : ¬ n = q1 := by omega
          have b4 : (q1 : Int) ≤ (n : Int) := by omega
          have b5 : q1 ≤ q2 := by omega
          have b6 : q2 ≤ n := by omega
          refine wp_region_noPanic ?_
          refine wp_region_held_drew (S := RSb tb pg pb n q1 q2) (by kernel_rfl) ⟨(unhide HRS).p, (unhide HRS).a, (unhide HRS).c⟩ (fun hHeld => ?_)
          obtain ⟨x1, hx1⟩ : ∃ x1, x1 = W3.drew := ⟨_, rfl⟩
          show wpAnyH _ _ _ _ _ _ _ _ W3.drew
          rw [← hx1] at hHeld ⊢
          have HTX1 : Hid (TAt H x1 tb pg rg n p' R1 (.slice (some ⟨gO, 0, none⟩) G1.length vc) vp1 G1 ps1) := hide (by rw [hx1]; exact (unhide HT3).drewN 1)
          have HBX1 : Hid (Below H w x1) := hide (by rw [hx1]; exact drewN_below (unhide HB3) 1)
          clear hx1 HT3 HB3 HRS
          refine held_take 0 28 rfl rfl (by kernel_rfl) (by kernel_rfl) (by kernel_rfl) (by rfl) hHeld noPanic_panic (v := ?_) (fun x hSx => ?_) ?_
          rotate_left 1
          · go_simp <;> with_reducible rfl
          simp only [List.set_cons_zero, List.set_cons_succ]
          refine held_take 1 29 rfl rfl (by kernel_rfl) (by kernel_rfl) (by kernel_rfl) (by rfl) hHeld noPanic_panic (v := ?_) (fun x hSx => ?_) ?_
          rotate_left 1
          · go_simp <;> with_reducible rfl
          simp only [List.set_cons_zero, List.set_cons_succ]
          refine held_take 2 30 rfl rfl (by kernel_rfl) (by kernel_rfl) (by kernel_rfl) (by rfl) hHeld noPanic_panic (v := ?_) (fun x hSx => ?_) ?_
          rotate_left 1
          · go_simp <;> with_reducible rfl
          simp only [List.set_cons_zero, List.set_cons_succ]
          refine held_take 3 31 rfl rfl (by kernel_rfl) (by kernel_rfl) (by kernel_rfl) (by rfl) hHeld noPanic_panic (v := ?_) (fun x hSx => ?_) ?_
          rotate_left 1
          · have q0 := hSx.p; clear hSx; go_simp <;> with_reducible rfl
          simp only [List.set_cons_zero, List.set_cons_succ]
          refine held_take 4 32 rfl rfl (by kernel_rfl) (by kernel_rfl) (by kernel_rfl) (by rfl) hHeld noPanic_panic (v := ?_) (fun x hSx => ?_) ?_
          rotate_left 1
          · go_simp <;> with_reducible rfl
          simp only [List.set_cons_zero, List.set_cons_succ]
          refine held_take 5 33 rfl rfl (by kernel_rfl) (by kernel_rfl) (by kernel_rfl) (by rfl) hHeld noPanic_panic (v := ?_) (fun x hSx => ?_) ?_
          rotate_left 1
          · have q0 := hSx.a; clear hSx; go_simp <;> with_reducible rfl
          simp only [List.set_cons_zero, List.set_cons_succ]
          refine held_take 6 34 rfl rfl (by kernel_rfl) (by kernel_rfl) (by kernel_rfl) (by rfl) hHeld noPanic_panic (v := ?_) (fun x hSx => ?_) ?_
          rotate_left 1
          · go_simp <;> with_reducible rfl
          simp only [List.set_cons_zero, List.set_cons_succ]
          refine held_take 7 35 rfl rfl (by kernel_rfl) (by kernel_rfl) (by kernel_rfl) (by rfl) hHeld noPanic_panic (v := ?_) (fun x hSx => ?_) ?_
          rotate_left 1
          · have q0 := hSx.c; clear hSx; go_simp <;> with_reducible rfl
          simp only [List.set_cons_zero, List.set_cons_succ]
          refine held_take 8 36 rfl rfl (by kernel_rfl) (by kernel_rfl) (by kernel_rfl) (by rfl) hHeld noPanic_panic (v := ?_) (fun x hSx => ?_) ?_
          rotate_left 1
          · go_simp <;> with_reducible rfl
          simp only [List.set_cons_zero, List.set_cons_succ]
          refine held_enter 9 37 (by kernel_rfl) rfl rfl (by rfl) (by go_simp <;> exact ⟨rfl, rfl⟩) ?_
          refine (sorti_ok x1 pg n p' q1 q2 (n - q1) (unhide HTX1).pl hq12 hq2n hn (unhide HINJ)).mono ?_
          rintro e x2 ⟨rfl, p2, hpm, hlt2, hpl2, hkp2⟩
          refine ⟨_, rfl, hHeld.kp hkp2 (unhide HTX1).tp (unhide HPBP), ?_⟩
          simp only [List.set_cons_zero, List.set_cons_succ]
          refine wpAnyH_done (by kernel_rfl) ?_ _
          refine NoPanic.normal ?_
          have HT5 : Hid (TAt H x2 tb pg rg n p2 R1 (.slice (some ⟨gO, 0, none⟩) G1.length vc) vp1 G1 ps1) := hide ⟨by rw [hkp2.keep _ (heap_lt (unhide HTX1).blk) (unhide HTX1).tp]; exact (unhide HTX1).blk, hpl2, (unhide HTX1).rk.of (hkp2.keep _ (unhide HTX1).rk.lt (unhide HTX1).d1.symm), own_kp (unhide HTX1).op hkp2 (fun k hk e => (unhide HTX1).vo_t.2.1 (by rw [hk, e])), own_kp (unhide HTX1).pc hkp2 (fun k hk e => (unhide HTX1).vp_t.2.1 (by rw [hk, e])), (unhide HTX1).d1, (unhide HTX1).d2, (unhide HTX1).ht⟩
          have HB5 : Hid (Below H w x2) := hide (hkp2.below (unhide HBX1) (fun k e => by rw [e]; exact (unhide HTX1).ht.2.1) (by have := (unhide HBX1).size; rw [← unhide HHH] at this; exact this))
          have HF5 : Hid (Fin' b p2 R1 (G1.drop (i + 1)) (G1.take (i + 1))) := hide (by have h1 := hpm; rw [unhide HNN] at h1; rw [take_snoc hil (unhide HQ)]; exact (unhide HF2).step h1 hlt2)
          clear hHeld hpm hlt2 hpl2 hkp2 HTX1 HBX1
          go_wp2_with fail
          go_roundg (G1.length - (i + 1))
          case measure => omega
          case rel => exact ⟨i + 1, p2, rfl, by omega, by go_num, HT5, HF5, HB5⟩
        · obtain rfl : i = G1.length := by omega
          have ti : ¬ (G1.length : Int) < (G1.length : Int) := by omega
          have c0 := (unhide HT1).c0
          go_wp2_with fail
          go_ret
          have hF := unhide HF1
          rw [List.drop_length] at hF
          rw [← unhide HHH]
          refine ⟨pg, rfl, (unhide HT1).ht.2.1, (List.range n).map p', by rw [unhide HNN]; exact hF.rows, (unhide HT1).pl.congr fun r hr => ?_, unhide HB1⟩
          rw [List.getElem?_map, List.getElem?_range hr]
          rfl

end Go.Proofs.Ytpemgjcgcmleiaa
