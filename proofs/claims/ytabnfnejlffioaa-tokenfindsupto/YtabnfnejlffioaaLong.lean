/- TokenLongest. -/
import Derived.Test.YtabnfnejlffioaaTback
namespace Go.Proofs.Ytabnfnejlffioaa
open Go.RowKit
set_option linter.unusedVariables false

attribute [local go_sem ↓] Go.wp_at_zero Go.wp_at_succ

theorem Parsed.step {zs : List Nat} {W least M p q e : Nat} {l : List Tok} (h : Parsed zs W least M p l e) {i : Nat} (hi : i < l.length) (hq : Parsed zs W least M p (l.take i) q) : ∃ q', q < zs.length ∧ TokAt zs W least M q (l.getD i tz) q' ∧ Parsed zs W least M p (l.take (i + 1)) q' := by
  have h1 : ∃ q', Parsed zs W least M p (l.take (i + 1)) q' := by
    by_cases hl : i + 1 < l.length
    · obtain ⟨qk, h1, _⟩ := h.pre (i + 1) hl
      exact ⟨qk, h1⟩
    · rw [List.take_of_length_le (by omega)]
      exact ⟨e, h⟩
  obtain ⟨q', h1⟩ := h1
  have et : l.take (i + 1) = l.take i ++ [l.getD i tz] := by
    rw [List.take_add_one, List.getElem?_eq_getElem hi]
    simp [List.getD_eq_getElem?_getD, List.getElem?_eq_getElem hi]
  rcases h1.inv with ⟨e0, _⟩ | ⟨ts2, t2, q2, e2, h2, hq2, ht2⟩
  · rw [et] at e0; simp at e0
  · rw [et] at e2
    obtain ⟨e3, e4⟩ := List.append_inj' e2 rfl
    obtain rfl : l.getD i tz = t2 := by simpa using e4
    rw [← e3] at h2
    obtain ⟨_, rfl⟩ := hq.fn h2 rfl
    exact ⟨q', hq2, ht2, h1⟩

/-- none is longer, or nearer -/
theorem tok_best {zs : List Nat} {W least M q q' : Nat} {t : Tok} (hl : 1 ≤ least) (hq : q < zs.length) (h : TokAt zs W least M q t q') : ∃ nn dd : Nat, t.n = (nn : Int) ∧ t.d = (dd : Int) ∧ q' = q + max nn 1 ∧ nn ≤ zs.length ∧ dd ≤ zs.length ∧
    ∀ back k, 1 ≤ back → back ≤ min q W → k ≤ M → q + k ≤ zs.length → Eqs (zf zs) q back k → k < least ∨ (least ≤ k ∧ k < nn) ∨ (least ≤ k ∧ k = nn ∧ dd ≤ back) := by
  obtain ⟨n, d, hb, h⟩ := h
  have hle := hb.le
  have key : ∀ back k, 1 ≤ back → back ≤ min q W → k ≤ M → q + k ≤ zs.length → Eqs (zf zs) q back k → k ≤ n := fun back k h1 h2 h3 h4 h5 => by
    refine Nat.le_of_not_lt fun hlt => ?_
    exact hb.max (by omega) back h1 h2 (h5.mono (by omega))
  rcases h with ⟨a1, rfl, rfl⟩ | ⟨a1, rfl, rfl⟩
  · refine ⟨n, d, rfl, rfl, by omega, by omega, ?_, fun back k h1 h2 h3 h4 h5 => ?_⟩
    · rcases hb.one with ⟨e, _⟩ | ⟨_, _, k3, _⟩ <;> omega
    · have hk := key back k h1 h2 h3 h4 h5
      by_cases e : k < least
      · exact .inl e
      · by_cases e2 : k < n
        · exact .inr (.inl ⟨by omega, e2⟩)
        · have e3 : k = n := by omega
          refine .inr (.inr ⟨by omega, e3, ?_⟩)
          refine Nat.le_of_not_lt fun hlt => ?_
          rcases hb.one with ⟨e, _⟩ | ⟨_, _, _, _, k5⟩
          · omega
          · rw [e3] at h5
            exact k5 back h1 hlt h5
  · exact ⟨0, 0, rfl, rfl, by omega, by omega, by omega, fun back k h1 h2 h3 h4 h5 => .inl (by have := key back k h1 h2 h3 h4 h5; omega)⟩

theorem eqs_next {z : Nat → Nat} {p d k : Nat} (h : Eqs z p d k) (e : z (p + k) = z (p + k - d)) : Eqs z p d (k + 1) := fun i hi => by
  by_cases h2 : i = k
  · subst h2; exact e
  · exact h i (by omega)

set_option maxRecDepth 100000 in
set_option maxHeartbeats 8000000 in
theorem long_walk (zs : List Nat) (a : Option Addr) (cap : Nat) (x0 x1 x2 x3 : Int) (w : World) (hb : ReadsB w a cap zs) (hcap : zs.length ≤ cap) (hsm : ∀ z ∈ zs, z < 256) (hl : zs.length ≤ 1048576) (hm : ML w) :
    Calls Try.prog 6 #[.slice a zs.length cap, .agg #[.int .i64 x0, .int .i64 x1, .int .i64 x2, .int .i64 x3]] w fun e w' => e = .returned (.bool true) ∧ Below w.heap.size w w' := by
  obtain ⟨c1, hc1, e1⟩ := mask_65535 x1
  obtain ⟨c2, hc2, e2⟩ := mask_7 x2
  obtain ⟨c3, hc3, e3⟩ := mask_255 x3
  obtain ⟨W, hW⟩ : ∃ W : Nat, 1 + (c1 : Int) = (W : Int) := ⟨1 + c1, by omega⟩
  obtain ⟨least, hle⟩ : ∃ least : Nat, 1 + (c2 : Int) = (least : Int) := ⟨1 + c2, by omega⟩
  obtain ⟨M, hM⟩ : ∃ M : Nat, 8 + (c3 : Int) = (M : Int) := ⟨8 + c3, by omega⟩
  have hwW : IntKind.i64.wrap (W : Int) = (W : Int) := IntWalk.i64_in _ (by omega)
  have hwl : IntKind.i64.wrap (least : Int) = (least : Int) := IntWalk.i64_in _ (by omega)
  have hwM : IntKind.i64.wrap (M : Int) = (M : Int) := IntWalk.i64_in _ (by omega)
  have h1l : 1 ≤ least := by omega
  have hWb : W ≤ 65536 := by omega
  have hMb : M ≤ 263 := by omega
  obtain ⟨W0, hW0⟩ : ∃ W0, W0 = w.alloc (.cells #[.int .i64 x0, .int .i64 x1, .int .i64 x2, .int .i64 x3] 24) := ⟨_, rfl⟩
  have f1 : W0.cell? ⟨w.heap.size, 1, none⟩ = some (.int .i64 x1) := by rw [hW0]; simp only [World.cell?, heap_alloc_at]; rfl
  have f2 : W0.cell? ⟨w.heap.size, 2, none⟩ = some (.int .i64 x2) := by rw [hW0]; simp only [World.cell?, heap_alloc_at]; rfl
  have f3 : W0.cell? ⟨w.heap.size, 3, none⟩ = some (.int .i64 x3) := by rw [hW0]; simp only [World.cell?, heap_alloc_at]; rfl
  have hbl0 : Below w.heap.size w W0 := by rw [hW0]; exact (Below.refl _ _).alloc (Nat.le_refl _) _
  have HPC : Hid (∀ q, Calls Try.prog 9 #[.slice a zs.length cap, .int .i64 ((0 : Nat) : Int), .int .i64 (W : Int), .int .i64 (least : Int), .int .i64 (M : Int)] (W0.drewN q) fun e w' => ParsedIs zs 0 W least M (W0.drewN q) e w') := hide fun q => parse_good zs a cap 0 W least M (W0.drewN q) (((hb.stays hbl0).stays (w1 := W0.drewN q) ⟨rfl, rfl, rfl, Nat.le_refl _, fun _ _ => rfl⟩).reads.u hcap) hcap hsm (by omega) (by omega) (by omega) (by omega) (by omega) (by omega) (by omega) ((hm.stays hbl0).drewN q)
  have HB := hide hb
  have HBL0 := hide hbl0
  obtain ⟨L, hL⟩ : ∃ L, L = zs.length := ⟨_, rfl⟩
  rw [← hL] at hcap hl HPC ⊢
  have HL := hide hL
  clear hb hsm hm hbl0 hL
  go_enter Try.func6, Try.ntmps6
  go_upto_region 1 with fail
  rw [← hW0]
  clear hW0
  go_quiet (fail)
  have HPN := hide (unhide HPC nq)
  have HBN : Hid (Below w.heap.size w (W0.drewN nq)) := hide (below_drewN (unhide HBL0) nq)
  obtain ⟨Wn, hWn⟩ : ∃ Wn, Wn = W0.drewN nq := ⟨_, rfl⟩
  rw [← hWn] at HPN HBN ⊢
  clear hWn f1 f2 f3 HPC HBL0
  go_wp2_with fail
  refine (unhide HPN).mono ?_
  rintro e w1 ⟨tv, ts, rfl, hpar, hown, hbl1⟩
  obtain ⟨ta, tc, rfl, hrt⟩ := own_toks hown rfl
  have hkl := (hpar.len h1l (Nat.zero_le _)).1
  rw [← unhide HL] at hkl
  have HPAR := hide hpar
  have HRT := hide hrt.t
  have HB1 : Hid (Below w.heap.size w w1) := hide (below_next (unhide HBN) hbl1)
  have HRB : Hid (ReadsU w1.heap.size w1 (.slice a zs.length cap) zs) := hide (((unhide HB).stays (unhide HB1)).reads.u (by rw [← unhide HL]; exact hcap))
  obtain ⟨K, hK⟩ : ∃ K, K = ts.length := ⟨_, rfl⟩
  rw [← hK] at HRT hkl ⊢
  have HK := hide hK
  clear hpar hown hbl1 hrt hK HPN HBN HB
  go_upto_region 7 with fail
  go_loopg [10, 11] K (fun gi va vi ws => ∃ (i at' q : Nat), gi = K - i ∧ i ≤ K ∧ at' ≤ L ∧ va = .int .i64 (at' : Int) ∧ vi = .int .i64 (i : Int) ∧ Hid (Parsed zs W least M 0 (ts.take i) at') ∧ ws = w1.drewN q)
  case atStart => exact ⟨0, 0, 0, rfl, by omega, by omega, rfl, rfl, hide (by simpa using Parsed.nil), rfl⟩
  case round =>
    obtain ⟨i, p, q, rfl, hi, hpL, rfl, rfl, HPI, rfl⟩ := hrel
    by_cases hlt : i < K
    · have hii : (i : Int) < (K : Int) := by omega
      obtain ⟨q', hq1, ht, hp'⟩ := (unhide HPAR).step (by rw [← unhide HK]; exact hlt) (unhide HPI)
      obtain ⟨nn, dd, en, ed, hq', hnL, hdL, hbest⟩ := tok_best h1l hq1 ht
      have hq2 := (hp'.len h1l (Nat.zero_le _)).2
      rw [← unhide HL] at hq1 hq2 hnL hdL
      have HB3 : Hid (∀ back k, 1 ≤ back → back ≤ min p W → k ≤ M → p + k ≤ L → Eqs (zf zs) p back k → k < least ∨ (least ≤ k ∧ k < nn) ∨ (least ≤ k ∧ k = nn ∧ dd ≤ back)) := hide (by rw [unhide HL]; exact hbest)
      obtain ⟨bt, ot, rfl, kt⟩ : ∃ bt ot, ta = some ⟨bt, ot, none⟩ ∧ ∀ j, j < K → w1.cell? ⟨bt, ot + j * 3, none⟩ = some (.int .i64 (ts.getD j tz).n) ∧ w1.cell? ⟨bt, ot + j * 3 + 1, none⟩ = some (.int .i64 (ts.getD j tz).d) := by
        obtain ⟨a', c', e, _, hs⟩ := unhide HRT
        injection e with e1 e2 e3
        obtain ⟨b', o', e, _, hc⟩ := hs (by rw [← unhide HK]; omega)
        exact ⟨b', o', by rw [e1]; exact e, fun j hj => ⟨(hc j (by rw [← unhide HK]; exact hj)).1, (hc j (by rw [← unhide HK]; exact hj)).2.1⟩⟩
      have k1 := (kt i hlt).1
      have k2 := (kt i hlt).2
      rw [en] at k1
      rw [ed] at k2
      have HP' := hide hp'
      obtain ⟨mx, hmx⟩ : ∃ mx : Nat, mx = max nn 1 := ⟨_, rfl⟩
      have m1 := run_max_nat (A := (nn : Int)) (B := (1 : Int)) rfl rfl hmx
      have HQ' : Hid (q' = p + mx) := hide (by rw [hmx]; exact hq')
      have HMX := hide hmx
      obtain ⟨b0, off0, rfl, kb⟩ : ∃ b0 off0, a = some ⟨b0, off0, none⟩ ∧ ∀ j, j < L → w1.cell? ⟨b0, off0 + j, none⟩ = some (.int .u8 (zs.getD j 0 : Int)) := by
        obtain ⟨a', c', e, _, hs⟩ := unhide HRB
        injection e with e1 e2 e3
        obtain ⟨b', o', e, _, hc⟩ := hs (by rw [← unhide HL]; omega)
        exact ⟨b', o', by rw [e1]; exact e, fun j hj => hc j (by rw [← unhide HL]; exact hj)⟩
      have HKB := hide kb
      have HPI' := HPI
      clear ht hp' hbest en ed kt hq' hmx kb HPI
      go_wp2_with fail
      go_quiet (fail)
      go_wp2_with fail
      go_loopg [14] 300 (fun gb vb ws => ∃ (j q : Nat), gb = 300 + 1 - (j + 1) ∧ j ≤ 300 ∧ vb = .int .i64 (((j + 1 : Nat)) : Int) ∧ ws = w1.drewN q)
      case atStart => exact ⟨0, q + nq, by omega, by omega, rfl, by first | rfl | rw [World.drewN_drewN]⟩
      case round =>
        obtain ⟨j, q, rfl, hj, rfl, rfl⟩ := hrel
        obtain ⟨bk, hbk⟩ : ∃ bk : Nat, bk = j + 1 := ⟨_, rfl⟩
        rw [← hbk]
        by_cases hc : bk ≤ p ∧ bk ≤ W ∧ bk ≤ 300
        · obtain ⟨hb1, hb2, hb3⟩ := hc
          have hb1i : (bk : Int) ≤ (p : Int) := by omega
          have hb2i : (bk : Int) ≤ (W : Int) := by omega
          have hb3i : (bk : Int) ≤ 300 := by omega
          have HBK := hide hbk
          clear hbk
          go_wp2_with fail
          go_loopg [15] (M + 1) (fun gk vk ws => ∃ (k q : Nat), gk = M + 1 - k ∧ k ≤ M ∧ p + k ≤ L ∧ vk = .int .i64 (k : Int) ∧ Hid (Eqs (zf zs) p bk k) ∧ ws = w1.drewN q)
          case atStart => exact ⟨0, q, rfl, by omega, by omega, rfl, hide (fun i hi => by omega), rfl⟩
          case round =>
            obtain ⟨k, q, rfl, hk, hpk, rfl, HEQ, rfl⟩ := hrel
            by_cases hkM : k < M
            · have hkMi : (k : Int) < (M : Int) := by omega
              obtain ⟨pk, hpk2⟩ : ∃ pk : Nat, (p : Int) + (k : Int) = (pk : Int) := ⟨p + k, by omega⟩
              have hwpk : IntKind.i64.wrap (pk : Int) = (pk : Int) := IntWalk.i64_in _ (by omega)
              by_cases hpL2 : pk < L
              · have hpLi : (pk : Int) < (L : Int) := by omega
                obtain ⟨pb, hpb⟩ : ∃ pb : Nat, (pk : Int) - (bk : Int) = (pb : Int) := ⟨pk - bk, by omega⟩
                have hwpb : IntKind.i64.wrap (pb : Int) = (pb : Int) := IntWalk.i64_in _ (by omega)
                have hpbL : (pb : Int) < (L : Int) := by omega
                have b1 := unhide HKB pk hpL2
                have b2 := unhide HKB pb (by omega)
                obtain ⟨y1, hy1⟩ : ∃ y1, y1 = zs.getD pk 0 := ⟨_, rfl⟩
                obtain ⟨y2, hy2⟩ : ∃ y2, y2 = zs.getD pb 0 := ⟨_, rfl⟩
                rw [← hy1] at b1
                rw [← hy2] at b2
                by_cases hyy : y1 = y2
                · have HEQ2 : Hid (Eqs (zf zs) p bk (k + 1)) := hide (eqs_next (unhide HEQ) (by
                    show zs.getD (p + k) 0 = zs.getD (p + k - bk) 0
                    rw [show p + k = pk by omega, show pk - bk = pb by omega, ← hy1, ← hy2]; exact hyy))
                  have e1' : ((y1 : Int) == (y2 : Int)) = true := by simp [hyy]
                  have e2' : (y1 == y2) = true := by simp [hyy]
                  clear hy1 hy2 hyy HEQ
                  go_wp2_with fail
                  go_quiet (fail)
                  go_wp2_with fail
                  go_roundg (M + 1 - (k + 1))
                  case measure => omega
                  case rel => exact ⟨k + 1, q + nq, rfl, by omega, by omega, by go_num, HEQ2, by first | rfl | rw [World.drewN_drewN]⟩
                · have e1' : ((y1 : Int) == (y2 : Int)) = false := by simp; omega
                  have e2' : (y1 == y2) = false := by simp [hyy]
                  have HKK := hide (unhide HB3 bk k (by have := unhide HBK; omega) (by omega) hk hpk (unhide HEQ))
                  clear HEQ
                  clear hy1 hy2 hyy
                  go_wp2_with fail
                  go_quiet (fail)
                  rcases unhide HKK with hk1 | ⟨hk1, hk2⟩ | ⟨hk1, hk2, hk3⟩
                  · have i1 : ¬ (least : Int) ≤ (k : Int) := by omega
                    go_wp2_with fail
                    go_roundg (300 + 1 - (j + 1 + 1))
                    case measure => have := unhide HBK; omega
                    case rel => exact ⟨j + 1, q + nq, rfl, by have := unhide HBK; omega, by have := unhide HBK; congr 1; omega, by first | rfl | rw [World.drewN_drewN]⟩
                  · have i1 : (least : Int) ≤ (k : Int) := by omega
                    have i2 : ¬ (nn : Int) < (k : Int) := by omega
                    have i3 : ((k : Int) == (nn : Int)) = false := by simp; omega
                    go_wp2_with fail
                    go_roundg (300 + 1 - (j + 1 + 1))
                    case measure => have := unhide HBK; omega
                    case rel => exact ⟨j + 1, q + nq, rfl, by have := unhide HBK; omega, by have := unhide HBK; congr 1; omega, by first | rfl | rw [World.drewN_drewN]⟩
                  · have i1 : (least : Int) ≤ (k : Int) := by omega
                    have i2 : ¬ (nn : Int) < (k : Int) := by omega
                    have i3 : ((k : Int) == (nn : Int)) = true := by simp; omega
                    have i4 : ¬ (bk : Int) < (dd : Int) := by omega
                    go_wp2_with fail
                    go_roundg (300 + 1 - (j + 1 + 1))
                    case measure => have := unhide HBK; omega
                    case rel => exact ⟨j + 1, q + nq, rfl, by have := unhide HBK; omega, by have := unhide HBK; congr 1; omega, by first | rfl | rw [World.drewN_drewN]⟩
              · have hpLi : ¬ (pk : Int) < (L : Int) := by omega
                have HKK := hide (unhide HB3 bk k (by have := unhide HBK; omega) (by omega) hk hpk (unhide HEQ))
                clear HEQ
                go_wp2_with fail
                go_quiet (fail)
                rcases unhide HKK with hk1 | ⟨hk1, hk2⟩ | ⟨hk1, hk2, hk3⟩
                · have i1 : ¬ (least : Int) ≤ (k : Int) := by omega
                  go_wp2_with fail
                  go_roundg (300 + 1 - (j + 1 + 1))
                  case measure => have := unhide HBK; omega
                  case rel => exact ⟨j + 1, q + nq, rfl, by have := unhide HBK; omega, by have := unhide HBK; congr 1; omega, by first | rfl | rw [World.drewN_drewN]⟩
                · have i1 : (least : Int) ≤ (k : Int) := by omega
                  have i2 : ¬ (nn : Int) < (k : Int) := by omega
                  have i3 : ((k : Int) == (nn : Int)) = false := by simp; omega
                  go_wp2_with fail
                  go_roundg (300 + 1 - (j + 1 + 1))
                  case measure => have := unhide HBK; omega
                  case rel => exact ⟨j + 1, q + nq, rfl, by have := unhide HBK; omega, by have := unhide HBK; congr 1; omega, by first | rfl | rw [World.drewN_drewN]⟩
                · have i1 : (least : Int) ≤ (k : Int) := by omega
                  have i2 : ¬ (nn : Int) < (k : Int) := by omega
                  have i3 : ((k : Int) == (nn : Int)) = true := by simp; omega
                  have i4 : ¬ (bk : Int) < (dd : Int) := by omega
                  go_wp2_with fail
                  go_roundg (300 + 1 - (j + 1 + 1))
                  case measure => have := unhide HBK; omega
                  case rel => exact ⟨j + 1, q + nq, rfl, by have := unhide HBK; omega, by have := unhide HBK; congr 1; omega, by first | rfl | rw [World.drewN_drewN]⟩
            · have hkMi : ¬ (k : Int) < (M : Int) := by omega
              have HKK := hide (unhide HB3 bk k (by have := unhide HBK; omega) (by omega) hk hpk (unhide HEQ))
              clear HEQ
              go_wp2_with fail
              go_quiet (fail)
              rcases unhide HKK with hk1 | ⟨hk1, hk2⟩ | ⟨hk1, hk2, hk3⟩
              · have i1 : ¬ (least : Int) ≤ (k : Int) := by omega
                go_wp2_with fail
                go_roundg (300 + 1 - (j + 1 + 1))
                case measure => have := unhide HBK; omega
                case rel => exact ⟨j + 1, q + nq, rfl, by have := unhide HBK; omega, by have := unhide HBK; congr 1; omega, by first | rfl | rw [World.drewN_drewN]⟩
              · have i1 : (least : Int) ≤ (k : Int) := by omega
                have i2 : ¬ (nn : Int) < (k : Int) := by omega
                have i3 : ((k : Int) == (nn : Int)) = false := by simp; omega
                go_wp2_with fail
                go_roundg (300 + 1 - (j + 1 + 1))
                case measure => have := unhide HBK; omega
                case rel => exact ⟨j + 1, q + nq, rfl, by have := unhide HBK; omega, by have := unhide HBK; congr 1; omega, by first | rfl | rw [World.drewN_drewN]⟩
              · have i1 : (least : Int) ≤ (k : Int) := by omega
                have i2 : ¬ (nn : Int) < (k : Int) := by omega
                have i3 : ((k : Int) == (nn : Int)) = true := by simp; omega
                have i4 : ¬ (bk : Int) < (dd : Int) := by omega
                go_wp2_with fail
                go_roundg (300 + 1 - (j + 1 + 1))
                case measure => have := unhide HBK; omega
                case rel => exact ⟨j + 1, q + nq, rfl, by have := unhide HBK; omega, by have := unhide HBK; congr 1; omega, by first | rfl | rw [World.drewN_drewN]⟩
        · have hcc : (¬ (bk : Int) ≤ (p : Int)) ∨ ((bk : Int) ≤ (p : Int) ∧ ¬ (bk : Int) ≤ (W : Int)) ∨ ((bk : Int) ≤ (p : Int) ∧ (bk : Int) ≤ (W : Int) ∧ ¬ (bk : Int) ≤ 300) := by omega
          obtain ⟨pm, hpm⟩ : ∃ pm : Nat, (p : Int) + (mx : Int) = (pm : Int) := ⟨p + mx, by omega⟩
          have hwpm : IntKind.i64.wrap (pm : Int) = (pm : Int) := IntWalk.i64_in _ (by have := unhide HMX; omega)
          have HPM : Hid (q' = pm) := hide (by have := unhide HQ'; omega)
          have hi1 : IntKind.i64.wrap ((i : Int) + 1) = (i : Int) + 1 := IntWalk.i64_in _ (by omega)
          clear hc hbk
          rcases hcc with u1 | ⟨u1, u2⟩ | ⟨u1, u2, u3⟩
          all_goals
            go_wp2_with fail
            go_roundg (K - (i + 1))
            case measure => omega
            case rel => exact ⟨i + 1, pm, q, rfl, by omega, by have := unhide HPM; omega, rfl, by go_num, hide (by rw [← unhide HPM]; exact unhide HP'), rfl⟩
    · have hii : ¬ (i : Int) < (K : Int) := by omega
      have hpe : p = L := by
        have h := unhide HPI
        rw [List.take_of_length_le (by rw [← unhide HK]; omega)] at h
        have := (h.fn (unhide HPAR) rfl).2
        rw [this, unhide HL]
      subst hpe
      have e1' : ((p : Int) == (p : Int)) = true := by simp
      clear HPI
      go_wp2_with fail
      go_ret
      exact ⟨rfl, below_drewN (unhide HB1) q⟩

end Go.Proofs.Ytabnfnejlffioaa
