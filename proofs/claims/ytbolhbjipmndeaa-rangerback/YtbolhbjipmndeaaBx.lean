/- RangerBack's walk. -/
import Derived.Test.YtbolhbjipmndeaaBv
namespace Go.Proofs.Ytbolhbjipmndeaa.D
open Go.RowKit Rang
set_option maxRecDepth 100000
set_option linter.unusedVariables false
attribute [local go_sem ↓] Go.wp_at_zero Go.wp_at_succ

structure MidB (w0 w : World) (pb gc : Nat) (ov dv : Value) (s : Sta) (l : List ActD) : Prop where
  p : PSta w0.heap.size w pb gc ov s
  row : w.ownsRow w0.heap.size 41 5 dv l.length (accAll l)
  bel : Below w0.heap.size w0 w

theorem StandB.mid {w0 w : World} {pb gc n i : Nat} {ov dv : Value} {s : Sta} {l : List ActD} (h : StandB w0 w pb gc n i ov dv s l) : MidB w0 w pb gc ov dv s l := ⟨h.p, h.row, h.bel⟩

theorem MidB.tch {w0 W w' : World} {pb gc : Nat} {ov dv ov' : Value} {s s' : Sta} {l : List ActD} (h : MidB w0 W pb gc ov dv s l) (hp : PSta w0.heap.size w' pb gc ov' s') (ht : Tch W w' pb gc 0 ov ov') : MidB w0 w' pb gc ov' dv s' l :=
  ⟨hp, own_keep h.row fun g e => by
    obtain ⟨cur, hh, _⟩ := own_blk5 h.row e
    rw [h.p.1.other ht hh (by decide) (by decide) (by decide), hh], h.p.1.tch h.bel ht⟩

theorem MidB.app {w0 W w' : World} {pb gc : Nat} {ov dv dv' : Value} {s : Sta} {l l' : List ActD} (h : MidB w0 W pb gc ov dv s l) (h2 : w'.ownsRow w0.heap.size 41 5 dv' l'.length (accAll l')) (hk : ∀ k, k < W.heap.size → dv.ownBlock ≠ some k → w'.heap[k]? = W.heap[k]?) (hs : W.heap.size ≤ w'.heap.size) (ho : w'.os = W.os ∧ w'.tape = W.tape ∧ w'.output = W.output) : MidB w0 w' pb gc ov dv' s l' :=
  ⟨h.p.keep (fun g e => by obtain ⟨cur, hh, _⟩ := own_blk5 h.row e; exact ⟨cur, hh⟩) hk hs, h2, by
    have hb := h.bel
    exact ⟨ho.1.trans hb.os, ho.2.1.trans hb.tape, ho.2.2.trans hb.output, Nat.le_trans hb.size hs, fun k hk2 => by
      rw [hk k (Nat.lt_of_lt_of_le hk2 hb.size) (fun e => by
        obtain ⟨cur, _, hh⟩ := own_blk5 h.row e
        omega)]
      exact hb.block k hk2⟩⟩

theorem StandB.took {w0 W w' : World} {pb gc n i : Nat} {ov dv ov' dv' : Value} {s : Sta} {l : List ActD} {X : ActD} {a : Int × Int × Int × Int} (h : StandB w0 W pb gc n i ov dv s l) (ha : a = key X) (hk : (actS a s).k ≤ s.k + 31) (hm : May a s.ch.length) (h2 : MidB w0 w' pb gc ov' dv' (actS a s) (l ++ [X])) : StandB w0 w' pb gc n (i + 1) ov' dv' (actS a s) (l ++ [X]) :=
  ⟨h2.p, h2.row, h2.bel, by rw [List.map_append, List.map_singleton, actsS_snoc, ← h.all, ha], fun x hx => by
    rcases List.mem_append.1 hx with hx | hx
    · exact h.may x hx
    · rw [List.mem_singleton.1 hx, ← ha, ← h.len]; exact hm, by rw [actS_len]; exact h.len, by have := h.few; omega, by have := h.short; simp; omega⟩

theorem StandB.refused {w0 W w' : World} {pb gc n i : Nat} {ov dv ov' : Value} {s : Sta} {l : List ActD} (h : StandB w0 W pb gc n i ov dv s l) (h2 : MidB w0 w' pb gc ov' dv s l) : StandB w0 w' pb gc n (i + 1) ov' dv s l :=
  ⟨h2.p, h2.row, h2.bel, h.all, h.may, h.len, by have := h.few; omega, by have := h.short; omega⟩

set_option maxHeartbeats 8000000 in
theorem back_law (n : Nat) (a0 : Option Addr) (b off L cap : Nat) (A : Nat → ActD) (w : World) (hn : n ≤ 65536) (hal : 0 < L → a0 = some ⟨b, off, none⟩) (hA : Acts w b off L A) (hL : L * 56 ≤ 140737488355328) : Calls Try.prog 6 #[.int .i64 (n : Int), .slice a0 L cap] w fun e w' => e = .returned (.bool true) ∧ Below w.heap.size w w' := by
  have HP := hide (pnew_ok n w hn)
  have HAL := hide hal
  have HA := hide hA
  clear hal hA
  go_enter Try.func6, Try.ntmps6
  go_wp2_with (first | (go_at_call 8; refine (unhide HP).mono ?_; rintro e wa ⟨pb, rfl, h1, h2⟩; have H1 := hide h1; have H2 := hide h2; clear h1 h2 HP))
  obtain ⟨gc, hgc⟩ : ∃ gc, gc = w.heap.size := ⟨_, rfl⟩
  have HST : Hid (StandB w wa pb gc n 0 (.slice none 0 0) (.slice none 0 0) ⟨enc0, 0, 0, List.replicate n 1024⟩ []) := hide (by
    rw [hgc]
    exact ⟨⟨(unhide H1).pc, ⟨wide0, (unhide H1).chs⟩, (unhide H1).base⟩, ⟨by simp [accAll], .inl ⟨rfl, rfl⟩⟩, unhide H2, rfl, by simp, by simp, by simp, by simp⟩)
  clear H1 H2 hgc
  go_loopg [7, 8] (L + 1) (fun gk dd d ws => ∃ (i : Nat) (ov : Value) (s : Sta) (l : List ActD), i + gk = L + 1 ∧ i ≤ L ∧ d = .int .i64 (i : Int) ∧ Hid (StandB w ws pb gc n i ov dd s l))
  case atStart => exact ⟨0, _, _, _, by omega, by omega, rfl, HST⟩
  case round =>
    clear HST
    obtain ⟨i, ov, s, l, hi, hiL, rfl, HST⟩ := hrel
    have t0 : (i : Int) ≤ (L : Int) := by omega
    by_cases hiL2 : i = L
    · subst hiL2
      have t1 : ¬ (i : Int) < (i : Int) := by omega
      clear HAL HA
      have HST2 := hide (unhide HST)
      have hK : s.k ≤ 80000000000000 := by have := (unhide HST).few; omega
      have hOk := (unhide HST).p.2.1
      obtain ⟨bn, bl, bz, bt⟩ := bytes_wide hOk.1
      have HBY := hide (pbytes_ok _ pb wr _ ov s.c s.T s.k (unhide HST).p.1.enc hOk.1 (by omega) _ _ _ rfl)
      have HAE : Hid (AheadS s s.T s.k) := hide (Ahead.self hOk.1)
      have HCS := hide hOk.2
      obtain ⟨Bs, hBs⟩ : ∃ Bs, Bs = bytesE s.c := ⟨_, rfl⟩
      rw [← hBs] at bn bl bz HBY
      have HF0 := hide (follows0 (Tf := 0) bl bz (by rw [bn]; exact bt))
      have HBB : Hid (num Bs = s.T ∧ Bs.length = s.k + 5 ∧ (∀ z ∈ Bs, z < 256)) := hide ⟨bn, bl, bz⟩
      have HLB : Hid (5 ≤ Bs.length ∧ Bs.length ≤ 140737488355328) := hide (by omega)
      clear bn bl bz bt hK hBs hOk HST2
      obtain ⟨ad, cd, ed⟩ := own_shape5 (unhide HST).row
      obtain ⟨LN, hLN⟩ : ∃ LN, LN = l.length := ⟨_, rfl⟩
      rw [← hLN] at ed
      have HLN := hide hLN
      have hLs : LN ≤ i := by have := (unhide HST).short; omega
      clear hLN
      subst ed
      go_upto_region 22 with (first | (go_at_call 12; refine (unhide HBY).mono ?_; rintro e w5 ⟨vx, rfl, h1⟩; have HSB := hide h1; obtain ⟨ax, cx, ex⟩ := h1.len; subst ex; clear h1) | (go_at_call 25; refine (qnew_ok ax cx Bs n w5 hn (unhide HLB).1 ((unhide HSB).src (Nat.lt_of_lt_of_le (by decide) (unhide HLB).1)).1 (unhide HLB).2 ((unhide HSB).src (Nat.lt_of_lt_of_le (by decide) (unhide HLB).1)).2 (unhide HBB).2.2 (unhide HF0).1).mono ?_; rintro e w6 ⟨qb, gd, gr, rcs, rfl, h1, h2, h3, h4, h5⟩; have HQ := hide h1; have HB6 := hide h2; have HLO := hide (And.intro h3 (And.intro h4 h5)); clear h1 h2 h3 h4 h5))
      have HS5 := hide ((unhide HST).below (unhide HSB).bel)
      have HPL : Hid (PlayB w5 w6 qb gd gr rcs Bs n l 0 (dec0 Bs)) := hide ⟨by rw [stA_zero]; exact unhide HQ, by rw [stA_zero]; exact (unhide HF0).2, unhide HB6, unhide HLO⟩
      have HSA : Hid (stA n l LN = s) := hide (by rw [unhide HLN, stA_all]; exact (unhide HS5).all.symm)
      have HAH : Hid (∀ j, j ≤ LN → AheadS (stA n l j) (num Bs) s.k) := hide fun j hj => stA_ahead (unhide HS5).may (by rw [← unhide HLN, unhide HSA, (unhide HBB).1]; exact unhide HAE) (LN - j) j (by have := unhide HLN; omega)
      have HOK : Hid (∀ j, j ≤ LN → Ok (stA n l j) ∧ (stA n l j).ch.length = n) := hide fun j hj => stA_ok (unhide HS5).may j (by have := unhide HLN; omega)
      clear HQ HB6 HLO HST HBY HF0 HLB HAE
      go_wp2_with fail
      go_loopg [12] (LN + 1) (fun gk d ws => ∃ (j : Nat) (dd : Dec), j + gk = LN + 1 ∧ j ≤ LN ∧ d = .int .i64 (j : Int) ∧ Hid (PlayB w5 ws qb gd gr rcs Bs n l j dd))
      case atStart => exact ⟨0, _, by omega, by omega, rfl, HPL⟩
      case round =>
        clear HPL
        obtain ⟨j, dd, hj, hjL, rfl, HPL⟩ := hrel
        have r0 : (j : Int) ≤ (LN : Int) := by omega
        have HSR := hide ((unhide HS5).below (unhide HPL).bel)
        by_cases hjL2 : j = LN
        · subst hjL2
          have r1 : ¬ (j : Int) < (j : Int) := by omega
          have HDN : Hid (doneB Bs dd = true) := hide (by
            have hf := (unhide HPL).f
            rw [unhide HSA] at hf
            have := follows_end (unhide HBB).2.1 (unhide HBB).1 hf
            unfold doneB
            exact decide_eq_true this)
          have HD := hide (qdone_ok wr qb gd gr rcs Bs dd _ (unhide HPL).q)
          rw [unhide HDN] at HD
          have hlen := (unhide HS5).len
          have HPC := hide (pchances_ok _ pb gc wr ov s.c s.ch (unhide HSR).p.1 (unhide HCS) (by rw [hlen]; exact hn))
          rw [hlen] at HPC
          have HQC : Hid (∀ w7, Below wr.heap.size wr w7 → Calls Try.prog 29 #[.pointer (some ⟨qb, 0, none⟩)] w7 fun e w' => e = .returned (.slice (some ⟨w7.heap.size, 0, none⟩) n n) ∧ Ints w' w7.heap.size s.ch ∧ Below w7.heap.size w7 w') := hide fun w7 h7 => by
            have hq := ((unhide HPL).below h7).q
            rw [unhide HSA] at hq
            have := qchances_ok w7 qb gd gr rcs Bs dd s.ch hq (by rw [hlen]; exact hn)
            rw [hlen] at this
            exact this
          have HLEN := hide hlen
          clear hlen
          go_wp2_with (first | (go_at_call 27; refine (unhide HD).mono ?_; rintro e w7 ⟨rfl, rfl⟩) | (go_at_call 15; refine (unhide HPC).mono ?_; rintro e w8 ⟨rfl, h1, h2⟩; have HI1 := hide (ints_rown h1 (unhide HLEN)); have HB8 := hide h2; have HG8 := hide (ints_lt h1); clear h1 h2) | (go_at_call 29; refine (unhide HQC w8 (unhide HB8)).mono ?_; rintro e w9 ⟨rfl, h1, h2⟩; have HI2 := hide (ints_rown h1 (unhide HLEN)); have HI3 := hide ((unhide HI1).of_below h2); have HB9 := hide h2; clear h1 h2) | (go_at_call 14; refine (same_ok _ _ _ _ _ _ s.ch w9 (unhide HI3) (unhide HI2) (.inl (unhide HG8)) (Nat.le_trans (Nat.le_of_eq (unhide HLEN)) (Nat.le_trans hn (by decide)))).mono ?_; rintro e wz ⟨rfl, h1⟩; have HCH := hide h1; clear h1))
          go_ret
          have b1 := (unhide HSR).bel
          have b2 := b1.trans ((unhide HB8).mono b1.size)
          have b3 := b2.trans ((unhide HB9).mono b2.size)
          exact ⟨rfl, (unhide HCH).below b3 b1.size b3.size⟩
        · have r1 : (j : Int) < (LN : Int) := by omega
          have hj3 : j < l.length := by have := unhide HLN; omega
          have hrow := (unhide HSR).row
          rw [show Value.slice ad LN cd = Value.slice ad l.length cd by rw [unhide HLN]] at hrow
          obtain ⟨g, rfl, c0, c1, c2, c3, c4⟩ := done_cells hrow j hj3
          have hm := (unhide HS5).may _ (List.getElem_mem hj3)
          have hah := unhide HAH (j + 1) (by omega)
          rw [stA_succ n l j hj3] at hah
          have hnx : ∀ w' w'' d', PlayB w5 w' qb gd gr rcs Bs n l j dd → QS w'' qb gd gr rcs Bs d' (actS (key l[j]) (stA n l j)).ch → QT w' w'' qb gd → FollowsS Bs d' (actS (key l[j]) (stA n l j)) → PlayB w5 w'' qb gd gr rcs Bs n l (j + 1) d' := fun w' w'' d' h1 h2 h3 h4 => h1.next hj3 h2 h3 h4
          clear hrow
          generalize l[j] = X at c0 c1 c2 c3 c4 hm hah hnx
          obtain ⟨kd, bs, v, m, lp, lc, ls⟩ := X
          unfold key at hm hah hnx
          simp only at c0 c1 c2 c3 c4 hm hah hnx
          have ho := unhide HOK j (by omega)
          rw [← ho.2] at hm
          have HO := hide ho
          have HM := hide hm
          have HAJ := hide hah
          have HNX := hide hnx
          have HNL : Hid ((stA n l j).ch.length ≤ 65536) := hide (by rw [ho.2]; exact hn)
          have hkd : kd = 0 ∨ kd = 1 ∨ kd = 2 ∨ kd = 3 := by
            rcases hm with h | h | h
            · exact .inl h.1
            · exact .inr (.inl h.1)
            · rcases h.1 with h | h
              · exact .inr (.inr (.inl h))
              · exact .inr (.inr (.inr h))
          obtain ⟨ll, hll⟩ : ∃ ll, ll = ls.length := ⟨_, rfl⟩
          rw [← hll] at c4
          clear hll hm hah hnx ho hj3
          rcases hkd with hk | hk | hk | hk
          · subst hk
            have HPA : Hid (PlayB w5 (wr.alloc (.cells #[.int .i64 0, .int .i64 bs, .int .i64 v, .int .i64 m, .slice lp ll lc] 41)) qb gd gr rcs Bs n l j dd) := hide ((unhide HPL).below ((Below.refl _ _).alloc (Nat.le_refl _) _))
            have HAA : Hid ((wr.alloc (.cells #[.int .i64 0, .int .i64 bs, .int .i64 v, .int .i64 m, .slice lp ll lc] 41)).heap[wr.heap.size]? = some (.cells #[.int .i64 0, .int .i64 bs, .int .i64 v, .int .i64 m, .slice lp ll lc] 41 (0, 0))) := hide (heap_alloc_new _ _)
            have HC := hide (read_bit (unhide HBB).2.1 (unhide HBB).2.2 (unhide HPA).q (unhide HO).1 (unhide HPA).f (unhide HNL) bs v m (unhide HM) (unhide HAJ))
            have HNE : Hid (wr.heap.size ≠ qb ∧ wr.heap.size ≠ gd) := hide (by
              obtain ⟨o, rc, hq⟩ := (unhide HPL).q.qa
              have a1 := heap_lt hq.cells
              have a2 : wr.heap[gd]? = _ := hq.chs
              have a3 := heap_lt a2
              omega)
            go_wp2_with (first | (go_at_call 30; refine (unhide HC).mono ?_; rintro e w2 ⟨d2, rfl, h1, h2, h3⟩; have HP2 := hide (unhide HNX _ _ _ (unhide HPA) h1 h2 h3); have HAA2 := hide ((h2.keep wr.heap.size (by simp) (unhide HNE).1 (unhide HNE).2).trans (unhide HAA)); have y2 : w2.cell? ⟨wr.heap.size, 2, none⟩ = some (.int .i64 v) := (by simp [World.cell?, unhide HAA2]); clear h1 h2 h3 HC))
            go_roundg (LN - j)
            case measure => omega
            exact ⟨j + 1, d2, by omega, by omega, by go_num, HP2⟩
          · subst hk
            have HPA : Hid (PlayB w5 (wr.alloc (.cells #[.int .i64 1, .int .i64 bs, .int .i64 v, .int .i64 m, .slice lp ll lc] 41)) qb gd gr rcs Bs n l j dd) := hide ((unhide HPL).below ((Below.refl _ _).alloc (Nat.le_refl _) _))
            have HAA : Hid ((wr.alloc (.cells #[.int .i64 1, .int .i64 bs, .int .i64 v, .int .i64 m, .slice lp ll lc] 41)).heap[wr.heap.size]? = some (.cells #[.int .i64 1, .int .i64 bs, .int .i64 v, .int .i64 m, .slice lp ll lc] 41 (0, 0))) := hide (heap_alloc_new _ _)
            have HC := hide (read_direct (unhide HBB).2.1 (unhide HBB).2.2 (unhide HPA).q (unhide HO).1 (unhide HPA).f (unhide HNL) bs v m (unhide HM) (unhide HAJ))
            have HNE : Hid (wr.heap.size ≠ qb ∧ wr.heap.size ≠ gd) := hide (by
              obtain ⟨o, rc, hq⟩ := (unhide HPL).q.qa
              have a1 := heap_lt hq.cells
              have a2 : wr.heap[gd]? = _ := hq.chs
              have a3 := heap_lt a2
              omega)
            go_wp2_with (first | (go_at_call 32; refine (unhide HC).mono ?_; rintro e w2 ⟨d2, rfl, h1, h2, h3⟩; have HP2 := hide (unhide HNX _ _ _ (unhide HPA) h1 h2 h3); have HAA2 := hide ((h2.keep wr.heap.size (by simp) (unhide HNE).1 (unhide HNE).2).trans (unhide HAA)); have y2 : w2.cell? ⟨wr.heap.size, 2, none⟩ = some (.int .i64 v) := (by simp [World.cell?, unhide HAA2]); clear h1 h2 h3 HC))
            go_roundg (LN - j)
            case measure => omega
            exact ⟨j + 1, d2, by omega, by omega, by go_num, HP2⟩
          · subst hk
            have HPA : Hid (PlayB w5 (wr.alloc (.cells #[.int .i64 2, .int .i64 bs, .int .i64 v, .int .i64 m, .slice lp ll lc] 41)) qb gd gr rcs Bs n l j dd) := hide ((unhide HPL).below ((Below.refl _ _).alloc (Nat.le_refl _) _))
            have HAA : Hid ((wr.alloc (.cells #[.int .i64 2, .int .i64 bs, .int .i64 v, .int .i64 m, .slice lp ll lc] 41)).heap[wr.heap.size]? = some (.cells #[.int .i64 2, .int .i64 bs, .int .i64 v, .int .i64 m, .slice lp ll lc] 41 (0, 0))) := hide (heap_alloc_new _ _)
            have HC := hide (read_tree (unhide HBB).2.1 (unhide HBB).2.2 (unhide HPA).q (unhide HO).1 (unhide HPA).f (unhide HNL) bs v m (unhide HM) (unhide HAJ))
            have HNE : Hid (wr.heap.size ≠ qb ∧ wr.heap.size ≠ gd) := hide (by
              obtain ⟨o, rc, hq⟩ := (unhide HPL).q.qa
              have a1 := heap_lt hq.cells
              have a2 : wr.heap[gd]? = _ := hq.chs
              have a3 := heap_lt a2
              omega)
            go_wp2_with (first | (go_at_call 34; refine (unhide HC).mono ?_; rintro e w2 ⟨d2, rfl, h1, h2, h3⟩; have HP2 := hide (unhide HNX _ _ _ (unhide HPA) h1 h2 h3); have HAA2 := hide ((h2.keep wr.heap.size (by simp) (unhide HNE).1 (unhide HNE).2).trans (unhide HAA)); have y2 : w2.cell? ⟨wr.heap.size, 2, none⟩ = some (.int .i64 v) := (by simp [World.cell?, unhide HAA2]); clear h1 h2 h3 HC))
            go_roundg (LN - j)
            case measure => omega
            exact ⟨j + 1, d2, by omega, by omega, by go_num, HP2⟩
          · subst hk
            have HPA : Hid (PlayB w5 (wr.alloc (.cells #[.int .i64 3, .int .i64 bs, .int .i64 v, .int .i64 m, .slice lp ll lc] 41)) qb gd gr rcs Bs n l j dd) := hide ((unhide HPL).below ((Below.refl _ _).alloc (Nat.le_refl _) _))
            have HAA : Hid ((wr.alloc (.cells #[.int .i64 3, .int .i64 bs, .int .i64 v, .int .i64 m, .slice lp ll lc] 41)).heap[wr.heap.size]? = some (.cells #[.int .i64 3, .int .i64 bs, .int .i64 v, .int .i64 m, .slice lp ll lc] 41 (0, 0))) := hide (heap_alloc_new _ _)
            have HC := hide (read_rev (unhide HBB).2.1 (unhide HBB).2.2 (unhide HPA).q (unhide HO).1 (unhide HPA).f (unhide HNL) bs v m (unhide HM) (unhide HAJ))
            have HNE : Hid (wr.heap.size ≠ qb ∧ wr.heap.size ≠ gd) := hide (by
              obtain ⟨o, rc, hq⟩ := (unhide HPL).q.qa
              have a1 := heap_lt hq.cells
              have a2 : wr.heap[gd]? = _ := hq.chs
              have a3 := heap_lt a2
              omega)
            go_wp2_with (first | (go_at_call 36; refine (unhide HC).mono ?_; rintro e w2 ⟨d2, rfl, h1, h2, h3⟩; have HP2 := hide (unhide HNX _ _ _ (unhide HPA) h1 h2 h3); have HAA2 := hide ((h2.keep wr.heap.size (by simp) (unhide HNE).1 (unhide HNE).2).trans (unhide HAA)); have y2 : w2.cell? ⟨wr.heap.size, 2, none⟩ = some (.int .i64 v) := (by simp [World.cell?, unhide HAA2]); clear h1 h2 h3 HC))
            go_roundg (LN - j)
            case measure => omega
            exact ⟨j + 1, d2, by omega, by omega, by go_num, HP2⟩
    · have t4 : (i : Int) < (L : Int) := by omega
      have HK : Hid (s.k ≤ 80000000000000) := hide (by have := (unhide HST).few; omega)
      have HN : Hid (s.ch.length ≤ 65536) := hide (by rw [(unhide HST).len]; exact hn)
      have HL1 : Hid ((l.length + 1) * 56 ≤ 140737488355328) := hide (by have := (unhide HST).short; omega)
      obtain rfl := unhide HAL (by omega)
      have hAc := (unhide HA).below (unhide HST).bel
      have a0' := hAc.ck i (by omega)
      have a1' := hAc.cb i (by omega)
      have a2' := hAc.cv i (by omega)
      have a3' := hAc.cn i (by omega)
      have a4' := hAc.cl i (by omega)
      clear hAc
      generalize A i = x at a0' a1' a2' a3' a4'
      obtain ⟨kd, bs, v, m, lp, lc, ls⟩ := x
      simp only at a0' a1' a2' a3' a4'
      obtain ⟨ll, hll⟩ : ∃ ll, ll = ls.length := ⟨_, rfl⟩
      rw [← hll] at a4'
      have HLL := hide hll
      clear hll
      go_upto_region 9 with fail
      have HAA : Hid ((wr.alloc (.cells #[.int .i64 kd, .int .i64 bs, .int .i64 v, .int .i64 m, .slice lp ll lc] 41)).heap[wr.heap.size]? = some (.cells #[.int .i64 kd, .int .i64 bs, .int .i64 v, .int .i64 m, .slice lp ll lc] 41 (0, 0))) := hide (heap_alloc_new _ _)
      have HS1 : Hid (StandB w (wr.alloc (.cells #[.int .i64 kd, .int .i64 bs, .int .i64 v, .int .i64 m, .slice lp ll lc] 41)) pb gc n i ov u7 s l) := hide ((unhide HST).below ((Below.refl _ _).alloc (Nat.le_refl _) _))
      have HGA : Hid (u7.ownBlock ≠ some wr.heap.size) := hide (fun e => by
        obtain ⟨cur, hh, _⟩ := own_blk5 (unhide HST).row e
        exact absurd (heap_lt hh) (Nat.lt_irrefl _))
      obtain ⟨ga, hga⟩ : ∃ ga, ga = wr.heap.size := ⟨_, rfl⟩
      rw [← hga] at HAA HGA ⊢
      obtain ⟨W1, hW1⟩ : ∃ W1, W1 = wr.alloc (.cells #[.int .i64 kd, .int .i64 bs, .int .i64 v, .int .i64 m, .slice lp ll lc] 41) := ⟨_, rfl⟩
      rw [← hW1] at HAA HS1 ⊢
      clear hW1 hga a0' a1' a2' a3' a4' HST
      have z0 : W1.cell? ⟨ga, 0, none⟩ = some (.int .i64 kd) := by simp [World.cell?, unhide HAA]
      have z1 : W1.cell? ⟨ga, 1, none⟩ = some (.int .i64 bs) := by simp [World.cell?, unhide HAA]
      have z2 : W1.cell? ⟨ga, 2, none⟩ = some (.int .i64 v) := by simp [World.cell?, unhide HAA]
      have z3 : W1.cell? ⟨ga, 3, none⟩ = some (.int .i64 m) := by simp [World.cell?, unhide HAA]
      by_cases hk0 : kd = 0
      · subst hk0
        have HC := hide (act_bit (unhide HS1).p (unhide HK) bs v m)
        go_wp2_with (first | (go_at_call 16; refine (unhide HC).mono ?_; rintro e w2 ⟨r, ov2, s2, rfl, h1, h2, h3, h4⟩; have HM := hide ((unhide HS1).mid.tch h1 h2); have H3 := hide h3; have HAA2 := hide ((unhide HS1).p.1.other h2 (unhide HAA) (by decide) (by decide) (by decide)); have y0 : w2.cell? ⟨ga, 0, none⟩ = some (.int .i64 0) := (by simp [World.cell?, unhide HAA2]); have y1 : w2.cell? ⟨ga, 1, none⟩ = some (.int .i64 bs) := (by simp [World.cell?, unhide HAA2]); have y2 : w2.cell? ⟨ga, 2, none⟩ = some (.int .i64 v) := (by simp [World.cell?, unhide HAA2]); have y3 : w2.cell? ⟨ga, 3, none⟩ = some (.int .i64 m) := (by simp [World.cell?, unhide HAA2]); have y4 : w2.cell? ⟨ga, 4, none⟩ = some (.slice lp ll lc) := (by simp [World.cell?, unhide HAA2]); clear h1 h2 h3 z0 z1 z2 z3 HC; rcases h4 with ⟨rfl, hmay, hs2⟩ | ⟨rfl, hs2⟩ <;> have HS2 := hide hs2 <;> clear hs2) | (at_builtin; refine wp_oneA (ws := w2) rfl (.tmp 82) (.tmp 84) rfl w.heap.size u7 l ⟨0, bs, v, m, lp, lc, ls⟩ ll (unhide HLL) (by rfl) (by rfl) (unhide HM).row (unhide HM).bel.size (unhide HL1) ?_; intro v3 w3 h5 h6 h7 h8; have HM3 := hide ((unhide HM).app h5 h6 h7 h8); clear h5 h6 h7 h8))
        · go_roundg (L - i)
          case measure => omega
          have hs2 := unhide HS2
          subst hs2
          exact ⟨i + 1, ov2, _, _, by omega, by omega, by go_num, hide ((unhide HS1).took (X := ⟨0, bs, v, m, lp, lc, ls⟩) (a := (0, bs, v, m)) rfl (unhide H3) hmay (unhide HM3))⟩
        · go_roundg (L - i)
          case measure => omega
          have hs2 := unhide HS2
          subst hs2
          exact ⟨i + 1, ov2, _, _, by omega, by omega, by go_num, hide ((unhide HS1).refused (unhide HM))⟩
      · have e0 : (kd == 0) = false := by simpa using hk0
        by_cases hk1 : kd = 1
        · subst hk1
          have HC := hide (act_direct (unhide HS1).p (unhide HK) bs v m)
          go_wp2_with (first | (go_at_call 18; refine (unhide HC).mono ?_; rintro e w2 ⟨r, ov2, s2, rfl, h1, h2, h3, h4⟩; have HM := hide ((unhide HS1).mid.tch h1 h2); have H3 := hide h3; have HAA2 := hide ((unhide HS1).p.1.other h2 (unhide HAA) (by decide) (by decide) (by decide)); have y0 : w2.cell? ⟨ga, 0, none⟩ = some (.int .i64 1) := (by simp [World.cell?, unhide HAA2]); have y1 : w2.cell? ⟨ga, 1, none⟩ = some (.int .i64 bs) := (by simp [World.cell?, unhide HAA2]); have y2 : w2.cell? ⟨ga, 2, none⟩ = some (.int .i64 v) := (by simp [World.cell?, unhide HAA2]); have y3 : w2.cell? ⟨ga, 3, none⟩ = some (.int .i64 m) := (by simp [World.cell?, unhide HAA2]); have y4 : w2.cell? ⟨ga, 4, none⟩ = some (.slice lp ll lc) := (by simp [World.cell?, unhide HAA2]); clear h1 h2 h3 z0 z1 z2 z3 HC; rcases h4 with ⟨rfl, hmay, hs2⟩ | ⟨rfl, hs2⟩ <;> have HS2 := hide hs2 <;> clear hs2) | (at_builtin; refine wp_oneA (ws := w2) rfl (.tmp 82) (.tmp 84) rfl w.heap.size u7 l ⟨1, bs, v, m, lp, lc, ls⟩ ll (unhide HLL) (by rfl) (by rfl) (unhide HM).row (unhide HM).bel.size (unhide HL1) ?_; intro v3 w3 h5 h6 h7 h8; have HM3 := hide ((unhide HM).app h5 h6 h7 h8); clear h5 h6 h7 h8))
          · go_roundg (L - i)
            case measure => omega
            have hs2 := unhide HS2
            subst hs2
            exact ⟨i + 1, ov2, _, _, by omega, by omega, by go_num, hide ((unhide HS1).took (X := ⟨1, bs, v, m, lp, lc, ls⟩) (a := (1, bs, v, m)) rfl (unhide H3) hmay (unhide HM3))⟩
          · go_roundg (L - i)
            case measure => omega
            have hs2 := unhide HS2
            subst hs2
            exact ⟨i + 1, ov2, _, _, by omega, by omega, by go_num, hide ((unhide HS1).refused (unhide HM))⟩
        · have e1 : (kd == 1) = false := by simpa using hk1
          by_cases hk2 : kd = 2
          · subst hk2
            have HC := hide (act_tree (unhide HS1).p (unhide HK) bs v m (unhide HN))
            go_wp2_with (first | (go_at_call 20; refine (unhide HC).mono ?_; rintro e w2 ⟨r, ov2, s2, rfl, h1, h2, h3, h4⟩; have HM := hide ((unhide HS1).mid.tch h1 h2); have H3 := hide h3; have HAA2 := hide ((unhide HS1).p.1.other h2 (unhide HAA) (by decide) (by decide) (by decide)); have y0 : w2.cell? ⟨ga, 0, none⟩ = some (.int .i64 2) := (by simp [World.cell?, unhide HAA2]); have y1 : w2.cell? ⟨ga, 1, none⟩ = some (.int .i64 bs) := (by simp [World.cell?, unhide HAA2]); have y2 : w2.cell? ⟨ga, 2, none⟩ = some (.int .i64 v) := (by simp [World.cell?, unhide HAA2]); have y3 : w2.cell? ⟨ga, 3, none⟩ = some (.int .i64 m) := (by simp [World.cell?, unhide HAA2]); have y4 : w2.cell? ⟨ga, 4, none⟩ = some (.slice lp ll lc) := (by simp [World.cell?, unhide HAA2]); clear h1 h2 h3 z0 z1 z2 z3 HC; rcases h4 with ⟨rfl, hmay, hs2⟩ | ⟨rfl, hs2⟩ <;> have HS2 := hide hs2 <;> clear hs2) | (at_builtin; refine wp_oneA (ws := w2) rfl (.tmp 82) (.tmp 84) rfl w.heap.size u7 l ⟨2, bs, v, m, lp, lc, ls⟩ ll (unhide HLL) (by rfl) (by rfl) (unhide HM).row (unhide HM).bel.size (unhide HL1) ?_; intro v3 w3 h5 h6 h7 h8; have HM3 := hide ((unhide HM).app h5 h6 h7 h8); clear h5 h6 h7 h8))
            · go_roundg (L - i)
              case measure => omega
              have hs2 := unhide HS2
              subst hs2
              exact ⟨i + 1, ov2, _, _, by omega, by omega, by go_num, hide ((unhide HS1).took (X := ⟨2, bs, v, m, lp, lc, ls⟩) (a := (2, bs, v, m)) rfl (unhide H3) hmay (unhide HM3))⟩
            · go_roundg (L - i)
              case measure => omega
              have hs2 := unhide HS2
              subst hs2
              exact ⟨i + 1, ov2, _, _, by omega, by omega, by go_num, hide ((unhide HS1).refused (unhide HM))⟩
          · have e2 : (kd == 2) = false := by simpa using hk2
            by_cases hk3 : kd = 3
            · subst hk3
              have HC := hide (act_rev (unhide HS1).p (unhide HK) bs v m (unhide HN))
              go_wp2_with (first | (go_at_call 22; refine (unhide HC).mono ?_; rintro e w2 ⟨r, ov2, s2, rfl, h1, h2, h3, h4⟩; have HM := hide ((unhide HS1).mid.tch h1 h2); have H3 := hide h3; have HAA2 := hide ((unhide HS1).p.1.other h2 (unhide HAA) (by decide) (by decide) (by decide)); have y0 : w2.cell? ⟨ga, 0, none⟩ = some (.int .i64 3) := (by simp [World.cell?, unhide HAA2]); have y1 : w2.cell? ⟨ga, 1, none⟩ = some (.int .i64 bs) := (by simp [World.cell?, unhide HAA2]); have y2 : w2.cell? ⟨ga, 2, none⟩ = some (.int .i64 v) := (by simp [World.cell?, unhide HAA2]); have y3 : w2.cell? ⟨ga, 3, none⟩ = some (.int .i64 m) := (by simp [World.cell?, unhide HAA2]); have y4 : w2.cell? ⟨ga, 4, none⟩ = some (.slice lp ll lc) := (by simp [World.cell?, unhide HAA2]); clear h1 h2 h3 z0 z1 z2 z3 HC; rcases h4 with ⟨rfl, hmay, hs2⟩ | ⟨rfl, hs2⟩ <;> have HS2 := hide hs2 <;> clear hs2) | (at_builtin; refine wp_oneA (ws := w2) rfl (.tmp 82) (.tmp 84) rfl w.heap.size u7 l ⟨3, bs, v, m, lp, lc, ls⟩ ll (unhide HLL) (by rfl) (by rfl) (unhide HM).row (unhide HM).bel.size (unhide HL1) ?_; intro v3 w3 h5 h6 h7 h8; have HM3 := hide ((unhide HM).app h5 h6 h7 h8); clear h5 h6 h7 h8))
              · go_roundg (L - i)
                case measure => omega
                have hs2 := unhide HS2
                subst hs2
                exact ⟨i + 1, ov2, _, _, by omega, by omega, by go_num, hide ((unhide HS1).took (X := ⟨3, bs, v, m, lp, lc, ls⟩) (a := (3, bs, v, m)) rfl (unhide H3) hmay (unhide HM3))⟩
              · go_roundg (L - i)
                case measure => omega
                have hs2 := unhide HS2
                subst hs2
                exact ⟨i + 1, ov2, _, _, by omega, by omega, by go_num, hide ((unhide HS1).refused (unhide HM))⟩
            · have e3 : (kd == 3) = false := by simpa using hk3
              go_wp2_with fail
              go_roundg (L - i)
              case measure => omega
              exact ⟨i + 1, ov, _, _, by omega, by omega, by go_num, hide ((unhide HS1).refused (unhide HS1).mid)⟩
end Go.Proofs.Ytbolhbjipmndeaa.D
