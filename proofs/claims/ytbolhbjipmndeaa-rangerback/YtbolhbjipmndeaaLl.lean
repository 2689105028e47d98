/- RangerLikely's walk. -/
import Derived.Test.YtbolhbjipmndeaaLk
namespace Go.Proofs.Ytbolhbjipmndeaa.D
open Go.RowKit Rang
set_option maxRecDepth 100000
set_option linter.unusedVariables false
attribute [local go_sem ↓] Go.wp_at_zero Go.wp_at_succ

theorem PC.below {B : Nat} {w w' : World} {pb gc : Nat} {ov : Value} {c : Enc} {ch : List Nat} (h : PC B w pb gc ov c ch) (hb : Below w.heap.size w w') : PC B w' pb gc ov c ch :=
  ⟨⟨by rw [hb.block pb (heap_lt h.enc.cells)]; exact h.enc.cells, own_keep h.enc.row fun g eg => hb.block g (h.enc.row.lt g eg).2, h.enc.lo⟩, h.chs.of (hb.block gc h.chs.lt), h.lo⟩

theorem PS.below {B : Nat} {w w' : World} {pb gc : Nat} {ov : Value} {c : Enc} {ch : List Nat} {k : Nat} (h : PS B w pb gc ov c ch k) (hb : Below w.heap.size w w') : PS B w' pb gc ov c ch k := ⟨h.pc.below hb, h.wide, h.chs, Nat.le_trans h.base hb.size⟩

/-- what an encoder's calls change lies above where it was made -/
theorem PC.tch {B : Nat} {w0 w w' : World} {pb gc : Nat} {ov ov' : Value} {c : Enc} {ch : List Nat} (h : PC B w pb gc ov c ch) (hb : Below B w0 w) (ht : Tch w w' pb gc 0 ov ov') : Below B w0 w' :=
  ⟨ht.os.trans hb.os, ht.tape.trans hb.tape, ht.output.trans hb.output, Nat.le_trans hb.size ht.size, fun q hq => by
    rw [ht.keep q (by have := h.enc.lo; have := heap_lt h.enc.cells; omega) (by have := h.enc.lo; omega) (by have := h.lo; omega) (fun e => by have := (h.enc.row.lt q e).1; omega)]
    exact hb.block q hq⟩

theorem ar_n (o : Int) : ∃ n : Nat, n < 3000 ∧ Int.tmod (Int.tmod o 3000 + 3000) 3000 = (n : Int) ∧ IntKind.i64.wrap (Int.tmod o 3000 + 3000) = Int.tmod o 3000 + 3000 ∧ wrap64 (Int.tmod o 3000 + 3000) = Int.tmod o 3000 + 3000 := by
  have h1 := Int.tmod_lt_of_pos o (show (0 : Int) < 3000 by decide)
  have h2 : -3000 < Int.tmod o 3000 := by
    rcases Int.le_total 0 o with h | h
    · have := Int.tmod_nonneg 3000 h; omega
    · have := Int.tmod_lt_of_pos (-o) (show (0 : Int) < 3000 by decide)
      rw [Int.neg_tmod] at this
      omega
  generalize Int.tmod o 3000 = x at h1 h2
  have h3 : Int.tmod (x + 3000) 3000 = (x + 3000) % 3000 := Int.tmod_eq_emod_of_nonneg (by omega)
  rw [h3]
  refine ⟨((x + 3000) % 3000).toNat, by omega, by omega, ?_, IntWalk.wrap64_in _ (by omega)⟩
  rw [IntKind.wrap_i64]; omega

theorem wide_k {c : Enc} {T T' k k' : Nat} (h : Wide c T k) (h' : Wide c T' k') : k = k' := by
  have h1 := h.st.len
  have h2 := h'.st.len
  omega

set_option maxHeartbeats 8000000 in
theorem likely_law (o : Int) (bit : Bool) (w : World) : Calls Try.prog 7 #[.int .i64 o, .bool bit] w fun e w' => e = .returned (.bool true) ∧ Below w.heap.size w w' := by
  obtain ⟨n, hn, f1, f2, f3⟩ := ar_n o
  have HN := hide (pnew_ok 1 w (by omega))
  have fq : (n : Int).tdiv 128 = ((n / 128 : Nat) : Int) := by rw [Int.tdiv_eq_ediv_of_nonneg (by omega)]; omega
  obtain ⟨q, hq⟩ : ∃ q, q = n / 128 := ⟨_, rfl⟩
  rw [← hq] at fq
  have hq2 : q < 24 := by omega
  have HQ := hide hq
  clear hq
  cases bit
  · go_enter Try.func7, Try.ntmps7
    go_wp2_with (first | (go_at_call 8; refine (unhide HN).mono ?_; rintro e w1 ⟨pb, rfl, h1, h2⟩; have H1 := hide h1; have H2 := hide h2; clear h1 h2))
    clear HN f1 f2 f3
    obtain ⟨gc, hgc⟩ : ∃ gc, gc = w.heap.size := ⟨_, rfl⟩
    go_loopg [9] n (fun gk d ws => ∃ (i : Nat) (ov : Value) (k : Nat), i + gk = n ∧ d = .int .i64 (i : Int) ∧ Hid (PS w.heap.size ws pb w.heap.size ov (lkC false i) [lkP false i] k) ∧ Hid (Below w.heap.size w ws) ∧ Hid (k ≤ i))
    case atStart => exact ⟨0, _, 0, by omega, rfl, H1, H2, hide (Nat.le_refl _)⟩
    case round =>
      clear H1 H2
      obtain ⟨i, ov, k, hi, rfl, HE, HB, HK⟩ := hrel
      by_cases hlt : i < n
      · have tl : (i : Int) < (n : Int) := by omega
        have HP := hide (pbit_ok w.heap.size pb w.heap.size wr ov (lkC false i) [lkP false i] k 0 false (unhide HE) (by simp) (by have := unhide HK; omega))
        go_upto_region 13 with (first | (go_at_call 16; refine (unhide HP).mono ?_; rintro e w2 ⟨rfl, ov2, k2, h1, h2, h3⟩; have H1 : Hid (PS w.heap.size w2 pb w.heap.size ov2 (lkC false (i + 1)) [lkP false (i + 1)] k2) := hide h1; have H2 := hide h2; have H3 := hide ((unhide HE).pc.tch (unhide HB) h3); clear h1 h2 h3 HP))
        clear HE HB
        have HC := hide (pchances_ok w.heap.size pb w.heap.size w2 ov2 _ _ (unhide H1).pc (unhide H1).chs (by simp))
        obtain ⟨p, hp⟩ : ∃ p, p = lkP false (i + 1) := ⟨_, rfl⟩
        have hp1 := lkP_ok false (i + 1)
        have hp2 := (lkP_side i).1
        rw [← hp] at hp1 hp2 HC
        have t1 : ¬ (p : Int) < 31 := by omega
        have t2 : ¬ (2017 : Int) < (p : Int) := by omega
        have t3 : (1024 : Int) < (p : Int) := by omega
        have HPP := hide hp
        clear hp hp1 hp2
        go_wp2_with (first | (go_at_call 15; refine (unhide HC).mono ?_; rintro e w3 ⟨rfl, h1, h2⟩; have c0 := h1.cell 0 (by simp); have HB3 := hide h2; clear h1 h2 HC))
        go_roundg (n - (i + 1))
        case measure => omega
        case rel => exact ⟨i + 1, ov2, k2, by omega, by go_num, hide ((unhide H1).below (unhide HB3)), hide ((unhide H3).trans ((unhide HB3).mono (unhide H3).size)), hide (by have := unhide HK; have := unhide H2; omega)⟩
      · obtain rfl : n = i := by omega
        have tl : ¬ (n : Int) < (n : Int) := by omega
        obtain ⟨T, hw, hr⟩ := lkC_wide false n
        have hbw := bytes_wide hw
        have hfew := lk_few false n hn
        have HY := hide (pbytes_ok w.heap.size pb wr _ ov (lkC false n) T (lkR false n).2 (unhide HE).pc.enc hw (by omega) _ _ _ rfl)
        obtain ⟨L, hL⟩ : ∃ L, L = (bytesE (lkC false n)).length := ⟨_, rfl⟩
        have tL : (L : Int) ≤ 25 + (q : Int) := by have := hbw.2.1; have := unhide HQ; omega
        have HLL := hide hL
        clear hL hbw hfew hw hr
        go_wp2_with (first | (go_at_call 12; refine (unhide HY).mono ?_; rintro e w3 ⟨v, rfl, h1⟩; obtain ⟨a, c, e⟩ := h1.len; rw [← unhide HLL] at e; subst e; have HB3 := hide h1.bel; clear h1 HY))
        go_ret
        exact ⟨rfl, (unhide HB).trans ((unhide HB3).mono (unhide HB).size)⟩
  · go_enter Try.func7, Try.ntmps7
    go_wp2_with (first | (go_at_call 8; refine (unhide HN).mono ?_; rintro e w1 ⟨pb, rfl, h1, h2⟩; have H1 := hide h1; have H2 := hide h2; clear h1 h2))
    clear HN f1 f2 f3
    obtain ⟨gc, hgc⟩ : ∃ gc, gc = w.heap.size := ⟨_, rfl⟩
    go_loopg [9] n (fun gk d ws => ∃ (i : Nat) (ov : Value) (k : Nat), i + gk = n ∧ d = .int .i64 (i : Int) ∧ Hid (PS w.heap.size ws pb w.heap.size ov (lkC true i) [lkP true i] k) ∧ Hid (Below w.heap.size w ws) ∧ Hid (k ≤ i))
    case atStart => exact ⟨0, _, 0, by omega, rfl, H1, H2, hide (Nat.le_refl _)⟩
    case round =>
      clear H1 H2
      obtain ⟨i, ov, k, hi, rfl, HE, HB, HK⟩ := hrel
      by_cases hlt : i < n
      · have tl : (i : Int) < (n : Int) := by omega
        have HP := hide (pbit_ok w.heap.size pb w.heap.size wr ov (lkC true i) [lkP true i] k 0 true (unhide HE) (by simp) (by have := unhide HK; omega))
        go_upto_region 13 with (first | (go_at_call 16; refine (unhide HP).mono ?_; rintro e w2 ⟨rfl, ov2, k2, h1, h2, h3⟩; have H1 : Hid (PS w.heap.size w2 pb w.heap.size ov2 (lkC true (i + 1)) [lkP true (i + 1)] k2) := hide h1; have H2 := hide h2; have H3 := hide ((unhide HE).pc.tch (unhide HB) h3); clear h1 h2 h3 HP))
        clear HE HB
        have HC := hide (pchances_ok w.heap.size pb w.heap.size w2 ov2 _ _ (unhide H1).pc (unhide H1).chs (by simp))
        obtain ⟨p, hp⟩ : ∃ p, p = lkP true (i + 1) := ⟨_, rfl⟩
        have hp1 := lkP_ok true (i + 1)
        have hp2 := (lkP_side i).2
        rw [← hp] at hp1 hp2 HC
        have t1 : ¬ (p : Int) < 31 := by omega
        have t2 : ¬ (2017 : Int) < (p : Int) := by omega
        have t3 : ¬ (1024 : Int) < (p : Int) := by omega
        have HPP := hide hp
        clear hp hp1 hp2
        go_wp2_with (first | (go_at_call 15; refine (unhide HC).mono ?_; rintro e w3 ⟨rfl, h1, h2⟩; have c0 := h1.cell 0 (by simp); have HB3 := hide h2; clear h1 h2 HC))
        go_roundg (n - (i + 1))
        case measure => omega
        case rel => exact ⟨i + 1, ov2, k2, by omega, by go_num, hide ((unhide H1).below (unhide HB3)), hide ((unhide H3).trans ((unhide HB3).mono (unhide H3).size)), hide (by have := unhide HK; have := unhide H2; omega)⟩
      · obtain rfl : n = i := by omega
        have tl : ¬ (n : Int) < (n : Int) := by omega
        obtain ⟨T, hw, hr⟩ := lkC_wide true n
        have hbw := bytes_wide hw
        have hfew := lk_few true n hn
        have HY := hide (pbytes_ok w.heap.size pb wr _ ov (lkC true n) T (lkR true n).2 (unhide HE).pc.enc hw (by omega) _ _ _ rfl)
        obtain ⟨L, hL⟩ : ∃ L, L = (bytesE (lkC true n)).length := ⟨_, rfl⟩
        have tL : (L : Int) ≤ 25 + (q : Int) := by have := hbw.2.1; have := unhide HQ; omega
        have HLL := hide hL
        clear hL hbw hfew hw hr
        go_wp2_with (first | (go_at_call 12; refine (unhide HY).mono ?_; rintro e w3 ⟨v, rfl, h1⟩; obtain ⟨a, c, e⟩ := h1.len; rw [← unhide HLL] at e; subst e; have HB3 := hide h1.bel; clear h1 HY))
        go_ret
        exact ⟨rfl, (unhide HB).trans ((unhide HB3).mono (unhide HB).size)⟩
end Go.Proofs.Ytbolhbjipmndeaa.D
