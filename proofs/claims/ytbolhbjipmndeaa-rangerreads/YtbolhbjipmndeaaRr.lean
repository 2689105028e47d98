/- RangerReads' walk. -/
import Derived.Test.YtbolhbjipmndeaaQf
import Derived.Test.YtbolhbjipmndeaaWr
namespace Go.Proofs.Ytbolhbjipmndeaa.D
open Go.RowKit Rang
set_option maxRecDepth 100000
set_option linter.unusedVariables false
attribute [local go_sem ↓] Go.wp_at_zero Go.wp_at_succ

set_option maxHeartbeats 2000000 in
theorem spoilt_rd (lo hi : Nat) (vx vw : Value) (l : List Nat) (w : World) (hx : Row lo hi w vx .u8 5 l) (hw : Reads w vw l) (hl : ∀ z ∈ l, z < 256) (hn : l.length ≤ 140737488355328) :
    Calls Try.prog 11 #[vx, vw] w fun e w' => e = .returned (.bool true) ∧ Chg lo hi w w' := by
  have c1 := conv_reads hx.reads hl
  have c2 := conv_reads hw hl
  obtain ⟨a, cap, rfl, hs⟩ := hx
  obtain ⟨a', cap', rfl, _⟩ := hw
  obtain ⟨n, hN⟩ : ∃ n, n = l.length := ⟨_, rfl⟩
  have HN := hide hN
  have HL := hide hl
  rw [← hN] at c1 c2 hn ⊢
  have HS := hide hs
  clear hN hs hl
  go_enter Try.func11, Try.ntmps11
  go_wp2_with fail
  clear c1 c2
  go_loopg [5] n (fun gk c ws => ∃ i : Nat, gk = n - i ∧ i ≤ n ∧ c = .int .i64 (i : Int) ∧ Hid (Chg lo hi w ws ∧ ∀ g, (0 < n → a = some ⟨g, 0, none⟩) → 0 < n → CellsFrom ws g .u8 5 l i))
  case atStart =>
    refine ⟨0, by omega, by omega, rfl, hide ⟨Chg.refl _ _ _, fun g hg h0 => ?_⟩⟩
    obtain ⟨g', cs, e, _, _, h3, h4⟩ := unhide HS (by rw [← unhide HN]; exact h0)
    rw [hg h0] at e
    injection e with e
    injection e with e
    subst e
    exact ⟨cs, h3, fun j _ hj => h4 j hj⟩
  case round =>
    obtain ⟨i, rfl, hin, rfl, HI⟩ := hrel
    rename World => wi
    by_cases hil : i < n
    · have ti : (i : Int) < (n : Int) := by omega
      obtain ⟨g, cs, rfl, hg1, hg2, _, _⟩ := unhide HS (by rw [← unhide HN]; omega)
      obtain ⟨d1, d2⟩ := ((unhide HI).2 g (fun _ => rfl) (by omega)).cell (by rw [← unhide HN]; exact hil)
      generalize l.getD i 0 = x at *
      go_wp2_with fail
      go_roundg (n - (i + 1))
      case measure => omega
      case rel =>
        refine ⟨i + 1, rfl, by omega, by go_num, hide ⟨(unhide HI).1.set i _ hg1 hg2, fun g' hg' h0 => ?_⟩⟩
        have e := hg' h0
        injection e with e
        injection e with e
        subst e
        exact ((unhide HI).2 g (fun _ => rfl) h0).set _
    · obtain rfl : i = n := by omega
      have ti : ¬ (i : Int) < (i : Int) := by omega
      go_wp2_with fail
      go_ret
      exact ⟨rfl, (unhide HI).1⟩


theorem SrcB.reads {w : World} {a0 : Option Addr} {cap : Nat} {b : List Nat} (h : SrcB w a0 cap b) : Reads w (.slice a0 b.length cap) b := by
  refine ⟨a0, cap, rfl, fun h0 => ?_⟩
  rcases h with ⟨_, _, rfl⟩ | ⟨ad, rfl, hc⟩
  · simp at h0
  · exact ⟨ad, rfl, hc⟩

theorem SrcB.bytes {w : World} {a0 : Option Addr} {cap : Nat} {b : List Nat} (h : SrcB w a0 cap b) : BytesIn w a0 b := fun j hj => by
  obtain ⟨g, off, e, hc⟩ := h.spot (by omega)
  exact ⟨g, off, e, hc j hj⟩

theorem CopyB.src {ws w' : World} {v' : Value} {b : List Nat} (h : CopyB ws w' v' b) : ∃ g cap, v' = .slice (some ⟨g, 0, none⟩) b.length cap ∧ ws.heap.size ≤ g ∧ g < w'.heap.size ∧ b.length ≤ cap ∧ SrcB w' (some ⟨g, 0, none⟩) cap b ∧ Row g (g + 1) w' v' .u8 5 b := by
  obtain ⟨g, cap, sp, e, h1, h2, h3⟩ := h.shape
  refine ⟨g, cap, e, h1, heap_lt h3, h2, .inr ⟨_, rfl, fun j u hj => ?_⟩, ?_⟩
  · have hj2 : j < b.length := by have := (List.getElem?_eq_some_iff.1 hj).1; simpa using this
    have e : (⟨g, 0, none⟩ : Addr).add j = ⟨g, j, none⟩ := by rw [Addr.add_mid, Nat.zero_add]
    rw [e]
    simp only [World.cell?, h3]
    rw [List.getElem?_toArray, List.getElem?_append_left (by simpa using hj2)]
    exact hj
  · subst e
    refine ⟨_, _, rfl, fun _ => ⟨g, _, rfl, Nat.le_refl _, by omega, h3, fun j hj => ?_⟩⟩
    simp [List.getElem?_append, hj, bv, List.getD_eq_getElem?_getD]

theorem DAt.rowD {w : World} {qb gd cc : Nat} {ba : Option Addr} {bc : Nat} {Bs : List Nat} {d : Dec} {ch : List Nat} (h : DAt w qb gd cc ba bc Bs d ch) : Row gd (gd + 1) w (.slice (some ⟨gd, 0, none⟩) ch.length cc) .i64 3 ch := by
  obtain ⟨sp, hs⟩ := h.chs
  refine ⟨_, _, rfl, fun _ => ⟨gd, _, rfl, Nat.le_refl _, by omega, hs, fun j hj => ?_⟩⟩
  simp [List.getElem?_append, hj, List.getD_eq_getElem?_getD]

/-- An operation that is not wanted is passed by. -/
theorem held_drop {P : Program} {md : Region.Mode} {ops : Array Oper} {Q : Exit → Act → World → Prop} {S : World → Prop} {oi : Oper} {fuel : Nat} {listed : Array Bool} {l : List Value} {df : List Deferred} {w : World} (i d : Nat) (hi : ops[i]? = some oi) (hd : oi.dst = some d)
    (hs : Region.noSelect ops = true) (hf : Region.free md ops listed i = true) (hr : (Region.ready md ops listed).contains i = true)
    (hw : Region.wanted oi (yielded ops l.toArray) = false) (hS : S w) (hQ : ∀ c a w, ¬ Q (.panic c) a w)
    (h : wpAnyH P md ops Q S fuel (listed.setIfInBounds i true) ⟨(l.set d undef).toArray, df⟩ w) : wpAnyH P md ops Q S (fuel + 1) listed ⟨l.toArray, df⟩ w := by
  refine wpAnyH_take (i := i) (v := undef) hi hs hf hr (fun c a w h => absurd h (hQ _ _ _)) (Or.inr ⟨hw, rfl⟩) hS ?_
  have e : Act.put (⟨l.toArray, df⟩ : Act) oi.dst undef = ⟨(l.set d undef).toArray, df⟩ := by rw [hd]; simp [Act.put]
  rw [e]
  exact h

set_option maxHeartbeats 8000000 in
theorem reads_bad (n ec : Int) (a0 : Option Addr) (cap : Nat) (Bs : List Nat) (b1 : Option Addr) (L cap2 : Nat) (w : World) (hB : SrcB w a0 cap Bs) (hl : Bs.length ≤ 140737488351232) (hs : ∀ z ∈ Bs, z < 256) (hL : L ≤ 2513169435000)
    (hq : ∀ W a cap, SrcB W a cap Bs → Calls Try.prog 25 #[.slice a Bs.length cap, .int .i64 n] W fun e w' => e = .returned (.tuple #[.pointer none, .int .i64 ec]) ∧ W = w')
    (hd : ∀ W a cap, SrcB W a cap Bs → Calls Try.prog 26 #[.slice a Bs.length cap, .int .i64 n] W fun e w' => e = .returned (.tuple #[.pointer none, .int .i64 ec]) ∧ W = w') :
    Calls Try.prog 4 #[.slice a0 Bs.length cap, .int .i64 n, .slice b1 L cap2] w fun e w' => e = .returned (.bool true) ∧ Below w.heap.size w w' := by
  have HB := hide hB
  have HS := hide hs
  have HQ := hide hq
  have HD := hide hd
  obtain ⟨m, hm⟩ : ∃ m, m = Bs.length := ⟨_, rfl⟩
  have HM := hide (And.intro hm.symm hl)
  rw [← hm] at HQ HD ⊢
  have t1 : (0 : Int) ≤ (L : Int) := by omega
  have t2 : (ec != ec) = false := by simp
  clear hB hs hq hd hm hl
  go_enter Try.func4, Try.ntmps4
  go_wp2_with (first | (at_builtin; refine wp_catB (ws := w) rfl (.tmp 18) (.tmp 19) rfl Bs a0 m cap (by simp [go_sem]) (by simp [go_sem]) (unhide HM).1 (unhide HB) (Nat.le_trans (unhide HM).2 (by decide)) ?_; intro v5 w5 h5; obtain ⟨g5, c5, e5, h6, h7, h8, h9, h10⟩ := h5.src; subst e5; rw [(unhide HM).1] at h10 ⊢; have H5 := hide h5.bel; have H9 := hide h9; have H10 := hide h10; have H6 := hide h6; clear h5 h6 h7 h8 h9 h10) | (go_at_call 25; refine (unhide HQ w5 _ c5 (unhide H9)).mono ?_; rintro e w6 ⟨rfl, rfl⟩) | (go_at_call 11; refine (spoilt_rd g5 (g5 + 1) _ _ Bs _ (unhide H10) ((unhide HM).1 ▸ ((unhide HB).stays (unhide H5)).reads) (unhide HS) (Nat.le_trans (unhide HM).2 (by decide))).mono ?_; rintro e w7 ⟨rfl, h7⟩; have H7 := hide (h7.below (unhide H5) (unhide H6) (unhide H5).size); clear h7) | (go_at_call 26; refine (unhide HD w7 _ cap ((unhide HB).stays (unhide H7))).mono ?_; rintro e w8 ⟨rfl, rfl⟩) | (go_at_call 10; refine (names_ok _).mono ?_; rintro e w9 ⟨rfl, rfl⟩))
  go_loopg [12] 0 (fun gk d ws => gk = 0 ∧ d = .int .i64 0 ∧ Hid (Below w.heap.size w ws))
  case atStart => exact ⟨rfl, rfl, H7⟩
  case round =>
    obtain ⟨rfl, rfl, H8⟩ := hrel
    go_wp2_with fail
    go_ret
    exact ⟨rfl, unhide H8⟩

/-- where the loop stands -/
structure StandQ (w0 w : World) (pb gc gr : Nat) (rcs : Array Value) (qb n : Nat) (gd cc : Nat) (ba : Option Addr) (bc : Nat) (Bs : List Nat) (d : Dec) (ch : List Nat) : Prop where
  two : TwoQ w0.heap.size w pb gc gr rcs qb gd cc ba bc Bs d ch d ch
  len : ch.length = n
  bel : Below w0.heap.size w0 w

set_option maxHeartbeats 8000000 in
theorem reads_law (n : Nat) (a0 : Option Addr) (cap : Nat) (Bs : List Nat) (b1 : Option Addr) (b off L cap2 : Nat) (A : Nat → ActD) (w : World) (hn : n ≤ 65536) (hB : SrcB w a0 cap Bs) (hl : Bs.length ≤ 140737488351232) (h5 : 5 ≤ Bs.length) (hz : Bs.getD 0 0 = 0) (hs : ∀ z ∈ Bs, z < 256) (hal : 0 < L → b1 = some ⟨b, off, none⟩) (hA : Acts w b off L A) (hL : L ≤ 2513169435000) :
    Calls Try.prog 4 #[.slice a0 Bs.length cap, .int .i64 (n : Int), .slice b1 L cap2] w fun e w' => e = .returned (.bool true) ∧ Below w.heap.size w w' := by
  have HBS := hide hB
  have HS := hide hs
  have HAL := hide hal
  have HA := hide hA
  have HZ := hide hz
  have HBL : Hid (∀ g off, a0 = some ⟨g, off, none⟩ → 0 < Bs.length → g < w.heap.size) := hide fun g off e h0 => by
    obtain ⟨g', off', e', c⟩ := hB.bytes 0 h0
    rw [e] at e'
    injection e' with e'
    injection e' with e1 e2
    subst e1
    exact cell_lt c
  obtain ⟨m, hm⟩ : ∃ m, m = Bs.length := ⟨_, rfl⟩
  have HM := hide (And.intro hm.symm (And.intro hl h5))
  rw [← hm]
  clear hB hs hal hA hm hl h5 hz
  go_enter Try.func4, Try.ntmps4
  go_wp2_with (first | (at_builtin; refine wp_catB (ws := w) rfl (.tmp 18) (.tmp 19) rfl Bs a0 m cap (by simp [go_sem]) (by simp [go_sem]) (unhide HM).1 (unhide HBS) (Nat.le_trans (unhide HM).2.1 (by decide)) ?_; intro v5 w5 h5; obtain ⟨g5, c5, e5, h6, h7, h8, h9, h10⟩ := h5.src; subst e5; rw [(unhide HM).1] at h10 ⊢; have H5 := hide h5.bel; have H9 := hide h9; have H10 := hide h10; have H6 := hide h6; have H11 := hide (And.intro h7 h8); clear h5 h6 h7 h8 h9 h10) | (go_at_call 25; refine ((unhide HM).1 ▸ qnew_ok _ c5 Bs n w5 hn (unhide HM).2.2 (unhide H11).2 (Nat.le_trans (unhide HM).2.1 (by decide)) (unhide H9) (unhide HS) (unhide HZ)).mono ?_; rintro e w6 ⟨pb, gc, gr, rcs, rfl, h12, h13, h14⟩; have H12 := hide h12; have H13 := hide h13; have H14 := hide h14; clear h12 h13 h14) | (go_at_call 11; refine (spoilt_rd g5 (g5 + 1) _ _ Bs _ ((unhide H10).of_below (unhide H13)) ((unhide HM).1 ▸ ((unhide HBS).stays ((unhide H5).trans ((unhide H13).mono (unhide H5).size))).reads) (unhide HS) (Nat.le_trans (unhide HM).2.1 (by decide))).mono ?_; rintro e w7 ⟨rfl, h7⟩; have H7 := hide h7; have H8 := hide (h7.below ((unhide H5).trans ((unhide H13).mono (unhide H5).size)) (unhide H6) (Nat.le_trans (unhide H5).size (unhide H13).size)); clear h7) | (go_at_call 26; refine ((unhide HM).1 ▸ newd_ok a0 cap Bs n w7 hn (unhide HM).2.2 (Nat.le_trans (unhide HM).2.1 (by decide)) ((unhide HBS).stays (unhide H8)).bytes (unhide HS) (unhide HZ)).mono ?_; rintro e w8 ⟨qb, rfl, h15, h16, h17⟩; have H15 := hide h15; have H16 := hide h16; have H17 := hide h17; clear h15 h16 h17) | (go_at_call 10; refine (names_ok _).mono ?_; rintro e w9 ⟨rfl, rfl⟩))
  have HST : Hid (StandQ w w9 pb gc gr rcs qb n w7.heap.size n a0 cap Bs (dec0 Bs) (List.replicate n 1024)) := hide (by
    have hz5 := (unhide H5).size
    have hz13 := (unhide H13).size
    have hl14 := unhide H14
    have hq7 : QS w7 pb gc gr rcs Bs (dec0 Bs) (List.replicate n 1024) := by
      obtain ⟨o, rc, hq⟩ := (unhide H12).qa
      have kp : ∀ k, k < w6.heap.size → w5.heap.size ≤ k → w7.heap[k]? = w6.heap[k]? := fun k hk h1 => (unhide H7).keep k hk (.inr (by have := (unhide H11).1; omega))
      exact (unhide H12).of (kp pb (heap_lt hq.cells) hl14.1) (kp gc hq.chs.lt hl14.2.1) (kp gr (heap_lt hq.row) hl14.2.2)
    have hq9 : QS w9 pb gc gr rcs Bs (dec0 Bs) (List.replicate n 1024) := by
      obtain ⟨o, rc, hq⟩ := hq7.qa
      exact hq7.of ((unhide H16).block _ (heap_lt hq.cells)) ((unhide H16).block _ hq.chs.lt) ((unhide H16).block _ (heap_lt hq.row))
    have hz8 := (unhide H8).size
    exact ⟨⟨hq9, unhide H15, ⟨by omega, by omega, by omega, by have := unhide H17; omega, by omega⟩, unhide HBL⟩, by simp, (unhide H8).trans ((unhide H16).mono hz8)⟩)
  clear H5 H6 H7 H8 H9 H10 H11 H12 H13 H14 H15 H16 H17 HBL HBS HZ
  go_loopg [12] (L + 1) (fun gk dv ws => ∃ (i : Nat) (gd cc : Nat) (d : Dec) (ch : List Nat), i + gk = L + 1 ∧ i ≤ L ∧ dv = .int .i64 (i : Int) ∧ Hid (StandQ w ws pb gc gr rcs qb n gd cc a0 cap Bs d ch))
  case atStart => exact ⟨0, _, _, _, _, by omega, by omega, rfl, HST⟩
  case round =>
    clear HST
    obtain ⟨i, gd, cc, d, ch, hi, hiL, rfl, HST⟩ := hrel
    have t0 : (i : Int) ≤ (L : Int) := by omega
    have HB := hide (Below.refl wr.heap.size wr)
    go_upto_region 10 with fail
    go_cut [88] from 60 to 87 (fun v wx => v = .bool false ∧ Hid (StandQ w wx pb gc gr rcs qb n gd cc a0 cap Bs d ch))
    case first =>
      have HQ : Hid (∀ W, Below wr.heap.size wr W → W.cell? ⟨qb, 0, none⟩ = some (.slice (some ⟨gd, 0, none⟩) n cc)) := hide fun W hW => by rw [← (unhide HST).len]; exact ((unhide HST).two.below hW).e.da.chv
      have HROW : Hid True := hide True.intro
      obtain ⟨bb, hbb⟩ : ∃ bb, bb = doneB Bs d := ⟨_, rfl⟩
      have HDN : Hid (∀ W, QS W pb gc gr rcs Bs d ch → Calls Try.prog 27 #[.pointer (some ⟨pb, 0, none⟩)] W fun e w' => e = .returned (.bool bb) ∧ w' = W) := hide fun W hW => by rw [hbb]; exact qdone_ok W pb gc gr rcs Bs d ch hW
      have HDE : Hid (∀ W, DS W qb gd cc a0 cap Bs d ch → Calls Try.prog 28 #[.pointer (some ⟨qb, 0, none⟩)] W fun e w' => e = .returned (.bool bb) ∧ DS w' qb gd cc a0 cap Bs d ch ∧ QT W w' qb gd) := hide fun W hW => by
        rw [hbb]
        refine (done_ok W qb gd cc a0 cap Bs d ch hW.da).mono ?_
        rintro e w' ⟨rfl, h1, h2⟩
        exact ⟨rfl, ⟨h1, hW.good, hW.chs, hW.len⟩, h2.qt⟩
      clear hbb
      have tb : (bb != bb) = false := by simp
      have HB1 : Hid (Below wr.heap.size wr wr.drew) := hide (Below.refl _ _).drew
      have HNN : Hid (ch.length ≤ 65536) := hide (by rw [(unhide HST).len]; exact hn)
      have HNL : Hid (ch.length ≤ 100000000000000) := hide (by rw [(unhide HST).len]; omega)
      clear HB
      by_cases h100 : n < 100
      · have t1 : (n : Int) < 100 := by omega
        refine wp_region_noPanic ?_
        refine wp_region_held_drew (S := fun x => x.cell? ⟨qb, 0, none⟩ = some (.slice (some ⟨gd, 0, none⟩) n cc)) (by kernel_rfl) (unhide HQ _ (unhide HB1)) (fun hHeld => ?_)
        show wpAnyH _ _ _ _ _ _ _ _ wr.drew
        have HB := HB1
        generalize wr.drew = x1 at HB hHeld ⊢
        clear HB1
        refine held_take 0 60 rfl rfl (by kernel_rfl) (by kernel_rfl) (by kernel_rfl) (by rfl) hHeld noPanic_panic (v := ?_) (fun x hSx => ?_) ?_
        rotate_left 1
        · (obtain s0 := hSx; go_simp <;> with_reducible rfl)
        simp only [List.set_cons_zero, List.set_cons_succ]
        refine held_take 2 62 rfl rfl (by kernel_rfl) (by kernel_rfl) (by kernel_rfl) (by rfl) hHeld noPanic_panic (v := ?_) (fun x hSx => ?_) ?_
        rotate_left 1
        · (obtain s0 := hSx; go_simp <;> with_reducible rfl)
        simp only [List.set_cons_zero, List.set_cons_succ]
        refine held_enter 1 61 (by kernel_rfl) rfl rfl (by rfl) (by go_simp <;> exact ⟨rfl, rfl⟩) ?_
        refine (unhide HDN _ ((unhide HST).two.below (unhide HB)).q).mono ?_
        rintro e wy ⟨rfl, rfl⟩
        have hHeld := unhide HQ _ (unhide HB)
        refine ⟨_, rfl, hHeld, ?_⟩
        simp only [List.set_cons_zero, List.set_cons_succ]
        refine held_enter 3 63 (by kernel_rfl) rfl rfl (by rfl) (by go_simp <;> exact ⟨rfl, rfl⟩) ?_
        refine (unhide HDE _ ((unhide HST).two.below (unhide HB)).e).mono ?_
        rintro e wz ⟨rfl, h1, h2⟩
        have HST2 : Hid (StandQ w wz pb gc gr rcs qb n gd cc a0 cap Bs d ch) := hide ⟨((unhide HST).two.below (unhide HB)).stepE h1 h2, (unhide HST).len, ((unhide HST).two.below (unhide HB)).tchE ((unhide HST).bel.trans ((unhide HB).mono (unhide HST).bel.size)) h2⟩
        clear HB HQ HROW h1 h2
        have HST := HST2
        have HB := hide (Below.refl wz.heap.size wz)
        have HQ : Hid (∀ W, Below wz.heap.size wz W → W.cell? ⟨qb, 0, none⟩ = some (.slice (some ⟨gd, 0, none⟩) n cc)) := hide fun W hW => by rw [← (unhide HST).len]; exact ((unhide HST).two.below hW).e.da.chv
        have HROW : Hid (∀ W, Below wz.heap.size wz W → Row gd (gd + 1) W (.slice (some ⟨gd, 0, none⟩) n cc) .i64 3 ch) := hide fun W hW => by rw [← (unhide HST).len]; exact ((unhide HST).two.below hW).e.da.rowD
        have HGL := hide (unhide HST).two.lts.2.2.2.2
        have hHeld := unhide HQ _ (unhide HB)
        refine ⟨_, rfl, hHeld, ?_⟩
        simp only [List.set_cons_zero, List.set_cons_succ]
        refine held_take 4 64 rfl rfl (by kernel_rfl) (by kernel_rfl) (by kernel_rfl) (by rfl) hHeld noPanic_panic (v := ?_) (fun x hSx => ?_) ?_
        rotate_left 1
        · (obtain s0 := hSx; go_simp <;> with_reducible rfl)
        simp only [List.set_cons_zero, List.set_cons_succ]
        refine held_take 5 65 rfl rfl (by kernel_rfl) (by kernel_rfl) (by kernel_rfl) (by rfl) hHeld noPanic_panic (v := ?_) (fun x hSx => ?_) ?_
        rotate_left 1
        · (obtain s0 := hSx; go_simp <;> with_reducible rfl)
        simp only [List.set_cons_zero, List.set_cons_succ]
        refine held_take 6 66 rfl rfl (by kernel_rfl) (by kernel_rfl) (by kernel_rfl) (by rfl) hHeld noPanic_panic (v := ?_) (fun x hSx => ?_) ?_
        rotate_left 1
        · (obtain s0 := hSx; go_simp <;> with_reducible rfl)
        simp only [List.set_cons_zero, List.set_cons_succ]
        refine held_take 7 67 rfl rfl (by kernel_rfl) (by kernel_rfl) (by kernel_rfl) (by rfl) hHeld noPanic_panic (v := ?_) (fun x hSx => ?_) ?_
        rotate_left 1
        · (obtain s0 := hSx; go_simp <;> with_reducible rfl)
        simp only [List.set_cons_zero, List.set_cons_succ]
        refine held_take 8 68 rfl rfl (by kernel_rfl) (by kernel_rfl) (by kernel_rfl) (by rfl) hHeld noPanic_panic (v := ?_) (fun x hSx => ?_) ?_
        rotate_left 1
        · (obtain s0 := hSx; go_simp <;> with_reducible rfl)
        simp only [List.set_cons_zero, List.set_cons_succ]
        refine held_take 9 69 rfl rfl (by kernel_rfl) (by kernel_rfl) (by kernel_rfl) (by rfl) hHeld noPanic_panic (v := ?_) (fun x hSx => ?_) ?_
        rotate_left 1
        · (obtain s0 := hSx; go_simp <;> with_reducible rfl)
        simp only [List.set_cons_zero, List.set_cons_succ]
        refine held_take 11 71 rfl rfl (by kernel_rfl) (by kernel_rfl) (by kernel_rfl) (by rfl) hHeld noPanic_panic (v := ?_) (fun x hSx => ?_) ?_
        rotate_left 1
        · (obtain s0 := hSx; go_simp <;> with_reducible rfl)
        simp only [List.set_cons_zero, List.set_cons_succ]
        refine held_take 12 72 rfl rfl (by kernel_rfl) (by kernel_rfl) (by kernel_rfl) (by rfl) hHeld noPanic_panic (v := ?_) (fun x hSx => ?_) ?_
        rotate_left 1
        · (obtain s0 := hSx; go_simp <;> with_reducible rfl)
        simp only [List.set_cons_zero, List.set_cons_succ]
        refine held_take 13 73 rfl rfl (by kernel_rfl) (by kernel_rfl) (by kernel_rfl) (by rfl) hHeld noPanic_panic (v := ?_) (fun x hSx => ?_) ?_
        rotate_left 1
        · (obtain s0 := hSx; go_simp <;> with_reducible rfl)
        simp only [List.set_cons_zero, List.set_cons_succ]
        refine held_take 14 74 rfl rfl (by kernel_rfl) (by kernel_rfl) (by kernel_rfl) (by rfl) hHeld noPanic_panic (v := ?_) (fun x hSx => ?_) ?_
        rotate_left 1
        · (obtain s0 := hSx; go_simp <;> with_reducible rfl)
        simp only [List.set_cons_zero, List.set_cons_succ]
        refine held_enter 10 70 (by kernel_rfl) rfl rfl (by rfl) (by go_simp <;> exact ⟨rfl, rfl⟩) ?_
        refine (qchances_ok _ pb gc gr rcs Bs d ch ((unhide HST).two.below (unhide HB)).q (unhide HNN)).mono ?_
        rintro e wy ⟨rfl, h1, h2⟩
        have hR1 := ints_row h1
        rw [(unhide HST).len] at hR1
        have HR1 := hide hR1
        clear hR1
        have HLO := hide (unhide HB).size
        have HB := hide ((unhide HB).trans (h2.mono (unhide HB).size))
        have HGD := hide (Nat.lt_of_lt_of_le (unhide HGL) (unhide HLO))
        clear h1 h2
        rw [(unhide HST).len]
        have hHeld := unhide HQ _ (unhide HB)
        refine ⟨_, rfl, hHeld, ?_⟩
        simp only [List.set_cons_zero, List.set_cons_succ]
        refine held_enter 15 75 (by kernel_rfl) rfl rfl (by rfl) (by go_simp <;> exact ⟨rfl, rfl⟩) ?_
        refine (same_ok _ _ _ _ _ _ ch _ (unhide HR1) (unhide HROW _ (unhide HB)) (.inr (unhide HGD)) (unhide HNL)).mono ?_
        rintro e wq ⟨rfl, h1⟩
        have HB := hide (h1.below (unhide HB) (unhide HLO) (unhide HB).size)
        clear h1
        have hHeld := unhide HQ _ (unhide HB)
        refine ⟨_, rfl, hHeld, ?_⟩
        simp only [List.set_cons_zero, List.set_cons_succ]
        refine held_take 16 76 rfl rfl (by kernel_rfl) (by kernel_rfl) (by kernel_rfl) (by rfl) hHeld noPanic_panic (v := ?_) (fun x hSx => ?_) ?_
        rotate_left 1
        · (obtain s0 := hSx; go_simp <;> with_reducible rfl)
        simp only [List.set_cons_zero, List.set_cons_succ]
        refine held_take 17 77 rfl rfl (by kernel_rfl) (by kernel_rfl) (by kernel_rfl) (by rfl) hHeld noPanic_panic (v := ?_) (fun x hSx => ?_) ?_
        rotate_left 1
        · (obtain s0 := hSx; go_simp <;> with_reducible rfl)
        simp only [List.set_cons_zero, List.set_cons_succ]
        refine held_take 18 78 rfl rfl (by kernel_rfl) (by kernel_rfl) (by kernel_rfl) (by rfl) hHeld noPanic_panic (v := ?_) (fun x hSx => ?_) ?_
        rotate_left 1
        · (obtain s0 := hSx; go_simp <;> with_reducible rfl)
        simp only [List.set_cons_zero, List.set_cons_succ]
        refine held_take 20 80 rfl rfl (by kernel_rfl) (by kernel_rfl) (by kernel_rfl) (by rfl) hHeld noPanic_panic (v := ?_) (fun x hSx => ?_) ?_
        rotate_left 1
        · (obtain s0 := hSx; go_simp <;> with_reducible rfl)
        simp only [List.set_cons_zero, List.set_cons_succ]
        refine held_take 21 81 rfl rfl (by kernel_rfl) (by kernel_rfl) (by kernel_rfl) (by rfl) hHeld noPanic_panic (v := ?_) (fun x hSx => ?_) ?_
        rotate_left 1
        · (obtain s0 := hSx; go_simp <;> with_reducible rfl)
        simp only [List.set_cons_zero, List.set_cons_succ]
        refine held_take 22 82 rfl rfl (by kernel_rfl) (by kernel_rfl) (by kernel_rfl) (by rfl) hHeld noPanic_panic (v := ?_) (fun x hSx => ?_) ?_
        rotate_left 1
        · (obtain s0 := hSx; go_simp <;> with_reducible rfl)
        simp only [List.set_cons_zero, List.set_cons_succ]
        refine held_take 23 83 rfl rfl (by kernel_rfl) (by kernel_rfl) (by kernel_rfl) (by rfl) hHeld noPanic_panic (v := ?_) (fun x hSx => ?_) ?_
        rotate_left 1
        · (obtain s0 := hSx; go_simp <;> with_reducible rfl)
        simp only [List.set_cons_zero, List.set_cons_succ]
        refine held_enter 19 79 (by kernel_rfl) rfl rfl (by rfl) (by go_simp <;> exact ⟨rfl, rfl⟩) ?_
        refine (qchances_ok _ pb gc gr rcs Bs d ch ((unhide HST).two.below (unhide HB)).q (unhide HNN)).mono ?_
        rintro e wy ⟨rfl, h1, h2⟩
        have hR1 := ints_row h1
        rw [(unhide HST).len] at hR1
        have HR1 := hide hR1
        clear hR1
        have HLO := hide (unhide HB).size
        have HB := hide ((unhide HB).trans (h2.mono (unhide HB).size))
        have HGD := hide (Nat.lt_of_lt_of_le (unhide HGL) (unhide HLO))
        clear h1 h2
        rw [(unhide HST).len]
        have hHeld := unhide HQ _ (unhide HB)
        refine ⟨_, rfl, hHeld, ?_⟩
        simp only [List.set_cons_zero, List.set_cons_succ]
        refine held_enter 24 84 (by kernel_rfl) rfl rfl (by rfl) (by go_simp <;> exact ⟨rfl, rfl⟩) ?_
        refine (same_ok _ _ _ _ _ _ ch _ (unhide HR1) (unhide HROW _ (unhide HB)) (.inr (unhide HGD)) (unhide HNL)).mono ?_
        rintro e wq ⟨rfl, h1⟩
        have HB := hide (h1.below (unhide HB) (unhide HLO) (unhide HB).size)
        clear h1
        have hHeld := unhide HQ _ (unhide HB)
        refine ⟨_, rfl, hHeld, ?_⟩
        simp only [List.set_cons_zero, List.set_cons_succ]
        refine held_take 25 85 rfl rfl (by kernel_rfl) (by kernel_rfl) (by kernel_rfl) (by rfl) hHeld noPanic_panic (v := ?_) (fun x hSx => ?_) ?_
        rotate_left 1
        · (obtain s0 := hSx; go_simp <;> with_reducible rfl)
        simp only [List.set_cons_zero, List.set_cons_succ]
        refine held_take 26 86 rfl rfl (by kernel_rfl) (by kernel_rfl) (by kernel_rfl) (by rfl) hHeld noPanic_panic (v := ?_) (fun x hSx => ?_) ?_
        rotate_left 1
        · (obtain s0 := hSx; go_simp <;> with_reducible rfl)
        simp only [List.set_cons_zero, List.set_cons_succ]
        refine held_take 27 87 rfl rfl (by kernel_rfl) (by kernel_rfl) (by kernel_rfl) (by rfl) hHeld noPanic_panic (v := ?_) (fun x hSx => ?_) ?_
        rotate_left 1
        · (obtain s0 := hSx; go_simp <;> with_reducible rfl)
        simp only [List.set_cons_zero, List.set_cons_succ]
        refine held_take 28 88 rfl rfl (by kernel_rfl) (by kernel_rfl) (by kernel_rfl) (by rfl) hHeld noPanic_panic (v := ?_) (fun x hSx => ?_) ?_
        rotate_left 1
        · (obtain s0 := hSx; go_simp <;> with_reducible rfl)
        simp only [List.set_cons_zero, List.set_cons_succ]
        refine wpAnyH_done (by kernel_rfl) ?_ _
        refine NoPanic.normal ?_
        go_wp2_with fail
        go_meet
        exact ⟨rfl, hide ⟨(unhide HST).two.below (unhide HB), (unhide HST).len, (unhide HST).bel.trans ((unhide HB).mono (unhide HST).bel.size)⟩⟩
      · have t1 : ¬ (n : Int) < 100 := by omega
        have d1 : decide ((n : Int) < 100) = false := decide_eq_false t1
        refine wp_region_noPanic ?_
        refine wp_region_held_drew (S := fun x => x.cell? ⟨qb, 0, none⟩ = some (.slice (some ⟨gd, 0, none⟩) n cc)) (by kernel_rfl) (unhide HQ _ (unhide HB1)) (fun hHeld => ?_)
        show wpAnyH _ _ _ _ _ _ _ _ wr.drew
        have HB := HB1
        generalize wr.drew = x1 at HB hHeld ⊢
        clear HB1
        refine held_take 0 60 rfl rfl (by kernel_rfl) (by kernel_rfl) (by kernel_rfl) (by rfl) hHeld noPanic_panic (v := ?_) (fun x hSx => ?_) ?_
        rotate_left 1
        · (obtain s0 := hSx; go_simp <;> with_reducible rfl)
        simp only [List.set_cons_zero, List.set_cons_succ]
        refine held_take 2 62 rfl rfl (by kernel_rfl) (by kernel_rfl) (by kernel_rfl) (by rfl) hHeld noPanic_panic (v := ?_) (fun x hSx => ?_) ?_
        rotate_left 1
        · (obtain s0 := hSx; go_simp <;> with_reducible rfl)
        simp only [List.set_cons_zero, List.set_cons_succ]
        refine held_enter 1 61 (by kernel_rfl) rfl rfl (by rfl) (by go_simp <;> exact ⟨rfl, rfl⟩) ?_
        refine (unhide HDN _ ((unhide HST).two.below (unhide HB)).q).mono ?_
        rintro e wy ⟨rfl, rfl⟩
        have hHeld := unhide HQ _ (unhide HB)
        refine ⟨_, rfl, hHeld, ?_⟩
        simp only [List.set_cons_zero, List.set_cons_succ]
        refine held_enter 3 63 (by kernel_rfl) rfl rfl (by rfl) (by go_simp <;> exact ⟨rfl, rfl⟩) ?_
        refine (unhide HDE _ ((unhide HST).two.below (unhide HB)).e).mono ?_
        rintro e wz ⟨rfl, h1, h2⟩
        have HST2 : Hid (StandQ w wz pb gc gr rcs qb n gd cc a0 cap Bs d ch) := hide ⟨((unhide HST).two.below (unhide HB)).stepE h1 h2, (unhide HST).len, ((unhide HST).two.below (unhide HB)).tchE ((unhide HST).bel.trans ((unhide HB).mono (unhide HST).bel.size)) h2⟩
        clear HB HQ HROW h1 h2
        have HST := HST2
        have HB := hide (Below.refl wz.heap.size wz)
        have HQ : Hid (∀ W, Below wz.heap.size wz W → W.cell? ⟨qb, 0, none⟩ = some (.slice (some ⟨gd, 0, none⟩) n cc)) := hide fun W hW => by rw [← (unhide HST).len]; exact ((unhide HST).two.below hW).e.da.chv
        have HROW : Hid (∀ W, Below wz.heap.size wz W → Row gd (gd + 1) W (.slice (some ⟨gd, 0, none⟩) n cc) .i64 3 ch) := hide fun W hW => by rw [← (unhide HST).len]; exact ((unhide HST).two.below hW).e.da.rowD
        have HGL := hide (unhide HST).two.lts.2.2.2.2
        have hHeld := unhide HQ _ (unhide HB)
        refine ⟨_, rfl, hHeld, ?_⟩
        simp only [List.set_cons_zero, List.set_cons_succ]
        refine held_take 4 64 rfl rfl (by kernel_rfl) (by kernel_rfl) (by kernel_rfl) (by rfl) hHeld noPanic_panic (v := ?_) (fun x hSx => ?_) ?_
        rotate_left 1
        · (obtain s0 := hSx; go_simp <;> with_reducible rfl)
        simp only [List.set_cons_zero, List.set_cons_succ]
        refine held_take 5 65 rfl rfl (by kernel_rfl) (by kernel_rfl) (by kernel_rfl) (by rfl) hHeld noPanic_panic (v := ?_) (fun x hSx => ?_) ?_
        rotate_left 1
        · (obtain s0 := hSx; go_simp <;> with_reducible rfl)
        simp only [List.set_cons_zero, List.set_cons_succ]
        refine held_take 6 66 rfl rfl (by kernel_rfl) (by kernel_rfl) (by kernel_rfl) (by rfl) hHeld noPanic_panic (v := ?_) (fun x hSx => ?_) ?_
        rotate_left 1
        · (obtain s0 := hSx; go_simp <;> with_reducible rfl)
        simp only [List.set_cons_zero, List.set_cons_succ]
        refine held_take 7 67 rfl rfl (by kernel_rfl) (by kernel_rfl) (by kernel_rfl) (by rfl) hHeld noPanic_panic (v := ?_) (fun x hSx => ?_) ?_
        rotate_left 1
        · (obtain s0 := hSx; go_simp <;> with_reducible rfl)
        simp only [List.set_cons_zero, List.set_cons_succ]
        refine held_take 8 68 rfl rfl (by kernel_rfl) (by kernel_rfl) (by kernel_rfl) (by rfl) hHeld noPanic_panic (v := ?_) (fun x hSx => ?_) ?_
        rotate_left 1
        · (obtain s0 := hSx; go_simp <;> with_reducible rfl)
        simp only [List.set_cons_zero, List.set_cons_succ]
        refine held_drop 9 69 rfl rfl (by kernel_rfl) (by kernel_rfl) (by kernel_rfl) (by rfl) hHeld noPanic_panic ?_
        simp only [List.set_cons_zero, List.set_cons_succ]
        refine held_drop 10 70 rfl rfl (by kernel_rfl) (by kernel_rfl) (by kernel_rfl) (by rfl) hHeld noPanic_panic ?_
        simp only [List.set_cons_zero, List.set_cons_succ]
        refine held_drop 11 71 rfl rfl (by kernel_rfl) (by kernel_rfl) (by kernel_rfl) (by rfl) hHeld noPanic_panic ?_
        simp only [List.set_cons_zero, List.set_cons_succ]
        refine held_drop 12 72 rfl rfl (by kernel_rfl) (by kernel_rfl) (by kernel_rfl) (by rfl) hHeld noPanic_panic ?_
        simp only [List.set_cons_zero, List.set_cons_succ]
        refine held_drop 13 73 rfl rfl (by kernel_rfl) (by kernel_rfl) (by kernel_rfl) (by rfl) hHeld noPanic_panic ?_
        simp only [List.set_cons_zero, List.set_cons_succ]
        refine held_drop 14 74 rfl rfl (by kernel_rfl) (by kernel_rfl) (by kernel_rfl) (by rfl) hHeld noPanic_panic ?_
        simp only [List.set_cons_zero, List.set_cons_succ]
        refine held_drop 15 75 rfl rfl (by kernel_rfl) (by kernel_rfl) (by kernel_rfl) (by rfl) hHeld noPanic_panic ?_
        simp only [List.set_cons_zero, List.set_cons_succ]
        refine held_drop 16 76 rfl rfl (by kernel_rfl) (by kernel_rfl) (by kernel_rfl) (by rfl) hHeld noPanic_panic ?_
        simp only [List.set_cons_zero, List.set_cons_succ]
        refine held_drop 17 77 rfl rfl (by kernel_rfl) (by kernel_rfl) (by kernel_rfl) (by rfl) hHeld noPanic_panic ?_
        simp only [List.set_cons_zero, List.set_cons_succ]
        refine held_drop 18 78 rfl rfl (by kernel_rfl) (by kernel_rfl) (by kernel_rfl) (by rfl) hHeld noPanic_panic ?_
        simp only [List.set_cons_zero, List.set_cons_succ]
        refine held_drop 19 79 rfl rfl (by kernel_rfl) (by kernel_rfl) (by kernel_rfl) (by rfl) hHeld noPanic_panic ?_
        simp only [List.set_cons_zero, List.set_cons_succ]
        refine held_drop 20 80 rfl rfl (by kernel_rfl) (by kernel_rfl) (by kernel_rfl) (by rfl) hHeld noPanic_panic ?_
        simp only [List.set_cons_zero, List.set_cons_succ]
        refine held_drop 21 81 rfl rfl (by kernel_rfl) (by kernel_rfl) (by kernel_rfl) (by rfl) hHeld noPanic_panic ?_
        simp only [List.set_cons_zero, List.set_cons_succ]
        refine held_drop 22 82 rfl rfl (by kernel_rfl) (by kernel_rfl) (by kernel_rfl) (by rfl) hHeld noPanic_panic ?_
        simp only [List.set_cons_zero, List.set_cons_succ]
        refine held_drop 23 83 rfl rfl (by kernel_rfl) (by kernel_rfl) (by kernel_rfl) (by rfl) hHeld noPanic_panic ?_
        simp only [List.set_cons_zero, List.set_cons_succ]
        refine held_drop 24 84 rfl rfl (by kernel_rfl) (by kernel_rfl) (by kernel_rfl) (by rfl) hHeld noPanic_panic ?_
        simp only [List.set_cons_zero, List.set_cons_succ]
        refine held_drop 25 85 rfl rfl (by kernel_rfl) (by kernel_rfl) (by kernel_rfl) (by rfl) hHeld noPanic_panic ?_
        simp only [List.set_cons_zero, List.set_cons_succ]
        refine held_drop 26 86 rfl rfl (by kernel_rfl) (by kernel_rfl) (by kernel_rfl) (by rfl) hHeld noPanic_panic ?_
        simp only [List.set_cons_zero, List.set_cons_succ]
        refine held_take 27 87 rfl rfl (by kernel_rfl) (by kernel_rfl) (by kernel_rfl) (by rfl) hHeld noPanic_panic (v := ?_) (fun x hSx => ?_) ?_
        rotate_left 1
        · (obtain s0 := hSx; go_simp <;> with_reducible rfl)
        simp only [List.set_cons_zero, List.set_cons_succ]
        refine held_take 28 88 rfl rfl (by kernel_rfl) (by kernel_rfl) (by kernel_rfl) (by rfl) hHeld noPanic_panic (v := ?_) (fun x hSx => ?_) ?_
        rotate_left 1
        · (obtain s0 := hSx; go_simp <;> with_reducible rfl)
        simp only [List.set_cons_zero, List.set_cons_succ]
        refine wpAnyH_done (by kernel_rfl) ?_ _
        refine NoPanic.normal ?_
        go_wp2_with fail
        go_meet
        exact ⟨rfl, hide ⟨(unhide HST).two.below (unhide HB), (unhide HST).len, (unhide HST).bel.trans ((unhide HB).mono (unhide HST).bel.size)⟩⟩
    case rest =>
      obtain ⟨rfl, HST2⟩ := hcut
      clear HB HST
      have HST := HST2
      clear HST2
      by_cases hiL2 : i = L
      · subst hiL2
        go_wp2_with fail
        go_ret
        exact ⟨rfl, (unhide HST).bel⟩
      · have t3 : ¬ (i : Int) = (L : Int) := by omega
        have t4 : (i : Int) < (L : Int) := by omega
        obtain rfl := unhide HAL (by omega)
        have hAc := (unhide HA).below (unhide HST).bel
        have a0' := hAc.ck i (by omega)
        have a1' := hAc.cb i (by omega)
        have a2' := hAc.cv i (by omega)
        have a3' := hAc.cn i (by omega)
        have a4' := hAc.cl i (by omega)
        have HLS := hide (hAc.len i (by omega))
        have HBS := hide (hAc.bs i (by omega))
        have hSR0 := (unhide HA).rd i (by omega)
        clear hAc
        generalize A i = x at a0' a1' a2' a3' a4' HLS HBS hSR0
        obtain ⟨kd, bs, v, m', lp, lc, ls⟩ := x
        simp only at a0' a1' a2' a3' a4' HLS HBS hSR0
        have HSR0 := hide hSR0
        clear hSR0
        obtain ⟨ll, hll⟩ : ∃ ll, ll = ls.length := ⟨_, rfl⟩
        rw [← hll] at a4'
        have HLL := hide hll
        clear hll
        go_upto_region 16 with fail
        have HAA : Hid ((wc.alloc (.cells #[.int .i64 kd, .int .i64 bs, .int .i64 v, .int .i64 m', .slice lp ll lc] 41)).heap[wc.heap.size]? = some (.cells #[.int .i64 kd, .int .i64 bs, .int .i64 v, .int .i64 m', .slice lp ll lc] 41 (0, 0))) := hide (heap_alloc_new _ _)
        have HST1 : Hid (StandQ w (wc.alloc (.cells #[.int .i64 kd, .int .i64 bs, .int .i64 v, .int .i64 m', .slice lp ll lc] 41)) pb gc gr rcs qb n gd cc a0 cap Bs d ch) := hide ⟨(unhide HST).two.below ((Below.refl _ _).alloc (Nat.le_refl _) _), (unhide HST).len, (unhide HST).bel.alloc (unhide HST).bel.size _⟩
        obtain ⟨ga, hga⟩ : ∃ ga, ga = wc.heap.size := ⟨_, rfl⟩
        rw [← hga] at HAA ⊢
        obtain ⟨W1, hW1⟩ : ∃ W1, W1 = wc.alloc (.cells #[.int .i64 kd, .int .i64 bs, .int .i64 v, .int .i64 m', .slice lp ll lc] 41) := ⟨_, rfl⟩
        rw [← hW1] at HAA HST1 ⊢
        clear hW1 hga a0' a1' a2' a3' a4' HST
        have hnc : ch.length ≤ 65536 := by rw [(unhide HST1).len]; exact hn
        have z0 : W1.cell? ⟨ga, 0, none⟩ = some (.int .i64 kd) := by simp [World.cell?, unhide HAA]
        have z1 : W1.cell? ⟨ga, 1, none⟩ = some (.int .i64 bs) := by simp [World.cell?, unhide HAA]
        have z3 : W1.cell? ⟨ga, 3, none⟩ = some (.int .i64 m') := by simp [World.cell?, unhide HAA]
        by_cases hk0 : kd = 0
        · subst hk0
          obtain ⟨x, y, d1, ch1, hch1, hbo⟩ := bothq_bit (pb := pb) (gc := gc) (gr := gr) (qb := qb) (gd := gd) (cc := cc) (rcs := rcs) (ba := a0) (bc := cap) (Bs := Bs) (d := d) (ch := ch) bs
          have HBO := hide hbo
          have HCH := hide hch1
          have tx : (x != x) = false := by simp
          have ty : (y != y) = false := by simp
          clear hbo hch1
          go_wp2_with fail
          refine ((unhide HBO).1 W1 (unhide HST1).two.q).mono ?_
          rintro e w5 ⟨rfl, h5, h6⟩
          have HT5 := hide ((unhide HST1).two.stepQ h5 h6)
          have HB5 := hide ((unhide HST1).two.tchQ (unhide HST1).bel h6)
          have hA5 := (unhide HST1).two.otherQ h6 (unhide HAA) (by decide) (by decide)
          have z1' : w5.cell? ⟨ga, 1, none⟩ = some (.int .i64 bs) := by simp [World.cell?, hA5]
          have z3' : w5.cell? ⟨ga, 3, none⟩ = some (.int .i64 m') := by simp [World.cell?, hA5]
          clear h5 h6 hA5
          go_wp2_with fail
          refine ((unhide HBO).2 w5 (unhide HT5).e).mono ?_
          rintro e w6 ⟨rfl, h7, h8⟩
          have HFIN : Hid (∃ (gd cc : Nat) (d : Dec) (ch : List Nat), StandQ w w6 pb gc gr rcs qb n gd cc a0 cap Bs d ch) := hide ⟨gd, cc, d1, ch1, (unhide HT5).stepE h7 h8, (unhide HCH).trans (unhide HST1).len, (unhide HT5).tchE (unhide HB5) h8⟩
          clear h7 h8 HBO HT5 HB5 z0 z1 z3 z1' z3'
          go_wp2_with fail
          go_roundg (L - i)
          case measure => omega
          case rel =>
            obtain ⟨gd', cc', d', ch', h⟩ := unhide HFIN
            exact ⟨i + 1, gd', cc', d', ch', by omega, by omega, by go_num, hide h⟩
        by_cases hk1 : kd = 1
        · subst hk1
          obtain ⟨x, y, d1, ch1, hch1, hbo⟩ := bothq_direct (pb := pb) (gc := gc) (gr := gr) (qb := qb) (gd := gd) (cc := cc) (rcs := rcs) (ba := a0) (bc := cap) (Bs := Bs) (d := d) (ch := ch) m'
          have HBO := hide hbo
          have HCH := hide hch1
          have tx : (x != x) = false := by simp
          have ty : (y != y) = false := by simp
          clear hbo hch1
          go_wp2_with fail
          refine ((unhide HBO).1 W1 (unhide HST1).two.q).mono ?_
          rintro e w5 ⟨rfl, h5, h6⟩
          have HT5 := hide ((unhide HST1).two.stepQ h5 h6)
          have HB5 := hide ((unhide HST1).two.tchQ (unhide HST1).bel h6)
          have hA5 := (unhide HST1).two.otherQ h6 (unhide HAA) (by decide) (by decide)
          have z1' : w5.cell? ⟨ga, 1, none⟩ = some (.int .i64 bs) := by simp [World.cell?, hA5]
          have z3' : w5.cell? ⟨ga, 3, none⟩ = some (.int .i64 m') := by simp [World.cell?, hA5]
          clear h5 h6 hA5
          go_wp2_with fail
          refine ((unhide HBO).2 w5 (unhide HT5).e).mono ?_
          rintro e w6 ⟨rfl, h7, h8⟩
          have HFIN : Hid (∃ (gd cc : Nat) (d : Dec) (ch : List Nat), StandQ w w6 pb gc gr rcs qb n gd cc a0 cap Bs d ch) := hide ⟨gd, cc, d1, ch1, (unhide HT5).stepE h7 h8, (unhide HCH).trans (unhide HST1).len, (unhide HT5).tchE (unhide HB5) h8⟩
          clear h7 h8 HBO HT5 HB5 z0 z1 z3 z1' z3'
          go_wp2_with fail
          go_roundg (L - i)
          case measure => omega
          case rel =>
            obtain ⟨gd', cc', d', ch', h⟩ := unhide HFIN
            exact ⟨i + 1, gd', cc', d', ch', by omega, by omega, by go_num, hide h⟩
        by_cases hk2 : kd = 2
        · subst hk2
          obtain ⟨x, y, d1, ch1, hch1, hbo⟩ := bothq_tree (pb := pb) (gc := gc) (gr := gr) (qb := qb) (gd := gd) (cc := cc) (rcs := rcs) (ba := a0) (bc := cap) (Bs := Bs) (d := d) (ch := ch) bs m' hnc (unhide HBS)
          have HBO := hide hbo
          have HCH := hide hch1
          have tx : (x != x) = false := by simp
          have ty : (y != y) = false := by simp
          clear hbo hch1
          go_wp2_with fail
          refine ((unhide HBO).1 W1 (unhide HST1).two.q).mono ?_
          rintro e w5 ⟨rfl, h5, h6⟩
          have HT5 := hide ((unhide HST1).two.stepQ h5 h6)
          have HB5 := hide ((unhide HST1).two.tchQ (unhide HST1).bel h6)
          have hA5 := (unhide HST1).two.otherQ h6 (unhide HAA) (by decide) (by decide)
          have z1' : w5.cell? ⟨ga, 1, none⟩ = some (.int .i64 bs) := by simp [World.cell?, hA5]
          have z3' : w5.cell? ⟨ga, 3, none⟩ = some (.int .i64 m') := by simp [World.cell?, hA5]
          clear h5 h6 hA5
          go_wp2_with fail
          refine ((unhide HBO).2 w5 (unhide HT5).e).mono ?_
          rintro e w6 ⟨rfl, h7, h8⟩
          have HFIN : Hid (∃ (gd cc : Nat) (d : Dec) (ch : List Nat), StandQ w w6 pb gc gr rcs qb n gd cc a0 cap Bs d ch) := hide ⟨gd, cc, d1, ch1, (unhide HT5).stepE h7 h8, (unhide HCH).trans (unhide HST1).len, (unhide HT5).tchE (unhide HB5) h8⟩
          clear h7 h8 HBO HT5 HB5 z0 z1 z3 z1' z3'
          go_wp2_with fail
          go_roundg (L - i)
          case measure => omega
          case rel =>
            obtain ⟨gd', cc', d', ch', h⟩ := unhide HFIN
            exact ⟨i + 1, gd', cc', d', ch', by omega, by omega, by go_num, hide h⟩
        by_cases hk3 : kd = 3
        · subst hk3
          obtain ⟨x, y, d1, ch1, hch1, hbo⟩ := bothq_rev (pb := pb) (gc := gc) (gr := gr) (qb := qb) (gd := gd) (cc := cc) (rcs := rcs) (ba := a0) (bc := cap) (Bs := Bs) (d := d) (ch := ch) bs m' hnc (unhide HBS)
          have HBO := hide hbo
          have HCH := hide hch1
          have tx : (x != x) = false := by simp
          have ty : (y != y) = false := by simp
          clear hbo hch1
          go_wp2_with fail
          refine ((unhide HBO).1 W1 (unhide HST1).two.q).mono ?_
          rintro e w5 ⟨rfl, h5, h6⟩
          have HT5 := hide ((unhide HST1).two.stepQ h5 h6)
          have HB5 := hide ((unhide HST1).two.tchQ (unhide HST1).bel h6)
          have hA5 := (unhide HST1).two.otherQ h6 (unhide HAA) (by decide) (by decide)
          have z1' : w5.cell? ⟨ga, 1, none⟩ = some (.int .i64 bs) := by simp [World.cell?, hA5]
          have z3' : w5.cell? ⟨ga, 3, none⟩ = some (.int .i64 m') := by simp [World.cell?, hA5]
          clear h5 h6 hA5
          go_wp2_with fail
          refine ((unhide HBO).2 w5 (unhide HT5).e).mono ?_
          rintro e w6 ⟨rfl, h7, h8⟩
          have HFIN : Hid (∃ (gd cc : Nat) (d : Dec) (ch : List Nat), StandQ w w6 pb gc gr rcs qb n gd cc a0 cap Bs d ch) := hide ⟨gd, cc, d1, ch1, (unhide HT5).stepE h7 h8, (unhide HCH).trans (unhide HST1).len, (unhide HT5).tchE (unhide HB5) h8⟩
          clear h7 h8 HBO HT5 HB5 z0 z1 z3 z1' z3'
          go_wp2_with fail
          go_roundg (L - i)
          case measure => omega
          case rel =>
            obtain ⟨gd', cc', d', ch', h⟩ := unhide HFIN
            exact ⟨i + 1, gd', cc', d', ch', by omega, by omega, by go_num, hide h⟩
        by_cases hk4 : kd = 4
        · subst hk4
          have z4 : W1.cell? ⟨ga, 4, none⟩ = some (.slice lp ll lc) := by simp [World.cell?, unhide HAA]
          have z4' : (W1.alloc (.cells #[] 3)).cell? ⟨ga, 4, none⟩ = some (.slice lp ll lc) := by simp only [World.cell?]; rw [Below.heap_alloc _ _ _ (heap_lt (unhide HAA)), unhide HAA]; rfl
          have HFL : Hid (ls.length = ll ∧ ls.length ≤ 17592186044416) := hide ⟨(unhide HLL).symm, unhide HLS⟩
          have HSR1 := hide ((unhide HSR0).stays (unhide HST1).bel)
          by_cases hfit : ls.length = ch.length ∧ ∀ p ∈ ls, Fit1 p
          · have HFIT := hide hfit
            clear hfit
            go_upto_region 31 with (first | (at_builtin; refine wp_catI (ws := W1) rfl (.tmp 174) (.tmp 176) rfl ls lp ll lc (by simp [go_sem]) (by simp [go_sem]) (unhide HFL).1 (unhide HSR1) (unhide HFL).2 ?_; intro v5 w5 h5; obtain ⟨g5, cap5, e5, hi5⟩ := h5.ints; subst e5; have HT5 := hide ((unhide HST1).two.below h5.bel); have HB5 := hide ((unhide HST1).bel.trans (h5.bel.mono (unhide HST1).bel.size)); have HI5 := hide hi5; have HA5 := hide (h5.bel.block ga (heap_lt (unhide HAA)) ▸ unhide HAA); clear h5 hi5) | (go_at_call 37; refine (qset_ok w5 pb gc gr rcs Bs d ch ls _ cap5 (unhide HT5).q (unhide HI5) (unhide HFIT).1 (unhide HFIT).2 hnc).mono ?_; rintro e w6 ⟨rfl, h6, h7⟩; have HT6 := hide ((unhide HT5).stepQ h6 h7); have HB6 := hide ((unhide HT5).tchQ (unhide HB5) h7); have HA6 := hide ((unhide HT5).otherQ h7 (unhide HA5) (by decide) (by decide)); clear h6 h7))
            have z6 : w6.cell? ⟨ga, 4, none⟩ = some (.slice lp ll lc) := by simp [World.cell?, unhide HA6]
            have z6' : (w6.alloc (.cells #[] 3)).cell? ⟨ga, 4, none⟩ = some (.slice lp ll lc) := by simp only [World.cell?]; rw [Below.heap_alloc _ _ _ (heap_lt (unhide HA6)), unhide HA6]; rfl
            have HS6 := hide ((unhide HSR0).stays (unhide HB6))
            have hfo := fit_ok ls lp lc (n : Int) w6 (unhide HS6).ints (unhide HLS)
            rw [(unhide HFL).1] at hfo
            have HFO := hide hfo
            clear hfo
            go_upto_region 32 with (first | (go_at_call 24; refine (unhide HFO).mono ?_; rintro e w7 ⟨r7, rfl, h7, rfl⟩; obtain rfl : r7 = true := h7.2 ⟨(unhide HFIT).2, (by rw [← (unhide HFL).1, (unhide HFIT).1, (unhide HST1).len])⟩; clear h7))
            go_wp2_with (first | (at_builtin; refine wp_catI (ws := w6) rfl (.tmp 184) (.tmp 186) rfl ls lp ll lc (by simp [go_sem]) (by simp [go_sem]) (unhide HFL).1 (unhide HS6) (unhide HFL).2 ?_; intro v8 w8 h8; obtain ⟨g8, cap8, sp8, e8, hg8, hb8⟩ := h8.shape; subst e8; have ht8 := (unhide HT6).below h8.bel; have q0 := ht8.e.da.chv; have q1 := ht8.e.da.free 0; have HT8 := hide (ht8.newChances hb8 (Nat.le_trans (unhide HB6).size hg8) (unhide HFIT).2 cap8); have HB8 := hide (((unhide HB6).trans (h8.bel.mono (unhide HB6).size)).setCell (p := ⟨qb, 0, none⟩) (show w.heap.size ≤ qb from ht8.lo.2.2.2.1) (.slice (some ⟨g8, 0, none⟩) ls.length cap8)); clear h8 hb8 ht8))
            have HFIN : Hid (∃ (gd cc : Nat) (d : Dec) (ch : List Nat), StandQ w (w8.setCell ⟨qb, 0, none⟩ (.slice (some ⟨g8, 0, none⟩) ls.length cap8)) pb gc gr rcs qb n gd cc a0 cap Bs d ch) := hide ⟨_, _, _, _, unhide HT8, (by rw [List.length_map, (unhide HFIT).1]; exact (unhide HST1).len), unhide HB8⟩
            go_roundg (L - i)
            case measure => omega
            case rel =>
              obtain ⟨gd', cc', d', ch', h⟩ := unhide HFIN
              exact ⟨i + 1, gd', cc', d', ch', by omega, by omega, by go_num, hide h⟩
          · have HFIT := hide hfit
            clear hfit
            have HNF : Hid (¬ ((∀ p ∈ ls, 31 ≤ p ∧ p ≤ 2017) ∧ (ll : Int) = (n : Int))) := hide (fun h => unhide HFIT ⟨(by have := h.2; have := (unhide HFL).1; rw [(unhide HST1).len]; omega), h.1⟩)
            go_upto_region 31 with (first | (at_builtin; refine wp_catI (ws := W1) rfl (.tmp 174) (.tmp 176) rfl ls lp ll lc (by simp [go_sem]) (by simp [go_sem]) (unhide HFL).1 (unhide HSR1) (unhide HFL).2 ?_; intro v5 w5 h5; obtain ⟨g5, cap5, e5, hi5⟩ := h5.ints; subst e5; have HT5 := hide ((unhide HST1).two.below h5.bel); have HB5 := hide ((unhide HST1).bel.trans (h5.bel.mono (unhide HST1).bel.size)); have HI5 := hide hi5; have HA5 := hide (h5.bel.block ga (heap_lt (unhide HAA)) ▸ unhide HAA); clear h5 hi5) | (go_at_call 37; refine (qset_bad w5 pb gc gr rcs Bs d ch ls _ cap5 (unhide HT5).q (unhide HI5) (unhide HLS) (unhide HFIT) hnc).mono ?_; rintro e w6 ⟨rfl, h6, h7⟩; have HT6 := hide ((unhide HT5).stepQ h6 h7); have HB6 := hide ((unhide HT5).tchQ (unhide HB5) h7); have HA6 := hide ((unhide HT5).otherQ h7 (unhide HA5) (by decide) (by decide)); clear h6 h7))
            have z6 : w6.cell? ⟨ga, 4, none⟩ = some (.slice lp ll lc) := by simp [World.cell?, unhide HA6]
            have HS6 := hide ((unhide HSR0).stays (unhide HB6))
            have hfo := fit_ok ls lp lc (n : Int) w6 (unhide HS6).ints (unhide HLS)
            rw [(unhide HFL).1] at hfo
            have HFO := hide hfo
            clear hfo
            go_upto_region 33 with (first | (go_at_call 24; refine (unhide HFO).mono ?_; rintro e w7 ⟨r7, rfl, h7, rfl⟩; obtain rfl : r7 = false := (by cases r7 with | false => rfl | true => exact absurd (h7.1 rfl) (unhide HNF)); clear h7))
            have HFIN : Hid (∃ (gd cc : Nat) (d : Dec) (ch : List Nat), StandQ w w6 pb gc gr rcs qb n gd cc a0 cap Bs d ch) := hide ⟨_, _, _, _, unhide HT6, (unhide HST1).len, unhide HB6⟩
            go_wp2_with fail
            go_roundg (L - i)
            case measure => omega
            case rel =>
              obtain ⟨gd', cc', d', ch', h⟩ := unhide HFIN
              exact ⟨i + 1, gd', cc', d', ch', by omega, by omega, by go_num, hide h⟩
        · have HFIN : Hid (∃ (gd cc : Nat) (d : Dec) (ch : List Nat), StandQ w W1 pb gc gr rcs qb n gd cc a0 cap Bs d ch) := hide ⟨_, _, _, _, unhide HST1⟩
          go_wp2_with fail
          go_roundg (L - i)
          case measure => omega
          case rel =>
            obtain ⟨gd', cc', d', ch', h⟩ := unhide HFIN
            exact ⟨i + 1, gd', cc', d', ch', by omega, by omega, by go_num, hide h⟩
end Go.Proofs.Ytbolhbjipmndeaa.D
