/- PrefixCodes: by any code symbols are put and any bits are got as the document says, in either order of bits. -/
import Derived.Test.YtclccccodeekmaaCodesKit
namespace Go.Proofs.Ytclccccodeekmaa
open Go.RowKit Mth
set_option linter.unusedVariables false

attribute [local go_sem ↓] Go.wp_at_zero Go.wp_at_succ

/-- A code, the document's words, a reader and a list of bits, each in blocks of its own. -/
structure CRd (ls : List Nat) (w ws : World) (cp lo hi rg n rp gr : Nat) (high : Bool) (bs : List Nat) (t lg S : Nat) : Prop where
  code : Code ls ws cp lo hi
  words : WordsAt ws 43 rg n (wdz ls) (Canon.ln ls)
  rd : ROk ws rp high gr bs t
  bits : ∀ j, j < S → ws.cell? ⟨lg, j, none⟩ = some (bi' (bitIn high bs j))
  bel : Below w.heap.size w ws
  o1 : hi ≤ rp
  o2 : rg < rp
  o3 : lg ≠ rp
  o4 : w.heap.size ≤ rp

theorem CRd.only {ls : List Nat} {w ws w' : World} {cp lo hi rg n rp gr t t' lg S : Nat} {high : Bool} {bs : List Nat} (h : CRd ls w ws cp lo hi rg n rp gr high bs t lg S) (ho : Only rp ws w') (hr : ROk w' rp high gr bs t') : CRd ls w w' cp lo hi rg n rp gr high bs t' lg S := by
  have hl := h.rd.lt
  have kp : ∀ k, k < rp → w'.heap[k]? = ws.heap[k]? := fun k hk => ho.keep k (by omega) (by omega)
  exact ⟨h.code.keep (fun k _ h2 => kp k (by have := h.o1; omega)), by unfold WordsAt; rw [kp _ h.o2]; exact h.words, hr, fun j hj => by rw [← h.bits j hj]; exact World.cell?_of_block (ho.keep lg (cell_lt (h.bits j hj)) h.o3), h.bel.trans (ho.below h.o4 h.bel.size), h.o1, h.o2, h.o3, h.o4⟩

theorem CRd.drewN {ls : List Nat} {w ws : World} {cp lo hi rg n rp gr t lg S : Nat} {high : Bool} {bs : List Nat} (h : CRd ls w ws cp lo hi rg n rp gr high bs t lg S) (q : Nat) : CRd ls w (ws.drewN q) cp lo hi rg n rp gr high bs t lg S :=
  h.only (Only.drewN _ _ _) (h.rd.drewN q)

set_option maxRecDepth 100000 in
set_option maxHeartbeats 4000000 in
theorem codes_walk (a : Option Addr) (cap : Nat) (zs ps : List Int) (bs : List Nat) (most : Int) (loose : Bool) (bvl pv : Value) (w : World) (hr : ReadsI w (.slice a zs.length cap) zs) (hb : Reads w bvl bs) (hbs : ∀ z ∈ bs, z < 256) (hbn : bs.length ≤ 1048576) (hp : ReadsI w pv ps) (hn : ps.length ≤ 1048576) :
    Calls Try.prog 4 #[.agg #[.slice a zs.length cap, .int .i64 most, .bool loose], pv, bvl] w fun e w' => e = .returned (.bool true) ∧ Below w.heap.size w w' := by
  obtain ⟨i0, hii, hz0, hz1, hz2⟩ := info_parts info3'
  obtain ⟨pa, pcap, rfl, hpc⟩ := hp
  have HRD := hide hr
  have HP := hide hpc
  have HBR := hide hb
  have HBS := hide hbs
  obtain ⟨ba, bcap, rfl, _⟩ := hb.spot
  obtain ⟨n, hnn⟩ : ∃ n, n = zs.length := ⟨_, rfl⟩
  obtain ⟨M, hMM⟩ : ∃ M, M = ps.length := ⟨_, rfl⟩
  obtain ⟨B, hBB⟩ : ∃ B, B = bs.length := ⟨_, rfl⟩
  rw [← hnn] at HRD ⊢
  rw [← hMM] at HP hn ⊢
  rw [← hBB] at HBR hbn ⊢
  have HN := hide hnn
  have HM := hide hMM
  have HBL := hide hBB
  clear hr hpc hnn hMM hb hbs hBB
  obtain ⟨bx, hbx⟩ : ∃ bx, bx = w.heap.size := ⟨_, rfl⟩
  have hbox := heap_alloc_new w (.cells #[.slice a n cap, .int .i64 most, .bool loose] 24)
  have HB0 : Hid (Below w.heap.size w (w.alloc (.cells #[.slice a n cap, .int .i64 most, .bool loose] 24))) := (Below.refl _ _).alloc (Nat.le_refl _) _
  have HR0 := hide ((unhide HRD).stays (unhide HB0))
  go_enter Try.func4, Try.ntmps4
  go_upto_region 1 with fail
  rw [← hbx] at hbox ⊢
  have HBX := hide hbx
  clear hbx
  generalize w.alloc (.cells #[.slice a n cap, .int .i64 most, .bool loose] 24) = w0 at hbox HB0 HR0 ⊢
  have HBOX := hide hbox
  have b0 : w0.cell? ⟨bx, 0, none⟩ = some (.slice a n cap) := by simp [World.cell?, hbox]
  have b1 : w0.cell? ⟨bx, 1, none⟩ = some (.int .i64 most) := by simp [World.cell?, hbox]
  have b2 : w0.cell? ⟨bx, 2, none⟩ = some (.bool loose) := by simp [World.cell?, hbox]
  clear hbox
  go_upto_region 2 with (go_at_call 8; go_must (refine (pnew_any _ zs most loose _ (unhide HR0)).mono ?_; rintro e wn ⟨cv, ec, rfl, h1, h2⟩; have H1 := hide h1; have H2 := hide h2; clear h1 h2))
  have hbl : bx < w0.heap.size := heap_lt (unhide HBOX)
  have hboxn : wn.heap[bx]? = some (.cells #[.slice a n cap, .int .i64 most, .bool loose] 24 (0, 0)) := by rw [(unhide H2).block bx hbl]; exact unhide HBOX
  have HBOXN := hide hboxn
  clear b0 b1 b2
  have b0 : wn.cell? ⟨bx, 0, none⟩ = some (.slice a n cap) := by simp [World.cell?, hboxn]
  have b1 : wn.cell? ⟨bx, 1, none⟩ = some (.int .i64 most) := by simp [World.cell?, hboxn]
  have b2 : wn.cell? ⟨bx, 2, none⟩ = some (.bool loose) := by simp [World.cell?, hboxn]
  have hs0 := (unhide HB0).size
  have HBN : Hid (Below w.heap.size w wn) := (unhide HB0).trans ((unhide H2).mono hs0)
  have HRN := hide ((unhide HRD).stays (unhide HBN))
  clear hboxn hs0 H2 HBOX hbl HB0 HR0
  rcases unhide H1 with ⟨hok, rfl, rfl⟩ | ⟨hok, hs, rfl, rfl⟩ | ⟨hok, hs, rfl, cp, rfl, hc⟩
  · have HK := hide hok
    clear hok H1
    go_wp2_with (go_at_call 9; go_must (refine (refnew_bad _ zs most loose _ (unhide HRN) (unhide HK)).mono ?_; rintro e w4 ⟨rfl, h4⟩; have HB4 := hide ((unhide HBN).trans (h4.mono (unhide HBN).size)); clear h4))
    go_ret
    exact ⟨rfl, unhide HB4⟩
  · have HK := hide hok
    have HS := hide hs
    clear hok hs H1
    go_wp2_with (go_at_call 9; go_must (refine (refnew_code _ zs most loose _ (unhide HRN) (unhide HK) (unhide HS)).mono ?_; rintro e w4 ⟨rfl, h4⟩; have HB4 := hide ((unhide HBN).trans (h4.mono (unhide HBN).size)); clear h4))
    go_ret
    exact ⟨rfl, unhide HB4⟩
  · have HK := hide hok
    have HSM := hide hs
    obtain ⟨lo, hlo⟩ : ∃ lo, lo = w0.heap.size := ⟨_, rfl⟩
    obtain ⟨hi, hhi⟩ : ∃ hi, hi = wn.heap.size := ⟨_, rfl⟩
    rw [← hlo, ← hhi] at hc
    have HC := hide hc
    have HHI := hide hhi
    have HLEN : Hid ((nat zs).length = n) := hide (by simp [nat, unhide HN])
    have hn16 : n ≤ 65536 := by rw [unhide HN]; exact hok.1.2.2.2
    have hgd : Good (nat zs) := by obtain ⟨_, _, _, _, _, _, _, _, _, _, _, hc'⟩ := hc; exact hc'.good
    clear hok hs hc hlo hhi H1
    generalize hls : nat zs = ls at HC HLEN hgd
    have HLS := hide hls
    have HG := hide hgd
    clear hls hgd
    obtain ⟨high, hpar⟩ : ∃ high : Bool, ((B : Int) % 2 == 0) = high := ⟨_, rfl⟩
    go_upto_region 8 with (first | (go_at_call 9; go_must (refine (refnew_yes _ zs most loose _ (unhide HRN) (unhide HK) (unhide HSM)).mono ?_; rintro e w4 ⟨rg, rfl, h3, h4, h5⟩; rw [unhide HLS, ← unhide HN] at h4; rw [← unhide HN]; have H3 := hide h3; have H4 := hide h4; have H5 := hide h5; clear h3 h4 h5)))
    try rw [hpar]
    clear hpar
    go_upto_region 9 with (go_at_call 16; go_must (refine (new_any high _).mono ?_; rintro e w' ⟨rfl, rfl⟩))
    have HST : Hid (BackAt ls w (w4.alloc (.cells #[.bool true, .bool high, .slice none 0 0, .int .i64 0] 76)) cp lo hi bx #[.slice a n cap, .int .i64 most, .bool loose] w4.heap.size high (.slice none 0 0) 0 0 [] (.slice none 0 0) (ti [])) := by
      have l1 := (unhide H5).size
      have l2 := unhide HHI
      have l3 := heap_lt (unhide HBOXN)
      have l4 := (unhide HBN).size
      refine hide ⟨(unhide HC).keep (fun k _ h2 => by rw [Below.heap_alloc _ _ _ (by omega), (unhide H5).block k (by omega)]), by rw [Below.heap_alloc _ _ _ (by omega), (unhide H5).block bx l3]; exact unhide HBOXN, new_ok high w4, by omega, World.ownsRow_nil _ _ _ _, ((unhide HBN).trans ((unhide H5).mono l4)).alloc (by omega) _, by omega, by omega, by omega, fun g hg => by cases hg⟩
    have HWD : Hid (WordsAt (w4.alloc (.cells #[.bool true, .bool high, .slice none 0 0, .int .i64 0] 76)) 43 rg n (wdz ls) (Canon.ln ls)) := hide ((unhide H4).alloc _)
    have HRG : Hid (rg < w4.heap.size) := hide (unhide H4).lt
    obtain ⟨pb, hpb⟩ : ∃ pb, pb = w4.heap.size := ⟨_, rfl⟩
    rw [← hpb] at HST HRG ⊢
    generalize w4.alloc (.cells #[.bool true, .bool high, .slice none 0 0, .int .i64 0] 76) = w3 at HST HWD ⊢
    clear hpb H3 H4 H5 HBN HRN HBOXN HC HHI b0 b1 b2
    go_wp2_with fail
    go_loopg [13, 14] M (fun gk v13 d ws => ∃ (k : Nat) (v : Value) (m f : Nat) (L : List Bool), gk = M - k ∧ k ≤ M ∧ d = .int .i64 (k : Int) ∧ L.length ≤ 20 * k ∧ BackAt ls w ws cp lo hi bx #[.slice a n cap, .int .i64 most, .bool loose] pb high v m f L v13 (ti L) ∧ WordsAt ws 43 rg n (wdz ls) (Canon.ln ls))
    case atStart => exact ⟨0, _, 0, 0, [], by omega, by omega, rfl, by simp, unhide HST, unhide HWD⟩
    case round =>
      obtain ⟨k, v, m, f, L, rfl, hk, rfl, hL20, hst, hwd⟩ := hrel
      clear HST HWD
      by_cases hlt : k < M
      · obtain ⟨b, off, rfl, hcell⟩ := unhide HP (by omega)
        have q1 := cell_stays hst.bel (hcell k hlt)
        obtain ⟨z, hz⟩ : ∃ z, z = ps.getD k 0 := ⟨_, rfl⟩
        rw [← hz] at q1
        have hki : (k : Int) < (M : Int) := by omega
        by_cases hh : HasW ls z
        · obtain ⟨s1, s2, s3⟩ := id hh
          obtain ⟨sn, rfl⟩ := Int.eq_ofNat_of_zero_le s1
          rw [Int.toNat_natCast] at s3
          have hsl : sn < ls.length := by omega
          have hsn : sn < n := by rw [← unhide HLEN]; exact hsl
          have hl20 := ((unhide HG).has hsl s3).2.2
          have HHH := hide hh
          have HPUT := hide (cput_ok ls cp lo hi sn pb m f high v _ wr hst.code hsl s3 hst.wr hst.f7 (by omega))
          have HST := hide hst
          have HWD := hide hwd
          have HCC := hide (fun (w4 : World) (hb : Below w.heap.size w w4) => cell_stays hb (hcell k hlt))
          rw [← hz] at HCC
          have HRP := hide (fun (w4 : World) (h4 : WordsAt w4 43 rg n (wdz ls) (Canon.ln ls)) => refput_ok ls rg n sn w4 (unhide HG) (unhide HLEN) hsn s3 h4)
          obtain ⟨NB, hNB⟩ : ∃ NB, NB = bitsOf true (Canon.wd ls sn) (Canon.ln ls sn) := ⟨_, rfl⟩
          have hNl : NB.length = Canon.ln ls sn := by rw [hNB, bitsOf_length]
          obtain ⟨LN, hLN⟩ : ∃ LN, LN = Canon.ln ls sn := ⟨_, rfl⟩
          rw [← hNB] at HPUT HRP
          rw [← hLN] at hNl hl20 s3 HRP
          have HNL := hide hNl
          have hb8 : ((ti L).length + LN) * 8 ≤ 140737488355328 := by rw [ti_length]; omega
          have hTL : Hid ((ti L).length = L.length) := hide (ti_length L)
          clear hcell hz hh s1 s2 hsl hst hwd hNB hLN hNl
          go_wp2_with (first | (go_at_call 17; go_must (refine (unhide HPUT).mono ?_; rintro e w4 ⟨rfl, v4, m4, f4, h1, h2, h3⟩; have HST4 := hide ((unhide HST).chg h1 h2 h3); have HWD4 := hide (words_chg (unhide HST) (unhide HRG) (unhide HWD) h3); replace q1 : w4.cell? ⟨b, off + k, none⟩ = some (.int .i64 (sn : Int)) := unhide HCC w4 (unhide HST4).bel; clear h1 h2 h3)) | (go_at_call 15; go_must (refine (has_yes ls rg n (unhide HLEN) _ _ (unhide HWD4) (unhide HHH)).mono ?_; rintro e w' ⟨rfl, rfl⟩)) | (go_at_call 18; go_must (refine (unhide HRP _ (unhide HWD4)).mono ?_; rintro e w5 ⟨lv, rfl, h1, h2⟩; have HST5 := hide ((unhide HST4).below h2); have HWD5 := hide ((unhide HWD4).stays h2 (unhide HWD4).lt); obtain ⟨lg, lc, rfl, hlc⟩ := row_some h1 s3; have HNW := hide hlc; have HPB : Hid (pb + 1 ≤ w5.heap.size) := hide (unhide HST5).wr.lt; clear h1 h2 hlc)) | (at_builtin; go_must (refine wpList_append_lies _ rfl (.tmp 78) (.tmp 84) 22 rfl (pb + 1) 3 i0 _ 1 8 Try.underlying22 hii hz0 hz1 hz2 rfl (by decide) _ (ti L).length _ (by rfl) (unhide HST5).own ⟨lg, 0, none⟩ LN lc (NB.map bi) (by rfl) (by simp [unhide HNL]) (unhide HNW) (by intro u hu; simp at hu; rcases hu with ⟨_, rfl⟩ | ⟨_, rfl⟩ <;> rfl) s3 (by unfold maxLen; omega) (by omega) (by have := unhide HPB; omega) w5.heap.size rfl ?_; intro g6 cap6 w6 hown hgrow hat hglt; rw [← ti_bi] at hown; have HST6 := hide ((unhide HST5).appN (by rw [ti_length]; exact unhide HNL) hown hgrow hat); have HWD6 := hide (words_app (unhide HST5) (unhide HRG) (unhide HWD5) hgrow); clear hown hgrow hat hglt)))
          go_roundg (M - (k + 1))
          case measure => omega
          case rel => exact ⟨k + 1, v4, m4, f4, L ++ NB, rfl, by omega, by go_num, by rw [List.length_append, unhide HNL]; omega, by have := unhide HST6; rw [show ti L ++ ti NB = ti (L ++ NB) by simp [ti]] at this; exact this, unhide HWD6⟩
        · have HPUT := hide (cput_none ls cp lo hi pb z wr hst.code hh hst.wr.c0)
          have HST := hide hst
          have HWD := hide hwd
          have HHH := hide hh
          clear hcell hz hh hst hwd
          go_wp2_with (first | (go_at_call 17; go_must (refine (unhide HPUT).mono ?_; rintro e w' ⟨rfl, rfl⟩)) | (go_at_call 15; go_must (refine (has_no ls rg n (unhide HLEN) _ _ (unhide HWD) (unhide HHH)).mono ?_; rintro e w' ⟨rfl, rfl⟩)))
          go_roundg (M - (k + 1))
          case measure => omega
          case rel => exact ⟨k + 1, v, m, f, L, rfl, by omega, by go_num, by omega, unhide HST, unhide HWD⟩
      · have hki : ¬ (k : Int) < (M : Int) := by omega
        obtain ⟨oa, oc, hov⟩ := own_slice hst.own
        rw [ti_length] at hov
        subst hov
        have hwl := hst.wr.len
        have hf7 := hst.f7
        have hL12 : L.length ≤ 30000000 := by omega
        have hmb : m ≤ 140737488355328 := by omega
        have HMM : Hid (m = (L.length + 7) / 8) := hide (by omega)
        have HSTD := hide (hst.below (w' := wr.drew) (Below.refl _ _).drew)
        have HWDD : Hid (WordsAt wr.drew 43 rg n (wdz ls) (Canon.ln ls)) := hide hwd
        have HBY := hide (bytes_ok pb m f high v L wr.drew (unhide HSTD).wr hmb)
        have HINT : Hid (∀ wx, BackAt ls w wx cp lo hi bx #[.slice a n cap, .int .i64 most, .bool loose] pb high v m f L (.slice oa L.length oc) (ti L) → 0 < L.length → ∃ b off, oa = some ⟨b, off, none⟩ ∧ ∀ j, j < L.length → wx.cell? ⟨b, off + j, none⟩ = some (bi (L.getD j false))) := hide (fun wx h h0 => by
          obtain ⟨g, c, e, _⟩ := own_cell h.own 0 (by rw [ti_length]; exact h0)
          injection e with e1 e2 e3
          refine ⟨g, 0, e1, fun j hj => ?_⟩
          obtain ⟨g', c', e', h2⟩ := own_cell h.own j (by rw [ti_length]; exact hj)
          injection e' with e1' e2' e3'
          rw [e1] at e1'
          injection e1' with e1'
          injection e1' with e1'
          subst e1'
          rw [Nat.zero_add, h2]
          simp [ti, bi, hj])
        clear hst hwd hwl hf7
        go_upto_region 20 with fail
        refine wp_region_noPanic ?_
        refine wp_region_held_drew (S := fun _ => True) (by kernel_rfl) True.intro (fun hHeld => ?_)
        refine held_take 0 88 rfl rfl (by kernel_rfl) (by kernel_rfl) (by kernel_rfl) (by rfl) hHeld noPanic_panic (v := ?_) (fun x hSx => ?_) ?_
        rotate_left 1
        · go_simp <;> with_reducible rfl
        simp only [List.set_cons_zero, List.set_cons_succ]
        refine held_take 3 91 rfl rfl (by kernel_rfl) (by kernel_rfl) (by kernel_rfl) (by rfl) hHeld noPanic_panic (v := ?_) (fun x hSx => ?_) ?_
        rotate_left 1
        · go_simp <;> with_reducible rfl
        simp only [List.set_cons_zero, List.set_cons_succ]
        refine held_take 4 92 rfl rfl (by kernel_rfl) (by kernel_rfl) (by kernel_rfl) (by rfl) hHeld noPanic_panic (v := ?_) (fun x hSx => ?_) ?_
        rotate_left 1
        · go_simp <;> with_reducible rfl
        simp only [List.set_cons_zero, List.set_cons_succ]
        refine held_enter 1 89 (by kernel_rfl) rfl rfl (by rfl) (by go_simp <;> exact ⟨rfl, rfl⟩) ?_
        refine (unhide HBY).mono ?_
        rintro e w1 ⟨rfl, hx1, hb1⟩
        have HST1 := hide ((unhide HSTD).below hb1)
        have HWD1 := hide ((unhide HWDD).stays hb1 (unhide HWDD).lt)
        obtain ⟨X, hX⟩ : ∃ X, X = wr.drew.heap.size := ⟨_, rfl⟩
        rw [← hX] at hx1 ⊢
        have HRB := hide (refBytes_ok oa oc L high w1 (unhide HINT w1 (unhide HST1)) (by omega))
        have HX1 := hide hx1
        clear hb1 hX
        refine ⟨_, rfl, True.intro, ?_⟩
        simp only [List.set_cons_zero, List.set_cons_succ]
        refine held_switch (S' := fun x => x.heap[X]? = some (.cells ((pk high m L).map bv).toArray 5 (0, 0))) (fun _ _ => True.intro) ?_
        have hHeld := hx1
        refine held_take 2 90 rfl rfl (by kernel_rfl) (by kernel_rfl) (by kernel_rfl) (by rfl) hHeld noPanic_panic (v := ?_) (fun x hSx => ?_) ?_
        rotate_left 1
        · (have hcv := conv_block (cap := m) hSx (pk_length _ _ _) (pk_lt _ _ _); go_simp <;> first | with_reducible rfl | rfl)
        simp only [List.set_cons_zero, List.set_cons_succ]
        refine held_enter 5 93 (by kernel_rfl) rfl rfl (by rfl) (by go_simp <;> exact ⟨rfl, rfl⟩) ?_
        refine (unhide HRB).mono ?_
        rintro e w2 ⟨rfl, hy2, hb2⟩
        rw [← unhide HMM] at hy2 ⊢
        have hx2 := (hb2.block _ (heap_lt hx1)).trans hx1
        obtain ⟨Y, hY⟩ : ∃ Y, Y = w1.heap.size := ⟨_, rfl⟩
        rw [← hY] at hy2 ⊢
        have HST2 := hide ((unhide HST1).below hb2)
        have HWD2 := hide ((unhide HWD1).stays hb2 (unhide HWD1).lt)
        clear hb2 hY
        refine ⟨_, rfl, hx2, ?_⟩
        simp only [List.set_cons_zero, List.set_cons_succ]
        refine held_switch (S' := fun x => x.heap[Y]? = some (.cells ((pk high m L).map bv).toArray 5 (0, 0)) ∧ x.heap[X]? = some (.cells ((pk high m L).map bv).toArray 5 (0, 0))) (fun _ h => h.2) ?_
        have hHeld := (show w2.heap[Y]? = _ ∧ w2.heap[X]? = _ from ⟨hy2, hx2⟩)
        refine held_take 6 94 rfl rfl (by kernel_rfl) (by kernel_rfl) (by kernel_rfl) (by rfl) hHeld noPanic_panic (v := ?_) (fun x hSx => ?_) ?_
        rotate_left 1
        · (have hcv := conv_block (cap := m) hSx.1 (pk_length _ _ _) (pk_lt _ _ _); go_simp <;> first | with_reducible rfl | rfl)
        simp only [List.set_cons_zero, List.set_cons_succ]
        refine held_take 7 95 rfl rfl (by kernel_rfl) (by kernel_rfl) (by kernel_rfl) (by rfl) hHeld noPanic_panic (v := ?_) (fun x hSx => ?_) ?_
        rotate_left 1
        · (go_simp <;> first | with_reducible rfl | rfl)
        simp only [List.set_cons_zero, List.set_cons_succ]
        refine wpAnyH_done (by kernel_rfl) ?_ _
        refine NoPanic.normal ?_
        clear HBY HRB HX1 HSTD HWDD HST1 HWD1
        have HBR2 := hide ((unhide HBR).stays (unhide HST2).bel)
        have HB0 := hide (unhide HST2).bel
        have hbs2 : bs.length ≤ 2000000 := by rw [← unhide HBL]; omega
        go_wp2_with (first | (go_at_call 21; go_must (refine (newReader_ok _ bs high _ (unhide HBR2) (by omega) (unhide HBS)).mono ?_; rintro e w5 ⟨rp, rfl, h3, h4, h5⟩; have HR5 := hide h4; have H5 := hide h5; have H3 := hide h3; have HBR5 := hide ((unhide HBR2).stays h5); clear h3 h4 h5)) | (go_at_call 22; go_must (refine (of_ok _ bs high _ (unhide HBR5) hbs2 (unhide HBS)).mono ?_; rintro e w6 ⟨lv, rfl, h6, h7⟩; have H6 := hide h6; have H7 := hide h7; clear h6 h7)))
        obtain ⟨gr, hgr⟩ : ∃ gr, gr = w2.heap.size := ⟨_, rfl⟩
        have l1 := (unhide H3)
        have l2 := (unhide H5).size
        have l3 := (unhide H7).size
        have l4 := (unhide HR5).lt
        have l5 := heap_lt (unhide HR5).row
        have l6 := (unhide HST2).wr.lt
        have l7 := (unhide HST2).b1
        have l8 := (unhide HST2).b3
        have hk6 : ∀ x, x < w2.heap.size → w6.heap[x]? = w2.heap[x]? := fun x hx => by rw [(unhide H7).block x (by omega), (unhide H5).block x hx]
        have HCR : Hid (∀ lg, w5.heap.size ≤ lg → (∀ j, j < 8 * bs.length → w6.cell? ⟨lg, j, none⟩ = some (bi' (bitIn high bs j))) → CRd ls w w6 cp lo hi rg n rp gr high bs 0 lg (8 * bs.length)) := hide (fun lg hlg hbits => ⟨(unhide HST2).code.keep (fun x _ hx => hk6 x (by omega)), by unfold WordsAt; rw [hk6 rg (unhide HWD2).lt]; exact unhide HWD2, by rw [hgr]; exact (unhide HR5).keep ((unhide H7).block _ l4) ((unhide H7).block _ l5), hbits, (unhide HST2).bel.trans (((unhide H5).mono (by omega)).trans ((unhide H7).mono (by omega))), by omega, by have := (unhide HWD2).lt; omega, by omega, by omega⟩)
        have hlv : (lv = .slice none 0 0 ∧ bs.length = 0) ∨ ∃ lg lcap, lv = .slice (some ⟨lg, 0, none⟩) (8 * bs.length) lcap ∧ 8 * bs.length ≤ lcap ∧ lcap ≤ maxLen ∧ w5.heap.size ≤ lg ∧ ∀ j, j < 8 * bs.length → w6.cell? ⟨lg, j, none⟩ = some (bi' (bitIn high bs j)) := by
          have h6 := unhide H6
          rcases h6.2 with ⟨e, e0⟩ | ⟨lg, lcap, cur, e, hb, hh, hn', hc, hs, ht⟩
          · exact .inl ⟨e, by omega⟩
          · refine .inr ⟨lg, lcap, e, hn', hc, hb, fun j hj => ?_⟩
            have h8 : (cur.toList.take (8 * bs.length * 1))[j]? = some (bi (bitIn high bs j)) := by rw [ht]; simp [hj]
            rw [List.getElem?_take, if_pos (by omega)] at h8
            simp only [World.cell?, hh]
            simpa [bi, bi'] using h8
        have l3' : w5.heap.size ≤ w6.heap.size := l3
        clear hk6 l1 l2 l3 l4 l5 l6 l7 l8 H3 H5 H6 H7 HR5 HBR2 HBR5 hgr HST2 HWD2 HB0
        rcases hlv with ⟨rfl, hb0⟩ | ⟨lg, lcap, rfl, hlc, hlm, hlg, hbits⟩
        · have HC0 := hide (unhide HCR w6.heap.size l3' (fun j hj => by omega))
          obtain ⟨S, hS⟩ : ∃ S, S = 8 * bs.length := ⟨_, rfl⟩
          obtain ⟨lg, hlg⟩ : ∃ lg, lg = w6.heap.size := ⟨_, rfl⟩
          rw [← hS, ← hlg] at HC0
          have HS := hide hS
          have hS2 : S = 0 := by omega
          clear hS HCR hlg
          go_loopg [18, 19] 40 (fun gk atv iv ws => ∃ (i t : Nat), gk = 40 - i ∧ i ≤ 40 ∧ t ≤ S ∧ atv = .int .i64 (t : Int) ∧ iv = .int .i64 (i : Int) ∧ CRd ls w ws cp lo hi rg n rp gr high bs t lg S)
          case atStart => exact ⟨0, 0, by omega, by omega, by omega, rfl, rfl, unhide HC0⟩
          case round =>
            obtain ⟨i, t, rfl, hi', htS, rfl, rfl, hst⟩ := hrel
            clear HC0
            subst hS2
            obtain rfl : t = 0 := by omega
            by_cases hlt' : i < 40
            · have hii' : (i : Int) < 40 := by omega
              have HST := hide hst
              have HCG := hide (cget_ok ls cp lo hi rp gr 0 high bs wr hst.code hst.rd (by omega) (.inr hst.o1) (by have := hst.o1; have := hst.rd.lt; omega))
              clear hst
              go_upto_region 29 with (go_at_call 23; go_must (refine (unhide HCG).mono ?_; rintro e w7 ⟨s9, s9x, s9y, rfl, h1, h2, h3⟩; have HGI2 : Hid (GetIs ls (fun j => bitIn high bs (0 + j)) 0 s9 s9x s9y) := hide (by have := h1; rw [hb0] at this; exact this); have HST7 := hide ((unhide HST).only h3 h2); clear h1 h2 h3))
              have htc : ((0 : Nat) : Int) ≤ ((0 : Nat) : Int) := by omega
              go_wp2_with fail
              refine (refget_ok ls rg n none 0 0 (fun j => bitIn high bs (0 + j)) w7 (unhide HG) (unhide HLEN) hn16 (unhide HST7).words (by omega) (fun h => by omega)).mono ?_
              rintro e w8 ⟨s', x', y', rfl, h1, q, rfl⟩
              obtain ⟨rfl, rfl, rfl⟩ := (unhide HGI2).one (unhide HG) h1
              have hxb : 0 + s9x ≤ 0 := by have := (unhide HGI2).1; omega
              have HST8 := hide ((unhide HST7).drewN q)
              have HAT := hide (at_ok rp gr (0 + s9x) high bs (w7.drewN q) (unhide HST8).rd)
              have hxs : s9x ≤ 16777216 := by omega
              clear h1
              go_wp2_with (go_at_call 25; go_must (refine (unhide HAT).mono ?_; rintro e w' ⟨rfl, rfl⟩))
              go_roundg (40 - (i + 1))
              case measure => omega
              case rel => exact ⟨i + 1, 0 + s9x, rfl, by omega, hxb, by first | rfl | (congr 1; omega), by go_num, unhide HST8⟩
            · have hii' : ¬ (i : Int) < 40 := by omega
              have HB9 := hide hst.bel
              clear hst
              go_wp2_with (go_at_call 17; go_must (refine (cput_nil _ _ _).mono ?_; rintro e w' ⟨rfl, rfl⟩))
              go_ret
              exact ⟨rfl, unhide HB9⟩
        · have HC0 := hide (unhide HCR lg hlg hbits)
          obtain ⟨S, hS⟩ : ∃ S, S = 8 * bs.length := ⟨_, rfl⟩
          rw [← hS] at HC0 hlc ⊢
          have HS := hide hS
          have hS2 : S ≤ 16777216 := by rw [hS, ← unhide HBL]; omega
          unfold maxLen at hlm
          clear hS hbits hlg HCR
          go_loopg [18, 19] 40 (fun gk atv iv ws => ∃ (i t : Nat), gk = 40 - i ∧ i ≤ 40 ∧ t ≤ S ∧ atv = .int .i64 (t : Int) ∧ iv = .int .i64 (i : Int) ∧ CRd ls w ws cp lo hi rg n rp gr high bs t lg S)
          case atStart => exact ⟨0, 0, by omega, by omega, by omega, rfl, rfl, unhide HC0⟩
          case round =>
            obtain ⟨i, t, rfl, hi', htS, rfl, rfl, hst⟩ := hrel
            clear HC0
            by_cases hlt' : i < 40
            · have hii' : (i : Int) < 40 := by omega
              have HST := hide hst
              have HCG := hide (cget_ok ls cp lo hi rp gr t high bs wr hst.code hst.rd (by omega) (.inr hst.o1) (by have := hst.o1; have := hst.rd.lt; omega))
              clear hst
              go_upto_region 29 with (go_at_call 23; go_must (refine (unhide HCG).mono ?_; rintro e w7 ⟨s9, s9x, s9y, rfl, h1, h2, h3⟩; have HGI2 : Hid (GetIs ls (fun j => bitIn high bs (t + j)) (S - t) s9 s9x s9y) := hide (by rw [unhide HS]; exact h1); have HST7 := hide ((unhide HST).only h3 h2); clear h1 h2 h3))
              have htc : (t : Int) ≤ (S : Int) := by omega
              have hSc : (S : Int) ≤ (lcap : Int) := by omega
              by_cases hct : lcap = t
              · have hSt : S = t := by omega
                subst hct
                subst hSt
                rw [Nat.sub_self] at HGI2
                clear htc hSc hlc htS
                go_wp2_with fail
                refine (refget_ok ls rg n _ 0 _ (fun j => bitIn high bs (S + j)) w7 (unhide HG) (unhide HLEN) hn16 (unhide HST7).words (by omega) (fun h => by omega)).mono ?_
                rintro e w8 ⟨s', x', y', rfl, h1, q, rfl⟩
                obtain ⟨rfl, rfl, rfl⟩ := (unhide HGI2).one (unhide HG) h1
                have hxb : S + s9x ≤ S := by have := (unhide HGI2).1; omega
                have HST8 := hide ((unhide HST7).drewN q)
                have HAT := hide (at_ok rp gr (S + s9x) high bs (w7.drewN q) (unhide HST8).rd)
                have hxs : s9x ≤ 16777216 := by omega
                clear h1
                go_wp2_with (go_at_call 25; go_must (refine (unhide HAT).mono ?_; rintro e w' ⟨rfl, rfl⟩))
                go_roundg (40 - (i + 1))
                case measure => omega
                case rel => exact ⟨i + 1, S + s9x, rfl, by omega, hxb, by first | rfl | (congr 1; omega), by go_num, unhide HST8⟩
              · go_wp2_with fail
                refine (refget_ok ls rg n _ (S - t) _ (fun j => bitIn high bs (t + j)) w7 (unhide HG) (unhide HLEN) hn16 (unhide HST7).words (by omega) (fun _ => ⟨lg, t, rfl, fun j hj => (unhide HST7).bits (t + j) (by omega)⟩)).mono ?_
                rintro e w8 ⟨s', x', y', rfl, h1, q, rfl⟩
                obtain ⟨rfl, rfl, rfl⟩ := (unhide HGI2).one (unhide HG) h1
                have hxb : t + s9x ≤ S := by have := (unhide HGI2).1; omega
                have HST8 := hide ((unhide HST7).drewN q)
                have HAT := hide (at_ok rp gr (t + s9x) high bs (w7.drewN q) (unhide HST8).rd)
                have hxs : s9x ≤ 16777216 := by omega
                clear h1
                go_wp2_with (go_at_call 25; go_must (refine (unhide HAT).mono ?_; rintro e w' ⟨rfl, rfl⟩))
                go_roundg (40 - (i + 1))
                case measure => omega
                case rel => exact ⟨i + 1, t + s9x, rfl, by omega, hxb, by first | rfl | (congr 1; omega), by go_num, unhide HST8⟩
            · have hii' : ¬ (i : Int) < 40 := by omega
              have HB9 := hide hst.bel
              clear hst
              go_wp2_with (go_at_call 17; go_must (refine (cput_nil _ _ _).mono ?_; rintro e w' ⟨rfl, rfl⟩))
              go_ret
              exact ⟨rfl, unhide HB9⟩

end Go.Proofs.Ytclccccodeekmaa
