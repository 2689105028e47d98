/- PrefixReads: a full code reads any bits, and what is put has the bits that the cost tells. -/
import Derived.Test.YtclccccodeekmaaBack
namespace Go.Proofs.Ytclccccodeekmaa
open Go.RowKit Mth
set_option linter.unusedVariables false

attribute [local go_sem ↓] Go.wp_at_zero Go.wp_at_succ

/-- What New answers that is not loose: a full code, or none. -/
theorem PNew.full {zs : List Int} {most : Int} {cv : Value} {ec : Int} {w : World} {lo hi : Nat} (h : PNew zs most false cv ec w lo hi) :
    (cv = .pointer none ∧ (ec = 2 ∨ ec = 13)) ∨ (ec = 0 ∧ Canon.sum (nat zs) = 1048576 ∧ ∃ cp, cv = .pointer (some ⟨cp, 0, none⟩) ∧ Code (nat zs) w cp lo hi) := by
  rcases h with ⟨_, h1, h2⟩ | ⟨_, _, h1, h2⟩ | ⟨_, hs, h1, h2⟩
  · exact .inl ⟨h1, .inl h2⟩
  · exact .inl ⟨h1, .inr h2⟩
  · refine .inr ⟨h1, ?_, h2⟩
    rcases hs with h | ⟨h, _⟩
    · exact h
    · cases h

/-- of a full code no error but the end -/
theorem GetIs.full {ls : List Nat} (hg : Good ls) (hs : Canon.sum ls = 1048576) {f : Nat → Bool} {m s n e : Nat} (h : GetIs ls f m s n e) : n ≤ m ∧ ((e = 0 ∧ 1 ≤ n ∧ s < ls.length ∧ 0 < Canon.ln ls s) ∨ (e = 10 ∧ n = m)) := by
  obtain ⟨h1, h2, h3⟩ := h
  refine ⟨h1, ?_⟩
  rcases h3 with ⟨e0, h4, h5⟩ | ⟨_, _, h4, h5⟩ | ⟨e0, _, h4, _⟩
  · exact .inl ⟨e0, h4, h5.1, h5.2.1⟩
  · exact absurd (full_beg hg hs f n h4 h2) h5
  · exact .inr ⟨e0, h4⟩

/-- how often symbols come, as a list -/
def osOf (C : Nat → Nat) (n : Nat) : List Int := (List.range n).map fun i => (C i : Int)

theorem osOf_get (C : Nat → Nat) (n i : Nat) (h : i < n) : (osOf C n).getD i 0 = (C i : Int) := by
  simp [osOf, h]

theorem osOf_length (C : Nat → Nat) (n : Nat) : (osOf C n).length = n := by simp [osOf]

theorem acc_upd (ls : List Nat) (C : Nat → Nat) (n s : Nat) : ∀ k, k ≤ n → acc ls (osOf (upd C s (C s + 1)) n) k = acc ls (osOf C n) k + (if s < k then Canon.ln ls s else 0)
  | 0, _ => by simp [acc]
  | k + 1, h => by
    rw [acc, acc, acc_upd ls C n s k (by omega), osOf_get _ _ _ (by omega), osOf_get _ _ _ (by omega), Int.toNat_natCast, Int.toNat_natCast]
    by_cases e : k = s
    · subst e
      rw [if_neg (by omega), if_pos (by omega), show upd C k (C k + 1) k = C k + 1 from if_pos rfl, Nat.add_mul, Nat.one_mul]
      omega
    · rw [upd_ne e]
      by_cases e2 : s < k
      · rw [if_pos e2, if_pos (by omega)]; omega
      · rw [if_neg e2, if_neg (by omega)]; omega

theorem acc_zero (ls : List Nat) (n : Nat) : ∀ k, k ≤ n → acc ls (osOf (fun _ => 0) n) k = 0
  | 0, _ => rfl
  | k + 1, h => by rw [acc, acc_zero ls n k (by omega), osOf_get _ _ _ (by omega)]; simp

/-- A code, a reader, a list of counts and a writer, each in blocks of its own. -/
structure OftAt (ls : List Nat) (w ws : World) (cp lo hi bx : Nat) (box : Array Value) (rp gr : Nat) (bs : List Nat) (t og n : Nat) (C : Nat → Nat) (pb : Nat) (v : Value) (m f : Nat) (L : List Bool) : Prop where
  cb : CodeBox ls w ws cp lo hi bx box
  rd : ROk ws rp true gr bs t
  oft : IntsAt ws .i64 3 og n C
  wr : WOk ws pb true v m L f
  f7 : f ≤ 7
  o1 : hi ≤ og
  o2 : bx < og
  o3 : rp < og
  o4 : gr < og
  o5 : og < pb
  o6 : w.heap.size ≤ og

section
variable {ls : List Nat} {w ws w' : World} {cp lo hi bx rp gr t og n pb m f m' f' : Nat} {box : Array Value} {bs : List Nat} {C : Nat → Nat} {v v' : Value} {L L' : List Bool}

theorem OftAt.chg (h : OftAt ls w ws cp lo hi bx box rp gr bs t og n C pb v m f L) (hw : WOk w' pb true v' m' L' f') (hf : f' ≤ 7) (hc : Chg pb v ws v' w') : OftAt ls w w' cp lo hi bx box rp gr bs t og n C pb v' m' f' L' := by
  have hpb := h.wr.lt
  have hv : ∀ k, v.ownBlock = some k → pb + 1 ≤ k := fun k e => (h.wr.row.lt k e).1
  have kp : ∀ k, k < pb → w'.heap[k]? = ws.heap[k]? := fun k hk => hc.keep k (by omega) (by omega) (fun e => by have := hv k e; omega)
  have h1 := h.o1
  have h2 := h.o2
  have h3 := h.o3
  have h4 := h.o4
  have h5 := h.o5
  have h6 := h.o6
  refine ⟨⟨h.cb.code.keep (fun k _ h2 => kp k (by omega)), by rw [kp _ (by omega)]; exact h.cb.box, h.cb.bel.trans ⟨hc.os, hc.tape, hc.output, hc.size, fun k hk => kp k (by omega)⟩, Nat.le_trans h.cb.hi hc.size⟩, h.rd.keep (kp _ (by omega)) (kp _ (by omega)), ?_, hw, hf, h1, h2, h3, h4, h5, h6⟩
  unfold IntsAt
  rw [kp _ h5]
  exact h.oft

theorem OftAt.inc (h : OftAt ls w ws cp lo hi bx box rp gr bs t og n C pb v m f L) (s : Nat) : OftAt ls w (ws.setCell ⟨og, s, none⟩ (.int .i64 ((C s + 1 : Nat) : Int))) cp lo hi bx box rp gr bs t og n (upd C s (C s + 1)) pb v m f L := by
  have hv : ∀ k, v.ownBlock = some k → pb + 1 ≤ k := fun k e => (h.wr.row.lt k e).1
  have h1 := h.o1
  have h2 := h.o2
  have h3 := h.o3
  have h4 := h.o4
  have h5 := h.o5
  have h6 := h.o6
  have kp : ∀ k, k ≠ og → (ws.setCell ⟨og, s, none⟩ (.int .i64 ((C s + 1 : Nat) : Int))).heap[k]? = ws.heap[k]? := fun k hk => heap_setCell_other _ _ _ _ hk
  exact ⟨⟨h.cb.code.keep (fun k _ h2 => kp k (by omega)), by rw [kp _ (by omega)]; exact h.cb.box, h.cb.bel.setCell (by exact h6) _, by simpa using h.cb.hi⟩, h.rd.keep (kp _ (by omega)) (kp _ (by omega)), h.oft.set s _, h.wr.keep (kp _ (by omega)) (fun g hg => kp g (by have := hv g hg; omega)), h.f7, h1, h2, h3, h4, h5, h6⟩

theorem oft_start (hcb : CodeBox ls w ws cp lo hi bx box) (hrd : ROk ws rp true gr bs t) :
    OftAt ls w ((ws.alloc (.cells (icells .i64 n (fun _ => 0)) 3)).alloc (.cells #[.bool true, .bool true, .slice none 0 0, .int .i64 0] 76)) cp lo hi bx box rp gr bs t ws.heap.size n (fun _ => 0) (ws.heap.size + 1) (.slice none 0 0) 0 0 [] := by
  have l1 := hrd.lt
  have l2 := heap_lt hrd.row
  have l3 := heap_lt hcb.box
  have b : Below ws.heap.size ws ((ws.alloc (.cells (icells .i64 n (fun _ => 0)) 3)).alloc (.cells #[.bool true, .bool true, .slice none 0 0, .int .i64 0] 76)) := ((Below.refl _ _).alloc (Nat.le_refl _) _).alloc (by simp) _
  have hw := new_ok true (ws.alloc (.cells (icells .i64 n (fun _ => 0)) 3))
  rw [show (ws.alloc (.cells (icells .i64 n (fun _ => 0)) 3)).heap.size = ws.heap.size + 1 by simp] at hw
  exact ⟨hcb.step b, hrd.keep (b.block _ l1) (b.block _ l2), IntsAt.alloc (show IntsAt _ _ _ _ _ _ from heap_alloc_new ws _) _, hw, by omega, hcb.hi, l3, l1, l2, by omega, hcb.bel.size⟩

theorem OftAt.reads (h : OftAt ls w ws cp lo hi bx box rp gr bs t og n C pb v m f L) : ReadsI ws (.slice (some ⟨og, 0, none⟩) n n) (osOf C n) := by
  refine ⟨_, n, by rw [osOf_length], fun _ => ⟨og, 0, rfl, fun j hj => ?_⟩⟩
  rw [osOf_length] at hj
  rw [osOf_get C n j hj, Nat.zero_add]
  exact h.oft.cell j hj
end

set_option maxRecDepth 100000 in
set_option maxHeartbeats 4000000 in
theorem reads_walk (a : Option Addr) (cap : Nat) (zs ps : List Int) (bs : List Nat) (most : Int) (loose : Bool) (bvl pv : Value) (w : World) (hr : ReadsI w (.slice a zs.length cap) zs) (hb : Reads w bvl bs) (hbs : ∀ z ∈ bs, z < 256) (hbn : bs.length ≤ 140737488351232) (hp : ReadsI w pv ps) (hn : ps.length * 8 ≤ 140737488351232) :
    Calls Try.prog 7 #[.agg #[.slice a zs.length cap, .int .i64 most, .bool loose], bvl, pv] w fun e w' => e = .returned (.bool true) ∧ Below w.heap.size w w' := by
  obtain ⟨pa, pcap, rfl, hpc⟩ := hp
  have HRD := hide hr
  have HP := hide hpc
  have HBR := hide hb
  have HBS := hide hbs
  obtain ⟨n, hnn⟩ : ∃ n, n = zs.length := ⟨_, rfl⟩
  obtain ⟨M, hMM⟩ : ∃ M, M = ps.length := ⟨_, rfl⟩
  rw [← hnn] at HRD ⊢
  rw [← hMM] at HP hn ⊢
  have HN := hide hnn
  have HM := hide hMM
  clear hr hpc hnn hMM hb hbs
  obtain ⟨bx, hbx⟩ : ∃ bx, bx = w.heap.size := ⟨_, rfl⟩
  have hbox := heap_alloc_new w (.cells #[.slice a n cap, .int .i64 most, .bool loose] 24)
  have HB0 : Hid (Below w.heap.size w (w.alloc (.cells #[.slice a n cap, .int .i64 most, .bool loose] 24))) := (Below.refl _ _).alloc (Nat.le_refl _) _
  go_enter Try.func7, Try.ntmps7
  go_upto_region 1 with fail
  rw [← hbx] at hbox ⊢
  have HBX := hide hbx
  clear hbx
  generalize w.alloc (.cells #[.slice a n cap, .int .i64 most, .bool loose] 24) = w0 at hbox HB0 ⊢
  have HBOX := hide hbox
  clear hbox
  have HR2 := hide (reads11 w0)
  go_upto_region 4 with (first | (go_at_call 8; go_must (refine (pnew_pair _ _ (unhide HR2)).mono ?_; rintro e w1 ⟨cq, rfl, h3, h4⟩; have H3 := hide h3; have H4 := hide h4; clear h3 h4)) | (go_at_call 13; go_must (refine (symbols_n [1, 1] cq _ _ 2 rfl _ (unhide H3)).mono ?_; rintro e w' ⟨rfl, rfl⟩)))
  have hbl : bx < w0.heap.size := heap_lt (unhide HBOX)
  have hs0 := (unhide HB0).size
  have hs1 := (unhide H4).size
  simp at hs1
  have hbox1 : w'.heap[bx]? = some (.cells #[.slice a n cap, .int .i64 most, .bool loose] 24 (0, 0)) := by
    rw [(unhide H4).block bx (by simp; omega), Below.heap_alloc _ _ _ hbl]; exact unhide HBOX
  have HBOX1 := hide hbox1
  have HB1 : Hid (Below w.heap.size w w') := (unhide HB0).trans ((((Below.refl _ w0).alloc (Nat.le_refl _) _).mono hs0).trans ((unhide H4).mono (by simp; omega)))
  have HR1 := hide ((unhide HRD).stays (unhide HB1))
  have b0 : w'.cell? ⟨bx, 0, none⟩ = some (.slice a n cap) := by simp [World.cell?, hbox1]
  have b1 : w'.cell? ⟨bx, 1, none⟩ = some (.int .i64 most) := by simp [World.cell?, hbox1]
  clear hbox1 H4 hs0 hs1 hbl HBOX HB0
  go_upto_region 5 with (go_at_call 8; go_must (refine (pnew_any _ zs most false _ (unhide HR1)).mono ?_; rintro e w2 ⟨cv, ec, rfl, h1, h2⟩; have H1 := hide h1; have H2 := hide h2; clear h1 h2))
  have HB2 : Hid (Below w.heap.size w w2) := (unhide HB1).trans ((unhide H2).mono (unhide HB1).size)
  have HBOX2 : Hid (w2.heap[bx]? = some (.cells #[.slice a n cap, .int .i64 most, .bool loose] 24 (0, 0))) := hide (by rw [(unhide H2).block bx (heap_lt (unhide HBOX1))]; exact unhide HBOX1)
  clear b0 b1 HBOX1 HB1 H2 HR1
  rcases (unhide H1).full with ⟨rfl, rfl | rfl⟩ | ⟨rfl, hsum, cp, rfl, hc⟩
  · go_wp2_with fail
    go_ret
    exact ⟨rfl, unhide HB2⟩
  · go_wp2_with fail
    go_ret
    exact ⟨rfl, unhide HB2⟩
  · obtain ⟨lo, hlo⟩ : ∃ lo, lo = w'.heap.size := ⟨_, rfl⟩
    obtain ⟨hi, hhi⟩ : ∃ hi, hi = w2.heap.size := ⟨_, rfl⟩
    rw [← hlo, ← hhi] at hc
    have HCB : Hid (CodeBox (nat zs) w w2 cp lo hi bx #[.slice a n cap, .int .i64 most, .bool loose]) := hide ⟨hc, unhide HBOX2, unhide HB2, by omega⟩
    have HLEN : Hid ((nat zs).length = n) := hide (by simp [nat, unhide HN])
    have hgd : Good (nat zs) := by obtain ⟨_, _, _, _, _, _, _, _, _, _, _, hc'⟩ := hc; exact hc'.good
    have hn16 : n ≤ 65536 := by
      obtain ⟨_, _, _, _, _, _, _, _, _, _, _, hc'⟩ := hc
      have := hc'.small
      rw [unhide HLEN] at this
      exact this
    have HZL : Hid (∀ i, i < n → ∃ z : Nat, zs.getD i 0 = (z : Int) ∧ z = Canon.ln (nat zs) i) := hide (by
      rcases unhide H1 with ⟨_, e, _⟩ | ⟨_, _, e, _⟩ | ⟨hok, _⟩
      · cases e
      · cases e
      · exact fun i hi => ⟨_, (getD_ln zs most hok.2 i (by rw [← unhide HN]; exact hi)).1, rfl⟩)
    generalize nat zs = ls at HCB HLEN hgd hsum HZL
    have HG := hide hgd
    have HSUM := hide hsum
    clear hc hgd hsum hlo hhi HBOX2 HB2 H1 H3 HR2
    have HRB := hide ((unhide HBR).stays (unhide HCB).bel)
    go_wp2_with (go_at_call 21; go_must (refine (newReader_ok _ bs true _ (unhide HRB) (by omega) (unhide HBS)).mono ?_; rintro e w5 ⟨rp, rfl, h3, h4, h5⟩; have HCB5 := hide ((unhide HCB).step h5); have HRD5 := hide h4; have HRP : Hid (hi ≤ rp ∧ bx < rp ∧ w.heap.size ≤ rp) := hide ⟨Nat.le_trans (unhide HCB).hi h3, by have := heap_lt (unhide HCB).box; omega, by have := (unhide HCB).bel.size; omega⟩; clear h3 h4 h5))
    obtain ⟨gr, hgr⟩ : ∃ gr, gr = w2.heap.size := ⟨_, rfl⟩
    rw [← hgr] at HRD5
    clear hgr HRB HCB
    go_loopg [] (8 * bs.length) (fun gk ws => ∃ (t : Nat), gk = 8 * bs.length - t ∧ CodeBox ls w ws cp lo hi bx #[.slice a n cap, .int .i64 most, .bool loose] ∧ ROk ws rp true gr bs t)
    case atStart => exact ⟨0, by omega, unhide HCB5, unhide HRD5⟩
    case round =>
      obtain ⟨t, rfl, hcb, hrd⟩ := hrel
      clear HCB5 HRD5
      have hle := hrd.le
      have HLF := hide (left_ok rp gr t true bs wr hrd (by omega))
      by_cases hlt : t < 8 * bs.length
      · have hl' : (0 : Int) < 8 * (bs.length : Int) - (t : Int) := by omega
        have HCB6 := hide hcb
        have HRD6 := hide hrd
        have b0' : ∀ ws', CodeBox ls w ws' cp lo hi bx #[.slice a n cap, .int .i64 most, .bool loose] → ws'.cell? ⟨bx, 0, none⟩ = some (.slice a n cap) := fun ws' h => h.cell rfl
        have HB0' := hide b0'
        clear hcb hrd b0'
        go_upto_region 10 with (first | (go_at_call 27; go_must (refine (unhide HLF).mono ?_; rintro e w6 ⟨rfl, q, rfl⟩; have HCB7 := hide ((unhide HCB6).step (below_drewN (Below.refl _ _) q)); have HRD7 := hide ((unhide HRD6).drewN q))) | (go_at_call 23; go_must (refine (cget_ok ls cp lo hi rp gr t true bs _ (unhide HCB7).code (unhide HRD7) (by omega) (.inr (unhide HRP).1) (unhide HCB7).hi).mono ?_; rintro e w8 ⟨s, x, y, rfl, h1, h2, h3⟩; have HGI := hide (h1.full (unhide HG) (unhide HSUM)); have HRD8 := hide h2; have HCB8 : Hid (CodeBox ls w w8 cp lo hi bx #[.slice a n cap, .int .i64 most, .bool loose]) := hide ⟨(unhide HCB7).code.keep (fun k _ hk => h3.keep k (by have := (unhide HCB7).hi; omega) (by have := (unhide HRP).1; omega)), by rw [h3.keep bx (heap_lt (unhide HCB7).box) (by have := (unhide HRP).2.1; omega)]; exact (unhide HCB7).box, (unhide HCB7).bel.trans (h3.below (unhide HRP).2.2 (unhide HCB7).bel.size), Nat.le_trans (unhide HCB7).hi h3.size⟩; clear h1 h2 h3)))
        rcases (unhide HGI).2 with ⟨rfl, hx1, hs1, hs2⟩ | ⟨rfl, hx⟩
        · obtain ⟨b, off, rfl, hcell⟩ : ∃ b off, a = some ⟨b, off, none⟩ ∧ ∀ j, j < n → w.cell? ⟨b, off + j, none⟩ = some (.int .i64 (zs.getD j 0)) := by
            obtain ⟨a', cap', e, hh⟩ := unhide HRD
            injection e with e1 e2 e3
            subst e1
            rw [← e2] at hh
            exact hh (by rw [unhide HLEN] at hs1; omega)
          rw [unhide HLEN] at hs1
          have q1 := cell_stays (unhide HCB8).bel (hcell s hs1)
          obtain ⟨z, hz1, hz2⟩ := unhide HZL s hs1
          rw [hz1] at q1
          have hz0 : ((z : Int) == 0) = false := by rw [← hz2] at hs2; simp; omega
          have b0 := unhide HB0' _ (unhide HCB8)
          have hsn : ¬ (n : Int) ≤ (s : Int) := by omega
          have hsn2 : (s : Int) < (n : Int) := by omega
          have hs0 : ¬ (s : Int) < 0 := by omega
          clear hcell hz1 hz2 hs2
          go_wp2_with fail
          go_roundg (8 * bs.length - (t + x))
          case measure => omega
          case rel => exact ⟨t + x, rfl, unhide HCB8, unhide HRD8⟩
        · have HCBX := HCB8
          have HRDX : Hid (ROk w8 rp true gr bs (8 * bs.length)) := hide (by have := unhide HRD8; rwa [hx, show t + (8 * bs.length - t) = 8 * bs.length by omega] at this)
          clear HCB8 HRD8 HCB7 HRD7 HCB6 HRD6 hx HGI HLF
          have b0 : (w8).cell? ⟨bx, 0, none⟩ = some (.slice a n cap) := (unhide HCBX).cell rfl
          have hmk := ints_made (w8) n hn16
          have HST := hide (oft_start (n := n) (unhide HCBX) (unhide HRDX))
          go_upto_region 15 with (go_at_call 16; go_must (refine (new_any true _).mono ?_; rintro e w' ⟨rfl, rfl⟩))
          obtain ⟨og, hog⟩ : ∃ og, og = (w8).heap.size := ⟨_, rfl⟩
          have hsz2 : ((w8).alloc (.cells (icells .i64 n (fun _ => 0)) 3)).heap.size = og + 1 := by simp [hog]
          try rw [hsz2]
          try rw [← hog] at HST ⊢
          try rw [← hog] at HST
          generalize ((w8).alloc (.cells (icells .i64 n (fun _ => 0)) 3)).alloc (.cells #[.bool true, .bool true, .slice none 0 0, .int .i64 0] 76) = w9 at HST ⊢
          clear hmk hog hsz2 b0
          go_wp2_with fail
          go_loopg [15] M (fun gk d ws => ∃ (k : Nat) (C : Nat → Nat) (v : Value) (m f : Nat) (L : List Bool), gk = M - k ∧ k ≤ M ∧ d = .int .i64 (k : Int) ∧ L.length = acc ls (osOf C n) n ∧ L.length ≤ 20 * k ∧ (∀ i, i < n → C i ≤ k ∧ (0 < C i → 0 < Canon.ln ls i)) ∧ OftAt ls w ws cp lo hi bx #[.slice a n cap, .int .i64 most, .bool loose] rp gr bs (8 * bs.length) og n C (og + 1) v m f L)
          case atStart => exact ⟨0, _, _, 0, 0, [], by omega, by omega, rfl, by rw [acc_zero ls n n (Nat.le_refl _)]; rfl, by simp, fun i _ => ⟨Nat.le_refl _, fun h => by omega⟩, unhide HST⟩
          case round =>
            obtain ⟨k, C, v, m, f, L, rfl, hk, rfl, hacc, hL20, hC, hst⟩ := hrel
            clear HST HCBX HRDX
            by_cases hltk : k < M
            · obtain ⟨b, off, rfl, hcell⟩ := unhide HP (by omega)
              have q1 := cell_stays hst.cb.bel (hcell k hltk)
              obtain ⟨z, hz⟩ : ∃ z, z = ps.getD k 0 := ⟨_, rfl⟩
              rw [← hz] at q1
              have hki : (k : Int) < (M : Int) := by omega
              by_cases hh : HasW ls z
              · obtain ⟨s1, s2, s3⟩ := id hh
                obtain ⟨sn, rfl⟩ := Int.eq_ofNat_of_zero_le s1
                rw [Int.toNat_natCast] at s3
                have hsl : sn < ls.length := by omega
                have hsn : sn < n := by rw [← unhide HLEN]; exact hsl
                have hsni : (sn : Int) < (n : Int) := by omega
                have hl20 := ((unhide HG).has hsl s3).2.2
                have HPUT := hide (cput_ok ls cp lo hi sn (og + 1) m f true v L wr hst.cb.code hsl s3 hst.wr hst.f7 (by omega))
                have HST := hide hst
                have hcb := (hC sn hsn).1
                have HREL : Hid ((L ++ bitsOf true (Canon.wd ls sn) (Canon.ln ls sn)).length = acc ls (osOf (upd C sn (C sn + 1)) n) n ∧ (L ++ bitsOf true (Canon.wd ls sn) (Canon.ln ls sn)).length ≤ 20 * (k + 1) ∧ (∀ i, i < n → upd C sn (C sn + 1) i ≤ k + 1 ∧ (0 < upd C sn (C sn + 1) i → 0 < Canon.ln ls i))) := hide (by
                  rw [List.length_append, bitsOf_length, acc_upd ls C n sn n (Nat.le_refl _), if_pos hsn]
                  refine ⟨by omega, by omega, fun i hi => ?_⟩
                  by_cases e : i = sn
                  · subst e; rw [show upd C i (C i + 1) i = C i + 1 from if_pos rfl]; exact ⟨by omega, fun _ => s3⟩
                  · rw [upd_ne e]; exact ⟨by have := (hC i hi).1; omega, (hC i hi).2⟩)
                have HCC := hide (fun (w4 : World) (hb : Below w.heap.size w w4) => cell_stays hb (hcell k hltk))
                rw [← hz] at HCC
                have HINC := hide (fun (w4 : World) (v4 : Value) (m4 f4 : Nat) (h4 : OftAt ls w w4 cp lo hi bx #[.slice a n cap, .int .i64 most, .bool loose] rp gr bs (8 * bs.length) og n C (og + 1) v4 m4 f4 (L ++ bitsOf true (Canon.wd ls sn) (Canon.ln ls sn))) => h4.inc sn)
                obtain ⟨x, hx⟩ : ∃ x, x = C sn := ⟨_, rfl⟩
                rw [← hx] at hcb HINC HREL
                have HXX := hide hx
                clear hcell hz hh s1 s2 s3 hsl hst hacc hL20 hC hl20 hx
                go_wp2_with (go_at_call 17; go_must (refine (unhide HPUT).mono ?_; rintro e w4 ⟨rfl, v4, m4, f4, h1, h2, h3⟩; have HST4 := hide ((unhide HST).chg h1 h2 h3); replace q1 : w4.cell? ⟨b, off + k, none⟩ = some (.int .i64 (sn : Int)) := unhide HCC w4 (unhide HST4).cb.bel; have k1 := (unhide HST4).oft.cell sn hsn; rw [← unhide HXX] at k1; have k2 := (unhide HST4).oft.free sn; clear h1 h2 h3))
                go_roundg (M - (k + 1))
                case measure => omega
                case rel =>
                  obtain ⟨r1, r2, r3⟩ := unhide HREL
                  refine ⟨k + 1, upd C sn (x + 1), v4, m4, f4, _, rfl, by omega, by go_num, r1, r2, r3, ?_⟩
                  have := unhide HINC w4 v4 m4 f4 (unhide HST4)
                  rw [show ((x + 1 : Nat) : Int) = (x : Int) + 1 by omega] at this
                  exact this
              · have HPUT := hide (cput_none ls cp lo hi (og + 1) z wr hst.cb.code hh hst.wr.c0)
                have HST := hide hst
                have HREL : Hid (L.length = acc ls (osOf C n) n ∧ L.length ≤ 20 * (k + 1) ∧ (∀ i, i < n → C i ≤ k + 1 ∧ (0 < C i → 0 < Canon.ln ls i))) := hide ⟨hacc, by omega, fun i hi => ⟨by have := (hC i hi).1; omega, (hC i hi).2⟩⟩
                clear hcell hz hh hst hacc hL20 hC
                go_wp2_with (go_at_call 17; go_must (refine (unhide HPUT).mono ?_; rintro e w' ⟨rfl, rfl⟩))
                go_roundg (M - (k + 1))
                case measure => omega
                case rel =>
                  obtain ⟨r1, r2, r3⟩ := unhide HREL
                  exact ⟨k + 1, C, v, m, f, L, rfl, by omega, by go_num, r1, r2, r3, unhide HST⟩
            · have hki : ¬ (k : Int) < (M : Int) := by omega
              have hLb : L.length ≤ 1000000000000000 := by omega
              have HIS : Hid (CostIs ls (osOf C n) (L.length : Int) 0) := hide (.inr (.inr ⟨⟨by rw [osOf_length, unhide HLEN]; exact Nat.le_refl _, fun i hi => by
                rw [osOf_length] at hi
                rw [osOf_get C n i hi]
                exact ⟨by omega, fun h => (hC i hi).2 (by omega)⟩⟩, by rw [osOf_length, ← hacc]; omega, by rw [osOf_length, ← hacc], rfl⟩))
              have HST := hide hst
              have hee : ((L.length : Int) == (L.length : Int)) = true := by simp
              clear hst hacc hL20 hC
              obtain ⟨q, hq⟩ : ∃ q, q = L.length := ⟨_, rfl⟩
              go_wp2_with (first | (go_at_call 11; go_must (refine (cost_ok ls cp lo hi _ (osOf C n) _ (unhide HST).cb.code (unhide HST).reads).mono ?_; rintro e w' ⟨ca, cx, rfl, h6, rfl⟩; obtain ⟨rfl, rfl⟩ := h6.one (unhide HIS))) | (go_at_call 26; go_must (refine (len_ok _ m f true v L _ (unhide HST).wr hLb (unhide HST).f7).mono ?_; rintro e w' ⟨rfl, nq, rfl⟩)) | (go_at_call 27; go_must (refine (left_ok rp gr (8 * bs.length) true bs _ ((unhide HST).rd.drewN _) (by omega)).mono ?_; rintro e w' ⟨rfl, nr, rfl⟩)))
              go_ret
              refine ⟨?_, below_drewN (unhide HST).cb.bel _⟩
              simp
      · have hl' : ¬ (0 : Int) < 8 * (bs.length : Int) - (t : Int) := by omega
        obtain rfl : t = 8 * bs.length := by omega
        have HCB6 := hide hcb
        have HRD6 := hide hrd
        clear hcb hrd
        go_upto_region 13 with (go_at_call 27; go_must (refine (unhide HLF).mono ?_; rintro e w6 ⟨rfl, q, rfl⟩; have HCBX := hide ((unhide HCB6).step (below_drewN (Below.refl _ _) q)); have HRDX := hide ((unhide HRD6).drewN q)))
        clear HCB6 HRD6 HLF
        generalize wr.drewN q = w8 at HCBX HRDX ⊢
        have b0 : w8.cell? ⟨bx, 0, none⟩ = some (.slice a n cap) := (unhide HCBX).cell rfl
        have hmk := ints_made w8 n hn16
        have HST := hide (oft_start (n := n) (unhide HCBX) (unhide HRDX))
        go_upto_region 15 with (go_at_call 16; go_must (refine (new_any true _).mono ?_; rintro e w' ⟨rfl, rfl⟩))
        obtain ⟨og, hog⟩ : ∃ og, og = w8.heap.size := ⟨_, rfl⟩
        have hsz2 : (w8.alloc (.cells (icells .i64 n (fun _ => 0)) 3)).heap.size = og + 1 := by simp [hog]
        try rw [hsz2]
        try rw [← hog] at HST ⊢
        try rw [← hog] at HST
        generalize (w8.alloc (.cells (icells .i64 n (fun _ => 0)) 3)).alloc (.cells #[.bool true, .bool true, .slice none 0 0, .int .i64 0] 76) = w9 at HST ⊢
        clear hmk hog hsz2 b0
        go_wp2_with fail
        go_loopg [15] M (fun gk d ws => ∃ (k : Nat) (C : Nat → Nat) (v : Value) (m f : Nat) (L : List Bool), gk = M - k ∧ k ≤ M ∧ d = .int .i64 (k : Int) ∧ L.length = acc ls (osOf C n) n ∧ L.length ≤ 20 * k ∧ (∀ i, i < n → C i ≤ k ∧ (0 < C i → 0 < Canon.ln ls i)) ∧ OftAt ls w ws cp lo hi bx #[.slice a n cap, .int .i64 most, .bool loose] rp gr bs (8 * bs.length) og n C (og + 1) v m f L)
        case atStart => exact ⟨0, _, _, 0, 0, [], by omega, by omega, rfl, by rw [acc_zero ls n n (Nat.le_refl _)]; rfl, by simp, fun i _ => ⟨Nat.le_refl _, fun h => by omega⟩, unhide HST⟩
        case round =>
          obtain ⟨k, C, v, m, f, L, rfl, hk, rfl, hacc, hL20, hC, hst⟩ := hrel
          clear HST HCBX HRDX
          by_cases hltk : k < M
          · obtain ⟨b, off, rfl, hcell⟩ := unhide HP (by omega)
            have q1 := cell_stays hst.cb.bel (hcell k hltk)
            obtain ⟨z, hz⟩ : ∃ z, z = ps.getD k 0 := ⟨_, rfl⟩
            rw [← hz] at q1
            have hki : (k : Int) < (M : Int) := by omega
            by_cases hh : HasW ls z
            · obtain ⟨s1, s2, s3⟩ := id hh
              obtain ⟨sn, rfl⟩ := Int.eq_ofNat_of_zero_le s1
              rw [Int.toNat_natCast] at s3
              have hsl : sn < ls.length := by omega
              have hsn : sn < n := by rw [← unhide HLEN]; exact hsl
              have hsni : (sn : Int) < (n : Int) := by omega
              have hl20 := ((unhide HG).has hsl s3).2.2
              have HPUT := hide (cput_ok ls cp lo hi sn (og + 1) m f true v L wr hst.cb.code hsl s3 hst.wr hst.f7 (by omega))
              have HST := hide hst
              have hcb := (hC sn hsn).1
              have HREL : Hid ((L ++ bitsOf true (Canon.wd ls sn) (Canon.ln ls sn)).length = acc ls (osOf (upd C sn (C sn + 1)) n) n ∧ (L ++ bitsOf true (Canon.wd ls sn) (Canon.ln ls sn)).length ≤ 20 * (k + 1) ∧ (∀ i, i < n → upd C sn (C sn + 1) i ≤ k + 1 ∧ (0 < upd C sn (C sn + 1) i → 0 < Canon.ln ls i))) := hide (by
                rw [List.length_append, bitsOf_length, acc_upd ls C n sn n (Nat.le_refl _), if_pos hsn]
                refine ⟨by omega, by omega, fun i hi => ?_⟩
                by_cases e : i = sn
                · subst e; rw [show upd C i (C i + 1) i = C i + 1 from if_pos rfl]; exact ⟨by omega, fun _ => s3⟩
                · rw [upd_ne e]; exact ⟨by have := (hC i hi).1; omega, (hC i hi).2⟩)
              have HCC := hide (fun (w4 : World) (hb : Below w.heap.size w w4) => cell_stays hb (hcell k hltk))
              rw [← hz] at HCC
              have HINC := hide (fun (w4 : World) (v4 : Value) (m4 f4 : Nat) (h4 : OftAt ls w w4 cp lo hi bx #[.slice a n cap, .int .i64 most, .bool loose] rp gr bs (8 * bs.length) og n C (og + 1) v4 m4 f4 (L ++ bitsOf true (Canon.wd ls sn) (Canon.ln ls sn))) => h4.inc sn)
              obtain ⟨x, hx⟩ : ∃ x, x = C sn := ⟨_, rfl⟩
              rw [← hx] at hcb HINC HREL
              have HXX := hide hx
              clear hcell hz hh s1 s2 s3 hsl hst hacc hL20 hC hl20 hx
              go_wp2_with (go_at_call 17; go_must (refine (unhide HPUT).mono ?_; rintro e w4 ⟨rfl, v4, m4, f4, h1, h2, h3⟩; have HST4 := hide ((unhide HST).chg h1 h2 h3); replace q1 : w4.cell? ⟨b, off + k, none⟩ = some (.int .i64 (sn : Int)) := unhide HCC w4 (unhide HST4).cb.bel; have k1 := (unhide HST4).oft.cell sn hsn; rw [← unhide HXX] at k1; have k2 := (unhide HST4).oft.free sn; clear h1 h2 h3))
              go_roundg (M - (k + 1))
              case measure => omega
              case rel =>
                obtain ⟨r1, r2, r3⟩ := unhide HREL
                refine ⟨k + 1, upd C sn (x + 1), v4, m4, f4, _, rfl, by omega, by go_num, r1, r2, r3, ?_⟩
                have := unhide HINC w4 v4 m4 f4 (unhide HST4)
                rw [show ((x + 1 : Nat) : Int) = (x : Int) + 1 by omega] at this
                exact this
            · have HPUT := hide (cput_none ls cp lo hi (og + 1) z wr hst.cb.code hh hst.wr.c0)
              have HST := hide hst
              have HREL : Hid (L.length = acc ls (osOf C n) n ∧ L.length ≤ 20 * (k + 1) ∧ (∀ i, i < n → C i ≤ k + 1 ∧ (0 < C i → 0 < Canon.ln ls i))) := hide ⟨hacc, by omega, fun i hi => ⟨by have := (hC i hi).1; omega, (hC i hi).2⟩⟩
              clear hcell hz hh hst hacc hL20 hC
              go_wp2_with (go_at_call 17; go_must (refine (unhide HPUT).mono ?_; rintro e w' ⟨rfl, rfl⟩))
              go_roundg (M - (k + 1))
              case measure => omega
              case rel =>
                obtain ⟨r1, r2, r3⟩ := unhide HREL
                exact ⟨k + 1, C, v, m, f, L, rfl, by omega, by go_num, r1, r2, r3, unhide HST⟩
          · have hki : ¬ (k : Int) < (M : Int) := by omega
            have hLb : L.length ≤ 1000000000000000 := by omega
            have HIS : Hid (CostIs ls (osOf C n) (L.length : Int) 0) := hide (.inr (.inr ⟨⟨by rw [osOf_length, unhide HLEN]; exact Nat.le_refl _, fun i hi => by
              rw [osOf_length] at hi
              rw [osOf_get C n i hi]
              exact ⟨by omega, fun h => (hC i hi).2 (by omega)⟩⟩, by rw [osOf_length, ← hacc]; omega, by rw [osOf_length, ← hacc], rfl⟩))
            have HST := hide hst
            have hee : ((L.length : Int) == (L.length : Int)) = true := by simp
            clear hst hacc hL20 hC
            obtain ⟨q, hq⟩ : ∃ q, q = L.length := ⟨_, rfl⟩
            go_wp2_with (first | (go_at_call 11; go_must (refine (cost_ok ls cp lo hi _ (osOf C n) _ (unhide HST).cb.code (unhide HST).reads).mono ?_; rintro e w' ⟨ca, cx, rfl, h6, rfl⟩; obtain ⟨rfl, rfl⟩ := h6.one (unhide HIS))) | (go_at_call 26; go_must (refine (len_ok _ m f true v L _ (unhide HST).wr hLb (unhide HST).f7).mono ?_; rintro e w' ⟨rfl, nq, rfl⟩)) | (go_at_call 27; go_must (refine (left_ok rp gr (8 * bs.length) true bs _ ((unhide HST).rd.drewN _) (by omega)).mono ?_; rintro e w' ⟨rfl, nr, rfl⟩)))
            go_ret
            refine ⟨?_, below_drewN (unhide HST).cb.bel _⟩
            simp

end Go.Proofs.Ytclccccodeekmaa
