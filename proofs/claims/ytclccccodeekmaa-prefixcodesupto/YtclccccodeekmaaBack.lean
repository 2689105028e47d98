/- PrefixBack: what is put by a code is got again, and no word is the beginning of another one. -/
import Derived.Test.YtclccccodeekmaaBackKit
namespace Go.Proofs.Ytclccccodeekmaa
open Go.RowKit Mth
set_option linter.unusedVariables false

attribute [local go_sem ↓] Go.wp_at_zero Go.wp_at_succ

/-- the symbols of a list, as numbers -/
def nats (ss : List Int) : List Nat := ss.map Int.toNat

theorem getD_left (A B : List Bool) (j : Nat) (h : j < A.length) : (A ++ B).getD j false = A.getD j false := by
  simp only [List.getD_eq_getElem?_getD, List.getElem?_append_left h]
theorem getD_right (A B : List Bool) (j : Nat) : (A ++ B).getD (A.length + j) false = B.getD j false := by
  simp only [List.getD_eq_getElem?_getD]
  rw [List.getElem?_append_right (by omega), Nat.add_sub_cancel_left]

/-- what is put stands there, and is got -/
theorem flat_get {ls : List Nat} (hg : Good ls) (high : Bool) (m : Nat) (ss : List Nat) (h : ∀ s ∈ ss, s < ls.length ∧ 0 < Canon.ln ls s) (hm : (flat ls ss).length ≤ 8 * m) (k : Nat) (hk : k < ss.length) :
    GetIs ls (fun i => bitIn high (pk high m (flat ls ss)) ((flat ls (ss.take k)).length + i)) (8 * (pk high m (flat ls ss)).length - (flat ls (ss.take k)).length) ss[k] (Canon.ln ls ss[k]) 0 ∧ (flat ls (ss.take (k + 1))).length = (flat ls (ss.take k)).length + Canon.ln ls ss[k] := by
  have e1 : ss.take (k + 1) = ss.take k ++ [ss[k]] := List.take_succ_eq_append_getElem hk
  have e2 : (flat ls (ss.take (k + 1))).length = (flat ls (ss.take k)).length + Canon.ln ls ss[k] := by rw [e1, flat_snoc, List.length_append, bitsOf_length]
  have e3 : flat ls ss = flat ls (ss.take (k + 1)) ++ flat ls (ss.drop (k + 1)) := by
    unfold flat
    rw [← List.flatMap_append, List.take_append_drop]
  have hle : (flat ls (ss.take (k + 1))).length ≤ (flat ls ss).length := by rw [e3, List.length_append]; omega
  obtain ⟨hs1, hs2⟩ := h ss[k] (List.getElem_mem _)
  refine ⟨GetIs.word hg hs1 hs2 (by rw [pk_length]; omega) (fun j hj => ?_), e2⟩
  show bitIn high (pk high m (flat ls ss)) _ = _
  rw [bitIn_pk high m _ _ (by omega), e3, getD_left _ _ _ (by omega), e1, flat_snoc, getD_right]
  have h4 := bitsOf_take_succ true (Canon.wd ls ss[k]) (Canon.ln ls ss[k]) j hj
  have h5 : ((bitsOf true (Canon.wd ls ss[k]) (Canon.ln ls ss[k])).take (j + 1)).getD j false = (bitsOf true (Canon.wd ls ss[k]) (Canon.ln ls ss[k])).getD j false := by
    simp only [List.getD_eq_getElem?_getD, List.getElem?_take]
    rw [if_pos (by omega)]
  have h6 : ((bitsOf true (Canon.wd ls ss[k]) (Canon.ln ls ss[k])).take j).length = j := by rw [List.length_take, bitsOf_length]; omega
  have h7 := getD_right ((bitsOf true (Canon.wd ls ss[k]) (Canon.ln ls ss[k])).take j) [(Canon.wd ls ss[k]).testBit (rk true (Canon.ln ls ss[k]) j)] 0
  rw [h6, Nat.add_zero] at h7
  rw [← h5, h4, h7]
  simp [rk]

theorem reads_block {w : World} {g cap : Nat} {zs : List Nat} (h : w.heap[g]? = some (.cells (zs.map bv).toArray 5 (0, 0))) : Reads w (.slice (some ⟨g, 0, none⟩) zs.length cap) zs := by
  refine ⟨_, cap, rfl, fun _ => ⟨_, rfl, ?_⟩⟩
  have := World.news_of_block h
  simpa using this

/-- A code, a box, a reader and a list of symbols, each in blocks of its own. -/
structure RdAt (ls : List Nat) (w ws : World) (cp lo hi bx : Nat) (box : Array Value) (rp gr : Nat) (high : Bool) (bs : List Nat) (t base : Nat) (v10 : Value) (ss : List Int) : Prop where
  code : Code ls ws cp lo hi
  box : ws.heap[bx]? = some (.cells box 24 (0, 0))
  rd : ROk ws rp high gr bs t
  own : ws.ownsRow base 3 1 v10 ss.length (ss.map iv)
  bel : Below w.heap.size w ws
  o1 : hi ≤ rp
  o2 : bx < rp
  o3 : ∀ g, v10.ownBlock = some g → g < rp
  o4 : w.heap.size ≤ rp

theorem RdAt.only {ls : List Nat} {w ws w' : World} {cp lo hi bx rp gr t t' base : Nat} {box : Array Value} {high : Bool} {bs : List Nat} {v10 : Value} {ss : List Int} (h : RdAt ls w ws cp lo hi bx box rp gr high bs t base v10 ss) (ho : Only rp ws w') (hr : ROk w' rp high gr bs t') : RdAt ls w w' cp lo hi bx box rp gr high bs t' base v10 ss := by
  have hl := h.rd.lt
  have kp : ∀ k, k < rp → w'.heap[k]? = ws.heap[k]? := fun k hk => ho.keep k (by omega) (by omega)
  exact ⟨h.code.keep (fun k _ h2 => kp k (by have := h.o1; omega)), by rw [kp _ h.o2]; exact h.box, hr, own_keep h.own (fun g hg => kp g (h.o3 g hg)), h.bel.trans (ho.below h.o4 h.bel.size), h.o1, h.o2, h.o3, h.o4⟩

theorem BackAt.into {ls : List Nat} {w ws w4 w5 : World} {cp lo hi bx pb m f rp gr : Nat} {box : Array Value} {high : Bool} {v : Value} {L : List Bool} {v10 : Value} {ss : List Int} {bs : List Nat} (h : BackAt ls w ws cp lo hi bx box pb high v m f L v10 ss) (h4 : Below ws.heap.size ws w4) (h5 : Below w4.heap.size w4 w5) (hl : w4.heap.size ≤ rp) (hr : ROk w5 rp high gr bs 0) :
    RdAt ls w w5 cp lo hi bx box rp gr high bs 0 (pb + 1) v10 ss := by
  have hpb := h.wr.lt
  have s4 := h4.size
  have kp : ∀ k, k < ws.heap.size → w5.heap[k]? = ws.heap[k]? := fun k hk => by rw [h5.block k (by omega), h4.block k hk]
  have hb := h.b1
  have hb2 := h.b2
  have hb3 := h.b3
  exact ⟨h.code.keep (fun k _ h2 => kp k (by omega)), by rw [kp _ (by omega)]; exact h.box, hr, own_keep h.own (fun g hg => kp g (h.own.lt g hg).2), h.bel.trans ((h4.mono h.bel.size).trans (h5.mono (by have := h.bel.size; omega))), by omega, by omega, fun g hg => by have := (h.own.lt g hg).2; omega, by omega⟩

/-- A code and a box. -/
structure CodeBox (ls : List Nat) (w ws : World) (cp lo hi bx : Nat) (box : Array Value) : Prop where
  code : Code ls ws cp lo hi
  box : ws.heap[bx]? = some (.cells box 24 (0, 0))
  bel : Below w.heap.size w ws
  hi : hi ≤ ws.heap.size

theorem CodeBox.step {ls : List Nat} {w ws w' : World} {cp lo hi bx : Nat} {box : Array Value} (h : CodeBox ls w ws cp lo hi bx box) (hb : Below ws.heap.size ws w') : CodeBox ls w w' cp lo hi bx box :=
  ⟨h.code.below hb h.hi, by rw [hb.block _ (heap_lt h.box)]; exact h.box, h.bel.trans (hb.mono h.bel.size), Nat.le_trans h.hi hb.size⟩

theorem CodeBox.cell {ls : List Nat} {w ws : World} {cp lo hi bx : Nat} {box : Array Value} (h : CodeBox ls w ws cp lo hi bx box) {x : Value} {j : Nat} (hj : box[j]? = some x) : ws.cell? ⟨bx, j, none⟩ = some x := by
  simp only [World.cell?, h.box]; simpa using hj

theorem RdAt.cb {ls : List Nat} {w ws : World} {cp lo hi bx rp gr t base : Nat} {box : Array Value} {high : Bool} {bs : List Nat} {v10 : Value} {ss : List Int} (h : RdAt ls w ws cp lo hi bx box rp gr high bs t base v10 ss) : CodeBox ls w ws cp lo hi bx box :=
  ⟨h.code, h.box, h.bel, by have := h.o1; have := h.rd.lt; omega⟩

set_option maxRecDepth 100000 in
set_option maxHeartbeats 4000000 in
theorem back_walk (a : Option Addr) (cap : Nat) (zs ps : List Int) (most : Int) (loose : Bool) (pv : Value) (w : World) (hr : ReadsI w (.slice a zs.length cap) zs) (hp : ReadsI w pv ps) (hn : ps.length * 8 ≤ 140737488351232) :
    Calls Try.prog 6 #[.agg #[.slice a zs.length cap, .int .i64 most, .bool loose], pv] w fun e w' => e = .returned (.bool true) ∧ Below w.heap.size w w' := by
  obtain ⟨i0, hii, hz0, hz1, hz2⟩ := info_parts info3'
  obtain ⟨pa, pcap, rfl, hpc⟩ := hp
  have HRD := hide hr
  have HP := hide hpc
  obtain ⟨n, hnn⟩ : ∃ n, n = zs.length := ⟨_, rfl⟩
  obtain ⟨M, hMM⟩ : ∃ M, M = ps.length := ⟨_, rfl⟩
  rw [← hnn] at HRD ⊢
  rw [← hMM] at HP hn ⊢
  have HN := hide hnn
  have HM := hide hMM
  clear hr hpc hnn hMM
  obtain ⟨bx, hbx⟩ : ∃ bx, bx = w.heap.size := ⟨_, rfl⟩
  have hbox := heap_alloc_new w (.cells #[.slice a n cap, .int .i64 most, .bool loose] 24)
  have HB0 : Hid (Below w.heap.size w (w.alloc (.cells #[.slice a n cap, .int .i64 most, .bool loose] 24))) := (Below.refl _ _).alloc (Nat.le_refl _) _
  have HR0 := hide ((unhide HRD).stays (unhide HB0))
  go_enter Try.func6, Try.ntmps6
  go_upto_region 1 with fail
  rw [← hbx] at hbox ⊢
  have HBX := hide hbx
  clear hbx
  generalize w.alloc (.cells #[.slice a n cap, .int .i64 most, .bool loose] 24) = w0 at hbox HB0 HR0 ⊢
  have HBOX := hide hbox
  have b0 : w0.cell? ⟨bx, 0, none⟩ = some (.slice a n cap) := by simp [World.cell?, hbox]
  have b1 : w0.cell? ⟨bx, 1, none⟩ = some (.int .i64 most) := by simp [World.cell?, hbox]
  have b2 : w0.cell? ⟨bx, 2, none⟩ = some (.bool loose) := by simp [World.cell?, hbox]
  clear hbox
  go_upto_region 2 with (go_at_call 8; go_must (refine (pnew_any _ zs most loose _ (unhide HR0)).mono ?_; rintro e wn ⟨cv, ec, rfl, h1, h2⟩; have H1 := hide h1; have H2 := hide h2; clear h1 h2))
  have HR2 := hide (reads11 wn)
  go_upto_region 3 with (go_at_call 8; go_must (refine (pnew_pair _ _ (unhide HR2)).mono ?_; rintro e w2 ⟨cq, rfl, h3, h4⟩; have H3 := hide h3; have H4 := hide h4; clear h3 h4))
  obtain ⟨lo, hlo⟩ : ∃ lo, lo = w0.heap.size := ⟨_, rfl⟩
  obtain ⟨hi, hhi⟩ : ∃ hi, hi = wn.heap.size := ⟨_, rfl⟩
  have hs0 := (unhide HB0).size
  have hs1 := (unhide H2).size
  have hs2 := (unhide H4).size
  simp at hs2
  have hbl : bx < w0.heap.size := heap_lt (unhide HBOX)
  have hk2 : ∀ k, k < wn.heap.size → w2.heap[k]? = wn.heap[k]? := fun k hk => by
    rw [(unhide H4).block k (by simp; omega), Below.heap_alloc _ _ _ hk]
  have HB : Hid (Below w.heap.size w w2) := (unhide HB0).trans (((unhide H2).mono hs0).trans ((((Below.refl _ wn).alloc (Nat.le_refl _) _).mono (by omega)).trans ((unhide H4).mono (by simp; omega))))
  have HBOX2 : Hid (w2.heap[bx]? = some (.cells #[.slice a n cap, .int .i64 most, .bool loose] 24 (0, 0))) := hide (by
    rw [hk2 bx (by omega), (unhide H2).block bx hbl]
    exact unhide HBOX)
  have HPN : Hid (PNew zs most loose cv ec w2 lo hi) := hide (by
    rw [hlo, hhi]
    exact (unhide H1).keep (fun k _ h2 => hk2 k h2))
  have HL : Hid (lo = w0.heap.size ∧ hi ≤ w2.heap.size ∧ bx < w2.heap.size ∧ w.heap.size ≤ w2.heap.size) := hide ⟨hlo, by omega, by omega, by omega⟩
  clear H1 H2 H4 HBOX hlo hhi hs0 hs1 hs2 hbl hk2 HB0 HR0 HR2 b0 b1 b2
  rcases unhide HPN with ⟨hok, rfl, rfl⟩ | ⟨hok, hs, rfl, rfl⟩ | ⟨hok, hs, rfl, cp, rfl, hc⟩
  · clear HPN hok
    go_wp2_with (go_at_call 13; go_must (refine (symbols_n [1, 1] cq _ _ 2 rfl _ (unhide H3)).mono ?_; rintro e w' ⟨rfl, rfl⟩))
    go_ret
    exact ⟨rfl, unhide HB⟩
  · clear HPN hok hs
    go_wp2_with (go_at_call 13; go_must (refine (symbols_n [1, 1] cq _ _ 2 rfl _ (unhide H3)).mono ?_; rintro e w' ⟨rfl, rfl⟩))
    go_ret
    exact ⟨rfl, unhide HB⟩
  · have HC := hide hc
    have HLEN : Hid ((nat zs).length = n) := hide (by simp [nat, unhide HN])
    have hgd : Good (nat zs) := by obtain ⟨_, _, _, _, _, _, _, _, _, _, _, hc'⟩ := hc; exact hc'.good
    generalize nat zs = ls at HC HLEN hgd
    have HG := hide hgd
    clear hc hok hs hgd HPN
    go_upto_region 8 with (first | (go_at_call 13; go_must (refine (symbols_n [1, 1] cq _ _ 2 rfl _ (unhide H3)).mono ?_; rintro e w' ⟨rfl, rfl⟩)) | (go_at_call 16; go_must (refine (new_any false _).mono ?_; rintro e w' ⟨rfl, rfl⟩)))
    have HST : Hid (BackAt ls w (w'.alloc (.cells #[.bool true, .bool false, .slice none 0 0, .int .i64 0] 76)) cp lo hi bx #[.slice a n cap, .int .i64 most, .bool loose] w'.heap.size false (.slice none 0 0) 0 0 (flat ls (nats [])) (.slice none 0 0) []) := by
      obtain ⟨l1, l2, l3, l4⟩ := unhide HL
      refine hide ⟨(unhide HC).keep (fun k _ h2 => Below.heap_alloc _ _ _ (by omega)), by rw [Below.heap_alloc _ _ _ l3]; exact unhide HBOX2, new_ok false w', by omega, World.ownsRow_nil _ _ _ _, (unhide HB).alloc l4 _, l2, l3, l4, fun g hg => by cases hg⟩
    obtain ⟨pb, hpb⟩ : ∃ pb, pb = w'.heap.size := ⟨_, rfl⟩
    rw [← hpb] at HST ⊢
    generalize w'.alloc (.cells #[.bool true, .bool false, .slice none 0 0, .int .i64 0] 76) = w3 at HST ⊢
    clear hpb H3 HB HBOX2 HC HL
    go_wp2_with fail
    go_loopg [10, 11] M (fun gk v10 d ws => ∃ (k : Nat) (v : Value) (m f : Nat) (ss : List Int), gk = M - k ∧ k ≤ M ∧ d = .int .i64 (k : Int) ∧ ss.length ≤ k ∧ (∀ s ∈ ss, HasW ls s) ∧ BackAt ls w ws cp lo hi bx #[.slice a n cap, .int .i64 most, .bool loose] pb false v m f (flat ls (nats ss)) v10 ss)
    case atStart => exact ⟨0, _, 0, 0, [], by omega, by omega, rfl, by simp, by simp, unhide HST⟩
    case round =>
      obtain ⟨k, v, m, f, ss, rfl, hk, rfl, hsk, hall, hst⟩ := hrel
      clear HST
      by_cases hlt : k < M
      · obtain ⟨b, off, rfl, hcell⟩ := unhide HP (by omega)
        have q1 := cell_stays hst.bel (hcell k hlt)
        obtain ⟨z, hz⟩ : ∃ z, z = ps.getD k 0 := ⟨_, rfl⟩
        rw [← hz] at q1
        have hki : (k : Int) < (M : Int) := by omega
        by_cases hh : HasW ls z
        · obtain ⟨s1, s2, s3⟩ := id hh
          obtain ⟨sn, rfl⟩ := Int.eq_ofNat_of_zero_le s1
          rw [Int.toNat_natCast] at s3
          have hsl : sn < ls.length := by omega
          have hfl : (flat ls (nats ss)).length ≤ 20 * ss.length := by
            have := flat_len ls (nats ss) (fun s hs => by
              obtain ⟨z', hz', rfl⟩ := List.mem_map.1 hs
              obtain ⟨t1, t2, t3⟩ := hall z' hz'
              exact ((unhide HG).has (by omega) t3).2.2)
            simpa [nats] using this
          have HALL : Hid (∀ s ∈ ss ++ [(sn : Int)], HasW ls s) := hide (fun s hs => by
            rcases List.mem_append.1 hs with h | h
            · exact hall s h
            · simp at h; subst h; exact hh)
          have HPUT := hide (cput_ok ls cp lo hi sn pb m f false v _ wr hst.code hsl s3 hst.wr hst.f7 (by omega))
          have HST := hide hst
          have HFS : Hid (flat ls (nats ss) ++ bitsOf true (Canon.wd ls sn) (Canon.ln ls sn) = flat ls (nats (ss ++ [(sn : Int)]))) := hide (by rw [← flat_snoc]; simp [nats])
          have HCC := hide (fun (w4 : World) (hb : Below w.heap.size w w4) => cell_stays hb (hcell k hlt))
          rw [← hz] at HCC
          have hb8 : (ss.length + 1) * 8 ≤ 140737488355328 := by omega
          clear hcell hz hh s1 s2 s3 hsl hall hst hfl
          go_wp2_with (first | (go_at_call 17; go_must (refine (unhide HPUT).mono ?_; rintro e w4 ⟨rfl, v4, m4, f4, h1, h2, h3⟩; rw [unhide HFS] at h1; have HST4 := hide ((unhide HST).chg h1 h2 h3); replace q1 : w4.cell? ⟨b, off + k, none⟩ = some (.int .i64 (sn : Int)) := unhide HCC w4 (unhide HST4).bel; clear h1 h2 h3; have HOWN := hide ((unhide HST4).own.alloc (.cells #[.int .i64 (sn : Int)] 3)); have HPB : Hid (pb + 1 ≤ w4.heap.size) := hide (unhide HST4).wr.lt)) | (at_builtin; go_must (refine wpList_append_lies _ rfl (.tmp 65) (.tmp 70) 22 rfl (pb + 1) 3 i0 _ 1 8 Try.underlying22 hii hz0 hz1 hz2 rfl (by decide) _ ss.length _ (by rfl) (unhide HOWN) ⟨w4.heap.size, 0, none⟩ 1 1 [.int .i64 (sn : Int)] (by rfl) rfl (news_one _ 3) (by intro u hu; simp at hu; subst hu; rfl) (by omega) (by unfold maxLen; omega) (by omega) (by simp; have := unhide HPB; omega) (w4.heap.size + 1) (by simp) ?_; intro g5 cap5 w5 hown hgrow hat hglt; have HST5 := hide ((unhide HST4).app (sn : Int) _ hown hgrow hat); clear hown hgrow hat hglt)))
          go_roundg (M - (k + 1))
          case measure => omega
          case rel => exact ⟨k + 1, v4, m4, f4, ss ++ [(sn : Int)], rfl, by omega, by go_num, by simp; omega, unhide HALL, by have := unhide HST5; simpa using this⟩
        · have HPUT := hide (cput_none ls cp lo hi pb z wr hst.code hh hst.wr.c0)
          have HST := hide hst
          have HALL := hide hall
          clear hcell hz hh hall hst
          go_wp2_with (go_at_call 17; go_must (refine (unhide HPUT).mono ?_; rintro e w' ⟨rfl, rfl⟩))
          go_roundg (M - (k + 1))
          case measure => omega
          case rel => exact ⟨k + 1, v, m, f, ss, rfl, by omega, by go_num, by omega, unhide HALL, unhide HST⟩
      · obtain rfl : k = M := by omega
        have hki : ¬ (k : Int) < (k : Int) := by omega
        obtain ⟨oa, oc, hov⟩ := own_slice hst.own
        subst hov
        have hfl : (flat ls (nats ss)).length ≤ 20 * ss.length := by
          have := flat_len ls (nats ss) (fun s hs => by
            obtain ⟨z', hz', rfl⟩ := List.mem_map.1 hs
            obtain ⟨t1, t2, t3⟩ := hall z' hz'
            exact ((unhide HG).has (by omega) t3).2.2)
          simpa [nats] using this
        have hwl := hst.wr.len
        have hf7 := hst.f7
        have hmb : m ≤ 140737488355328 := by omega
        have HBY := hide (bytes_ok pb m f false v _ wr hst.wr hmb)
        have HST := hide hst
        have HFM : Hid ((flat ls (nats ss)).length ≤ 8 * m) := hide (by omega)
        have HALL : Hid (∀ s ∈ nats ss, s < ls.length ∧ 0 < Canon.ln ls s) := hide (fun s hs => by
          obtain ⟨z', hz', rfl⟩ := List.mem_map.1 hs
          obtain ⟨t1, t2, t3⟩ := hall z' hz'
          exact ⟨by omega, t3⟩)
        have HPOS : Hid (∀ s ∈ ss, 0 ≤ s) := hide (fun s hs => (hall s hs).1)
        have hsl : ss.length ≤ 17592186043904 := by omega
        clear hst hfl hwl hf7 hall
        go_wp2_with (first | (go_at_call 19; go_must (refine (unhide HBY).mono ?_; rintro e w4 ⟨rfl, h1, h2⟩; have HR4 := hide (reads_block (cap := m) h1); rw [pk_length] at HR4; have H2 := hide h2; clear h1 h2)) | (go_at_call 21; go_must (refine (newReader_ok _ (pk false m (flat ls (nats ss))) false _ (unhide HR4) (by rw [pk_length]; exact hmb) (pk_lt _ _ _)).mono ?_; rintro e w5 ⟨rp, rfl, h3, h4, h5⟩; have HRA := hide ((unhide HST).into (unhide H2) h5 h3 h4); clear h3 h4 h5)))
        obtain ⟨gr, hgr⟩ : ∃ gr, gr = w4.heap.size := ⟨_, rfl⟩
        rw [← hgr] at HRA
        obtain ⟨S, hS⟩ : ∃ S, S = ss.length := ⟨_, rfl⟩
        rw [← hS] at hsl HRA ⊢
        have HS := hide hS
        have HPL : Hid ((pk false m (flat ls (nats ss))).length ≤ 140737488355328) := hide (by rw [pk_length]; exact hmb)
        clear hgr hS HST HBY HR4 H2 hmb
        go_loopg [13] S (fun gk d ws => ∃ (i : Nat), gk = S - i ∧ i ≤ S ∧ d = .int .i64 (i : Int) ∧ RdAt ls w ws cp lo hi bx #[.slice a n cap, .int .i64 most, .bool loose] rp gr false (pk false m (flat ls (nats ss))) (flat ls ((nats ss).take i)).length (pb + 1) (.slice oa S oc) ss)
        case atStart => exact ⟨0, by omega, by omega, rfl, by simpa [flat] using unhide HRA⟩
        case round =>
          obtain ⟨i, rfl, hi', rfl, hra⟩ := hrel
          clear HRA
          by_cases hli : i < S
          · have hls : i < ss.length := by rw [← unhide HS]; exact hli
            obtain ⟨g, c, hoe, q1⟩ := own_cell hra.own i hls
            obtain ⟨rfl, rfl⟩ : oa = some ⟨g, 0, none⟩ ∧ oc = c := by injection hoe with e1 e2 e3; exact ⟨e1, e3⟩
            have hin : i < (nats ss).length := by simpa [nats] using hls
            obtain ⟨f1, f2⟩ := flat_get (unhide HG) false m (nats ss) (unhide HALL) (unhide HFM) i hin
            have hsv : ss.getD i 0 = ((nats ss)[i] : Int) := by
              have := unhide HPOS ss[i] (List.getElem_mem _)
              simp [nats, hls]; omega
            rw [hsv] at q1
            have HGET := hide (fun s x y (hg : GetIs ls _ _ s x y) => hg.one (unhide HG) f1)
            have HCG := hide (cget_ok ls cp lo hi rp gr _ false _ wr hra.code hra.rd (unhide HPL) (.inr hra.o1) (by have := hra.o1; have := hra.rd.lt; omega))
            obtain ⟨sv, hsv'⟩ : ∃ sv, sv = (nats ss)[i] := ⟨_, rfl⟩
            rw [← hsv'] at q1 HGET f2
            have HRA := hide hra
            have HF2 := hide f2
            have hii' : (i : Int) < (S : Int) := by omega
            clear hra f1 f2 hsv hoe hls hin hsv'
            go_wp2_with (go_at_call 23; go_must (refine (unhide HCG).mono ?_; rintro e w6 ⟨s, x, y, rfl, h1, h2, h3⟩; obtain ⟨rfl, rfl, rfl⟩ := unhide HGET s x y h1; have HRA2 := hide ((unhide HRA).only h3 h2); replace q1 : w6.cell? ⟨g, i, none⟩ = some (.int .i64 (s : Int)) := (by rw [← q1]; exact World.cell?_of_block (h3.keep g (cell_lt q1) (by have := (unhide HRA).o3 g rfl; omega))); clear h1 h2 h3))
            go_roundg (S - (i + 1))
            case measure => omega
            case rel => exact ⟨i + 1, rfl, by omega, by go_num, by rw [unhide HF2]; exact unhide HRA2⟩
          · have hii' : ¬ (i : Int) < (S : Int) := by omega
            have HCB := hide hra.cb
            clear hra
            go_wp2_with fail
            go_loopg [16] 60 (fun gk d ws => ∃ (ii : Nat), gk = 60 - ii ∧ ii ≤ 60 ∧ d = .int .i64 (ii : Int) ∧ CodeBox ls w ws cp lo hi bx #[.slice a n cap, .int .i64 most, .bool loose])
            case atStart => exact ⟨0, by omega, by omega, rfl, unhide HCB⟩
            case round =>
              obtain ⟨ii, rfl, hi6, rfl, hcb⟩ := hrel
              clear HCB
              have b0 : wr.cell? ⟨bx, 0, none⟩ = some (.slice a n cap) := hcb.cell rfl
              have HCB3 := hide hcb
              by_cases hin : ii < n
              · have hin' : (ii : Int) < (n : Int) := by omega
                by_cases hi60 : ii < 60
                · have hi60' : (ii : Int) < 60 := by omega
                  by_cases hhi : 0 < Canon.ln ls ii
                  · have HWI := hide (word_ok ls cp lo hi ii wr hcb.code (by rw [unhide HLEN]; exact hin) hhi)
                    have HHI := hide ((unhide HG).has (i := ii) (by rw [unhide HLEN]; exact hin) hhi)
                    have hL1 := (unhide HHI).2.2
                    obtain ⟨W1, hW1⟩ : ∃ W1, W1 = Canon.wd ls ii := ⟨_, rfl⟩
                    obtain ⟨L1, hL1'⟩ : ∃ L1, L1 = Canon.ln ls ii := ⟨_, rfl⟩
                    rw [← hW1, ← hL1'] at HWI
                    rw [← hL1'] at hL1
                    have HEW := hide hW1.symm
                    have HEL := hide hL1'.symm
                    clear hcb hW1 hL1' hhi
                    go_wp2_with (go_at_call 14; go_must (refine (unhide HWI).mono ?_; rintro e w4 ⟨rfl, h4⟩; have HCB4 := hide ((unhide HCB3).step h4); clear h4))
                    go_loopg [20] 60 (fun gk d ws => ∃ (j : Nat), gk = 60 - j ∧ j ≤ 60 ∧ d = .int .i64 (j : Int) ∧ CodeBox ls w ws cp lo hi bx #[.slice a n cap, .int .i64 most, .bool loose])
                    case atStart => exact ⟨0, by omega, by omega, rfl, unhide HCB4⟩
                    case round =>
                      obtain ⟨j, rfl, hj6, rfl, hcb5⟩ := hrel
                      clear HCB4
                      have b0 : wr.cell? ⟨bx, 0, none⟩ = some (.slice a n cap) := hcb5.cell rfl
                      have HCB5 := hide hcb5
                      by_cases hjn : j < n
                      · have hjn' : (j : Int) < (n : Int) := by omega
                        by_cases hj60 : j < 60
                        · have hj60' : (j : Int) < 60 := by omega
                          by_cases hhj : 0 < Canon.ln ls j
                          · have HWK := hide (word_ok ls cp lo hi j wr hcb5.code (by rw [unhide HLEN]; exact hjn) hhj)
                            have hhk := (unhide HG).has (i := j) (by rw [unhide HLEN]; exact hjn) hhj
                            have hL20 := hhk.2.2
                            have HFREE : Hid (Canon.ln ls ii ≤ Canon.ln ls j → ¬ ii = j → ¬ Canon.wd ls j / 2 ^ (Canon.ln ls j - Canon.ln ls ii) = Canon.wd ls ii) := hide (fun h1 h2 h3 => h2 (Canon.free (unhide HHI) hhk h1 h3))
                            have hWb : Canon.wd ls j < 4294967296 := by
                              have h1 := Canon.wd_lt hhk (unhide HG).sum
                              have h2 : 2 ^ Canon.ln ls j ≤ 2 ^ 20 := Nat.pow_le_pow_right (by decide) hL20
                              omega
                            obtain ⟨W2, hW2⟩ : ∃ W2, W2 = Canon.wd ls j := ⟨_, rfl⟩
                            obtain ⟨L2, hL2⟩ : ∃ L2, L2 = Canon.ln ls j := ⟨_, rfl⟩
                            rw [← hW2, ← hL2] at HWK HFREE
                            rw [← hW2] at hWb
                            rw [← hL2] at hL20
                            rw [unhide HEL, unhide HEW] at HFREE
                            clear hcb5 hhk hhj hW2 hL2
                            by_cases hij : ii = j
                            · have hne : ((ii : Int) != (j : Int)) = false := by simp; omega
                              clear hij
                              go_wp2_with (go_at_call 14; go_must (refine (unhide HWK).mono ?_; rintro e w7 ⟨rfl, h7⟩; have HCB7 := hide ((unhide HCB5).step h7); clear h7))
                              go_roundg (60 - (j + 1))
                              case measure => omega
                              case rel => exact ⟨j + 1, rfl, by omega, by go_num, unhide HCB7⟩
                            · have hne : ((ii : Int) != (j : Int)) = true := by simp; omega
                              by_cases hle : L1 ≤ L2
                              · have hle' : (L1 : Int) ≤ (L2 : Int) := by omega
                                obtain ⟨D, hD⟩ : ∃ D, D = L2 - L1 := ⟨_, rfl⟩
                                have hDi : (L2 : Int) - (L1 : Int) = (D : Int) := by omega
                                have hD20 : D ≤ 20 := by omega
                                have hfr := unhide HFREE hle hij
                                rw [← hD] at hfr
                                have hsh : (((W2 : Int) / 2 ^ D) == (W1 : Int)) = false := by
                                  rw [show ((W2 : Int) / 2 ^ D) = ((W2 / 2 ^ D : Nat) : Int) by simp]
                                  simp only [beq_eq_false_iff_ne, ne_eq]
                                  intro h
                                  exact hfr (by exact_mod_cast h)
                                clear hD hfr
                                go_wp2_with (go_at_call 14; go_must (refine (unhide HWK).mono ?_; rintro e w7 ⟨rfl, h7⟩; have HCB7 := hide ((unhide HCB5).step h7); clear h7))
                                go_roundg (60 - (j + 1))
                                case measure => omega
                                case rel => exact ⟨j + 1, rfl, by omega, by go_num, unhide HCB7⟩
                              · have hle' : ¬ (L1 : Int) ≤ (L2 : Int) := by omega
                                go_wp2_with (go_at_call 14; go_must (refine (unhide HWK).mono ?_; rintro e w7 ⟨rfl, h7⟩; have HCB7 := hide ((unhide HCB5).step h7); clear h7))
                                go_roundg (60 - (j + 1))
                                case measure => omega
                                case rel => exact ⟨j + 1, rfl, by omega, by go_num, unhide HCB7⟩
                          · have HWK := hide (word_none ls cp lo hi (j : Int) wr hcb5.code (fun h => by have := h.2.2; rw [Int.toNat_natCast] at this; omega))
                            clear hcb5
                            by_cases hij : ii = j
                            · have hne : ((ii : Int) != (j : Int)) = false := by simp; omega
                              clear hij
                              go_wp2_with (go_at_call 14; go_must (refine (unhide HWK).mono ?_; rintro e w' ⟨rfl, rfl⟩))
                              go_roundg (60 - (j + 1))
                              case measure => omega
                              case rel => exact ⟨j + 1, rfl, by omega, by go_num, unhide HCB5⟩
                            · have hne : ((ii : Int) != (j : Int)) = true := by simp; omega
                              go_wp2_with (go_at_call 14; go_must (refine (unhide HWK).mono ?_; rintro e w' ⟨rfl, rfl⟩))
                              go_roundg (60 - (j + 1))
                              case measure => omega
                              case rel => exact ⟨j + 1, rfl, by omega, by go_num, unhide HCB5⟩
                        · have hj60' : ¬ (j : Int) < 60 := by omega
                          clear hcb5
                          go_wp2_with fail
                          go_roundg (60 - (ii + 1))
                          case measure => omega
                          case rel => exact ⟨ii + 1, rfl, by omega, by go_num, unhide HCB5⟩
                      · have hjn' : ¬ (j : Int) < (n : Int) := by omega
                        clear hcb5
                        go_wp2_with fail
                        go_roundg (60 - (ii + 1))
                        case measure => omega
                        case rel => exact ⟨ii + 1, rfl, by omega, by go_num, unhide HCB5⟩
                  · have HWI := hide (word_none ls cp lo hi (ii : Int) wr hcb.code (fun h => by have := h.2.2; rw [Int.toNat_natCast] at this; omega))
                    clear hcb
                    go_wp2_with (go_at_call 14; go_must (refine (unhide HWI).mono ?_; rintro e w' ⟨rfl, rfl⟩))
                    have HCB4 := HCB3
                    go_loopg [20] 60 (fun gk d ws => ∃ (j : Nat), gk = 60 - j ∧ j ≤ 60 ∧ d = .int .i64 (j : Int) ∧ CodeBox ls w ws cp lo hi bx #[.slice a n cap, .int .i64 most, .bool loose])
                    case atStart => exact ⟨0, by omega, by omega, rfl, unhide HCB4⟩
                    case round =>
                      obtain ⟨j, rfl, hj6, rfl, hcb5⟩ := hrel
                      clear HCB4
                      have b0 : wr.cell? ⟨bx, 0, none⟩ = some (.slice a n cap) := hcb5.cell rfl
                      have HCB5 := hide hcb5
                      by_cases hjn : j < n
                      · have hjn' : (j : Int) < (n : Int) := by omega
                        by_cases hj60 : j < 60
                        · have hj60' : (j : Int) < 60 := by omega
                          by_cases hhj : 0 < Canon.ln ls j
                          · have HWK := hide (word_ok ls cp lo hi j wr hcb5.code (by rw [unhide HLEN]; exact hjn) hhj)
                            have hhk := (unhide HG).has (i := j) (by rw [unhide HLEN]; exact hjn) hhj
                            have hL20 := hhk.2.2
                            have hWb : Canon.wd ls j < 4294967296 := by
                              have h1 := Canon.wd_lt hhk (unhide HG).sum
                              have h2 : 2 ^ Canon.ln ls j ≤ 2 ^ 20 := Nat.pow_le_pow_right (by decide) hL20
                              omega
                            obtain ⟨W2, hW2⟩ : ∃ W2, W2 = Canon.wd ls j := ⟨_, rfl⟩
                            obtain ⟨L2, hL2⟩ : ∃ L2, L2 = Canon.ln ls j := ⟨_, rfl⟩
                            rw [← hW2, ← hL2] at HWK 
                            rw [← hW2] at hWb
                            rw [← hL2] at hL20
                            clear hcb5 hhk hhj hW2 hL2
                            by_cases hij : ii = j
                            · have hne : ((ii : Int) != (j : Int)) = false := by simp; omega
                              clear hij
                              go_wp2_with (go_at_call 14; go_must (refine (unhide HWK).mono ?_; rintro e w7 ⟨rfl, h7⟩; have HCB7 := hide ((unhide HCB5).step h7); clear h7))
                              go_roundg (60 - (j + 1))
                              case measure => omega
                              case rel => exact ⟨j + 1, rfl, by omega, by go_num, unhide HCB7⟩
                            · have hne : ((ii : Int) != (j : Int)) = true := by simp; omega
                              go_wp2_with (go_at_call 14; go_must (refine (unhide HWK).mono ?_; rintro e w7 ⟨rfl, h7⟩; have HCB7 := hide ((unhide HCB5).step h7); clear h7))
                              go_roundg (60 - (j + 1))
                              case measure => omega
                              case rel => exact ⟨j + 1, rfl, by omega, by go_num, unhide HCB7⟩
                          · have HWK := hide (word_none ls cp lo hi (j : Int) wr hcb5.code (fun h => by have := h.2.2; rw [Int.toNat_natCast] at this; omega))
                            clear hcb5
                            by_cases hij : ii = j
                            · have hne : ((ii : Int) != (j : Int)) = false := by simp; omega
                              clear hij
                              go_wp2_with (go_at_call 14; go_must (refine (unhide HWK).mono ?_; rintro e w' ⟨rfl, rfl⟩))
                              go_roundg (60 - (j + 1))
                              case measure => omega
                              case rel => exact ⟨j + 1, rfl, by omega, by go_num, unhide HCB5⟩
                            · have hne : ((ii : Int) != (j : Int)) = true := by simp; omega
                              go_wp2_with (go_at_call 14; go_must (refine (unhide HWK).mono ?_; rintro e w' ⟨rfl, rfl⟩))
                              go_roundg (60 - (j + 1))
                              case measure => omega
                              case rel => exact ⟨j + 1, rfl, by omega, by go_num, unhide HCB5⟩
                        · have hj60' : ¬ (j : Int) < 60 := by omega
                          clear hcb5
                          go_wp2_with fail
                          go_roundg (60 - (ii + 1))
                          case measure => omega
                          case rel => exact ⟨ii + 1, rfl, by omega, by go_num, unhide HCB5⟩
                      · have hjn' : ¬ (j : Int) < (n : Int) := by omega
                        clear hcb5
                        go_wp2_with fail
                        go_roundg (60 - (ii + 1))
                        case measure => omega
                        case rel => exact ⟨ii + 1, rfl, by omega, by go_num, unhide HCB5⟩
                · have hi60' : ¬ (ii : Int) < 60 := by omega
                  clear hcb
                  go_wp2_with fail
                  go_ret
                  exact ⟨rfl, (unhide HCB3).bel⟩
              · have hin' : ¬ (ii : Int) < (n : Int) := by omega
                clear hcb
                go_wp2_with fail
                go_ret
                exact ⟨rfl, (unhide HCB3).bel⟩

end Go.Proofs.Ytclccccodeekmaa
