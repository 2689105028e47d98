/- Two decoders side by side: the program's and the document's. -/
import Derived.Test.YtbolhbjipmndeaaQn
namespace Go.Proofs.Ytbolhbjipmndeaa.D
open Go.RowKit Rang
set_option maxRecDepth 100000
set_option linter.unusedVariables false
attribute [local go_sem ↓] Go.wp_at_zero Go.wp_at_succ

theorem gets_len (Bs : List Nat) (base : Nat) : ∀ (n i m v : Nat) (s : Dec × List Nat), (getsD Bs base n i m v s).2.2.length = s.2.length
  | 0, i, m, v, s => rfl
  | n + 1, i, m, v, s => by
    rw [getsD]
    split
    · exact got_len ..
    · rw [gets_len Bs base n]; exact got_len ..

/-- a call on each of both tells the same -/
def QDone (pb gc gr : Nat) (rcs : Array Value) (Bs : List Nat) (W : World) (x y : Int) (d1 : Dec) (ch1 : List Nat) (e : Ending) (w' : World) : Prop := e = .returned (.tuple #[.int .i64 x, .int .i64 y]) ∧ QS w' pb gc gr rcs Bs d1 ch1 ∧ QT W w' pb gc
def EDone (qb gd cc : Nat) (ba : Option Addr) (bc : Nat) (Bs : List Nat) (W : World) (x y : Int) (d1 : Dec) (ch1 : List Nat) (e : Ending) (w' : World) : Prop := e = .returned (.tuple #[.int .i64 x, .int .i64 y]) ∧ DS w' qb gd cc ba bc Bs d1 ch1 ∧ QT W w' qb gd

section
variable {pb gc gr qb gd cc : Nat} {rcs : Array Value} {ba : Option Addr} {bc : Nat} {Bs : List Nat} {d : Dec} {ch : List Nat}

theorem bothq_bit (bs : Int) : ∃ (x y : Int) (d1 : Dec) (ch1 : List Nat), ch1.length = ch.length ∧
    (∀ W, QS W pb gc gr rcs Bs d ch → Calls Try.prog 30 #[.pointer (some ⟨pb, 0, none⟩), .int .i64 bs] W (QDone pb gc gr rcs Bs W x y d1 ch1)) ∧
    (∀ W, DS W qb gd cc ba bc Bs d ch → Calls Try.prog 31 #[.pointer (some ⟨qb, 0, none⟩), .int .i64 bs] W (EDone qb gd cc ba bc Bs W x y d1 ch1)) := by
  by_cases h : 0 ≤ bs ∧ bs < (ch.length : Int)
  · obtain ⟨i, rfl⟩ := Int.eq_ofNat_of_zero_le h.1
    have hi : i < ch.length := by omega
    refine ⟨(if ((gotD Bs d (ch.getD i 0)).2).over then 0 else ((gotD Bs d (ch.getD i 0)).1.toNat : Int)), (if ((gotD Bs d (ch.getD i 0)).2).over then 10 else 0), (gotD Bs d (ch.getD i 0)).2, gotCh ch i (ch.getD i 0) (gotD Bs d (ch.getD i 0)), got_len .., fun W hq => (qbit_ok W pb gc gr rcs Bs d ch i hq hi).mono ?_, fun W hd => (dbit_ok W qb gd cc ba bc Bs d ch i hd hi).mono ?_⟩
    · rintro e w' ⟨rfl, h1, h2⟩
      exact ⟨rfl, h1, h2.qt⟩
    · rintro e w' ⟨rfl, h1, h2⟩
      exact ⟨rfl, h1, h2.qt⟩
  · refine ⟨0, 2, d, ch, rfl, fun W hq => (qbit_bad W pb gc gr rcs Bs d ch bs hq h).mono ?_, fun W hd => (dbit_bad W qb gd cc ba bc Bs d ch bs hd.da h).mono ?_⟩
    · rintro e w' ⟨rfl, rfl⟩
      exact ⟨rfl, hq, QT.refl _ _ _⟩
    · rintro e w' ⟨rfl, rfl⟩
      exact ⟨rfl, hd, QT.refl _ _ _⟩

theorem bothq_direct (n : Int) : ∃ (x y : Int) (d1 : Dec) (ch1 : List Nat), ch1.length = ch.length ∧
    (∀ W, QS W pb gc gr rcs Bs d ch → Calls Try.prog 32 #[.pointer (some ⟨pb, 0, none⟩), .int .i64 n] W (QDone pb gc gr rcs Bs W x y d1 ch1)) ∧
    (∀ W, DS W qb gd cc ba bc Bs d ch → Calls Try.prog 33 #[.pointer (some ⟨qb, 0, none⟩), .int .i64 n] W (EDone qb gd cc ba bc Bs W x y d1 ch1)) := by
  by_cases h : 0 ≤ n ∧ n ≤ 31
  · obtain ⟨m, rfl⟩ := Int.eq_ofNat_of_zero_le h.1
    have hm : m ≤ 31 := by omega
    refine ⟨(if ((dirsD Bs m 0 d).2).over then 0 else ((dirsD Bs m 0 d).1 : Int)), (if ((dirsD Bs m 0 d).2).over then 10 else 0), (dirsD Bs m 0 d).2, ch, rfl, fun W hq => (qdirect_ok W pb gc gr rcs Bs d ch m hq hm).mono ?_, fun W hd => (ddirect_ok W qb gd cc ba bc Bs d ch m hd hm).mono ?_⟩
    · rintro e w' ⟨rfl, h1, h2⟩
      exact ⟨rfl, h1, h2.qt⟩
    · rintro e w' ⟨rfl, h1, h2⟩
      exact ⟨rfl, h1, h2.qt⟩
  · refine ⟨0, 2, d, ch, rfl, fun W hq => (qdirect_bad W pb gc gr rcs Bs d ch n hq h).mono ?_, fun W hd => (ddirect_bad W qb n h).mono ?_⟩
    · rintro e w' ⟨rfl, rfl⟩
      exact ⟨rfl, hq, QT.refl _ _ _⟩
    · rintro e w' ⟨rfl, rfl⟩
      exact ⟨rfl, hd, QT.refl _ _ _⟩

theorem bothq_tree (bs n : Int) (hN : ch.length ≤ 65536) (hbs : bs ≤ 9223372036854775807) : ∃ (x y : Int) (d1 : Dec) (ch1 : List Nat), ch1.length = ch.length ∧
    (∀ W, QS W pb gc gr rcs Bs d ch → Calls Try.prog 34 #[.pointer (some ⟨pb, 0, none⟩), .int .i64 bs, .int .i64 n] W (QDone pb gc gr rcs Bs W x y d1 ch1)) ∧
    (∀ W, DS W qb gd cc ba bc Bs d ch → Calls Try.prog 35 #[.pointer (some ⟨qb, 0, none⟩), .int .i64 bs, .int .i64 n, .bool true] W (EDone qb gd cc ba bc Bs W x y d1 ch1)) := by
  by_cases h : MayB bs n ch.length
  · obtain ⟨b, m, rfl, rfl, h1, h2⟩ := mayB_nat h
    refine ⟨(if ((getsD Bs b m 0 1 0 (d, ch)).2.1).over then 0 else (treeV m true (getsD Bs b m 0 1 0 (d, ch)).1)), (if ((getsD Bs b m 0 1 0 (d, ch)).2.1).over then 10 else 0), (getsD Bs b m 0 1 0 (d, ch)).2.1, (getsD Bs b m 0 1 0 (d, ch)).2.2, gets_len .., fun W hq => (qtree_ok W pb gc gr rcs Bs d ch b m hq h1 h2 (by omega)).mono ?_, fun W hd => (dtree_ok W qb gd cc ba bc Bs d ch b m true hd h1 h2 (by omega)).mono ?_⟩
    · rintro e w' ⟨rfl, h3, h4⟩
      exact ⟨rfl, h3, h4⟩
    · rintro e w' ⟨rfl, h3, h4⟩
      exact ⟨rfl, h3, h4.qt⟩
  · refine ⟨0, 2, d, ch, rfl, fun W hq => (qtree_bad W pb gc gr rcs Bs d ch bs n hq (by omega) h).mono ?_, fun W hd => (dtree_bad W qb gd cc ba bc Bs d ch bs n true hd (by omega) hbs h).mono ?_⟩
    · rintro e w' ⟨rfl, h3, h4⟩
      exact ⟨rfl, h3, h4⟩
    · rintro e w' ⟨rfl, rfl⟩
      exact ⟨rfl, hd, QT.refl _ _ _⟩

theorem bothq_rev (bs n : Int) (hN : ch.length ≤ 65536) (hbs : bs ≤ 9223372036854775807) : ∃ (x y : Int) (d1 : Dec) (ch1 : List Nat), ch1.length = ch.length ∧
    (∀ W, QS W pb gc gr rcs Bs d ch → Calls Try.prog 36 #[.pointer (some ⟨pb, 0, none⟩), .int .i64 bs, .int .i64 n] W (QDone pb gc gr rcs Bs W x y d1 ch1)) ∧
    (∀ W, DS W qb gd cc ba bc Bs d ch → Calls Try.prog 35 #[.pointer (some ⟨qb, 0, none⟩), .int .i64 bs, .int .i64 n, .bool false] W (EDone qb gd cc ba bc Bs W x y d1 ch1)) := by
  by_cases h : MayB bs n ch.length
  · obtain ⟨b, m, rfl, rfl, h1, h2⟩ := mayB_nat h
    refine ⟨(if ((getsD Bs b m 0 1 0 (d, ch)).2.1).over then 0 else (treeV m false (getsD Bs b m 0 1 0 (d, ch)).1)), (if ((getsD Bs b m 0 1 0 (d, ch)).2.1).over then 10 else 0), (getsD Bs b m 0 1 0 (d, ch)).2.1, (getsD Bs b m 0 1 0 (d, ch)).2.2, gets_len .., fun W hq => (qrev_ok W pb gc gr rcs Bs d ch b m hq h1 h2 (by omega)).mono ?_, fun W hd => (dtree_ok W qb gd cc ba bc Bs d ch b m false hd h1 h2 (by omega)).mono ?_⟩
    · rintro e w' ⟨rfl, h3, h4⟩
      exact ⟨rfl, h3, h4⟩
    · rintro e w' ⟨rfl, h3, h4⟩
      exact ⟨rfl, h3, h4.qt⟩
  · refine ⟨0, 2, d, ch, rfl, fun W hq => (qrev_bad W pb gc gr rcs Bs d ch bs n hq (by omega) h).mono ?_, fun W hd => (dtree_bad W qb gd cc ba bc Bs d ch bs n false hd (by omega) hbs h).mono ?_⟩
    · rintro e w' ⟨rfl, rfl⟩
      exact ⟨rfl, hq, QT.refl _ _ _⟩
    · rintro e w' ⟨rfl, rfl⟩
      exact ⟨rfl, hd, QT.refl _ _ _⟩
end

/-- two decoders that share nothing -/
structure TwoQ (B : Nat) (w : World) (pb gc gr : Nat) (rcs : Array Value) (qb gd cc : Nat) (ba : Option Addr) (bc : Nat) (Bs : List Nat) (d : Dec) (ch : List Nat) (d' : Dec) (ch' : List Nat) : Prop where
  q : QS w pb gc gr rcs Bs d ch
  e : DS w qb gd cc ba bc Bs d' ch'
  lo : B ≤ pb ∧ B ≤ gc ∧ B ≤ gr ∧ B ≤ qb ∧ B ≤ gd
  bl : ∀ g off, ba = some ⟨g, off, none⟩ → 0 < Bs.length → g < B

section
variable {B : Nat} {w w' : World} {pb gc gr : Nat} {rcs : Array Value} {qb gd cc : Nat} {ba : Option Addr} {bc : Nat} {Bs : List Nat} {d d1 : Dec} {ch ch1 : List Nat} {d' d2 : Dec} {ch' ch2 : List Nat}

theorem BytesIn.of {w w' : World} {a0 : Option Addr} {b : List Nat} (h : BytesIn w a0 b) (hb : ∀ g off, a0 = some ⟨g, off, none⟩ → 0 < b.length → w'.heap[g]? = w.heap[g]?) : BytesIn w' a0 b := fun j hj => by
  obtain ⟨g, off, e, c⟩ := h j hj
  refine ⟨g, off, e, ?_⟩
  simp only [World.cell?] at c ⊢
  rw [hb g off e (by omega)]
  exact c

theorem DS.of (h : DS w qb gd cc ba bc Bs d' ch') (h1 : w'.heap[qb]? = w.heap[qb]?) (h2 : w'.heap[gd]? = w.heap[gd]?) (h3 : ∀ g off, ba = some ⟨g, off, none⟩ → 0 < Bs.length → w'.heap[g]? = w.heap[g]?) : DS w' qb gd cc ba bc Bs d' ch' :=
  ⟨⟨by rw [h1]; exact h.da.cells, h.da.chs.of h2, h.da.bytes.of h3, h.da.small, h.da.apart⟩, h.good, h.chs, h.len⟩

theorem QS.of (h : QS w pb gc gr rcs Bs d ch) (h1 : w'.heap[pb]? = w.heap[pb]?) (h2 : w'.heap[gc]? = w.heap[gc]?) (h3 : w'.heap[gr]? = w.heap[gr]?) : QS w' pb gc gr rcs Bs d ch := by
  obtain ⟨o, rc, hq⟩ := h.qa
  exact ⟨⟨o, rc, ⟨by rw [h1]; exact hq.cells, hq.chs.of h2, by rw [h3]; exact hq.row, hq.bytes, hq.small, hq.cap⟩⟩, h.good, h.chs, h.len⟩

theorem TwoQ.lts (h : TwoQ B w pb gc gr rcs qb gd cc ba bc Bs d ch d' ch') : pb < w.heap.size ∧ gc < w.heap.size ∧ gr < w.heap.size ∧ qb < w.heap.size ∧ gd < w.heap.size := by
  obtain ⟨o, rc, hq⟩ := h.q.qa
  exact ⟨heap_lt hq.cells, hq.chs.lt, heap_lt hq.row, heap_lt h.e.da.cells, h.e.da.chs.lt⟩

theorem TwoQ.stepQ (h : TwoQ B w pb gc gr rcs qb gd cc ba bc Bs d ch d' ch') (hq : QS w' pb gc gr rcs Bs d1 ch1) (ht : QT w w' pb gc) : TwoQ B w' pb gc gr rcs qb gd cc ba bc Bs d1 ch1 d' ch' := by
  obtain ⟨o, rc, hqa⟩ := h.q.qa
  obtain ⟨sp, hch⟩ := h.e.da.chs
  have hl := h.lts
  have a1 := hqa.cells
  have a2 : w.heap[gc]? = _ := hqa.chs
  have b1 := h.e.da.cells
  refine ⟨hq, h.e.of (ht.keep qb hl.2.2.2.1 (blk_ne b1 a1 (by decide)) (blk_ne b1 a2 (by decide))) (ht.keep gd hl.2.2.2.2 (blk_ne hch a1 (by decide)) (blk_ne hch a2 (by decide))) (fun g off e h0 => ?_), h.lo, h.bl⟩
  have := h.bl g off e h0
  exact ht.keep g (by have := h.lo.1; omega) (by have := h.lo.1; omega) (by have := h.lo.2.1; omega)

theorem TwoQ.stepE (h : TwoQ B w pb gc gr rcs qb gd cc ba bc Bs d ch d' ch') (he : DS w' qb gd cc ba bc Bs d2 ch2) (ht : QT w w' qb gd) : TwoQ B w' pb gc gr rcs qb gd cc ba bc Bs d ch d2 ch2 := by
  obtain ⟨o, rc, hqa⟩ := h.q.qa
  obtain ⟨sp, hch⟩ := h.e.da.chs
  have hl := h.lts
  have a1 := hqa.cells
  have a2 : w.heap[gc]? = _ := hqa.chs
  have a3 := hqa.row
  have b1 := h.e.da.cells
  exact ⟨h.q.of (ht.keep pb hl.1 (blk_ne a1 b1 (by decide)) (blk_ne a1 hch (by decide))) (ht.keep gc hl.2.1 (blk_ne a2 b1 (by decide)) (blk_ne a2 hch (by decide))) (ht.keep gr hl.2.2.1 (blk_ne a3 b1 (by decide)) (blk_ne a3 hch (by decide))), he, h.lo, h.bl⟩

theorem TwoQ.below (h : TwoQ B w pb gc gr rcs qb gd cc ba bc Bs d ch d' ch') (hb : Below w.heap.size w w') : TwoQ B w' pb gc gr rcs qb gd cc ba bc Bs d ch d' ch' := by
  have hl := h.lts
  exact ⟨h.q.of (hb.block _ hl.1) (hb.block _ hl.2.1) (hb.block _ hl.2.2.1), h.e.of (hb.block _ hl.2.2.2.1) (hb.block _ hl.2.2.2.2) (fun g off e h0 => hb.block g (by have := h.bl g off e h0; have := h.lo.1; omega)), h.lo, h.bl⟩

theorem TwoQ.tchQ {w0 : World} (h : TwoQ B w pb gc gr rcs qb gd cc ba bc Bs d ch d' ch') (hb : Below B w0 w) (ht : QT w w' pb gc) : Below B w0 w' := ht.below hb h.lo.1 h.lo.2.1 (by have := h.lts.1; have := h.lo.1; omega)
theorem TwoQ.tchE {w0 : World} (h : TwoQ B w pb gc gr rcs qb gd cc ba bc Bs d ch d' ch') (hb : Below B w0 w) (ht : QT w w' qb gd) : Below B w0 w' := ht.below hb h.lo.2.2.2.1 h.lo.2.2.2.2 (by have := h.lts.1; have := h.lo.1; omega)

theorem TwoQ.otherQ (h : TwoQ B w pb gc gr rcs qb gd cc ba bc Bs d ch d' ch') (ht : QT w w' pb gc) {g : Nat} {cs : Array Value} {t : TypeId} (hg : w.heap[g]? = some (.cells cs t (0, 0))) (h1 : t ≠ 71) (h2 : t ≠ 91) : w'.heap[g]? = some (.cells cs t (0, 0)) := by
  obtain ⟨o, rc, hqa⟩ := h.q.qa
  have a2 : w.heap[gc]? = _ := hqa.chs
  rw [ht.keep g (heap_lt hg) (blk_ne hg hqa.cells h1) (blk_ne hg a2 h2)]
  exact hg

theorem TwoQ.newChances (h : TwoQ B w pb gc gr rcs qb gd cc ba bc Bs d ch d' ch') {g : Nat} {ls : List Int} {sp : List Value} (hg : w.heap[g]? = some (.cells (ls.map iv ++ sp).toArray 3 (0, 0))) (hB : B ≤ g) (hf : ∀ p ∈ ls, Fit1 p) (cap : Nat) :
    TwoQ B (w.setCell ⟨qb, 0, none⟩ (.slice (some ⟨g, 0, none⟩) ls.length cap)) pb gc gr rcs qb g cap ba bc Bs d ch d' (ls.map Int.toNat) := by
  obtain ⟨o, rc, hqa⟩ := h.q.qa
  have a1 := hqa.cells
  have a2 : w.heap[gc]? = _ := hqa.chs
  have a3 := hqa.row
  have b1 := h.e.da.cells
  have other : ∀ q, q ≠ qb → (w.setCell ⟨qb, 0, none⟩ (.slice (some ⟨g, 0, none⟩) ls.length cap)).heap[q]? = w.heap[q]? := fun q hq => heap_setCell_other _ _ _ _ hq
  refine ⟨h.q.of (other pb (blk_ne a1 b1 (by decide))) (other gc (blk_ne a2 b1 (by decide))) (other gr (blk_ne a3 b1 (by decide))), ⟨⟨?_, ⟨sp, ?_⟩, h.e.da.bytes.of (fun g' off e h0 => other g' (by have := h.bl g' off e h0; have := h.lo.2.2.2.1; omega)), h.e.da.small, fun g' off e h0 => ⟨(h.e.da.apart g' off e h0).1, by have := h.bl g' off e h0; omega⟩⟩, h.e.good, Chs.toNat hf, h.e.len⟩, ⟨h.lo.1, h.lo.2.1, h.lo.2.2.1, h.lo.2.2.2.1, hB⟩, h.bl⟩
  · rw [heap_setCell_same w qb 0 _ 56 _ b1, List.length_map]
    rfl
  · rw [other g (blk_ne hg b1 (by decide)), hg]
    congr 3
    rw [List.map_map]
    congr 1
    apply List.map_congr_left
    intro p hp
    have h1 := (hf p hp).1
    show iv p = Value.int .i64 ((p.toNat : Nat) : Int)
    rw [Int.toNat_of_nonneg (by omega)]
    rfl
end

theorem QS.setAll {w w' : World} {pb gc gr : Nat} {rcs : Array Value} {Bs : List Nat} {d : Dec} {ch ch' : List Nat} (h : QS w pb gc gr rcs Bs d ch) (h1 : PCh w' gc ch') (h2 : DT w w' gc gc 0) (hl : ch'.length = ch.length) (hc : Chs ch') : QS w' pb gc gr rcs Bs d ch' ∧ QT w w' pb gc := by
  obtain ⟨o, rc, hq⟩ := h.qa
  have hne := hq.ne
  exact ⟨⟨⟨o, rc, ⟨by rw [hl, h2.keep pb (fun e => hne.1 e.symm) (fun e => hne.1 e.symm)]; exact hq.cells, h1, by rw [h2.keep gr hne.2.2 hne.2.2]; exact hq.row, hq.bytes, hq.small, hq.cap⟩⟩, h.good, hc, h.len⟩, ⟨h2.os, h2.tape, h2.output, Nat.le_of_eq h2.size.symm, fun k hk _ hg => h2.keep k hg hg⟩⟩

set_option maxHeartbeats 4000000 in
theorem qset_ok (w : World) (pb gc gr : Nat) (rcs : Array Value) (Bs : List Nat) (d : Dec) (ch : List Nat) (l : List Int) (a0 : Option Addr) (cap : Nat) (h : QS w pb gc gr rcs Bs d ch) (hc : IntsIn w a0 l) (hl : l.length = ch.length) (hf : ∀ p ∈ l, Fit1 p) (hn : ch.length ≤ 65536) :
    Calls Try.prog 37 #[.pointer (some ⟨pb, 0, none⟩), .slice a0 l.length cap] w fun e w' => e = .returned (.int .i64 0) ∧ QS w' pb gc gr rcs Bs d (l.map Int.toNat) ∧ QT w w' pb gc := by
  have HG := hide (dgood_ok pb w true h.made)
  have HEA := hide (each_ok gc ch l a0 cap w.drew h.pch (hc.of (fun _ _ => rfl)) hl hf hn)
  have c1 : w.drew.cell? ⟨pb, 1, none⟩ = some (.slice (some ⟨gc, 0, none⟩) ch.length ch.length) := h.chv
  have HE := hide h
  have HF := hide hf
  have HL := hide hl
  rw [hl] at HEA ⊢
  obtain ⟨n, hnn⟩ : ∃ n, n = ch.length := ⟨_, rfl⟩
  rw [← hnn] at HEA c1 ⊢
  clear h hc hf hl hnn
  go_enter Try.func37, Try.ntmps37
  go_upto_region 3 with (first | (go_at_call 59; refine (unhide HG).mono ?_; rintro e w1 ⟨rfl, rfl⟩))
  refine wp_tail 11 (by kernel_rfl) (by kernel_rfl) ?_
  simp only [List.take_succ_cons, List.take_zero, List.drop_succ_cons, List.drop_zero]
  repeat still_step
  try refine wpStill_nil ?_
  go_wp2_with (first | (go_at_call 56; refine (unhide HEA).mono ?_; rintro e w2 ⟨rfl, h1, h2⟩; have H1 := hide h1; have H2 := hide h2; clear h1 h2))
  go_ret
  have h3 := (unhide HE).setAll (unhide H1) ((⟨rfl, rfl, rfl, rfl, fun _ _ _ => rfl⟩ : DT w1 w1.drew gc gc 0).trans (unhide H2)) (by rw [List.length_map]; exact unhide HL) (Chs.toNat (unhide HF))
  exact ⟨rfl, h3.1, h3.2⟩

set_option maxHeartbeats 4000000 in
theorem qset_bad (w : World) (pb gc gr : Nat) (rcs : Array Value) (Bs : List Nat) (d : Dec) (ch : List Nat) (l : List Int) (a0 : Option Addr) (cap : Nat) (h : QS w pb gc gr rcs Bs d ch) (hc : IntsIn w a0 l) (hll : l.length ≤ 17592186044416) (hb : ¬ (l.length = ch.length ∧ ∀ p ∈ l, Fit1 p)) (hn : ch.length ≤ 65536) :
    Calls Try.prog 37 #[.pointer (some ⟨pb, 0, none⟩), .slice a0 l.length cap] w fun e w' => e = .returned (.int .i64 2) ∧ QS w' pb gc gr rcs Bs d ch ∧ QT w w' pb gc := by
  have HG := hide (dgood_ok pb w true h.made)
  have HEA := hide (each_bad (.func (.func 57) #[.slice (some ⟨gc, 0, none⟩) ch.length ch.length] #[]) ch.length l a0 cap w.drew (hc.of (fun _ _ => rfl)) hll hb hn)
  have c1 : w.drew.cell? ⟨pb, 1, none⟩ = some (.slice (some ⟨gc, 0, none⟩) ch.length ch.length) := h.chv
  have HE := hide h
  generalize l.length = m at HEA ⊢
  obtain ⟨n, hnn⟩ : ∃ n, n = ch.length := ⟨_, rfl⟩
  rw [← hnn] at HEA c1
  clear h hc hb hnn
  go_enter Try.func37, Try.ntmps37
  go_upto_region 3 with (first | (go_at_call 59; refine (unhide HG).mono ?_; rintro e w1 ⟨rfl, rfl⟩))
  refine wp_tail 11 (by kernel_rfl) (by kernel_rfl) ?_
  simp only [List.take_succ_cons, List.take_zero, List.drop_succ_cons, List.drop_zero]
  repeat still_step
  try refine wpStill_nil ?_
  go_wp2_with (first | (go_at_call 56; refine (unhide HEA).mono ?_; rintro e w2 ⟨rfl, rfl⟩))
  go_ret
  exact ⟨rfl, (unhide HE).of rfl rfl rfl, ⟨rfl, rfl, rfl, Nat.le_refl _, fun _ _ _ _ => rfl⟩⟩
end Go.Proofs.Ytbolhbjipmndeaa.D
