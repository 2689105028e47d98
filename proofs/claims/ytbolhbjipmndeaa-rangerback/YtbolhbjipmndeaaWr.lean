/- RangerWrites' walk. -/
import Derived.Test.YtbolhbjipmndeaaBo
import Derived.Test.YtbolhbjipmndeaaHd
namespace Go.Proofs.Ytbolhbjipmndeaa.D
open Go.RowKit Rang
set_option maxRecDepth 100000
set_option linter.unusedVariables false
attribute [local go_sem ↓] Go.wp_at_zero Go.wp_at_succ

/-- an act that was handed in -/
structure ActD where
  kd : Int
  bs : Int
  v : Int
  n : Int
  lp : Option Addr
  lc : Nat
  ls : List Int

structure Acts (w : World) (b off L : Nat) (A : Nat → ActD) : Prop where
  ck : ∀ i, i < L → w.cell? ⟨b, off + i * 5, none⟩ = some (.int .i64 (A i).kd)
  cb : ∀ i, i < L → w.cell? ⟨b, off + i * 5 + 1, none⟩ = some (.int .i64 (A i).bs)
  cv : ∀ i, i < L → w.cell? ⟨b, off + i * 5 + 2, none⟩ = some (.int .i64 (A i).v)
  cn : ∀ i, i < L → w.cell? ⟨b, off + i * 5 + 3, none⟩ = some (.int .i64 (A i).n)
  cl : ∀ i, i < L → w.cell? ⟨b, off + i * 5 + 4, none⟩ = some (.slice (A i).lp (A i).ls.length (A i).lc)
  rd : ∀ i, i < L → SrcI w (A i).lp (A i).lc (A i).ls
  bs : ∀ i, i < L → (A i).bs ≤ 9223372036854775807
  len : ∀ i, i < L → (A i).ls.length ≤ 17592186044416

theorem Acts.below {w w' : World} {b off L : Nat} {A : Nat → ActD} (h : Acts w b off L A) (hb : Below w.heap.size w w') : Acts w' b off L A :=
  ⟨fun i hi => cell_stays hb (h.ck i hi), fun i hi => cell_stays hb (h.cb i hi), fun i hi => cell_stays hb (h.cv i hi), fun i hi => cell_stays hb (h.cn i hi), fun i hi => cell_stays hb (h.cl i hi), fun i hi => (h.rd i hi).stays hb, h.bs, h.len⟩

set_option maxHeartbeats 1000000 in
theorem names_ok (w : World) : Calls Try.prog 10 #[] w fun e w' => e = .returned (.bool true) ∧ w' = w := by
  go_enter Try.func10, Try.ntmps10
  go_wp2_with fail
  go_ret
  exact ⟨rfl, rfl⟩

theorem ints_row {w : World} {g : Nat} {l : List Nat} (h : Ints w g l) : Row g (g + 1) w (.slice (some ⟨g, 0, none⟩) l.length l.length) .i64 3 l := by
  refine ⟨_, _, rfl, fun _ => ⟨g, _, rfl, Nat.le_refl _, by omega, h, fun j hj => ?_⟩⟩
  simp [hj, List.getD_eq_getElem?_getD]

theorem EC.row {B : Nat} {w : World} {qb gd cc : Nat} {ou : Value} {c : Enc} {ch : List Nat} (h : EC B w qb gd cc ou c ch) : Row gd (gd + 1) w (.slice (some ⟨gd, 0, none⟩) ch.length cc) .i64 3 ch := by
  obtain ⟨sp, hs⟩ := h.chs
  refine ⟨_, _, rfl, fun _ => ⟨gd, _, rfl, Nat.le_refl _, by omega, hs, fun j hj => ?_⟩⟩
  simp [List.getElem?_append, hj, List.getD_eq_getElem?_getD]

theorem act_cells {x : World} {ga : Nat} {a0 a1 a2 a3 a4 : Value} (h : x.heap[ga]? = some (.cells #[a0, a1, a2, a3, a4] 41 (0, 0))) : x.cell? ⟨ga, 1, none⟩ = some a1 ∧ x.cell? ⟨ga, 2, none⟩ = some a2 ∧ x.cell? ⟨ga, 3, none⟩ = some a3 := by
  simp [World.cell?, h]

theorem Two.newChances {B : Nat} {w : World} {pb gc : Nat} {ov : Value} {c : Enc} {ch : List Nat} {k : Nat} {qb gd cc : Nat} {ou : Value} {c' : Enc} {ch' : List Nat} {k' : Nat} (h : Two B w pb gc ov c ch k qb gd cc ou c' ch' k') {g : Nat} {ls : List Int} {sp : List Value} (hg : w.heap[g]? = some (.cells (ls.map iv ++ sp).toArray 3 (0, 0))) (hB : B ≤ g) (hf : ∀ p ∈ ls, Fit1 p) (cap : Nat) :
    Two B (w.setCell ⟨qb, 0, none⟩ (.slice (some ⟨g, 0, none⟩) ls.length cap)) pb gc ov c ch k qb g cap ou c' (ls.map Int.toNat) k' := by
  have a1 := h.p.pc.enc.cells
  have a2 := h.p.pc.chs
  have b1 := h.d.ec.enc.cells
  have nown : ∀ {v : Value} {n : Nat} {xs : List Value}, w.ownsRow B 5 1 v n xs → v.ownBlock ≠ some qb := fun hr e => by
    obtain ⟨cur, hh⟩ := own_blk hr e
    exact blk_ne b1 hh (by decide) rfl
  have other : ∀ q, q ≠ qb → (w.setCell ⟨qb, 0, none⟩ (.slice (some ⟨g, 0, none⟩) ls.length cap)).heap[q]? = w.heap[q]? := fun q hq => heap_setCell_other _ _ _ _ hq
  refine ⟨⟨⟨⟨?_, own_keep h.p.pc.enc.row fun q e => other q (fun e' => nown h.p.pc.enc.row (by rw [e, e'])), h.p.pc.enc.lo⟩, ?_, h.p.pc.lo⟩, h.p.wide, h.p.chs, by simpa using h.p.base⟩, ⟨⟨⟨?_, own_keep h.d.ec.enc.row fun q e => other q (fun e' => nown h.d.ec.enc.row (by rw [e, e'])), h.d.ec.enc.lo⟩, ⟨sp, ?_⟩, hB⟩, h.d.wide, Chs.toNat hf, by simpa using h.d.base⟩, h.ap⟩
  · rw [other pb (blk_ne a1 b1 (by decide))]; exact a1
  · unfold PCh
    rw [other gc (blk_ne a2 b1 (by decide))]; exact a2
  · rw [heap_setCell_same w qb 0 _ 39 _ b1, List.length_map]
    rfl
  · rw [other g (blk_ne hg b1 (by decide)), hg]
    congr 3
    rw [List.map_map]
    congr 1
    apply List.map_congr_left
    intro p hp
    have h1 := (hf p hp).1
    show iv p = Value.int .i64 ((p.toNat : Nat) : Int)
    rw [Int.toNat_of_nonneg (by omega)]
    rfl

/-- where the loop stands -/
structure Stand (w0 w : World) (pb gc qb n i : Nat) (ov ou : Value) (gd cc : Nat) (c : Enc) (ch : List Nat) (k : Nat) : Prop where
  two : Two w0.heap.size w pb gc ov c ch k qb gd cc ou c ch k
  len : ch.length = n
  bel : Below w0.heap.size w0 w
  few : k ≤ 31 * i

set_option maxHeartbeats 8000000 in
theorem writes_bad (n : Int) (a0 : Option Addr) (L cap : Nat) (w : World) (hn : n < 0 ∨ 65536 < n) (hL : L ≤ 2513169435000) : Calls Try.prog 3 #[.int .i64 n, .slice a0 L cap] w fun e w' => e = .returned (.bool true) ∧ Below w.heap.size w w' := by
  have t1 : (0 : Int) ≤ (L : Int) := by omega
  go_enter Try.func3, Try.ntmps3
  go_wp2_with (first | (go_at_call 8; refine (pnew_bad n w hn).mono ?_; rintro e w1 ⟨rfl, rfl⟩) | (go_at_call 9; refine (new_bad n w hn).mono ?_; rintro e w1 ⟨rfl, rfl⟩) | (go_at_call 10; refine (names_ok _).mono ?_; rintro e w1 ⟨rfl, rfl⟩))
  go_loopg [9] 0 (fun gk d ws => gk = 0 ∧ d = .int .i64 0 ∧ w1 = ws)
  case atStart => exact ⟨rfl, rfl, rfl⟩
  case round =>
    obtain ⟨rfl, rfl, rfl⟩ := hrel
    go_wp2_with fail
    go_ret
    exact ⟨rfl, Below.refl _ _⟩

set_option maxHeartbeats 8000000 in
theorem writes_law (n : Nat) (a0 : Option Addr) (b off L cap : Nat) (A : Nat → ActD) (w : World) (hn : n ≤ 65536) (hal : 0 < L → a0 = some ⟨b, off, none⟩) (hA : Acts w b off L A) (hL : L ≤ 2513169435000) : Calls Try.prog 3 #[.int .i64 (n : Int), .slice a0 L cap] w fun e w' => e = .returned (.bool true) ∧ Below w.heap.size w w' := by
  have HP := hide (pnew_ok n w hn)
  have HAL := hide hal
  have HA := hide hA
  clear hal hA
  go_enter Try.func3, Try.ntmps3
  go_wp2_with (first | (go_at_call 8; refine (unhide HP).mono ?_; rintro e wa ⟨pb, rfl, h1, h2⟩; have H1 := hide h1; have H2 := hide h2; clear h1 h2 HP) | (go_at_call 9; refine (new_ok n wa hn).mono ?_; rintro e wb ⟨qb, rfl, h1, h2⟩; have H3 := hide h1; have H4 := hide h2; clear h1 h2) | (go_at_call 10; refine (names_ok _).mono ?_; rintro e wn ⟨rfl, rfl⟩))
  obtain ⟨gc, hgc⟩ : ∃ gc, gc = w.heap.size := ⟨_, rfl⟩
  obtain ⟨B, hBB⟩ : ∃ B, B = w.heap.size := ⟨_, rfl⟩
  have HST : Hid (Stand w wn pb gc qb n 0 (.slice none 0 0) (.slice none 0 0) wa.heap.size n enc0 (List.replicate n 1024) 0) := hide (by
    rw [hgc]
    exact ⟨⟨(unhide H1).below (unhide H4), (unhide H3).mono (unhide H2).size, fun b e => by cases e⟩, by simp, (unhide H2).trans ((unhide H4).mono (unhide H2).size), by omega⟩)
  clear H1 H2 H3 H4 hgc hBB
  go_loopg [9] (L + 1) (fun gk d ws => ∃ (i : Nat) (ov ou : Value) (gd cc : Nat) (c : Enc) (ch : List Nat) (k : Nat), i + gk = L + 1 ∧ i ≤ L ∧ d = .int .i64 (i : Int) ∧ Hid (Stand w ws pb gc qb n i ov ou gd cc c ch k))
  case atStart => exact ⟨0, _, _, _, _, _, _, _, by omega, by omega, rfl, HST⟩
  case round =>
    clear HST
    obtain ⟨i, ov, ou, gd, cc, c, ch, k, hi, hiL, rfl, HST⟩ := hrel
    have t0 : (i : Int) ≤ (L : Int) := by omega
    obtain ⟨T, hw⟩ := (unhide HST).two.p.wide
    have hbw := bytes_wide hw
    have hk : k ≤ 80000000000000 := by have := (unhide HST).few; omega
    have HW := hide hw
    have HK : Hid (k ≤ 90000000000000 ∧ (∀ z ∈ bytesE c, z < 256) ∧ (bytesE c).length ≤ 100000000000000) := hide ⟨by omega, hbw.2.2.1, by have := hbw.2.1; omega⟩
    have HB := hide (Below.refl wr.heap.size wr)
    clear hw hbw
    obtain ⟨bl, hbl⟩ : ∃ bl, bl = bytesE c := ⟨_, rfl⟩
    have HBL := hide hbl
    rw [← hbl] at HK
    clear hbl
    go_upto_region 10 with (first | (go_at_call 12; refine (pbytes_ok _ pb _ _ ov c T k ((unhide HST).two.below (unhide HB)).p.pc.enc (unhide HW) (unhide HK).1 _ _ _ rfl).mono ?_; rintro e wy ⟨vx, rfl, h1⟩; rw [← unhide HBL] at h1; obtain ⟨ax, cx, ex⟩ := h1.len; subst ex; have HR1 := hide (row_own (n := 0) rfl h1.own); have HLO := hide (unhide HB).size; have HB := hide ((unhide HB).trans (h1.bel.mono (unhide HB).size)); clear h1) | (go_at_call 13; refine (bytes_ok _ qb _ _ ou c T k ((unhide HST).two.below (unhide HB)).d.ec.enc (unhide HW) (unhide HK).1 _ _ _ rfl).mono ?_; rintro e wz ⟨vy, rfl, h1⟩; rw [← unhide HBL] at h1; obtain ⟨ay, cy, ey⟩ := h1.len; subst ey; have HR1 := hide ((unhide HR1).of_below h1.bel); have HR2 := hide (row_own (n := 0) rfl h1.own); have HB := hide ((unhide HB).trans (h1.bel.mono (unhide HB).size)); clear h1) | (go_at_call 11; refine (spoilt_ok _ _ _ _ _ _ bl _ (unhide HR1) (unhide HR2) (unhide HK).2.1 (unhide HK).2.2).mono ?_; rintro e wq ⟨rfl, h1⟩; have HB := hide (h1.below (unhide HB) (unhide HLO) (unhide HB).size); clear h1))
    go_cut [82] from 61 to 81 (fun v wx => v = .bool false ∧ Hid (Below wr.heap.size wr wx))
    case first =>
      have HQ : Hid (∀ W, Below wr.heap.size wr W → W.cell? ⟨qb, 0, none⟩ = some (.slice (some ⟨gd, 0, none⟩) n cc)) := hide fun W hW => by rw [← (unhide HST).len]; exact ((unhide HST).two.below hW).d.ec.enc.chs
      have HROW : Hid (∀ W, Below wr.heap.size wr W → Row gd (gd + 1) W (.slice (some ⟨gd, 0, none⟩) n cc) .i64 3 ch) := hide fun W hW => by rw [← (unhide HST).len]; exact ((unhide HST).two.below hW).d.ec.row
      by_cases h100 : n < 100
      · have t1 : (n : Int) < 100 := by omega
        have HNN : Hid (ch.length ≤ 65536) := hide (by rw [(unhide HST).len]; exact hn)
        have HNL : Hid (ch.length ≤ 100000000000000) := hide (by rw [(unhide HST).len]; omega)
        have HGL := hide (unhide HST).two.d.ec.chs.lt
        refine wp_region_noPanic ?_
        have HB1 : Hid (Below wr.heap.size wr wq.drew) := hide (unhide HB).drew
        refine wp_region_held_drew (S := fun x => x.cell? ⟨qb, 0, none⟩ = some (.slice (some ⟨gd, 0, none⟩) n cc)) (by kernel_rfl) (unhide HQ _ (unhide HB1)) (fun hHeld => ?_)
        show wpAnyH _ _ _ _ _ _ _ _ wq.drew
        have HB := HB1
        generalize wq.drew = x1 at HB hHeld ⊢
        clear HB1
        refine held_take 0 61 rfl rfl (by kernel_rfl) (by kernel_rfl) (by kernel_rfl) (by rfl) hHeld noPanic_panic (v := ?_) (fun x hSx => ?_) ?_
        rotate_left 1
        · (obtain s0 := hSx; go_simp <;> with_reducible rfl)
        simp only [List.set_cons_zero, List.set_cons_succ]
        refine held_take 1 62 rfl rfl (by kernel_rfl) (by kernel_rfl) (by kernel_rfl) (by rfl) hHeld noPanic_panic (v := ?_) (fun x hSx => ?_) ?_
        rotate_left 1
        · (obtain s0 := hSx; go_simp <;> with_reducible rfl)
        simp only [List.set_cons_zero, List.set_cons_succ]
        refine held_take 2 63 rfl rfl (by kernel_rfl) (by kernel_rfl) (by kernel_rfl) (by rfl) hHeld noPanic_panic (v := ?_) (fun x hSx => ?_) ?_
        rotate_left 1
        · (obtain s0 := hSx; go_simp <;> with_reducible rfl)
        simp only [List.set_cons_zero, List.set_cons_succ]
        refine held_take 3 64 rfl rfl (by kernel_rfl) (by kernel_rfl) (by kernel_rfl) (by rfl) hHeld noPanic_panic (v := ?_) (fun x hSx => ?_) ?_
        rotate_left 1
        · (obtain s0 := hSx; go_simp <;> with_reducible rfl)
        simp only [List.set_cons_zero, List.set_cons_succ]
        refine held_take 5 66 rfl rfl (by kernel_rfl) (by kernel_rfl) (by kernel_rfl) (by rfl) hHeld noPanic_panic (v := ?_) (fun x hSx => ?_) ?_
        rotate_left 1
        · (obtain s0 := hSx; go_simp <;> with_reducible rfl)
        simp only [List.set_cons_zero, List.set_cons_succ]
        refine held_take 6 67 rfl rfl (by kernel_rfl) (by kernel_rfl) (by kernel_rfl) (by rfl) hHeld noPanic_panic (v := ?_) (fun x hSx => ?_) ?_
        rotate_left 1
        · (obtain s0 := hSx; go_simp <;> with_reducible rfl)
        simp only [List.set_cons_zero, List.set_cons_succ]
        refine held_take 7 68 rfl rfl (by kernel_rfl) (by kernel_rfl) (by kernel_rfl) (by rfl) hHeld noPanic_panic (v := ?_) (fun x hSx => ?_) ?_
        rotate_left 1
        · (obtain s0 := hSx; go_simp <;> with_reducible rfl)
        simp only [List.set_cons_zero, List.set_cons_succ]
        refine held_take 8 69 rfl rfl (by kernel_rfl) (by kernel_rfl) (by kernel_rfl) (by rfl) hHeld noPanic_panic (v := ?_) (fun x hSx => ?_) ?_
        rotate_left 1
        · (obtain s0 := hSx; go_simp <;> with_reducible rfl)
        simp only [List.set_cons_zero, List.set_cons_succ]
        refine held_enter 4 65 (by kernel_rfl) rfl rfl (by rfl) (by go_simp <;> exact ⟨rfl, rfl⟩) ?_
        refine (pchances_ok _ pb gc _ ov c ch ((unhide HST).two.below (unhide HB)).p.pc ((unhide HST).two).p.chs (unhide HNN)).mono ?_
        rintro e wy ⟨rfl, h1, h2⟩
        have hR1 := ints_row h1
        rw [(unhide HST).len] at hR1
        have HR1 := hide hR1
        clear hR1
        have HLO := hide (unhide HB).size
        have HB := hide ((unhide HB).trans (h2.mono (unhide HB).size))
        have HGD := hide (Nat.lt_of_lt_of_le (unhide HGL) (unhide HLO))
        clear h1 h2
        rw [(unhide HST).len]
        have hHeld := unhide HQ _ (unhide HB)
        refine ⟨_, rfl, hHeld, ?_⟩
        simp only [List.set_cons_zero, List.set_cons_succ]
        refine held_enter 9 70 (by kernel_rfl) rfl rfl (by rfl) (by go_simp <;> exact ⟨rfl, rfl⟩) ?_
        refine (same_ok _ _ _ _ _ _ ch _ (unhide HR1) (unhide HROW _ (unhide HB)) (.inr (unhide HGD)) (unhide HNL)).mono ?_
        rintro e wq ⟨rfl, h1⟩
        have HB := hide (h1.below (unhide HB) (unhide HLO) (unhide HB).size)
        clear h1
        have hHeld := unhide HQ _ (unhide HB)
        refine ⟨_, rfl, hHeld, ?_⟩
        simp only [List.set_cons_zero, List.set_cons_succ]
        refine held_take 10 71 rfl rfl (by kernel_rfl) (by kernel_rfl) (by kernel_rfl) (by rfl) hHeld noPanic_panic (v := ?_) (fun x hSx => ?_) ?_
        rotate_left 1
        · (obtain s0 := hSx; go_simp <;> with_reducible rfl)
        simp only [List.set_cons_zero, List.set_cons_succ]
        refine held_take 11 72 rfl rfl (by kernel_rfl) (by kernel_rfl) (by kernel_rfl) (by rfl) hHeld noPanic_panic (v := ?_) (fun x hSx => ?_) ?_
        rotate_left 1
        · (obtain s0 := hSx; go_simp <;> with_reducible rfl)
        simp only [List.set_cons_zero, List.set_cons_succ]
        refine held_take 12 73 rfl rfl (by kernel_rfl) (by kernel_rfl) (by kernel_rfl) (by rfl) hHeld noPanic_panic (v := ?_) (fun x hSx => ?_) ?_
        rotate_left 1
        · (obtain s0 := hSx; go_simp <;> with_reducible rfl)
        simp only [List.set_cons_zero, List.set_cons_succ]
        refine held_take 14 75 rfl rfl (by kernel_rfl) (by kernel_rfl) (by kernel_rfl) (by rfl) hHeld noPanic_panic (v := ?_) (fun x hSx => ?_) ?_
        rotate_left 1
        · (obtain s0 := hSx; go_simp <;> with_reducible rfl)
        simp only [List.set_cons_zero, List.set_cons_succ]
        refine held_take 15 76 rfl rfl (by kernel_rfl) (by kernel_rfl) (by kernel_rfl) (by rfl) hHeld noPanic_panic (v := ?_) (fun x hSx => ?_) ?_
        rotate_left 1
        · (obtain s0 := hSx; go_simp <;> with_reducible rfl)
        simp only [List.set_cons_zero, List.set_cons_succ]
        refine held_take 16 77 rfl rfl (by kernel_rfl) (by kernel_rfl) (by kernel_rfl) (by rfl) hHeld noPanic_panic (v := ?_) (fun x hSx => ?_) ?_
        rotate_left 1
        · (obtain s0 := hSx; go_simp <;> with_reducible rfl)
        simp only [List.set_cons_zero, List.set_cons_succ]
        refine held_take 17 78 rfl rfl (by kernel_rfl) (by kernel_rfl) (by kernel_rfl) (by rfl) hHeld noPanic_panic (v := ?_) (fun x hSx => ?_) ?_
        rotate_left 1
        · (obtain s0 := hSx; go_simp <;> with_reducible rfl)
        simp only [List.set_cons_zero, List.set_cons_succ]
        refine held_enter 13 74 (by kernel_rfl) rfl rfl (by rfl) (by go_simp <;> exact ⟨rfl, rfl⟩) ?_
        refine (pchances_ok _ pb gc _ ov c ch ((unhide HST).two.below (unhide HB)).p.pc ((unhide HST).two).p.chs (unhide HNN)).mono ?_
        rintro e wy ⟨rfl, h1, h2⟩
        have hR1 := ints_row h1
        rw [(unhide HST).len] at hR1
        have HR1 := hide hR1
        clear hR1
        have HLO := hide (unhide HB).size
        have HB := hide ((unhide HB).trans (h2.mono (unhide HB).size))
        have HGD := hide (Nat.lt_of_lt_of_le (unhide HGL) (unhide HLO))
        clear h1 h2
        rw [(unhide HST).len]
        have hHeld := unhide HQ _ (unhide HB)
        refine ⟨_, rfl, hHeld, ?_⟩
        simp only [List.set_cons_zero, List.set_cons_succ]
        refine held_enter 18 79 (by kernel_rfl) rfl rfl (by rfl) (by go_simp <;> exact ⟨rfl, rfl⟩) ?_
        refine (same_ok _ _ _ _ _ _ ch _ (unhide HR1) (unhide HROW _ (unhide HB)) (.inr (unhide HGD)) (unhide HNL)).mono ?_
        rintro e wq ⟨rfl, h1⟩
        have HB := hide (h1.below (unhide HB) (unhide HLO) (unhide HB).size)
        clear h1
        have hHeld := unhide HQ _ (unhide HB)
        refine ⟨_, rfl, hHeld, ?_⟩
        simp only [List.set_cons_zero, List.set_cons_succ]
        refine held_take 19 80 rfl rfl (by kernel_rfl) (by kernel_rfl) (by kernel_rfl) (by rfl) hHeld noPanic_panic (v := ?_) (fun x hSx => ?_) ?_
        rotate_left 1
        · (obtain s0 := hSx; go_simp <;> with_reducible rfl)
        simp only [List.set_cons_zero, List.set_cons_succ]
        refine held_take 20 81 rfl rfl (by kernel_rfl) (by kernel_rfl) (by kernel_rfl) (by rfl) hHeld noPanic_panic (v := ?_) (fun x hSx => ?_) ?_
        rotate_left 1
        · (obtain s0 := hSx; go_simp <;> with_reducible rfl)
        simp only [List.set_cons_zero, List.set_cons_succ]
        refine held_take 21 82 rfl rfl (by kernel_rfl) (by kernel_rfl) (by kernel_rfl) (by rfl) hHeld noPanic_panic (v := ?_) (fun x hSx => ?_) ?_
        rotate_left 1
        · (obtain s0 := hSx; go_simp <;> with_reducible rfl)
        simp only [List.set_cons_zero, List.set_cons_succ]
        refine wpAnyH_done (by kernel_rfl) ?_ _
        refine NoPanic.normal ?_
        go_wp2_with fail
        go_meet
        exact ⟨rfl, HB⟩
      · have t1 : ¬ (n : Int) < 100 := by omega
        have d1 : decide ((n : Int) < 100) = false := decide_eq_false t1
        go_quiet (first | fail)
        go_wp2_with fail
        go_meet
        exact ⟨rfl, hide (drewN_below (unhide HB) nq)⟩
    case rest =>
      obtain ⟨rfl, HB2⟩ := hcut
      clear HR1 HR2 HLO HB
      have HB := HB2
      clear HB2
      by_cases hiL2 : i = L
      · subst hiL2
        go_wp2_with fail
        go_ret
        exact ⟨rfl, (unhide HST).bel.trans ((unhide HB).mono (unhide HST).bel.size)⟩
      · have t3 : ¬ (i : Int) = (L : Int) := by omega
        have t4 : (i : Int) < (L : Int) := by omega
        obtain rfl := unhide HAL (by omega)
        have hAc := (unhide HA).below ((unhide HST).bel.trans ((unhide HB).mono (unhide HST).bel.size) |>.mono (Nat.le_refl _))
        have a0' := hAc.ck i (by omega)
        have a1' := hAc.cb i (by omega)
        have a2' := hAc.cv i (by omega)
        have a3' := hAc.cn i (by omega)
        have a4' := hAc.cl i (by omega)
        have HSR := hide (hAc.rd i (by omega))
        have hSR0 := (unhide HA).rd i (by omega)
        have HLS := hide (hAc.len i (by omega))
        have HBS := hide (hAc.bs i (by omega))
        clear hAc
        generalize A i = x at a0' a1' a2' a3' a4' HSR HLS HBS hSR0
        obtain ⟨kd, bs, v, m, lp, lc, ls⟩ := x
        simp only at a0' a1' a2' a3' a4' HSR HLS HBS hSR0
        have HSR0 := hide hSR0
        clear hSR0
        obtain ⟨ll, hll⟩ : ∃ ll, ll = ls.length := ⟨_, rfl⟩
        rw [← hll] at a4'
        have HLL := hide hll
        clear hll
        go_upto_region 15 with fail
        have HAA0 : Hid ((wc.alloc (.cells #[.int .i64 kd, .int .i64 bs, .int .i64 v, .int .i64 m, .slice lp ll lc] 41)).heap[wc.heap.size]? = some (.cells #[.int .i64 kd, .int .i64 bs, .int .i64 v, .int .i64 m, .slice lp ll lc] 41 (0, 0))) := hide (heap_alloc_new _ _)
        have HBW : Hid (Below wr.heap.size wr (wc.alloc (.cells #[.int .i64 kd, .int .i64 bs, .int .i64 v, .int .i64 m, .slice lp ll lc] 41))) := hide ((unhide HB).alloc (unhide HB).size _)
        have HSR1 : Hid (SrcI (wc.alloc (.cells #[.int .i64 kd, .int .i64 bs, .int .i64 v, .int .i64 m, .slice lp ll lc] 41)) lp lc ls) := hide ((unhide HSR).stays ((Below.refl _ _).alloc (Nat.le_refl _) _))
        obtain ⟨ga, hga⟩ : ∃ ga, ga = wc.heap.size := ⟨_, rfl⟩
        rw [← hga] at HAA0 ⊢
        obtain ⟨W1, hW1⟩ : ∃ W1, W1 = wc.alloc (.cells #[.int .i64 kd, .int .i64 bs, .int .i64 v, .int .i64 m, .slice lp ll lc] 41) := ⟨_, rfl⟩
        rw [← hW1] at HAA0 HBW HSR1 ⊢
        clear hW1 hga a0' a1' a2' a3' a4' HSR HB
        have HAA := HAA0
        have HT1 := hide ((unhide HST).two.below (unhide HBW))
        have HB1 : Hid (Below w.heap.size w W1) := hide ((unhide HST).bel.trans ((unhide HBW).mono (unhide HST).bel.size))
        have hnc : ch.length ≤ 65536 := by rw [(unhide HST).len]; exact hn
        have z0 : W1.cell? ⟨ga, 0, none⟩ = some (.int .i64 kd) := by simp [World.cell?, unhide HAA]
        by_cases hk0 : kd = 0
        · subst hk0
          obtain ⟨r, c1, ch1, hch1, hbo⟩ := both_bit (B := w.heap.size) (pb := pb) (gc := gc) (qb := qb) (gd := gd) (cc := cc) (c := c) (ch := ch) (k := k) bs v hk
          have HBO := hide hbo
          have HCH := hide hch1
          clear hbo hch1
          go_upto_region 17 with fail
          refine wp_region_noPanic ?_
          have HT : Hid (Two w.heap.size W1.drew pb gc ov c ch k qb gd cc ou c ch k) := hide ((unhide HT1).below (drewN_below (Below.refl _ _) 1))
          have HBE : Hid (Below w.heap.size w W1.drew) := hide (unhide HB1).drew
          refine wp_region_held_drew (S := fun x => x.heap[ga]? = some (.cells #[.int .i64 0, .int .i64 bs, .int .i64 v, .int .i64 m, .slice lp ll lc] 41 (0, 0))) (by kernel_rfl) (unhide HAA) (fun hHeld => ?_)
          show wpAnyH _ _ _ _ _ _ _ _ W1.drew
          generalize W1.drew = x1 at HT HBE hHeld ⊢
          refine held_take 0 95 rfl rfl (by kernel_rfl) (by kernel_rfl) (by kernel_rfl) (by rfl) hHeld noPanic_panic (v := ?_) (fun x hSx => ?_) ?_
          rotate_left 1
          · (obtain ⟨s1, s2, s3⟩ := act_cells hSx; go_simp <;> with_reducible rfl)
          simp only [List.set_cons_zero, List.set_cons_succ]
          refine held_take 1 96 rfl rfl (by kernel_rfl) (by kernel_rfl) (by kernel_rfl) (by rfl) hHeld noPanic_panic (v := ?_) (fun x hSx => ?_) ?_
          rotate_left 1
          · (obtain ⟨s1, s2, s3⟩ := act_cells hSx; go_simp <;> with_reducible rfl)
          simp only [List.set_cons_zero, List.set_cons_succ]
          refine held_take 2 97 rfl rfl (by kernel_rfl) (by kernel_rfl) (by kernel_rfl) (by rfl) hHeld noPanic_panic (v := ?_) (fun x hSx => ?_) ?_
          rotate_left 1
          · (obtain ⟨s1, s2, s3⟩ := act_cells hSx; go_simp <;> with_reducible rfl)
          simp only [List.set_cons_zero, List.set_cons_succ]
          refine held_take 3 98 rfl rfl (by kernel_rfl) (by kernel_rfl) (by kernel_rfl) (by rfl) hHeld noPanic_panic (v := ?_) (fun x hSx => ?_) ?_
          rotate_left 1
          · (obtain ⟨s1, s2, s3⟩ := act_cells hSx; go_simp <;> with_reducible rfl)
          simp only [List.set_cons_zero, List.set_cons_succ]
          refine held_take 4 99 rfl rfl (by kernel_rfl) (by kernel_rfl) (by kernel_rfl) (by rfl) hHeld noPanic_panic (v := ?_) (fun x hSx => ?_) ?_
          rotate_left 1
          · (obtain ⟨s1, s2, s3⟩ := act_cells hSx; go_simp <;> with_reducible rfl)
          simp only [List.set_cons_zero, List.set_cons_succ]
          refine held_take 6 101 rfl rfl (by kernel_rfl) (by kernel_rfl) (by kernel_rfl) (by rfl) hHeld noPanic_panic (v := ?_) (fun x hSx => ?_) ?_
          rotate_left 1
          · (obtain ⟨s1, s2, s3⟩ := act_cells hSx; go_simp <;> with_reducible rfl)
          simp only [List.set_cons_zero, List.set_cons_succ]
          refine held_take 7 102 rfl rfl (by kernel_rfl) (by kernel_rfl) (by kernel_rfl) (by rfl) hHeld noPanic_panic (v := ?_) (fun x hSx => ?_) ?_
          rotate_left 1
          · (obtain ⟨s1, s2, s3⟩ := act_cells hSx; go_simp <;> with_reducible rfl)
          simp only [List.set_cons_zero, List.set_cons_succ]
          refine held_take 8 103 rfl rfl (by kernel_rfl) (by kernel_rfl) (by kernel_rfl) (by rfl) hHeld noPanic_panic (v := ?_) (fun x hSx => ?_) ?_
          rotate_left 1
          · (obtain ⟨s1, s2, s3⟩ := act_cells hSx; go_simp <;> with_reducible rfl)
          simp only [List.set_cons_zero, List.set_cons_succ]
          refine held_take 9 104 rfl rfl (by kernel_rfl) (by kernel_rfl) (by kernel_rfl) (by rfl) hHeld noPanic_panic (v := ?_) (fun x hSx => ?_) ?_
          rotate_left 1
          · (obtain ⟨s1, s2, s3⟩ := act_cells hSx; go_simp <;> with_reducible rfl)
          simp only [List.set_cons_zero, List.set_cons_succ]
          refine held_take 10 105 rfl rfl (by kernel_rfl) (by kernel_rfl) (by kernel_rfl) (by rfl) hHeld noPanic_panic (v := ?_) (fun x hSx => ?_) ?_
          rotate_left 1
          · (obtain ⟨s1, s2, s3⟩ := act_cells hSx; go_simp <;> with_reducible rfl)
          simp only [List.set_cons_zero, List.set_cons_succ]
          refine held_enter 5 100 (by kernel_rfl) rfl rfl (by rfl) (by go_simp <;> exact ⟨rfl, rfl⟩) ?_
          refine ((unhide HBO).1 _ _ (unhide HT).p).mono ?_
          rintro e w5 ⟨rfl, ov5, k5, h5, h6, h7⟩
          have HTB := hide ((unhide HT).p.pc.tch (unhide HBE) h7)
          have HT5 := hide ((unhide HT).stepP h5 h7)
          have H6 := hide h6
          have hHeld := (unhide HT).p.pc.other h7 hHeld (by decide) (by decide) (by decide)
          refine ⟨_, rfl, hHeld, ?_⟩
          simp only [List.set_cons_zero, List.set_cons_succ]
          clear HBE h5 h6
          refine held_enter 11 106 (by kernel_rfl) rfl rfl (by rfl) (by go_simp <;> exact ⟨rfl, rfl⟩) ?_
          refine ((unhide HBO).2 _ _ (unhide HT5).d).mono ?_
          rintro e w6 ⟨rfl, ou6, k6, h8, h9, h10⟩
          have HTB6 := hide ((unhide HT5).tchD (unhide HTB) h10)
          have HT6 := hide ((unhide HT5).stepD h8 h10)
          clear h8 h9
          have hHeld := (unhide HT5).d.ec.other h10 hHeld (by decide) (by decide) (by decide)
          refine ⟨_, rfl, hHeld, ?_⟩
          simp only [List.set_cons_zero, List.set_cons_succ]
          refine held_take 12 11 rfl rfl (by kernel_rfl) (by kernel_rfl) (by kernel_rfl) (by rfl) hHeld noPanic_panic (v := ?_) (fun x hSx => ?_) ?_
          rotate_left 1
          · (obtain ⟨s1, s2, s3⟩ := act_cells hSx; go_simp <;> with_reducible rfl)
          simp only [List.set_cons_zero, List.set_cons_succ]
          refine held_take 13 12 rfl rfl (by kernel_rfl) (by kernel_rfl) (by kernel_rfl) (by rfl) hHeld noPanic_panic (v := ?_) (fun x hSx => ?_) ?_
          rotate_left 1
          · (obtain ⟨s1, s2, s3⟩ := act_cells hSx; go_simp <;> with_reducible rfl)
          simp only [List.set_cons_zero, List.set_cons_succ]
          refine wpAnyH_done (by kernel_rfl) ?_ _
          refine NoPanic.normal ?_
          have HFIN : Hid (∃ (ov ou : Value) (gd cc : Nat) (c : Enc) (ch : List Nat) (k : Nat), Stand w w6 pb gc qb n (i + 1) ov ou gd cc c ch k) := hide (by
            obtain ⟨T1, g1⟩ := (unhide HT6).p.wide
            obtain ⟨T2, g2⟩ := (unhide HT6).d.wide
            obtain rfl := wide_k g1 g2
            exact ⟨_, _, _, _, _, _, _, unhide HT6, (unhide HCH).trans (unhide HST).len, unhide HTB6, by have := (unhide HST).few; have := unhide H6; omega⟩)
          clear HT HT5 HT6 HTB HTB6 HBO HCH h7 h10 hHeld
          go_wp2_with fail
          go_roundg (L - i)
          case measure => omega
          case rel =>
            obtain ⟨ov', ou', gd', cc', c', ch', k', h⟩ := unhide HFIN
            exact ⟨i + 1, ov', ou', gd', cc', c', ch', k', by omega, by omega, by go_num, hide h⟩
        by_cases hk1 : kd = 1
        · subst hk1
          obtain ⟨r, c1, ch1, hch1, hbo⟩ := both_direct (B := w.heap.size) (pb := pb) (gc := gc) (qb := qb) (gd := gd) (cc := cc) (c := c) (ch := ch) (k := k) v m hk
          have HBO := hide hbo
          have HCH := hide hch1
          clear hbo hch1
          go_upto_region 19 with fail
          refine wp_region_noPanic ?_
          have HT : Hid (Two w.heap.size W1.drew pb gc ov c ch k qb gd cc ou c ch k) := hide ((unhide HT1).below (drewN_below (Below.refl _ _) 1))
          have HBE : Hid (Below w.heap.size w W1.drew) := hide (unhide HB1).drew
          refine wp_region_held_drew (S := fun x => x.heap[ga]? = some (.cells #[.int .i64 1, .int .i64 bs, .int .i64 v, .int .i64 m, .slice lp ll lc] 41 (0, 0))) (by kernel_rfl) (unhide HAA) (fun hHeld => ?_)
          show wpAnyH _ _ _ _ _ _ _ _ W1.drew
          generalize W1.drew = x1 at HT HBE hHeld ⊢
          refine held_take 0 109 rfl rfl (by kernel_rfl) (by kernel_rfl) (by kernel_rfl) (by rfl) hHeld noPanic_panic (v := ?_) (fun x hSx => ?_) ?_
          rotate_left 1
          · (obtain ⟨s1, s2, s3⟩ := act_cells hSx; go_simp <;> with_reducible rfl)
          simp only [List.set_cons_zero, List.set_cons_succ]
          refine held_take 1 110 rfl rfl (by kernel_rfl) (by kernel_rfl) (by kernel_rfl) (by rfl) hHeld noPanic_panic (v := ?_) (fun x hSx => ?_) ?_
          rotate_left 1
          · (obtain ⟨s1, s2, s3⟩ := act_cells hSx; go_simp <;> with_reducible rfl)
          simp only [List.set_cons_zero, List.set_cons_succ]
          refine held_take 2 111 rfl rfl (by kernel_rfl) (by kernel_rfl) (by kernel_rfl) (by rfl) hHeld noPanic_panic (v := ?_) (fun x hSx => ?_) ?_
          rotate_left 1
          · (obtain ⟨s1, s2, s3⟩ := act_cells hSx; go_simp <;> with_reducible rfl)
          simp only [List.set_cons_zero, List.set_cons_succ]
          refine held_take 3 112 rfl rfl (by kernel_rfl) (by kernel_rfl) (by kernel_rfl) (by rfl) hHeld noPanic_panic (v := ?_) (fun x hSx => ?_) ?_
          rotate_left 1
          · (obtain ⟨s1, s2, s3⟩ := act_cells hSx; go_simp <;> with_reducible rfl)
          simp only [List.set_cons_zero, List.set_cons_succ]
          refine held_take 4 113 rfl rfl (by kernel_rfl) (by kernel_rfl) (by kernel_rfl) (by rfl) hHeld noPanic_panic (v := ?_) (fun x hSx => ?_) ?_
          rotate_left 1
          · (obtain ⟨s1, s2, s3⟩ := act_cells hSx; go_simp <;> with_reducible rfl)
          simp only [List.set_cons_zero, List.set_cons_succ]
          refine held_take 6 115 rfl rfl (by kernel_rfl) (by kernel_rfl) (by kernel_rfl) (by rfl) hHeld noPanic_panic (v := ?_) (fun x hSx => ?_) ?_
          rotate_left 1
          · (obtain ⟨s1, s2, s3⟩ := act_cells hSx; go_simp <;> with_reducible rfl)
          simp only [List.set_cons_zero, List.set_cons_succ]
          refine held_take 7 116 rfl rfl (by kernel_rfl) (by kernel_rfl) (by kernel_rfl) (by rfl) hHeld noPanic_panic (v := ?_) (fun x hSx => ?_) ?_
          rotate_left 1
          · (obtain ⟨s1, s2, s3⟩ := act_cells hSx; go_simp <;> with_reducible rfl)
          simp only [List.set_cons_zero, List.set_cons_succ]
          refine held_take 8 117 rfl rfl (by kernel_rfl) (by kernel_rfl) (by kernel_rfl) (by rfl) hHeld noPanic_panic (v := ?_) (fun x hSx => ?_) ?_
          rotate_left 1
          · (obtain ⟨s1, s2, s3⟩ := act_cells hSx; go_simp <;> with_reducible rfl)
          simp only [List.set_cons_zero, List.set_cons_succ]
          refine held_take 9 118 rfl rfl (by kernel_rfl) (by kernel_rfl) (by kernel_rfl) (by rfl) hHeld noPanic_panic (v := ?_) (fun x hSx => ?_) ?_
          rotate_left 1
          · (obtain ⟨s1, s2, s3⟩ := act_cells hSx; go_simp <;> with_reducible rfl)
          simp only [List.set_cons_zero, List.set_cons_succ]
          refine held_take 10 119 rfl rfl (by kernel_rfl) (by kernel_rfl) (by kernel_rfl) (by rfl) hHeld noPanic_panic (v := ?_) (fun x hSx => ?_) ?_
          rotate_left 1
          · (obtain ⟨s1, s2, s3⟩ := act_cells hSx; go_simp <;> with_reducible rfl)
          simp only [List.set_cons_zero, List.set_cons_succ]
          refine held_enter 5 114 (by kernel_rfl) rfl rfl (by rfl) (by go_simp <;> exact ⟨rfl, rfl⟩) ?_
          refine ((unhide HBO).1 _ _ (unhide HT).p).mono ?_
          rintro e w5 ⟨rfl, ov5, k5, h5, h6, h7⟩
          have HTB := hide ((unhide HT).p.pc.tch (unhide HBE) h7)
          have HT5 := hide ((unhide HT).stepP h5 h7)
          have H6 := hide h6
          have hHeld := (unhide HT).p.pc.other h7 hHeld (by decide) (by decide) (by decide)
          refine ⟨_, rfl, hHeld, ?_⟩
          simp only [List.set_cons_zero, List.set_cons_succ]
          clear HBE h5 h6
          refine held_enter 11 120 (by kernel_rfl) rfl rfl (by rfl) (by go_simp <;> exact ⟨rfl, rfl⟩) ?_
          refine ((unhide HBO).2 _ _ (unhide HT5).d).mono ?_
          rintro e w6 ⟨rfl, ou6, k6, h8, h9, h10⟩
          have HTB6 := hide ((unhide HT5).tchD (unhide HTB) h10)
          have HT6 := hide ((unhide HT5).stepD h8 h10)
          clear h8 h9
          have hHeld := (unhide HT5).d.ec.other h10 hHeld (by decide) (by decide) (by decide)
          refine ⟨_, rfl, hHeld, ?_⟩
          simp only [List.set_cons_zero, List.set_cons_succ]
          refine held_take 12 11 rfl rfl (by kernel_rfl) (by kernel_rfl) (by kernel_rfl) (by rfl) hHeld noPanic_panic (v := ?_) (fun x hSx => ?_) ?_
          rotate_left 1
          · (obtain ⟨s1, s2, s3⟩ := act_cells hSx; go_simp <;> with_reducible rfl)
          simp only [List.set_cons_zero, List.set_cons_succ]
          refine held_take 13 12 rfl rfl (by kernel_rfl) (by kernel_rfl) (by kernel_rfl) (by rfl) hHeld noPanic_panic (v := ?_) (fun x hSx => ?_) ?_
          rotate_left 1
          · (obtain ⟨s1, s2, s3⟩ := act_cells hSx; go_simp <;> with_reducible rfl)
          simp only [List.set_cons_zero, List.set_cons_succ]
          refine wpAnyH_done (by kernel_rfl) ?_ _
          refine NoPanic.normal ?_
          have HFIN : Hid (∃ (ov ou : Value) (gd cc : Nat) (c : Enc) (ch : List Nat) (k : Nat), Stand w w6 pb gc qb n (i + 1) ov ou gd cc c ch k) := hide (by
            obtain ⟨T1, g1⟩ := (unhide HT6).p.wide
            obtain ⟨T2, g2⟩ := (unhide HT6).d.wide
            obtain rfl := wide_k g1 g2
            exact ⟨_, _, _, _, _, _, _, unhide HT6, (unhide HCH).trans (unhide HST).len, unhide HTB6, by have := (unhide HST).few; have := unhide H6; omega⟩)
          clear HT HT5 HT6 HTB HTB6 HBO HCH h7 h10 hHeld
          go_wp2_with fail
          go_roundg (L - i)
          case measure => omega
          case rel =>
            obtain ⟨ov', ou', gd', cc', c', ch', k', h⟩ := unhide HFIN
            exact ⟨i + 1, ov', ou', gd', cc', c', ch', k', by omega, by omega, by go_num, hide h⟩
        by_cases hk2 : kd = 2
        · subst hk2
          obtain ⟨r, c1, ch1, hch1, hbo⟩ := both_tree (B := w.heap.size) (pb := pb) (gc := gc) (qb := qb) (gd := gd) (cc := cc) (c := c) (ch := ch) (k := k) bs v m hk hnc (unhide HBS)
          have HBO := hide hbo
          have HCH := hide hch1
          clear hbo hch1
          go_upto_region 21 with fail
          refine wp_region_noPanic ?_
          have HT : Hid (Two w.heap.size W1.drew pb gc ov c ch k qb gd cc ou c ch k) := hide ((unhide HT1).below (drewN_below (Below.refl _ _) 1))
          have HBE : Hid (Below w.heap.size w W1.drew) := hide (unhide HB1).drew
          refine wp_region_held_drew (S := fun x => x.heap[ga]? = some (.cells #[.int .i64 2, .int .i64 bs, .int .i64 v, .int .i64 m, .slice lp ll lc] 41 (0, 0))) (by kernel_rfl) (unhide HAA) (fun hHeld => ?_)
          show wpAnyH _ _ _ _ _ _ _ _ W1.drew
          generalize W1.drew = x1 at HT HBE hHeld ⊢
          refine held_take 0 123 rfl rfl (by kernel_rfl) (by kernel_rfl) (by kernel_rfl) (by rfl) hHeld noPanic_panic (v := ?_) (fun x hSx => ?_) ?_
          rotate_left 1
          · (obtain ⟨s1, s2, s3⟩ := act_cells hSx; go_simp <;> with_reducible rfl)
          simp only [List.set_cons_zero, List.set_cons_succ]
          refine held_take 1 124 rfl rfl (by kernel_rfl) (by kernel_rfl) (by kernel_rfl) (by rfl) hHeld noPanic_panic (v := ?_) (fun x hSx => ?_) ?_
          rotate_left 1
          · (obtain ⟨s1, s2, s3⟩ := act_cells hSx; go_simp <;> with_reducible rfl)
          simp only [List.set_cons_zero, List.set_cons_succ]
          refine held_take 2 125 rfl rfl (by kernel_rfl) (by kernel_rfl) (by kernel_rfl) (by rfl) hHeld noPanic_panic (v := ?_) (fun x hSx => ?_) ?_
          rotate_left 1
          · (obtain ⟨s1, s2, s3⟩ := act_cells hSx; go_simp <;> with_reducible rfl)
          simp only [List.set_cons_zero, List.set_cons_succ]
          refine held_take 3 126 rfl rfl (by kernel_rfl) (by kernel_rfl) (by kernel_rfl) (by rfl) hHeld noPanic_panic (v := ?_) (fun x hSx => ?_) ?_
          rotate_left 1
          · (obtain ⟨s1, s2, s3⟩ := act_cells hSx; go_simp <;> with_reducible rfl)
          simp only [List.set_cons_zero, List.set_cons_succ]
          refine held_take 4 127 rfl rfl (by kernel_rfl) (by kernel_rfl) (by kernel_rfl) (by rfl) hHeld noPanic_panic (v := ?_) (fun x hSx => ?_) ?_
          rotate_left 1
          · (obtain ⟨s1, s2, s3⟩ := act_cells hSx; go_simp <;> with_reducible rfl)
          simp only [List.set_cons_zero, List.set_cons_succ]
          refine held_take 5 128 rfl rfl (by kernel_rfl) (by kernel_rfl) (by kernel_rfl) (by rfl) hHeld noPanic_panic (v := ?_) (fun x hSx => ?_) ?_
          rotate_left 1
          · (obtain ⟨s1, s2, s3⟩ := act_cells hSx; go_simp <;> with_reducible rfl)
          simp only [List.set_cons_zero, List.set_cons_succ]
          refine held_take 6 129 rfl rfl (by kernel_rfl) (by kernel_rfl) (by kernel_rfl) (by rfl) hHeld noPanic_panic (v := ?_) (fun x hSx => ?_) ?_
          rotate_left 1
          · (obtain ⟨s1, s2, s3⟩ := act_cells hSx; go_simp <;> with_reducible rfl)
          simp only [List.set_cons_zero, List.set_cons_succ]
          refine held_take 8 131 rfl rfl (by kernel_rfl) (by kernel_rfl) (by kernel_rfl) (by rfl) hHeld noPanic_panic (v := ?_) (fun x hSx => ?_) ?_
          rotate_left 1
          · (obtain ⟨s1, s2, s3⟩ := act_cells hSx; go_simp <;> with_reducible rfl)
          simp only [List.set_cons_zero, List.set_cons_succ]
          refine held_take 9 132 rfl rfl (by kernel_rfl) (by kernel_rfl) (by kernel_rfl) (by rfl) hHeld noPanic_panic (v := ?_) (fun x hSx => ?_) ?_
          rotate_left 1
          · (obtain ⟨s1, s2, s3⟩ := act_cells hSx; go_simp <;> with_reducible rfl)
          simp only [List.set_cons_zero, List.set_cons_succ]
          refine held_take 10 133 rfl rfl (by kernel_rfl) (by kernel_rfl) (by kernel_rfl) (by rfl) hHeld noPanic_panic (v := ?_) (fun x hSx => ?_) ?_
          rotate_left 1
          · (obtain ⟨s1, s2, s3⟩ := act_cells hSx; go_simp <;> with_reducible rfl)
          simp only [List.set_cons_zero, List.set_cons_succ]
          refine held_take 11 134 rfl rfl (by kernel_rfl) (by kernel_rfl) (by kernel_rfl) (by rfl) hHeld noPanic_panic (v := ?_) (fun x hSx => ?_) ?_
          rotate_left 1
          · (obtain ⟨s1, s2, s3⟩ := act_cells hSx; go_simp <;> with_reducible rfl)
          simp only [List.set_cons_zero, List.set_cons_succ]
          refine held_take 12 135 rfl rfl (by kernel_rfl) (by kernel_rfl) (by kernel_rfl) (by rfl) hHeld noPanic_panic (v := ?_) (fun x hSx => ?_) ?_
          rotate_left 1
          · (obtain ⟨s1, s2, s3⟩ := act_cells hSx; go_simp <;> with_reducible rfl)
          simp only [List.set_cons_zero, List.set_cons_succ]
          refine held_take 13 136 rfl rfl (by kernel_rfl) (by kernel_rfl) (by kernel_rfl) (by rfl) hHeld noPanic_panic (v := ?_) (fun x hSx => ?_) ?_
          rotate_left 1
          · (obtain ⟨s1, s2, s3⟩ := act_cells hSx; go_simp <;> with_reducible rfl)
          simp only [List.set_cons_zero, List.set_cons_succ]
          refine held_take 14 137 rfl rfl (by kernel_rfl) (by kernel_rfl) (by kernel_rfl) (by rfl) hHeld noPanic_panic (v := ?_) (fun x hSx => ?_) ?_
          rotate_left 1
          · (obtain ⟨s1, s2, s3⟩ := act_cells hSx; go_simp <;> with_reducible rfl)
          simp only [List.set_cons_zero, List.set_cons_succ]
          refine held_enter 7 130 (by kernel_rfl) rfl rfl (by rfl) (by go_simp <;> exact ⟨rfl, rfl⟩) ?_
          refine ((unhide HBO).1 _ _ (unhide HT).p).mono ?_
          rintro e w5 ⟨rfl, ov5, k5, h5, h6, h7⟩
          have HTB := hide ((unhide HT).p.pc.tch (unhide HBE) h7)
          have HT5 := hide ((unhide HT).stepP h5 h7)
          have H6 := hide h6
          have hHeld := (unhide HT).p.pc.other h7 hHeld (by decide) (by decide) (by decide)
          refine ⟨_, rfl, hHeld, ?_⟩
          simp only [List.set_cons_zero, List.set_cons_succ]
          clear HBE h5 h6
          refine held_enter 15 138 (by kernel_rfl) rfl rfl (by rfl) (by go_simp <;> exact ⟨rfl, rfl⟩) ?_
          refine ((unhide HBO).2 _ _ (unhide HT5).d).mono ?_
          rintro e w6 ⟨rfl, ou6, k6, h8, h9, h10⟩
          have HTB6 := hide ((unhide HT5).tchD (unhide HTB) h10)
          have HT6 := hide ((unhide HT5).stepD h8 h10)
          clear h8 h9
          have hHeld := (unhide HT5).d.ec.other h10 hHeld (by decide) (by decide) (by decide)
          refine ⟨_, rfl, hHeld, ?_⟩
          simp only [List.set_cons_zero, List.set_cons_succ]
          refine held_take 16 11 rfl rfl (by kernel_rfl) (by kernel_rfl) (by kernel_rfl) (by rfl) hHeld noPanic_panic (v := ?_) (fun x hSx => ?_) ?_
          rotate_left 1
          · (obtain ⟨s1, s2, s3⟩ := act_cells hSx; go_simp <;> with_reducible rfl)
          simp only [List.set_cons_zero, List.set_cons_succ]
          refine held_take 17 12 rfl rfl (by kernel_rfl) (by kernel_rfl) (by kernel_rfl) (by rfl) hHeld noPanic_panic (v := ?_) (fun x hSx => ?_) ?_
          rotate_left 1
          · (obtain ⟨s1, s2, s3⟩ := act_cells hSx; go_simp <;> with_reducible rfl)
          simp only [List.set_cons_zero, List.set_cons_succ]
          refine wpAnyH_done (by kernel_rfl) ?_ _
          refine NoPanic.normal ?_
          have HFIN : Hid (∃ (ov ou : Value) (gd cc : Nat) (c : Enc) (ch : List Nat) (k : Nat), Stand w w6 pb gc qb n (i + 1) ov ou gd cc c ch k) := hide (by
            obtain ⟨T1, g1⟩ := (unhide HT6).p.wide
            obtain ⟨T2, g2⟩ := (unhide HT6).d.wide
            obtain rfl := wide_k g1 g2
            exact ⟨_, _, _, _, _, _, _, unhide HT6, (unhide HCH).trans (unhide HST).len, unhide HTB6, by have := (unhide HST).few; have := unhide H6; omega⟩)
          clear HT HT5 HT6 HTB HTB6 HBO HCH h7 h10 hHeld
          go_wp2_with fail
          go_roundg (L - i)
          case measure => omega
          case rel =>
            obtain ⟨ov', ou', gd', cc', c', ch', k', h⟩ := unhide HFIN
            exact ⟨i + 1, ov', ou', gd', cc', c', ch', k', by omega, by omega, by go_num, hide h⟩
        by_cases hk3 : kd = 3
        · subst hk3
          obtain ⟨r, c1, ch1, hch1, hbo⟩ := both_rev (B := w.heap.size) (pb := pb) (gc := gc) (qb := qb) (gd := gd) (cc := cc) (c := c) (ch := ch) (k := k) bs v m hk hnc (unhide HBS)
          have HBO := hide hbo
          have HCH := hide hch1
          clear hbo hch1
          go_upto_region 23 with fail
          refine wp_region_noPanic ?_
          have HT : Hid (Two w.heap.size W1.drew pb gc ov c ch k qb gd cc ou c ch k) := hide ((unhide HT1).below (drewN_below (Below.refl _ _) 1))
          have HBE : Hid (Below w.heap.size w W1.drew) := hide (unhide HB1).drew
          refine wp_region_held_drew (S := fun x => x.heap[ga]? = some (.cells #[.int .i64 3, .int .i64 bs, .int .i64 v, .int .i64 m, .slice lp ll lc] 41 (0, 0))) (by kernel_rfl) (unhide HAA) (fun hHeld => ?_)
          show wpAnyH _ _ _ _ _ _ _ _ W1.drew
          generalize W1.drew = x1 at HT HBE hHeld ⊢
          refine held_take 0 141 rfl rfl (by kernel_rfl) (by kernel_rfl) (by kernel_rfl) (by rfl) hHeld noPanic_panic (v := ?_) (fun x hSx => ?_) ?_
          rotate_left 1
          · (obtain ⟨s1, s2, s3⟩ := act_cells hSx; go_simp <;> with_reducible rfl)
          simp only [List.set_cons_zero, List.set_cons_succ]
          refine held_take 1 142 rfl rfl (by kernel_rfl) (by kernel_rfl) (by kernel_rfl) (by rfl) hHeld noPanic_panic (v := ?_) (fun x hSx => ?_) ?_
          rotate_left 1
          · (obtain ⟨s1, s2, s3⟩ := act_cells hSx; go_simp <;> with_reducible rfl)
          simp only [List.set_cons_zero, List.set_cons_succ]
          refine held_take 2 143 rfl rfl (by kernel_rfl) (by kernel_rfl) (by kernel_rfl) (by rfl) hHeld noPanic_panic (v := ?_) (fun x hSx => ?_) ?_
          rotate_left 1
          · (obtain ⟨s1, s2, s3⟩ := act_cells hSx; go_simp <;> with_reducible rfl)
          simp only [List.set_cons_zero, List.set_cons_succ]
          refine held_take 3 144 rfl rfl (by kernel_rfl) (by kernel_rfl) (by kernel_rfl) (by rfl) hHeld noPanic_panic (v := ?_) (fun x hSx => ?_) ?_
          rotate_left 1
          · (obtain ⟨s1, s2, s3⟩ := act_cells hSx; go_simp <;> with_reducible rfl)
          simp only [List.set_cons_zero, List.set_cons_succ]
          refine held_take 4 145 rfl rfl (by kernel_rfl) (by kernel_rfl) (by kernel_rfl) (by rfl) hHeld noPanic_panic (v := ?_) (fun x hSx => ?_) ?_
          rotate_left 1
          · (obtain ⟨s1, s2, s3⟩ := act_cells hSx; go_simp <;> with_reducible rfl)
          simp only [List.set_cons_zero, List.set_cons_succ]
          refine held_take 5 146 rfl rfl (by kernel_rfl) (by kernel_rfl) (by kernel_rfl) (by rfl) hHeld noPanic_panic (v := ?_) (fun x hSx => ?_) ?_
          rotate_left 1
          · (obtain ⟨s1, s2, s3⟩ := act_cells hSx; go_simp <;> with_reducible rfl)
          simp only [List.set_cons_zero, List.set_cons_succ]
          refine held_take 6 147 rfl rfl (by kernel_rfl) (by kernel_rfl) (by kernel_rfl) (by rfl) hHeld noPanic_panic (v := ?_) (fun x hSx => ?_) ?_
          rotate_left 1
          · (obtain ⟨s1, s2, s3⟩ := act_cells hSx; go_simp <;> with_reducible rfl)
          simp only [List.set_cons_zero, List.set_cons_succ]
          refine held_take 8 149 rfl rfl (by kernel_rfl) (by kernel_rfl) (by kernel_rfl) (by rfl) hHeld noPanic_panic (v := ?_) (fun x hSx => ?_) ?_
          rotate_left 1
          · (obtain ⟨s1, s2, s3⟩ := act_cells hSx; go_simp <;> with_reducible rfl)
          simp only [List.set_cons_zero, List.set_cons_succ]
          refine held_take 9 150 rfl rfl (by kernel_rfl) (by kernel_rfl) (by kernel_rfl) (by rfl) hHeld noPanic_panic (v := ?_) (fun x hSx => ?_) ?_
          rotate_left 1
          · (obtain ⟨s1, s2, s3⟩ := act_cells hSx; go_simp <;> with_reducible rfl)
          simp only [List.set_cons_zero, List.set_cons_succ]
          refine held_take 10 151 rfl rfl (by kernel_rfl) (by kernel_rfl) (by kernel_rfl) (by rfl) hHeld noPanic_panic (v := ?_) (fun x hSx => ?_) ?_
          rotate_left 1
          · (obtain ⟨s1, s2, s3⟩ := act_cells hSx; go_simp <;> with_reducible rfl)
          simp only [List.set_cons_zero, List.set_cons_succ]
          refine held_take 11 152 rfl rfl (by kernel_rfl) (by kernel_rfl) (by kernel_rfl) (by rfl) hHeld noPanic_panic (v := ?_) (fun x hSx => ?_) ?_
          rotate_left 1
          · (obtain ⟨s1, s2, s3⟩ := act_cells hSx; go_simp <;> with_reducible rfl)
          simp only [List.set_cons_zero, List.set_cons_succ]
          refine held_take 12 153 rfl rfl (by kernel_rfl) (by kernel_rfl) (by kernel_rfl) (by rfl) hHeld noPanic_panic (v := ?_) (fun x hSx => ?_) ?_
          rotate_left 1
          · (obtain ⟨s1, s2, s3⟩ := act_cells hSx; go_simp <;> with_reducible rfl)
          simp only [List.set_cons_zero, List.set_cons_succ]
          refine held_take 13 154 rfl rfl (by kernel_rfl) (by kernel_rfl) (by kernel_rfl) (by rfl) hHeld noPanic_panic (v := ?_) (fun x hSx => ?_) ?_
          rotate_left 1
          · (obtain ⟨s1, s2, s3⟩ := act_cells hSx; go_simp <;> with_reducible rfl)
          simp only [List.set_cons_zero, List.set_cons_succ]
          refine held_take 14 155 rfl rfl (by kernel_rfl) (by kernel_rfl) (by kernel_rfl) (by rfl) hHeld noPanic_panic (v := ?_) (fun x hSx => ?_) ?_
          rotate_left 1
          · (obtain ⟨s1, s2, s3⟩ := act_cells hSx; go_simp <;> with_reducible rfl)
          simp only [List.set_cons_zero, List.set_cons_succ]
          refine held_enter 7 148 (by kernel_rfl) rfl rfl (by rfl) (by go_simp <;> exact ⟨rfl, rfl⟩) ?_
          refine ((unhide HBO).1 _ _ (unhide HT).p).mono ?_
          rintro e w5 ⟨rfl, ov5, k5, h5, h6, h7⟩
          have HTB := hide ((unhide HT).p.pc.tch (unhide HBE) h7)
          have HT5 := hide ((unhide HT).stepP h5 h7)
          have H6 := hide h6
          have hHeld := (unhide HT).p.pc.other h7 hHeld (by decide) (by decide) (by decide)
          refine ⟨_, rfl, hHeld, ?_⟩
          simp only [List.set_cons_zero, List.set_cons_succ]
          clear HBE h5 h6
          refine held_enter 15 156 (by kernel_rfl) rfl rfl (by rfl) (by go_simp <;> exact ⟨rfl, rfl⟩) ?_
          refine ((unhide HBO).2 _ _ (unhide HT5).d).mono ?_
          rintro e w6 ⟨rfl, ou6, k6, h8, h9, h10⟩
          have HTB6 := hide ((unhide HT5).tchD (unhide HTB) h10)
          have HT6 := hide ((unhide HT5).stepD h8 h10)
          clear h8 h9
          have hHeld := (unhide HT5).d.ec.other h10 hHeld (by decide) (by decide) (by decide)
          refine ⟨_, rfl, hHeld, ?_⟩
          simp only [List.set_cons_zero, List.set_cons_succ]
          refine held_take 16 11 rfl rfl (by kernel_rfl) (by kernel_rfl) (by kernel_rfl) (by rfl) hHeld noPanic_panic (v := ?_) (fun x hSx => ?_) ?_
          rotate_left 1
          · (obtain ⟨s1, s2, s3⟩ := act_cells hSx; go_simp <;> with_reducible rfl)
          simp only [List.set_cons_zero, List.set_cons_succ]
          refine held_take 17 12 rfl rfl (by kernel_rfl) (by kernel_rfl) (by kernel_rfl) (by rfl) hHeld noPanic_panic (v := ?_) (fun x hSx => ?_) ?_
          rotate_left 1
          · (obtain ⟨s1, s2, s3⟩ := act_cells hSx; go_simp <;> with_reducible rfl)
          simp only [List.set_cons_zero, List.set_cons_succ]
          refine wpAnyH_done (by kernel_rfl) ?_ _
          refine NoPanic.normal ?_
          have HFIN : Hid (∃ (ov ou : Value) (gd cc : Nat) (c : Enc) (ch : List Nat) (k : Nat), Stand w w6 pb gc qb n (i + 1) ov ou gd cc c ch k) := hide (by
            obtain ⟨T1, g1⟩ := (unhide HT6).p.wide
            obtain ⟨T2, g2⟩ := (unhide HT6).d.wide
            obtain rfl := wide_k g1 g2
            exact ⟨_, _, _, _, _, _, _, unhide HT6, (unhide HCH).trans (unhide HST).len, unhide HTB6, by have := (unhide HST).few; have := unhide H6; omega⟩)
          clear HT HT5 HT6 HTB HTB6 HBO HCH h7 h10 hHeld
          go_wp2_with fail
          go_roundg (L - i)
          case measure => omega
          case rel =>
            obtain ⟨ov', ou', gd', cc', c', ch', k', h⟩ := unhide HFIN
            exact ⟨i + 1, ov', ou', gd', cc', c', ch', k', by omega, by omega, by go_num, hide h⟩
        by_cases hk4 : kd = 4
        · subst hk4
          have z4 : W1.cell? ⟨ga, 4, none⟩ = some (.slice lp ll lc) := by simp [World.cell?, unhide HAA]
          have z4' : (W1.alloc (.cells #[] 3)).cell? ⟨ga, 4, none⟩ = some (.slice lp ll lc) := by simp only [World.cell?]; rw [Below.heap_alloc _ _ _ (heap_lt (unhide HAA)), unhide HAA]; rfl
          have HFL : Hid (ls.length = ll ∧ ls.length ≤ 17592186044416) := hide ⟨(unhide HLL).symm, unhide HLS⟩
          by_cases hfit : ls.length = ch.length ∧ ∀ p ∈ ls, Fit1 p
          · have HFIT := hide hfit
            clear hfit
            go_upto_region 26 with (first | (at_builtin; refine wp_catI (ws := W1) rfl (.tmp 160) (.tmp 162) rfl ls lp ll lc (by simp [go_sem]) (by simp [go_sem]) (unhide HFL).1 (unhide HSR1) (unhide HFL).2 ?_; intro v5 w5 h5; obtain ⟨g5, cap5, e5, hi5⟩ := h5.ints; subst e5; have HT5 := hide ((unhide HT1).below h5.bel); have HB5 := hide ((unhide HB1).trans (h5.bel.mono (unhide HB1).size)); have HI5 := hide hi5; have HA5 := hide (h5.bel.block ga (heap_lt (unhide HAA)) ▸ unhide HAA); clear h5 hi5) | (go_at_call 23; refine (pset_ok _ pb gc w5 ov c ch k ls _ cap5 (unhide HT5).p (unhide HI5) (unhide HFIT).1 (unhide HFIT).2 hnc).mono ?_; rintro e w6 ⟨rfl, h6, h7⟩; have HT6 := hide ((unhide HT5).stepP h6 h7); have HB6 := hide ((unhide HT5).p.pc.tch (unhide HB5) h7); have HA6 := hide ((unhide HT5).p.pc.other h7 (unhide HA5) (by decide) (by decide) (by decide)); clear h6 h7))
            have z6 : w6.cell? ⟨ga, 4, none⟩ = some (.slice lp ll lc) := by simp [World.cell?, unhide HA6]
            have z6' : (w6.alloc (.cells #[] 3)).cell? ⟨ga, 4, none⟩ = some (.slice lp ll lc) := by simp only [World.cell?]; rw [Below.heap_alloc _ _ _ (heap_lt (unhide HA6)), unhide HA6]; rfl
            have HS6 := hide ((unhide HSR0).stays (unhide HB6))
            have hfo := fit_ok ls lp lc (n : Int) w6 (unhide HS6).ints (unhide HLS)
            rw [(unhide HFL).1] at hfo
            have HFO := hide hfo
            clear hfo
            go_upto_region 27 with (first | (go_at_call 24; refine (unhide HFO).mono ?_; rintro e w7 ⟨r7, rfl, h7, rfl⟩; obtain rfl : r7 = true := h7.2 ⟨(unhide HFIT).2, (by rw [← (unhide HFL).1, (unhide HFIT).1, (unhide HST).len])⟩; clear h7))
            go_wp2_with (first | (at_builtin; refine wp_catI (ws := w6) rfl (.tmp 170) (.tmp 172) rfl ls lp ll lc (by simp [go_sem]) (by simp [go_sem]) (unhide HFL).1 (unhide HS6) (unhide HFL).2 ?_; intro v8 w8 h8; obtain ⟨g8, cap8, sp8, e8, hg8, hb8⟩ := h8.shape; subst e8; have ht8 := (unhide HT6).below h8.bel; have q0 := ht8.d.ec.enc.chs; have q1 := ht8.d.ec.enc.free 0; have HT8 := hide (ht8.newChances hb8 (Nat.le_trans (unhide HB6).size hg8) (unhide HFIT).2 cap8); have HB8 := hide (((unhide HB6).trans (h8.bel.mono (unhide HB6).size)).setCell (p := ⟨qb, 0, none⟩) (show w.heap.size ≤ qb from ht8.d.ec.enc.lo) (.slice (some ⟨g8, 0, none⟩) ls.length cap8)); clear h8 hb8 ht8))
            have HFIN : Hid (∃ (ov ou : Value) (gd cc : Nat) (c : Enc) (ch : List Nat) (k : Nat), Stand w (w8.setCell ⟨qb, 0, none⟩ (.slice (some ⟨g8, 0, none⟩) ls.length cap8)) pb gc qb n (i + 1) ov ou gd cc c ch k) := hide ⟨_, _, _, _, _, _, _, unhide HT8, (by rw [List.length_map, (unhide HFIT).1]; exact (unhide HST).len), unhide HB8, by have := (unhide HST).few; omega⟩
            go_roundg (L - i)
            case measure => omega
            case rel =>
              obtain ⟨ov', ou', gd', cc', c', ch', k', h⟩ := unhide HFIN
              exact ⟨i + 1, ov', ou', gd', cc', c', ch', k', by omega, by omega, by go_num, hide h⟩
          · have HFIT := hide hfit
            clear hfit
            have HNF : Hid (¬ ((∀ p ∈ ls, 31 ≤ p ∧ p ≤ 2017) ∧ (ll : Int) = (n : Int))) := hide (fun h => unhide HFIT ⟨(by have := h.2; have := (unhide HFL).1; rw [(unhide HST).len]; omega), h.1⟩)
            go_upto_region 26 with (first | (at_builtin; refine wp_catI (ws := W1) rfl (.tmp 160) (.tmp 162) rfl ls lp ll lc (by simp [go_sem]) (by simp [go_sem]) (unhide HFL).1 (unhide HSR1) (unhide HFL).2 ?_; intro v5 w5 h5; obtain ⟨g5, cap5, e5, hi5⟩ := h5.ints; subst e5; have HT5 := hide ((unhide HT1).below h5.bel); have HB5 := hide ((unhide HB1).trans (h5.bel.mono (unhide HB1).size)); have HI5 := hide hi5; have HA5 := hide (h5.bel.block ga (heap_lt (unhide HAA)) ▸ unhide HAA); clear h5 hi5) | (go_at_call 23; refine (pset_bad _ pb gc w5 ov c ch ls _ cap5 (unhide HT5).p.pc (unhide HI5) (unhide HLS) (unhide HFIT) hnc).mono ?_; rintro e w6 ⟨rfl, h6⟩; have HT6 := hide ((unhide HT5).stepP ⟨h6.1, (unhide HT5).p.wide, (unhide HT5).p.chs, Nat.le_trans (unhide HT5).p.base h6.2.size⟩ h6.2); have HB6 := hide ((unhide HT5).p.pc.tch (unhide HB5) h6.2); have HA6 := hide ((unhide HT5).p.pc.other h6.2 (unhide HA5) (by decide) (by decide) (by decide)); clear h6))
            have z6 : w6.cell? ⟨ga, 4, none⟩ = some (.slice lp ll lc) := by simp [World.cell?, unhide HA6]
            have HS6 := hide ((unhide HSR0).stays (unhide HB6))
            have hfo := fit_ok ls lp lc (n : Int) w6 (unhide HS6).ints (unhide HLS)
            rw [(unhide HFL).1] at hfo
            have HFO := hide hfo
            clear hfo
            go_upto_region 28 with (first | (go_at_call 24; refine (unhide HFO).mono ?_; rintro e w7 ⟨r7, rfl, h7, rfl⟩; obtain rfl : r7 = false := (by cases r7 with | false => rfl | true => exact absurd (h7.1 rfl) (unhide HNF)); clear h7))
            have HFIN : Hid (∃ (ov ou : Value) (gd cc : Nat) (c : Enc) (ch : List Nat) (k : Nat), Stand w w6 pb gc qb n (i + 1) ov ou gd cc c ch k) := hide ⟨_, _, _, _, _, _, _, unhide HT6, (unhide HST).len, unhide HB6, by have := (unhide HST).few; omega⟩
            go_wp2_with fail
            go_roundg (L - i)
            case measure => omega
            case rel =>
              obtain ⟨ov', ou', gd', cc', c', ch', k', h⟩ := unhide HFIN
              exact ⟨i + 1, ov', ou', gd', cc', c', ch', k', by omega, by omega, by go_num, hide h⟩
        · have HFIN : Hid (∃ (ov ou : Value) (gd cc : Nat) (c : Enc) (ch : List Nat) (k : Nat), Stand w W1 pb gc qb n (i + 1) ov ou gd cc c ch k) := hide ⟨_, _, _, _, _, _, _, unhide HT1, (unhide HST).len, unhide HB1, by have := (unhide HST).few; omega⟩
          go_wp2_with fail
          go_roundg (L - i)
          case measure => omega
          case rel =>
            obtain ⟨ov', ou', gd', cc', c', ch', k', h⟩ := unhide HFIN
            exact ⟨i + 1, ov', ou', gd', cc', c', ch', k', by omega, by omega, by go_num, hide h⟩
end Go.Proofs.Ytbolhbjipmndeaa.D
