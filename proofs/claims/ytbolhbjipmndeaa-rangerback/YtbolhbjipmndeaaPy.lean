/- Bytes (the program's): what was written, and the end. -/
import Derived.Test.YtbolhbjipmndeaaPu
import Derived.Test.YtbolhbjipmndeaaDBy
namespace Go.Proofs.Ytbolhbjipmndeaa.D
open Go.RowKit Rang
set_option maxRecDepth 100000
set_option linter.unusedVariables false
attribute [local go_sem ↓] Go.wp_at_zero Go.wp_at_succ

theorem own_shape_len {w : World} {B t n : Nat} {v : Value} {xs : List Value} (h : w.ownsRow B t 1 v n xs) : ∃ a c, v = .slice a n c := by
  rcases h.2 with ⟨e, rfl⟩ | ⟨g, cap, cur, e, _⟩
  · exact ⟨_, _, e⟩
  · exact ⟨_, _, e⟩

theorem bytes_made (w : World) (n c : Nat) (hn : n ≤ c) (hc : c ≤ 140737488355328) : (Instr.makeSlice 32 (.int .i64 (n : Int)) (.int .i64 (c : Int))).run Try.prog w = .ok (.slice (some ⟨w.heap.size, 0, none⟩) n c) (w.alloc (.cells (List.replicate c (bv 0)).toArray 5)) := by
  obtain ⟨i0, hi, hz0, hz1, hz2⟩ := info_parts info5
  have := run_make (P := Try.prog) w 32 5 i0 (.int .u8 0) Try.underlying32 hi hz0 .i64 .i64 (n : Int) (c : Int) (by omega) (by omega) (by rw [hz2]; omega) (by omega)
  rw [hz1] at this
  rw [this]
  congr 3
  apply Array.ext (by simp [madeCells])
  intro k k1 k2
  simp [madeCells, Value.cells, Nat.mod_one, bv]

theorem room_ar {L wt k C : Nat} (h : L + wt = k + 1) (hk : k ≤ 90000000000000) (hC : C = L + wt + 5) : L ≤ C ∧ C ≤ 140737488355328 ∧ wrap64 ((L : Int) + (wt : Int)) = (L : Int) + (wt : Int) ∧ (L : Int) + (wt : Int) + 5 = (C : Int) ∧ wrap64 (C : Int) = (C : Int) ∧ IntKind.i64.wrap ((L : Int) + (wt : Int)) = (L : Int) + (wt : Int) ∧ IntKind.i64.wrap (C : Int) = (C : Int) := by
  refine ⟨by omega, by omega, IntWalk.wrap64_in _ (by omega), by omega, IntWalk.wrap64_in _ (by omega), ?_, ?_⟩ <;> rw [IntKind.wrap_i64] <;> omega

theorem shN_wait {c : Enc} {T k : Nat} (h : Stands c T k 1) (n : Nat) : 1 ≤ (shN n c).wait ∧ (shN n c).out.length + (shN n c).wait = k + n + 1 := ⟨(shN_stands h n).wait, (shN_stands h n).len⟩

set_option maxHeartbeats 8000000 in
theorem pbytes_ok (B pb : Nat) (w : World) (chv ov : Value) (c : Enc) (T k : Nat) (h : PAt B w pb chv ov c) (hw : Wide c T k) (hk : k ≤ 90000000000000) (a3 : Option Addr) (n3 c9 : Nat) (hcv : chv = .slice a3 n3 c9) :
    Calls Try.prog 12 #[.pointer (some ⟨pb, 0, none⟩)] w fun e w' => ∃ v, e = .returned v ∧ StB w w' v (bytesE c) := by
  have HGD := hide (good_ok pb w true h.made)
  have c0 := h.made
  have c1 := h.chs
  have c2 := h.low
  have c3 := h.rng
  have c4 := h.kept
  have c5 := h.wait
  have c6 := h.out
  have HE := hide h
  have HW := hide hw
  obtain ⟨oa, oc, rfl⟩ := own_shape_len h.row
  subst hcv
  have hpl := heap_lt h.cells
  obtain ⟨go, hgo⟩ : ∃ go, go = w.heap.size := ⟨_, rfl⟩
  have HGO := hide hgo
  obtain ⟨L, hL⟩ : ∃ L, L = c.out.length := ⟨_, rfl⟩
  obtain ⟨wt, hwt⟩ : ∃ wt, wt = c.wait := ⟨_, rfl⟩
  have hlen : L + wt = k + 1 := by rw [hL, hwt]; exact hw.st.len
  rw [← hL] at c6 HE
  rw [← hwt] at c5
  have HL := hide hL
  have HWT := hide hwt
  have HC : Hid (Below go w (w.alloc (.cells (pcells (.slice a3 n3 c9) (.slice oa L oc) c) 68))) := hide (by rw [hgo]; exact (Below.refl _ _).alloc (Nat.le_refl _) _)
  have HG : Hid ((w.alloc (.cells (pcells (.slice a3 n3 c9) (.slice oa L oc) c) 68)).heap[go]? = some (.cells (pcells (.slice a3 n3 c9) (.slice oa L oc) c) 68 (0, 0))) := hide (by rw [hgo]; exact heap_alloc_new _ _)
  clear h hw hL hwt
  go_enter Try.func12, Try.ntmps12
  go_upto_region 4 with (first | (go_at_call 41; refine (unhide HGD).mono ?_; rintro e w1 ⟨rfl, rfl⟩))
  rw [← hgo]
  clear hgo HGD
  have hsz : (w1.alloc (.cells (pcells (.slice a3 n3 c9) (.slice oa L oc) c) 68)).heap.size = go + 1 := by rw [unhide HGO]; simp
  obtain ⟨W1, hW1⟩ : ∃ W1, W1 = w1.alloc (.cells (pcells (.slice a3 n3 c9) (.slice oa L oc) c) 68) := ⟨_, rfl⟩
  rw [← hW1] at HC HG hsz
  have e : w1.alloc (.cells #[.bool true, .slice a3 n3 c9, .int .u64 (c.low : Int), .int .u32 (c.rng : Int), .int .u8 (c.kept : Int), .int .i64 (wt : Int), .slice oa L oc] 68) = W1 := by rw [hW1, unhide HWT]; rfl
  rw [e]
  clear e hW1 c0 c1 c2 c3 c4 c5 c6
  have hpg : pb < go := by rw [unhide HGO]; exact hpl
  have hpb : W1.heap[pb]? = w1.heap[pb]? := (unhide HC).block pb hpg
  have c5 : W1.drew.cell? ⟨pb, 5, none⟩ = some (.int .i64 (wt : Int)) := by
    show W1.cell? _ = _
    simp only [World.cell?]
    rw [hpb, unhide HWT]
    exact (unhide HE).wait
  have c6 : W1.drew.cell? ⟨pb, 6, none⟩ = some (.slice oa L oc) := by
    show W1.cell? _ = _
    simp only [World.cell?]
    rw [hpb]
    exact (unhide HE).out
  have g6 : W1.drew.cell? ⟨go, 6, none⟩ = some (.slice oa L oc) := by
    show W1.cell? _ = _
    simp [World.cell?, unhide HG, pcells]
  have f6 : ∀ O, (W1.drew.alloc O).frozen? ⟨go, 6, none⟩ = false := fun O => by
    have : (W1.drew.alloc O).heap[go]? = W1.heap[go]? := Below.heap_alloc W1.drew O go (by show go < W1.heap.size; omega)
    simp [World.frozen?, this, unhide HG]
  have g6' : ∀ O, (W1.drew.alloc O).cell? ⟨go, 6, none⟩ = some (.slice oa L oc) := fun O => by
    have : (W1.drew.alloc O).heap[go]? = W1.heap[go]? := Below.heap_alloc W1.drew O go (by show go < W1.heap.size; omega)
    simp [World.cell?, this, unhide HG, pcells]
  have f6'' : ∀ O, (W1.alloc O).drew.frozen? ⟨go, 6, none⟩ = false := f6
  have g6'' : ∀ O, (W1.alloc O).drew.cell? ⟨go, 6, none⟩ = some (.slice oa L oc) := g6'
  obtain ⟨C, hC⟩ : ∃ C, C = L + wt + 5 := ⟨_, rfl⟩
  obtain ⟨r1, r2, fa, fc, fd, fb, fe⟩ := room_ar hlen hk hC
  have hmk := bytes_made W1.drew L C r1 r2
  have hs1 : W1.drew.heap.size = go + 1 := hsz
  rw [hs1] at hmk
  have HCC := hide hC
  have HSZ := hide hsz
  have HSZ2 := hide hs1
  have HLN := hide hlen
  clear hC hsz hs1 hlen hpb
  refine wp_tail 16 (by kernel_rfl) (by kernel_rfl) ?_
  simp only [List.take_succ_cons, List.take_zero, List.drop_succ_cons, List.drop_zero]
  repeat still_step
  try refine wpStill_nil ?_
  go_upto_region 5 with fail
  have hcs : (.cells (Array.replicate C (bv 0)) 5 : Obj) = .cells (List.replicate C (bv 0)).toArray 5 := by simp
  rw [hcs]
  have HB2 : Hid (Below go w1 (((W1.alloc (.cells (List.replicate C (bv 0)).toArray 5)).setCell ⟨go, 6, none⟩ (.slice (some ⟨go + 1, 0, none⟩) L C)).drew)) := hide (((unhide HC).alloc (by have := unhide HSZ; omega) _).setCell (Nat.le_refl _) _).drew
  have HG2 : Hid ((((W1.alloc (.cells (List.replicate C (bv 0)).toArray 5)).setCell ⟨go, 6, none⟩ (.slice (some ⟨go + 1, 0, none⟩) L C)).drew).heap[go]? = some (.cells (pcells (.slice a3 n3 c9) (.slice (some ⟨go + 1, 0, none⟩) L C) c) 68 (0, 0))) := hide (by
    show ((W1.alloc _).setCell ⟨go, 6, none⟩ _).heap[go]? = _
    rw [heap_setCell_same _ go 6 _ 68 _ (by rw [Below.heap_alloc _ _ _ (by have := unhide HSZ; omega)]; exact unhide HG)]
    rfl)
  have HG3 : Hid ((((W1.alloc (.cells (List.replicate C (bv 0)).toArray 5)).setCell ⟨go, 6, none⟩ (.slice (some ⟨go + 1, 0, none⟩) L C)).drew).heap[go + 1]? = some (.cells (List.replicate C (bv 0)).toArray 5 (0, 0))) := hide (by
    show ((W1.alloc _).setCell ⟨go, 6, none⟩ _).heap[go + 1]? = _
    rw [heap_setCell_other _ _ _ _ (by simp), ← unhide HSZ]
    exact heap_alloc_new _ _)
  obtain ⟨W2, hW2⟩ : ∃ W2, W2 = (((W1.alloc (.cells (List.replicate C (bv 0)).toArray 5)).setCell ⟨go, 6, none⟩ (.slice (some ⟨go + 1, 0, none⟩) L C)).drew) := ⟨_, rfl⟩
  rw [← hW2] at HB2 HG2 HG3 ⊢
  clear hW2 hcs c5 c6 g6 f6 g6' f6'' g6'' hmk HG HC HSZ HSZ2
  have HR2 : Hid (W2.drew.ownsRow B 5 1 (.slice oa L oc) c.out.length (c.out.map bv)) := hide (own_keep (unhide HE).row fun g eg => (unhide HB2).block g (by rw [unhide HGO]; exact ((unhide HE).row.lt g eg).2))
  have k6 : W2.drew.cell? ⟨go, 6, none⟩ = some (.slice (some ⟨go + 1, 0, none⟩) L C) := by
    show W2.cell? _ = _
    simp [World.cell?, unhide HG2, pcells]
  have p6 : W2.drew.cell? ⟨pb, 6, none⟩ = some (.slice oa L oc) := by
    show W2.cell? _ = _
    simp only [World.cell?]
    rw [(unhide HB2).block pb hpg]
    exact (unhide HE).out
  refine wp_tail 6 (by kernel_rfl) (by kernel_rfl) ?_
  simp only [List.take_succ_cons, List.take_zero, List.drop_succ_cons, List.drop_zero]
  repeat still_step
  try refine wpStill_nil ?_
  have HPOS : Hid (0 < (c.out.map bv).length → some (⟨go + 1, 0, none⟩ : Addr) = some ⟨go + 1, 0, none⟩ ∧ ∃ ad, oa = some ad ∧ ∀ j v, (c.out.map bv)[j]? = some v → W2.drew.cell? (ad.add j) = some v) := hide (by
    intro hp
    rcases (unhide HR2).2 with ⟨e1, e2⟩ | ⟨g, cap, cur, e1, hb, hg, hn, hc, hs', ht⟩
    · rw [List.length_map] at hp; omega
    · refine ⟨rfl, ⟨g, 0, none⟩, ?_, fun j u hj => (unhide HR2).cells (g := g) (by rw [e1]; rfl) j u hj⟩
      injection e1)
  have HFIT : Hid (0 + (c.out.map bv).length ≤ (List.replicate C (bv 0)).length ∧ (c.out.map bv).length = Nat.min L L) := hide (by
    rw [List.length_map, List.length_replicate, ← unhide HL]
    exact ⟨by omega, (Nat.min_self L).symm⟩)
  have H1C : Hid (∀ v ∈ c.out.map bv, v.oneCell' = true) := hide (by intro u hu; obtain ⟨z, _, rfl⟩ := List.mem_map.1 hu; rfl)
  have HB3 : Hid (Below go w1 W2.drew) := hide (unhide HB2).drew
  have HG3' : Hid (W2.drew.heap[go + 1]? = some (.cells (List.replicate C (bv 0)).toArray 5 (0, 0))) := HG3
  go_wp2_with (refine wpList_copy_splice rfl (.tmp 29) (.tmp 33) 32 32 rfl 5 Try.underlying32 (by kernel_rfl) (some ⟨go + 1, 0, none⟩) oa L C L oc (by simp [go_sem]) (by simp [go_sem]) (go + 1) 0 (List.replicate C (bv 0)) 5 (unhide HG3') (c.out.map bv) (unhide HFIT).2 (unhide HPOS) (unhide HFIT).1 (unhide H1C) (go + 1) W2.drew (Below.refl _ _) (Nat.le_refl _) ?_; intro W3 HG4 h3; have HB4 := hide h3; clear h3)
  have HE3 : Hid (PAt w1.heap.size W3 go (.slice a3 n3 c9) (.slice (some ⟨go + 1, 0, none⟩) L C) (shN 0 c)) := hide (by
    refine ⟨?_, ⟨by simp [shN], .inr ⟨go + 1, C, (splice (List.replicate C (bv 0)) 0 (c.out.map bv)).toArray, by rw [show (shN 0 c).out.length = L from (unhide HL).symm], by rw [← unhide HGO]; omega, unhide HG4, by rw [show (shN 0 c).out.length = L from (unhide HL).symm]; exact r1, by unfold maxLen; omega, ?_, ?_⟩⟩, by rw [← unhide HGO]; exact Nat.le_refl _⟩
    · rw [(unhide HB4).block go (by omega)]
      exact unhide HG2
    · rw [List.size_toArray, length_splice _ _ _ (unhide HFIT).1, List.length_replicate, Nat.mul_one]
    · simp [splice, shN])
  have HB5 : Hid (Below w1.heap.size w1 W3) := hide (by
    have h1 := unhide HB3
    rw [unhide HGO] at h1
    exact h1.trans ((unhide HB4).mono (by rw [unhide HGO]; omega)))
  clear HG4 HB4 HB3 HG2 HG3 HG3' HB2 HPOS HFIT H1C HR2 k6 p6 fa fb fc fd fe HE
  go_loopg [35] 5 (fun gk d ws => ∃ (i : Nat) (ov' : Value), gk = 5 - i ∧ i ≤ 5 ∧ d = .int .i64 (i : Int) ∧ Hid (PAt w1.heap.size ws go (.slice a3 n3 c9) ov' (shN i c)) ∧ Hid (Below w1.heap.size w1 ws))
  case atStart => exact ⟨0, _, by omega, by omega, rfl, HE3, HB5⟩
  case round =>
    clear HE3 HB5
    obtain ⟨i, ov', rfl, hi, rfl, HE3, HB3⟩ := hrel
    by_cases hlt : i < 5
    · have tl : (i : Int) < 5 := by omega
      have hst := shN_stands (c := c) (T := T) (k := k) (by
        have := stands_less (unhide HW).st 1 c.rng (by omega) (by have := (unhide HW).lo; omega)
        exact this) i
      have HCL := hide (pshift_ok w1.heap.size go wr (.slice a3 n3 c9) ov' (shN i c) (unhide HE3) (by have := hst.lo; omega) hst.kept ⟨hst.wait, (by have := hst.len; omega)⟩ (unhide HB3).size)
      clear hst
      go_wp2_with fail
      refine (unhide HCL).mono ?_
      rintro e w5 ⟨rfl, ov5, h5, h6⟩
      have HE5 : Hid (PAt w1.heap.size w5 go (.slice a3 n3 c9) ov5 (shN (i + 1) c)) := hide h5
      have HB5 : Hid (Below w1.heap.size w1 w5) := hide ⟨h6.os.trans (unhide HB3).os, h6.tape.trans (unhide HB3).tape, h6.output.trans (unhide HB3).output, Nat.le_trans (unhide HB3).size h6.size, fun q hq => by
        rw [h6.keep q (Nat.lt_of_lt_of_le hq (unhide HB3).size) (by have := (unhide HE3).lo; omega) (fun e => by have := ((unhide HE3).row.lt q e).1; omega)]
        exact (unhide HB3).block q hq⟩
      clear h5 h6 HCL
      go_wp2_with fail
      go_roundg (5 - (i + 1))
      case measure => omega
      case rel => exact ⟨i + 1, ov5, rfl, by omega, by go_num, HE5, HB5⟩
    · obtain rfl : i = 5 := by omega
      have k5 := (unhide HE3).out
      obtain ⟨a6, n6, q6, e6⟩ := own_shape (unhide HE3).row
      subst e6
      go_wp2_with fail
      go_ret
      exact ⟨_, rfl, ⟨(unhide HE3).row, unhide HB3⟩⟩
end Go.Proofs.Ytbolhbjipmndeaa.D
