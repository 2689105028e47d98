/- index.match without levels. -/
import Derived.Test.YtabnfnejlffioaaWalk
namespace Go.Proofs.Ytabnfnejlffioaa
open Go.RowKit Go.Maps
set_option linter.unusedVariables false

attribute [local go_sem ↓] Go.wp_at_zero Go.wp_at_succ

set_option maxRecDepth 100000 in
set_option maxHeartbeats 4000000 in
theorem match_zero (zs : List Nat) (a : Option Addr) (B cap p W M gx : Nat) (w : World) (hr : ReadsU B w (.slice a zs.length cap) zs) (hcap : zs.length ≤ cap) (hz : ∀ c ∈ zs, c < 256) (hl : zs.length ≤ 100000000) (hp : p ≤ zs.length) (hB : B ≤ w.heap.size) (hW : W ≤ 9223372036854775807) (hM : M ≤ 9223372036854775807)
    (hx0 : w.cell? ⟨gx, 0, none⟩ = some (.slice a zs.length cap)) (hx1 : w.cell? ⟨gx, 1, none⟩ = some (.int .i64 (W : Int))) (hx2 : w.cell? ⟨gx, 2, none⟩ = some (.int .i64 (M : Int))) (hx3 : w.cell? ⟨gx, 3, none⟩ = some (.slice none 0 0)) (hm : ML w) :
    Calls Try.prog 22 #[.pointer (some ⟨gx, 0, none⟩), .int .i64 (p : Int)] w fun e w' => WalkIs zs p (min p W) (min M (zs.length - p)) w e w' := by
  obtain ⟨H, hH⟩ : ∃ H, H = w.heap.size := ⟨_, rfl⟩
  have HHW := hide hH
  have hgxH : gx < H := by rw [hH]; exact cell_lt hx0
  have HX0 := hide hx0
  have HX1 := hide hx1
  have HX2 := hide hx2
  have HX3 := hide hx3
  have HR := hide hr
  have HZ := hide hz
  have HML := hide hm
  obtain ⟨L, htx⟩ : ∃ L, L = zs.length := ⟨_, rfl⟩
  rw [← htx] at HX0 HR hcap hl hp ⊢
  have HTX := hide htx
  obtain ⟨m0, hm0⟩ : ∃ m0, m0 = min M (L - p) := ⟨_, rfl⟩
  obtain ⟨u, hu⟩ : ∃ u, u = min p W := ⟨_, rfl⟩
  rw [← hm0, ← hu]
  have HU := hide hu
  have HM0 := hide hm0
  have hx3' : (((((w.alloc (.cells #[.pointer (some ⟨gx, 0, none⟩)] 50)).alloc (.cells #[.int .i64 (p : Int)] 3)).alloc (.cells #[.int .i64 0] 3)).alloc (.cells #[.int .i64 0] 3))).cell? ⟨gx, 3, none⟩ = some (.slice none 0 0) := by
    have hbl : Below w.heap.size w ((((w.alloc (.cells #[.pointer (some ⟨gx, 0, none⟩)] 50)).alloc (.cells #[.int .i64 (p : Int)] 3)).alloc (.cells #[.int .i64 0] 3)).alloc (.cells #[.int .i64 0] 3)) := ((((Below.refl _ _).alloc (by omega) _).alloc (by simp) _).alloc (by simp; omega) _).alloc (by simp; omega) _
    exact cell_stays hbl hx3
  clear hr hz hm htx hx0 hx1 hx2 hx3 hH hu hm0
  go_enter Try.func22, Try.ntmps22
  go_upto_region 2 with fail
  have e3 : w.heap.size + 1 + 1 + 1 = H + 3 := by rw [unhide HHW]
  have e2 : w.heap.size + 1 + 1 = H + 2 := by rw [unhide HHW]
  have e1 : w.heap.size + 1 = H + 1 := by rw [unhide HHW]
  have e0 : w.heap.size = H := (unhide HHW).symm
  rw [e3, e2, e1, e0]
  generalize hW4 : (((w.alloc (.cells #[.pointer (some ⟨gx, 0, none⟩)] 50)).alloc (.cells #[.int .i64 (p : Int)] 3)).alloc (.cells #[.int .i64 0] 3)).alloc (.cells #[.int .i64 0] 3) = W4
  have HB0 : Hid (W4.heap[H]? = some (.cells #[.pointer (some ⟨gx, 0, none⟩)] 50 (0, 0)) ∧ W4.heap[H + 1]? = some (.cells #[.int .i64 (p : Int)] 3 (0, 0))) := hide (by
    rw [← hW4, unhide HHW]
    refine ⟨?_, ?_⟩ <;> simp only [heap_alloc_at, World.size_alloc] <;> (repeat (first | rw [if_pos (by omega)] | rw [if_neg (by omega)])) <;> rfl)
  have HA : Hid (W4.heap[H + 2]? = some (.cells #[.int .i64 0] 3 (0, 0)) ∧ W4.heap[H + 3]? = some (.cells #[.int .i64 0] 3 (0, 0))) := hide (by
    rw [← hW4, unhide HHW]
    refine ⟨?_, ?_⟩ <;> simp only [heap_alloc_at, World.size_alloc] <;> (repeat (first | rw [if_pos (by omega)] | rw [if_neg (by omega)])) <;> rfl)
  have HBL : Hid (Below H w W4) := hide (by
    rw [← hW4]
    exact ((((Below.refl _ _).alloc (by omega) _).alloc (by simp; omega) _).alloc (by simp; omega) _).alloc (by simp; omega) _)
  clear hW4 e0 e1 e2 e3 hx3'
  have HS : Hid (W4.drew.cell? ⟨H, 0, none⟩ = some (.pointer (some ⟨gx, 0, none⟩)) ∧ W4.drew.cell? ⟨H + 1, 0, none⟩ = some (.int .i64 (p : Int)) ∧ W4.drew.cell? ⟨gx, 0, none⟩ = some (.slice a L cap) ∧ W4.drew.cell? ⟨gx, 1, none⟩ = some (.int .i64 (W : Int)) ∧ W4.drew.cell? ⟨gx, 2, none⟩ = some (.int .i64 (M : Int))) := hide (by
    refine ⟨?_, ?_, ?_, ?_, ?_⟩
    · show W4.cell? _ = _
      simp [World.cell?, (unhide HB0).1]
    · show W4.cell? _ = _
      simp [World.cell?, (unhide HB0).2]
    · exact cell_below (unhide HBL) (unhide HX0) hgxH
    · exact cell_below (unhide HBL) (unhide HX1) hgxH
    · exact cell_below (unhide HBL) (unhide HX2) hgxH)
  have HKS : Hid (∀ (y : World) (k : Nat) (x : Value), (k = H + 2 ∨ k = H + 3) → (y.cell? ⟨H, 0, none⟩ = some (.pointer (some ⟨gx, 0, none⟩)) ∧ y.cell? ⟨H + 1, 0, none⟩ = some (.int .i64 (p : Int)) ∧ y.cell? ⟨gx, 0, none⟩ = some (.slice a L cap) ∧ y.cell? ⟨gx, 1, none⟩ = some (.int .i64 (W : Int)) ∧ y.cell? ⟨gx, 2, none⟩ = some (.int .i64 (M : Int))) →
      (y.setCell ⟨k, 0, none⟩ x).cell? ⟨H, 0, none⟩ = some (.pointer (some ⟨gx, 0, none⟩)) ∧ (y.setCell ⟨k, 0, none⟩ x).cell? ⟨H + 1, 0, none⟩ = some (.int .i64 (p : Int)) ∧ (y.setCell ⟨k, 0, none⟩ x).cell? ⟨gx, 0, none⟩ = some (.slice a L cap) ∧ (y.setCell ⟨k, 0, none⟩ x).cell? ⟨gx, 1, none⟩ = some (.int .i64 (W : Int)) ∧ (y.setCell ⟨k, 0, none⟩ x).cell? ⟨gx, 2, none⟩ = some (.int .i64 (M : Int))) := hide fun y k x hk h => by
    have kp : ∀ (g i : Nat), g ≠ k → (y.setCell ⟨k, 0, none⟩ x).cell? ⟨g, i, none⟩ = y.cell? ⟨g, i, none⟩ := fun g i hg => World.cell?_of_block (heap_setCell_other _ _ _ _ (by exact hg))
    rw [kp _ _ (by omega), kp _ _ (by omega), kp _ _ (by omega), kp _ _ (by omega), kp _ _ (by omega)]
    exact h
  have HLK : Hid (∃ T t : Nat, Calls Try.prog 19 #[.slice a L cap, .int .i64 (p : Int), .int .i64 (W : Int), .int .i64 (M : Int)] W4.drew fun e w' => ∃ a', e = .returned (.tuple #[.slice a' T T, .int .i64 (t : Int)]) ∧ w' = W4.drew ∧
      ∀ q, Calls Try.prog 18 #[.slice a' T T, .int .i64 (t : Int)] (W4.drew.drewN q) fun e w' => ∃ n d : Nat, e = .returned (.tuple #[.int .i64 (n : Int), .int .i64 (d : Int)]) ∧ IsBest (zf zs) p u m0 n d ∧ ∃ q, w' = W4.drew.drewN q) := hide (by
    have hml : ML W4.drew := by
      obtain ⟨m, hm⟩ := unhide HML
      exact ⟨m, cell_below (unhide HBL) hm (by have := cell_lt hm; rw [unhide HHW]; exact this)⟩
    have hr1 : ReadsU B W4.drew (.slice a zs.length cap) zs := by
      have h := unhide HR
      rw [unhide HTX] at h
      exact h.stays ⟨(unhide HBL).os, (unhide HBL).tape, (unhide HBL).output, (unhide HBL).size, fun k hk => (unhide HBL).block k (by rw [unhide HHW]; omega)⟩
    have := look_seek zs a cap B p W M W4.drew hr1 (by rw [← unhide HTX]; exact hcap) (unhide HZ) (by rw [← unhide HTX]; omega) (by rw [← unhide HTX]; omega) hW hM hml
    rw [← unhide HU, ← unhide HTX, ← unhide HM0] at this
    exact this)
  refine wp_region_noPanic ?_
  refine wp_region_held_drew (S := fun y => y.cell? ⟨H, 0, none⟩ = some (.pointer (some ⟨gx, 0, none⟩)) ∧ y.cell? ⟨H + 1, 0, none⟩ = some (.int .i64 (p : Int)) ∧ y.cell? ⟨gx, 0, none⟩ = some (.slice a L cap) ∧ y.cell? ⟨gx, 1, none⟩ = some (.int .i64 (W : Int)) ∧ y.cell? ⟨gx, 2, none⟩ = some (.int .i64 (M : Int))) (by kernel_rfl) (unhide HS) (fun hHeld => ?_)
  refine held_take 0 17 rfl rfl (by kernel_rfl) (by kernel_rfl) (by kernel_rfl) (by rfl) hHeld noPanic_panic (v := ?_) (fun x' hSx => ?_) ?_
  rotate_left 1
  · (obtain ⟨q1, q2, q3, q4, q5⟩ := hSx; go_simp <;> with_reducible rfl)
  simp only [List.set_cons_zero, List.set_cons_succ]
  refine held_take 1 18 rfl rfl (by kernel_rfl) (by kernel_rfl) (by kernel_rfl) (by rfl) hHeld noPanic_panic (v := ?_) (fun x' hSx => ?_) ?_
  rotate_left 1
  · (obtain ⟨q1, q2, q3, q4, q5⟩ := hSx; go_simp <;> with_reducible rfl)
  simp only [List.set_cons_zero, List.set_cons_succ]
  refine held_take 2 19 rfl rfl (by kernel_rfl) (by kernel_rfl) (by kernel_rfl) (by rfl) hHeld noPanic_panic (v := ?_) (fun x' hSx => ?_) ?_
  rotate_left 1
  · (obtain ⟨q1, q2, q3, q4, q5⟩ := hSx; go_simp <;> with_reducible rfl)
  simp only [List.set_cons_zero, List.set_cons_succ]
  refine held_take 3 20 rfl rfl (by kernel_rfl) (by kernel_rfl) (by kernel_rfl) (by rfl) hHeld noPanic_panic (v := ?_) (fun x' hSx => ?_) ?_
  rotate_left 1
  · (obtain ⟨q1, q2, q3, q4, q5⟩ := hSx; go_simp <;> with_reducible rfl)
  simp only [List.set_cons_zero, List.set_cons_succ]
  refine held_take 4 21 rfl rfl (by kernel_rfl) (by kernel_rfl) (by kernel_rfl) (by rfl) hHeld noPanic_panic (v := ?_) (fun x' hSx => ?_) ?_
  rotate_left 1
  · (obtain ⟨q1, q2, q3, q4, q5⟩ := hSx; go_simp <;> with_reducible rfl)
  simp only [List.set_cons_zero, List.set_cons_succ]
  refine held_take 5 22 rfl rfl (by kernel_rfl) (by kernel_rfl) (by kernel_rfl) (by rfl) hHeld noPanic_panic (v := ?_) (fun x' hSx => ?_) ?_
  rotate_left 1
  · (obtain ⟨q1, q2, q3, q4, q5⟩ := hSx; go_simp <;> with_reducible rfl)
  simp only [List.set_cons_zero, List.set_cons_succ]
  refine held_take 6 23 rfl rfl (by kernel_rfl) (by kernel_rfl) (by kernel_rfl) (by rfl) hHeld noPanic_panic (v := ?_) (fun x' hSx => ?_) ?_
  rotate_left 1
  · (obtain ⟨q1, q2, q3, q4, q5⟩ := hSx; go_simp <;> with_reducible rfl)
  simp only [List.set_cons_zero, List.set_cons_succ]
  refine held_take 7 24 rfl rfl (by kernel_rfl) (by kernel_rfl) (by kernel_rfl) (by rfl) hHeld noPanic_panic (v := ?_) (fun x' hSx => ?_) ?_
  rotate_left 1
  · (obtain ⟨q1, q2, q3, q4, q5⟩ := hSx; go_simp <;> with_reducible rfl)
  simp only [List.set_cons_zero, List.set_cons_succ]
  refine held_take 8 25 rfl rfl (by kernel_rfl) (by kernel_rfl) (by kernel_rfl) (by rfl) hHeld noPanic_panic (v := ?_) (fun x' hSx => ?_) ?_
  rotate_left 1
  · (obtain ⟨q1, q2, q3, q4, q5⟩ := hSx; go_simp <;> with_reducible rfl)
  simp only [List.set_cons_zero, List.set_cons_succ]
  refine held_take 9 26 rfl rfl (by kernel_rfl) (by kernel_rfl) (by kernel_rfl) (by rfl) hHeld noPanic_panic (v := ?_) (fun x' hSx => ?_) ?_
  rotate_left 1
  · (obtain ⟨q1, q2, q3, q4, q5⟩ := hSx; go_simp <;> with_reducible rfl)
  simp only [List.set_cons_zero, List.set_cons_succ]
  refine held_take 10 27 rfl rfl (by kernel_rfl) (by kernel_rfl) (by kernel_rfl) (by rfl) hHeld noPanic_panic (v := ?_) (fun x' hSx => ?_) ?_
  rotate_left 1
  · (obtain ⟨q1, q2, q3, q4, q5⟩ := hSx; go_simp <;> with_reducible rfl)
  simp only [List.set_cons_zero, List.set_cons_succ]
  refine held_take 11 28 rfl rfl (by kernel_rfl) (by kernel_rfl) (by kernel_rfl) (by rfl) hHeld noPanic_panic (v := ?_) (fun x' hSx => ?_) ?_
  rotate_left 1
  · (obtain ⟨q1, q2, q3, q4, q5⟩ := hSx; go_simp <;> with_reducible rfl)
  simp only [List.set_cons_zero, List.set_cons_succ]
  refine held_take 12 29 rfl rfl (by kernel_rfl) (by kernel_rfl) (by kernel_rfl) (by rfl) hHeld noPanic_panic (v := ?_) (fun x' hSx => ?_) ?_
  rotate_left 1
  · (obtain ⟨q1, q2, q3, q4, q5⟩ := hSx; go_simp <;> with_reducible rfl)
  simp only [List.set_cons_zero, List.set_cons_succ]
  obtain ⟨T, t, hlk⟩ := unhide HLK
  refine held_enter 13 30 (by kernel_rfl) rfl rfl (by rfl) (by go_simp <;> exact ⟨rfl, rfl⟩) ?_
  refine hlk.mono ?_
  rintro e w' ⟨a', rfl, hww, hsk⟩
  replace hww := hww.symm
  subst hww
  refine ⟨_, rfl, hHeld, ?_⟩
  simp only [List.set_cons_zero, List.set_cons_succ]
  refine held_take 14 31 rfl rfl (by kernel_rfl) (by kernel_rfl) (by kernel_rfl) (by rfl) hHeld noPanic_panic (v := ?_) (fun x' hSx => ?_) ?_
  rotate_left 1
  · go_simp <;> with_reducible rfl
  simp only [List.set_cons_zero, List.set_cons_succ]
  refine held_take 15 32 rfl rfl (by kernel_rfl) (by kernel_rfl) (by kernel_rfl) (by rfl) hHeld noPanic_panic (v := ?_) (fun x' hSx => ?_) ?_
  rotate_left 1
  · go_simp <;> with_reducible rfl
  simp only [List.set_cons_zero, List.set_cons_succ]
  have HSK := hide (hsk 0)
  clear hsk hlk
  refine held_enter 16 33 (by kernel_rfl) rfl rfl (by rfl) (by go_simp <;> exact ⟨rfl, rfl⟩) ?_
  refine (unhide HSK).mono ?_
  rintro e w' ⟨n2, d2, rfl, hbest, q, rfl⟩
  refine ⟨_, rfl, hHeld, ?_⟩
  simp only [List.set_cons_zero, List.set_cons_succ]
  refine held_take 17 34 rfl rfl (by kernel_rfl) (by kernel_rfl) (by kernel_rfl) (by rfl) hHeld noPanic_panic (v := ?_) (fun x' hSx => ?_) ?_
  rotate_left 1
  · go_simp <;> with_reducible rfl
  simp only [List.set_cons_zero, List.set_cons_succ]
  refine held_take 18 35 rfl rfl (by kernel_rfl) (by kernel_rfl) (by kernel_rfl) (by rfl) hHeld noPanic_panic (v := ?_) (fun x' hSx => ?_) ?_
  rotate_left 1
  · go_simp <;> with_reducible rfl
  simp only [List.set_cons_zero, List.set_cons_succ]
  obtain ⟨Wy, hWy⟩ : ∃ Wy, Wy = W4.drew.drewN q := ⟨_, rfl⟩
  have hA2 : Wy.heap[H + 2]? = some (.cells #[.int .i64 0] 3 (0, 0)) := by rw [hWy]; exact (unhide HA).1
  have hA3 : Wy.heap[H + 3]? = some (.cells #[.int .i64 0] 3 (0, 0)) := by rw [hWy]; exact (unhide HA).2
  have HKy : Hid (Below H w Wy) := hide (by rw [hWy]; exact ⟨(unhide HBL).os, (unhide HBL).tape, (unhide HBL).output, (unhide HBL).size, (unhide HBL).block⟩)
  have hHy : (fun y => y.cell? ⟨H, 0, none⟩ = some (.pointer (some ⟨gx, 0, none⟩)) ∧ y.cell? ⟨H + 1, 0, none⟩ = some (.int .i64 (p : Int)) ∧ y.cell? ⟨gx, 0, none⟩ = some (.slice a L cap) ∧ y.cell? ⟨gx, 1, none⟩ = some (.int .i64 (W : Int)) ∧ y.cell? ⟨gx, 2, none⟩ = some (.int .i64 (M : Int))) Wy := by rw [hWy]; exact hHeld
  rw [← hWy]
  clear hWy hHeld
  have hHy3 : (fun y => y.cell? ⟨H, 0, none⟩ = some (.pointer (some ⟨gx, 0, none⟩)) ∧ y.cell? ⟨H + 1, 0, none⟩ = some (.int .i64 (p : Int)) ∧ y.cell? ⟨gx, 0, none⟩ = some (.slice a L cap) ∧ y.cell? ⟨gx, 1, none⟩ = some (.int .i64 (W : Int)) ∧ y.cell? ⟨gx, 2, none⟩ = some (.int .i64 (M : Int))) (Wy.setCell ⟨H + 2, 0, none⟩ (.int .i64 (n2 : Int))) := unhide HKS _ _ _ (.inl rfl) hHy
  have hHy4 : (fun y => y.cell? ⟨H, 0, none⟩ = some (.pointer (some ⟨gx, 0, none⟩)) ∧ y.cell? ⟨H + 1, 0, none⟩ = some (.int .i64 (p : Int)) ∧ y.cell? ⟨gx, 0, none⟩ = some (.slice a L cap) ∧ y.cell? ⟨gx, 1, none⟩ = some (.int .i64 (W : Int)) ∧ y.cell? ⟨gx, 2, none⟩ = some (.int .i64 (M : Int))) ((Wy.setCell ⟨H + 2, 0, none⟩ (.int .i64 (n2 : Int))).setCell ⟨H + 3, 0, none⟩ (.int .i64 (d2 : Int))) := unhide HKS _ _ _ (.inr rfl) hHy3
  have q1 : Wy.cell? ⟨H + 2, 0, none⟩ = some (.int .i64 0) := by simp [World.cell?, hA2]
  have q2 : Wy.frozen? ⟨H + 2, 0, none⟩ = false := by simp [World.frozen?, hA2]
  have hB3 : (Wy.setCell ⟨H + 2, 0, none⟩ (.int .i64 (n2 : Int))).heap[H + 3]? = some (.cells #[.int .i64 0] 3 (0, 0)) := by rw [heap_setCell_other _ _ _ _ (by show H + 3 ≠ H + 2; omega)]; exact hA3
  have q3 : (Wy.setCell ⟨H + 2, 0, none⟩ (.int .i64 (n2 : Int))).cell? ⟨H + 3, 0, none⟩ = some (.int .i64 0) := by simp [World.cell?, hB3]
  have q4 : (Wy.setCell ⟨H + 2, 0, none⟩ (.int .i64 (n2 : Int))).frozen? ⟨H + 3, 0, none⟩ = false := by simp [World.frozen?, hB3]
  refine held_skip 19 (by kernel_rfl) rfl rfl (by rfl) (w' := Wy.setCell ⟨H + 2, 0, none⟩ (.int .i64 (n2 : Int))) ?_ hHy3 ?_
  · go_simp
  refine held_skip 20 (by kernel_rfl) rfl rfl (by rfl) (w' := (Wy.setCell ⟨H + 2, 0, none⟩ (.int .i64 (n2 : Int))).setCell ⟨H + 3, 0, none⟩ (.int .i64 (d2 : Int))) ?_ hHy4 ?_
  · go_simp
  refine wpAnyH_done (by kernel_rfl) ?_ _
  refine NoPanic.normal ?_
  have HBX := hide hbest
  have HBE : Hid (Below H w ((Wy.setCell ⟨H + 2, 0, none⟩ (.int .i64 (n2 : Int))).setCell ⟨H + 3, 0, none⟩ (.int .i64 (d2 : Int)))) := hide (((unhide HKy).setCell (by show H ≤ H + 2; omega) _).setCell (by show H ≤ H + 3; omega) _)
  have HC2 : Hid (((Wy.setCell ⟨H + 2, 0, none⟩ (.int .i64 (n2 : Int))).setCell ⟨H + 3, 0, none⟩ (.int .i64 (d2 : Int))).cell? ⟨H + 2, 0, none⟩ = some (.int .i64 (n2 : Int)) ∧ ((Wy.setCell ⟨H + 2, 0, none⟩ (.int .i64 (n2 : Int))).setCell ⟨H + 3, 0, none⟩ (.int .i64 (d2 : Int))).cell? ⟨H + 3, 0, none⟩ = some (.int .i64 (d2 : Int))) := hide ⟨by rw [World.cell?_of_block (heap_setCell_other _ _ _ _ (by show H + 2 ≠ H + 3; omega))]; simp only [World.cell?, heap_setCell_same _ (H + 2) 0 _ 3 _ hA2]; rfl, by simp only [World.cell?, heap_setCell_same _ (H + 3) 0 _ 3 _ hB3]; rfl⟩
  clear hbest hHy hHy3 hHy4 q1 q2 q3 q4 hA2 hA3 hB3
  go_wp2_with fail
  refine bodyPost_ret (results_two rfl _ _ ⟨H + 2, 0, none⟩ ⟨H + 3, 0, none⟩ rfl rfl _ _ (unhide HC2).1 (unhide HC2).2) rfl ⟨n2, d2, rfl, unhide HBX, by rw [← unhide HHW]; exact unhide HBE⟩

end Go.Proofs.Ytabnfnejlffioaa
