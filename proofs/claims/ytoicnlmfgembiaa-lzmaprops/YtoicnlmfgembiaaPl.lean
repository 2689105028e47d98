/- LzmaProps' walk. -/
import Derived.Test.YtoicnlmfgembiaaHd
namespace Go.Proofs.Ytoicnlmfgembiaa
open Go.RowKit
set_option maxRecDepth 100000
set_option linter.unusedVariables false
attribute [local go_sem ↓] Go.wp_at_zero Go.wp_at_succ

theorem rof_yes (b : Nat) (hb : b < 256) (w : World) (h : VOk ((b : Int) % 9) ((b : Int) / 9 % 5) ((b : Int) / 45)) : Calls Try.prog 6 #[.int .i64 (b : Int)] w fun e w' => e = .returned (.tuple #[.int .i64 ((b : Int) % 9), .int .i64 ((b : Int) / 9 % 5), .int .i64 ((b : Int) / 45), .int .i64 0]) ∧ w' = w := by
  refine (rof_ok b hb w).mono ?_
  unfold VOk at h
  rintro e w' ⟨rfl, ⟨p, l, c, h1, ⟨h2, h3⟩, rfl⟩ | ⟨h1, rfl⟩⟩
  · refine ⟨?_, rfl⟩
    have e9 : (b : Int) / 9 = 5 * (p : Int) + (l : Int) := by omega
    rw [show (b : Int) % 9 = (c : Int) by omega, show (b : Int) / 9 % 5 = (l : Int) by omega, show (b : Int) / 45 = (p : Int) by omega]
  · exact absurd ⟨by omega, by omega⟩ (h1 (b / 45) (b / 9 % 5) (b % 9) (by omega))

theorem rof_no (b : Nat) (hb : b < 256) (w : World) (h : ¬ VOk ((b : Int) % 9) ((b : Int) / 9 % 5) ((b : Int) / 45)) : Calls Try.prog 6 #[.int .i64 (b : Int)] w fun e w' => e = .returned (.tuple #[.int .i64 0, .int .i64 0, .int .i64 0, .int .i64 11]) ∧ w' = w := by
  refine (rof_ok b hb w).mono ?_
  unfold VOk at h
  rintro e w' ⟨rfl, ⟨p, l, c, h1, ⟨h2, h3⟩, rfl⟩ | ⟨h1, rfl⟩⟩
  · exact absurd (by omega) h
  · exact ⟨rfl, rfl⟩

theorem names_ok (w : World) : Calls Try.prog 9 #[] w fun e w' => e = .returned (.bool true) ∧ w' = w := by
  go_enter Try.func9, Try.ntmps9
  go_wp2_with fail
  go_ret
  exact ⟨rfl, rfl⟩

/-- what Of and its model tell, together -/
def OfIs (b : Nat) (c l p f : Int) : Prop := (∀ w, Calls Try.prog 5 #[.int .u8 (b : Int)] w fun e w' => e = .returned (.tuple #[.agg #[.int .i64 c, .int .i64 l, .int .i64 p], .int .i64 f]) ∧ Below w.heap.size w w') ∧ (∀ w, Calls Try.prog 6 #[.int .i64 (b : Int)] w fun e w' => e = .returned (.tuple #[.int .i64 c, .int .i64 l, .int .i64 p, .int .i64 f]) ∧ w' = w)

theorem of_is (b : Nat) (hb : b < 256) : ∃ c l p f : Int, OfIs b c l p f ∧ (c = c) := by
  by_cases h : VOk ((b : Int) % 9) ((b : Int) / 9 % 5) ((b : Int) / 45)
  · exact ⟨_, _, _, _, ⟨fun w => of_yes b hb w h, fun w => rof_yes b hb w h⟩, rfl⟩
  · exact ⟨_, _, _, _, ⟨fun w => of_no b hb w h, fun w => rof_no b hb w h⟩, rfl⟩

/-- the six cells -/
structure Six (x : World) (g0 g1 : Nat) (lc lp pb c l p : Int) : Prop where
  s0 : x.cell? ⟨g0, 0, none⟩ = some (.int .i64 lc)
  s1 : x.cell? ⟨g0, 1, none⟩ = some (.int .i64 lp)
  s2 : x.cell? ⟨g0, 2, none⟩ = some (.int .i64 pb)
  s3 : x.cell? ⟨g1, 0, none⟩ = some (.int .i64 c)
  s4 : x.cell? ⟨g1, 1, none⟩ = some (.int .i64 l)
  s5 : x.cell? ⟨g1, 2, none⟩ = some (.int .i64 p)

theorem six_of {x : World} {g0 g1 : Nat} {lc lp pb c l p : Int} (a1 : x.heap[g0]? = some (.cells #[.int .i64 lc, .int .i64 lp, .int .i64 pb] 23 (0, 0))) (a2 : x.heap[g1]? = some (.cells #[.int .i64 c, .int .i64 l, .int .i64 p] 23 (0, 0))) : Six x g0 g1 lc lp pb c l p :=
  ⟨by simp [World.cell?, a1], by simp [World.cell?, a1], by simp [World.cell?, a1], by simp [World.cell?, a2], by simp [World.cell?, a2], by simp [World.cell?, a2]⟩

theorem Six.alloc {x : World} {g0 g1 : Nat} {lc lp pb c l p : Int} (h : Six x g0 g1 lc lp pb c l p) (h1 : g0 < g1) (h2 : g1 < x.heap.size) (O : Obj) : Six (x.alloc O) g0 g1 lc lp pb c l p := by
  have k : ∀ g, g < x.heap.size → ∀ i, (x.alloc O).cell? ⟨g, i, none⟩ = x.cell? ⟨g, i, none⟩ := fun g hg i => World.cell?_of_block (Below.heap_alloc _ _ _ hg)
  exact ⟨by rw [k _ (by omega)]; exact h.s0, by rw [k _ (by omega)]; exact h.s1, by rw [k _ (by omega)]; exact h.s2, by rw [k _ h2]; exact h.s3, by rw [k _ h2]; exact h.s4, by rw [k _ h2]; exact h.s5⟩

set_option maxHeartbeats 8000000 in
theorem law_yes (lc lp pb : Int) (b : Nat) (hb : b < 256) (w : World) (h : VOk lc lp pb) : Calls Try.prog 3 #[.agg #[.int .i64 lc, .int .i64 lp, .int .i64 pb], .int .u8 (b : Int)] w fun e w' => e = .returned (.bool true) ∧ Below w.heap.size w w' := by
  obtain ⟨c, l, p, f, ⟨HO, HR⟩, _⟩ := of_is b hb
  have HB := fun w => byte_yes lc lp pb w h
  have HV := fun w => valid_ok lc lp pb true w (by simpa using h)
  have HX := fun w => rvalid_yes lc lp pb w h
  have HY := fun w => rbyte_ok lc lp pb w ⟨h.1, h.2.1, h.2.2.1, h.2.2.2.1, h.2.2.2.2.1, h.2.2.2.2.2.1⟩
  obtain ⟨x, hx⟩ : ∃ x : Int, x = (pb * 5 + lp) * 9 + lc := ⟨_, rfl⟩
  have fx : wrap64 x = x := by obtain ⟨h1, h2, h3, h4, h5, h6, h7⟩ := h; unfold wrap64; omega
  rw [← hx] at HB HY
  clear hx
  have f0 : wrap64 (b : Int) = (b : Int) := by unfold wrap64; omega
  unfold pcells at HB HV
  clear h hb
  go_enter Try.func3, Try.ntmps3
  go_wp2_with fail
  refine (HB _).mono ?_
  rintro e w1 ⟨rfl, b1⟩
  go_wp2_with fail
  refine (HO _).mono ?_
  rintro e w2 ⟨rfl, b2⟩
  go_wp2_with fail
  refine (HR _).mono ?_
  rintro e w3 ⟨rfl, rfl⟩
  go_wp2_with fail
  have a0 : w.heap.size < w2.heap.size := by have h1 := b1.size; have h2 := b2.size; simp at h1; omega
  have a1 : (w2.alloc (Obj.cells #[.int .i64 c, .int .i64 l, .int .i64 p] 23)).heap[w.heap.size]? = some (.cells #[.int .i64 lc, .int .i64 lp, .int .i64 pb] 23 (0, 0)) := by
    rw [Below.heap_alloc _ _ _ a0, b2.block _ (by have h1 := b1.size; simp at h1; omega), b1.block _ (by simp)]
    exact heap_alloc_new _ _
  have a2 : (w2.alloc (Obj.cells #[.int .i64 c, .int .i64 l, .int .i64 p] 23)).heap[w2.heap.size]? = some (.cells #[.int .i64 c, .int .i64 l, .int .i64 p] 23 (0, 0)) := heap_alloc_new _ _
  have HW : Hid (Below w.heap.size w (w2.alloc (Obj.cells #[.int .i64 c, .int .i64 l, .int .i64 p] 23))) := by
    have k1 : Below w.heap.size w w1 := (Below.alloc (Below.refl _ _) (Nat.le_refl _) _).trans (b1.mono (by simp))
    exact Below.alloc (k1.trans (b2.mono k1.size)) (Nat.le_of_lt a0) _
  have HA : Hid (w.heap.size < w2.heap.size) := a0
  clear b1 b2 a0
  obtain ⟨g1, hg1⟩ : ∃ g1, g1 = w2.heap.size := ⟨_, rfl⟩
  rw [← hg1] at a2 HA ⊢
  have h6 := six_of a1 a2
  have HS : Hid (g1 < (w2.alloc (Obj.cells #[.int .i64 c, .int .i64 l, .int .i64 p] 23)).heap.size) := by rw [hg1]; simp [Hid]
  generalize (w2.alloc (Obj.cells #[.int .i64 c, .int .i64 l, .int .i64 p] 23)) = x0 at h6 HW HS ⊢
  clear hg1 a1 a2
  refine wp_region_noPanic ?_
  refine wp_region_held_drew (S := fun x => Six x w.heap.size g1 lc lp pb c l p) (by kernel_rfl) (show Six x0.drew _ _ _ _ _ _ _ _ from ⟨h6.s0, h6.s1, h6.s2, h6.s3, h6.s4, h6.s5⟩) (fun hHeld => ?_)
  clear h6
  show wpAnyH _ _ _ _ _ _ _ _ x0.drew
  have HW : Hid (Below w.heap.size w x0.drew) := Below.drew HW
  have HS : Hid (g1 < x0.drew.heap.size) := HS
  generalize x0.drew = x1 at hHeld HW HS ⊢
  refine held_take 0 31 rfl rfl (by kernel_rfl) (by kernel_rfl) (by kernel_rfl) (by rfl) hHeld noPanic_panic (v := ?_) (fun x hSx => ?_) ?_
  rotate_left 1
  · (obtain ⟨s0, s1, s2, s3, s4, s5⟩ := hSx; go_simp <;> with_reducible rfl)
  simp only [List.set_cons_zero, List.set_cons_succ]
  refine held_take 1 32 rfl rfl (by kernel_rfl) (by kernel_rfl) (by kernel_rfl) (by rfl) hHeld noPanic_panic (v := ?_) (fun x hSx => ?_) ?_
  rotate_left 1
  · (obtain ⟨s0, s1, s2, s3, s4, s5⟩ := hSx; go_simp <;> with_reducible rfl)
  simp only [List.set_cons_zero, List.set_cons_succ]
  refine held_take 2 33 rfl rfl (by kernel_rfl) (by kernel_rfl) (by kernel_rfl) (by rfl) hHeld noPanic_panic (v := ?_) (fun x hSx => ?_) ?_
  rotate_left 1
  · (obtain ⟨s0, s1, s2, s3, s4, s5⟩ := hSx; go_simp <;> with_reducible rfl)
  simp only [List.set_cons_zero, List.set_cons_succ]
  refine held_take 3 34 rfl rfl (by kernel_rfl) (by kernel_rfl) (by kernel_rfl) (by rfl) hHeld noPanic_panic (v := ?_) (fun x hSx => ?_) ?_
  rotate_left 1
  · (obtain ⟨s0, s1, s2, s3, s4, s5⟩ := hSx; go_simp <;> with_reducible rfl)
  simp only [List.set_cons_zero, List.set_cons_succ]
  refine held_take 4 35 rfl rfl (by kernel_rfl) (by kernel_rfl) (by kernel_rfl) (by rfl) hHeld noPanic_panic (v := ?_) (fun x hSx => ?_) ?_
  rotate_left 1
  · (obtain ⟨s0, s1, s2, s3, s4, s5⟩ := hSx; go_simp <;> with_reducible rfl)
  simp only [List.set_cons_zero, List.set_cons_succ]
  refine held_take 5 36 rfl rfl (by kernel_rfl) (by kernel_rfl) (by kernel_rfl) (by rfl) hHeld noPanic_panic (v := ?_) (fun x hSx => ?_) ?_
  rotate_left 1
  · (obtain ⟨s0, s1, s2, s3, s4, s5⟩ := hSx; go_simp <;> with_reducible rfl)
  simp only [List.set_cons_zero, List.set_cons_succ]
  refine held_take 6 37 rfl rfl (by kernel_rfl) (by kernel_rfl) (by kernel_rfl) (by rfl) hHeld noPanic_panic (v := ?_) (fun x hSx => ?_) ?_
  rotate_left 1
  · (obtain ⟨s0, s1, s2, s3, s4, s5⟩ := hSx; go_simp <;> with_reducible rfl)
  simp only [List.set_cons_zero, List.set_cons_succ]
  refine held_take 7 38 rfl rfl (by kernel_rfl) (by kernel_rfl) (by kernel_rfl) (by rfl) hHeld noPanic_panic (v := ?_) (fun x hSx => ?_) ?_
  rotate_left 1
  · (obtain ⟨s0, s1, s2, s3, s4, s5⟩ := hSx; go_simp <;> with_reducible rfl)
  simp only [List.set_cons_zero, List.set_cons_succ]
  refine held_take 8 39 rfl rfl (by kernel_rfl) (by kernel_rfl) (by kernel_rfl) (by rfl) hHeld noPanic_panic (v := ?_) (fun x hSx => ?_) ?_
  rotate_left 1
  · (obtain ⟨s0, s1, s2, s3, s4, s5⟩ := hSx; go_simp <;> with_reducible rfl)
  simp only [List.set_cons_zero, List.set_cons_succ]
  refine held_take 9 40 rfl rfl (by kernel_rfl) (by kernel_rfl) (by kernel_rfl) (by rfl) hHeld noPanic_panic (v := ?_) (fun x hSx => ?_) ?_
  rotate_left 1
  · (obtain ⟨s0, s1, s2, s3, s4, s5⟩ := hSx; go_simp <;> with_reducible rfl)
  simp only [List.set_cons_zero, List.set_cons_succ]
  refine held_take 10 41 rfl rfl (by kernel_rfl) (by kernel_rfl) (by kernel_rfl) (by rfl) hHeld noPanic_panic (v := ?_) (fun x hSx => ?_) ?_
  rotate_left 1
  · (obtain ⟨s0, s1, s2, s3, s4, s5⟩ := hSx; go_simp <;> with_reducible rfl)
  simp only [List.set_cons_zero, List.set_cons_succ]
  refine held_take 11 42 rfl rfl (by kernel_rfl) (by kernel_rfl) (by kernel_rfl) (by rfl) hHeld noPanic_panic (v := ?_) (fun x hSx => ?_) ?_
  rotate_left 1
  · (obtain ⟨s0, s1, s2, s3, s4, s5⟩ := hSx; go_simp <;> with_reducible rfl)
  simp only [List.set_cons_zero, List.set_cons_succ]
  refine held_take 12 43 rfl rfl (by kernel_rfl) (by kernel_rfl) (by kernel_rfl) (by rfl) hHeld noPanic_panic (v := ?_) (fun x hSx => ?_) ?_
  rotate_left 1
  · (obtain ⟨s0, s1, s2, s3, s4, s5⟩ := hSx; go_simp <;> with_reducible rfl)
  simp only [List.set_cons_zero, List.set_cons_succ]
  refine held_take 14 45 rfl rfl (by kernel_rfl) (by kernel_rfl) (by kernel_rfl) (by rfl) hHeld noPanic_panic (v := ?_) (fun x hSx => ?_) ?_
  rotate_left 1
  · (obtain ⟨s0, s1, s2, s3, s4, s5⟩ := hSx; go_simp <;> with_reducible rfl)
  simp only [List.set_cons_zero, List.set_cons_succ]
  refine held_take 15 46 rfl rfl (by kernel_rfl) (by kernel_rfl) (by kernel_rfl) (by rfl) hHeld noPanic_panic (v := ?_) (fun x hSx => ?_) ?_
  rotate_left 1
  · (obtain ⟨s0, s1, s2, s3, s4, s5⟩ := hSx; go_simp <;> with_reducible rfl)
  simp only [List.set_cons_zero, List.set_cons_succ]
  refine held_take 16 47 rfl rfl (by kernel_rfl) (by kernel_rfl) (by kernel_rfl) (by rfl) hHeld noPanic_panic (v := ?_) (fun x hSx => ?_) ?_
  rotate_left 1
  · (obtain ⟨s0, s1, s2, s3, s4, s5⟩ := hSx; go_simp <;> with_reducible rfl)
  simp only [List.set_cons_zero, List.set_cons_succ]
  refine held_take 17 48 rfl rfl (by kernel_rfl) (by kernel_rfl) (by kernel_rfl) (by rfl) hHeld noPanic_panic (v := ?_) (fun x hSx => ?_) ?_
  rotate_left 1
  · (obtain ⟨s0, s1, s2, s3, s4, s5⟩ := hSx; go_simp <;> with_reducible rfl)
  simp only [List.set_cons_zero, List.set_cons_succ]
  refine held_take 18 49 rfl rfl (by kernel_rfl) (by kernel_rfl) (by kernel_rfl) (by rfl) hHeld noPanic_panic (v := ?_) (fun x hSx => ?_) ?_
  rotate_left 1
  · (obtain ⟨s0, s1, s2, s3, s4, s5⟩ := hSx; go_simp <;> with_reducible rfl)
  simp only [List.set_cons_zero, List.set_cons_succ]
  refine held_take 19 50 rfl rfl (by kernel_rfl) (by kernel_rfl) (by kernel_rfl) (by rfl) hHeld noPanic_panic (v := ?_) (fun x hSx => ?_) ?_
  rotate_left 1
  · (obtain ⟨s0, s1, s2, s3, s4, s5⟩ := hSx; go_simp <;> with_reducible rfl)
  simp only [List.set_cons_zero, List.set_cons_succ]
  refine held_enter 13 44 (by kernel_rfl) rfl rfl (by rfl) (by go_simp <;> exact ⟨rfl, rfl⟩) ?_
  refine (HV _).mono ?_
  rintro e w3 ⟨rfl, rfl⟩
  have hHeld : Six (x1.alloc (.cells #[.int .i64 lc, .int .i64 lp, .int .i64 pb] 23)) w.heap.size g1 lc lp pb c l p := hHeld.alloc HA HS _
  have HW : Hid (Below w.heap.size w (x1.alloc (.cells #[.int .i64 lc, .int .i64 lp, .int .i64 pb] 23))) := Below.alloc HW HW.size _
  refine ⟨_, rfl, hHeld, ?_⟩
  simp only [List.set_cons_zero, List.set_cons_succ]
  generalize (x1.alloc (.cells #[.int .i64 lc, .int .i64 lp, .int .i64 pb] 23)) = x2 at hHeld HW ⊢
  refine held_enter 20 51 (by kernel_rfl) rfl rfl (by rfl) (by go_simp <;> exact ⟨rfl, rfl⟩) ?_
  refine (HX _).mono ?_
  rintro e w3 ⟨rfl, rfl⟩
  refine ⟨_, rfl, hHeld, ?_⟩
  simp only [List.set_cons_zero, List.set_cons_succ]
  refine held_take 21 52 rfl rfl (by kernel_rfl) (by kernel_rfl) (by kernel_rfl) (by rfl) hHeld noPanic_panic (v := ?_) (fun x hSx => ?_) ?_
  rotate_left 1
  · (obtain ⟨s0, s1, s2, s3, s4, s5⟩ := hSx; go_simp <;> with_reducible rfl)
  simp only [List.set_cons_zero, List.set_cons_succ]
  refine held_take 22 53 rfl rfl (by kernel_rfl) (by kernel_rfl) (by kernel_rfl) (by rfl) hHeld noPanic_panic (v := ?_) (fun x hSx => ?_) ?_
  rotate_left 1
  · (obtain ⟨s0, s1, s2, s3, s4, s5⟩ := hSx; go_simp <;> with_reducible rfl)
  simp only [List.set_cons_zero, List.set_cons_succ]
  refine wpAnyH_done (by kernel_rfl) ?_ _
  refine NoPanic.normal ?_
  obtain ⟨s0, s1, s2, s3, s4, s5⟩ := hHeld
  go_wp2_with fail
  refine (HX _).mono ?_
  rintro e w3 ⟨rfl, rfl⟩
  go_wp2_with fail
  refine (HY _).mono ?_
  rintro e w3 ⟨rfl, rfl⟩
  go_wp2_with fail
  go_ret
  exact ⟨rfl, HW⟩

set_option maxHeartbeats 8000000 in
theorem law_no (lc lp pb : Int) (b : Nat) (hb : b < 256) (w : World) (h : ¬ VOk lc lp pb) : Calls Try.prog 3 #[.agg #[.int .i64 lc, .int .i64 lp, .int .i64 pb], .int .u8 (b : Int)] w fun e w' => e = .returned (.bool true) ∧ Below w.heap.size w w' := by
  obtain ⟨c, l, p, f, ⟨HO, HR⟩, _⟩ := of_is b hb
  have HB := fun w => byte_no lc lp pb w h
  have HV := fun w => valid_ok lc lp pb false w (by simpa using h)
  have HX := fun w => rvalid_no lc lp pb w h
  have f0 : wrap64 (b : Int) = (b : Int) := by unfold wrap64; omega
  unfold pcells at HB HV
  clear h hb
  go_enter Try.func3, Try.ntmps3
  go_wp2_with fail
  refine (HB _).mono ?_
  rintro e w1 ⟨rfl, b1⟩
  go_wp2_with fail
  refine (HO _).mono ?_
  rintro e w2 ⟨rfl, b2⟩
  go_wp2_with fail
  refine (HR _).mono ?_
  rintro e w3 ⟨rfl, rfl⟩
  go_wp2_with fail
  have a0 : w.heap.size < w2.heap.size := by have h1 := b1.size; have h2 := b2.size; simp at h1; omega
  have a1 : (w2.alloc (Obj.cells #[.int .i64 c, .int .i64 l, .int .i64 p] 23)).heap[w.heap.size]? = some (.cells #[.int .i64 lc, .int .i64 lp, .int .i64 pb] 23 (0, 0)) := by
    rw [Below.heap_alloc _ _ _ a0, b2.block _ (by have h1 := b1.size; simp at h1; omega), b1.block _ (by simp)]
    exact heap_alloc_new _ _
  have a2 : (w2.alloc (Obj.cells #[.int .i64 c, .int .i64 l, .int .i64 p] 23)).heap[w2.heap.size]? = some (.cells #[.int .i64 c, .int .i64 l, .int .i64 p] 23 (0, 0)) := heap_alloc_new _ _
  have HW : Hid (Below w.heap.size w (w2.alloc (Obj.cells #[.int .i64 c, .int .i64 l, .int .i64 p] 23))) := by
    have k1 : Below w.heap.size w w1 := (Below.alloc (Below.refl _ _) (Nat.le_refl _) _).trans (b1.mono (by simp))
    exact Below.alloc (k1.trans (b2.mono k1.size)) (Nat.le_of_lt a0) _
  have HA : Hid (w.heap.size < w2.heap.size) := a0
  clear b1 b2 a0
  obtain ⟨g1, hg1⟩ : ∃ g1, g1 = w2.heap.size := ⟨_, rfl⟩
  rw [← hg1] at a2 HA ⊢
  have h6 := six_of a1 a2
  have HS : Hid (g1 < (w2.alloc (Obj.cells #[.int .i64 c, .int .i64 l, .int .i64 p] 23)).heap.size) := by rw [hg1]; simp [Hid]
  generalize (w2.alloc (Obj.cells #[.int .i64 c, .int .i64 l, .int .i64 p] 23)) = x0 at h6 HW HS ⊢
  clear hg1 a1 a2
  refine wp_region_noPanic ?_
  refine wp_region_held_drew (S := fun x => Six x w.heap.size g1 lc lp pb c l p) (by kernel_rfl) (show Six x0.drew _ _ _ _ _ _ _ _ from ⟨h6.s0, h6.s1, h6.s2, h6.s3, h6.s4, h6.s5⟩) (fun hHeld => ?_)
  clear h6
  show wpAnyH _ _ _ _ _ _ _ _ x0.drew
  have HW : Hid (Below w.heap.size w x0.drew) := Below.drew HW
  have HS : Hid (g1 < x0.drew.heap.size) := HS
  generalize x0.drew = x1 at hHeld HW HS ⊢
  refine held_take 0 31 rfl rfl (by kernel_rfl) (by kernel_rfl) (by kernel_rfl) (by rfl) hHeld noPanic_panic (v := ?_) (fun x hSx => ?_) ?_
  rotate_left 1
  · (obtain ⟨s0, s1, s2, s3, s4, s5⟩ := hSx; go_simp <;> with_reducible rfl)
  simp only [List.set_cons_zero, List.set_cons_succ]
  refine held_take 1 32 rfl rfl (by kernel_rfl) (by kernel_rfl) (by kernel_rfl) (by rfl) hHeld noPanic_panic (v := ?_) (fun x hSx => ?_) ?_
  rotate_left 1
  · (obtain ⟨s0, s1, s2, s3, s4, s5⟩ := hSx; go_simp <;> with_reducible rfl)
  simp only [List.set_cons_zero, List.set_cons_succ]
  refine held_take 2 33 rfl rfl (by kernel_rfl) (by kernel_rfl) (by kernel_rfl) (by rfl) hHeld noPanic_panic (v := ?_) (fun x hSx => ?_) ?_
  rotate_left 1
  · (obtain ⟨s0, s1, s2, s3, s4, s5⟩ := hSx; go_simp <;> with_reducible rfl)
  simp only [List.set_cons_zero, List.set_cons_succ]
  refine held_take 3 34 rfl rfl (by kernel_rfl) (by kernel_rfl) (by kernel_rfl) (by rfl) hHeld noPanic_panic (v := ?_) (fun x hSx => ?_) ?_
  rotate_left 1
  · (obtain ⟨s0, s1, s2, s3, s4, s5⟩ := hSx; go_simp <;> with_reducible rfl)
  simp only [List.set_cons_zero, List.set_cons_succ]
  refine held_take 4 35 rfl rfl (by kernel_rfl) (by kernel_rfl) (by kernel_rfl) (by rfl) hHeld noPanic_panic (v := ?_) (fun x hSx => ?_) ?_
  rotate_left 1
  · (obtain ⟨s0, s1, s2, s3, s4, s5⟩ := hSx; go_simp <;> with_reducible rfl)
  simp only [List.set_cons_zero, List.set_cons_succ]
  refine held_take 5 36 rfl rfl (by kernel_rfl) (by kernel_rfl) (by kernel_rfl) (by rfl) hHeld noPanic_panic (v := ?_) (fun x hSx => ?_) ?_
  rotate_left 1
  · (obtain ⟨s0, s1, s2, s3, s4, s5⟩ := hSx; go_simp <;> with_reducible rfl)
  simp only [List.set_cons_zero, List.set_cons_succ]
  refine held_take 6 37 rfl rfl (by kernel_rfl) (by kernel_rfl) (by kernel_rfl) (by rfl) hHeld noPanic_panic (v := ?_) (fun x hSx => ?_) ?_
  rotate_left 1
  · (obtain ⟨s0, s1, s2, s3, s4, s5⟩ := hSx; go_simp <;> with_reducible rfl)
  simp only [List.set_cons_zero, List.set_cons_succ]
  refine held_take 7 38 rfl rfl (by kernel_rfl) (by kernel_rfl) (by kernel_rfl) (by rfl) hHeld noPanic_panic (v := ?_) (fun x hSx => ?_) ?_
  rotate_left 1
  · (obtain ⟨s0, s1, s2, s3, s4, s5⟩ := hSx; go_simp <;> with_reducible rfl)
  simp only [List.set_cons_zero, List.set_cons_succ]
  refine held_take 8 39 rfl rfl (by kernel_rfl) (by kernel_rfl) (by kernel_rfl) (by rfl) hHeld noPanic_panic (v := ?_) (fun x hSx => ?_) ?_
  rotate_left 1
  · (obtain ⟨s0, s1, s2, s3, s4, s5⟩ := hSx; go_simp <;> with_reducible rfl)
  simp only [List.set_cons_zero, List.set_cons_succ]
  refine held_take 9 40 rfl rfl (by kernel_rfl) (by kernel_rfl) (by kernel_rfl) (by rfl) hHeld noPanic_panic (v := ?_) (fun x hSx => ?_) ?_
  rotate_left 1
  · (obtain ⟨s0, s1, s2, s3, s4, s5⟩ := hSx; go_simp <;> with_reducible rfl)
  simp only [List.set_cons_zero, List.set_cons_succ]
  refine held_take 10 41 rfl rfl (by kernel_rfl) (by kernel_rfl) (by kernel_rfl) (by rfl) hHeld noPanic_panic (v := ?_) (fun x hSx => ?_) ?_
  rotate_left 1
  · (obtain ⟨s0, s1, s2, s3, s4, s5⟩ := hSx; go_simp <;> with_reducible rfl)
  simp only [List.set_cons_zero, List.set_cons_succ]
  refine held_take 11 42 rfl rfl (by kernel_rfl) (by kernel_rfl) (by kernel_rfl) (by rfl) hHeld noPanic_panic (v := ?_) (fun x hSx => ?_) ?_
  rotate_left 1
  · (obtain ⟨s0, s1, s2, s3, s4, s5⟩ := hSx; go_simp <;> with_reducible rfl)
  simp only [List.set_cons_zero, List.set_cons_succ]
  refine held_take 12 43 rfl rfl (by kernel_rfl) (by kernel_rfl) (by kernel_rfl) (by rfl) hHeld noPanic_panic (v := ?_) (fun x hSx => ?_) ?_
  rotate_left 1
  · (obtain ⟨s0, s1, s2, s3, s4, s5⟩ := hSx; go_simp <;> with_reducible rfl)
  simp only [List.set_cons_zero, List.set_cons_succ]
  refine held_take 14 45 rfl rfl (by kernel_rfl) (by kernel_rfl) (by kernel_rfl) (by rfl) hHeld noPanic_panic (v := ?_) (fun x hSx => ?_) ?_
  rotate_left 1
  · (obtain ⟨s0, s1, s2, s3, s4, s5⟩ := hSx; go_simp <;> with_reducible rfl)
  simp only [List.set_cons_zero, List.set_cons_succ]
  refine held_take 15 46 rfl rfl (by kernel_rfl) (by kernel_rfl) (by kernel_rfl) (by rfl) hHeld noPanic_panic (v := ?_) (fun x hSx => ?_) ?_
  rotate_left 1
  · (obtain ⟨s0, s1, s2, s3, s4, s5⟩ := hSx; go_simp <;> with_reducible rfl)
  simp only [List.set_cons_zero, List.set_cons_succ]
  refine held_take 16 47 rfl rfl (by kernel_rfl) (by kernel_rfl) (by kernel_rfl) (by rfl) hHeld noPanic_panic (v := ?_) (fun x hSx => ?_) ?_
  rotate_left 1
  · (obtain ⟨s0, s1, s2, s3, s4, s5⟩ := hSx; go_simp <;> with_reducible rfl)
  simp only [List.set_cons_zero, List.set_cons_succ]
  refine held_take 17 48 rfl rfl (by kernel_rfl) (by kernel_rfl) (by kernel_rfl) (by rfl) hHeld noPanic_panic (v := ?_) (fun x hSx => ?_) ?_
  rotate_left 1
  · (obtain ⟨s0, s1, s2, s3, s4, s5⟩ := hSx; go_simp <;> with_reducible rfl)
  simp only [List.set_cons_zero, List.set_cons_succ]
  refine held_take 18 49 rfl rfl (by kernel_rfl) (by kernel_rfl) (by kernel_rfl) (by rfl) hHeld noPanic_panic (v := ?_) (fun x hSx => ?_) ?_
  rotate_left 1
  · (obtain ⟨s0, s1, s2, s3, s4, s5⟩ := hSx; go_simp <;> with_reducible rfl)
  simp only [List.set_cons_zero, List.set_cons_succ]
  refine held_take 19 50 rfl rfl (by kernel_rfl) (by kernel_rfl) (by kernel_rfl) (by rfl) hHeld noPanic_panic (v := ?_) (fun x hSx => ?_) ?_
  rotate_left 1
  · (obtain ⟨s0, s1, s2, s3, s4, s5⟩ := hSx; go_simp <;> with_reducible rfl)
  simp only [List.set_cons_zero, List.set_cons_succ]
  refine held_enter 13 44 (by kernel_rfl) rfl rfl (by rfl) (by go_simp <;> exact ⟨rfl, rfl⟩) ?_
  refine (HV _).mono ?_
  rintro e w3 ⟨rfl, rfl⟩
  have hHeld : Six (x1.alloc (.cells #[.int .i64 lc, .int .i64 lp, .int .i64 pb] 23)) w.heap.size g1 lc lp pb c l p := hHeld.alloc HA HS _
  have HW : Hid (Below w.heap.size w (x1.alloc (.cells #[.int .i64 lc, .int .i64 lp, .int .i64 pb] 23))) := Below.alloc HW HW.size _
  refine ⟨_, rfl, hHeld, ?_⟩
  simp only [List.set_cons_zero, List.set_cons_succ]
  generalize (x1.alloc (.cells #[.int .i64 lc, .int .i64 lp, .int .i64 pb] 23)) = x2 at hHeld HW ⊢
  refine held_enter 20 51 (by kernel_rfl) rfl rfl (by rfl) (by go_simp <;> exact ⟨rfl, rfl⟩) ?_
  refine (HX _).mono ?_
  rintro e w3 ⟨rfl, rfl⟩
  refine ⟨_, rfl, hHeld, ?_⟩
  simp only [List.set_cons_zero, List.set_cons_succ]
  refine held_take 21 52 rfl rfl (by kernel_rfl) (by kernel_rfl) (by kernel_rfl) (by rfl) hHeld noPanic_panic (v := ?_) (fun x hSx => ?_) ?_
  rotate_left 1
  · (obtain ⟨s0, s1, s2, s3, s4, s5⟩ := hSx; go_simp <;> with_reducible rfl)
  simp only [List.set_cons_zero, List.set_cons_succ]
  refine held_take 22 53 rfl rfl (by kernel_rfl) (by kernel_rfl) (by kernel_rfl) (by rfl) hHeld noPanic_panic (v := ?_) (fun x hSx => ?_) ?_
  rotate_left 1
  · (obtain ⟨s0, s1, s2, s3, s4, s5⟩ := hSx; go_simp <;> with_reducible rfl)
  simp only [List.set_cons_zero, List.set_cons_succ]
  refine wpAnyH_done (by kernel_rfl) ?_ _
  refine NoPanic.normal ?_
  obtain ⟨s0, s1, s2, s3, s4, s5⟩ := hHeld
  go_wp2_with fail
  refine (HX _).mono ?_
  rintro e w3 ⟨rfl, rfl⟩
  go_wp2_with fail
  refine (names_ok _).mono ?_
  rintro e w3 ⟨rfl, rfl⟩
  go_wp2_with fail
  go_ret
  exact ⟨rfl, HW⟩
end Go.Proofs.Ytoicnlmfgembiaa
