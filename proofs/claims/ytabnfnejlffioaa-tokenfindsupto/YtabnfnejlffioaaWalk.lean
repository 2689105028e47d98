/- index.walk: the longest piece among the places of a level. -/
import Derived.Test.YtabnfnejlffioaaEach
namespace Go.Proofs.Ytabnfnejlffioaa
open Go.RowKit Go.Maps
set_option linter.unusedVariables false

attribute [local go_sem ↓] Go.wp_at_zero Go.wp_at_succ

theorem heap_alloc_at (w : World) (o : Obj) (i : Nat) : (w.alloc o).heap[i]? = if i = w.heap.size then some o else w.heap[i]? := by
  by_cases e : i = w.heap.size
  · rw [if_pos e, e]; exact heap_alloc_new _ _
  · rw [if_neg e]
    rcases Nat.lt_or_ge i w.heap.size with h | h
    · exact Below.heap_alloc _ _ _ h
    · rw [Array.getElem?_eq_none (by simp; omega), Array.getElem?_eq_none h]

set_option maxHeartbeats 1000000 in
theorem results_two {fn : Func} {a b : Tmp} (h : fn.results = #[.cell a 3, .cell b 3]) (tmps : Array Value) (w : World) (ad bd : Addr) (ha : tmps.getD a undef = .pointer (some ad)) (hb : tmps.getD b undef = .pointer (some bd)) (x y : Int) (hx : w.cell? ad = some (.int .i64 x)) (hy : w.cell? bd = some (.int .i64 y)) :
    (results fn tmps).run Try.prog w = .ok (.tuple #[.int .i64 x, .int .i64 y]) w := by
  simp only [results, h]
  simp only [List.mapM_toArray, List.mapM_cons, List.mapM_nil]
  simp only [ha, hb]
  go_simp

/-- look, then seek -/
theorem look_seek (zs : List Nat) (a : Option Addr) (cap B P V K : Nat) (w : World) (hr : ReadsU B w (.slice a zs.length cap) zs) (hcap : zs.length ≤ cap) (hz : ∀ z ∈ zs, z < 256) (hl : zs.length < 4294967281) (hP : P ≤ zs.length) (hV : V ≤ 9223372036854775807) (hK : K ≤ 9223372036854775807) (hm : ML w) :
    ∃ T u : Nat, Calls Try.prog 19 #[.slice a zs.length cap, .int .i64 (P : Int), .int .i64 (V : Int), .int .i64 (K : Int)] w fun e w' => ∃ a', e = .returned (.tuple #[.slice a' T T, .int .i64 (u : Int)]) ∧ w' = w ∧
      ∀ q, Calls Try.prog 18 #[.slice a' T T, .int .i64 (u : Int)] (w.drewN q) fun e w' => ∃ n d : Nat, e = .returned (.tuple #[.int .i64 (n : Int), .int .i64 (d : Int)]) ∧ IsBest (zf zs) P (min P V) (min K (zs.length - P)) n d ∧ ∃ q, w' = w.drewN q := by
  refine ⟨min P V + min K (zs.length - P), min P V, (look_ok zs a cap B P V K w hr hcap hP (by omega) hV hK).mono ?_⟩
  rintro e w' ⟨a', rfl, ha, rfl⟩
  refine ⟨a', rfl, rfl, fun q => ?_⟩
  have hln : ((zs.drop (P - min P V)).take (min P V + min K (zs.length - P))).length = min P V + min K (zs.length - P) := by simp; omega
  have := seek_ok ((zs.drop (P - min P V)).take (min P V + min K (zs.length - P))) a' B (min P V) (w'.drewN q) (by rw [hln]; exact ha.drewN q) (fun z h => hz z (List.mem_of_mem_drop (List.mem_of_mem_take h))) (by rw [hln]; omega) (by rw [hln]; omega) (hm.drewN q)
  rw [hln] at this
  refine this.mono ?_
  rintro e w'' ⟨n, d, rfl, hb, q', rfl⟩
  refine ⟨n, d, rfl, ?_, q + q', by rw [World.drewN_drewN]⟩
  rw [show min P V + min K (zs.length - P) - min P V = min K (zs.length - P) by omega] at hb
  have h5 := hb.shift (z := zf zs) (f := P - min P V) (Nat.le_refl _) (fun i hi => slice_get _ _ _ _ hi)
  rw [show P - min P V + min P V = P by omega] at h5
  exact h5

def WalkIs (zs : List Nat) (p u M : Nat) (w : World) (e : Ending) (w' : World) : Prop := ∃ n d : Nat, e = .returned (.tuple #[.int .i64 (n : Int), .int .i64 (d : Int)]) ∧ IsBest (zf zs) p u M n d ∧ Below w.heap.size w w'

set_option maxRecDepth 100000 in
set_option maxHeartbeats 4000000 in
theorem walk_ok (zs : List Nat) (B ba off cap p W M s b c0 gx g o : Nat) (v : Value) (w : World) (hr : ReadsU B w (.slice (some ⟨ba, off, none⟩) zs.length cap) zs) (hcap : zs.length ≤ cap) (hz : ∀ c ∈ zs, c < 256) (hl : zs.length ≤ 100000000) (hp : p + M ≤ zs.length) (hs1 : 1 ≤ s) (hsM : s ≤ M) (hB : B ≤ w.heap.size) (hW : W ≤ 9223372036854775807)
    (hx0 : w.cell? ⟨gx, 0, none⟩ = some (.slice (some ⟨ba, off, none⟩) zs.length cap)) (hx1 : w.cell? ⟨gx, 1, none⟩ = some (.int .i64 (W : Int)))
    (hlv : LvlAt zs s p B w g o b v) (hc0 : c0 = lastOf zs s p (keyAt zs s p)) (hf : p - min p W < c0) (hm : ML w) :
    Calls Try.prog 33 #[.pointer (some ⟨gx, 0, none⟩), .agg #[.int .i64 (s : Int), .map (some b), v], .int .i64 ((c0 : Int) - 1), .int .i64 (p : Int), .int .i64 (M : Int)] w fun e w' => WalkIs zs p (min p W) M w e w' := by
  obtain ⟨H, hH⟩ : ∃ H, H = w.heap.size := ⟨_, rfl⟩
  have HR := hide hr
  have HZ := hide hz
  have HLV := hide hlv
  have HML := hide hm
  obtain ⟨L, htx⟩ : ∃ L, L = zs.length := ⟨_, rfl⟩
  rw [← htx] at hx0 HR hcap hl hp
  have HX0 := hide hx0
  have HX1 := hide hx1
  have HTX := hide htx
  have HHW := hide hH
  have HC0 := hide hc0
  have HCM : Hid (M < 100000001) := hide (by omega)
  clear hr hz hlv hm htx hx0 hx1 hH hc0
  obtain ⟨u, hu⟩ : ∃ u, u = min p W := ⟨_, rfl⟩
  rw [← hu] at hf ⊢
  have m1 := run_min_nat (A := (p : Int)) (B := (W : Int)) rfl rfl hu
  obtain ⟨f, hff⟩ : ∃ f : Nat, (p : Int) - (u : Int) = (f : Int) := ⟨p - u, by omega⟩
  have hfp : p - u = f := by omega
  rw [hfp] at hf
  have hpf : p - f = u := by omega
  have HU := hide hu
  clear hu hfp
  go_enter Try.func33, Try.ntmps33
  go_upto_region 1 with fail
  have e4 : w.heap.size + 1 + 1 + 1 + 1 = H + 4 := by rw [unhide HHW]
  have e3 : w.heap.size + 1 + 1 + 1 = H + 3 := by rw [unhide HHW]
  have e2 : w.heap.size + 1 + 1 = H + 2 := by rw [unhide HHW]
  have e1 : w.heap.size + 1 = H + 1 := by rw [unhide HHW]
  have e0 : w.heap.size = H := (unhide HHW).symm
  rw [e4, e3, e2, e1, e0]
  generalize hW5 : (((((w.alloc (.cells #[.int .i64 (s : Int), .map (some b), v] 65)).alloc (.cells #[.int .i64 (p : Int)] 3)).alloc (.cells #[.int .i64 (M : Int)] 3)).alloc (.cells #[.int .i64 0] 3)).alloc (.cells #[.int .i64 0] 3)) = W5
  have HA : Hid (W5.heap[H]? = some (.cells #[.int .i64 (s : Int), .map (some b), v] 65 (0, 0)) ∧ W5.heap[H + 1]? = some (.cells #[.int .i64 (p : Int)] 3 (0, 0)) ∧ W5.heap[H + 2]? = some (.cells #[.int .i64 (M : Int)] 3 (0, 0)) ∧ W5.heap[H + 3]? = some (.cells #[.int .i64 ((0 : Nat) : Int)] 3 (0, 0)) ∧ W5.heap[H + 4]? = some (.cells #[.int .i64 ((0 : Nat) : Int)] 3 (0, 0))) := hide (by
    rw [← hW5, unhide HHW]
    refine ⟨?_, ?_, ?_, ?_, ?_⟩ <;> simp only [heap_alloc_at, World.size_alloc] <;> (repeat (first | rw [if_pos (by omega)] | rw [if_neg (by omega)])) <;> rfl)
  have HSZ5 : Hid (W5.heap.size = H + 5) := hide (by rw [← hW5, unhide HHW]; simp)
  have HBL5 : Hid (Below H w W5) := hide (by
    rw [← hW5]
    exact (((((Below.refl _ _).alloc (by omega) _).alloc (by simp; omega) _).alloc (by simp; omega) _).alloc (by simp; omega) _).alloc (by simp; omega) _)
  clear hW5 e0 e1 e2 e3 e4
  have hBH : B ≤ H := by rw [unhide HHW]; exact hB
  have hgxH : gx < H := by rw [unhide HHW]; exact cell_lt (unhide HX0)
  have HS1 : Hid (W5.drew.cell? ⟨H + 1, 0, none⟩ = some (.int .i64 (p : Int)) ∧ W5.drew.cell? ⟨gx, 0, none⟩ = some (.slice (some ⟨ba, off, none⟩) L cap) ∧ W5.drew.cell? ⟨gx, 1, none⟩ = some (.int .i64 (W : Int))) := hide (by
    refine ⟨?_, ?_, ?_⟩
    · show W5.cell? _ = _
      simp [World.cell?, (unhide HA).2.1]
    · show W5.cell? _ = _
      exact cell_below (unhide HBL5) (unhide HX0) hgxH
    · show W5.cell? _ = _
      exact cell_below (unhide HBL5) (unhide HX1) hgxH)
  have HK1 : Hid (∀ (y : World) (O : Obj), (y.cell? ⟨H + 1, 0, none⟩ = some (.int .i64 (p : Int)) ∧ y.cell? ⟨gx, 0, none⟩ = some (.slice (some ⟨ba, off, none⟩) L cap) ∧ y.cell? ⟨gx, 1, none⟩ = some (.int .i64 (W : Int))) → ((y.alloc O).cell? ⟨H + 1, 0, none⟩ = some (.int .i64 (p : Int)) ∧ (y.alloc O).cell? ⟨gx, 0, none⟩ = some (.slice (some ⟨ba, off, none⟩) L cap) ∧ (y.alloc O).cell? ⟨gx, 1, none⟩ = some (.int .i64 (W : Int)))) := hide fun y O h => by
    have hb := (Below.refl y.heap.size y).alloc (Nat.le_refl _) O
    exact ⟨cell_stays hb h.1, cell_stays hb h.2.1, cell_stays hb h.2.2⟩
  have HK2 : Hid (∀ (y : World) (x : Value), (y.cell? ⟨H + 1, 0, none⟩ = some (.int .i64 (p : Int)) ∧ y.cell? ⟨gx, 0, none⟩ = some (.slice (some ⟨ba, off, none⟩) L cap) ∧ y.cell? ⟨gx, 1, none⟩ = some (.int .i64 (W : Int))) → ((y.setCell ⟨H + 5, 0, none⟩ x).cell? ⟨H + 1, 0, none⟩ = some (.int .i64 (p : Int)) ∧ (y.setCell ⟨H + 5, 0, none⟩ x).cell? ⟨gx, 0, none⟩ = some (.slice (some ⟨ba, off, none⟩) L cap) ∧ (y.setCell ⟨H + 5, 0, none⟩ x).cell? ⟨gx, 1, none⟩ = some (.int .i64 (W : Int)))) := hide fun y x h => by
    refine ⟨?_, ?_, ?_⟩
    · rw [World.cell?_of_block (heap_setCell_other _ _ _ _ (by show H + 1 ≠ H + 5; omega))]; exact h.1
    · rw [World.cell?_of_block (heap_setCell_other _ _ _ _ (by show gx ≠ H + 5; omega))]; exact h.2.1
    · rw [World.cell?_of_block (heap_setCell_other _ _ _ _ (by show gx ≠ H + 5; omega))]; exact h.2.2
  have hwf : IntKind.i64.wrap (f : Int) = (f : Int) := IntWalk.i64_in _ (by omega)
  refine wp_region_noPanic ?_
  refine wp_region_held_drew (S := fun y => y.cell? ⟨H + 1, 0, none⟩ = some (.int .i64 (p : Int)) ∧ y.cell? ⟨gx, 0, none⟩ = some (.slice (some ⟨ba, off, none⟩) L cap) ∧ y.cell? ⟨gx, 1, none⟩ = some (.int .i64 (W : Int))) (by kernel_rfl) (unhide HS1) (fun hHeld => ?_)
  refine held_take 0 17 rfl rfl (by kernel_rfl) (by kernel_rfl) (by kernel_rfl) (by rfl) hHeld noPanic_panic (v := ?_) (fun x' hSx => ?_) ?_
  rotate_left 1
  · (obtain ⟨q1, q2, q3⟩ := hSx; go_simp <;> with_reducible rfl)
  simp only [List.set_cons_zero, List.set_cons_succ]
  refine held_take 1 18 rfl rfl (by kernel_rfl) (by kernel_rfl) (by kernel_rfl) (by rfl) hHeld noPanic_panic (v := ?_) (fun x' hSx => ?_) ?_
  rotate_left 1
  · (obtain ⟨q1, q2, q3⟩ := hSx; go_simp <;> with_reducible rfl)
  simp only [List.set_cons_zero, List.set_cons_succ]
  refine held_take 2 19 rfl rfl (by kernel_rfl) (by kernel_rfl) (by kernel_rfl) (by rfl) hHeld noPanic_panic (v := ?_) (fun x' hSx => ?_) ?_
  rotate_left 1
  · (obtain ⟨q1, q2, q3⟩ := hSx; go_simp <;> with_reducible rfl)
  simp only [List.set_cons_zero, List.set_cons_succ]
  refine held_take 3 20 rfl rfl (by kernel_rfl) (by kernel_rfl) (by kernel_rfl) (by rfl) hHeld noPanic_panic (v := ?_) (fun x' hSx => ?_) ?_
  rotate_left 1
  · (obtain ⟨q1, q2, q3⟩ := hSx; go_simp <;> with_reducible rfl)
  simp only [List.set_cons_zero, List.set_cons_succ]
  refine held_take 4 21 rfl rfl (by kernel_rfl) (by kernel_rfl) (by kernel_rfl) (by rfl) hHeld noPanic_panic (v := ?_) (fun x' hSx => ?_) ?_
  rotate_left 1
  · (obtain ⟨q1, q2, q3⟩ := hSx; go_simp <;> with_reducible rfl)
  simp only [List.set_cons_zero, List.set_cons_succ]
  refine held_take 5 22 rfl rfl (by kernel_rfl) (by kernel_rfl) (by kernel_rfl) (by rfl) hHeld noPanic_panic (v := ?_) (fun x' hSx => ?_) ?_
  rotate_left 1
  · (obtain ⟨q1, q2, q3⟩ := hSx; go_simp <;> with_reducible rfl)
  simp only [List.set_cons_zero, List.set_cons_succ]
  refine held_take 6 23 rfl rfl (by kernel_rfl) (by kernel_rfl) (by kernel_rfl) (by rfl) hHeld noPanic_panic (v := ?_) (fun x' hSx => ?_) ?_
  rotate_left 1
  · (obtain ⟨q1, q2, q3⟩ := hSx; go_simp <;> with_reducible rfl)
  simp only [List.set_cons_zero, List.set_cons_succ]
  refine held_take 7 24 rfl rfl (by kernel_rfl) (by kernel_rfl) (by kernel_rfl) (by rfl) hHeld noPanic_panic (v := ?_) (fun x' hSx => ?_) ?_
  rotate_left 1
  · (obtain ⟨q1, q2, q3⟩ := hSx; go_simp <;> with_reducible rfl)
  simp only [List.set_cons_zero, List.set_cons_succ]
  refine held_take 8 25 rfl rfl (by kernel_rfl) (by kernel_rfl) (by kernel_rfl) (by rfl) hHeld noPanic_panic (v := ?_) (fun x' hSx => ?_) ?_
  rotate_left 1
  · (obtain ⟨q1, q2, q3⟩ := hSx; go_simp <;> with_reducible rfl)
  simp only [List.set_cons_zero, List.set_cons_succ]
  refine held_take 9 26 rfl rfl (by kernel_rfl) (by kernel_rfl) (by kernel_rfl) (by rfl) hHeld noPanic_panic (v := ?_) (fun x' hSx => ?_) ?_
  rotate_left 1
  · (obtain ⟨q1, q2, q3⟩ := hSx; go_simp <;> with_reducible rfl)
  simp only [List.set_cons_zero, List.set_cons_succ]
  refine held_take 10 27 rfl rfl (by kernel_rfl) (by kernel_rfl) (by kernel_rfl) (by rfl) hHeld noPanic_panic (v := ?_) (fun x' hSx => ?_) ?_
  rotate_left 1
  · (obtain ⟨q1, q2, q3⟩ := hSx; go_simp <;> with_reducible rfl)
  simp only [List.set_cons_zero, List.set_cons_succ]
  refine held_take 11 28 rfl rfl (by kernel_rfl) (by kernel_rfl) (by kernel_rfl) (by rfl) hHeld noPanic_panic (v := ?_) (fun x' hSx => ?_) ?_
  rotate_left 1
  · (obtain ⟨q1, q2, q3⟩ := hSx; go_simp <;> with_reducible rfl)
  simp only [List.set_cons_zero, List.set_cons_succ]
  obtain ⟨Wd, hWd⟩ : ∃ Wd, Wd = W5.drew := ⟨_, rfl⟩
  rw [← hWd] at hHeld ⊢
  have HH5 : Hid (Wd.heap.size = H + 5) := hide (by rw [hWd]; exact unhide HSZ5)
  have HWD := hide hWd
  clear hWd
  refine held_one 12 12 (by kernel_rfl) rfl rfl (by rfl) (v := .pointer (some ⟨Wd.heap.size, 0, none⟩)) (w' := Wd.alloc (.cells #[.slice none 0 0] 22)) ?_ (unhide HK1 _ _ hHeld) ?_
  · go_simp <;> exact ⟨rfl, rfl⟩
  simp only [List.set_cons_zero, List.set_cons_succ]
  rw [unhide HH5]
  refine held_skip 13 (by kernel_rfl) rfl rfl (by rfl) (w' := (Wd.alloc (.cells #[.slice none 0 0] 22)).setCell ⟨H + 5, 0, none⟩ (.slice (some ⟨ba, off, none⟩) L cap)) ?_ (unhide HK2 _ _ (unhide HK1 _ _ hHeld)) ?_
  · (have q1 : (Wd.alloc (.cells #[.slice none 0 0] 22)).cell? ⟨H + 5, 0, none⟩ = some (.slice none 0 0) := (by rw [← unhide HH5]; simp only [World.cell?, heap_alloc_new]; try rfl); have q2 : (Wd.alloc (.cells #[.slice none 0 0] 22)).frozen? ⟨H + 5, 0, none⟩ = false := (by rw [← unhide HH5]; simp only [World.frozen?, heap_alloc_new]; simp); go_simp)
  have hHeld := unhide HK2 (Wd.alloc (.cells #[.slice none 0 0] 22)) (.slice (some ⟨ba, off, none⟩) L cap) (unhide HK1 _ _ hHeld)
  refine held_take 14 13 rfl rfl (by kernel_rfl) (by kernel_rfl) (by kernel_rfl) (by rfl) hHeld noPanic_panic (v := ?_) (fun x' hSx => ?_) ?_
  rotate_left 1
  · (go_simp <;> with_reducible rfl)
  simp only [List.set_cons_zero, List.set_cons_succ]
  refine wpAnyH_done (by kernel_rfl) ?_ _
  refine NoPanic.normal ?_
  obtain ⟨W6, hW6⟩ : ∃ W6, W6 = (Wd.alloc (.cells #[.slice none 0 0] 22)).setCell ⟨H + 5, 0, none⟩ (.slice (some ⟨ba, off, none⟩) L cap) := ⟨_, rfl⟩
  rw [← hW6] at hHeld ⊢
  have HK6 : Hid (∀ i, i ≠ H + 5 → i < H + 5 → W6.heap[i]? = W5.heap[i]?) := hide fun i hi hi2 => by
    rw [hW6, heap_setCell_other _ _ _ _ (by exact hi), Below.heap_alloc _ _ _ (by rw [unhide HH5]; exact hi2), unhide HWD]
    rfl
  have HB65 : Hid (W6.heap[H + 5]? = some (.cells #[.slice (some ⟨ba, off, none⟩) L cap] 22 (0, 0)) ∧ W6.heap.size = H + 6 ∧ W6.os = W5.os ∧ W6.tape = W5.tape ∧ W6.output = W5.output) := hide (by
    refine ⟨?_, ?_, ?_, ?_, ?_⟩
    · rw [hW6, heap_setCell_same _ (H + 5) 0 #[.slice none 0 0] 22 _ (by rw [← unhide HH5]; exact heap_alloc_new _ _)]
      rfl
    · rw [hW6]; simp [unhide HH5]
    · rw [hW6, unhide HWD]; rfl
    · rw [hW6, unhide HWD]; rfl
    · rw [hW6, unhide HWD]; rfl)
  clear hW6 HWD HH5 HK1 HK2 HS1 hHeld
  have HBL6 : Hid (Below H w W6) := hide ⟨(unhide HB65).2.2.1.trans (unhide HBL5).os, (unhide HB65).2.2.2.1.trans (unhide HBL5).tape, (unhide HB65).2.2.2.2.trans (unhide HBL5).output, by rw [(unhide HB65).2.1, ← unhide HHW]; omega, fun k hk => by rw [unhide HK6 k (by omega) (by omega)]; exact (unhide HBL5).block k hk⟩
  have HA6 : Hid (W6.heap[H]? = some (.cells #[.int .i64 (s : Int), .map (some b), v] 65 (0, 0)) ∧ W6.heap[H + 1]? = some (.cells #[.int .i64 (p : Int)] 3 (0, 0)) ∧ W6.heap[H + 2]? = some (.cells #[.int .i64 (M : Int)] 3 (0, 0)) ∧ W6.heap[H + 3]? = some (.cells #[.int .i64 ((0 : Nat) : Int)] 3 (0, 0)) ∧ W6.heap[H + 4]? = some (.cells #[.int .i64 ((0 : Nat) : Int)] 3 (0, 0))) := hide (by
    have h := unhide HA
    refine ⟨?_, ?_, ?_, ?_, ?_⟩
    · rw [unhide HK6 _ (by omega) (by omega)]; exact h.1
    · rw [unhide HK6 _ (by omega) (by omega)]; exact h.2.1
    · rw [unhide HK6 _ (by omega) (by omega)]; exact h.2.2.1
    · rw [unhide HK6 _ (by omega) (by omega)]; exact h.2.2.2.1
    · rw [unhide HK6 _ (by omega) (by omega)]; exact h.2.2.2.2)
  have c1 : W6.cell? ⟨H + 1, 0, none⟩ = some (.int .i64 (p : Int)) := by simp [World.cell?, (unhide HA6).2.1]
  have c2 : W6.cell? ⟨H + 2, 0, none⟩ = some (.int .i64 (M : Int)) := by simp [World.cell?, (unhide HA6).2.2.1]
  have c5 : W6.cell? ⟨H + 5, 0, none⟩ = some (.slice (some ⟨ba, off, none⟩) L cap) := by simp [World.cell?, (unhide HB65).1]
  have hs6 : W6.heap.size = H + 6 := (unhide HB65).2.1
  obtain ⟨E, hE⟩ : ∃ E : Nat, (p : Int) + (M : Int) = (E : Int) := ⟨p + M, by omega⟩
  have hEp : E - p = M := by omega
  have hpEc : p ≤ E ∧ E ≤ cap := ⟨by omega, by omega⟩
  have hpE := hpEc.1
  have hEc := hpEc.2
  have hwE : IntKind.i64.wrap (E : Int) = (E : Int) := IntWalk.i64_in _ (by omega)
  have hwu : IntKind.i64.wrap (u : Int) = (u : Int) := IntWalk.i64_in _ (by omega)
  have hM0 : ¬ M = 0 := by omega
  have hpfu : (p : Int) - (f : Int) = (u : Int) := by omega
  clear HK6 HA HBL5 HSZ5
  go_upto_region 5 with fail
  rw [show H + 6 + 1 = H + 7 from rfl]
  generalize hW8 : (W6.alloc (.cells #[.slice (some ⟨ba, off + p, none⟩) M M] 22)).alloc (.cells #[.int .i64 (u : Int)] 3) = W8
  have hk8 : ∀ i, i < H + 6 → W8.heap[i]? = W6.heap[i]? := fun i hi => by
    rw [← hW8, heap_alloc_at, if_neg (by rw [World.size_alloc]; omega), heap_alloc_at, if_neg (by omega)]
  have hwb : WB H (.slice (some ⟨ba, off, none⟩) L cap) (.slice (some ⟨ba, off + p, none⟩) M M) p M ((p : Int) - (f : Int)) 0 0 W8 := by
    have h := unhide HA6
    refine ⟨by rw [hk8 _ (by omega)]; exact h.2.1, by rw [hk8 _ (by omega)]; exact h.2.2.1, by rw [hk8 _ (by omega)]; exact h.2.2.2.1, by rw [hk8 _ (by omega)]; exact h.2.2.2.2, by rw [hk8 _ (by omega)]; exact (unhide HB65).1, ?_, ?_⟩
    · rw [← hW8, heap_alloc_at, if_neg (by rw [World.size_alloc]; omega), heap_alloc_at, if_pos (by omega)]
    · rw [← hW8, heap_alloc_at, if_pos (by rw [World.size_alloc]; omega), hpfu]
  have hbl8 : Below H w W8 := by
    have h6 := unhide HBL6
    refine ⟨?_, ?_, ?_, ?_, fun k hk => ?_⟩
    · rw [← hW8]; exact h6.os
    · rw [← hW8]; exact h6.tape
    · rw [← hW8]; exact h6.output
    · rw [← hW8]; simp; have := h6.size; omega
    · rw [hk8 k (by omega)]; exact h6.block k hk
  have hs8 : W8.heap.size = H + 8 := by rw [← hW8]; simp [hs6]
  have hr8 : ReadsU B W8 (.slice (some ⟨ba, off, none⟩) zs.length cap) zs := by
    have h := unhide HR
    rw [unhide HTX] at h
    exact h.stays ⟨hbl8.os, hbl8.tape, hbl8.output, hbl8.size, fun k hk => hbl8.block k (by omega)⟩
  have hlv0 := unhide HLV
  have hv8 : ∀ q, v.ownBlock = some q → q < H := fun q hq => by
    obtain ⟨_, cs, ff, hh⟩ := own_base hlv0.row hq
    rw [unhide HHW]
    exact heap_lt hh
  have hlv8 : LvlAt zs s p B W8 H 0 b v := by
    have h0 : W8.heap[H]? = some (.cells #[.int .i64 (s : Int), .map (some b), v] 65 (0, 0)) := by rw [hk8 _ (by omega)]; exact (unhide HA6).1
    obtain ⟨es, ck, hb⟩ := hlv0.mp.is
    exact ⟨by simp [World.cell?, h0], by simp [World.cell?, h0], by simp [World.cell?, h0], hlv0.mp.block (hbl8.block _ (by rw [unhide HHW]; exact heap_lt hb)), own_keep hlv0.row (fun q hq => hbl8.block _ (hv8 q hq))⟩
  have HEA := hide (each_ok zs H B ba off cap p f M s b c0 v W8 hr8 (by rw [← unhide HTX]; exact hcap) (unhide HZ) (by rw [← unhide HTX]; exact hl) (by rw [← unhide HTX]; exact hp) hs1 hsM (by omega) (by omega) hlv8 hv8 (unhide HC0) hf (by rw [← unhide HTX]; exact hwb))
  rw [← unhide HTX] at HEA
  have HBL8 := hide hbl8
  have HR8 := hide hr8
  clear hW8 hk8 hwb hbl8 hr8 hlv0 hv8 hlv8 HA6 HB65 HBL6 c1 c2 c5 HLV
  go_wp2_with fail
  refine (unhide HEA).mono ?_
  rintro e W9 ⟨n, d, left, rfl, hb9, hk9, hcase, hnM⟩
  have HBL9 : Hid (Below H w W9) := hide ⟨hk9.os.trans (unhide HBL8).os, hk9.tape.trans (unhide HBL8).tape, hk9.output.trans (unhide HBL8).output, Nat.le_trans (unhide HBL8).size hk9.size, fun k hk => by rw [hk9.kp k (by omega) (by omega) (by omega) (by omega)]; exact (unhide HBL8).block k hk⟩
  have HR9 : Hid (ReadsU B W9.drew (.slice (some ⟨ba, off, none⟩) zs.length cap) zs) := hide ((unhide HR8).stays ⟨hk9.os, hk9.tape, hk9.output, hk9.size, fun k hk => hk9.kp k (by omega) (by omega) (by omega) (by omega)⟩)
  have HB9 := hide hb9
  have c2 := hb9.c2
  have c3 := hb9.c3
  have c7 := hb9.c7
  clear hb9 hk9 HEA HR8 HBL8
  by_cases ht : n < M ∧ left ≤ 0
  · obtain ⟨ht1, ht2⟩ := ht
    have ht1i : (n : Int) < (M : Int) := by omega
    have HLK : Hid (∃ T t : Nat, Calls Try.prog 19 #[.slice (some ⟨ba, off, none⟩) L cap, .int .i64 (p : Int), .int .i64 (W : Int), .int .i64 (M : Int)] W9.drew fun e w' => ∃ a', e = .returned (.tuple #[.slice a' T T, .int .i64 (t : Int)]) ∧ w' = W9.drew ∧
      ∀ q, Calls Try.prog 18 #[.slice a' T T, .int .i64 (t : Int)] (W9.drew.drewN q) fun e w' => ∃ n d : Nat, e = .returned (.tuple #[.int .i64 (n : Int), .int .i64 (d : Int)]) ∧ IsBest (zf zs) p u M n d ∧ ∃ q, w' = W9.drew.drewN q) := hide (by
      have hml : ML W9.drew := by
        obtain ⟨m, hm⟩ := unhide HML
        exact ⟨m, cell_below (unhide HBL9) hm (by have := cell_lt hm; rw [unhide HHW]; exact this)⟩
      have := look_seek zs (some ⟨ba, off, none⟩) cap B p W M W9.drew (unhide HR9) (by rw [← unhide HTX]; exact hcap) (unhide HZ) (by rw [← unhide HTX]; omega) (by rw [← unhide HTX]; omega) hW (by omega) hml
      rw [← unhide HU, ← unhide HTX, show min M (L - p) = M by omega] at this
      exact this)
    have HS7 : Hid (W9.drew.cell? ⟨H + 5, 0, none⟩ = some (.slice (some ⟨ba, off, none⟩) L cap) ∧ W9.drew.cell? ⟨H + 1, 0, none⟩ = some (.int .i64 (p : Int)) ∧ W9.drew.cell? ⟨gx, 1, none⟩ = some (.int .i64 (W : Int)) ∧ W9.drew.cell? ⟨H + 2, 0, none⟩ = some (.int .i64 (M : Int))) := hide ⟨(unhide HB9).c5, (unhide HB9).c1, cell_below (unhide HBL9) (unhide HX1) hgxH, (unhide HB9).c2⟩
    clear hcase
    go_upto_region 7 with fail
    refine wp_region_noPanic ?_
    refine wp_region_held_drew (S := fun y => y.cell? ⟨H + 5, 0, none⟩ = some (.slice (some ⟨ba, off, none⟩) L cap) ∧ y.cell? ⟨H + 1, 0, none⟩ = some (.int .i64 (p : Int)) ∧ y.cell? ⟨gx, 1, none⟩ = some (.int .i64 (W : Int)) ∧ y.cell? ⟨H + 2, 0, none⟩ = some (.int .i64 (M : Int))) (by kernel_rfl) (unhide HS7) (fun hHeld => ?_)
    refine held_take 0 53 rfl rfl (by kernel_rfl) (by kernel_rfl) (by kernel_rfl) (by rfl) hHeld noPanic_panic (v := ?_) (fun x' hSx => ?_) ?_
    rotate_left 1
    · (obtain ⟨q1, q2, q3, q4⟩ := hSx; go_simp <;> with_reducible rfl)
    simp only [List.set_cons_zero, List.set_cons_succ]
    refine held_take 1 54 rfl rfl (by kernel_rfl) (by kernel_rfl) (by kernel_rfl) (by rfl) hHeld noPanic_panic (v := ?_) (fun x' hSx => ?_) ?_
    rotate_left 1
    · (obtain ⟨q1, q2, q3, q4⟩ := hSx; go_simp <;> with_reducible rfl)
    simp only [List.set_cons_zero, List.set_cons_succ]
    refine held_take 2 55 rfl rfl (by kernel_rfl) (by kernel_rfl) (by kernel_rfl) (by rfl) hHeld noPanic_panic (v := ?_) (fun x' hSx => ?_) ?_
    rotate_left 1
    · (obtain ⟨q1, q2, q3, q4⟩ := hSx; go_simp <;> with_reducible rfl)
    simp only [List.set_cons_zero, List.set_cons_succ]
    refine held_take 3 56 rfl rfl (by kernel_rfl) (by kernel_rfl) (by kernel_rfl) (by rfl) hHeld noPanic_panic (v := ?_) (fun x' hSx => ?_) ?_
    rotate_left 1
    · (obtain ⟨q1, q2, q3, q4⟩ := hSx; go_simp <;> with_reducible rfl)
    simp only [List.set_cons_zero, List.set_cons_succ]
    refine held_take 4 57 rfl rfl (by kernel_rfl) (by kernel_rfl) (by kernel_rfl) (by rfl) hHeld noPanic_panic (v := ?_) (fun x' hSx => ?_) ?_
    rotate_left 1
    · (obtain ⟨q1, q2, q3, q4⟩ := hSx; go_simp <;> with_reducible rfl)
    simp only [List.set_cons_zero, List.set_cons_succ]
    refine held_take 5 58 rfl rfl (by kernel_rfl) (by kernel_rfl) (by kernel_rfl) (by rfl) hHeld noPanic_panic (v := ?_) (fun x' hSx => ?_) ?_
    rotate_left 1
    · (obtain ⟨q1, q2, q3, q4⟩ := hSx; go_simp <;> with_reducible rfl)
    simp only [List.set_cons_zero, List.set_cons_succ]
    refine held_take 6 59 rfl rfl (by kernel_rfl) (by kernel_rfl) (by kernel_rfl) (by rfl) hHeld noPanic_panic (v := ?_) (fun x' hSx => ?_) ?_
    rotate_left 1
    · (obtain ⟨q1, q2, q3, q4⟩ := hSx; go_simp <;> with_reducible rfl)
    simp only [List.set_cons_zero, List.set_cons_succ]
    obtain ⟨T, t, hlk⟩ := unhide HLK
    refine held_enter 7 60 (by kernel_rfl) rfl rfl (by rfl) (by go_simp <;> exact ⟨rfl, rfl⟩) ?_
    refine hlk.mono ?_
    rintro e w' ⟨a', rfl, hww, hsk⟩
    replace hww := hww.symm
    subst hww
    refine ⟨_, rfl, hHeld, ?_⟩
    simp only [List.set_cons_zero, List.set_cons_succ]
    refine held_take 8 61 rfl rfl (by kernel_rfl) (by kernel_rfl) (by kernel_rfl) (by rfl) hHeld noPanic_panic (v := ?_) (fun x' hSx => ?_) ?_
    rotate_left 1
    · (go_simp <;> with_reducible rfl)
    simp only [List.set_cons_zero, List.set_cons_succ]
    refine held_take 9 62 rfl rfl (by kernel_rfl) (by kernel_rfl) (by kernel_rfl) (by rfl) hHeld noPanic_panic (v := ?_) (fun x' hSx => ?_) ?_
    rotate_left 1
    · (go_simp <;> with_reducible rfl)
    simp only [List.set_cons_zero, List.set_cons_succ]
    have HSK := hide (hsk 0)
    clear hsk hlk
    refine held_enter 10 63 (by kernel_rfl) rfl rfl (by rfl) (by go_simp <;> exact ⟨rfl, rfl⟩) ?_
    refine (unhide HSK).mono ?_
    rintro e w' ⟨n2, d2, rfl, hbest, q, rfl⟩
    refine ⟨_, rfl, hHeld, ?_⟩
    simp only [List.set_cons_zero, List.set_cons_succ]
    refine held_take 11 64 rfl rfl (by kernel_rfl) (by kernel_rfl) (by kernel_rfl) (by rfl) hHeld noPanic_panic (v := ?_) (fun x' hSx => ?_) ?_
    rotate_left 1
    · (go_simp <;> with_reducible rfl)
    simp only [List.set_cons_zero, List.set_cons_succ]
    refine held_take 12 65 rfl rfl (by kernel_rfl) (by kernel_rfl) (by kernel_rfl) (by rfl) hHeld noPanic_panic (v := ?_) (fun x' hSx => ?_) ?_
    rotate_left 1
    · (go_simp <;> with_reducible rfl)
    simp only [List.set_cons_zero, List.set_cons_succ]
    obtain ⟨Wy, hWy⟩ : ∃ Wy, Wy = W9.drew.drewN q := ⟨_, rfl⟩
    have HBy : Hid (WB H (.slice (some ⟨ba, off, none⟩) L cap) (.slice (some ⟨ba, off + p, none⟩) M M) p M left n d Wy) := hide (by rw [hWy]; exact (unhide HB9).same rfl)
    have HKy : Hid (Below H w Wy) := hide (by rw [hWy]; exact ⟨(unhide HBL9).os, (unhide HBL9).tape, (unhide HBL9).output, (unhide HBL9).size, (unhide HBL9).block⟩)
    replace hHeld : Wy.cell? ⟨gx, 1, none⟩ = some (.int .i64 (W : Int)) := by rw [hWy]; exact hHeld.2.2.1
    rw [← hWy]
    clear hWy
    have hx3 := (unhide HBy).len' n2
    have hx4 := hx3.dist' d2
    refine held_skip 13 (by kernel_rfl) rfl rfl (by rfl) (w' := Wy.setCell ⟨H + 3, 0, none⟩ (.int .i64 (n2 : Int))) ?_ ⟨hx3.c5, hx3.c1, (by rw [World.cell?_of_block (heap_setCell_other _ _ _ _ (by show gx ≠ H + 3; omega))]; exact hHeld), hx3.c2⟩ ?_
    · (have q1 := (unhide HBy).c3; have q2 := (unhide HBy).f3; go_simp)
    refine held_skip 14 (by kernel_rfl) rfl rfl (by rfl) (w' := (Wy.setCell ⟨H + 3, 0, none⟩ (.int .i64 (n2 : Int))).setCell ⟨H + 4, 0, none⟩ (.int .i64 (d2 : Int))) ?_ ⟨hx4.c5, hx4.c1, (by rw [World.cell?_of_block (heap_setCell_other _ _ _ _ (by show gx ≠ H + 4; omega)), World.cell?_of_block (heap_setCell_other _ _ _ _ (by show gx ≠ H + 3; omega))]; exact hHeld), hx4.c2⟩ ?_
    · (have q1 := hx3.c4; have q2 := hx3.f4; go_simp)
    refine wpAnyH_done (by kernel_rfl) ?_ _
    refine NoPanic.normal ?_
    have HBX := hide hbest
    have HX4 := hide hx4
    have HBE : Hid (Below H w ((Wy.setCell ⟨H + 3, 0, none⟩ (.int .i64 (n2 : Int))).setCell ⟨H + 4, 0, none⟩ (.int .i64 (d2 : Int)))) := hide (((unhide HKy).setCell (by show H ≤ H + 3; omega) _).setCell (by show H ≤ H + 4; omega) _)
    clear hbest hx3 hx4 hHeld
    go_wp2_with fail
    refine bodyPost_ret (results_two rfl _ _ ⟨H + 3, 0, none⟩ ⟨H + 4, 0, none⟩ rfl rfl _ _ (unhide HX4).c3 (unhide HX4).c4) rfl ⟨n2, d2, rfl, unhide HBX, by rw [← unhide HHW]; exact unhide HBE⟩
  · have HBX : Hid (IsBest (zf zs) p u M n d) := hide (by
      rcases hcase with h | h
      · exact absurd h ht
      · rw [hpf] at h; exact h)
    have HS8 : Hid (W9.drew.cell? ⟨H + 3, 0, none⟩ = some (.int .i64 (n : Int)) ∧ W9.drew.cell? ⟨H + 4, 0, none⟩ = some (.int .i64 (d : Int))) := hide ⟨(unhide HB9).c3, (unhide HB9).c4⟩
    have ht' : (¬ (n : Int) < (M : Int)) ∨ ((n : Int) < (M : Int) ∧ ¬ left ≤ 0) := by omega
    clear hcase ht
    rcases ht' with h1 | ⟨h1, h2⟩
    all_goals go_upto_region 8 with fail
    · refine wp_region_noPanic ?_
      refine wp_region_held_drew (S := fun y => y.cell? ⟨H + 3, 0, none⟩ = some (.int .i64 (n : Int)) ∧ y.cell? ⟨H + 4, 0, none⟩ = some (.int .i64 (d : Int))) (by kernel_rfl) (unhide HS8) (fun hHeld => ?_)
      refine held_take 0 66 rfl rfl (by kernel_rfl) (by kernel_rfl) (by kernel_rfl) (by rfl) hHeld noPanic_panic (v := ?_) (fun x' hSx => ?_) ?_
      rotate_left 1
      · (obtain ⟨q1, q2⟩ := hSx; go_simp <;> with_reducible rfl)
      simp only [List.set_cons_zero, List.set_cons_succ]
      refine held_take 1 67 rfl rfl (by kernel_rfl) (by kernel_rfl) (by kernel_rfl) (by rfl) hHeld noPanic_panic (v := ?_) (fun x' hSx => ?_) ?_
      rotate_left 1
      · (obtain ⟨q1, q2⟩ := hSx; go_simp <;> with_reducible rfl)
      simp only [List.set_cons_zero, List.set_cons_succ]
      obtain ⟨Wy, hWy⟩ : ∃ Wy, Wy = W9.drew := ⟨_, rfl⟩
      have HBy : Hid (WB H (.slice (some ⟨ba, off, none⟩) L cap) (.slice (some ⟨ba, off + p, none⟩) M M) p M left n d Wy) := hide (by rw [hWy]; exact (unhide HB9).same rfl)
      have HKy : Hid (Below H w Wy) := hide (by rw [hWy]; exact ⟨(unhide HBL9).os, (unhide HBL9).tape, (unhide HBL9).output, (unhide HBL9).size, (unhide HBL9).block⟩)
      rw [← hWy] at hHeld ⊢
      clear hWy
      have hx3 := (unhide HBy).len' n
      have hx4 := hx3.dist' d
      refine held_skip 2 (by kernel_rfl) rfl rfl (by rfl) (w' := Wy.setCell ⟨H + 3, 0, none⟩ (.int .i64 (n : Int))) ?_ ⟨hx3.c3, hx3.c4⟩ ?_
      · (have q1 := (unhide HBy).c3; have q2 := (unhide HBy).f3; go_simp)
      refine held_skip 3 (by kernel_rfl) rfl rfl (by rfl) (w' := (Wy.setCell ⟨H + 3, 0, none⟩ (.int .i64 (n : Int))).setCell ⟨H + 4, 0, none⟩ (.int .i64 (d : Int))) ?_ ⟨hx4.c3, hx4.c4⟩ ?_
      · (have q1 := hx3.c4; have q2 := hx3.f4; go_simp)
      refine wpAnyH_done (by kernel_rfl) ?_ _
      refine NoPanic.normal ?_
      have HX4 := hide hx4
      have HBE : Hid (Below H w ((Wy.setCell ⟨H + 3, 0, none⟩ (.int .i64 (n : Int))).setCell ⟨H + 4, 0, none⟩ (.int .i64 (d : Int)))) := hide (((unhide HKy).setCell (by show H ≤ H + 3; omega) _).setCell (by show H ≤ H + 4; omega) _)
      clear hx3 hx4 hHeld
      go_wp2_with fail
      refine bodyPost_ret (results_two rfl _ _ ⟨H + 3, 0, none⟩ ⟨H + 4, 0, none⟩ rfl rfl _ _ (unhide HX4).c3 (unhide HX4).c4) rfl ⟨n, d, rfl, unhide HBX, by rw [← unhide HHW]; exact unhide HBE⟩
    · refine wp_region_noPanic ?_
      refine wp_region_held_drew (S := fun y => y.cell? ⟨H + 3, 0, none⟩ = some (.int .i64 (n : Int)) ∧ y.cell? ⟨H + 4, 0, none⟩ = some (.int .i64 (d : Int))) (by kernel_rfl) (unhide HS8) (fun hHeld => ?_)
      refine held_take 0 66 rfl rfl (by kernel_rfl) (by kernel_rfl) (by kernel_rfl) (by rfl) hHeld noPanic_panic (v := ?_) (fun x' hSx => ?_) ?_
      rotate_left 1
      · (obtain ⟨q1, q2⟩ := hSx; go_simp <;> with_reducible rfl)
      simp only [List.set_cons_zero, List.set_cons_succ]
      refine held_take 1 67 rfl rfl (by kernel_rfl) (by kernel_rfl) (by kernel_rfl) (by rfl) hHeld noPanic_panic (v := ?_) (fun x' hSx => ?_) ?_
      rotate_left 1
      · (obtain ⟨q1, q2⟩ := hSx; go_simp <;> with_reducible rfl)
      simp only [List.set_cons_zero, List.set_cons_succ]
      obtain ⟨Wy, hWy⟩ : ∃ Wy, Wy = W9.drew := ⟨_, rfl⟩
      have HBy : Hid (WB H (.slice (some ⟨ba, off, none⟩) L cap) (.slice (some ⟨ba, off + p, none⟩) M M) p M left n d Wy) := hide (by rw [hWy]; exact (unhide HB9).same rfl)
      have HKy : Hid (Below H w Wy) := hide (by rw [hWy]; exact ⟨(unhide HBL9).os, (unhide HBL9).tape, (unhide HBL9).output, (unhide HBL9).size, (unhide HBL9).block⟩)
      rw [← hWy] at hHeld ⊢
      clear hWy
      have hx3 := (unhide HBy).len' n
      have hx4 := hx3.dist' d
      refine held_skip 2 (by kernel_rfl) rfl rfl (by rfl) (w' := Wy.setCell ⟨H + 3, 0, none⟩ (.int .i64 (n : Int))) ?_ ⟨hx3.c3, hx3.c4⟩ ?_
      · (have q1 := (unhide HBy).c3; have q2 := (unhide HBy).f3; go_simp)
      refine held_skip 3 (by kernel_rfl) rfl rfl (by rfl) (w' := (Wy.setCell ⟨H + 3, 0, none⟩ (.int .i64 (n : Int))).setCell ⟨H + 4, 0, none⟩ (.int .i64 (d : Int))) ?_ ⟨hx4.c3, hx4.c4⟩ ?_
      · (have q1 := hx3.c4; have q2 := hx3.f4; go_simp)
      refine wpAnyH_done (by kernel_rfl) ?_ _
      refine NoPanic.normal ?_
      have HX4 := hide hx4
      have HBE : Hid (Below H w ((Wy.setCell ⟨H + 3, 0, none⟩ (.int .i64 (n : Int))).setCell ⟨H + 4, 0, none⟩ (.int .i64 (d : Int)))) := hide (((unhide HKy).setCell (by show H ≤ H + 3; omega) _).setCell (by show H ≤ H + 4; omega) _)
      clear hx3 hx4 hHeld
      go_wp2_with fail
      refine bodyPost_ret (results_two rfl _ _ ⟨H + 3, 0, none⟩ ⟨H + 4, 0, none⟩ rfl rfl _ _ (unhide HX4).c3 (unhide HX4).c4) rfl ⟨n, d, rfl, unhide HBX, by rw [← unhide HHW]; exact unhide HBE⟩

end Go.Proofs.Ytabnfnejlffioaa
