/- merge: one list of two. -/
import Derived.Test.YtdpbjeajipggbaaMAt
namespace Go.Proofs.Ytdpbjeajipggbaa
open Go.RowKit
set_option linter.unusedVariables false

attribute [local go_sem ↓] Go.wp_at_zero Go.wp_at_succ

theorem mk_i (w : World) (n : Nat) (hn : n ≤ 1000000) : (Instr.makeSlice 22 (.int .i64 0) (.int .i64 (n : Int))).run Try.prog w = .ok (.slice (some ⟨w.heap.size, 0, none⟩) 0 n) (w.alloc (.cells (icells .i64 n (fun _ => 0)) 3)) := by
  obtain ⟨i0, hi, hz0, hz1, hz2⟩ := info_parts info3'
  have := run_make (P := Try.prog) w 22 3 i0 (.int .i64 0) Try.underlying22 hi hz0 .i64 .i64 0 (n : Int) (by omega) (by omega) (by rw [hz2]; omega) (by omega)
  rw [hz1] at this
  rw [this]
  congr 3
  apply Array.ext (by simp [madeCells, icells])
  intro k k1 k2
  simp only [icells, madeCells, List.getElem_toArray, List.getElem_map, Array.getElem_map, Array.getElem_range]
  simp [Value.cells, Nat.mod_one]

theorem mk_a (w : World) (n : Nat) (hn : n ≤ 1000000) : (Instr.makeSlice 22 (.int .i64 1) (.int .i64 ((n : Int) + 1))).run Try.prog w = .ok (.slice (some ⟨w.heap.size, 0, none⟩) 1 (n + 1)) (w.alloc (.cells (icells .i64 (n + 1) (fun _ => 0)) 3)) := by
  obtain ⟨i0, hi, hz0, hz1, hz2⟩ := info_parts info3'
  have := run_make (P := Try.prog) w 22 3 i0 (.int .i64 0) Try.underlying22 hi hz0 .i64 .i64 1 ((n : Int) + 1) (by omega) (by omega) (by rw [hz2]; omega) (by omega)
  rw [hz1] at this
  rw [this]
  congr 3
  apply Array.ext (by simp [madeCells, icells])
  intro k k1 k2
  simp only [icells, madeCells, List.getElem_toArray, List.getElem_map, Array.getElem_map, Array.getElem_range]
  simp [Value.cells, Nat.mod_one]

set_option maxHeartbeats 400000 in
theorem le_ok (a b : Int) (w : World) : Calls Try.prog 25 #[.int .i64 a, .int .i64 b] w fun e w' => e = .returned (.bool (decide (a ≤ b))) ∧ w' = w := by
  go_enter Try.func25, Try.ntmps25
  go_wp2
  go_ret
  exact ⟨rfl, rfl⟩

theorem le_yes (a b : Int) (h : a ≤ b) (w : World) : Calls Try.prog 25 #[.int .i64 a, .int .i64 b] w fun e w' => e = .returned (.bool true) ∧ w' = w :=
  (le_ok a b w).mono fun e w' ⟨h1, h2⟩ => ⟨by rw [h1, decide_eq_true h], h2⟩
theorem le_no (a b : Int) (h : ¬ a ≤ b) (w : World) : Calls Try.prog 25 #[.int .i64 a, .int .i64 b] w fun e w' => e = .returned (.bool false) ∧ w' = w :=
  (le_ok a b w).mono fun e w' ⟨h1, h2⟩ => ⟨by rw [h1, decide_eq_false h], h2⟩

theorem st_next (A B : List Nat) {p i j : Nat} (h : Merge.st A B p = (i, j)) : Merge.st A B (p + 1) = if Merge.goes A B (i, j) = true then (i + 1, j) else (i, j + 1) := by
  rw [Merge.st, h]

theorem item_at (A B : List Nat) {p i j : Nat} (h : Merge.st A B p = (i, j)) (hp : p < A.length + B.length) : (Merge.mgd A B)[p]? = some (if Merge.goes A B (i, j) = true then A.getD i 0 else B.getD j 0) := by
  unfold Merge.mgd
  rw [List.getElem?_map, List.getElem?_range hp]
  show some (Merge.item A B p) = _
  unfold Merge.item
  rw [h]

theorem ahd_at (A B : List Nat) (p : Nat) (hp : p ≤ A.length + B.length) : (Merge.ahd A B)[p]? = some (Merge.st A B p).1 := by
  unfold Merge.ahd
  rw [List.getElem?_map, List.getElem?_range (by omega)]
  rfl

/-- as ReadsI, in a block from lo on -/
def ReadsF (lo : Nat) (w : World) (v : Value) (zs : List Int) : Prop :=
  ∃ a cap, v = .slice a zs.length cap ∧ (0 < zs.length → ∃ b off, a = some ⟨b, off, none⟩ ∧ lo ≤ b ∧ ∀ j, j < zs.length → w.cell? ⟨b, off + j, none⟩ = some (.int .i64 (zs.getD j 0)))

theorem ReadsF.reads {lo : Nat} {w : World} {v : Value} {zs : List Int} (h : ReadsF lo w v zs) : ReadsI w v zs := by
  obtain ⟨a, cap, e, h⟩ := h
  exact ⟨a, cap, e, fun h0 => by obtain ⟨b, off, h1, _, h2⟩ := h h0; exact ⟨b, off, h1, h2⟩⟩

theorem own_readsF {w : World} {base n : Nat} {v : Value} {zs : List Int} (h : w.ownsRow base 3 1 v n (zs.map iv)) (hn : n = zs.length) : ReadsF base w v zs := by
  obtain ⟨a, cap, e, hs⟩ := own_reads h hn
  refine ⟨a, cap, e, fun h0 => ?_⟩
  obtain ⟨b, off, rfl, h2⟩ := hs h0
  exact ⟨b, off, rfl, (h.lt b (by rw [e]; rfl)).1, h2⟩

theorem MAt.finish {A B : List Nat} {w ws : World} {bx : Nat} {vi va : Value} {p : Nat} (h : MAt A B w ws bx vi va p (p + 1)) (hp : p = A.length + B.length) :
    ReadsF (w.heap.size + 1) ws vi (ints (Merge.mgd A B)) ∧ ReadsF (w.heap.size + 1) ws va (ints (Merge.ahd A B)) ∧ w.heap.size < ws.heap.size ∧ vi.ownBlock ≠ some w.heap.size ∧ va.ownBlock ≠ some w.heap.size ∧ Below w.heap.size w ws := by
  have h1 := h.oi
  rw [List.take_of_length_le (by rw [Merge.mgd_length]; omega)] at h1
  have h2 := h.oa
  rw [List.take_of_length_le (by rw [Merge.ahd_length]; omega)] at h2
  exact ⟨own_readsF h1 (by rw [ints_length, Merge.mgd_length]; exact hp), own_readsF h2 (by rw [ints_length, Merge.ahd_length]; omega), heap_lt h.res, fun e => by have := (h.oi.lt _ e).1; omega, fun e => by have := (h.oa.lt _ e).1; omega, h.bel⟩

theorem results_cell {fn : Func} {p : Tmp} {ty : TypeId} (h : fn.results = #[.cell p ty]) (tmps : Array Value) (P : Program) (w : World) :
    (results fn tmps).run P w = ((asAddr (tmps.getD p undef)).run P w).andThen fun a w₁ => (loadVar ty a).run P w₁ := by
  simp only [results, h]
  simp [Sem.run_bind, Result.andThen]

theorem fin_after {w ws : World} {v1 v2 : Value} {X Y : List Int} (h : ReadsF (w.heap.size + 1) ws v1 X ∧ ReadsF (w.heap.size + 1) ws v2 Y ∧ w.heap.size < ws.heap.size ∧ v1.ownBlock ≠ some w.heap.size ∧ v2.ownBlock ≠ some w.heap.size ∧ Below w.heap.size w ws) (hr : ws.heap[w.heap.size]? = some (.cells two 57 (0, 0))) :
    ReadsF (w.heap.size + 1) ((ws.setCell ⟨w.heap.size, 0, none⟩ v1).setCell ⟨w.heap.size, 1, none⟩ v2) v1 X ∧ ReadsF (w.heap.size + 1) ((ws.setCell ⟨w.heap.size, 0, none⟩ v1).setCell ⟨w.heap.size, 1, none⟩ v2) v2 Y ∧
    ((ws.setCell ⟨w.heap.size, 0, none⟩ v1).setCell ⟨w.heap.size, 1, none⟩ v2).cell? ⟨w.heap.size, 0, none⟩ = some v1 ∧ ((ws.setCell ⟨w.heap.size, 0, none⟩ v1).setCell ⟨w.heap.size, 1, none⟩ v2).cell? ⟨w.heap.size, 1, none⟩ = some v2 ∧
    Below w.heap.size w ((ws.setCell ⟨w.heap.size, 0, none⟩ v1).setCell ⟨w.heap.size, 1, none⟩ v2) := by
  obtain ⟨h1, h2, h3, h4, h5, h6⟩ := h
  have hb := heap_setCell_same _ w.heap.size 1 _ 57 v2 (heap_setCell_same ws w.heap.size 0 _ 57 v1 hr)
  have keep : ∀ {v : Value} {Z : List Int}, v.ownBlock ≠ some w.heap.size → ReadsF (w.heap.size + 1) ws v Z → ReadsF (w.heap.size + 1) ((ws.setCell ⟨w.heap.size, 0, none⟩ v1).setCell ⟨w.heap.size, 1, none⟩ v2) v Z := by
    rintro v Z hv ⟨a, cap, rfl, hs⟩
    refine ⟨a, cap, rfl, fun h0 => ?_⟩
    obtain ⟨b, off, rfl, hlo, hc⟩ := hs h0
    refine ⟨b, off, rfl, hlo, fun j hj => ?_⟩
    have hne : b ≠ w.heap.size := fun e => hv (by rw [e]; rfl)
    rw [World.cell?_of_block (w := ws) (by rw [heap_setCell_other _ _ _ _ (by exact hne), heap_setCell_other _ _ _ _ (by exact hne)])]
    exact hc j hj
  refine ⟨keep h4 h1, keep h5 h2, by simp [World.cell?, hb, two], by simp [World.cell?, hb, two], h6.trans (((Below.refl _ _).setCell (by exact Nat.le_refl _) _).setCell (by exact Nat.le_refl _) _)⟩

set_option maxRecDepth 100000 in
set_option maxHeartbeats 8000000 in
theorem merge_ok (A B : List Nat) (va vb : Value) (w : World) (hA : ReadsI w va (ints A)) (hB : ReadsI w vb (ints B)) (hl1 : A.length ≤ 65536) (hl2 : B.length ≤ 65536) :
    Calls Try.prog 24 #[va, vb, .func (.func 25) #[] #[]] w fun e w' => ∃ v1 v2, e = .returned (.agg #[v1, v2]) ∧ ReadsF (w.heap.size + 1) w' v1 (ints (Merge.mgd A B)) ∧ ReadsF (w.heap.size + 1) w' v2 (ints (Merge.ahd A B)) ∧ Below w.heap.size w w' := by
  obtain ⟨a, ca, rfl, hsA⟩ := hA
  obtain ⟨b, cb, rfl, hsB⟩ := hB
  rw [ints_length] at hsA hsB ⊢
  rw [ints_length]
  have HSA := hide hsA
  have HSB := hide hsB
  clear hsA hsB
  obtain ⟨n, hn⟩ : ∃ n, n = A.length := ⟨_, rfl⟩
  obtain ⟨m, hm⟩ : ∃ m, m = B.length := ⟨_, rfl⟩
  rw [← hn] at HSA hl1 ⊢
  rw [← hm] at HSB hl2 ⊢
  obtain ⟨room, hroom⟩ : ∃ room, room = n + m := ⟨_, rfl⟩
  have HRM : Hid (room = A.length + B.length) := hide (by omega)
  have hroom1 : (n : Int) + (m : Int) = (room : Int) := by omega
  have hroom2 : room ≤ 1000000 := by omega
  have hw1 : IntKind.i64.wrap (room : Int) = (room : Int) := IntWalk.i64_in _ (by omega)
  have hw2 : IntKind.i64.wrap ((room : Int) + 1) = (room : Int) + 1 := IntWalk.i64_in _ (by omega)
  have HN := hide hn
  have HM := hide hm
  have HROOM := hide hroom
  clear hn hm hroom
  go_enter Try.func24, Try.ntmps24
  go_upto_region 2 with fail
  go_cut [8] (fun v8 wc => ∃ bx vi va, v8 = .pointer (some ⟨bx, 0, none⟩) ∧ MAt A B w wc bx vi va 0 1)
  case first =>
    refine wp_region_noPanic ?_
    refine wp_region_held_drew (S := fun _ => True) (by kernel_rfl) True.intro (fun hHeld => ?_)
    obtain ⟨x0, hx0⟩ : ∃ x0, x0 = (w.alloc (.cells two 57)).drew := ⟨_, rfl⟩
    have hgot := Got.start w room
    rw [← hx0] at hgot
    show wpAnyH _ _ _ _ _ _ _ _ (w.alloc (.cells two 57)).drew
    rw [← hx0]
    clear hx0
    refine held_take 0 16 rfl rfl (by kernel_rfl) (by kernel_rfl) (by kernel_rfl) (by rfl) hHeld noPanic_panic (v := ?_) (fun x hSx => ?_) ?_
    rotate_left 1
    · go_simp <;> with_reducible rfl
    simp only [List.set_cons_zero, List.set_cons_succ]
    refine held_take 2 18 rfl rfl (by kernel_rfl) (by kernel_rfl) (by kernel_rfl) (by rfl) hHeld noPanic_panic (v := ?_) (fun x hSx => ?_) ?_
    rotate_left 1
    · go_simp <;> with_reducible rfl
    simp only [List.set_cons_zero, List.set_cons_succ]
    refine held_take 3 19 rfl rfl (by kernel_rfl) (by kernel_rfl) (by kernel_rfl) (by rfl) hHeld noPanic_panic (v := ?_) (fun x hSx => ?_) ?_
    rotate_left 1
    · go_simp <;> with_reducible rfl
    simp only [List.set_cons_zero, List.set_cons_succ]
    refine held_three (i := 1) (j := 4) (k := 6) (by kernel_rfl) rfl rfl rfl (fun K hK => ?_) (fun K hK => ?_) (fun K hK => ?_)
    · refine held_go 1 17 hK rfl (by rfl) (v := .slice (some ⟨x0.heap.size, 0, none⟩) 0 room) (w' := x0.alloc (.cells (icells .i64 room fun _ => 0) 3)) ?_ True.intro ?_
      · have mk0 := mk_i x0 room hroom2; have mk1 := mk_a x0 room hroom2; first | (go_simp; done) | (go_simp <;> first | exact ⟨rfl, rfl⟩ | rfl)
      simp only [List.set_cons_zero, List.set_cons_succ]
      have hg1 := (hgot).makeI
      obtain ⟨y1, hy1⟩ : ∃ y, y = x0.alloc (.cells (icells .i64 room fun _ => 0) 3) := ⟨_, rfl⟩
      obtain ⟨by1, hby1⟩ : ∃ b, b = x0.heap.size := ⟨_, rfl⟩
      rw [← hy1, ← hby1] at hg1
      rw [← hy1, ← hby1]
      clear hy1 hby1 hgot
      refine held_two (i := 4) (j := 6) (by kernel_rfl) rfl rfl (fun K hK => ?_) (fun K hK => ?_)
      · refine held_go 4 20 hK rfl (by rfl) (v := .slice (some ⟨y1.heap.size, 0, none⟩) 1 (room + 1)) (w' := y1.alloc (.cells (icells .i64 (room + 1) fun _ => 0) 3)) ?_ True.intro ?_
        · have mk0 := mk_i y1 room hroom2; have mk1 := mk_a y1 room hroom2; first | (go_simp; done) | (go_simp <;> first | exact ⟨rfl, rfl⟩ | rfl)
        simp only [List.set_cons_zero, List.set_cons_succ]
        have hg2 := (hg1).makeA
        obtain ⟨y2, hy2⟩ : ∃ y, y = y1.alloc (.cells (icells .i64 (room + 1) fun _ => 0) 3) := ⟨_, rfl⟩
        obtain ⟨by2, hby2⟩ : ∃ b, b = y1.heap.size := ⟨_, rfl⟩
        rw [← hy2, ← hby2] at hg2
        rw [← hy2, ← hby2]
        clear hy2 hby2 hg1
        refine held_take 5 21 rfl rfl (by kernel_rfl) (by kernel_rfl) (by kernel_rfl) (by rfl) hHeld noPanic_panic (v := ?_) (fun x hSx => ?_) ?_
        rotate_left 1
        · go_simp <;> with_reducible rfl
        simp only [List.set_cons_zero, List.set_cons_succ]
        refine held_one 6 8 (by kernel_rfl) rfl rfl (by rfl) (v := .pointer (some ⟨y2.heap.size, 0, none⟩)) (w' := y2.alloc (.cells two 57)) ?_ True.intro ?_
        · have mk0 := mk_i y2 room hroom2; have mk1 := mk_a y2 room hroom2; first | (go_simp; done) | (go_simp <;> first | exact ⟨rfl, rfl⟩ | rfl)
        simp only [List.set_cons_zero, List.set_cons_succ]
        have hg3 := (hg2).makeB
        obtain ⟨y3, hy3⟩ : ∃ y, y = y2.alloc (.cells two 57) := ⟨_, rfl⟩
        obtain ⟨by3, hby3⟩ : ∃ b, b = y2.heap.size := ⟨_, rfl⟩
        rw [← hy3, ← hby3] at hg3
        rw [← hy3, ← hby3]
        clear hy3 hby3 hg2
        have hcb := (hg3.b _ rfl).2
        have hc0 : y3.cell? ⟨by3, 0, none⟩ = some (.slice none 0 0) := by simp [World.cell?, hcb, two]
        have hc1 : y3.cell? ⟨by3, 1, none⟩ = some (.slice none 0 0) := by simp [World.cell?, hcb, two]
        have hf0 : y3.frozen? ⟨by3, 0, none⟩ = false := by simp [World.frozen?, hcb]
        have hf1 : y3.frozen? ⟨by3, 1, none⟩ = false := by simp [World.frozen?, hcb]
        clear hcb
        have HD := hide (hg3.done (A := A) (B := B) (unhide HRM) (by omega))
        clear hg3
        refine held_skip 7 (by kernel_rfl) rfl rfl (by rfl) (w' := (y3.setCell ⟨by3, 0, none⟩ (.slice (some ⟨by1, 0, none⟩) 0 room)).setCell ⟨by3, 1, none⟩ (.slice (some ⟨by2, 0, none⟩) 1 (room + 1))) ?_ True.intro ?_
        · first | (go_simp; done) | (go_simp <;> rfl)
        refine wpAnyH_done (by kernel_rfl) ?_ _
        refine NoPanic.normal ?_
        go_wp2_with fail
        go_meet
        exact ⟨by3, _, _, rfl, unhide HD⟩
      · refine held_go 6 8 hK rfl (by rfl) (v := .pointer (some ⟨y1.heap.size, 0, none⟩)) (w' := y1.alloc (.cells two 57)) ?_ True.intro ?_
        · have mk0 := mk_i y1 room hroom2; have mk1 := mk_a y1 room hroom2; first | (go_simp; done) | (go_simp <;> first | exact ⟨rfl, rfl⟩ | rfl)
        simp only [List.set_cons_zero, List.set_cons_succ]
        have hg4 := (hg1).makeB
        obtain ⟨y4, hy4⟩ : ∃ y, y = y1.alloc (.cells two 57) := ⟨_, rfl⟩
        obtain ⟨by4, hby4⟩ : ∃ b, b = y1.heap.size := ⟨_, rfl⟩
        rw [← hy4, ← hby4] at hg4
        rw [← hy4, ← hby4]
        clear hy4 hby4 hg1
        refine held_one 4 20 (by kernel_rfl) rfl rfl (by rfl) (v := .slice (some ⟨y4.heap.size, 0, none⟩) 1 (room + 1)) (w' := y4.alloc (.cells (icells .i64 (room + 1) fun _ => 0) 3)) ?_ True.intro ?_
        · have mk0 := mk_i y4 room hroom2; have mk1 := mk_a y4 room hroom2; first | (go_simp; done) | (go_simp <;> first | exact ⟨rfl, rfl⟩ | rfl)
        simp only [List.set_cons_zero, List.set_cons_succ]
        have hg5 := (hg4).makeA
        obtain ⟨y5, hy5⟩ : ∃ y, y = y4.alloc (.cells (icells .i64 (room + 1) fun _ => 0) 3) := ⟨_, rfl⟩
        obtain ⟨by5, hby5⟩ : ∃ b, b = y4.heap.size := ⟨_, rfl⟩
        rw [← hy5, ← hby5] at hg5
        rw [← hy5, ← hby5]
        clear hy5 hby5 hg4
        refine held_take 5 21 rfl rfl (by kernel_rfl) (by kernel_rfl) (by kernel_rfl) (by rfl) hHeld noPanic_panic (v := ?_) (fun x hSx => ?_) ?_
        rotate_left 1
        · go_simp <;> with_reducible rfl
        simp only [List.set_cons_zero, List.set_cons_succ]
        have hcb := (hg5.b _ rfl).2
        have hc0 : y5.cell? ⟨by4, 0, none⟩ = some (.slice none 0 0) := by simp [World.cell?, hcb, two]
        have hc1 : y5.cell? ⟨by4, 1, none⟩ = some (.slice none 0 0) := by simp [World.cell?, hcb, two]
        have hf0 : y5.frozen? ⟨by4, 0, none⟩ = false := by simp [World.frozen?, hcb]
        have hf1 : y5.frozen? ⟨by4, 1, none⟩ = false := by simp [World.frozen?, hcb]
        clear hcb
        have HD := hide (hg5.done (A := A) (B := B) (unhide HRM) (by omega))
        clear hg5
        refine held_skip 7 (by kernel_rfl) rfl rfl (by rfl) (w' := (y5.setCell ⟨by4, 0, none⟩ (.slice (some ⟨by1, 0, none⟩) 0 room)).setCell ⟨by4, 1, none⟩ (.slice (some ⟨by5, 0, none⟩) 1 (room + 1))) ?_ True.intro ?_
        · first | (go_simp; done) | (go_simp <;> rfl)
        refine wpAnyH_done (by kernel_rfl) ?_ _
        refine NoPanic.normal ?_
        go_wp2_with fail
        go_meet
        exact ⟨by4, _, _, rfl, unhide HD⟩
    · refine held_go 4 20 hK rfl (by rfl) (v := .slice (some ⟨x0.heap.size, 0, none⟩) 1 (room + 1)) (w' := x0.alloc (.cells (icells .i64 (room + 1) fun _ => 0) 3)) ?_ True.intro ?_
      · have mk0 := mk_i x0 room hroom2; have mk1 := mk_a x0 room hroom2; first | (go_simp; done) | (go_simp <;> first | exact ⟨rfl, rfl⟩ | rfl)
      simp only [List.set_cons_zero, List.set_cons_succ]
      have hg6 := (hgot).makeA
      obtain ⟨y6, hy6⟩ : ∃ y, y = x0.alloc (.cells (icells .i64 (room + 1) fun _ => 0) 3) := ⟨_, rfl⟩
      obtain ⟨by6, hby6⟩ : ∃ b, b = x0.heap.size := ⟨_, rfl⟩
      rw [← hy6, ← hby6] at hg6
      rw [← hy6, ← hby6]
      clear hy6 hby6 hgot
      refine held_two (i := 1) (j := 6) (by kernel_rfl) rfl rfl (fun K hK => ?_) (fun K hK => ?_)
      · refine held_go 1 17 hK rfl (by rfl) (v := .slice (some ⟨y6.heap.size, 0, none⟩) 0 room) (w' := y6.alloc (.cells (icells .i64 room fun _ => 0) 3)) ?_ True.intro ?_
        · have mk0 := mk_i y6 room hroom2; have mk1 := mk_a y6 room hroom2; first | (go_simp; done) | (go_simp <;> first | exact ⟨rfl, rfl⟩ | rfl)
        simp only [List.set_cons_zero, List.set_cons_succ]
        have hg7 := (hg6).makeI
        obtain ⟨y7, hy7⟩ : ∃ y, y = y6.alloc (.cells (icells .i64 room fun _ => 0) 3) := ⟨_, rfl⟩
        obtain ⟨by7, hby7⟩ : ∃ b, b = y6.heap.size := ⟨_, rfl⟩
        rw [← hy7, ← hby7] at hg7
        rw [← hy7, ← hby7]
        clear hy7 hby7 hg6
        refine held_take 5 21 rfl rfl (by kernel_rfl) (by kernel_rfl) (by kernel_rfl) (by rfl) hHeld noPanic_panic (v := ?_) (fun x hSx => ?_) ?_
        rotate_left 1
        · go_simp <;> with_reducible rfl
        simp only [List.set_cons_zero, List.set_cons_succ]
        refine held_one 6 8 (by kernel_rfl) rfl rfl (by rfl) (v := .pointer (some ⟨y7.heap.size, 0, none⟩)) (w' := y7.alloc (.cells two 57)) ?_ True.intro ?_
        · have mk0 := mk_i y7 room hroom2; have mk1 := mk_a y7 room hroom2; first | (go_simp; done) | (go_simp <;> first | exact ⟨rfl, rfl⟩ | rfl)
        simp only [List.set_cons_zero, List.set_cons_succ]
        have hg8 := (hg7).makeB
        obtain ⟨y8, hy8⟩ : ∃ y, y = y7.alloc (.cells two 57) := ⟨_, rfl⟩
        obtain ⟨by8, hby8⟩ : ∃ b, b = y7.heap.size := ⟨_, rfl⟩
        rw [← hy8, ← hby8] at hg8
        rw [← hy8, ← hby8]
        clear hy8 hby8 hg7
        have hcb := (hg8.b _ rfl).2
        have hc0 : y8.cell? ⟨by8, 0, none⟩ = some (.slice none 0 0) := by simp [World.cell?, hcb, two]
        have hc1 : y8.cell? ⟨by8, 1, none⟩ = some (.slice none 0 0) := by simp [World.cell?, hcb, two]
        have hf0 : y8.frozen? ⟨by8, 0, none⟩ = false := by simp [World.frozen?, hcb]
        have hf1 : y8.frozen? ⟨by8, 1, none⟩ = false := by simp [World.frozen?, hcb]
        clear hcb
        have HD := hide (hg8.done (A := A) (B := B) (unhide HRM) (by omega))
        clear hg8
        refine held_skip 7 (by kernel_rfl) rfl rfl (by rfl) (w' := (y8.setCell ⟨by8, 0, none⟩ (.slice (some ⟨by7, 0, none⟩) 0 room)).setCell ⟨by8, 1, none⟩ (.slice (some ⟨by6, 0, none⟩) 1 (room + 1))) ?_ True.intro ?_
        · first | (go_simp; done) | (go_simp <;> rfl)
        refine wpAnyH_done (by kernel_rfl) ?_ _
        refine NoPanic.normal ?_
        go_wp2_with fail
        go_meet
        exact ⟨by8, _, _, rfl, unhide HD⟩
      · refine held_go 6 8 hK rfl (by rfl) (v := .pointer (some ⟨y6.heap.size, 0, none⟩)) (w' := y6.alloc (.cells two 57)) ?_ True.intro ?_
        · have mk0 := mk_i y6 room hroom2; have mk1 := mk_a y6 room hroom2; first | (go_simp; done) | (go_simp <;> first | exact ⟨rfl, rfl⟩ | rfl)
        simp only [List.set_cons_zero, List.set_cons_succ]
        have hg9 := (hg6).makeB
        obtain ⟨y9, hy9⟩ : ∃ y, y = y6.alloc (.cells two 57) := ⟨_, rfl⟩
        obtain ⟨by9, hby9⟩ : ∃ b, b = y6.heap.size := ⟨_, rfl⟩
        rw [← hy9, ← hby9] at hg9
        rw [← hy9, ← hby9]
        clear hy9 hby9 hg6
        refine held_one 1 17 (by kernel_rfl) rfl rfl (by rfl) (v := .slice (some ⟨y9.heap.size, 0, none⟩) 0 room) (w' := y9.alloc (.cells (icells .i64 room fun _ => 0) 3)) ?_ True.intro ?_
        · have mk0 := mk_i y9 room hroom2; have mk1 := mk_a y9 room hroom2; first | (go_simp; done) | (go_simp <;> first | exact ⟨rfl, rfl⟩ | rfl)
        simp only [List.set_cons_zero, List.set_cons_succ]
        have hg10 := (hg9).makeI
        obtain ⟨y10, hy10⟩ : ∃ y, y = y9.alloc (.cells (icells .i64 room fun _ => 0) 3) := ⟨_, rfl⟩
        obtain ⟨by10, hby10⟩ : ∃ b, b = y9.heap.size := ⟨_, rfl⟩
        rw [← hy10, ← hby10] at hg10
        rw [← hy10, ← hby10]
        clear hy10 hby10 hg9
        refine held_take 5 21 rfl rfl (by kernel_rfl) (by kernel_rfl) (by kernel_rfl) (by rfl) hHeld noPanic_panic (v := ?_) (fun x hSx => ?_) ?_
        rotate_left 1
        · go_simp <;> with_reducible rfl
        simp only [List.set_cons_zero, List.set_cons_succ]
        have hcb := (hg10.b _ rfl).2
        have hc0 : y10.cell? ⟨by9, 0, none⟩ = some (.slice none 0 0) := by simp [World.cell?, hcb, two]
        have hc1 : y10.cell? ⟨by9, 1, none⟩ = some (.slice none 0 0) := by simp [World.cell?, hcb, two]
        have hf0 : y10.frozen? ⟨by9, 0, none⟩ = false := by simp [World.frozen?, hcb]
        have hf1 : y10.frozen? ⟨by9, 1, none⟩ = false := by simp [World.frozen?, hcb]
        clear hcb
        have HD := hide (hg10.done (A := A) (B := B) (unhide HRM) (by omega))
        clear hg10
        refine held_skip 7 (by kernel_rfl) rfl rfl (by rfl) (w' := (y10.setCell ⟨by9, 0, none⟩ (.slice (some ⟨by10, 0, none⟩) 0 room)).setCell ⟨by9, 1, none⟩ (.slice (some ⟨by6, 0, none⟩) 1 (room + 1))) ?_ True.intro ?_
        · first | (go_simp; done) | (go_simp <;> rfl)
        refine wpAnyH_done (by kernel_rfl) ?_ _
        refine NoPanic.normal ?_
        go_wp2_with fail
        go_meet
        exact ⟨by9, _, _, rfl, unhide HD⟩
    · refine held_go 6 8 hK rfl (by rfl) (v := .pointer (some ⟨x0.heap.size, 0, none⟩)) (w' := x0.alloc (.cells two 57)) ?_ True.intro ?_
      · have mk0 := mk_i x0 room hroom2; have mk1 := mk_a x0 room hroom2; first | (go_simp; done) | (go_simp <;> first | exact ⟨rfl, rfl⟩ | rfl)
      simp only [List.set_cons_zero, List.set_cons_succ]
      have hg11 := (hgot).makeB
      obtain ⟨y11, hy11⟩ : ∃ y, y = x0.alloc (.cells two 57) := ⟨_, rfl⟩
      obtain ⟨by11, hby11⟩ : ∃ b, b = x0.heap.size := ⟨_, rfl⟩
      rw [← hy11, ← hby11] at hg11
      rw [← hy11, ← hby11]
      clear hy11 hby11 hgot
      refine held_two (i := 1) (j := 4) (by kernel_rfl) rfl rfl (fun K hK => ?_) (fun K hK => ?_)
      · refine held_go 1 17 hK rfl (by rfl) (v := .slice (some ⟨y11.heap.size, 0, none⟩) 0 room) (w' := y11.alloc (.cells (icells .i64 room fun _ => 0) 3)) ?_ True.intro ?_
        · have mk0 := mk_i y11 room hroom2; have mk1 := mk_a y11 room hroom2; first | (go_simp; done) | (go_simp <;> first | exact ⟨rfl, rfl⟩ | rfl)
        simp only [List.set_cons_zero, List.set_cons_succ]
        have hg12 := (hg11).makeI
        obtain ⟨y12, hy12⟩ : ∃ y, y = y11.alloc (.cells (icells .i64 room fun _ => 0) 3) := ⟨_, rfl⟩
        obtain ⟨by12, hby12⟩ : ∃ b, b = y11.heap.size := ⟨_, rfl⟩
        rw [← hy12, ← hby12] at hg12
        rw [← hy12, ← hby12]
        clear hy12 hby12 hg11
        refine held_one 4 20 (by kernel_rfl) rfl rfl (by rfl) (v := .slice (some ⟨y12.heap.size, 0, none⟩) 1 (room + 1)) (w' := y12.alloc (.cells (icells .i64 (room + 1) fun _ => 0) 3)) ?_ True.intro ?_
        · have mk0 := mk_i y12 room hroom2; have mk1 := mk_a y12 room hroom2; first | (go_simp; done) | (go_simp <;> first | exact ⟨rfl, rfl⟩ | rfl)
        simp only [List.set_cons_zero, List.set_cons_succ]
        have hg13 := (hg12).makeA
        obtain ⟨y13, hy13⟩ : ∃ y, y = y12.alloc (.cells (icells .i64 (room + 1) fun _ => 0) 3) := ⟨_, rfl⟩
        obtain ⟨by13, hby13⟩ : ∃ b, b = y12.heap.size := ⟨_, rfl⟩
        rw [← hy13, ← hby13] at hg13
        rw [← hy13, ← hby13]
        clear hy13 hby13 hg12
        refine held_take 5 21 rfl rfl (by kernel_rfl) (by kernel_rfl) (by kernel_rfl) (by rfl) hHeld noPanic_panic (v := ?_) (fun x hSx => ?_) ?_
        rotate_left 1
        · go_simp <;> with_reducible rfl
        simp only [List.set_cons_zero, List.set_cons_succ]
        have hcb := (hg13.b _ rfl).2
        have hc0 : y13.cell? ⟨by11, 0, none⟩ = some (.slice none 0 0) := by simp [World.cell?, hcb, two]
        have hc1 : y13.cell? ⟨by11, 1, none⟩ = some (.slice none 0 0) := by simp [World.cell?, hcb, two]
        have hf0 : y13.frozen? ⟨by11, 0, none⟩ = false := by simp [World.frozen?, hcb]
        have hf1 : y13.frozen? ⟨by11, 1, none⟩ = false := by simp [World.frozen?, hcb]
        clear hcb
        have HD := hide (hg13.done (A := A) (B := B) (unhide HRM) (by omega))
        clear hg13
        refine held_skip 7 (by kernel_rfl) rfl rfl (by rfl) (w' := (y13.setCell ⟨by11, 0, none⟩ (.slice (some ⟨by12, 0, none⟩) 0 room)).setCell ⟨by11, 1, none⟩ (.slice (some ⟨by13, 0, none⟩) 1 (room + 1))) ?_ True.intro ?_
        · first | (go_simp; done) | (go_simp <;> rfl)
        refine wpAnyH_done (by kernel_rfl) ?_ _
        refine NoPanic.normal ?_
        go_wp2_with fail
        go_meet
        exact ⟨by11, _, _, rfl, unhide HD⟩
      · refine held_go 4 20 hK rfl (by rfl) (v := .slice (some ⟨y11.heap.size, 0, none⟩) 1 (room + 1)) (w' := y11.alloc (.cells (icells .i64 (room + 1) fun _ => 0) 3)) ?_ True.intro ?_
        · have mk0 := mk_i y11 room hroom2; have mk1 := mk_a y11 room hroom2; first | (go_simp; done) | (go_simp <;> first | exact ⟨rfl, rfl⟩ | rfl)
        simp only [List.set_cons_zero, List.set_cons_succ]
        have hg14 := (hg11).makeA
        obtain ⟨y14, hy14⟩ : ∃ y, y = y11.alloc (.cells (icells .i64 (room + 1) fun _ => 0) 3) := ⟨_, rfl⟩
        obtain ⟨by14, hby14⟩ : ∃ b, b = y11.heap.size := ⟨_, rfl⟩
        rw [← hy14, ← hby14] at hg14
        rw [← hy14, ← hby14]
        clear hy14 hby14 hg11
        refine held_one 1 17 (by kernel_rfl) rfl rfl (by rfl) (v := .slice (some ⟨y14.heap.size, 0, none⟩) 0 room) (w' := y14.alloc (.cells (icells .i64 room fun _ => 0) 3)) ?_ True.intro ?_
        · have mk0 := mk_i y14 room hroom2; have mk1 := mk_a y14 room hroom2; first | (go_simp; done) | (go_simp <;> first | exact ⟨rfl, rfl⟩ | rfl)
        simp only [List.set_cons_zero, List.set_cons_succ]
        have hg15 := (hg14).makeI
        obtain ⟨y15, hy15⟩ : ∃ y, y = y14.alloc (.cells (icells .i64 room fun _ => 0) 3) := ⟨_, rfl⟩
        obtain ⟨by15, hby15⟩ : ∃ b, b = y14.heap.size := ⟨_, rfl⟩
        rw [← hy15, ← hby15] at hg15
        rw [← hy15, ← hby15]
        clear hy15 hby15 hg14
        refine held_take 5 21 rfl rfl (by kernel_rfl) (by kernel_rfl) (by kernel_rfl) (by rfl) hHeld noPanic_panic (v := ?_) (fun x hSx => ?_) ?_
        rotate_left 1
        · go_simp <;> with_reducible rfl
        simp only [List.set_cons_zero, List.set_cons_succ]
        have hcb := (hg15.b _ rfl).2
        have hc0 : y15.cell? ⟨by11, 0, none⟩ = some (.slice none 0 0) := by simp [World.cell?, hcb, two]
        have hc1 : y15.cell? ⟨by11, 1, none⟩ = some (.slice none 0 0) := by simp [World.cell?, hcb, two]
        have hf0 : y15.frozen? ⟨by11, 0, none⟩ = false := by simp [World.frozen?, hcb]
        have hf1 : y15.frozen? ⟨by11, 1, none⟩ = false := by simp [World.frozen?, hcb]
        clear hcb
        have HD := hide (hg15.done (A := A) (B := B) (unhide HRM) (by omega))
        clear hg15
        refine held_skip 7 (by kernel_rfl) rfl rfl (by rfl) (w' := (y15.setCell ⟨by11, 0, none⟩ (.slice (some ⟨by15, 0, none⟩) 0 room)).setCell ⟨by11, 1, none⟩ (.slice (some ⟨by14, 0, none⟩) 1 (room + 1))) ?_ True.intro ?_
        · first | (go_simp; done) | (go_simp <;> rfl)
        refine wpAnyH_done (by kernel_rfl) ?_ _
        refine NoPanic.normal ?_
        go_wp2_with fail
        go_meet
        exact ⟨by11, _, _, rfl, unhide HD⟩
  case rest =>
    obtain ⟨bx, vi0, va0, rfl, hat0⟩ := hcut
    obtain ⟨i0, hii, hz0, hz1, hz2⟩ := info_parts info3'
    have HAT0 := hide hat0
    clear hat0
    go_wp2_with fail
    go_loopg [9, 10] room (fun gk d c ws => ∃ (i j : Nat) (vi va : Value), gk = room - (i + j) ∧ i + j ≤ room ∧ Merge.st A B (i + j) = (i, j) ∧ i ≤ n ∧ j ≤ m ∧ d = .int .i64 (i : Int) ∧ c = .int .i64 (j : Int) ∧ MAt A B w ws bx vi va (i + j) (i + j + 1))
    case atStart => exact ⟨0, 0, vi0, va0, by omega, by omega, rfl, by omega, by omega, rfl, rfl, unhide HAT0⟩
    case round =>
      obtain ⟨i, j, vi, va, rfl, hij, hst, hin, hjm, rfl, rfl, hat⟩ := hrel
      clear HAT0
      have hroom := unhide HROOM
      obtain ⟨p, hp⟩ : ∃ p, p = i + j := ⟨_, rfl⟩
      rw [← hp] at hst hat hij
      have HP := hide hp
      have HAT := hide hat
      by_cases hlt : p < room
      · have hst1 := st_next A B hst
        have hit := item_at A B hst (by rw [← unhide HN, ← unhide HM, ← hroom]; exact hlt)
        have hah := ahd_at A B (p + 1) (by rw [← unhide HN, ← unhide HM, ← hroom]; omega)
        by_cases hj : j = m
        · subst hj
          have hi : i < n := by omega
          obtain ⟨ba, oa, rfl, hcA⟩ := unhide HSA (by omega)
          obtain ⟨z, hzA⟩ : ∃ z, A.getD i 0 = z := ⟨_, rfl⟩
          have kA := hcA i (by omega)
          rw [ints_get A i (by rw [← unhide HN]; omega), hzA] at kA
          have kA1 := cell_stays hat.bel kA
          clear hcA
          have hg : Merge.goes A B (i, j) = true := Merge.goes_iff.2 (.inl (unhide HM))
          have t1 : (i : Int) < (n : Int) := by omega
          have t2 : ((j : Int) == (j : Int)) = true := by simp
          have HST : Hid (Merge.st A B (p + 1) = (i + 1, j)) := hide (by rw [hst1, if_pos hg])
          have HIT : Hid ((Merge.mgd A B)[p]? = some z) := hide (by rw [hit, if_pos hg, hzA])
          have HAH : Hid ((Merge.ahd A B)[p + 1]? = some (i + 1)) := hide (by rw [hah, unhide HST])
          clear hst1 hit hah hst hg hzA hat hp hroom
          go_wp2_with fail
          go_quiet (fail)
          go_wp2_with fail
          obtain ⟨x0, hx0⟩ : ∃ x, x = wr.drewN nq := ⟨_, rfl⟩
          have hat := (unhide HAT).drewN nq
          rw [← hx0] at hat
          rw [← hx0]
          clear hx0 HAT
          go_cut [9] from 22 to 81 (fun v9 wc => v9 = .int .i64 (i : Int) ∧ ∃ vi', MAt A B w wc bx vi' va (p + 1) (p + 1))
          case first =>
            refine wp_region_noPanic ?_
            refine wp_region_held_drew (S := fun x : World => Below w.heap.size w x) (by kernel_rfl) hat.drew.bel (fun hHeld => ?_)
            have hat1 := hat.drew
            obtain ⟨x1, hx1⟩ : ∃ x, x = x0.drew := ⟨_, rfl⟩
            rw [← hx1] at hat1 hHeld
            rw [← hx1]
            clear hx1 hat
            refine held_take 0 54 rfl rfl (by kernel_rfl) (by kernel_rfl) (by kernel_rfl) (by rfl) hHeld noPanic_panic (v := ?_) (fun x hSx => ?_) ?_
            rotate_left 1
            · (have q0 := cell_stays hSx kA; go_simp <;> with_reducible rfl)
            simp only [List.set_cons_zero, List.set_cons_succ]
            refine held_take 2 56 rfl rfl (by kernel_rfl) (by kernel_rfl) (by kernel_rfl) (by rfl) hHeld noPanic_panic (v := ?_) (fun x hSx => ?_) ?_
            rotate_left 1
            · (have q0 := cell_stays hSx kA; go_simp <;> with_reducible rfl)
            simp only [List.set_cons_zero, List.set_cons_succ]
            refine held_take 3 57 rfl rfl (by kernel_rfl) (by kernel_rfl) (by kernel_rfl) (by rfl) hHeld noPanic_panic (v := ?_) (fun x hSx => ?_) ?_
            rotate_left 1
            · (have q0 := cell_stays hSx kA; go_simp <;> with_reducible rfl)
            simp only [List.set_cons_zero, List.set_cons_succ]
            refine held_take 4 58 rfl rfl (by kernel_rfl) (by kernel_rfl) (by kernel_rfl) (by rfl) hHeld noPanic_panic (v := ?_) (fun x hSx => ?_) ?_
            rotate_left 1
            · (have q0 := cell_stays hSx kA; go_simp <;> with_reducible rfl)
            simp only [List.set_cons_zero, List.set_cons_succ]
            refine held_take 5 59 rfl rfl (by kernel_rfl) (by kernel_rfl) (by kernel_rfl) (by rfl) hHeld noPanic_panic (v := ?_) (fun x hSx => ?_) ?_
            rotate_left 1
            · (have q0 := cell_stays hSx kA; go_simp <;> with_reducible rfl)
            simp only [List.set_cons_zero, List.set_cons_succ]
            refine held_two (i := 1) (j := 6) (by kernel_rfl) rfl rfl (fun K hK => ?_) (fun K hK => ?_)
            · refine held_go 1 55 hK rfl (by rfl) (v := vi) (w' := x1) ?_ hHeld ?_
              · have q0 := hat1.c0; go_simp
              simp only [List.set_cons_zero, List.set_cons_succ]
              refine held_one 6 60 (by kernel_rfl) rfl rfl (by rfl) (v := .slice (some ⟨x1.heap.size, 0, none⟩) 1 1) (w' := x1.alloc (.cells #[.int .i64 (z : Int)] 3)) ?_ (hHeld.trans ((Below.refl _ _).alloc hHeld.size _)) ?_
              · go_simp <;> exact ⟨rfl, rfl⟩
              simp only [List.set_cons_zero, List.set_cons_succ]
              refine held_append 7 61 (.tmp 55) (.tmp 60) (by kernel_rfl) rfl rfl (by rfl) rfl rfl (w.heap.size + 1) vi p ((ints ((Merge.mgd A B).take p)).map iv) (by rfl) (hat1.oi.alloc _) ⟨x1.heap.size, 0, none⟩ (z : Int) (by rfl) (new_int _ _) (by omega) (by have := hat1.lt; have := hat1.lo; simp; omega) (x1.heap.size + 1) (by simp) (fun w' hg => (hat1.grownI hg).2.2) ?_
              intro g cap w2 h1 h2 h3 h4
              simp only [List.set_cons_zero, List.set_cons_succ]
              obtain ⟨e0, e1, e2⟩ := hat1.grownI h2
              have HX := hide (hat1.app0 (unhide HIT) _ h1 h2 h3)
              clear h1 h2 h3 h4 hHeld
              have hHeld := e2
              refine held_take 8 62 rfl rfl (by kernel_rfl) (by kernel_rfl) (by kernel_rfl) (by rfl) hHeld noPanic_panic (v := ?_) (fun x hSx => ?_) ?_
              rotate_left 1
              · go_simp <;> with_reducible rfl
              simp only [List.set_cons_zero, List.set_cons_succ]
              refine held_skip 9 (by kernel_rfl) rfl rfl (by rfl) (w' := w2.setCell ⟨bx, 0, none⟩ (.slice (some ⟨g, 0, none⟩) (p + 1) cap)) ?_ (unhide HX).bel ?_
              · go_simp
              refine wpAnyH_done (by kernel_rfl) ?_ _
              refine NoPanic.normal ?_
              go_wp2_with fail
              go_meet
              exact ⟨rfl, _, unhide HX⟩
            · refine held_go 6 60 hK rfl (by rfl) (v := .slice (some ⟨x1.heap.size, 0, none⟩) 1 1) (w' := x1.alloc (.cells #[.int .i64 (z : Int)] 3)) ?_ (hHeld.trans ((Below.refl _ _).alloc hHeld.size _)) ?_
              · go_simp <;> exact ⟨rfl, rfl⟩
              simp only [List.set_cons_zero, List.set_cons_succ]
              refine held_one 1 55 (by kernel_rfl) rfl rfl (by rfl) (v := vi) (w' := x1.alloc (.cells #[.int .i64 (z : Int)] 3)) ?_ (hHeld.trans ((Below.refl _ _).alloc hHeld.size _)) ?_
              · have q0 : (x1.alloc (.cells #[.int .i64 (z : Int)] 3)).cell? ⟨bx, 0, none⟩ = some vi := cell_stays ((Below.refl _ _).alloc (Nat.le_refl _) _) hat1.c0; go_simp
              simp only [List.set_cons_zero, List.set_cons_succ]
              refine held_append 7 61 (.tmp 55) (.tmp 60) (by kernel_rfl) rfl rfl (by rfl) rfl rfl (w.heap.size + 1) vi p ((ints ((Merge.mgd A B).take p)).map iv) (by rfl) (hat1.oi.alloc _) ⟨x1.heap.size, 0, none⟩ (z : Int) (by rfl) (new_int _ _) (by omega) (by have := hat1.lt; have := hat1.lo; simp; omega) (x1.heap.size + 1) (by simp) (fun w' hg => (hat1.grownI hg).2.2) ?_
              intro g cap w2 h1 h2 h3 h4
              simp only [List.set_cons_zero, List.set_cons_succ]
              obtain ⟨e0, e1, e2⟩ := hat1.grownI h2
              have HX := hide (hat1.app0 (unhide HIT) _ h1 h2 h3)
              clear h1 h2 h3 h4 hHeld
              have hHeld := e2
              refine held_take 8 62 rfl rfl (by kernel_rfl) (by kernel_rfl) (by kernel_rfl) (by rfl) hHeld noPanic_panic (v := ?_) (fun x hSx => ?_) ?_
              rotate_left 1
              · go_simp <;> with_reducible rfl
              simp only [List.set_cons_zero, List.set_cons_succ]
              refine held_skip 9 (by kernel_rfl) rfl rfl (by rfl) (w' := w2.setCell ⟨bx, 0, none⟩ (.slice (some ⟨g, 0, none⟩) (p + 1) cap)) ?_ (unhide HX).bel ?_
              · go_simp
              refine wpAnyH_done (by kernel_rfl) ?_ _
              refine NoPanic.normal ?_
              go_wp2_with fail
              go_meet
              exact ⟨rfl, _, unhide HX⟩
          case rest =>
            obtain ⟨rfl, vi', hat2⟩ := hcut
            clear hat
            have c1 := hat2.c1
            have HAT2 := hide hat2
            have HOWN := hide (hat2.oa.alloc (.cells #[.int .i64 ((i + 1 : Nat) : Int)] 3))
            have HNEW := hide (new_news wc ((i + 1 : Nat) : Int))
            have hwlt : Hid (w.heap.size + 1 ≤ wc.heap.size + 1) := hide (by have := hat2.bel.size; omega)
            clear hat2
            go_wp2_with (at_builtin; go_must (refine wpList_append_lies _ rfl (.tmp 77) (.tmp 79) 22 rfl (w.heap.size + 1) 3 i0 _ 1 8 Try.underlying22 hii hz0 hz1 hz2 rfl (by decide) va (p + 1) _ (by rfl) (unhide HOWN) ⟨wc.heap.size, 0, none⟩ 1 1 [iv ((i + 1 : Nat) : Int)] (by rfl) rfl (unhide HNEW) (by intro u hu; simp at hu; subst hu; rfl) (by omega) (by unfold maxLen; omega) (by omega) (by have := unhide hwlt; simp; omega) (wc.heap.size + 1) (by simp) ?_; intro g cap w2 h1 h2 h3 h4; obtain ⟨e0, e1, e2⟩ := (unhide HAT2).grownA h2; have HX := hide ((unhide HAT2).app1 (unhide HAH) _ h1 h2 h3); clear h1 h2 h3 h4 c1 e2))
            go_roundg (room - (p + 1))
            case measure => have := unhide HP; omega
            case rel => exact ⟨i + 1, j, vi', _, by have := unhide HP; omega, by have := unhide HP; omega, by rw [show i + 1 + j = p + 1 by have := unhide HP; omega]; exact unhide HST, by omega, by omega, by go_num, rfl, by rw [show i + 1 + j = p + 1 by have := unhide HP; omega]; exact unhide HX⟩
        · have hj' : j < m := by omega
          have t2 : ((j : Int) == (m : Int)) = false := by simp; omega
          have t3 : (j : Int) < (m : Int) := by omega
          by_cases hi : i < n
          · obtain ⟨ba, oa, rfl, hcA⟩ := unhide HSA (by omega)
            obtain ⟨z, hzA⟩ : ∃ z, A.getD i 0 = z := ⟨_, rfl⟩
            have kA := hcA i (by omega)
            rw [ints_get A i (by rw [← unhide HN]; omega), hzA] at kA
            have kA1 := cell_stays hat.bel kA
            clear hcA
            obtain ⟨bb, ob, rfl, hcB⟩ := unhide HSB (by omega)
            obtain ⟨y, hzB⟩ : ∃ y, B.getD j 0 = y := ⟨_, rfl⟩
            have kB := hcB j (by omega)
            rw [ints_get B j (by rw [← unhide HM]; omega), hzB] at kB
            have kB1 := cell_stays hat.bel kB
            clear hcB
            have t1 : (i : Int) < (n : Int) := by omega
            by_cases hle : z ≤ y
            · have hg : Merge.goes A B (i, j) = true := Merge.goes_iff.2 (.inr ⟨by rw [← unhide HN]; exact hi, by rw [hzA, hzB]; exact hle⟩)
              clear hzB
              have HLE := hide (le_yes (z : Int) (y : Int) (by omega))
              have HST : Hid (Merge.st A B (p + 1) = (i + 1, j)) := hide (by rw [hst1, if_pos hg])
              have HIT : Hid ((Merge.mgd A B)[p]? = some z) := hide (by rw [hit, if_pos hg, hzA])
              have HAH : Hid ((Merge.ahd A B)[p + 1]? = some (i + 1)) := hide (by rw [hah, unhide HST])
              clear hst1 hit hah hst hg hzA hat hp hroom
              go_wp2_with fail
              go_quiet (first | (go_at_call 25; refine Calls.quiet_of_same (unhide HLE _)))
              go_wp2_with fail
              obtain ⟨x0, hx0⟩ : ∃ x, x = wr.drewN nq := ⟨_, rfl⟩
              have hat := (unhide HAT).drewN nq
              rw [← hx0] at hat
              rw [← hx0]
              clear hx0 HAT
              go_cut [9] from 22 to 81 (fun v9 wc => v9 = .int .i64 (i : Int) ∧ ∃ vi', MAt A B w wc bx vi' va (p + 1) (p + 1))
              case first =>
                refine wp_region_noPanic ?_
                refine wp_region_held_drew (S := fun x : World => Below w.heap.size w x) (by kernel_rfl) hat.drew.bel (fun hHeld => ?_)
                have hat1 := hat.drew
                obtain ⟨x1, hx1⟩ : ∃ x, x = x0.drew := ⟨_, rfl⟩
                rw [← hx1] at hat1 hHeld
                rw [← hx1]
                clear hx1 hat
                refine held_take 0 54 rfl rfl (by kernel_rfl) (by kernel_rfl) (by kernel_rfl) (by rfl) hHeld noPanic_panic (v := ?_) (fun x hSx => ?_) ?_
                rotate_left 1
                · (have q0 := cell_stays hSx kA; go_simp <;> with_reducible rfl)
                simp only [List.set_cons_zero, List.set_cons_succ]
                refine held_take 2 56 rfl rfl (by kernel_rfl) (by kernel_rfl) (by kernel_rfl) (by rfl) hHeld noPanic_panic (v := ?_) (fun x hSx => ?_) ?_
                rotate_left 1
                · (have q0 := cell_stays hSx kA; go_simp <;> with_reducible rfl)
                simp only [List.set_cons_zero, List.set_cons_succ]
                refine held_take 3 57 rfl rfl (by kernel_rfl) (by kernel_rfl) (by kernel_rfl) (by rfl) hHeld noPanic_panic (v := ?_) (fun x hSx => ?_) ?_
                rotate_left 1
                · (have q0 := cell_stays hSx kA; go_simp <;> with_reducible rfl)
                simp only [List.set_cons_zero, List.set_cons_succ]
                refine held_take 4 58 rfl rfl (by kernel_rfl) (by kernel_rfl) (by kernel_rfl) (by rfl) hHeld noPanic_panic (v := ?_) (fun x hSx => ?_) ?_
                rotate_left 1
                · (have q0 := cell_stays hSx kA; go_simp <;> with_reducible rfl)
                simp only [List.set_cons_zero, List.set_cons_succ]
                refine held_take 5 59 rfl rfl (by kernel_rfl) (by kernel_rfl) (by kernel_rfl) (by rfl) hHeld noPanic_panic (v := ?_) (fun x hSx => ?_) ?_
                rotate_left 1
                · (have q0 := cell_stays hSx kA; go_simp <;> with_reducible rfl)
                simp only [List.set_cons_zero, List.set_cons_succ]
                refine held_two (i := 1) (j := 6) (by kernel_rfl) rfl rfl (fun K hK => ?_) (fun K hK => ?_)
                · refine held_go 1 55 hK rfl (by rfl) (v := vi) (w' := x1) ?_ hHeld ?_
                  · have q0 := hat1.c0; go_simp
                  simp only [List.set_cons_zero, List.set_cons_succ]
                  refine held_one 6 60 (by kernel_rfl) rfl rfl (by rfl) (v := .slice (some ⟨x1.heap.size, 0, none⟩) 1 1) (w' := x1.alloc (.cells #[.int .i64 (z : Int)] 3)) ?_ (hHeld.trans ((Below.refl _ _).alloc hHeld.size _)) ?_
                  · go_simp <;> exact ⟨rfl, rfl⟩
                  simp only [List.set_cons_zero, List.set_cons_succ]
                  refine held_append 7 61 (.tmp 55) (.tmp 60) (by kernel_rfl) rfl rfl (by rfl) rfl rfl (w.heap.size + 1) vi p ((ints ((Merge.mgd A B).take p)).map iv) (by rfl) (hat1.oi.alloc _) ⟨x1.heap.size, 0, none⟩ (z : Int) (by rfl) (new_int _ _) (by omega) (by have := hat1.lt; have := hat1.lo; simp; omega) (x1.heap.size + 1) (by simp) (fun w' hg => (hat1.grownI hg).2.2) ?_
                  intro g cap w2 h1 h2 h3 h4
                  simp only [List.set_cons_zero, List.set_cons_succ]
                  obtain ⟨e0, e1, e2⟩ := hat1.grownI h2
                  have HX := hide (hat1.app0 (unhide HIT) _ h1 h2 h3)
                  clear h1 h2 h3 h4 hHeld
                  have hHeld := e2
                  refine held_take 8 62 rfl rfl (by kernel_rfl) (by kernel_rfl) (by kernel_rfl) (by rfl) hHeld noPanic_panic (v := ?_) (fun x hSx => ?_) ?_
                  rotate_left 1
                  · go_simp <;> with_reducible rfl
                  simp only [List.set_cons_zero, List.set_cons_succ]
                  refine held_skip 9 (by kernel_rfl) rfl rfl (by rfl) (w' := w2.setCell ⟨bx, 0, none⟩ (.slice (some ⟨g, 0, none⟩) (p + 1) cap)) ?_ (unhide HX).bel ?_
                  · go_simp
                  refine wpAnyH_done (by kernel_rfl) ?_ _
                  refine NoPanic.normal ?_
                  go_wp2_with fail
                  go_meet
                  exact ⟨rfl, _, unhide HX⟩
                · refine held_go 6 60 hK rfl (by rfl) (v := .slice (some ⟨x1.heap.size, 0, none⟩) 1 1) (w' := x1.alloc (.cells #[.int .i64 (z : Int)] 3)) ?_ (hHeld.trans ((Below.refl _ _).alloc hHeld.size _)) ?_
                  · go_simp <;> exact ⟨rfl, rfl⟩
                  simp only [List.set_cons_zero, List.set_cons_succ]
                  refine held_one 1 55 (by kernel_rfl) rfl rfl (by rfl) (v := vi) (w' := x1.alloc (.cells #[.int .i64 (z : Int)] 3)) ?_ (hHeld.trans ((Below.refl _ _).alloc hHeld.size _)) ?_
                  · have q0 : (x1.alloc (.cells #[.int .i64 (z : Int)] 3)).cell? ⟨bx, 0, none⟩ = some vi := cell_stays ((Below.refl _ _).alloc (Nat.le_refl _) _) hat1.c0; go_simp
                  simp only [List.set_cons_zero, List.set_cons_succ]
                  refine held_append 7 61 (.tmp 55) (.tmp 60) (by kernel_rfl) rfl rfl (by rfl) rfl rfl (w.heap.size + 1) vi p ((ints ((Merge.mgd A B).take p)).map iv) (by rfl) (hat1.oi.alloc _) ⟨x1.heap.size, 0, none⟩ (z : Int) (by rfl) (new_int _ _) (by omega) (by have := hat1.lt; have := hat1.lo; simp; omega) (x1.heap.size + 1) (by simp) (fun w' hg => (hat1.grownI hg).2.2) ?_
                  intro g cap w2 h1 h2 h3 h4
                  simp only [List.set_cons_zero, List.set_cons_succ]
                  obtain ⟨e0, e1, e2⟩ := hat1.grownI h2
                  have HX := hide (hat1.app0 (unhide HIT) _ h1 h2 h3)
                  clear h1 h2 h3 h4 hHeld
                  have hHeld := e2
                  refine held_take 8 62 rfl rfl (by kernel_rfl) (by kernel_rfl) (by kernel_rfl) (by rfl) hHeld noPanic_panic (v := ?_) (fun x hSx => ?_) ?_
                  rotate_left 1
                  · go_simp <;> with_reducible rfl
                  simp only [List.set_cons_zero, List.set_cons_succ]
                  refine held_skip 9 (by kernel_rfl) rfl rfl (by rfl) (w' := w2.setCell ⟨bx, 0, none⟩ (.slice (some ⟨g, 0, none⟩) (p + 1) cap)) ?_ (unhide HX).bel ?_
                  · go_simp
                  refine wpAnyH_done (by kernel_rfl) ?_ _
                  refine NoPanic.normal ?_
                  go_wp2_with fail
                  go_meet
                  exact ⟨rfl, _, unhide HX⟩
              case rest =>
                obtain ⟨rfl, vi', hat2⟩ := hcut
                clear hat
                have c1 := hat2.c1
                have HAT2 := hide hat2
                have HOWN := hide (hat2.oa.alloc (.cells #[.int .i64 ((i + 1 : Nat) : Int)] 3))
                have HNEW := hide (new_news wc ((i + 1 : Nat) : Int))
                have hwlt : Hid (w.heap.size + 1 ≤ wc.heap.size + 1) := hide (by have := hat2.bel.size; omega)
                clear hat2
                go_wp2_with (at_builtin; go_must (refine wpList_append_lies _ rfl (.tmp 77) (.tmp 79) 22 rfl (w.heap.size + 1) 3 i0 _ 1 8 Try.underlying22 hii hz0 hz1 hz2 rfl (by decide) va (p + 1) _ (by rfl) (unhide HOWN) ⟨wc.heap.size, 0, none⟩ 1 1 [iv ((i + 1 : Nat) : Int)] (by rfl) rfl (unhide HNEW) (by intro u hu; simp at hu; subst hu; rfl) (by omega) (by unfold maxLen; omega) (by omega) (by have := unhide hwlt; simp; omega) (wc.heap.size + 1) (by simp) ?_; intro g cap w2 h1 h2 h3 h4; obtain ⟨e0, e1, e2⟩ := (unhide HAT2).grownA h2; have HX := hide ((unhide HAT2).app1 (unhide HAH) _ h1 h2 h3); clear h1 h2 h3 h4 c1 e2))
                go_roundg (room - (p + 1))
                case measure => have := unhide HP; omega
                case rel => exact ⟨i + 1, j, vi', _, by have := unhide HP; omega, by have := unhide HP; omega, by rw [show i + 1 + j = p + 1 by have := unhide HP; omega]; exact unhide HST, by omega, by omega, by go_num, rfl, by rw [show i + 1 + j = p + 1 by have := unhide HP; omega]; exact unhide HX⟩
            · have hg : ¬ Merge.goes A B (i, j) = true := fun h => by rcases Merge.goes_iff.1 h with h | h; exact hj (by rw [unhide HM]; exact h); exact hle (by rw [← hzA, ← hzB]; exact h.2)
              clear hzA
              have HLE := hide (le_no (z : Int) (y : Int) (by omega))
              have HST : Hid (Merge.st A B (p + 1) = (i, j + 1)) := hide (by rw [hst1, if_neg hg])
              have HIT : Hid ((Merge.mgd A B)[p]? = some y) := hide (by rw [hit, if_neg hg, hzB])
              have HAH : Hid ((Merge.ahd A B)[p + 1]? = some i) := hide (by rw [hah, unhide HST])
              clear hst1 hit hah hst hg hzB hat hp hroom
              go_wp2_with fail
              go_quiet (first | (go_at_call 25; refine Calls.quiet_of_same (unhide HLE _)))
              go_wp2_with fail
              obtain ⟨x0, hx0⟩ : ∃ x, x = wr.drewN nq := ⟨_, rfl⟩
              have hat := (unhide HAT).drewN nq
              rw [← hx0] at hat
              rw [← hx0]
              clear hx0 HAT
              go_cut [9] from 22 to 81 (fun v9 wc => v9 = .int .i64 (i : Int) ∧ ∃ vi', MAt A B w wc bx vi' va (p + 1) (p + 1))
              case first =>
                refine wp_region_noPanic ?_
                refine wp_region_held_drew (S := fun x : World => Below w.heap.size w x) (by kernel_rfl) hat.drew.bel (fun hHeld => ?_)
                have hat1 := hat.drew
                obtain ⟨x1, hx1⟩ : ∃ x, x = x0.drew := ⟨_, rfl⟩
                rw [← hx1] at hat1 hHeld
                rw [← hx1]
                clear hx1 hat
                refine held_take 0 65 rfl rfl (by kernel_rfl) (by kernel_rfl) (by kernel_rfl) (by rfl) hHeld noPanic_panic (v := ?_) (fun x hSx => ?_) ?_
                rotate_left 1
                · (have q0 := cell_stays hSx kB; go_simp <;> with_reducible rfl)
                simp only [List.set_cons_zero, List.set_cons_succ]
                refine held_take 2 67 rfl rfl (by kernel_rfl) (by kernel_rfl) (by kernel_rfl) (by rfl) hHeld noPanic_panic (v := ?_) (fun x hSx => ?_) ?_
                rotate_left 1
                · (have q0 := cell_stays hSx kB; go_simp <;> with_reducible rfl)
                simp only [List.set_cons_zero, List.set_cons_succ]
                refine held_take 3 68 rfl rfl (by kernel_rfl) (by kernel_rfl) (by kernel_rfl) (by rfl) hHeld noPanic_panic (v := ?_) (fun x hSx => ?_) ?_
                rotate_left 1
                · (have q0 := cell_stays hSx kB; go_simp <;> with_reducible rfl)
                simp only [List.set_cons_zero, List.set_cons_succ]
                refine held_take 4 69 rfl rfl (by kernel_rfl) (by kernel_rfl) (by kernel_rfl) (by rfl) hHeld noPanic_panic (v := ?_) (fun x hSx => ?_) ?_
                rotate_left 1
                · (have q0 := cell_stays hSx kB; go_simp <;> with_reducible rfl)
                simp only [List.set_cons_zero, List.set_cons_succ]
                refine held_take 5 70 rfl rfl (by kernel_rfl) (by kernel_rfl) (by kernel_rfl) (by rfl) hHeld noPanic_panic (v := ?_) (fun x hSx => ?_) ?_
                rotate_left 1
                · (have q0 := cell_stays hSx kB; go_simp <;> with_reducible rfl)
                simp only [List.set_cons_zero, List.set_cons_succ]
                refine held_two (i := 1) (j := 6) (by kernel_rfl) rfl rfl (fun K hK => ?_) (fun K hK => ?_)
                · refine held_go 1 66 hK rfl (by rfl) (v := vi) (w' := x1) ?_ hHeld ?_
                  · have q0 := hat1.c0; go_simp
                  simp only [List.set_cons_zero, List.set_cons_succ]
                  refine held_one 6 71 (by kernel_rfl) rfl rfl (by rfl) (v := .slice (some ⟨x1.heap.size, 0, none⟩) 1 1) (w' := x1.alloc (.cells #[.int .i64 (y : Int)] 3)) ?_ (hHeld.trans ((Below.refl _ _).alloc hHeld.size _)) ?_
                  · go_simp <;> exact ⟨rfl, rfl⟩
                  simp only [List.set_cons_zero, List.set_cons_succ]
                  refine held_append 7 72 (.tmp 66) (.tmp 71) (by kernel_rfl) rfl rfl (by rfl) rfl rfl (w.heap.size + 1) vi p ((ints ((Merge.mgd A B).take p)).map iv) (by rfl) (hat1.oi.alloc _) ⟨x1.heap.size, 0, none⟩ (y : Int) (by rfl) (new_int _ _) (by omega) (by have := hat1.lt; have := hat1.lo; simp; omega) (x1.heap.size + 1) (by simp) (fun w' hg => (hat1.grownI hg).2.2) ?_
                  intro g cap w2 h1 h2 h3 h4
                  simp only [List.set_cons_zero, List.set_cons_succ]
                  obtain ⟨e0, e1, e2⟩ := hat1.grownI h2
                  have HX := hide (hat1.app0 (unhide HIT) _ h1 h2 h3)
                  clear h1 h2 h3 h4 hHeld
                  have hHeld := e2
                  refine held_take 8 73 rfl rfl (by kernel_rfl) (by kernel_rfl) (by kernel_rfl) (by rfl) hHeld noPanic_panic (v := ?_) (fun x hSx => ?_) ?_
                  rotate_left 1
                  · go_simp <;> with_reducible rfl
                  simp only [List.set_cons_zero, List.set_cons_succ]
                  refine held_skip 9 (by kernel_rfl) rfl rfl (by rfl) (w' := w2.setCell ⟨bx, 0, none⟩ (.slice (some ⟨g, 0, none⟩) (p + 1) cap)) ?_ (unhide HX).bel ?_
                  · go_simp
                  refine wpAnyH_done (by kernel_rfl) ?_ _
                  refine NoPanic.normal ?_
                  go_wp2_with fail
                  go_meet
                  exact ⟨rfl, _, unhide HX⟩
                · refine held_go 6 71 hK rfl (by rfl) (v := .slice (some ⟨x1.heap.size, 0, none⟩) 1 1) (w' := x1.alloc (.cells #[.int .i64 (y : Int)] 3)) ?_ (hHeld.trans ((Below.refl _ _).alloc hHeld.size _)) ?_
                  · go_simp <;> exact ⟨rfl, rfl⟩
                  simp only [List.set_cons_zero, List.set_cons_succ]
                  refine held_one 1 66 (by kernel_rfl) rfl rfl (by rfl) (v := vi) (w' := x1.alloc (.cells #[.int .i64 (y : Int)] 3)) ?_ (hHeld.trans ((Below.refl _ _).alloc hHeld.size _)) ?_
                  · have q0 : (x1.alloc (.cells #[.int .i64 (y : Int)] 3)).cell? ⟨bx, 0, none⟩ = some vi := cell_stays ((Below.refl _ _).alloc (Nat.le_refl _) _) hat1.c0; go_simp
                  simp only [List.set_cons_zero, List.set_cons_succ]
                  refine held_append 7 72 (.tmp 66) (.tmp 71) (by kernel_rfl) rfl rfl (by rfl) rfl rfl (w.heap.size + 1) vi p ((ints ((Merge.mgd A B).take p)).map iv) (by rfl) (hat1.oi.alloc _) ⟨x1.heap.size, 0, none⟩ (y : Int) (by rfl) (new_int _ _) (by omega) (by have := hat1.lt; have := hat1.lo; simp; omega) (x1.heap.size + 1) (by simp) (fun w' hg => (hat1.grownI hg).2.2) ?_
                  intro g cap w2 h1 h2 h3 h4
                  simp only [List.set_cons_zero, List.set_cons_succ]
                  obtain ⟨e0, e1, e2⟩ := hat1.grownI h2
                  have HX := hide (hat1.app0 (unhide HIT) _ h1 h2 h3)
                  clear h1 h2 h3 h4 hHeld
                  have hHeld := e2
                  refine held_take 8 73 rfl rfl (by kernel_rfl) (by kernel_rfl) (by kernel_rfl) (by rfl) hHeld noPanic_panic (v := ?_) (fun x hSx => ?_) ?_
                  rotate_left 1
                  · go_simp <;> with_reducible rfl
                  simp only [List.set_cons_zero, List.set_cons_succ]
                  refine held_skip 9 (by kernel_rfl) rfl rfl (by rfl) (w' := w2.setCell ⟨bx, 0, none⟩ (.slice (some ⟨g, 0, none⟩) (p + 1) cap)) ?_ (unhide HX).bel ?_
                  · go_simp
                  refine wpAnyH_done (by kernel_rfl) ?_ _
                  refine NoPanic.normal ?_
                  go_wp2_with fail
                  go_meet
                  exact ⟨rfl, _, unhide HX⟩
              case rest =>
                obtain ⟨rfl, vi', hat2⟩ := hcut
                clear hat
                have c1 := hat2.c1
                have HAT2 := hide hat2
                have HOWN := hide (hat2.oa.alloc (.cells #[.int .i64 ((i : Nat) : Int)] 3))
                have HNEW := hide (new_news wc ((i : Nat) : Int))
                have hwlt : Hid (w.heap.size + 1 ≤ wc.heap.size + 1) := hide (by have := hat2.bel.size; omega)
                clear hat2
                go_wp2_with (at_builtin; go_must (refine wpList_append_lies _ rfl (.tmp 77) (.tmp 79) 22 rfl (w.heap.size + 1) 3 i0 _ 1 8 Try.underlying22 hii hz0 hz1 hz2 rfl (by decide) va (p + 1) _ (by rfl) (unhide HOWN) ⟨wc.heap.size, 0, none⟩ 1 1 [iv ((i : Nat) : Int)] (by rfl) rfl (unhide HNEW) (by intro u hu; simp at hu; subst hu; rfl) (by omega) (by unfold maxLen; omega) (by omega) (by have := unhide hwlt; simp; omega) (wc.heap.size + 1) (by simp) ?_; intro g cap w2 h1 h2 h3 h4; obtain ⟨e0, e1, e2⟩ := (unhide HAT2).grownA h2; have HX := hide ((unhide HAT2).app1 (unhide HAH) _ h1 h2 h3); clear h1 h2 h3 h4 c1 e2))
                go_roundg (room - (p + 1))
                case measure => have := unhide HP; omega
                case rel => exact ⟨i, j + 1, vi', _, by have := unhide HP; omega, by have := unhide HP; omega, by rw [show i + (j + 1) = p + 1 by have := unhide HP; omega]; exact unhide HST, by omega, by omega, rfl, by go_num, by rw [show i + (j + 1) = p + 1 by have := unhide HP; omega]; exact unhide HX⟩
          · obtain ⟨bb, ob, rfl, hcB⟩ := unhide HSB (by omega)
            obtain ⟨y, hzB⟩ : ∃ y, B.getD j 0 = y := ⟨_, rfl⟩
            have kB := hcB j (by omega)
            rw [ints_get B j (by rw [← unhide HM]; omega), hzB] at kB
            have kB1 := cell_stays hat.bel kB
            clear hcB
            have t1 : ¬ (i : Int) < (n : Int) := by omega
            have hg : ¬ Merge.goes A B (i, j) = true := fun h => by rcases Merge.goes_iff.1 h with h | h; exact hj (by rw [unhide HM]; exact h); exact hi (by rw [unhide HN]; exact h.1)
            have HST : Hid (Merge.st A B (p + 1) = (i, j + 1)) := hide (by rw [hst1, if_neg hg])
            have HIT : Hid ((Merge.mgd A B)[p]? = some y) := hide (by rw [hit, if_neg hg, hzB])
            have HAH : Hid ((Merge.ahd A B)[p + 1]? = some i) := hide (by rw [hah, unhide HST])
            clear hst1 hit hah hst hg hzB hat hp hroom
            go_wp2_with fail
            go_quiet (fail)
            go_wp2_with fail
            obtain ⟨x0, hx0⟩ : ∃ x, x = wr.drewN nq := ⟨_, rfl⟩
            have hat := (unhide HAT).drewN nq
            rw [← hx0] at hat
            rw [← hx0]
            clear hx0 HAT
            go_cut [9] from 22 to 81 (fun v9 wc => v9 = .int .i64 (i : Int) ∧ ∃ vi', MAt A B w wc bx vi' va (p + 1) (p + 1))
            case first =>
              refine wp_region_noPanic ?_
              refine wp_region_held_drew (S := fun x : World => Below w.heap.size w x) (by kernel_rfl) hat.drew.bel (fun hHeld => ?_)
              have hat1 := hat.drew
              obtain ⟨x1, hx1⟩ : ∃ x, x = x0.drew := ⟨_, rfl⟩
              rw [← hx1] at hat1 hHeld
              rw [← hx1]
              clear hx1 hat
              refine held_take 0 65 rfl rfl (by kernel_rfl) (by kernel_rfl) (by kernel_rfl) (by rfl) hHeld noPanic_panic (v := ?_) (fun x hSx => ?_) ?_
              rotate_left 1
              · (have q0 := cell_stays hSx kB; go_simp <;> with_reducible rfl)
              simp only [List.set_cons_zero, List.set_cons_succ]
              refine held_take 2 67 rfl rfl (by kernel_rfl) (by kernel_rfl) (by kernel_rfl) (by rfl) hHeld noPanic_panic (v := ?_) (fun x hSx => ?_) ?_
              rotate_left 1
              · (have q0 := cell_stays hSx kB; go_simp <;> with_reducible rfl)
              simp only [List.set_cons_zero, List.set_cons_succ]
              refine held_take 3 68 rfl rfl (by kernel_rfl) (by kernel_rfl) (by kernel_rfl) (by rfl) hHeld noPanic_panic (v := ?_) (fun x hSx => ?_) ?_
              rotate_left 1
              · (have q0 := cell_stays hSx kB; go_simp <;> with_reducible rfl)
              simp only [List.set_cons_zero, List.set_cons_succ]
              refine held_take 4 69 rfl rfl (by kernel_rfl) (by kernel_rfl) (by kernel_rfl) (by rfl) hHeld noPanic_panic (v := ?_) (fun x hSx => ?_) ?_
              rotate_left 1
              · (have q0 := cell_stays hSx kB; go_simp <;> with_reducible rfl)
              simp only [List.set_cons_zero, List.set_cons_succ]
              refine held_take 5 70 rfl rfl (by kernel_rfl) (by kernel_rfl) (by kernel_rfl) (by rfl) hHeld noPanic_panic (v := ?_) (fun x hSx => ?_) ?_
              rotate_left 1
              · (have q0 := cell_stays hSx kB; go_simp <;> with_reducible rfl)
              simp only [List.set_cons_zero, List.set_cons_succ]
              refine held_two (i := 1) (j := 6) (by kernel_rfl) rfl rfl (fun K hK => ?_) (fun K hK => ?_)
              · refine held_go 1 66 hK rfl (by rfl) (v := vi) (w' := x1) ?_ hHeld ?_
                · have q0 := hat1.c0; go_simp
                simp only [List.set_cons_zero, List.set_cons_succ]
                refine held_one 6 71 (by kernel_rfl) rfl rfl (by rfl) (v := .slice (some ⟨x1.heap.size, 0, none⟩) 1 1) (w' := x1.alloc (.cells #[.int .i64 (y : Int)] 3)) ?_ (hHeld.trans ((Below.refl _ _).alloc hHeld.size _)) ?_
                · go_simp <;> exact ⟨rfl, rfl⟩
                simp only [List.set_cons_zero, List.set_cons_succ]
                refine held_append 7 72 (.tmp 66) (.tmp 71) (by kernel_rfl) rfl rfl (by rfl) rfl rfl (w.heap.size + 1) vi p ((ints ((Merge.mgd A B).take p)).map iv) (by rfl) (hat1.oi.alloc _) ⟨x1.heap.size, 0, none⟩ (y : Int) (by rfl) (new_int _ _) (by omega) (by have := hat1.lt; have := hat1.lo; simp; omega) (x1.heap.size + 1) (by simp) (fun w' hg => (hat1.grownI hg).2.2) ?_
                intro g cap w2 h1 h2 h3 h4
                simp only [List.set_cons_zero, List.set_cons_succ]
                obtain ⟨e0, e1, e2⟩ := hat1.grownI h2
                have HX := hide (hat1.app0 (unhide HIT) _ h1 h2 h3)
                clear h1 h2 h3 h4 hHeld
                have hHeld := e2
                refine held_take 8 73 rfl rfl (by kernel_rfl) (by kernel_rfl) (by kernel_rfl) (by rfl) hHeld noPanic_panic (v := ?_) (fun x hSx => ?_) ?_
                rotate_left 1
                · go_simp <;> with_reducible rfl
                simp only [List.set_cons_zero, List.set_cons_succ]
                refine held_skip 9 (by kernel_rfl) rfl rfl (by rfl) (w' := w2.setCell ⟨bx, 0, none⟩ (.slice (some ⟨g, 0, none⟩) (p + 1) cap)) ?_ (unhide HX).bel ?_
                · go_simp
                refine wpAnyH_done (by kernel_rfl) ?_ _
                refine NoPanic.normal ?_
                go_wp2_with fail
                go_meet
                exact ⟨rfl, _, unhide HX⟩
              · refine held_go 6 71 hK rfl (by rfl) (v := .slice (some ⟨x1.heap.size, 0, none⟩) 1 1) (w' := x1.alloc (.cells #[.int .i64 (y : Int)] 3)) ?_ (hHeld.trans ((Below.refl _ _).alloc hHeld.size _)) ?_
                · go_simp <;> exact ⟨rfl, rfl⟩
                simp only [List.set_cons_zero, List.set_cons_succ]
                refine held_one 1 66 (by kernel_rfl) rfl rfl (by rfl) (v := vi) (w' := x1.alloc (.cells #[.int .i64 (y : Int)] 3)) ?_ (hHeld.trans ((Below.refl _ _).alloc hHeld.size _)) ?_
                · have q0 : (x1.alloc (.cells #[.int .i64 (y : Int)] 3)).cell? ⟨bx, 0, none⟩ = some vi := cell_stays ((Below.refl _ _).alloc (Nat.le_refl _) _) hat1.c0; go_simp
                simp only [List.set_cons_zero, List.set_cons_succ]
                refine held_append 7 72 (.tmp 66) (.tmp 71) (by kernel_rfl) rfl rfl (by rfl) rfl rfl (w.heap.size + 1) vi p ((ints ((Merge.mgd A B).take p)).map iv) (by rfl) (hat1.oi.alloc _) ⟨x1.heap.size, 0, none⟩ (y : Int) (by rfl) (new_int _ _) (by omega) (by have := hat1.lt; have := hat1.lo; simp; omega) (x1.heap.size + 1) (by simp) (fun w' hg => (hat1.grownI hg).2.2) ?_
                intro g cap w2 h1 h2 h3 h4
                simp only [List.set_cons_zero, List.set_cons_succ]
                obtain ⟨e0, e1, e2⟩ := hat1.grownI h2
                have HX := hide (hat1.app0 (unhide HIT) _ h1 h2 h3)
                clear h1 h2 h3 h4 hHeld
                have hHeld := e2
                refine held_take 8 73 rfl rfl (by kernel_rfl) (by kernel_rfl) (by kernel_rfl) (by rfl) hHeld noPanic_panic (v := ?_) (fun x hSx => ?_) ?_
                rotate_left 1
                · go_simp <;> with_reducible rfl
                simp only [List.set_cons_zero, List.set_cons_succ]
                refine held_skip 9 (by kernel_rfl) rfl rfl (by rfl) (w' := w2.setCell ⟨bx, 0, none⟩ (.slice (some ⟨g, 0, none⟩) (p + 1) cap)) ?_ (unhide HX).bel ?_
                · go_simp
                refine wpAnyH_done (by kernel_rfl) ?_ _
                refine NoPanic.normal ?_
                go_wp2_with fail
                go_meet
                exact ⟨rfl, _, unhide HX⟩
            case rest =>
              obtain ⟨rfl, vi', hat2⟩ := hcut
              clear hat
              have c1 := hat2.c1
              have HAT2 := hide hat2
              have HOWN := hide (hat2.oa.alloc (.cells #[.int .i64 ((i : Nat) : Int)] 3))
              have HNEW := hide (new_news wc ((i : Nat) : Int))
              have hwlt : Hid (w.heap.size + 1 ≤ wc.heap.size + 1) := hide (by have := hat2.bel.size; omega)
              clear hat2
              go_wp2_with (at_builtin; go_must (refine wpList_append_lies _ rfl (.tmp 77) (.tmp 79) 22 rfl (w.heap.size + 1) 3 i0 _ 1 8 Try.underlying22 hii hz0 hz1 hz2 rfl (by decide) va (p + 1) _ (by rfl) (unhide HOWN) ⟨wc.heap.size, 0, none⟩ 1 1 [iv ((i : Nat) : Int)] (by rfl) rfl (unhide HNEW) (by intro u hu; simp at hu; subst hu; rfl) (by omega) (by unfold maxLen; omega) (by omega) (by have := unhide hwlt; simp; omega) (wc.heap.size + 1) (by simp) ?_; intro g cap w2 h1 h2 h3 h4; obtain ⟨e0, e1, e2⟩ := (unhide HAT2).grownA h2; have HX := hide ((unhide HAT2).app1 (unhide HAH) _ h1 h2 h3); clear h1 h2 h3 h4 c1 e2))
              go_roundg (room - (p + 1))
              case measure => have := unhide HP; omega
              case rel => exact ⟨i, j + 1, vi', _, by have := unhide HP; omega, by have := unhide HP; omega, by rw [show i + (j + 1) = p + 1 by have := unhide HP; omega]; exact unhide HST, by omega, by omega, rfl, by go_num, by rw [show i + (j + 1) = p + 1 by have := unhide HP; omega]; exact unhide HX⟩
      · obtain rfl : i = n := by omega
        obtain rfl : j = m := by omega
        have t1 : ¬ (i : Int) < (i : Int) := by omega
        have t2 : ¬ (j : Int) < (j : Int) := by omega
        obtain ⟨a1, k1, rfl⟩ := own_slice hat.oi
        obtain ⟨a2, k2, rfl⟩ := own_slice hat.oa
        have c0 := hat.c0
        have c1 := hat.c1
        have r0 : wr.cell? ⟨w.heap.size, 0, none⟩ = some (.slice none 0 0) := by simp [World.cell?, hat.res, two]
        have r1 : wr.cell? ⟨w.heap.size, 1, none⟩ = some (.slice none 0 0) := by simp [World.cell?, hat.res, two]
        have f0 : wr.frozen? ⟨w.heap.size, 0, none⟩ = false := by simp [World.frozen?, hat.res]
        have f1 : wr.frozen? ⟨w.heap.size, 1, none⟩ = false := by simp [World.frozen?, hat.res]
        have HE := hide (fin_after (MAt.finish hat (by rw [← unhide HN, ← unhide HM]; exact hp)) hat.res)
        clear hat hst HAT hp hroom
        go_wp2_with fail
        generalize hW : (wr.setCell ⟨w.heap.size, 0, none⟩ (.slice a1 p k1)).setCell ⟨w.heap.size, 1, none⟩ (.slice a2 (p + 1) k2) = W
        have HFIN := hide (unhide HE)
        rw [hW] at HFIN
        obtain ⟨q1, q2, q3, q4, q5⟩ := unhide HFIN
        refine bodyPost_ret (v := .agg #[.slice a1 p k1, .slice a2 (p + 1) k2]) ?_ rfl ⟨_, _, rfl, q1, q2, q5⟩
        rw [results_cell rfl]
        go_simp

end Go.Proofs.Ytdpbjeajipggbaa
