/- level.add: one place more. -/
import Derived.Test.YtabnfnejlffioaaLev
namespace Go.Proofs.Ytabnfnejlffioaa
open Go.RowKit Go.Maps
set_option linter.unusedVariables false

attribute [local go_sem ↓] Go.wp_at_zero Go.wp_at_succ

theorem add_keep {x1 w2 : World} {O : Obj} {r : Option Nat} (h : (x1.alloc O).grownBy w2 r) {x : Nat} (hx : x < x1.heap.size) (hr : r ≠ some x) : w2.heap[x]? = x1.heap[x]? := by
  rw [h.block x (by simp; omega) (fun e => hr e.symm)]; exact Below.heap_alloc _ _ _ hx

theorem new_int (w : World) (z : Int) : (w.alloc (.cells #[.int .i64 z] 3)).cell? ⟨w.heap.size, 0, none⟩ = some (.int .i64 z) := by simp only [World.cell?, heap_alloc_new]; rfl

theorem cell_at {w : World} {g i : Nat} {cs : Array Value} {t : TypeId} {f : Nat × Nat} (h : w.heap[g]? = some (.cells cs t f)) (hi : i < cs.size) : ∃ u, w.cell? ⟨g, i, none⟩ = some u := ⟨cs[i], by simp [World.cell?, h, hi]⟩

theorem AddS.keep {g o b n : Nat} {f : Nat → Nat} {x y : World} (h : AddS g o b n f x) (hg : y.heap[g]? = x.heap[g]?) (hb : y.heap[b]? = x.heap[b]?) : AddS g o b n f y :=
  ⟨by rw [World.cell?_of_block hg]; exact h.c1, h.mp.block hb⟩

theorem AddS.alloc {g o b n : Nat} {f : Nat → Nat} {x : World} (h : AddS g o b n f x) (O : Obj) : AddS g o b n f (x.alloc O) := by
  obtain ⟨es, ck, hb⟩ := h.mp.is
  exact h.keep (Below.heap_alloc _ _ _ (cell_lt h.c1)) (Below.heap_alloc _ _ _ (heap_lt hb))

theorem AddS.set {g o b n : Nat} {f : Nat → Nat} {x : World} (h : AddS g o b n f x) {cs : Array Value} (hg : x.heap[g]? = some (.cells cs 65 (0, 0))) (u : Value) : AddS g o b n f (x.setCell ⟨g, o + 2, none⟩ u) := by
  obtain ⟨es, ck, hb⟩ := h.mp.is
  have hne : b ≠ g := fun e => by rw [e, hg] at hb; cases hb
  refine ⟨?_, h.mp.block (heap_setCell_other _ _ _ _ (by exact hne))⟩
  have h1 := h.c1
  simp only [World.cell?, hg] at h1
  simp only [World.cell?, heap_setCell_same x g (o + 2) cs 65 u hg]
  rw [Array.getElem?_setIfInBounds_ne (by omega)]
  exact h1

theorem LvlAt.same {zs : List Nat} {s p B : Nat} {x y : World} {g o b : Nat} {v : Value} (h : LvlAt zs s p B x g o b v) (e : y.heap = x.heap) : LvlAt zs s p B y g o b v :=
  have k : ∀ a, y.cell? a = x.cell? a := fun a => World.cell?_of_block (by rw [e])
  ⟨by rw [k]; exact h.c0, by rw [k]; exact h.c1, by rw [k]; exact h.c2, h.mp.block (by rw [e]), own_keep h.row (fun q _ => by rw [e])⟩

/-- behind all of it -/
theorem LvlAt.added {zs : List Nat} {s p B : Nat} {x1 : World} {g o b : Nat} {v : Value} {cs : Array Value} (h : LvlAt zs s p B x1 g o b v) (hg : x1.heap[g]? = some (.cells cs 65 (0, 0))) (hk : keyAt zs s p < 18446744073709551616)
    (g' cap' : Nat) (w2 : World) (D : DataW Unit) (w4 : World)
    (h1 : w2.ownsRow B 3 1 (.slice (some ⟨g', 0, none⟩) (p + 1) cap') (p + 1) ((befs zs s p).map iv ++ [iv (lastOf zs s p (keyAt zs s p) : Nat)]))
    (h2 : (x1.alloc (.cells #[.int .i64 ((lastOf zs s p (keyAt zs s p) : Nat) : Int)] 3)).grownBy w2 v.ownBlock) (h3 : v.ownBlock = some g' ∨ g' = x1.heap.size + 1)
    (hf : ∀ k : Nat, k < 18446744073709551616 → D.atKey (.int .u64 (k : Int)) (.lit (.int .i64 0)) = .lit (.int .i64 (lastOf zs s p k : Nat)))
    (hD : (w2.setCell ⟨g, o + 2, none⟩ (.slice (some ⟨g', 0, none⟩) (p + 1) cap')).ownsMap Try.prog 79 (plainElem Try.prog 3) b p D)
    (h4 : w4.ownsMap Try.prog 79 (plainElem Try.prog 3) b (p + 1) (D.put (.int .u64 ((keyAt zs s p : Nat) : Int)) (.lit (.int .i64 ((p : Int) + 1)))))
    (h5 : (w2.setCell ⟨g, o + 2, none⟩ (.slice (some ⟨g', 0, none⟩) (p + 1) cap')).grownBy w4 (some b)) :
    LvlAt zs s (p + 1) B w4 g o b (.slice (some ⟨g', 0, none⟩) (p + 1) cap') ∧ AddChg x1 g o b v (.slice (some ⟨g', 0, none⟩) (p + 1) cap') w4 := by
  obtain ⟨es, ck, hb⟩ := h.mp.is
  have hgb : g ≠ b := fun e => by rw [← e, hg] at hb; cases hb
  have hgl := heap_lt hg
  have hbl := heap_lt hb
  have hvg : v.ownBlock ≠ some g := row_not_cells h.row hg (by decide)
  have hvb : v.ownBlock ≠ some b := row_not_map h.row hb
  have k2 : ∀ x, x < x1.heap.size → v.ownBlock ≠ some x → w2.heap[x]? = x1.heap[x]? := fun x hx hr => add_keep h2 hx hr
  have hg2 := k2 g hgl hvg
  rw [hg] at hg2
  have hs2 : x1.heap.size + 1 ≤ w2.heap.size := by have := h2.size; simpa using this
  have k4 : ∀ x, x < w2.heap.size → x ≠ g → x ≠ b → w4.heap[x]? = w2.heap[x]? := fun x hx e1 e2 => by
    rw [h5.block x (by simpa using hx) (fun e => e2 (by injection e))]
    exact heap_setCell_other _ _ _ _ (by exact e1)
  have hg4 : w4.heap[g]? = some (.cells (cs.setIfInBounds (o + 2) (.slice (some ⟨g', 0, none⟩) (p + 1) cap')) 65 (0, 0)) := by
    rw [h5.block g (by simp; omega) (fun e => hgb (by injection e))]
    exact heap_setCell_same w2 g (o + 2) cs 65 _ hg2
  have c0 := h.c0
  have c1 := h.c1
  have c2 := h.c2
  simp only [World.cell?, hg] at c0 c1 c2
  have hg'g : g' ≠ g := by
    rcases h3 with e | e
    · intro e'; rw [e'] at e; exact hvg e
    · omega
  have hg'b : g' ≠ b := by
    rcases h3 with e | e
    · intro e'; rw [e'] at e; exact hvb e
    · omega
  have hg'l : g' < w2.heap.size := by
    rcases h1.2 with ⟨e, _⟩ | ⟨q, c, cur, e, _, hh, _⟩
    · cases e
    · injection e with e1
      injection e1 with e1
      injection e1 with e1
      rw [e1]
      exact heap_lt hh
  refine ⟨⟨?_, ?_, ?_, ?_, ?_⟩, ⟨?_, ?_, ?_, ?_, fun x hx e1 e2 e3 => ?_, fun cs' t f hx => ?_, ?_⟩⟩
  · simp only [World.cell?, hg4]; rw [Array.getElem?_setIfInBounds_ne (by omega)]; exact c0
  · simp only [World.cell?, hg4]; rw [Array.getElem?_setIfInBounds_ne (by omega)]; exact c1
  · simp only [World.cell?, hg4]
    have : o + 2 < cs.size := by
      rcases Nat.lt_or_ge (o + 2) cs.size with hl | hl
      · exact hl
      · rw [Array.getElem?_eq_none hl] at c2; cases c2
    simp [this]
  · have e : ((p : Int) + 1) = ((p + 1 : Nat) : Int) := by omega
    rw [e] at h4
    exact MapIs.put hk h4 hD.isMap hf (lastOf_self zs s p) (fun j hj => lastOf_other zs s p j hj)
  · rw [befs_succ, List.map_append]
    exact own_keep h1 (fun q hq => by
      simp [Value.ownBlock] at hq
      subst hq
      exact k4 _ hg'l hg'g hg'b)
  · rw [h5.os]; exact h2.os
  · rw [h5.tape]; exact h2.tape
  · rw [h5.output]; exact h2.output
  · have := h5.size; simp at this; omega
  · rw [k4 x (by omega) e1 e2, k2 x hx e3]
  · rw [hg] at hx
    injection hx with hx
    injection hx with hx1 hx2 hx3
    subst hx1 hx2 hx3
    exact hg4
  · rcases h3 with e | e
    · exact .inl (by rw [e]; rfl)
    · exact .inr ⟨g', rfl, by omega⟩

set_option maxRecDepth 100000 in
set_option maxHeartbeats 4000000 in
theorem add_ok (zs : List Nat) (s p B g o b cap ba off : Nat) (v : Value) (cs : Array Value) (w : World) (hs1 : 1 ≤ s) (hs8 : s ≤ 8) (hr : ReadsU B w (.slice (some ⟨ba, off, none⟩) zs.length cap) zs) (hcap : zs.length ≤ cap) (hz : ∀ c ∈ zs, c < 256) (hp : p + s ≤ zs.length) (hl : zs.length ≤ 100000000) (hB : B ≤ w.heap.size)
    (hlv : LvlAt zs s p B w g o b v) (hg : w.heap[g]? = some (.cells cs 65 (0, 0))) :
    Calls Try.prog 42 #[.pointer (some ⟨g, o, none⟩), .slice (some ⟨ba, off, none⟩) zs.length cap, .int .i64 (p : Int)] w fun e w' => e = .returned (.tuple #[]) ∧ ∃ v', LvlAt zs s (p + 1) B w' g o b v' ∧ AddChg w g o b v v' w' := by
  have hln : ((zs.drop p).take s).length = s := by simp; omega
  have HKC : Hid (∀ q, Calls Try.prog 44 #[.slice (some ⟨ba, off + p, none⟩) s s] (w.drewN q) fun e w' => e = .returned (.int .u64 (keyAt zs s p : Nat)) ∧ w' = w.drewN q) := hide fun q => by
    have h1 := (hr.sub rfl p s s hp (Nat.le_refl _)).stays (w1 := w.drewN q) ⟨rfl, rfl, rfl, Nat.le_refl _, fun _ _ => rfl⟩
    exact key_ok ((zs.drop p).take s) _ B (w.drewN q) h1 (by rw [hln]; exact hs8) (fun c hc => hz c (List.mem_of_mem_drop (List.mem_of_mem_take hc)))
  have c0 := hlv.c0
  have hk64 := keyAt_lt hz hs8 hp
  have HADS : Hid (AddS g o b p (lastOf zs s p) w) := hide ⟨hlv.c1, hlv.mp⟩
  have HZL : Hid (lastOf zs s p (keyAt zs s p) ≤ p) := hide (lastOf_le _ _ _ _)
  have HLV0 := hide hlv
  have HK64 := hide hk64
  have HKEY := hide (key79 _ hk64)
  have HWF : Hid ((Lit.int .i64 ((p : Int) + 1)).wf = true) := hide (WalkArith.wf_i64 (by omega))
  clear hk64
  obtain ⟨L, hL⟩ : ∃ L, L = zs.length := ⟨_, rfl⟩
  rw [← hL] at hp hl hcap ⊢
  obtain ⟨E, hE⟩ : ∃ E : Nat, (p : Int) + (s : Int) = (E : Int) := ⟨p + s, by omega⟩
  have hEp : E - p = s := by omega
  have hpE : p ≤ E := by omega
  have hEc : E ≤ cap := by omega
  have hpEc : p ≤ E ∧ E ≤ cap := ⟨hpE, hEc⟩
  have hnl : ¬ (L : Int) - (p : Int) < (s : Int) := by omega
  have hwE : IntKind.i64.wrap (E : Int) = (E : Int) := IntWalk.i64_in _ (by omega)
  have hs0 : ¬ s = 0 := by omega
  obtain ⟨K, hK⟩ : ∃ K, K = keyAt zs s p := ⟨_, rfl⟩
  rw [← hK] at HKC HK64 HKEY
  have HK := hide hK
  clear hL hr hln hK hlv
  go_enter Try.func42, Try.ntmps42
  go_wp2_with fail
  go_quiet (first | (go_at_call 44; refine Calls.quiet_of_same (unhide HKC _)))
  go_upto_region 2 with fail
  refine wp_region_noPanic ?_
  obtain ⟨x1, hx1⟩ : ∃ x1, x1 = (w.drewN nq).drew := ⟨_, rfl⟩
  have hlv1 : LvlAt zs s p B x1 g o b v := by rw [hx1]; exact (unhide HLV0).same rfl
  have hg1 : x1.heap[g]? = some (.cells cs 65 (0, 0)) := by rw [hx1]; exact hg
  have hB1 : B ≤ x1.heap.size := by rw [hx1]; exact hB
  have HEND : Hid (∀ v' w4, AddChg x1 g o b v v' w4 → AddChg w g o b v v' w4) := hide fun v' w4 h => by rw [hx1] at h; exact ⟨h.os, h.tape, h.output, h.size, h.kp, h.gb, h.own⟩
  obtain ⟨z, hz⟩ : ∃ z, z = lastOf zs s p K := ⟨_, rfl⟩
  have hzp : z ≤ p := by rw [hz, unhide HK]; exact unhide HZL
  have HLV : Hid (∀ (g' cap' : Nat) (w2 : World) (D : DataW Unit) (w4 : World), w2.ownsRow B 3 1 (.slice (some ⟨g', 0, none⟩) (p + 1) cap') (p + 1) ((befs zs s p).map iv ++ [iv (z : Int)]) →
    (x1.alloc (.cells #[.int .i64 (z : Int)] 3)).grownBy w2 v.ownBlock → (v.ownBlock = some g' ∨ g' = x1.heap.size + 1) →
    (∀ k : Nat, k < 18446744073709551616 → D.atKey (.int .u64 (k : Int)) (.lit (.int .i64 0)) = .lit (.int .i64 (lastOf zs s p k : Nat))) →
    (w2.setCell ⟨g, o + 2, none⟩ (.slice (some ⟨g', 0, none⟩) (p + 1) cap')).ownsMap Try.prog 79 (plainElem Try.prog 3) b p D →
    w4.ownsMap Try.prog 79 (plainElem Try.prog 3) b (p + 1) (D.put (.int .u64 (K : Int)) (.lit (.int .i64 ((p : Int) + 1)))) →
    (w2.setCell ⟨g, o + 2, none⟩ (.slice (some ⟨g', 0, none⟩) (p + 1) cap')).grownBy w4 (some b) →
    LvlAt zs s (p + 1) B w4 g o b (.slice (some ⟨g', 0, none⟩) (p + 1) cap') ∧ AddChg w g o b v (.slice (some ⟨g', 0, none⟩) (p + 1) cap') w4) := hide fun g' cap' w2 D w4 a1 a2 a3 a4 a5 a6 a7 => by
      rw [hz, unhide HK] at a1 a2
      rw [unhide HK] at a6
      have hh := hlv1.added hg1 (by rw [← unhide HK]; exact unhide HK64) g' cap' w2 D w4 a1 a2 a3 a4 a5 a6 a7
      exact ⟨hh.1, unhide HEND _ _ hh.2⟩
  have HZ : Hid (lastOf zs s p K = z) := hide hz.symm
  have HADS1 : Hid (AddS g o b p (lastOf zs s p) x1) := hide ⟨hlv1.c1, hlv1.mp⟩
  have HC2 := hide hlv1.c2
  have HROW := hide (hlv1.row.alloc (.cells #[.int .i64 (z : Int)] 3))
  have HVG := hide (row_not_cells hlv1.row hg1 (by decide))
  have HGL := hide (heap_lt hg1)
  have HG := hide hg1
  have HKS : Hid (∀ w', (x1.alloc (.cells #[.int .i64 (z : Int)] 3)).grownBy w' v.ownBlock → AddS g o b p (lastOf zs s p) w') := hide fun w' hgr => by
    obtain ⟨es, ck, hb⟩ := hlv1.mp.is
    exact (unhide HADS1).keep (add_keep hgr (unhide HGL) (unhide HVG)) (add_keep hgr (heap_lt hb) (row_not_map hlv1.row hb))
  have HO2 : Hid (o + 2 < cs.size) := hide (by
    have h := unhide HC2
    simp only [World.cell?, hg1] at h
    rcases Nat.lt_or_ge (o + 2) cs.size with hl | hl
    · exact hl
    · rw [Array.getElem?_eq_none hl] at h; cases h)
  have HS0 : Hid (AddS g o b p (lastOf zs s p) (w.drewN nq).drew) := hide (by rw [← hx1]; exact unhide HADS1)
  refine wp_region_held_drew (S := AddS g o b p (lastOf zs s p)) (by kernel_rfl) (unhide HS0) (fun hHeld => ?_)
  rw [← hx1] at hHeld ⊢
  clear HS0 hx1 hlv1 hg1 hz HADS hg hB c0 HKC HEND HLV0
  refine held_take 0 32 rfl rfl (by kernel_rfl) (by kernel_rfl) (by kernel_rfl) (by rfl) hHeld noPanic_panic (v := ?_) (fun x hSx => ?_) ?_
  rotate_left 1
  · go_simp <;> with_reducible rfl
  simp only [List.set_cons_zero, List.set_cons_succ]
  refine held_take 1 33 rfl rfl (by kernel_rfl) (by kernel_rfl) (by kernel_rfl) (by rfl) hHeld noPanic_panic (v := ?_) (fun x hSx => ?_) ?_
  rotate_left 1
  · go_simp <;> with_reducible rfl
  simp only [List.set_cons_zero, List.set_cons_succ]
  refine held_take 2 34 rfl rfl (by kernel_rfl) (by kernel_rfl) (by kernel_rfl) (by rfl) hHeld noPanic_panic (v := ?_) (fun x hSx => ?_) ?_
  rotate_left 1
  · go_simp <;> with_reducible rfl
  simp only [List.set_cons_zero, List.set_cons_succ]
  refine held_take 3 35 rfl rfl (by kernel_rfl) (by kernel_rfl) (by kernel_rfl) (by rfl) hHeld noPanic_panic (v := ?_) (fun x hSx => ?_) ?_
  rotate_left 1
  · go_simp <;> with_reducible rfl
  simp only [List.set_cons_zero, List.set_cons_succ]
  refine held_take 5 37 rfl rfl (by kernel_rfl) (by kernel_rfl) (by kernel_rfl) (by rfl) hHeld noPanic_panic (v := ?_) (fun x hSx => ?_) ?_
  rotate_left 1
  · go_simp <;> with_reducible rfl
  simp only [List.set_cons_zero, List.set_cons_succ]
  refine held_take 6 38 rfl rfl (by kernel_rfl) (by kernel_rfl) (by kernel_rfl) (by rfl) hHeld noPanic_panic (v := ?_) (fun x hSx => ?_) ?_
  rotate_left 1
  · go_simp <;> with_reducible rfl
  simp only [List.set_cons_zero, List.set_cons_succ]
  refine held_take 7 39 rfl rfl (by kernel_rfl) (by kernel_rfl) (by kernel_rfl) (by rfl) hHeld noPanic_panic (v := ?_) (fun x hSx => ?_) ?_
  rotate_left 1
  · go_simp <;> with_reducible rfl
  simp only [List.set_cons_zero, List.set_cons_succ]
  refine held_take 8 40 rfl rfl (by kernel_rfl) (by kernel_rfl) (by kernel_rfl) (by rfl) hHeld noPanic_panic (v := ?_) (fun x hSx => ?_) ?_
  rotate_left 1
  · (have q1 := hSx.c1; have q2 := hSx.mp.look K (unhide HK64); go_simp <;> with_reducible rfl)
  simp only [List.set_cons_zero, List.set_cons_succ]
  refine held_take 9 41 rfl rfl (by kernel_rfl) (by kernel_rfl) (by kernel_rfl) (by rfl) hHeld noPanic_panic (v := ?_) (fun x hSx => ?_) ?_
  rotate_left 1
  · go_simp <;> with_reducible rfl
  simp only [List.set_cons_zero, List.set_cons_succ]
  refine held_take 10 42 rfl rfl (by kernel_rfl) (by kernel_rfl) (by kernel_rfl) (by rfl) hHeld noPanic_panic (v := ?_) (fun x hSx => ?_) ?_
  rotate_left 1
  · (have q2 := hSx.mp.look K (unhide HK64); rw [unhide HZ] at q2; go_simp <;> with_reducible rfl)
  simp only [List.set_cons_zero, List.set_cons_succ]
  refine held_two (i := 4) (j := 11) (by kernel_rfl) rfl rfl (fun K hK => ?_) (fun K hK => ?_)
  · refine held_go 4 36 hK rfl (by rfl) (v := v) (w' := x1) ?_ hHeld ?_
    · have q0 := unhide HC2; go_simp
    simp only [List.set_cons_zero, List.set_cons_succ]
    refine held_one 11 43 (by kernel_rfl) rfl rfl (by rfl) (v := .slice (some ⟨x1.heap.size, 0, none⟩) 1 1) (w' := (x1.alloc (.cells #[.int .i64 (z : Int)] 3))) ?_ (hHeld.alloc _) ?_
    · go_simp <;> exact ⟨rfl, rfl⟩
    simp only [List.set_cons_zero, List.set_cons_succ]
    refine held_append 12 44 (.tmp 36) (.tmp 43) (by kernel_rfl) rfl rfl (by rfl) rfl rfl B v p ((befs zs s p).map iv) (by rfl) (unhide HROW) ⟨x1.heap.size, 0, none⟩ (z : Int) (by rfl) (new_int _ _) (by omega) (by simp; omega) (x1.heap.size + 1) (by simp) (fun w' hg => (unhide HKS) w' hg) ?_
    intro g' cap' w2 h1 h2 h3 h4
    simp only [List.set_cons_zero, List.set_cons_succ]
    have e2 := unhide HKS _ h2
    have hgb := add_keep h2 (unhide HGL) (unhide HVG)
    rw [unhide HG] at hgb
    have HFIN := hide (fun D w4 => unhide HLV g' cap' w2 D w4 h1 h2 h3)
    clear h1 h2 h3 h4 hHeld
    have hHeld := e2
    refine held_take 13 45 rfl rfl (by kernel_rfl) (by kernel_rfl) (by kernel_rfl) (by rfl) hHeld noPanic_panic (v := ?_) (fun x hSx => ?_) ?_
    rotate_left 1
    · go_simp <;> with_reducible rfl
    simp only [List.set_cons_zero, List.set_cons_succ]
    refine held_take 14 46 rfl rfl (by kernel_rfl) (by kernel_rfl) (by kernel_rfl) (by rfl) hHeld noPanic_panic (v := ?_) (fun x hSx => ?_) ?_
    rotate_left 1
    · go_simp <;> with_reducible rfl
    simp only [List.set_cons_zero, List.set_cons_succ]
    have HS3 := e2.set hgb (.slice (some ⟨g', 0, none⟩) (p + 1) cap')
    have hfz : w2.frozen? ⟨g, o + 2, none⟩ = false := by simp [World.frozen?, hgb]
    have hcl := cell_at hgb (unhide HO2)
    refine held_skip 15 (by kernel_rfl) rfl rfl (by rfl) (w' := w2.setCell ⟨g, o + 2, none⟩ (.slice (some ⟨g', 0, none⟩) (p + 1) cap')) ?_ HS3 ?_
    · obtain ⟨u, hu⟩ := hcl; go_simp
    refine wpAnyH_done (by kernel_rfl) ?_ _
    refine NoPanic.normal ?_
    have c1' := HS3.c1
    obtain ⟨D, hown, hf⟩ := HS3.mp
    have HFIN2 := hide (fun w4 => unhide HFIN D w4 hf hown)
    have HOWN := hide hown
    obtain ⟨w3, hw3⟩ : ∃ w3, w3 = w2.setCell ⟨g, o + 2, none⟩ (.slice (some ⟨g', 0, none⟩) (p + 1) cap') := ⟨_, rfl⟩
    rw [← hw3] at c1' HOWN HFIN2 ⊢
    clear hw3 hown hf hHeld HS3 e2 HFIN hcl hfz hgb
    go_wp2_with (first | (at_mapUpdate; refine wpList_mapUpdate_own _ rfl _ _ _ 62 rfl 79 3 keyed79 Try.underlying62 _ b p _ rfl (unhide HOWN) (by unfold maxLen; omega) _ _ _ rfl rfl (unhide HKEY) _ [] (plainElem_int Try.underlying3 (unhide HWF)) ?_; intro w4 hown4 hgrow4) | fail)
    go_end0
    exact ⟨rfl, _, unhide HFIN2 w4 hown4 hgrow4⟩
  · refine held_go 11 43 hK rfl (by rfl) (v := .slice (some ⟨x1.heap.size, 0, none⟩) 1 1) (w' := (x1.alloc (.cells #[.int .i64 (z : Int)] 3))) ?_ (hHeld.alloc _) ?_
    · go_simp <;> exact ⟨rfl, rfl⟩
    simp only [List.set_cons_zero, List.set_cons_succ]
    refine held_one 4 36 (by kernel_rfl) rfl rfl (by rfl) (v := v) (w' := (x1.alloc (.cells #[.int .i64 (z : Int)] 3))) ?_ (hHeld.alloc _) ?_
    · have q0 : (x1.alloc (.cells #[.int .i64 (z : Int)] 3)).cell? ⟨g, o + 2, none⟩ = some v := cell_stays ((Below.refl _ _).alloc (Nat.le_refl _) _) (unhide HC2); go_simp
    simp only [List.set_cons_zero, List.set_cons_succ]
    refine held_append 12 44 (.tmp 36) (.tmp 43) (by kernel_rfl) rfl rfl (by rfl) rfl rfl B v p ((befs zs s p).map iv) (by rfl) (unhide HROW) ⟨x1.heap.size, 0, none⟩ (z : Int) (by rfl) (new_int _ _) (by omega) (by simp; omega) (x1.heap.size + 1) (by simp) (fun w' hg => (unhide HKS) w' hg) ?_
    intro g' cap' w2 h1 h2 h3 h4
    simp only [List.set_cons_zero, List.set_cons_succ]
    have e2 := unhide HKS _ h2
    have hgb := add_keep h2 (unhide HGL) (unhide HVG)
    rw [unhide HG] at hgb
    have HFIN := hide (fun D w4 => unhide HLV g' cap' w2 D w4 h1 h2 h3)
    clear h1 h2 h3 h4 hHeld
    have hHeld := e2
    refine held_take 13 45 rfl rfl (by kernel_rfl) (by kernel_rfl) (by kernel_rfl) (by rfl) hHeld noPanic_panic (v := ?_) (fun x hSx => ?_) ?_
    rotate_left 1
    · go_simp <;> with_reducible rfl
    simp only [List.set_cons_zero, List.set_cons_succ]
    refine held_take 14 46 rfl rfl (by kernel_rfl) (by kernel_rfl) (by kernel_rfl) (by rfl) hHeld noPanic_panic (v := ?_) (fun x hSx => ?_) ?_
    rotate_left 1
    · go_simp <;> with_reducible rfl
    simp only [List.set_cons_zero, List.set_cons_succ]
    have HS3 := e2.set hgb (.slice (some ⟨g', 0, none⟩) (p + 1) cap')
    have hfz : w2.frozen? ⟨g, o + 2, none⟩ = false := by simp [World.frozen?, hgb]
    have hcl := cell_at hgb (unhide HO2)
    refine held_skip 15 (by kernel_rfl) rfl rfl (by rfl) (w' := w2.setCell ⟨g, o + 2, none⟩ (.slice (some ⟨g', 0, none⟩) (p + 1) cap')) ?_ HS3 ?_
    · obtain ⟨u, hu⟩ := hcl; go_simp
    refine wpAnyH_done (by kernel_rfl) ?_ _
    refine NoPanic.normal ?_
    have c1' := HS3.c1
    obtain ⟨D, hown, hf⟩ := HS3.mp
    have HFIN2 := hide (fun w4 => unhide HFIN D w4 hf hown)
    have HOWN := hide hown
    obtain ⟨w3, hw3⟩ : ∃ w3, w3 = w2.setCell ⟨g, o + 2, none⟩ (.slice (some ⟨g', 0, none⟩) (p + 1) cap') := ⟨_, rfl⟩
    rw [← hw3] at c1' HOWN HFIN2 ⊢
    clear hw3 hown hf hHeld HS3 e2 HFIN hcl hfz hgb
    go_wp2_with (first | (at_mapUpdate; refine wpList_mapUpdate_own _ rfl _ _ _ 62 rfl 79 3 keyed79 Try.underlying62 _ b p _ rfl (unhide HOWN) (by unfold maxLen; omega) _ _ _ rfl rfl (unhide HKEY) _ [] (plainElem_int Try.underlying3 (unhide HWF)) ?_; intro w4 hown4 hgrow4) | fail)
    go_end0
    exact ⟨rfl, _, unhide HFIN2 w4 hown4 hgrow4⟩

end Go.Proofs.Ytabnfnejlffioaa
