/- The document's rows, one behind the other. -/
import Derived.Test.YtnijllkafakoiaaJoinRef
import Derived.Test.YtnijllkafakoiaaAid
namespace Go.Proofs.Ytnijllkafakoiaa
open Go.RowKit

theorem three_allocs (w : World) (o1 o2 o3 : Obj) : (((w.alloc o1).alloc o2).alloc o3).heap[w.heap.size]? = some o1 ∧ (((w.alloc o1).alloc o2).alloc o3).heap[w.heap.size + 1]? = some o2 ∧ (((w.alloc o1).alloc o2).alloc o3).heap[w.heap.size + 1 + 1]? = some o3 := by
  have h := two_allocs w o1 o2
  have hs : ((w.alloc o1).alloc o2).heap.size = w.heap.size + 1 + 1 := by simp
  refine ⟨?_, ?_, ?_⟩
  · rw [Below.heap_alloc _ _ _ (by omega)]; exact h.2
  · rw [Below.heap_alloc _ _ _ (by omega)]; exact h.1
  · have := heap_alloc_last ((w.alloc o1).alloc o2) o3
    rwa [hs] at this

section
variable {P : Program} {md : Region.Mode} {ops : Array Oper} {Q : Exit → Act → World → Prop} {S : World → Prop}

/-- A store that alone may come up now. -/
theorem held_skip {o : Oper} {fuel : Nat} {listed : Array Bool} {a : Act} {w w' : World} (i : Nat) (hr : Region.ready md ops listed = [i]) (hi : ops[i]? = some o) (hd : o.dst = none)
    (hw : Region.wanted o (yielded ops a.tmps) = true) (hrun : (execOp (Act.eval a) o).run P w = .ok .skip w') (hS : S w')
    (h : wpAnyH P md ops Q S fuel (listed.setIfInBounds i true) a w') : wpAnyH P md ops Q S (fuel + 1) listed a w := by
  refine wpAnyH_ready hr (by simp) (AllReadyH.cons hi (fun K hK => ?_) AllReadyH.nil)
  rw [if_pos hw]
  unfold Oper.wp
  rw [hrun, Oper.upon_skip]
  have e : Act.put a o.dst undef = a := by rw [hd]; rfl
  show K (Act.put a o.dst undef) w'
  rw [e]
  exact hK.out _ _ hS (fun _ => h)

end

theorem exec_load_whole {P : Program} {o : Oper} {a : Act} {x : World} (ty : TypeId) (y : Operand) (ho : o.op = .load ty y) (g : Nat) (v : Value) (hx : a.eval y = .pointer (some ⟨g, 0, none⟩))
    (hl : (loadVar ty ⟨g, 0, none⟩).run P x = .ok v x) : (execOp (Act.eval a) o).run P x = .ok (.value v) x := by
  unfold execOp
  simp only [ho, hx, Instr.loadAt, Instr.sureAddr, Sem.run_bind, Sem.run_pure, Result.andThen_ok, hl]

theorem MatAt.load {w : World} {g : Nat} {T : Nat → Nat} (h : MatAt w g T) : (loadVar 46 ⟨g, 0, none⟩).run Try.prog w = .ok (.agg (matv T)) w :=
  run_loadVar_row (P := Try.prog) w g 46 46 _ (0, 0) _ h Try.underlying46 rfl (by rw [matv_size]; exact (zero_of_info info46).2)

theorem MatAt.loadFrom {w : World} {g : Nat} {T : Nat → Nat} (h : MatAt w g T) : (loadCellsFrom ⟨g, 0, none⟩ 0 32 #[]).run Try.prog w = .ok (matv T) w := by
  have := run_loadCells_list (P := Try.prog) w ⟨g, 0, none⟩ (matv T).toList (fun j v hv => by
    have hadd : (⟨g, 0, none⟩ : Addr).add j = ⟨g, j, none⟩ := by unfold Addr.add; split <;> simp_all
    rw [hadd, cell_of_row _ _ j (matv T) 46 (0, 0) h]
    simpa using hv)
  simpa [loadCells, matv_size] using this

theorem MatAt.storeFrom {w : World} {g : Nat} {T : Nat → Nat} (h : MatAt w g T) (U : Nat → Nat) : (storeCells ⟨g, 0, none⟩ (matv U).toList 0).run Try.prog w = .ok () (w.setRow g (matv U)) := by
  have := run_storeCells_from (P := Try.prog) g 46 (matv U).toList 0 (matv T) w h (by simp [matv_size]) (fun v hv => (Array.all_eq_true_iff_forall_mem.1 (matv_one U)) v (by simpa using hv))
  simpa using this

set_option maxHeartbeats 2000000 in
set_option maxRecDepth 100000 in
theorem twice_walk (T : Nat → Nat) (w : World) (hT : ∀ i, T i < 4294967296) :
    Calls Try.prog 26 #[.agg (matv T)] w fun e w' => e = .returned (.agg (matv (fun i => osum T (T i).testBit 32))) ∧ Below w.heap.size w w' := by
  have hsz := matv_size T
  have hz := (zero_of_info info46).1
  go_enter Try.func26, Try.ntmps26
  go_wp2_with fail
  obtain ⟨m1, m2, m3⟩ := three_allocs w (Obj.cells (matv T) 46) (Obj.cells (Array.replicate 32 (Value.int IntKind.u32 0)) 46) (Obj.cells (Array.replicate 32 (Value.int IntKind.u32 0)) 46)
  rw [← matv_zero] at m2 m3 ⊢
  have HB : Hid (Below w.heap.size w (((w.alloc (Obj.cells (matv T) 46)).alloc (Obj.cells (matv fun _ => 0) 46)).alloc (Obj.cells (matv fun _ => 0) 46))) := hide ((((Below.refl _ _).alloc (Nat.le_refl _) _).alloc (by simp) _).alloc (by simp; omega) _)
  rw [← matv_zero] at m1
  have HM1 := hide (show MatAt _ _ _ from m1)
  have HM2 := hide (show MatAt _ _ _ from m2)
  have HM3 := hide (show MatAt _ _ _ from m3)
  clear m1 m2 m3 hz hsz
  generalize (((w.alloc (Obj.cells (matv T) 46)).alloc (Obj.cells (matv fun _ => 0) 46)).alloc (Obj.cells (matv fun _ => 0) 46)) = w0 at *
  obtain ⟨h0, e0⟩ : ∃ h0, h0 = w.heap.size := ⟨_, rfl⟩
  obtain ⟨h1, e1⟩ : ∃ h1, h1 = h0 + 1 := ⟨_, rfl⟩
  obtain ⟨h2, e2⟩ : ∃ h2, h2 = h1 + 1 := ⟨_, rfl⟩
  rw [← e0] at HM1 HM2 HM3 HB ⊢
  rw [← e1] at HM2 HM3 ⊢
  rw [← e2] at HM3 ⊢
  have HE : Hid (h0 = w.heap.size ∧ h1 = h0 + 1 ∧ h2 = h1 + 1) := hide ⟨e0, e1, e2⟩
  have HTT := hide hT
  clear e0 e1 e2 hT
  go_loopg [4] 32 (fun gk c ws => ∃ (i : Nat) (U : Nat → Nat), gk = 32 - i ∧ i ≤ 32 ∧ c = .int .i64 (i : Int) ∧ MatAt ws h0 T ∧ MatAt ws h1 (fun _ => 0) ∧ MatAt ws h2 U ∧ Below h0 w ws ∧ (∀ x, x < i → U x = osum T (T x).testBit 32))
  case atStart => exact ⟨0, _, by omega, by omega, rfl, unhide HM1, unhide HM2, unhide HM3, unhide HB, by omega⟩
  case round =>
    obtain ⟨i, U, rfl, hi, rfl, ht1, ht2, ht3, hbel, hU⟩ := hrel
    have HT1 := hide ht1
    have HT2 := hide ht2
    have HT3 := hide ht3
    have HBEL := hide hbel
    by_cases hlt : i < 32
    · have hil : (i : Int) < 32 := by omega
      have HSZ : Hid (h0 < wr.heap.size ∧ h2 < wr.heap.size) := hide ⟨heap_lt ht1, heap_lt ht3⟩
      have HSZ1 : Hid (h1 < wr.heap.size) := hide (heap_lt ht2)
      obtain ⟨t, ht⟩ : ∃ t, t = T i := ⟨_, rfl⟩
      have HT := hide ht
      have HTB : Hid (t < 4294967296) := hide (by rw [ht]; exact unhide HTT i)
      have HLT := hide hlt
      have HU := hide hU
      clear ht hlt hi ht1 ht2 ht3 hbel hU
      go_wp2_with fail
      refine wp_region_noPanic ?_
      refine wp_region_held_drew (S := fun x => MatAt x h0 T) (by kernel_rfl) (unhide HT1) (fun hHeld => ?_)
      refine held_take 0 9 rfl rfl (by kernel_rfl) (by kernel_rfl) (by kernel_rfl) (by rfl) hHeld noPanic_panic (v := ?_) (fun x hSx => ?_) ?_
      rotate_left 1
      · go_simp <;> with_reducible rfl
      simp only [List.set_cons_zero, List.set_cons_succ]
      refine held_take 1 10 rfl rfl (by kernel_rfl) (by kernel_rfl) (by kernel_rfl) (by rfl) hHeld noPanic_panic (v := ?_) (fun x hSx => ?_) ?_
      rotate_left 1
      · refine exec_load_whole 46 (.tmp 1) ?_ h0 (.agg (matv T)) ?_ (show MatAt x h0 T from hSx).load <;> rfl
      simp only [List.set_cons_zero, List.set_cons_succ]
      refine held_take 2 11 rfl rfl (by kernel_rfl) (by kernel_rfl) (by kernel_rfl) (by rfl) hHeld noPanic_panic (v := ?_) (fun x hSx => ?_) ?_
      rotate_left 1
      · go_simp <;> with_reducible rfl
      simp only [List.set_cons_zero, List.set_cons_succ]
      refine held_take 3 12 rfl rfl (by kernel_rfl) (by kernel_rfl) (by kernel_rfl) (by rfl) hHeld noPanic_panic (v := ?_) (fun x hSx => ?_) ?_
      rotate_left 1
      · go_simp <;> with_reducible rfl
      simp only [List.set_cons_zero, List.set_cons_succ]
      refine held_take 4 13 rfl rfl (by kernel_rfl) (by kernel_rfl) (by kernel_rfl) (by rfl) hHeld noPanic_panic (v := ?_) (fun x hSx => ?_) ?_
      rotate_left 1
      · have hcx := (show MatAt x h0 T from hSx).cell i (unhide HLT); rw [← unhide HT] at hcx; clear hSx; go_simp <;> with_reducible rfl
      simp only [List.set_cons_zero, List.set_cons_succ]
      refine held_enter 5 14 (by kernel_rfl) rfl rfl (by rfl) (by go_simp <;> exact ⟨rfl, rfl⟩) ?_
      refine (of_walk T t _ (unhide HTB) (unhide HTT)).mono ?_
      rintro e w1 ⟨rfl, hb1⟩
      have hb1 : Below wr.heap.size wr w1 := ⟨hb1.os, hb1.tape, hb1.output, hb1.size, hb1.block⟩
      have HB1 := hide hb1
      have hHeld := (unhide HT1).stays hb1 (by exact (unhide HSZ).1)
      refine ⟨_, rfl, hHeld, ?_⟩
      simp only [List.set_cons_zero, List.set_cons_succ]
      refine held_take 6 15 rfl rfl (by kernel_rfl) (by kernel_rfl) (by kernel_rfl) (by rfl) hHeld noPanic_panic (v := ?_) (fun x hSx => ?_) ?_
      rotate_left 1
      · go_simp <;> with_reducible rfl
      simp only [List.set_cons_zero, List.set_cons_succ]
      obtain ⟨y, hy⟩ : ∃ y, y = osum T t.testBit 32 := ⟨_, rfl⟩
      rw [← hy]
      have HMW : Hid (MatAt w1 h0 T ∧ MatAt w1 h1 (fun _ => 0) ∧ MatAt w1 h2 U) := hide ⟨(unhide HT1).stays (unhide HB1) (by exact (unhide HSZ).1), (unhide HT2).stays (unhide HB1) (by exact unhide HSZ1), (unhide HT3).stays (unhide HB1) (by exact (unhide HSZ).2)⟩
      have hcs := (unhide HMW).2.2.cell i (unhide HLT)
      have hfs := (unhide HMW).2.2.free i
      refine held_skip (w' := w1.setCell ⟨h2, i, none⟩ (.int .u32 (y : Int))) 7 (by kernel_rfl) rfl rfl (by rfl) (by go_simp) ((unhide HMW).1.other (by have := unhide HE; omega) _ _) ?_
      refine wpAnyH_done (by kernel_rfl) ?_ _
      refine NoPanic.normal ?_
      have HF : Hid (Below h0 w w1) := hide ((unhide HBEL).trans ((unhide HB1).mono (by have := (unhide HSZ).1; omega)))
      have HY : Hid (y = osum T (T i).testBit 32) := hide (by rw [hy, unhide HT])
      clear hHeld hcs hfs hy hb1
      go_wp2_with fail
      go_roundg (32 - (i + 1))
      case measure => have := unhide HLT; omega
      case rel =>
        have he := unhide HE
        refine ⟨i + 1, upd U i y, rfl, unhide HLT, by go_num, (unhide HMW).1.other (by omega) _ _, (unhide HMW).2.1.other (by omega) _ _, (unhide HMW).2.2.set _ _, (unhide HF).setCell (by show h0 ≤ h2; omega) _, fun x hx => ?_⟩
        unfold upd
        split
        · rename_i e; rw [e]; exact unhide HY
        · exact unhide HU x (by omega)
    · obtain rfl : i = 32 := by omega
      have HEQ := hide (matv_congr (T := fun i => osum T (T i).testBit 32) (U := U) (fun x hx => (hU x hx).symm))
      have HLD := hide ht3.load
      clear ht1 ht2 ht3 hbel hU hlt hi
      go_upto_region 6 with fail
      refine wp_region_lit ?_
      refine wpList_plain rfl fun K hK => wp_load_whole 46 (.tmp 3) (by rfl) h2 (.agg (matv U)) (by rfl) (unhide HLD) (hK _ _ ?_)
      refine wpList_store_row (by rfl) 46 (.tmp 2) (.tmp 16) (by rfl) h1 (matv U) (by rfl) (by rfl) 46 _ (unhide HT2) (by rw [matv_size]; exact (zero_of_info info46).2) (by simp [matv_size]) (matv_one _) ?_
      have HL2 := hide (MatAt.load (w := wr.setRow h1 (matv U)) (g := h1) (T := U) (setRow_heap wr h1 _ (matv U) 46 _ (unhide HT2)))
      clear hK
      go_wp2_with fail
      (try simp only [Exit.inBlock, Exit.then])
      obtain ⟨e0, e1, e2⟩ := unhide HE
      refine bodyPost_ret (v := .agg (matv U)) ?_ rfl ⟨by rw [unhide HEQ], by rw [← e0]; exact Below.setRow' (unhide HBEL) _ (by omega) _⟩
      rw [results_cell rfl]
      exact unhide HL2
end Go.Proofs.Ytnijllkafakoiaa
