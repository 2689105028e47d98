/- How a chunk follows the ones ahead. -/
import Derived.Test.YthafoojlkaifkaaKe
namespace Go.Proofs.Ythafoojlkaifkaa.K
open Go.RowKit
set_option maxRecDepth 100000
set_option linter.unusedVariables false
attribute [local go_sem ↓] Go.wp_at_zero Go.wp_at_succ

def RowAt (w : World) (rb : Nat) (bg pr : Bool) : Prop := w.heap[rb]? = some (.cells #[.bool bg, .bool pr] 45 (0, 0))
def FollowIs (rb k : Nat) (bg pr : Bool) (w : World) (e : Ending) (w' : World) : Prop :=
  (badK k (!bg) pr = true ∧ e = .returned (.int .i64 11) ∧ w' = w) ∨ (badK k (!bg) pr = false ∧ e = .returned (.int .i64 0) ∧ RowAt w' rb true (nextP k pr) ∧ But [rb] w w')

set_option maxHeartbeats 1000000 in
theorem follow_a0 (rb k : Nat) (bg pr : Bool) (w : World) (h : RowAt w rb bg pr) (hk : k = 0) : Calls Try.prog 16 #[.pointer (some ⟨rb, 0, none⟩), .int .u8 (k : Int)] w (FollowIs rb k bg pr w) := by
  have c0 : w.cell? ⟨rb, 0, none⟩ = some (.bool bg) := by simp [World.cell?, show w.heap[rb]? = _ from h]
  have c1 : w.cell? ⟨rb, 1, none⟩ = some (.bool pr) := by simp [World.cell?, show w.heap[rb]? = _ from h]
  have fr : ∀ i, w.frozen? ⟨rb, i, none⟩ = false := fun i => by simp [World.frozen?, show w.heap[rb]? = _ from h]
  have HS : ∀ b : Bool, Hid (RowAt ((w.setCell ⟨rb, 0, none⟩ (.bool true)).setCell ⟨rb, 1, none⟩ (.bool b)) rb true b) := fun b => hide (by unfold RowAt; rw [heap_setCell_same _ rb 1 _ 45 _ (heap_setCell_same _ rb 0 _ 45 _ h)]; rfl)
  have HB : ∀ b : Bool, Hid (But [rb] w ((w.setCell ⟨rb, 0, none⟩ (.bool true)).setCell ⟨rb, 1, none⟩ (.bool b))) := fun b => hide (((But.refl _ _).set (g := rb) (by simp) 0 _).set (g := rb) (by simp) 1 _)
  have HX : Hid (∀ e w', (badK k (!bg) pr = true ∧ e = .returned (.int .i64 11) ∧ w' = w) ∨ (badK k (!bg) pr = false ∧ e = .returned (.int .i64 0) ∧ RowAt w' rb true (nextP k pr) ∧ But [rb] w w') → FollowIs rb k bg pr w e w') := hide fun e w' h => h
  generalize FollowIs rb k bg pr w = POST at HX ⊢
  have t0 : (k : Int) = 0 := by omega
  have t1 : ¬ (k : Int) = 1 := by omega
  have t2 : ¬ (2 : Int) < (k : Int) := by omega
  have t3 : (k : Int) < 128 := by omega
  have t4 : ¬ (128 : Int) ≤ (k : Int) := by omega
  have t5 : (k : Int) < 192 := by omega
  have t6 : ¬ (192 : Int) ≤ (k : Int) := by omega
  have t7 : ¬ (224 : Int) ≤ (k : Int) := by omega
  have hb : badK k (!bg) pr = (false) := by unfold badK; cases bg <;> cases pr <;> simp <;> omega
  have hx : nextP k pr = (pr) := by unfold nextP; cases pr <;> simp <;> omega
  rw [hb, hx] at HX
  clear hb hx h
  have HK : Hid (k < 256) := hide (by omega)
  clear hk
  obtain rfl : k = 0 := by omega
  clear t0 t1 t2 t3 t4 t5 t6 t7
  cases bg <;> cases pr
  all_goals go_enter Try.func16, Try.ntmps16
  all_goals go_wp2_with fail
  all_goals first
  | (have HF := unhide HX _ _ (.inl ⟨by simp, rfl, rfl⟩); first | exact HF | (go_ret; exact HF))
  | (have HF := unhide HX _ _ (.inr ⟨by simp, rfl, unhide (HS _), unhide (HB _)⟩); first | exact HF | (go_ret; exact HF))

set_option maxHeartbeats 1000000 in
theorem follow_a1 (rb k : Nat) (bg pr : Bool) (w : World) (h : RowAt w rb bg pr) (hk : k = 1) : Calls Try.prog 16 #[.pointer (some ⟨rb, 0, none⟩), .int .u8 (k : Int)] w (FollowIs rb k bg pr w) := by
  have c0 : w.cell? ⟨rb, 0, none⟩ = some (.bool bg) := by simp [World.cell?, show w.heap[rb]? = _ from h]
  have c1 : w.cell? ⟨rb, 1, none⟩ = some (.bool pr) := by simp [World.cell?, show w.heap[rb]? = _ from h]
  have fr : ∀ i, w.frozen? ⟨rb, i, none⟩ = false := fun i => by simp [World.frozen?, show w.heap[rb]? = _ from h]
  have HS : ∀ b : Bool, Hid (RowAt ((w.setCell ⟨rb, 0, none⟩ (.bool true)).setCell ⟨rb, 1, none⟩ (.bool b)) rb true b) := fun b => hide (by unfold RowAt; rw [heap_setCell_same _ rb 1 _ 45 _ (heap_setCell_same _ rb 0 _ 45 _ h)]; rfl)
  have HB : ∀ b : Bool, Hid (But [rb] w ((w.setCell ⟨rb, 0, none⟩ (.bool true)).setCell ⟨rb, 1, none⟩ (.bool b))) := fun b => hide (((But.refl _ _).set (g := rb) (by simp) 0 _).set (g := rb) (by simp) 1 _)
  have HX : Hid (∀ e w', (badK k (!bg) pr = true ∧ e = .returned (.int .i64 11) ∧ w' = w) ∨ (badK k (!bg) pr = false ∧ e = .returned (.int .i64 0) ∧ RowAt w' rb true (nextP k pr) ∧ But [rb] w w') → FollowIs rb k bg pr w e w') := hide fun e w' h => h
  generalize FollowIs rb k bg pr w = POST at HX ⊢
  have t0 : ¬ (k : Int) = 0 := by omega
  have t1 : (k : Int) = 1 := by omega
  have t2 : ¬ (2 : Int) < (k : Int) := by omega
  have t3 : (k : Int) < 128 := by omega
  have t4 : ¬ (128 : Int) ≤ (k : Int) := by omega
  have t5 : (k : Int) < 192 := by omega
  have t6 : ¬ (192 : Int) ≤ (k : Int) := by omega
  have t7 : ¬ (224 : Int) ≤ (k : Int) := by omega
  have hb : badK k (!bg) pr = (false) := by unfold badK; cases bg <;> cases pr <;> simp <;> omega
  have hx : nextP k pr = (false) := by unfold nextP; cases pr <;> simp <;> omega
  rw [hb, hx] at HX
  clear hb hx h
  have HK : Hid (k < 256) := hide (by omega)
  clear hk
  obtain rfl : k = 1 := by omega
  clear t0 t1 t2 t3 t4 t5 t6 t7
  cases bg <;> cases pr
  all_goals go_enter Try.func16, Try.ntmps16
  all_goals go_wp2_with fail
  all_goals first
  | (have HF := unhide HX _ _ (.inl ⟨by simp, rfl, rfl⟩); first | exact HF | (go_ret; exact HF))
  | (have HF := unhide HX _ _ (.inr ⟨by simp, rfl, unhide (HS _), unhide (HB _)⟩); first | exact HF | (go_ret; exact HF))

set_option maxHeartbeats 1000000 in
theorem follow_a2 (rb k : Nat) (bg pr : Bool) (w : World) (h : RowAt w rb bg pr) (hk : k = 2) : Calls Try.prog 16 #[.pointer (some ⟨rb, 0, none⟩), .int .u8 (k : Int)] w (FollowIs rb k bg pr w) := by
  have c0 : w.cell? ⟨rb, 0, none⟩ = some (.bool bg) := by simp [World.cell?, show w.heap[rb]? = _ from h]
  have c1 : w.cell? ⟨rb, 1, none⟩ = some (.bool pr) := by simp [World.cell?, show w.heap[rb]? = _ from h]
  have fr : ∀ i, w.frozen? ⟨rb, i, none⟩ = false := fun i => by simp [World.frozen?, show w.heap[rb]? = _ from h]
  have HS : ∀ b : Bool, Hid (RowAt ((w.setCell ⟨rb, 0, none⟩ (.bool true)).setCell ⟨rb, 1, none⟩ (.bool b)) rb true b) := fun b => hide (by unfold RowAt; rw [heap_setCell_same _ rb 1 _ 45 _ (heap_setCell_same _ rb 0 _ 45 _ h)]; rfl)
  have HB : ∀ b : Bool, Hid (But [rb] w ((w.setCell ⟨rb, 0, none⟩ (.bool true)).setCell ⟨rb, 1, none⟩ (.bool b))) := fun b => hide (((But.refl _ _).set (g := rb) (by simp) 0 _).set (g := rb) (by simp) 1 _)
  have HX : Hid (∀ e w', (badK k (!bg) pr = true ∧ e = .returned (.int .i64 11) ∧ w' = w) ∨ (badK k (!bg) pr = false ∧ e = .returned (.int .i64 0) ∧ RowAt w' rb true (nextP k pr) ∧ But [rb] w w') → FollowIs rb k bg pr w e w') := hide fun e w' h => h
  generalize FollowIs rb k bg pr w = POST at HX ⊢
  have t0 : ¬ (k : Int) = 0 := by omega
  have t1 : ¬ (k : Int) = 1 := by omega
  have t2 : ¬ (2 : Int) < (k : Int) := by omega
  have t3 : (k : Int) < 128 := by omega
  have t4 : ¬ (128 : Int) ≤ (k : Int) := by omega
  have t5 : (k : Int) < 192 := by omega
  have t6 : ¬ (192 : Int) ≤ (k : Int) := by omega
  have t7 : ¬ (224 : Int) ≤ (k : Int) := by omega
  have hb : badK k (!bg) pr = (!bg) := by unfold badK; cases bg <;> cases pr <;> simp <;> omega
  have hx : nextP k pr = (pr) := by unfold nextP; cases pr <;> simp <;> omega
  rw [hb, hx] at HX
  clear hb hx h
  have HK : Hid (k < 256) := hide (by omega)
  clear hk
  obtain rfl : k = 2 := by omega
  clear t0 t1 t2 t3 t4 t5 t6 t7
  cases bg <;> cases pr
  all_goals go_enter Try.func16, Try.ntmps16
  all_goals go_wp2_with fail
  all_goals first
  | (have HF := unhide HX _ _ (.inl ⟨by simp, rfl, rfl⟩); first | exact HF | (go_ret; exact HF))
  | (have HF := unhide HX _ _ (.inr ⟨by simp, rfl, unhide (HS _), unhide (HB _)⟩); first | exact HF | (go_ret; exact HF))

set_option maxHeartbeats 1000000 in
theorem follow_a3 (rb k : Nat) (bg pr : Bool) (w : World) (h : RowAt w rb bg pr) (hk : 2 < k ∧ k < 128) : Calls Try.prog 16 #[.pointer (some ⟨rb, 0, none⟩), .int .u8 (k : Int)] w (FollowIs rb k bg pr w) := by
  have c0 : w.cell? ⟨rb, 0, none⟩ = some (.bool bg) := by simp [World.cell?, show w.heap[rb]? = _ from h]
  have c1 : w.cell? ⟨rb, 1, none⟩ = some (.bool pr) := by simp [World.cell?, show w.heap[rb]? = _ from h]
  have fr : ∀ i, w.frozen? ⟨rb, i, none⟩ = false := fun i => by simp [World.frozen?, show w.heap[rb]? = _ from h]
  have HS : ∀ b : Bool, Hid (RowAt ((w.setCell ⟨rb, 0, none⟩ (.bool true)).setCell ⟨rb, 1, none⟩ (.bool b)) rb true b) := fun b => hide (by unfold RowAt; rw [heap_setCell_same _ rb 1 _ 45 _ (heap_setCell_same _ rb 0 _ 45 _ h)]; rfl)
  have HB : ∀ b : Bool, Hid (But [rb] w ((w.setCell ⟨rb, 0, none⟩ (.bool true)).setCell ⟨rb, 1, none⟩ (.bool b))) := fun b => hide (((But.refl _ _).set (g := rb) (by simp) 0 _).set (g := rb) (by simp) 1 _)
  have HX : Hid (∀ e w', (badK k (!bg) pr = true ∧ e = .returned (.int .i64 11) ∧ w' = w) ∨ (badK k (!bg) pr = false ∧ e = .returned (.int .i64 0) ∧ RowAt w' rb true (nextP k pr) ∧ But [rb] w w') → FollowIs rb k bg pr w e w') := hide fun e w' h => h
  generalize FollowIs rb k bg pr w = POST at HX ⊢
  have t0 : ¬ (k : Int) = 0 := by omega
  have t1 : ¬ (k : Int) = 1 := by omega
  have t2 : (2 : Int) < (k : Int) := by omega
  have t3 : (k : Int) < 128 := by omega
  have t4 : ¬ (128 : Int) ≤ (k : Int) := by omega
  have t5 : (k : Int) < 192 := by omega
  have t6 : ¬ (192 : Int) ≤ (k : Int) := by omega
  have t7 : ¬ (224 : Int) ≤ (k : Int) := by omega
  have e0 : ((k : Int) == 0) = false := by simp; omega
  have e1 : ((k : Int) == 1) = false := by simp; omega
  have e2 : ((k : Int) != 1) = true := by simp; omega
  have hb : badK k (!bg) pr = (true) := by unfold badK; cases bg <;> cases pr <;> simp <;> omega
  have hx : nextP k pr = (pr) := by unfold nextP; cases pr <;> simp <;> omega
  rw [hb, hx] at HX
  clear hb hx h
  have HK : Hid (k < 256) := hide (by omega)
  clear hk
  cases bg <;> cases pr
  all_goals go_enter Try.func16, Try.ntmps16
  all_goals go_wp2_with fail
  all_goals first
  | (have HF := unhide HX _ _ (.inl ⟨by simp, rfl, rfl⟩); first | exact HF | (go_ret; exact HF))
  | (have HF := unhide HX _ _ (.inr ⟨by simp, rfl, unhide (HS _), unhide (HB _)⟩); first | exact HF | (go_ret; exact HF))

set_option maxHeartbeats 1000000 in
theorem follow_a4 (rb k : Nat) (bg pr : Bool) (w : World) (h : RowAt w rb bg pr) (hk : 128 ≤ k ∧ k < 192) : Calls Try.prog 16 #[.pointer (some ⟨rb, 0, none⟩), .int .u8 (k : Int)] w (FollowIs rb k bg pr w) := by
  have c0 : w.cell? ⟨rb, 0, none⟩ = some (.bool bg) := by simp [World.cell?, show w.heap[rb]? = _ from h]
  have c1 : w.cell? ⟨rb, 1, none⟩ = some (.bool pr) := by simp [World.cell?, show w.heap[rb]? = _ from h]
  have fr : ∀ i, w.frozen? ⟨rb, i, none⟩ = false := fun i => by simp [World.frozen?, show w.heap[rb]? = _ from h]
  have HS : ∀ b : Bool, Hid (RowAt ((w.setCell ⟨rb, 0, none⟩ (.bool true)).setCell ⟨rb, 1, none⟩ (.bool b)) rb true b) := fun b => hide (by unfold RowAt; rw [heap_setCell_same _ rb 1 _ 45 _ (heap_setCell_same _ rb 0 _ 45 _ h)]; rfl)
  have HB : ∀ b : Bool, Hid (But [rb] w ((w.setCell ⟨rb, 0, none⟩ (.bool true)).setCell ⟨rb, 1, none⟩ (.bool b))) := fun b => hide (((But.refl _ _).set (g := rb) (by simp) 0 _).set (g := rb) (by simp) 1 _)
  have HX : Hid (∀ e w', (badK k (!bg) pr = true ∧ e = .returned (.int .i64 11) ∧ w' = w) ∨ (badK k (!bg) pr = false ∧ e = .returned (.int .i64 0) ∧ RowAt w' rb true (nextP k pr) ∧ But [rb] w w') → FollowIs rb k bg pr w e w') := hide fun e w' h => h
  generalize FollowIs rb k bg pr w = POST at HX ⊢
  have t0 : ¬ (k : Int) = 0 := by omega
  have t1 : ¬ (k : Int) = 1 := by omega
  have t2 : (2 : Int) < (k : Int) := by omega
  have t3 : ¬ (k : Int) < 128 := by omega
  have t4 : (128 : Int) ≤ (k : Int) := by omega
  have t5 : (k : Int) < 192 := by omega
  have t6 : ¬ (192 : Int) ≤ (k : Int) := by omega
  have t7 : ¬ (224 : Int) ≤ (k : Int) := by omega
  have e0 : ((k : Int) == 0) = false := by simp; omega
  have e1 : ((k : Int) == 1) = false := by simp; omega
  have e2 : ((k : Int) != 1) = true := by simp; omega
  have hb : badK k (!bg) pr = (!bg || !pr) := by unfold badK; cases bg <;> cases pr <;> simp <;> omega
  have hx : nextP k pr = (pr) := by unfold nextP; cases pr <;> simp <;> omega
  rw [hb, hx] at HX
  clear hb hx h
  have HK : Hid (k < 256) := hide (by omega)
  clear hk
  cases bg <;> cases pr
  all_goals go_enter Try.func16, Try.ntmps16
  all_goals go_wp2_with fail
  all_goals first
  | (have HF := unhide HX _ _ (.inl ⟨by simp, rfl, rfl⟩); first | exact HF | (go_ret; exact HF))
  | (have HF := unhide HX _ _ (.inr ⟨by simp, rfl, unhide (HS _), unhide (HB _)⟩); first | exact HF | (go_ret; exact HF))

set_option maxHeartbeats 1000000 in
theorem follow_a5 (rb k : Nat) (bg pr : Bool) (w : World) (h : RowAt w rb bg pr) (hk : 192 ≤ k ∧ k < 224) : Calls Try.prog 16 #[.pointer (some ⟨rb, 0, none⟩), .int .u8 (k : Int)] w (FollowIs rb k bg pr w) := by
  have c0 : w.cell? ⟨rb, 0, none⟩ = some (.bool bg) := by simp [World.cell?, show w.heap[rb]? = _ from h]
  have c1 : w.cell? ⟨rb, 1, none⟩ = some (.bool pr) := by simp [World.cell?, show w.heap[rb]? = _ from h]
  have fr : ∀ i, w.frozen? ⟨rb, i, none⟩ = false := fun i => by simp [World.frozen?, show w.heap[rb]? = _ from h]
  have HS : ∀ b : Bool, Hid (RowAt ((w.setCell ⟨rb, 0, none⟩ (.bool true)).setCell ⟨rb, 1, none⟩ (.bool b)) rb true b) := fun b => hide (by unfold RowAt; rw [heap_setCell_same _ rb 1 _ 45 _ (heap_setCell_same _ rb 0 _ 45 _ h)]; rfl)
  have HB : ∀ b : Bool, Hid (But [rb] w ((w.setCell ⟨rb, 0, none⟩ (.bool true)).setCell ⟨rb, 1, none⟩ (.bool b))) := fun b => hide (((But.refl _ _).set (g := rb) (by simp) 0 _).set (g := rb) (by simp) 1 _)
  have HX : Hid (∀ e w', (badK k (!bg) pr = true ∧ e = .returned (.int .i64 11) ∧ w' = w) ∨ (badK k (!bg) pr = false ∧ e = .returned (.int .i64 0) ∧ RowAt w' rb true (nextP k pr) ∧ But [rb] w w') → FollowIs rb k bg pr w e w') := hide fun e w' h => h
  generalize FollowIs rb k bg pr w = POST at HX ⊢
  have t0 : ¬ (k : Int) = 0 := by omega
  have t1 : ¬ (k : Int) = 1 := by omega
  have t2 : (2 : Int) < (k : Int) := by omega
  have t3 : ¬ (k : Int) < 128 := by omega
  have t4 : (128 : Int) ≤ (k : Int) := by omega
  have t5 : ¬ (k : Int) < 192 := by omega
  have t6 : (192 : Int) ≤ (k : Int) := by omega
  have t7 : ¬ (224 : Int) ≤ (k : Int) := by omega
  have e0 : ((k : Int) == 0) = false := by simp; omega
  have e1 : ((k : Int) == 1) = false := by simp; omega
  have e2 : ((k : Int) != 1) = true := by simp; omega
  have hb : badK k (!bg) pr = (!bg) := by unfold badK; cases bg <;> cases pr <;> simp <;> omega
  have hx : nextP k pr = (true) := by unfold nextP; cases pr <;> simp <;> omega
  rw [hb, hx] at HX
  clear hb hx h
  have HK : Hid (k < 256) := hide (by omega)
  clear hk
  cases bg <;> cases pr
  all_goals go_enter Try.func16, Try.ntmps16
  all_goals go_wp2_with fail
  all_goals first
  | (have HF := unhide HX _ _ (.inl ⟨by simp, rfl, rfl⟩); first | exact HF | (go_ret; exact HF))
  | (have HF := unhide HX _ _ (.inr ⟨by simp, rfl, unhide (HS _), unhide (HB _)⟩); first | exact HF | (go_ret; exact HF))

set_option maxHeartbeats 1000000 in
theorem follow_a6 (rb k : Nat) (bg pr : Bool) (w : World) (h : RowAt w rb bg pr) (hk : 224 ≤ k ∧ k < 256) : Calls Try.prog 16 #[.pointer (some ⟨rb, 0, none⟩), .int .u8 (k : Int)] w (FollowIs rb k bg pr w) := by
  have c0 : w.cell? ⟨rb, 0, none⟩ = some (.bool bg) := by simp [World.cell?, show w.heap[rb]? = _ from h]
  have c1 : w.cell? ⟨rb, 1, none⟩ = some (.bool pr) := by simp [World.cell?, show w.heap[rb]? = _ from h]
  have fr : ∀ i, w.frozen? ⟨rb, i, none⟩ = false := fun i => by simp [World.frozen?, show w.heap[rb]? = _ from h]
  have HS : ∀ b : Bool, Hid (RowAt ((w.setCell ⟨rb, 0, none⟩ (.bool true)).setCell ⟨rb, 1, none⟩ (.bool b)) rb true b) := fun b => hide (by unfold RowAt; rw [heap_setCell_same _ rb 1 _ 45 _ (heap_setCell_same _ rb 0 _ 45 _ h)]; rfl)
  have HB : ∀ b : Bool, Hid (But [rb] w ((w.setCell ⟨rb, 0, none⟩ (.bool true)).setCell ⟨rb, 1, none⟩ (.bool b))) := fun b => hide (((But.refl _ _).set (g := rb) (by simp) 0 _).set (g := rb) (by simp) 1 _)
  have HX : Hid (∀ e w', (badK k (!bg) pr = true ∧ e = .returned (.int .i64 11) ∧ w' = w) ∨ (badK k (!bg) pr = false ∧ e = .returned (.int .i64 0) ∧ RowAt w' rb true (nextP k pr) ∧ But [rb] w w') → FollowIs rb k bg pr w e w') := hide fun e w' h => h
  generalize FollowIs rb k bg pr w = POST at HX ⊢
  have t0 : ¬ (k : Int) = 0 := by omega
  have t1 : ¬ (k : Int) = 1 := by omega
  have t2 : (2 : Int) < (k : Int) := by omega
  have t3 : ¬ (k : Int) < 128 := by omega
  have t4 : (128 : Int) ≤ (k : Int) := by omega
  have t5 : ¬ (k : Int) < 192 := by omega
  have t6 : (192 : Int) ≤ (k : Int) := by omega
  have t7 : (224 : Int) ≤ (k : Int) := by omega
  have e0 : ((k : Int) == 0) = false := by simp; omega
  have e1 : ((k : Int) == 1) = false := by simp; omega
  have e2 : ((k : Int) != 1) = true := by simp; omega
  have hb : badK k (!bg) pr = (false) := by unfold badK; cases bg <;> cases pr <;> simp <;> omega
  have hx : nextP k pr = (true) := by unfold nextP; cases pr <;> simp <;> omega
  rw [hb, hx] at HX
  clear hb hx h
  have HK : Hid (k < 256) := hide (by omega)
  clear hk
  cases bg <;> cases pr
  all_goals go_enter Try.func16, Try.ntmps16
  all_goals go_wp2_with fail
  all_goals first
  | (have HF := unhide HX _ _ (.inl ⟨by simp, rfl, rfl⟩); first | exact HF | (go_ret; exact HF))
  | (have HF := unhide HX _ _ (.inr ⟨by simp, rfl, unhide (HS _), unhide (HB _)⟩); first | exact HF | (go_ret; exact HF))

theorem follow_ok (rb k : Nat) (bg pr : Bool) (w : World) (h : RowAt w rb bg pr) (hk : k < 256) : Calls Try.prog 16 #[.pointer (some ⟨rb, 0, none⟩), .int .u8 (k : Int)] w (FollowIs rb k bg pr w) := by
  rcases (show k = 0 ∨ k = 1 ∨ k = 2 ∨ (2 < k ∧ k < 128) ∨ (128 ≤ k ∧ k < 192) ∨ (192 ≤ k ∧ k < 224) ∨ (224 ≤ k ∧ k < 256) by omega) with h0 | h0 | h0 | h0 | h0 | h0 | h0
  · exact follow_a0 rb k bg pr w h h0
  · exact follow_a1 rb k bg pr w h h0
  · exact follow_a2 rb k bg pr w h h0
  · exact follow_a3 rb k bg pr w h h0
  · exact follow_a4 rb k bg pr w h h0
  · exact follow_a5 rb k bg pr w h h0
  · exact follow_a6 rb k bg pr w h h0
end Go.Proofs.Ythafoojlkaifkaa.K
