/- The function by which symbols that come are sorted. -/
import Derived.Test.YtdpbjeajipggbaaKit
import Derived.Test.YtdpbjeajipggbaaAid
import Derived.Test.YtdpbjeajipggbaaShelf
namespace Go.Proofs.Ytdpbjeajipggbaa
open Go.RowKit Go.Sort Go.Lib
set_option linter.unusedVariables false

attribute [local go_sem ↓] Go.wp_at_zero Go.wp_at_succ

section
variable {P : Program} {md : Region.Mode} {ops : Array Oper} {Q : Exit → Act → World → Prop} {S S' : World → Prop}

/-- An operation that alone may come up now, and that yields. -/
theorem held_value {o : Oper} {v : Value} {fuel : Nat} {listed : Array Bool} {l : List Value} {df : List Deferred} {w w' : World} (i d : Nat) (hr : Region.ready md ops listed = [i]) (hi : ops[i]? = some o) (hd : o.dst = some d)
    (hw : Region.wanted o (yielded ops l.toArray) = true) (hrun : (execOp (Act.eval ⟨l.toArray, df⟩) o).run P w = .ok (.value v) w') (hS : S w')
    (h : wpAnyH P md ops Q S fuel (listed.setIfInBounds i true) ⟨(l.set d v).toArray, df⟩ w') : wpAnyH P md ops Q S (fuel + 1) listed ⟨l.toArray, df⟩ w := by
  refine wpAnyH_ready hr (by simp) (AllReadyH.cons hi (fun K hK => ?_) AllReadyH.nil)
  rw [if_pos hw]
  unfold Oper.wp
  rw [hrun, Oper.upon_value]
  have e : Act.put (⟨l.toArray, df⟩ : Act) o.dst v = ⟨(l.set d v).toArray, df⟩ := by rw [hd]; simp [Act.put]
  rw [e]
  exact hK.out _ _ hS (fun _ => h)
end

set_option maxHeartbeats 1000000 in
theorem or_ok (g : Nat) (a b : Int) (w : World) (h0 : w.cell? ⟨g, 0, none⟩ = some (.int .i64 a)) (h1 : w.cell? ⟨g, 1, none⟩ = some (.int .i64 b)) :
    Calls Try.prog 21 #[.slice (some ⟨g, 0, none⟩) 2 2] w fun e w' => e = .returned (.int .i64 (if a = 0 then b else a)) ∧ w' = w := by
  go_enter Try.func21, Try.ntmps21
  go_wp2_with fail
  go_loopg [8] 2 (fun gk d ws => ∃ (k : Nat), gk = 2 - k ∧ k ≤ 2 ∧ (1 ≤ k → a = 0) ∧ (2 ≤ k → b = 0) ∧ d = .int .i64 (k : Int) ∧ ws = w)
  case atStart => exact ⟨0, by omega, by omega, fun h => by omega, fun h => by omega, rfl, rfl⟩
  case round =>
    obtain ⟨k, rfl, hk, ka, kb, rfl, rfl⟩ := hrel
    obtain rfl | rfl | rfl : k = 0 ∨ k = 1 ∨ k = 2 := by omega
    · clear ka kb
      by_cases e : a = 0
      · have e1 : (a != 0) = false := by simp [e]
        go_wp2_with fail
        go_roundg (2 - 1)
        case measure => omega
        case rel => exact ⟨1, rfl, by omega, fun _ => e, fun h => by omega, by go_num, rfl⟩
      · have e1 : (a != 0) = true := by simp [e]
        go_wp2_with fail
        go_ret
        exact ⟨rfl, rfl⟩
    · have ha := ka (by omega)
      clear ka kb
      subst ha
      by_cases e : b = 0
      · have e1 : (b != 0) = false := by simp [e]
        go_wp2_with fail
        go_roundg (2 - 2)
        case measure => omega
        case rel => exact ⟨2, rfl, by omega, by simp, fun _ => e, by go_num, rfl⟩
      · have e1 : (b != 0) = true := by simp [e]
        go_wp2_with fail
        go_ret
        exact ⟨rfl, rfl⟩
    · have ha := ka (by omega)
      have hb := kb (by omega)
      clear ka kb
      subst ha hb
      go_wp2_with fail
      go_ret
      exact ⟨rfl, rfl⟩

theorem or_val (g : Nat) (a b r : Int) (w : World) (hr : r = if a = 0 then b else a) (h0 : w.cell? ⟨g, 0, none⟩ = some (.int .i64 a)) (h1 : w.cell? ⟨g, 1, none⟩ = some (.int .i64 b)) :
    Calls Try.prog 21 #[.slice (some ⟨g, 0, none⟩) 2 2] w fun e w' => e = .returned (.int .i64 r) ∧ w' = w := by
  subst hr; exact or_ok g a b w h0 h1

structure Four (p : Nat) (x0 x1 y0 y1 : Int) (x : World) : Prop where
  a : x.cell? ⟨p, 0, none⟩ = some (.int .i64 x0)
  b : x.cell? ⟨p, 1, none⟩ = some (.int .i64 x1)
  c : x.cell? ⟨p + 1, 0, none⟩ = some (.int .i64 y0)
  d : x.cell? ⟨p + 1, 1, none⟩ = some (.int .i64 y1)

theorem Four.alloc {p : Nat} {x0 x1 y0 y1 : Int} {x : World} (h : Four p x0 x1 y0 y1 x) (o : Obj) : Four p x0 x1 y0 y1 (x.alloc o) :=
  have b : Below x.heap.size x (x.alloc o) := (Below.refl _ _).alloc (Nat.le_refl _) o
  ⟨cell_stays b h.a, cell_stays b h.b, cell_stays b h.c, cell_stays b h.d⟩

theorem Four.drew {p : Nat} {x0 x1 y0 y1 : Int} {x : World} (h : Four p x0 x1 y0 y1 x) : Four p x0 x1 y0 y1 x.drew := ⟨h.a, h.b, h.c, h.d⟩

theorem cellA (w : World) (a b : Int) : (w.alloc (.cells #[.int .i64 a, .int .i64 b] 3)).cell? ⟨w.heap.size, 0, none⟩ = some (.int .i64 a) := by
  simp only [World.cell?, heap_alloc_new]; rfl
theorem cellB (w : World) (a b : Int) : (w.alloc (.cells #[.int .i64 a, .int .i64 b] 3)).cell? ⟨w.heap.size, 1, none⟩ = some (.int .i64 b) := by
  simp only [World.cell?, heap_alloc_new]; rfl

/-- how two of them are compared: by how often they come, then by the symbol -/
def cf (x y : Int × Int) : Int := if Lib.compareInt x.2 y.2 = 0 then Lib.compareInt x.1 y.1 else Lib.compareInt x.2 y.2

def encC (x : Int × Int) : List Value := [.int .i64 x.1, .int .i64 x.2]

theorem four_made (W : World) (x0 x1 y0 y1 : Int) : Four W.heap.size x0 x1 y0 y1 ((W.alloc (.cells #[.int .i64 x0, .int .i64 x1] 41)).alloc (.cells #[.int .i64 y0, .int .i64 y1] 41)) := by
  have b : Below (W.alloc (.cells #[.int .i64 x0, .int .i64 x1] 41)).heap.size (W.alloc (.cells #[.int .i64 x0, .int .i64 x1] 41)) ((W.alloc (.cells #[.int .i64 x0, .int .i64 x1] 41)).alloc (.cells #[.int .i64 y0, .int .i64 y1] 41)) := (Below.refl _ _).alloc (Nat.le_refl _) _
  refine ⟨cell_stays b ?_, cell_stays b ?_, ?_, ?_⟩
  · simp only [World.cell?, heap_alloc_new]; rfl
  · simp only [World.cell?, heap_alloc_new]; rfl
  · rw [show W.heap.size + 1 = (W.alloc (.cells #[.int .i64 x0, .int .i64 x1] 41)).heap.size by simp]
    simp only [World.cell?, heap_alloc_new]; rfl
  · rw [show W.heap.size + 1 = (W.alloc (.cells #[.int .i64 x0, .int .i64 x1] 41)).heap.size by simp]
    simp only [World.cell?, heap_alloc_new]; rfl

theorem drew_grow (W : World) (o1 o2 o3 : Obj) : ∃ q os', (((W.alloc o1).alloc o2).drew.alloc o3) = grow (W.drewN q) os' := by
  refine ⟨1, #[o1] ++ #[o2] ++ #[o3], ?_⟩
  rw [← grow_grow, ← grow_grow, ← alloc_eq_grow, ← alloc_eq_grow, ← alloc_eq_grow]
  rfl

set_option maxRecDepth 100000 in
set_option maxHeartbeats 2000000 in
theorem closure_walk (x0 x1 y0 y1 c1 c2 r : Int) (W : World) (hr : r = if c1 = 0 then c2 else c1) (hF1 : ∀ w : World, Calls Try.prog 22 #[.int .i64 x1, .int .i64 y1] w fun e w' => e = .returned (.int .i64 c1) ∧ w' = w)
    (hF2 : ∀ w : World, Calls Try.prog 22 #[.int .i64 x0, .int .i64 y0] w fun e w' => e = .returned (.int .i64 c2) ∧ w' = w) :
    Calls Try.prog 20 #[.agg #[.int .i64 x0, .int .i64 x1], .agg #[.int .i64 y0, .int .i64 y1]] W fun e w' => e = .returned (.int .i64 r) ∧ ∃ q os', w' = grow (W.drewN q) os' := by
  have hF := four_made W x0 x1 y0 y1
  have HR := hide hr
  clear hr
  have HW := hide (drew_grow W)
  go_enter Try.func20, Try.ntmps20
  go_upto_region 1 with fail
  have HW2 := hide (unhide HW (.cells #[.int .i64 x0, .int .i64 x1] 41) (.cells #[.int .i64 y0, .int .i64 y1] 41))
  clear HW
  obtain ⟨p, hp⟩ : ∃ p, p = W.heap.size := ⟨_, rfl⟩
  obtain ⟨W2, hW2⟩ : ∃ W2, W2 = (W.alloc (.cells #[.int .i64 x0, .int .i64 x1] 41)).alloc (.cells #[.int .i64 y0, .int .i64 y1] 41) := ⟨_, rfl⟩
  rw [← hp, ← hW2] at hF
  rw [← hW2] at HW2
  rw [← hp, ← hW2]
  clear hp hW2
  refine wp_region_noPanic ?_
  refine wp_region_held_drew (S := Four p x0 x1 y0 y1) (by kernel_rfl) hF.drew (fun hHeld => ?_)
  obtain ⟨W3, hW3⟩ : ∃ W3, W3 = W2.drew := ⟨_, rfl⟩
  rw [← hW3] at hHeld HW2 ⊢
  clear hW3
  refine held_take 0 5 rfl rfl (by kernel_rfl) (by kernel_rfl) (by kernel_rfl) (by rfl) hHeld noPanic_panic (v := ?_) (fun x hSx => ?_) ?_
  rotate_left 1
  · (obtain ⟨q0, q1, q2, q3⟩ := hSx; go_simp <;> with_reducible rfl)
  simp only [List.set_cons_zero, List.set_cons_succ]
  refine held_take 1 6 rfl rfl (by kernel_rfl) (by kernel_rfl) (by kernel_rfl) (by rfl) hHeld noPanic_panic (v := ?_) (fun x hSx => ?_) ?_
  rotate_left 1
  · (obtain ⟨q0, q1, q2, q3⟩ := hSx; go_simp <;> with_reducible rfl)
  simp only [List.set_cons_zero, List.set_cons_succ]
  refine held_take 2 7 rfl rfl (by kernel_rfl) (by kernel_rfl) (by kernel_rfl) (by rfl) hHeld noPanic_panic (v := ?_) (fun x hSx => ?_) ?_
  rotate_left 1
  · (obtain ⟨q0, q1, q2, q3⟩ := hSx; go_simp <;> with_reducible rfl)
  simp only [List.set_cons_zero, List.set_cons_succ]
  refine held_take 3 8 rfl rfl (by kernel_rfl) (by kernel_rfl) (by kernel_rfl) (by rfl) hHeld noPanic_panic (v := ?_) (fun x hSx => ?_) ?_
  rotate_left 1
  · (obtain ⟨q0, q1, q2, q3⟩ := hSx; go_simp <;> with_reducible rfl)
  simp only [List.set_cons_zero, List.set_cons_succ]
  refine held_take 5 10 rfl rfl (by kernel_rfl) (by kernel_rfl) (by kernel_rfl) (by rfl) hHeld noPanic_panic (v := ?_) (fun x hSx => ?_) ?_
  rotate_left 1
  · (obtain ⟨q0, q1, q2, q3⟩ := hSx; go_simp <;> with_reducible rfl)
  simp only [List.set_cons_zero, List.set_cons_succ]
  refine held_take 6 11 rfl rfl (by kernel_rfl) (by kernel_rfl) (by kernel_rfl) (by rfl) hHeld noPanic_panic (v := ?_) (fun x hSx => ?_) ?_
  rotate_left 1
  · (obtain ⟨q0, q1, q2, q3⟩ := hSx; go_simp <;> with_reducible rfl)
  simp only [List.set_cons_zero, List.set_cons_succ]
  refine held_take 7 12 rfl rfl (by kernel_rfl) (by kernel_rfl) (by kernel_rfl) (by rfl) hHeld noPanic_panic (v := ?_) (fun x hSx => ?_) ?_
  rotate_left 1
  · (obtain ⟨q0, q1, q2, q3⟩ := hSx; go_simp <;> with_reducible rfl)
  simp only [List.set_cons_zero, List.set_cons_succ]
  refine held_take 8 13 rfl rfl (by kernel_rfl) (by kernel_rfl) (by kernel_rfl) (by rfl) hHeld noPanic_panic (v := ?_) (fun x hSx => ?_) ?_
  rotate_left 1
  · (obtain ⟨q0, q1, q2, q3⟩ := hSx; go_simp <;> with_reducible rfl)
  simp only [List.set_cons_zero, List.set_cons_succ]
  refine held_enter 4 9 (by kernel_rfl) rfl rfl (by rfl) (by go_simp <;> exact ⟨rfl, rfl⟩) ?_
  refine (hF1 _).mono ?_
  rintro e w' ⟨rfl, hww⟩
  replace hww := hww.symm
  subst hww
  refine ⟨_, rfl, hHeld, ?_⟩
  simp only [List.set_cons_zero, List.set_cons_succ]
  refine held_enter 9 14 (by kernel_rfl) rfl rfl (by rfl) (by go_simp <;> exact ⟨rfl, rfl⟩) ?_
  refine (hF2 _).mono ?_
  rintro e w' ⟨rfl, hww⟩
  replace hww := hww.symm
  subst hww
  refine ⟨_, rfl, hHeld, ?_⟩
  simp only [List.set_cons_zero, List.set_cons_succ]
  refine held_value 10 15 (by kernel_rfl) rfl rfl (by rfl) (v := .slice (some ⟨W3.heap.size, 0, none⟩) 2 2) (w' := W3.alloc (.cells #[.int .i64 c1, .int .i64 c2] 3)) (by go_simp <;> exact ⟨rfl, rfl⟩) (hHeld.alloc _) ?_
  simp only [List.set_cons_zero, List.set_cons_succ]
  have hHeld := hHeld.alloc (.cells #[.int .i64 c1, .int .i64 c2] 3)
  refine held_enter 11 16 (by kernel_rfl) rfl rfl (by rfl) (by go_simp <;> exact ⟨rfl, rfl⟩) ?_
  refine (or_val _ c1 c2 r _ (unhide HR) (cellA _ _ _) (cellB _ _ _)).mono ?_
  rintro e w' ⟨rfl, hww⟩
  replace hww := hww.symm
  subst hww
  refine ⟨_, rfl, hHeld, ?_⟩
  simp only [List.set_cons_zero, List.set_cons_succ]
  refine held_take 12 4 rfl rfl (by kernel_rfl) (by kernel_rfl) (by kernel_rfl) (by rfl) hHeld noPanic_panic (v := ?_) (fun x hSx => ?_) ?_
  rotate_left 1
  · go_simp <;> with_reducible rfl
  simp only [List.set_cons_zero, List.set_cons_succ]
  refine wpAnyH_done (by kernel_rfl) ?_ _
  refine NoPanic.normal ?_
  go_wp2_with fail
  go_ret
  exact ⟨rfl, unhide HW2 _⟩

theorem closure20 (x y : Int × Int) (W : World) : Calls Try.prog 20 #[.agg #[.int .i64 x.1, .int .i64 x.2], .agg #[.int .i64 y.1, .int .i64 y.2]] W fun e w' => e = .returned (.int .i64 (cf x y)) ∧ ∃ q os', w' = grow (W.drewN q) os' :=
  closure_walk x.1 x.2 y.1 y.2 _ _ _ W rfl (Try.cmp_Compare_int x.2 y.2) (Try.cmp_Compare_int x.1 y.1)

end Go.Proofs.Ytdpbjeajipggbaa
