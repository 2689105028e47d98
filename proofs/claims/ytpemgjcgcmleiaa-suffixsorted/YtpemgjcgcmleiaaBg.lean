/- begin: turnings by their first bytes. -/
import Derived.Test.YtpemgjcgcmleiaaSf
namespace Go.Proofs.Ytpemgjcgcmleiaa
open Go.RowKit Suf Go.Sort
set_option maxRecDepth 100000
set_option linter.unusedVariables false
attribute [local go_sem ↓] Go.wp_at_zero Go.wp_at_succ

/-- the turnings, made -/
def MadeAt (H n : Nat) (w : World) (v : Value) (x : World) : Prop := ∃ tx tb pg rg, v = .pointer (some ⟨tx, 0, none⟩) ∧ H ≤ tx ∧ x.heap[tx]? = some (.cells #[.pointer (some ⟨tb, 0, none⟩)] 49 (0, 0)) ∧ TAt H x tb pg rg n id (fun _ => 0) (.slice none 0 0) (.slice none 0 0) [] [] ∧ Below H w x

section
variable {P : Program} {md : Region.Mode} {ops : Array Oper} {Q : Exit → Act → World → Prop} {S : World → Prop}
theorem held_go_enter {o : Oper} {f : FuncId} {args : Array Value} {fuel : Nat} {listed : Array Bool} {l : List Value} {df : List Deferred} {w : World} {K : Act → World → Prop} (i d : Nat)
    (hK : Shut (∀ a w, S w → (S w → wpAnyH P md ops Q S fuel (listed.setIfInBounds i true) a w) → K a w)) (hd : o.dst = some d)
    (hw : Region.wanted o (yielded ops l.toArray) = true) (hrun : (execOp (Act.eval ⟨l.toArray, df⟩) o).run P w = .ok (.enter f args) w)
    (h : Calls P f args w fun e w' => ∃ v, e = .returned v ∧ S w' ∧ wpAnyH P md ops Q S fuel (listed.setIfInBounds i true) ⟨(l.set d v).toArray, df⟩ w') :
    if Region.wanted o (yielded ops (⟨l.toArray, df⟩ : Act).tmps) = true then Oper.wp P o ⟨l.toArray, df⟩ w K Q else K ((⟨l.toArray, df⟩ : Act).put o.dst undef) w := by
  rw [if_pos hw]
  unfold Oper.wp
  rw [hrun, Oper.upon_enter]
  refine h.mono ?_
  rintro e w' ⟨v, rfl, hS, h2⟩
  have e : Act.put (⟨l.toArray, df⟩ : Act) o.dst v = ⟨(l.set d v).toArray, df⟩ := by rw [hd]; simp [Act.put]
  show K (Act.put ⟨l.toArray, df⟩ o.dst v) w'
  rw [e]
  exact hK.out _ _ hS (fun _ => h2)
end

/-- what is made so far: the places, the ranks, the variable, the turnings -/
structure PS (n : Nat) (w x : World) (A B C D : Option Nat) : Prop where
  bel : Below w.heap.size w x
  a : ∀ g, A = some g → IntsAt x .i64 3 g n id ∧ w.heap.size ≤ g
  b : ∀ g, B = some g → IntsAt x .i64 3 g n (fun _ => 0) ∧ w.heap.size ≤ g
  c : ∀ g, C = some g → x.heap[g]? = some (.cells #[.pointer none] 49 (0, 0)) ∧ w.heap.size ≤ g
  d : ∀ g, D = some g → ∃ pg rg, A = some pg ∧ B = some rg ∧ x.heap[g]? = some (.cells #[.slice (some ⟨pg, 0, none⟩) n n, .slice (some ⟨rg, 0, none⟩) n n, .slice none 0 0, .slice none 0 0] 54 (0, 0)) ∧ w.heap.size ≤ g
  ne : ∀ g g', A = some g → B = some g' → g ≠ g'

theorem PS.keep {n : Nat} {w x y : World} {A B C D : Option Nat} (h : PS n w x A B C D) (hb : Below x.heap.size x y) : PS n w y A B C D :=
  ⟨h.bel.trans (hb.mono h.bel.size), fun g e => ⟨(h.a g e).1.stays hb (h.a g e).1.lt, (h.a g e).2⟩, fun g e => ⟨(h.b g e).1.stays hb (h.b g e).1.lt, (h.b g e).2⟩,
    fun g e => ⟨by rw [hb.block g (heap_lt (h.c g e).1)]; exact (h.c g e).1, (h.c g e).2⟩,
    fun g e => by obtain ⟨pg, rg, e1, e2, h1, h2⟩ := h.d g e; exact ⟨pg, rg, e1, e2, by rw [hb.block g (heap_lt h1)]; exact h1, h2⟩, h.ne⟩

theorem PS.rise {n : Nat} {w x y : World} {B C : Option Nat} (h : PS n w x none B C none) (hb : Below x.heap.size x y) (hi : IntsAt y .i64 3 x.heap.size n id) : PS n w y (some x.heap.size) B C none := by
  have k := h.keep hb
  exact ⟨k.bel, fun g e => by injection e with e; subst e; exact ⟨hi, h.bel.size⟩, k.b, k.c, fun g e => (by cases e), fun g g' e e' => by injection e with e; subst e; have := (h.b g' e').1.lt; omega⟩

theorem PS.make {n : Nat} {w x : World} {A C : Option Nat} (h : PS n w x A none C none) : PS n w (x.alloc (.cells (icells .i64 n (fun _ => 0)) 3)) A (some x.heap.size) C none := by
  have k := h.keep (y := x.alloc (.cells (icells .i64 n (fun _ => 0)) 3)) ((Below.refl _ _).alloc (Nat.le_refl _) _)
  exact ⟨k.bel, k.a, fun g e => by injection e with e; subst e; exact ⟨heap_alloc_new _ _, h.bel.size⟩, k.c, fun g e => (by cases e), fun g g' e e' => by injection e' with e'; subst e'; have := (h.a g e).1.lt; omega⟩

theorem PS.var {n : Nat} {w x : World} {A B D : Option Nat} (h : PS n w x A B none D) : PS n w (x.alloc (.cells #[.pointer none] 49)) A B (some x.heap.size) D := by
  have k := h.keep (y := x.alloc (.cells #[.pointer none] 49)) ((Below.refl _ _).alloc (Nat.le_refl _) _)
  exact ⟨k.bel, k.a, k.b, fun g e => by injection e with e; subst e; exact ⟨heap_alloc_new _ _, h.bel.size⟩, k.d, k.ne⟩

theorem PS.box {n pg rg : Nat} {w x : World} {C : Option Nat} (h : PS n w x (some pg) (some rg) C none) : PS n w (x.alloc (.cells #[.slice (some ⟨pg, 0, none⟩) n n, .slice (some ⟨rg, 0, none⟩) n n, .slice none 0 0, .slice none 0 0] 54)) (some pg) (some rg) C (some x.heap.size) := by
  have k := h.keep (y := x.alloc (.cells #[.slice (some ⟨pg, 0, none⟩) n n, .slice (some ⟨rg, 0, none⟩) n n, .slice none 0 0, .slice none 0 0] 54)) ((Below.refl _ _).alloc (Nat.le_refl _) _)
  exact ⟨k.bel, k.a, k.b, k.c, fun g e => by injection e with e; subst e; exact ⟨pg, rg, rfl, rfl, heap_alloc_new _ _, h.bel.size⟩, k.ne⟩

theorem PS.cells {n tx : Nat} {w x : World} {A B D : Option Nat} (h : PS n w x A B (some tx) D) : x.frozen? ⟨tx, 0, none⟩ = false ∧ x.cell? ⟨tx, 0, none⟩ = some (.pointer none) := by
  have := (h.c tx rfl).1
  exact ⟨by simp [World.frozen?, this], by simp [World.cell?, this]⟩

theorem PS.done {n pg rg tx tb : Nat} {w x : World} (h : PS n w x (some pg) (some rg) (some tx) (some tb)) : MadeAt w.heap.size n w (.pointer (some ⟨tx, 0, none⟩)) (x.setCell ⟨tx, 0, none⟩ (.pointer (some ⟨tb, 0, none⟩))) := by
  obtain ⟨hx, hH⟩ := h.c tx rfl
  obtain ⟨pg', rg', e1, e2, hd, hd2⟩ := h.d tb rfl
  injection e1 with e1
  injection e2 with e2
  subst e1 e2
  obtain ⟨ha, ha2⟩ := h.a pg rfl
  obtain ⟨hr, hr2⟩ := h.b rg rfl
  have hne : ∀ k cs t, x.heap[k]? = some (.cells cs t (0, 0)) → t ≠ 49 → k ≠ tx := fun k cs t hk ht e => by
    subst e
    rw [hx] at hk
    injection hk with hk
    injection hk with _ hk
    exact ht hk.symm
  have hk : ∀ k, k ≠ tx → (x.setCell ⟨tx, 0, none⟩ (.pointer (some ⟨tb, 0, none⟩))).heap[k]? = x.heap[k]? := fun k hk => heap_setCell_other _ _ _ _ (by exact hk)
  refine ⟨tx, tb, pg, rg, rfl, hH, heap_setCell_same x tx 0 _ _ _ hx, ⟨by rw [hk tb (hne _ _ _ hd (by decide))]; exact hd, ha.of (hk pg (hne _ _ _ ha (by decide))), hr.of (hk rg (hne _ _ _ hr (by decide))), World.ownsRow_nil _ _ _ _, World.ownsRow_nil _ _ _ _, h.ne pg rg rfl rfl, fun k hk => (by cases hk), hd2, ha2, hr2⟩, ?_⟩
  exact h.bel.setCell hH _

theorem or_i64 (y z : Nat) (hy : y < 16777216) (hz : z < 256) : bits .or .i64 ((y : Int) * 256) (z : Int) = ((y * 256 + z : Nat) : Int) := by
  have e : (y : Int) * 256 = ((y * 256 : Nat) : Int) := by omega
  rw [e]
  have h1 : (BitVec.ofInt 64 ((y * 256 : Nat) : Int)).toNat = y * 256 := ofInt_u64 _ (by omega)
  have h2 : (BitVec.ofInt 64 (z : Int)).toNat = z := ofInt_u64 _ (by omega)
  have h3 : y * 256 ||| z = y * 256 + z := nat_join 8 _ _ (by omega) (by omega)
  show IntKind.i64.wrap ((BitVec.ofInt 64 ((y * 256 : Nat) : Int) ||| BitVec.ofInt 64 (z : Int)).toNat : Int) = _
  rw [BitVec.toNat_or, h1, h2, h3, IntKind.wrap_i64]
  omega

set_option maxHeartbeats 2000000 in
theorem digit_ok (x i n : Nat) (R : Nat → Nat) (tx ix tb rg : Nat) (w : World) (htx : w.cell? ⟨tx, 0, none⟩ = some (.pointer (some ⟨tb, 0, none⟩))) (hix : w.cell? ⟨ix, 0, none⟩ = some (.int .i64 (i : Int))) (hT : TbAt w tb rg n R) (hx : x < n) (hi : i < 4) (hR : R x < 4294967296) :
    Calls Try.prog 26 #[.int .i64 (x : Int), .pointer (some ⟨tx, 0, none⟩), .pointer (some ⟨ix, 0, none⟩)] w fun e w' => e = .returned (.int .u8 ((dig R i x : Nat) : Int)) ∧ ∃ q, w' = w.drewN q := by
  have g1 : ∀ q, (w.drewN q).cell? ⟨tb, 1, none⟩ = some (.slice (some ⟨rg, 0, none⟩) n n) := fun q => hT.c1
  have g2 : ∀ q, (w.drewN q).cell? ⟨rg, x, none⟩ = some (.int .i64 (R x : Int)) := fun q => hT.rk.cell x hx
  have g3 : ∀ q, (w.drewN q).cell? ⟨tx, 0, none⟩ = some (.pointer (some ⟨tb, 0, none⟩)) := fun q => htx
  have g4 : ∀ q, (w.drewN q).cell? ⟨ix, 0, none⟩ = some (.int .i64 (i : Int)) := fun q => hix
  have hxi : (x : Int) < (n : Int) := by omega
  obtain ⟨d, hd⟩ : ∃ d, d = dig R i x := ⟨_, rfl⟩
  rw [← hd]
  unfold dig at hd
  generalize R x = y at *
  clear hT htx hix
  obtain rfl | rfl | rfl | rfl : i = 0 ∨ i = 1 ∨ i = 2 ∨ i = 3 := by omega
  · have hdd : d = y % 256 := by rw [hd]; simp
    clear hd
    go_enter Try.func26, Try.ntmps26
    go_upto_region 1 with fail
    go_quiet (fail)
    go_wp2_with fail
    go_ret
    exact ⟨by rw [hdd]; simp, _, rfl⟩
  · have hdd : d = y / 256 % 256 := by rw [hd]
    clear hd
    go_enter Try.func26, Try.ntmps26
    go_upto_region 1 with fail
    go_quiet (fail)
    go_wp2_with fail
    go_ret
    exact ⟨by rw [hdd]; simp, _, rfl⟩
  · have hdd : d = y / 65536 % 256 := by rw [hd]
    clear hd
    go_enter Try.func26, Try.ntmps26
    go_upto_region 1 with fail
    go_quiet (fail)
    go_wp2_with fail
    go_ret
    exact ⟨by rw [hdd]; simp, _, rfl⟩
  · have hdd : d = y / 16777216 % 256 := by rw [hd]
    clear hd
    go_enter Try.func26, Try.ntmps26
    go_upto_region 1 with fail
    go_quiet (fail)
    go_wp2_with fail
    go_ret
    exact ⟨by rw [hdd]; simp; omega, _, rfl⟩

set_option maxHeartbeats 8000000 in
theorem begin_ok (b : List Nat) (a0 : Option Addr) (cap : Nat) (w : World) (hc : BytesIn w a0 b) (hb : ∀ z ∈ b, z < 256) (hn : b.length ≤ 1048576) :
    Calls Try.prog 23 #[.slice a0 b.length cap] w fun e w' => ∃ tb pg rg p R vo vp G ps, e = .returned (.pointer (some ⟨tb, 0, none⟩)) ∧ TAt w.heap.size w' tb pg rg b.length p R vo vp G ps ∧ Grps b 4 p R G [] ∧ Below w.heap.size w w' := by
  have HC := hide hc
  have HBB := hide hb
  obtain ⟨n, hN⟩ : ∃ n, n = b.length := ⟨_, rfl⟩
  have HNN := hide hN
  rw [← hN] at hn ⊢
  clear hN hc hb
  go_enter Try.func23, Try.ntmps23
  go_upto_region 1 with fail
  go_cut [3] (fun v3 wc => MadeAt w.heap.size n w v3 wc)
  case first =>
    refine wp_region_noPanic ?_
    refine wp_region_held_drew (S := fun _ => True) (by kernel_rfl) True.intro (fun hHeld => ?_)
    obtain ⟨x1, hx1⟩ : ∃ x1, x1 = w.drew := ⟨_, rfl⟩
    show wpAnyH _ _ _ _ _ _ _ _ w.drew
    have HP1 : Hid (PS n w x1 none none none none) := hide (by rw [hx1]; exact ⟨drewN_below (Below.refl _ _) 1, fun g e => (by cases e), fun g e => (by cases e), fun g e => (by cases e), fun g e => (by cases e), fun g g' e => (by cases e)⟩)
    rw [← hx1]
    clear hx1
    refine held_take 0 7 rfl rfl (by kernel_rfl) (by kernel_rfl) (by kernel_rfl) (by rfl) hHeld noPanic_panic (v := ?_) (fun x hSx => ?_) ?_
    rotate_left 1
    · go_simp <;> with_reducible rfl
    simp only [List.set_cons_zero, List.set_cons_succ]
    refine held_take 1 8 rfl rfl (by kernel_rfl) (by kernel_rfl) (by kernel_rfl) (by rfl) hHeld noPanic_panic (v := ?_) (fun x hSx => ?_) ?_
    rotate_left 1
    · go_simp <;> with_reducible rfl
    simp only [List.set_cons_zero, List.set_cons_succ]
    refine held_take 3 10 rfl rfl (by kernel_rfl) (by kernel_rfl) (by kernel_rfl) (by rfl) hHeld noPanic_panic (v := ?_) (fun x hSx => ?_) ?_
    rotate_left 1
    · go_simp <;> with_reducible rfl
    simp only [List.set_cons_zero, List.set_cons_succ]
    refine held_take 4 11 rfl rfl (by kernel_rfl) (by kernel_rfl) (by kernel_rfl) (by rfl) hHeld noPanic_panic (v := ?_) (fun x hSx => ?_) ?_
    rotate_left 1
    · go_simp <;> with_reducible rfl
    simp only [List.set_cons_zero, List.set_cons_succ]
    refine held_three (i := 2) (j := 5) (k := 8) (by kernel_rfl) rfl rfl rfl (fun K hK => ?_) (fun K hK => ?_) (fun K hK => ?_)
    · refine held_go_enter 2 9 hK rfl (by rfl) (by go_simp <;> exact ⟨rfl, rfl⟩) ?_
      refine (rising_ok n _ hn).mono ?_
      rintro e x2 ⟨rfl, hr1, hr2⟩
      refine ⟨_, rfl, True.intro, ?_⟩
      simp only [List.set_cons_zero, List.set_cons_succ]
      have HP2 := hide ((unhide HP1).rise hr2 hr1)
      clear hr1 hr2
      obtain ⟨pg, hpg⟩ : ∃ pg, pg = x1.heap.size := ⟨_, rfl⟩
      rw [← hpg] at HP2 ⊢
      clear hpg
      refine held_two (i := 5) (j := 8) (by kernel_rfl) rfl rfl (fun K hK => ?_) (fun K hK => ?_)
      · refine held_go 5 12 hK rfl (by rfl) (v := .slice (some ⟨x2.heap.size, 0, none⟩) n n) (w' := (x2.alloc (.cells (icells .i64 n (fun _ => 0)) 3))) ?_ True.intro ?_
        · have hmk := ints_made x2 n (by omega); first | (go_simp; done) | (go_simp <;> first | exact ⟨rfl, rfl⟩ | rfl)
        simp only [List.set_cons_zero, List.set_cons_succ]
        have HP3 := hide (unhide HP2).make
        obtain ⟨rg, hrg⟩ : ∃ rg, rg = x2.heap.size := ⟨_, rfl⟩
        obtain ⟨x3, hx3⟩ : ∃ x3, x3 = (x2.alloc (.cells (icells .i64 n (fun _ => 0)) 3)) := ⟨_, rfl⟩
        rw [← hx3] at HP3 ⊢
        rw [← hrg] at HP3 ⊢
        clear hrg hx3
        refine held_take 6 13 rfl rfl (by kernel_rfl) (by kernel_rfl) (by kernel_rfl) (by rfl) hHeld noPanic_panic (v := ?_) (fun x hSx => ?_) ?_
        rotate_left 1
        · go_simp <;> with_reducible rfl
        simp only [List.set_cons_zero, List.set_cons_succ]
        refine held_two (i := 7) (j := 8) (by kernel_rfl) rfl rfl (fun K hK => ?_) (fun K hK => ?_)
        · refine held_go 7 14 hK rfl (by rfl) (v := .pointer (some ⟨x3.heap.size, 0, none⟩)) (w' := (x3.alloc (.cells #[.slice (some ⟨pg, 0, none⟩) n n, .slice (some ⟨rg, 0, none⟩) n n, .slice none 0 0, .slice none 0 0] 54))) ?_ True.intro ?_
          · have hmk := ints_made x3 n (by omega); first | (go_simp; done) | (go_simp <;> first | exact ⟨rfl, rfl⟩ | rfl)
          simp only [List.set_cons_zero, List.set_cons_succ]
          have HP4 := hide (unhide HP3).box
          obtain ⟨tb, htb⟩ : ∃ tb, tb = x3.heap.size := ⟨_, rfl⟩
          obtain ⟨x4, hx4⟩ : ∃ x4, x4 = (x3.alloc (.cells #[.slice (some ⟨pg, 0, none⟩) n n, .slice (some ⟨rg, 0, none⟩) n n, .slice none 0 0, .slice none 0 0] 54)) := ⟨_, rfl⟩
          rw [← hx4] at HP4 ⊢
          rw [← htb] at HP4 ⊢
          clear htb hx4
          refine held_one 8 3 (by kernel_rfl) rfl rfl (by rfl) (v := .pointer (some ⟨x4.heap.size, 0, none⟩)) (w' := (x4.alloc (.cells #[.pointer none] 49))) ?_ True.intro ?_
          · have hmk := ints_made x4 n (by omega); first | (go_simp; done) | (go_simp <;> first | exact ⟨rfl, rfl⟩ | rfl)
          simp only [List.set_cons_zero, List.set_cons_succ]
          have HP5 := hide (unhide HP4).var
          obtain ⟨tx, htx⟩ : ∃ tx, tx = x4.heap.size := ⟨_, rfl⟩
          obtain ⟨x5, hx5⟩ : ∃ x5, x5 = (x4.alloc (.cells #[.pointer none] 49)) := ⟨_, rfl⟩
          rw [← hx5] at HP5 ⊢
          rw [← htx] at HP5 ⊢
          clear htx hx5
          obtain ⟨fz, fc⟩ := (unhide HP5).cells
          refine held_skip 9 (by kernel_rfl) rfl rfl (by rfl) (w' := x5.setCell ⟨tx, 0, none⟩ (.pointer (some ⟨tb, 0, none⟩))) ?_ True.intro ?_
          · go_simp
          refine wpAnyH_done (by kernel_rfl) ?_ _
          refine NoPanic.normal ?_
          go_wp2_with fail
          go_meet
          exact (unhide HP5).done
        · refine held_go 8 3 hK rfl (by rfl) (v := .pointer (some ⟨x3.heap.size, 0, none⟩)) (w' := (x3.alloc (.cells #[.pointer none] 49))) ?_ True.intro ?_
          · have hmk := ints_made x3 n (by omega); first | (go_simp; done) | (go_simp <;> first | exact ⟨rfl, rfl⟩ | rfl)
          simp only [List.set_cons_zero, List.set_cons_succ]
          have HP4 := hide (unhide HP3).var
          obtain ⟨tx, htx⟩ : ∃ tx, tx = x3.heap.size := ⟨_, rfl⟩
          obtain ⟨x4, hx4⟩ : ∃ x4, x4 = (x3.alloc (.cells #[.pointer none] 49)) := ⟨_, rfl⟩
          rw [← hx4] at HP4 ⊢
          rw [← htx] at HP4 ⊢
          clear htx hx4
          refine held_one 7 14 (by kernel_rfl) rfl rfl (by rfl) (v := .pointer (some ⟨x4.heap.size, 0, none⟩)) (w' := (x4.alloc (.cells #[.slice (some ⟨pg, 0, none⟩) n n, .slice (some ⟨rg, 0, none⟩) n n, .slice none 0 0, .slice none 0 0] 54))) ?_ True.intro ?_
          · have hmk := ints_made x4 n (by omega); first | (go_simp; done) | (go_simp <;> first | exact ⟨rfl, rfl⟩ | rfl)
          simp only [List.set_cons_zero, List.set_cons_succ]
          have HP5 := hide (unhide HP4).box
          obtain ⟨tb, htb⟩ : ∃ tb, tb = x4.heap.size := ⟨_, rfl⟩
          obtain ⟨x5, hx5⟩ : ∃ x5, x5 = (x4.alloc (.cells #[.slice (some ⟨pg, 0, none⟩) n n, .slice (some ⟨rg, 0, none⟩) n n, .slice none 0 0, .slice none 0 0] 54)) := ⟨_, rfl⟩
          rw [← hx5] at HP5 ⊢
          rw [← htb] at HP5 ⊢
          clear htb hx5
          obtain ⟨fz, fc⟩ := (unhide HP5).cells
          refine held_skip 9 (by kernel_rfl) rfl rfl (by rfl) (w' := x5.setCell ⟨tx, 0, none⟩ (.pointer (some ⟨tb, 0, none⟩))) ?_ True.intro ?_
          · go_simp
          refine wpAnyH_done (by kernel_rfl) ?_ _
          refine NoPanic.normal ?_
          go_wp2_with fail
          go_meet
          exact (unhide HP5).done
      · refine held_go 8 3 hK rfl (by rfl) (v := .pointer (some ⟨x2.heap.size, 0, none⟩)) (w' := (x2.alloc (.cells #[.pointer none] 49))) ?_ True.intro ?_
        · have hmk := ints_made x2 n (by omega); first | (go_simp; done) | (go_simp <;> first | exact ⟨rfl, rfl⟩ | rfl)
        simp only [List.set_cons_zero, List.set_cons_succ]
        have HP3 := hide (unhide HP2).var
        obtain ⟨tx, htx⟩ : ∃ tx, tx = x2.heap.size := ⟨_, rfl⟩
        obtain ⟨x3, hx3⟩ : ∃ x3, x3 = (x2.alloc (.cells #[.pointer none] 49)) := ⟨_, rfl⟩
        rw [← hx3] at HP3 ⊢
        rw [← htx] at HP3 ⊢
        clear htx hx3
        refine held_one 5 12 (by kernel_rfl) rfl rfl (by rfl) (v := .slice (some ⟨x3.heap.size, 0, none⟩) n n) (w' := (x3.alloc (.cells (icells .i64 n (fun _ => 0)) 3))) ?_ True.intro ?_
        · have hmk := ints_made x3 n (by omega); first | (go_simp; done) | (go_simp <;> first | exact ⟨rfl, rfl⟩ | rfl)
        simp only [List.set_cons_zero, List.set_cons_succ]
        have HP4 := hide (unhide HP3).make
        obtain ⟨rg, hrg⟩ : ∃ rg, rg = x3.heap.size := ⟨_, rfl⟩
        obtain ⟨x4, hx4⟩ : ∃ x4, x4 = (x3.alloc (.cells (icells .i64 n (fun _ => 0)) 3)) := ⟨_, rfl⟩
        rw [← hx4] at HP4 ⊢
        rw [← hrg] at HP4 ⊢
        clear hrg hx4
        refine held_take 6 13 rfl rfl (by kernel_rfl) (by kernel_rfl) (by kernel_rfl) (by rfl) hHeld noPanic_panic (v := ?_) (fun x hSx => ?_) ?_
        rotate_left 1
        · go_simp <;> with_reducible rfl
        simp only [List.set_cons_zero, List.set_cons_succ]
        refine held_one 7 14 (by kernel_rfl) rfl rfl (by rfl) (v := .pointer (some ⟨x4.heap.size, 0, none⟩)) (w' := (x4.alloc (.cells #[.slice (some ⟨pg, 0, none⟩) n n, .slice (some ⟨rg, 0, none⟩) n n, .slice none 0 0, .slice none 0 0] 54))) ?_ True.intro ?_
        · have hmk := ints_made x4 n (by omega); first | (go_simp; done) | (go_simp <;> first | exact ⟨rfl, rfl⟩ | rfl)
        simp only [List.set_cons_zero, List.set_cons_succ]
        have HP5 := hide (unhide HP4).box
        obtain ⟨tb, htb⟩ : ∃ tb, tb = x4.heap.size := ⟨_, rfl⟩
        obtain ⟨x5, hx5⟩ : ∃ x5, x5 = (x4.alloc (.cells #[.slice (some ⟨pg, 0, none⟩) n n, .slice (some ⟨rg, 0, none⟩) n n, .slice none 0 0, .slice none 0 0] 54)) := ⟨_, rfl⟩
        rw [← hx5] at HP5 ⊢
        rw [← htb] at HP5 ⊢
        clear htb hx5
        obtain ⟨fz, fc⟩ := (unhide HP5).cells
        refine held_skip 9 (by kernel_rfl) rfl rfl (by rfl) (w' := x5.setCell ⟨tx, 0, none⟩ (.pointer (some ⟨tb, 0, none⟩))) ?_ True.intro ?_
        · go_simp
        refine wpAnyH_done (by kernel_rfl) ?_ _
        refine NoPanic.normal ?_
        go_wp2_with fail
        go_meet
        exact (unhide HP5).done
    · refine held_go 5 12 hK rfl (by rfl) (v := .slice (some ⟨x1.heap.size, 0, none⟩) n n) (w' := (x1.alloc (.cells (icells .i64 n (fun _ => 0)) 3))) ?_ True.intro ?_
      · have hmk := ints_made x1 n (by omega); first | (go_simp; done) | (go_simp <;> first | exact ⟨rfl, rfl⟩ | rfl)
      simp only [List.set_cons_zero, List.set_cons_succ]
      have HP2 := hide (unhide HP1).make
      obtain ⟨rg, hrg⟩ : ∃ rg, rg = x1.heap.size := ⟨_, rfl⟩
      obtain ⟨x2, hx2⟩ : ∃ x2, x2 = (x1.alloc (.cells (icells .i64 n (fun _ => 0)) 3)) := ⟨_, rfl⟩
      rw [← hx2] at HP2 ⊢
      rw [← hrg] at HP2 ⊢
      clear hrg hx2
      refine held_two (i := 2) (j := 8) (by kernel_rfl) rfl rfl (fun K hK => ?_) (fun K hK => ?_)
      · refine held_go_enter 2 9 hK rfl (by rfl) (by go_simp <;> exact ⟨rfl, rfl⟩) ?_
        refine (rising_ok n _ hn).mono ?_
        rintro e x3 ⟨rfl, hr1, hr2⟩
        refine ⟨_, rfl, True.intro, ?_⟩
        simp only [List.set_cons_zero, List.set_cons_succ]
        have HP3 := hide ((unhide HP2).rise hr2 hr1)
        clear hr1 hr2
        obtain ⟨pg, hpg⟩ : ∃ pg, pg = x2.heap.size := ⟨_, rfl⟩
        rw [← hpg] at HP3 ⊢
        clear hpg
        refine held_take 6 13 rfl rfl (by kernel_rfl) (by kernel_rfl) (by kernel_rfl) (by rfl) hHeld noPanic_panic (v := ?_) (fun x hSx => ?_) ?_
        rotate_left 1
        · go_simp <;> with_reducible rfl
        simp only [List.set_cons_zero, List.set_cons_succ]
        refine held_two (i := 7) (j := 8) (by kernel_rfl) rfl rfl (fun K hK => ?_) (fun K hK => ?_)
        · refine held_go 7 14 hK rfl (by rfl) (v := .pointer (some ⟨x3.heap.size, 0, none⟩)) (w' := (x3.alloc (.cells #[.slice (some ⟨pg, 0, none⟩) n n, .slice (some ⟨rg, 0, none⟩) n n, .slice none 0 0, .slice none 0 0] 54))) ?_ True.intro ?_
          · have hmk := ints_made x3 n (by omega); first | (go_simp; done) | (go_simp <;> first | exact ⟨rfl, rfl⟩ | rfl)
          simp only [List.set_cons_zero, List.set_cons_succ]
          have HP4 := hide (unhide HP3).box
          obtain ⟨tb, htb⟩ : ∃ tb, tb = x3.heap.size := ⟨_, rfl⟩
          obtain ⟨x4, hx4⟩ : ∃ x4, x4 = (x3.alloc (.cells #[.slice (some ⟨pg, 0, none⟩) n n, .slice (some ⟨rg, 0, none⟩) n n, .slice none 0 0, .slice none 0 0] 54)) := ⟨_, rfl⟩
          rw [← hx4] at HP4 ⊢
          rw [← htb] at HP4 ⊢
          clear htb hx4
          refine held_one 8 3 (by kernel_rfl) rfl rfl (by rfl) (v := .pointer (some ⟨x4.heap.size, 0, none⟩)) (w' := (x4.alloc (.cells #[.pointer none] 49))) ?_ True.intro ?_
          · have hmk := ints_made x4 n (by omega); first | (go_simp; done) | (go_simp <;> first | exact ⟨rfl, rfl⟩ | rfl)
          simp only [List.set_cons_zero, List.set_cons_succ]
          have HP5 := hide (unhide HP4).var
          obtain ⟨tx, htx⟩ : ∃ tx, tx = x4.heap.size := ⟨_, rfl⟩
          obtain ⟨x5, hx5⟩ : ∃ x5, x5 = (x4.alloc (.cells #[.pointer none] 49)) := ⟨_, rfl⟩
          rw [← hx5] at HP5 ⊢
          rw [← htx] at HP5 ⊢
          clear htx hx5
          obtain ⟨fz, fc⟩ := (unhide HP5).cells
          refine held_skip 9 (by kernel_rfl) rfl rfl (by rfl) (w' := x5.setCell ⟨tx, 0, none⟩ (.pointer (some ⟨tb, 0, none⟩))) ?_ True.intro ?_
          · go_simp
          refine wpAnyH_done (by kernel_rfl) ?_ _
          refine NoPanic.normal ?_
          go_wp2_with fail
          go_meet
          exact (unhide HP5).done
        · refine held_go 8 3 hK rfl (by rfl) (v := .pointer (some ⟨x3.heap.size, 0, none⟩)) (w' := (x3.alloc (.cells #[.pointer none] 49))) ?_ True.intro ?_
          · have hmk := ints_made x3 n (by omega); first | (go_simp; done) | (go_simp <;> first | exact ⟨rfl, rfl⟩ | rfl)
          simp only [List.set_cons_zero, List.set_cons_succ]
          have HP4 := hide (unhide HP3).var
          obtain ⟨tx, htx⟩ : ∃ tx, tx = x3.heap.size := ⟨_, rfl⟩
          obtain ⟨x4, hx4⟩ : ∃ x4, x4 = (x3.alloc (.cells #[.pointer none] 49)) := ⟨_, rfl⟩
          rw [← hx4] at HP4 ⊢
          rw [← htx] at HP4 ⊢
          clear htx hx4
          refine held_one 7 14 (by kernel_rfl) rfl rfl (by rfl) (v := .pointer (some ⟨x4.heap.size, 0, none⟩)) (w' := (x4.alloc (.cells #[.slice (some ⟨pg, 0, none⟩) n n, .slice (some ⟨rg, 0, none⟩) n n, .slice none 0 0, .slice none 0 0] 54))) ?_ True.intro ?_
          · have hmk := ints_made x4 n (by omega); first | (go_simp; done) | (go_simp <;> first | exact ⟨rfl, rfl⟩ | rfl)
          simp only [List.set_cons_zero, List.set_cons_succ]
          have HP5 := hide (unhide HP4).box
          obtain ⟨tb, htb⟩ : ∃ tb, tb = x4.heap.size := ⟨_, rfl⟩
          obtain ⟨x5, hx5⟩ : ∃ x5, x5 = (x4.alloc (.cells #[.slice (some ⟨pg, 0, none⟩) n n, .slice (some ⟨rg, 0, none⟩) n n, .slice none 0 0, .slice none 0 0] 54)) := ⟨_, rfl⟩
          rw [← hx5] at HP5 ⊢
          rw [← htb] at HP5 ⊢
          clear htb hx5
          obtain ⟨fz, fc⟩ := (unhide HP5).cells
          refine held_skip 9 (by kernel_rfl) rfl rfl (by rfl) (w' := x5.setCell ⟨tx, 0, none⟩ (.pointer (some ⟨tb, 0, none⟩))) ?_ True.intro ?_
          · go_simp
          refine wpAnyH_done (by kernel_rfl) ?_ _
          refine NoPanic.normal ?_
          go_wp2_with fail
          go_meet
          exact (unhide HP5).done
      · refine held_go 8 3 hK rfl (by rfl) (v := .pointer (some ⟨x2.heap.size, 0, none⟩)) (w' := (x2.alloc (.cells #[.pointer none] 49))) ?_ True.intro ?_
        · have hmk := ints_made x2 n (by omega); first | (go_simp; done) | (go_simp <;> first | exact ⟨rfl, rfl⟩ | rfl)
        simp only [List.set_cons_zero, List.set_cons_succ]
        have HP3 := hide (unhide HP2).var
        obtain ⟨tx, htx⟩ : ∃ tx, tx = x2.heap.size := ⟨_, rfl⟩
        obtain ⟨x3, hx3⟩ : ∃ x3, x3 = (x2.alloc (.cells #[.pointer none] 49)) := ⟨_, rfl⟩
        rw [← hx3] at HP3 ⊢
        rw [← htx] at HP3 ⊢
        clear htx hx3
        refine held_enter 2 9 (by kernel_rfl) rfl rfl (by rfl) (by go_simp <;> exact ⟨rfl, rfl⟩) ?_
        refine (rising_ok n _ hn).mono ?_
        rintro e x4 ⟨rfl, hr1, hr2⟩
        refine ⟨_, rfl, True.intro, ?_⟩
        simp only [List.set_cons_zero, List.set_cons_succ]
        have HP4 := hide ((unhide HP3).rise hr2 hr1)
        clear hr1 hr2
        obtain ⟨pg, hpg⟩ : ∃ pg, pg = x3.heap.size := ⟨_, rfl⟩
        rw [← hpg] at HP4 ⊢
        clear hpg
        refine held_take 6 13 rfl rfl (by kernel_rfl) (by kernel_rfl) (by kernel_rfl) (by rfl) hHeld noPanic_panic (v := ?_) (fun x hSx => ?_) ?_
        rotate_left 1
        · go_simp <;> with_reducible rfl
        simp only [List.set_cons_zero, List.set_cons_succ]
        refine held_one 7 14 (by kernel_rfl) rfl rfl (by rfl) (v := .pointer (some ⟨x4.heap.size, 0, none⟩)) (w' := (x4.alloc (.cells #[.slice (some ⟨pg, 0, none⟩) n n, .slice (some ⟨rg, 0, none⟩) n n, .slice none 0 0, .slice none 0 0] 54))) ?_ True.intro ?_
        · have hmk := ints_made x4 n (by omega); first | (go_simp; done) | (go_simp <;> first | exact ⟨rfl, rfl⟩ | rfl)
        simp only [List.set_cons_zero, List.set_cons_succ]
        have HP5 := hide (unhide HP4).box
        obtain ⟨tb, htb⟩ : ∃ tb, tb = x4.heap.size := ⟨_, rfl⟩
        obtain ⟨x5, hx5⟩ : ∃ x5, x5 = (x4.alloc (.cells #[.slice (some ⟨pg, 0, none⟩) n n, .slice (some ⟨rg, 0, none⟩) n n, .slice none 0 0, .slice none 0 0] 54)) := ⟨_, rfl⟩
        rw [← hx5] at HP5 ⊢
        rw [← htb] at HP5 ⊢
        clear htb hx5
        obtain ⟨fz, fc⟩ := (unhide HP5).cells
        refine held_skip 9 (by kernel_rfl) rfl rfl (by rfl) (w' := x5.setCell ⟨tx, 0, none⟩ (.pointer (some ⟨tb, 0, none⟩))) ?_ True.intro ?_
        · go_simp
        refine wpAnyH_done (by kernel_rfl) ?_ _
        refine NoPanic.normal ?_
        go_wp2_with fail
        go_meet
        exact (unhide HP5).done
    · refine held_go 8 3 hK rfl (by rfl) (v := .pointer (some ⟨x1.heap.size, 0, none⟩)) (w' := (x1.alloc (.cells #[.pointer none] 49))) ?_ True.intro ?_
      · have hmk := ints_made x1 n (by omega); first | (go_simp; done) | (go_simp <;> first | exact ⟨rfl, rfl⟩ | rfl)
      simp only [List.set_cons_zero, List.set_cons_succ]
      have HP2 := hide (unhide HP1).var
      obtain ⟨tx, htx⟩ : ∃ tx, tx = x1.heap.size := ⟨_, rfl⟩
      obtain ⟨x2, hx2⟩ : ∃ x2, x2 = (x1.alloc (.cells #[.pointer none] 49)) := ⟨_, rfl⟩
      rw [← hx2] at HP2 ⊢
      rw [← htx] at HP2 ⊢
      clear htx hx2
      refine held_two (i := 2) (j := 5) (by kernel_rfl) rfl rfl (fun K hK => ?_) (fun K hK => ?_)
      · refine held_go_enter 2 9 hK rfl (by rfl) (by go_simp <;> exact ⟨rfl, rfl⟩) ?_
        refine (rising_ok n _ hn).mono ?_
        rintro e x3 ⟨rfl, hr1, hr2⟩
        refine ⟨_, rfl, True.intro, ?_⟩
        simp only [List.set_cons_zero, List.set_cons_succ]
        have HP3 := hide ((unhide HP2).rise hr2 hr1)
        clear hr1 hr2
        obtain ⟨pg, hpg⟩ : ∃ pg, pg = x2.heap.size := ⟨_, rfl⟩
        rw [← hpg] at HP3 ⊢
        clear hpg
        refine held_one 5 12 (by kernel_rfl) rfl rfl (by rfl) (v := .slice (some ⟨x3.heap.size, 0, none⟩) n n) (w' := (x3.alloc (.cells (icells .i64 n (fun _ => 0)) 3))) ?_ True.intro ?_
        · have hmk := ints_made x3 n (by omega); first | (go_simp; done) | (go_simp <;> first | exact ⟨rfl, rfl⟩ | rfl)
        simp only [List.set_cons_zero, List.set_cons_succ]
        have HP4 := hide (unhide HP3).make
        obtain ⟨rg, hrg⟩ : ∃ rg, rg = x3.heap.size := ⟨_, rfl⟩
        obtain ⟨x4, hx4⟩ : ∃ x4, x4 = (x3.alloc (.cells (icells .i64 n (fun _ => 0)) 3)) := ⟨_, rfl⟩
        rw [← hx4] at HP4 ⊢
        rw [← hrg] at HP4 ⊢
        clear hrg hx4
        refine held_take 6 13 rfl rfl (by kernel_rfl) (by kernel_rfl) (by kernel_rfl) (by rfl) hHeld noPanic_panic (v := ?_) (fun x hSx => ?_) ?_
        rotate_left 1
        · go_simp <;> with_reducible rfl
        simp only [List.set_cons_zero, List.set_cons_succ]
        refine held_one 7 14 (by kernel_rfl) rfl rfl (by rfl) (v := .pointer (some ⟨x4.heap.size, 0, none⟩)) (w' := (x4.alloc (.cells #[.slice (some ⟨pg, 0, none⟩) n n, .slice (some ⟨rg, 0, none⟩) n n, .slice none 0 0, .slice none 0 0] 54))) ?_ True.intro ?_
        · have hmk := ints_made x4 n (by omega); first | (go_simp; done) | (go_simp <;> first | exact ⟨rfl, rfl⟩ | rfl)
        simp only [List.set_cons_zero, List.set_cons_succ]
        have HP5 := hide (unhide HP4).box
        obtain ⟨tb, htb⟩ : ∃ tb, tb = x4.heap.size := ⟨_, rfl⟩
        obtain ⟨x5, hx5⟩ : ∃ x5, x5 = (x4.alloc (.cells #[.slice (some ⟨pg, 0, none⟩) n n, .slice (some ⟨rg, 0, none⟩) n n, .slice none 0 0, .slice none 0 0] 54)) := ⟨_, rfl⟩
        rw [← hx5] at HP5 ⊢
        rw [← htb] at HP5 ⊢
        clear htb hx5
        obtain ⟨fz, fc⟩ := (unhide HP5).cells
        refine held_skip 9 (by kernel_rfl) rfl rfl (by rfl) (w' := x5.setCell ⟨tx, 0, none⟩ (.pointer (some ⟨tb, 0, none⟩))) ?_ True.intro ?_
        · go_simp
        refine wpAnyH_done (by kernel_rfl) ?_ _
        refine NoPanic.normal ?_
        go_wp2_with fail
        go_meet
        exact (unhide HP5).done
      · refine held_go 5 12 hK rfl (by rfl) (v := .slice (some ⟨x2.heap.size, 0, none⟩) n n) (w' := (x2.alloc (.cells (icells .i64 n (fun _ => 0)) 3))) ?_ True.intro ?_
        · have hmk := ints_made x2 n (by omega); first | (go_simp; done) | (go_simp <;> first | exact ⟨rfl, rfl⟩ | rfl)
        simp only [List.set_cons_zero, List.set_cons_succ]
        have HP3 := hide (unhide HP2).make
        obtain ⟨rg, hrg⟩ : ∃ rg, rg = x2.heap.size := ⟨_, rfl⟩
        obtain ⟨x3, hx3⟩ : ∃ x3, x3 = (x2.alloc (.cells (icells .i64 n (fun _ => 0)) 3)) := ⟨_, rfl⟩
        rw [← hx3] at HP3 ⊢
        rw [← hrg] at HP3 ⊢
        clear hrg hx3
        refine held_enter 2 9 (by kernel_rfl) rfl rfl (by rfl) (by go_simp <;> exact ⟨rfl, rfl⟩) ?_
        refine (rising_ok n _ hn).mono ?_
        rintro e x4 ⟨rfl, hr1, hr2⟩
        refine ⟨_, rfl, True.intro, ?_⟩
        simp only [List.set_cons_zero, List.set_cons_succ]
        have HP4 := hide ((unhide HP3).rise hr2 hr1)
        clear hr1 hr2
        obtain ⟨pg, hpg⟩ : ∃ pg, pg = x3.heap.size := ⟨_, rfl⟩
        rw [← hpg] at HP4 ⊢
        clear hpg
        refine held_take 6 13 rfl rfl (by kernel_rfl) (by kernel_rfl) (by kernel_rfl) (by rfl) hHeld noPanic_panic (v := ?_) (fun x hSx => ?_) ?_
        rotate_left 1
        · go_simp <;> with_reducible rfl
        simp only [List.set_cons_zero, List.set_cons_succ]
        refine held_one 7 14 (by kernel_rfl) rfl rfl (by rfl) (v := .pointer (some ⟨x4.heap.size, 0, none⟩)) (w' := (x4.alloc (.cells #[.slice (some ⟨pg, 0, none⟩) n n, .slice (some ⟨rg, 0, none⟩) n n, .slice none 0 0, .slice none 0 0] 54))) ?_ True.intro ?_
        · have hmk := ints_made x4 n (by omega); first | (go_simp; done) | (go_simp <;> first | exact ⟨rfl, rfl⟩ | rfl)
        simp only [List.set_cons_zero, List.set_cons_succ]
        have HP5 := hide (unhide HP4).box
        obtain ⟨tb, htb⟩ : ∃ tb, tb = x4.heap.size := ⟨_, rfl⟩
        obtain ⟨x5, hx5⟩ : ∃ x5, x5 = (x4.alloc (.cells #[.slice (some ⟨pg, 0, none⟩) n n, .slice (some ⟨rg, 0, none⟩) n n, .slice none 0 0, .slice none 0 0] 54)) := ⟨_, rfl⟩
        rw [← hx5] at HP5 ⊢
        rw [← htb] at HP5 ⊢
        clear htb hx5
        obtain ⟨fz, fc⟩ := (unhide HP5).cells
        refine held_skip 9 (by kernel_rfl) rfl rfl (by rfl) (w' := x5.setCell ⟨tx, 0, none⟩ (.pointer (some ⟨tb, 0, none⟩))) ?_ True.intro ?_
        · go_simp
        refine wpAnyH_done (by kernel_rfl) ?_ _
        refine NoPanic.normal ?_
        go_wp2_with fail
        go_meet
        exact (unhide HP5).done
  case rest =>
    obtain ⟨tx, tb, pg, rg, rfl, hH, hx, hT, hbl⟩ := hcut
    obtain ⟨H, hHH⟩ : ∃ H, H = w.heap.size := ⟨_, rfl⟩
    have HHH := hide hHH
    rw [← hHH] at hH hT hbl
    have HX0 := hide hx
    have HT0 : Hid (TAt H wc tb pg rg n id (fun i => if i < 0 then key b i 4 else 0) (.slice none 0 0) (.slice none 0 0) [] []) := hide (by
      have e : (fun i => if i < 0 then key b i 4 else 0) = fun _ => 0 := by funext i; simp
      rw [e]; exact hT)
    have HB0 := hide hbl
    clear hx hT hbl hHH
    go_wp2_with fail
    go_loopg [17] n (fun gk d ws => ∃ (k : Nat), gk = n - k ∧ k ≤ n ∧ d = .int .i64 (k : Int) ∧ Hid (TAt H ws tb pg rg n id (fun i => if i < k then key b i 4 else 0) (.slice none 0 0) (.slice none 0 0) [] []) ∧ Hid (ws.heap[tx]? = some (.cells #[.pointer (some ⟨tb, 0, none⟩)] 49 (0, 0))) ∧ Hid (Below H w ws))
    case atStart => exact ⟨0, by omega, by omega, rfl, HT0, HX0, HB0⟩
    case round =>
      clear HT0 HX0 HB0
      obtain ⟨k, rfl, hk, rfl, HT0, HX0, HB0⟩ := hrel
      rename World => wk
      by_cases hkl : k < n
      · have tk : (k : Int) < (n : Int) := by omega
        go_wp2_with fail
        have HT1 : Hid (TAt H wk tb pg rg n id (fun i => if i < k then key b i 4 else if i = k then key b k 0 else 0) (.slice none 0 0) (.slice none 0 0) [] []) := hide (by
          have e : (fun i => if i < k then key b i 4 else if i = k then key b k 0 else 0) = fun i => if i < k then key b i 4 else 0 := by funext i; simp [key]
          rw [e]; exact unhide HT0)
        clear HT0
        go_loopg [20] 4 (fun gk d ws => ∃ (j : Nat), gk = 4 - j ∧ j ≤ 4 ∧ d = .int .i64 (j : Int) ∧ Hid (TAt H ws tb pg rg n id (fun i => if i < k then key b i 4 else if i = k then key b k j else 0) (.slice none 0 0) (.slice none 0 0) [] []) ∧ Hid (ws.heap[tx]? = some (.cells #[.pointer (some ⟨tb, 0, none⟩)] 49 (0, 0))) ∧ Hid (Below H w ws))
        case atStart => exact ⟨0, by omega, by omega, rfl, HT1, HX0, HB0⟩
        case round =>
          clear HT1 HX0 HB0
          obtain ⟨j, rfl, hj, rfl, HT1, HX0, HB0⟩ := hrel
          rename World => wj
          by_cases hjl : j < 4
          · have tj : (j : Int) < 4 := by omega
            have c0 : wj.cell? ⟨tx, 0, none⟩ = some (.pointer (some ⟨tb, 0, none⟩)) := by simp [World.cell?, unhide HX0]
            have c1 := (unhide HT1).c1
            have c2 := (unhide HT1).rk.cell k hkl
            have c3 := (unhide HT1).rk.free k
            rw [if_neg (Nat.lt_irrefl k), if_pos rfl] at c2
            obtain ⟨m, hm⟩ : ∃ m, m = (k + j) % n := ⟨_, rfl⟩
            have hmn : m < n := by rw [hm]; exact Nat.mod_lt _ (by omega)
            have t1 : ((k : Int) + (j : Int)).tmod (n : Int) = (m : Int) := by rw [hm]; exact tmod_nat (k + j) n
            obtain ⟨gB, oB, rfl, c4⟩ := unhide HC m (by rw [← unhide HNN]; exact hmn)
            have c5 : wj.cell? ⟨gB, oB + m, none⟩ = some (.int .u8 ((b.getD m 0 : Nat) : Int)) := by rw [(unhide HB0).cell (by rw [unhide HHH]; exact cell_lt c4)]; exact c4
            have hz := unhide HBB (b.getD m 0) (getD_mem (by rw [← unhide HNN]; exact hmn))
            have HKEY : Hid (key b k (j + 1) = key b k j * 256 + b.getD m 0) := hide (by show key b k j * 256 + tw b k j = _; unfold tw; rw [← unhide HNN, hm])
            have hks := key_small (unhide HBB) k j
            have hks2 : key b k j < 16777216 := Nat.lt_of_lt_of_le hks (by rw [show (16777216 : Nat) = 256 ^ 3 from rfl]; exact Nat.pow_le_pow_right (by omega) (by omega))
            generalize b.getD m 0 = z at *
            obtain ⟨y, hy⟩ : ∃ y, y = key b k j := ⟨_, rfl⟩
            rw [← hy] at c2 hks2 HKEY
            have hn0 : ¬ (n : Int) = 0 := by omega
            have hn0' : ((n : Int) == 0) = false := by simp; omega
            have hmi : (m : Int) < (n : Int) := by omega
            clear hm c4 hks hy
            go_wp2_with fail
            go_region
            rw [or_i64 y z hks2 hz, ← unhide HKEY]
            go_wp2_with fail
            go_roundg (4 - (j + 1))
            case measure => omega
            case rel =>
              refine ⟨j + 1, rfl, by omega, by go_num, hide ?_, hide ?_, hide ?_⟩
              · have h1 := ((unhide HT1).drewN 1).setRank k (key b k (j + 1))
                have e : (upd (fun i => if i < k then key b i 4 else if i = k then key b k j else 0) k (key b k (j + 1))) = fun i => if i < k then key b i 4 else if i = k then key b k (j + 1) else 0 := by
                  funext i
                  unfold upd
                  by_cases e1 : i = k
                  · rw [if_pos e1, if_neg (by omega), if_pos e1]
                  · rw [if_neg e1]
                    dsimp only
                    rw [if_neg e1, if_neg e1]
                rw [e] at h1
                exact h1
              · show (wj.setCell ⟨rg, k, none⟩ (.int .i64 ((key b k (j + 1) : Nat) : Int))).heap[tx]? = _
                rw [heap_setCell_other _ _ _ _ ?_]
                · exact unhide HX0
                · show tx ≠ rg
                  rintro rfl
                  have h1 := (unhide HT1).rk
                  unfold IntsAt at h1
                  rw [unhide HX0] at h1
                  injection h1 with h1
                  injection h1 with _ h1
                  cases h1
              · exact (drewN_below (unhide HB0) 1).setCell (unhide HT1).ht.2.2 _
          · obtain rfl : j = 4 := by omega
            go_wp2_with fail
            go_roundg (n - (k + 1))
            case measure => omega
            case rel =>
              refine ⟨k + 1, rfl, by omega, by go_num, hide ?_, HX0, HB0⟩
              have e : (fun i => if i < k then key b i 4 else if i = k then key b k 4 else 0) = fun i => if i < k + 1 then key b i 4 else 0 := by
                funext i
                by_cases e1 : i < k
                · rw [if_pos e1, if_pos (by omega)]
                · rw [if_neg e1]
                  by_cases e2 : i = k
                  · rw [if_pos e2, if_pos (by omega), e2]
                  · rw [if_neg e2, if_neg (by omega)]
              rw [← e]
              exact unhide HT1
      · obtain rfl : n = k := by omega
        have tk : ¬ (n : Int) < (n : Int) := by omega
        obtain ⟨F, hF⟩ : ∃ F, F = fun x => key b x 4 := ⟨_, rfl⟩
        have HFF := hide hF
        have HFS : Hid (∀ x, F x < 4294967296) := hide fun x => by rw [hF]; exact key_small (unhide HBB) x 4
        have HT2 : Hid (TAt H wk tb pg rg n (fun r => (rad F n 0).getD r 0) F (.slice none 0 0) (.slice none 0 0) [] []) := hide (by
          have h1 := unhide HT0
          exact ⟨h1.blk, h1.pl.congr (fun i hi => by simp [rad, List.getD_eq_getElem?_getD, List.getElem?_range hi]), h1.rk.congr (fun i hi => by rw [if_pos hi, hF]), h1.op, h1.pc, h1.d1, h1.d2, h1.ht⟩)
        clear HT0 hF
        go_wp2_with fail
        go_loopg [50] 4 (fun gk d ws => ∃ (i pi : Nat), gk = 4 - i ∧ i ≤ 4 ∧ d = .int .i64 (i : Int) ∧ Hid (TAt H ws tb pi rg n (fun r => (rad F n i).getD r 0) F (.slice none 0 0) (.slice none 0 0) [] []) ∧ Hid (ws.heap[tx]? = some (.cells #[.pointer (some ⟨tb, 0, none⟩)] 49 (0, 0))) ∧ Hid (Below H w ws))
        case atStart => exact ⟨0, pg, rfl, by omega, rfl, HT2, HX0, HB0⟩
        case round =>
          clear HT2 HX0 HB0
          obtain ⟨i, pi, rfl, hi4, rfl, HT2, HX0, HB0⟩ := hrel
          rename World => wi
          by_cases hil : i < 4
          · have ti : (i : Int) < 4 := by omega
            have z0 : (wi.alloc (.cells #[.int .i64 0] 3)).cell? ⟨wi.heap.size, 0, none⟩ = some (.int .i64 0) := by simp only [World.cell?, heap_alloc_new]; rfl
            have z2 : (wi.alloc (.cells #[.int .i64 0] 3)).frozen? ⟨wi.heap.size, 0, none⟩ = false := by simp only [World.frozen?, heap_alloc_new]; simp
            go_upto_region 14 with fail
            obtain ⟨ix, hix⟩ : ∃ ix, ix = wi.heap.size := ⟨_, rfl⟩
            obtain ⟨W3, hW3⟩ : ∃ W3, W3 = wi.alloc (.cells #[.int .i64 (i : Int)] 3) := ⟨_, rfl⟩
            have HT3 : Hid (TAt H W3 tb pi rg n (fun r => (rad F n i).getD r 0) F (.slice none 0 0) (.slice none 0 0) [] []) := hide (by rw [hW3]; exact (unhide HT2).alloc _)
            have HI3 : Hid (W3.cell? ⟨ix, 0, none⟩ = some (.int .i64 (i : Int))) := hide (by rw [hW3, hix]; simp only [World.cell?, heap_alloc_new]; rfl)
            have HXB3 : Hid (W3.heap[tx]? = some (.cells #[.pointer (some ⟨tb, 0, none⟩)] 49 (0, 0))) := hide (by rw [hW3, Below.heap_alloc _ _ _ (heap_lt (unhide HX0))]; exact unhide HX0)
            have HX3 : Hid (W3.cell? ⟨tx, 0, none⟩ = some (.pointer (some ⟨tb, 0, none⟩))) := hide (by simp [World.cell?, unhide HXB3])
            have HB3 : Hid (Below H w W3) := hide (by rw [hW3]; exact (unhide HB0).alloc (by have := (unhide HB0).size; rw [← unhide HHH] at this; exact this) _)
            rw [← hW3, ← hix]
            clear hW3 hix z0 z2 HT2 HX0 HB0
            refine wp_region_noPanic ?_
            refine wp_region_held_drew (S := fun x => x.cell? ⟨tx, 0, none⟩ = some (.pointer (some ⟨tb, 0, none⟩))) (by kernel_rfl) (unhide HX3) (fun hHeld => ?_)
            obtain ⟨x1, hx1⟩ : ∃ x1, x1 = W3.drew := ⟨_, rfl⟩
            show wpAnyH _ _ _ _ _ _ _ _ W3.drew
            rw [← hx1] at hHeld ⊢
            have HT4 : Hid (TAt H x1 tb pi rg n (fun r => (rad F n i).getD r 0) F (.slice none 0 0) (.slice none 0 0) [] []) := hide (by rw [hx1]; exact (unhide HT3).drewN 1)
            have HI4 : Hid (x1.cell? ⟨ix, 0, none⟩ = some (.int .i64 (i : Int))) := hide (by rw [hx1]; exact unhide HI3)
            have HX4 : Hid (x1.heap[tx]? = some (.cells #[.pointer (some ⟨tb, 0, none⟩)] 49 (0, 0))) := hide (by rw [hx1]; exact unhide HXB3)
            have HB4 : Hid (Below H w x1) := hide (by rw [hx1]; exact drewN_below (unhide HB3) 1)
            clear hx1 HT3 HI3 HB3 HX3 HXB3
            refine held_take 0 53 rfl rfl (by kernel_rfl) (by kernel_rfl) (by kernel_rfl) (by rfl) hHeld noPanic_panic (v := ?_) (fun x hSx => ?_) ?_
            rotate_left 1
            · have q0 := hSx; clear hSx; go_simp <;> with_reducible rfl
            simp only [List.set_cons_zero, List.set_cons_succ]
            refine held_take 1 54 rfl rfl (by kernel_rfl) (by kernel_rfl) (by kernel_rfl) (by rfl) hHeld noPanic_panic (v := ?_) (fun x hSx => ?_) ?_
            rotate_left 1
            · have q0 := hSx; clear hSx; go_simp <;> with_reducible rfl
            simp only [List.set_cons_zero, List.set_cons_succ]
            refine held_take 2 55 rfl rfl (by kernel_rfl) (by kernel_rfl) (by kernel_rfl) (by rfl) hHeld noPanic_panic (v := ?_) (fun x hSx => ?_) ?_
            rotate_left 1
            · go_simp <;> with_reducible rfl
            simp only [List.set_cons_zero, List.set_cons_succ]
            refine held_take 3 56 rfl rfl (by kernel_rfl) (by kernel_rfl) (by kernel_rfl) (by rfl) hHeld noPanic_panic (v := ?_) (fun x hSx => ?_) ?_
            rotate_left 1
            · go_simp <;> with_reducible rfl
            simp only [List.set_cons_zero, List.set_cons_succ]
            refine held_take 5 58 rfl rfl (by kernel_rfl) (by kernel_rfl) (by kernel_rfl) (by rfl) hHeld noPanic_panic (v := ?_) (fun x hSx => ?_) ?_
            rotate_left 1
            · go_simp <;> with_reducible rfl
            simp only [List.set_cons_zero, List.set_cons_succ]
            refine held_one 4 57 (by kernel_rfl) rfl rfl (by rfl) (v := .slice (some ⟨pi, 0, none⟩) n n) (w' := x1) ?_ hHeld ?_
            · have q0 := (unhide HT4).c0; go_simp
            simp only [List.set_cons_zero, List.set_cons_succ]
            refine held_enter 6 59 (by kernel_rfl) rfl rfl (by rfl) (by go_simp <;> exact ⟨rfl, rfl⟩) ?_
            refine (sort_ok (rad F n i) (dig F i) 26 pi n #[.pointer (some ⟨tx, 0, none⟩), .pointer (some ⟨ix, 0, none⟩)] x1 (rad_len F n i) hn (rad_nodup F n i) (unhide HT4).pl ⟨Try.call26, fun x W hW hx => ?_, fun x _ => dig_small F i x⟩).mono ?_
            · have hxn : x < n := List.mem_range.1 ((rad_perm F n i).mem_iff.1 hx)
              have h1 := digit_ok x i n F tx ix tb rg W (by rw [hW.cell (cell_lt hHeld)]; exact hHeld) (by rw [hW.cell (cell_lt (unhide HI4))]; exact unhide HI4) ⟨by rw [hW.cell (cell_lt (unhide HT4).c1)]; exact (unhide HT4).c1, (unhide HT4).rk.stays hW (unhide HT4).rk.lt⟩ hxn hil (unhide HFS x)
              simpa using h1
            rintro e x2 ⟨g2, rfl, hg2, hi2, hb2⟩
            refine ⟨_, rfl, by rw [hb2.cell (cell_lt hHeld)]; exact hHeld, ?_⟩
            simp only [List.set_cons_zero, List.set_cons_succ]
            have hHeld2 : x2.cell? ⟨tx, 0, none⟩ = some (.pointer (some ⟨tb, 0, none⟩)) := by rw [hb2.cell (cell_lt hHeld)]; exact hHeld
            have hT5 : TAt H x2 tb pi rg n (fun r => (rad F n i).getD r 0) F (.slice none 0 0) (.slice none 0 0) [] [] := (unhide HT4).keep fun k hk _ => hb2.block k hk
            have hx5 : x2.heap[tx]? = some (.cells #[.pointer (some ⟨tb, 0, none⟩)] 49 (0, 0)) := by rw [hb2.block tx (heap_lt (unhide HX4))]; exact unhide HX4
            have hH2 : H ≤ x1.heap.size := by have := (unhide HB4).size; rw [← unhide HHH] at this; exact this
            have hgr : g2 ≠ rg := by have := (unhide HT4).rk.lt; omega
            have HT6 := hide (hT5.setL hi2 hgr (by omega))
            have htt : tx ≠ tb := by rintro rfl; have h1 := hT5.blk; rw [hx5] at h1; injection h1 with h1; injection h1 with _ h1; cases h1
            have HX6 : Hid ((x2.setCell ⟨tb, 0, none⟩ (.slice (some ⟨g2, 0, none⟩) n n)).heap[tx]? = some (.cells #[.pointer (some ⟨tb, 0, none⟩)] 49 (0, 0))) := hide (by rw [heap_setCell_other _ _ _ _ (by exact htt)]; exact hx5)
            have HB6 : Hid (Below H w (x2.setCell ⟨tb, 0, none⟩ (.slice (some ⟨g2, 0, none⟩) n n))) := hide (((unhide HB4).trans (hb2.mono hH2)).setCell (unhide HT4).ht.1 _)
            have s1 := hT5.c0
            have s2 := hT5.fz 0
            have HHE : Hid ((x2.setCell ⟨tb, 0, none⟩ (.slice (some ⟨g2, 0, none⟩) n n)).cell? ⟨tx, 0, none⟩ = some (.pointer (some ⟨tb, 0, none⟩))) := hide (by simp [World.cell?, unhide HX6])
            clear hi2 hb2 hT5 hx5 hHeld hH2
            have hHeld := hHeld2
            refine held_take 7 60 rfl rfl (by kernel_rfl) (by kernel_rfl) (by kernel_rfl) (by rfl) hHeld noPanic_panic (v := ?_) (fun x hSx => ?_) ?_
            rotate_left 1
            · go_simp <;> with_reducible rfl
            simp only [List.set_cons_zero, List.set_cons_succ]
            refine held_take 8 61 rfl rfl (by kernel_rfl) (by kernel_rfl) (by kernel_rfl) (by rfl) hHeld noPanic_panic (v := ?_) (fun x hSx => ?_) ?_
            rotate_left 1
            · go_simp <;> with_reducible rfl
            simp only [List.set_cons_zero, List.set_cons_succ]
            refine held_skip 9 (by kernel_rfl) rfl rfl (by rfl) (w' := x2.setCell ⟨tb, 0, none⟩ (.slice (some ⟨g2, 0, none⟩) n n)) ?_ (unhide HHE) ?_
            · go_simp
            refine wpAnyH_done (by kernel_rfl) ?_ _
            refine NoPanic.normal ?_
            clear hHeld hHeld2 s1 s2
            go_wp2_with fail
            go_roundg (4 - (i + 1))
            case measure => omega
            case rel => exact ⟨i + 1, g2, rfl, by omega, by go_num, hide (unhide HT6), HX6, HB6⟩
          · obtain rfl : i = 4 := by omega
            have c0 : wi.cell? ⟨tx, 0, none⟩ = some (.pointer (some ⟨tb, 0, none⟩)) := by simp [World.cell?, unhide HX0]
            obtain ⟨q1, q2, q3⟩ := perm_rows (rad_perm F n 4)
            have HQ1 := hide q1
            have HQ2 := hide q2
            clear q1 q2 q3
            go_wp2_with fail
            have hTT := unhide HT2
            refine (part_ok H wi tb pi rg n (fun r => (rad F n 4).getD r 0) F (.slice none 0 0) (.slice none 0 0) [] [] F 28 #[.pointer (some ⟨tx, 0, none⟩)] 0 n hTT ⟨Try.call28, fun x W vp2 hx hkp hblk => ?_⟩ (by omega) (by omega) hn (by simp) (unhide HQ1) (unhide HQ2)).mono ?_
            · have htt : tx ≠ tb := by
                rintro rfl
                have h1 := hTT.blk
                rw [unhide HX0] at h1
                injection h1 with h1
                injection h1 with _ h1
                cases h1
              have hno : ∀ k, k ≠ tb → ¬ (k = tb ∨ (Value.slice none 0 0).ownBlock = some k) := fun k hk hA => by
                rcases hA with hA | hA
                · exact hk hA
                · cases hA
              have h1 := begin2_ok x n F tx tb rg W (hkp.cell c0 (hno tx htt)) ⟨by simp [World.cell?, hblk], hTT.rk.of (hkp.keep rg hTT.rk.lt (hno rg hTT.tr.symm))⟩ hx
              simpa using h1
            rintro e x3 ⟨ps3, R3, vo3, vp3, rfl, hcut, hrk, hT6, hk6, hv6, hv7⟩
            have hx3 : x3.heap[tx]? = some (.cells #[.pointer (some ⟨tb, 0, none⟩)] 49 (0, 0)) := by
              rw [hk6.keep tx (heap_lt (unhide HX0)) ?_]
              · exact unhide HX0
              · have hne : ∀ k cs t, wi.heap[k]? = some (.cells cs t (0, 0)) → t ≠ 49 → tx ≠ k := fun k cs t hk ht e => by
                  subst e
                  rw [unhide HX0] at hk
                  injection hk with hk
                  injection hk with _ hk
                  exact ht hk.symm
                rintro (h | h | h | h)
                · exact hne _ _ _ hTT.blk (by decide) h
                · exact hne _ _ _ hTT.rk (by decide) h
                · cases h
                · cases h
            have c9 : x3.cell? ⟨tx, 0, none⟩ = some (.pointer (some ⟨tb, 0, none⟩)) := by simp [World.cell?, hx3]
            have HB9 : Hid (Below H w x3) := hide (hk6.below (unhide HB0) (fun k hA => by
              rcases hA with h | h | h | h
              · rw [h]; exact hTT.ht.1
              · rw [h]; exact hTT.ht.2.2
              · cases h
              · cases h) (by have := (unhide HB0).size; rw [← unhide HHH] at this; exact this))
            have HT9 := hide hT6
            have HCUT := hide hcut
            have HRK := hide hrk
            clear hT6 hk6 hv6 hv7 hcut hrk hx3 c0 hTT
            go_wp2_with fail
            go_ret
            rw [← unhide HHH]
            refine ⟨tb, pi, rg, _, R3, vo3, vp3, _, ps3, rfl, unhide HT9, ?_, unhide HB9⟩
            rw [List.nil_append]
            have h1 := unhide HCUT
            have h2 := unhide HRK
            rw [unhide HNN, unhide HFF] at h1 h2 ⊢
            exact begin_grps (unhide HBB) h1 h2
end Go.Proofs.Ytpemgjcgcmleiaa
