/- Turnings in memory. -/
import Derived.Test.YtpemgjcgcmleiaaHd
import Derived.Test.YtpemgjcgcmleiaaKy
namespace Go.Proofs.Ytpemgjcgcmleiaa
open Go.RowKit Suf
set_option maxRecDepth 100000
set_option linter.unusedVariables false

/-- of what was there nothing has changed but what A names -/
structure Kp (A : Nat → Prop) (w x : World) : Prop where
  os : x.os = w.os
  tape : x.tape = w.tape
  output : x.output = w.output
  size : w.heap.size ≤ x.heap.size
  keep : ∀ k, k < w.heap.size → ¬ A k → x.heap[k]? = w.heap[k]?

section
variable {A A' : Nat → Prop} {w x y : World}

theorem Kp.refl (A : Nat → Prop) (w : World) : Kp A w w := ⟨rfl, rfl, rfl, Nat.le_refl _, fun _ _ _ => rfl⟩

theorem Kp.trans (h : Kp A w x) (k : Kp A x y) : Kp A w y :=
  ⟨k.os.trans h.os, k.tape.trans h.tape, k.output.trans h.output, Nat.le_trans h.size k.size, fun j hj hA => by rw [k.keep j (by have := h.size; omega) hA, h.keep j hj hA]⟩

theorem Kp.mono (h : Kp A w x) (hA : ∀ k, k < w.heap.size → A k → A' k) : Kp A' w x := ⟨h.os, h.tape, h.output, h.size, fun j hj hn => h.keep j hj fun a => hn (hA j hj a)⟩

theorem Kp.alloc (h : Kp A w x) (o : Obj) : Kp A w (x.alloc o) :=
  ⟨h.os, h.tape, h.output, by have := h.size; simp; omega, fun j hj hA => by rw [Below.heap_alloc _ _ _ (by have := h.size; omega)]; exact h.keep j hj hA⟩

theorem Kp.set (h : Kp A w x) {g : Nat} (i : Nat) (v : Value) (hg : A g ∨ w.heap.size ≤ g) : Kp A w (x.setCell ⟨g, i, none⟩ v) :=
  ⟨h.os, h.tape, h.output, by simpa using h.size, fun j hj hA => by
    rw [heap_setCell_other _ _ _ _ (by show j ≠ g; rintro rfl; rcases hg with hg | hg; exact hA hg; omega)]
    exact h.keep j hj hA⟩

theorem Kp.drewN (h : Kp A w x) (q : Nat) : Kp A w (x.drewN q) := ⟨h.os, h.tape, h.output, h.size, h.keep⟩

theorem Kp.grown (h : Kp A w x) {r : Option Nat} (hg : x.grownBy y r) (hr : ∀ k, r = some k → A k ∨ w.heap.size ≤ k) : Kp A w y :=
  ⟨hg.os.trans h.os, hg.tape.trans h.tape, hg.output.trans h.output, Nat.le_trans h.size hg.size, fun j hj hA => by
    rw [hg.block j (by have := h.size; omega) (fun e => by rcases hr j e.symm with q | q; exact hA q; omega)]
    exact h.keep j hj hA⟩

theorem Kp.below (h : Kp A w x) {B : Nat} {w0 : World} (hb : Below B w0 w) (hA : ∀ k, A k → B ≤ k) (hB : B ≤ w.heap.size) : Below B w0 x :=
  ⟨h.os.trans hb.os, h.tape.trans hb.tape, h.output.trans hb.output, Nat.le_trans hb.size h.size, fun k hk => by rw [h.keep k (by omega) (fun a => by have := hA k a; omega)]; exact hb.block k hk⟩

theorem Kp.of_below (h : Below w.heap.size w x) : Kp A w x := ⟨h.os, h.tape, h.output, h.size, fun k hk _ => h.block k hk⟩

theorem Kp.cell (h : Kp A w x) {a : Addr} {v : Value} (hc : w.cell? a = some v) (hA : ¬ A a.block) : x.cell? a = some v := by
  rw [World.cell?_of_block (h.keep a.block (cell_lt hc) hA)]; exact hc
end

/-- groups in memory -/
def gv (l : List (Nat × Nat)) : List Value := l.flatMap fun g => [iv (g.1 : Int), iv (g.2 : Int)]

theorem gv_append (a b : List (Nat × Nat)) : gv (a ++ b) = gv a ++ gv b := by simp [gv]
theorem gv_length : ∀ l : List (Nat × Nat), (gv l).length = l.length * 2
  | [] => rfl
  | g :: l => by
    have := gv_length l
    simp only [gv, List.flatMap_cons, List.length_append, List.length_cons, List.length_nil] at this ⊢
    omega
theorem gv_at : ∀ (l : List (Nat × Nat)) (k : Nat), k < l.length → (gv l)[2 * k]? = some (iv ((l.getD k (0, 0)).1 : Int)) ∧ (gv l)[2 * k + 1]? = some (iv ((l.getD k (0, 0)).2 : Int))
  | [], k, h => by simp at h
  | g :: l, 0, _ => ⟨rfl, rfl⟩
  | g :: l, k + 1, h => by
    have := gv_at l k (by simpa using h)
    simp only [gv, List.flatMap_cons] at this ⊢
    rw [show 2 * (k + 1) = 2 * k + 1 + 1 by omega]
    simpa using this

structure TAt (H : Nat) (w : World) (tb pg rg n : Nat) (p R : Nat → Nat) (vo vp : Value) (os ps : List (Nat × Nat)) : Prop where
  blk : w.heap[tb]? = some (.cells #[.slice (some ⟨pg, 0, none⟩) n n, .slice (some ⟨rg, 0, none⟩) n n, vo, vp] 54 (0, 0))
  pl : IntsAt w .i64 3 pg n p
  rk : IntsAt w .i64 3 rg n R
  op : w.ownsRow H 56 2 vo os.length (gv os)
  pc : w.ownsRow H 56 2 vp ps.length (gv ps)
  d1 : pg ≠ rg
  d2 : ∀ k, vo.ownBlock = some k → vp.ownBlock ≠ some k
  ht : H ≤ tb ∧ H ≤ pg ∧ H ≤ rg

theorem own_type {w : World} {base e size n : Nat} {v : Value} {xs : List Value} (h : w.ownsRow base e size v n xs) {k : Nat} (hk : v.ownBlock = some k) : ∃ cs, w.heap[k]? = some (.cells cs e (0, 0)) := by
  rcases h.2 with ⟨e1, _⟩ | ⟨g, cap, cur, e1, _, hh, _⟩
  · rw [e1] at hk; cases hk
  · rw [e1] at hk
    injection hk with hk
    subst hk
    exact ⟨cur, hh⟩

section
variable {H : Nat} {w x : World} {tb pg rg n : Nat} {p R : Nat → Nat} {vo vp : Value} {os ps : List (Nat × Nat)}

theorem TAt.tp (h : TAt H w tb pg rg n p R vo vp os ps) : tb ≠ pg := by
  rintro rfl
  have h1 := h.blk
  have h2 := h.pl
  unfold IntsAt at h2
  rw [h1] at h2
  injection h2 with h2
  injection h2 with h2 h3
  cases h3

theorem TAt.tr (h : TAt H w tb pg rg n p R vo vp os ps) : tb ≠ rg := by
  rintro rfl
  have h1 := h.blk
  have h2 := h.rk
  unfold IntsAt at h2
  rw [h1] at h2
  injection h2 with h2
  injection h2 with h2 h3
  cases h3

theorem own_ne {w : World} {base e size n : Nat} {v : Value} {xs : List Value} (h : w.ownsRow base e size v n xs) {k e' : Nat} {cs : Array Value} (hk : w.heap[k]? = some (.cells cs e' (0, 0))) (he : e ≠ e') : v.ownBlock ≠ some k := by
  intro q
  obtain ⟨cs', h1⟩ := own_type h q
  rw [hk] at h1
  injection h1 with h1
  injection h1 with h1 h2
  exact he h2.symm

theorem TAt.vo_t (h : TAt H w tb pg rg n p R vo vp os ps) : vo.ownBlock ≠ some tb ∧ vo.ownBlock ≠ some pg ∧ vo.ownBlock ≠ some rg := ⟨own_ne h.op h.blk (by decide), own_ne h.op h.pl (by decide), own_ne h.op h.rk (by decide)⟩
theorem TAt.vp_t (h : TAt H w tb pg rg n p R vo vp os ps) : vp.ownBlock ≠ some tb ∧ vp.ownBlock ≠ some pg ∧ vp.ownBlock ≠ some rg := ⟨own_ne h.pc h.blk (by decide), own_ne h.pc h.pl (by decide), own_ne h.pc h.rk (by decide)⟩

theorem own_keep' {w w' : World} {base e size n : Nat} {v : Value} {xs : List Value} (h : w.ownsRow base e size v n xs) (h2 : ∀ g, v.ownBlock = some g → w'.heap[g]? = w.heap[g]?) : w'.ownsRow base e size v n xs := own_keep h h2

/-- what it stands on is kept -/
theorem TAt.keep (h : TAt H w tb pg rg n p R vo vp os ps) (hk : ∀ k, k < w.heap.size → (k = tb ∨ k = pg ∨ k = rg ∨ vo.ownBlock = some k ∨ vp.ownBlock = some k) → x.heap[k]? = w.heap[k]?) : TAt H x tb pg rg n p R vo vp os ps :=
  ⟨by rw [hk tb (heap_lt h.blk) (.inl rfl)]; exact h.blk, h.pl.of (hk pg h.pl.lt (.inr (.inl rfl))), h.rk.of (hk rg h.rk.lt (.inr (.inr (.inl rfl)))),
    own_keep h.op fun g hg => hk g (h.op.lt g hg).2 (.inr (.inr (.inr (.inl hg)))), own_keep h.pc fun g hg => hk g (h.pc.lt g hg).2 (.inr (.inr (.inr (.inr hg)))), h.d1, h.d2, h.ht⟩

theorem TAt.alloc (h : TAt H w tb pg rg n p R vo vp os ps) (o : Obj) : TAt H (w.alloc o) tb pg rg n p R vo vp os ps := h.keep fun k hk _ => Below.heap_alloc _ _ _ hk

theorem TAt.drewN (h : TAt H w tb pg rg n p R vo vp os ps) (q : Nat) : TAt H (w.drewN q) tb pg rg n p R vo vp os ps := h.keep fun _ _ _ => rfl

theorem TAt.setNew (h : TAt H w tb pg rg n p R vo vp os ps) {g : Nat} (i : Nat) (v : Value) (hg : g ≠ tb ∧ g ≠ pg ∧ g ≠ rg ∧ vo.ownBlock ≠ some g ∧ vp.ownBlock ≠ some g) : TAt H (w.setCell ⟨g, i, none⟩ v) tb pg rg n p R vo vp os ps :=
  h.keep fun k hk hc => heap_setCell_other _ _ _ _ (by
    show k ≠ g
    rintro rfl
    rcases hc with e | e | e | e | e
    · exact hg.1 e
    · exact hg.2.1 e
    · exact hg.2.2.1 e
    · exact hg.2.2.2.1 e
    · exact hg.2.2.2.2 e)

theorem TAt.c0 (h : TAt H w tb pg rg n p R vo vp os ps) : w.cell? ⟨tb, 0, none⟩ = some (.slice (some ⟨pg, 0, none⟩) n n) := by simp [World.cell?, h.blk]
theorem TAt.c1 (h : TAt H w tb pg rg n p R vo vp os ps) : w.cell? ⟨tb, 1, none⟩ = some (.slice (some ⟨rg, 0, none⟩) n n) := by simp [World.cell?, h.blk]
theorem TAt.c2 (h : TAt H w tb pg rg n p R vo vp os ps) : w.cell? ⟨tb, 2, none⟩ = some vo := by simp [World.cell?, h.blk]
theorem TAt.c3 (h : TAt H w tb pg rg n p R vo vp os ps) : w.cell? ⟨tb, 3, none⟩ = some vp := by simp [World.cell?, h.blk]
theorem TAt.fz (h : TAt H w tb pg rg n p R vo vp os ps) (i : Nat) : w.frozen? ⟨tb, i, none⟩ = false := by simp [World.frozen?, h.blk]

theorem TAt.setRank (h : TAt H w tb pg rg n p R vo vp os ps) (i y : Nat) : TAt H (w.setCell ⟨rg, i, none⟩ (.int .i64 (y : Int))) tb pg rg n p (upd R i y) vo vp os ps := by
  have hk : ∀ k, k ≠ rg → (w.setCell ⟨rg, i, none⟩ (.int .i64 (y : Int))).heap[k]? = w.heap[k]? := fun k hk => heap_setCell_other _ _ _ _ (by exact hk)
  exact ⟨by rw [hk tb h.tr]; exact h.blk, h.pl.of (hk pg h.d1), h.rk.set i y, own_keep h.op fun g hg => hk g fun e => h.vo_t.2.2 (by rw [hg, e]), own_keep h.pc fun g hg => hk g fun e => h.vp_t.2.2 (by rw [hg, e]), h.d1, h.d2, h.ht⟩

/-- the pieces' field is set -/
theorem TAt.setP (h : TAt H w tb pg rg n p R vo vp os ps) {v' : Value} {ps' : List (Nat × Nat)} (hown : w.ownsRow H 56 2 v' ps'.length (gv ps')) (hd : ∀ k, vo.ownBlock = some k → v'.ownBlock ≠ some k) : TAt H (w.setCell ⟨tb, 3, none⟩ v') tb pg rg n p R vo v' os ps' := by
  have hk : ∀ k, k ≠ tb → (w.setCell ⟨tb, 3, none⟩ v').heap[k]? = w.heap[k]? := fun k hk => heap_setCell_other _ _ _ _ (by exact hk)
  exact ⟨heap_setCell_same w tb 3 _ _ _ h.blk, h.pl.of (hk pg h.tp.symm), h.rk.of (hk rg h.tr.symm), own_keep h.op fun g hg => hk g fun e => h.vo_t.1 (by rw [hg, e]), own_keep hown fun g hg => hk g fun e => own_ne hown h.blk (by decide) (by rw [hg, e]), h.d1, hd, h.ht⟩

/-- the open groups' field is set -/
theorem TAt.setO (h : TAt H w tb pg rg n p R vo vp os ps) {v' : Value} {os' : List (Nat × Nat)} (hown : w.ownsRow H 56 2 v' os'.length (gv os')) (hd : ∀ k, v'.ownBlock = some k → vp.ownBlock ≠ some k) : TAt H (w.setCell ⟨tb, 2, none⟩ v') tb pg rg n p R v' vp os' ps := by
  have hk : ∀ k, k ≠ tb → (w.setCell ⟨tb, 2, none⟩ v').heap[k]? = w.heap[k]? := fun k hk => heap_setCell_other _ _ _ _ (by exact hk)
  exact ⟨heap_setCell_same w tb 2 _ _ _ h.blk, h.pl.of (hk pg h.tp.symm), h.rk.of (hk rg h.tr.symm), own_keep hown fun g hg => hk g fun e => own_ne hown h.blk (by decide) (by rw [hg, e]), own_keep h.pc fun g hg => hk g fun e => h.vp_t.1 (by rw [hg, e]), h.d1, hd, h.ht⟩

/-- the places' field is set -/
theorem TAt.setL (h : TAt H w tb pg rg n p R vo vp os ps) {pg' : Nat} {p' : Nat → Nat} (hpl : IntsAt w .i64 3 pg' n p') (hd : pg' ≠ rg) (hH : H ≤ pg') : TAt H (w.setCell ⟨tb, 0, none⟩ (.slice (some ⟨pg', 0, none⟩) n n)) tb pg' rg n p' R vo vp os ps := by
  have hk : ∀ k, k ≠ tb → (w.setCell ⟨tb, 0, none⟩ (.slice (some ⟨pg', 0, none⟩) n n)).heap[k]? = w.heap[k]? := fun k hk => heap_setCell_other _ _ _ _ (by exact hk)
  refine ⟨heap_setCell_same w tb 0 _ _ _ h.blk, hpl.of (hk pg' ?_), h.rk.of (hk rg h.tr.symm), own_keep h.op fun g hg => hk g fun e => h.vo_t.1 (by rw [hg, e]), own_keep h.pc fun g hg => hk g fun e => h.vp_t.1 (by rw [hg, e]), hd, h.d2, h.ht.1, hH, h.ht.2.2⟩
  rintro rfl
  have h1 := h.blk
  have h2 := hpl
  unfold IntsAt at h2
  rw [h1] at h2
  injection h2 with h2
  injection h2 with h2 h3
  cases h3

/-- one piece more -/
theorem TAt.pushP (h : TAt H w tb pg rg n p R vo vp os ps) {a c g' cap' : Nat} {x2 : World} {O : Obj} (h1 : x2.ownsRow H 56 2 (.slice (some ⟨g', 0, none⟩) (ps.length + 1) cap') (ps.length + 1) (gv ps ++ [iv (a : Int), iv (c : Int)])) (h2 : (w.alloc O).grownBy x2 vp.ownBlock) (h3 : vp.ownBlock = some g' ∨ g' = w.heap.size + 1) :
    TAt H (x2.setCell ⟨tb, 3, none⟩ (.slice (some ⟨g', 0, none⟩) (ps.length + 1) cap')) tb pg rg n p R vo (.slice (some ⟨g', 0, none⟩) (ps.length + 1) cap') os (ps ++ [(a, c)]) := by
  have hk : ∀ k, k < w.heap.size → vp.ownBlock ≠ some k → x2.heap[k]? = w.heap[k]? := fun k hk hr => by
    rw [h2.block k (by simp; omega) (fun e => hr e.symm)]; exact Below.heap_alloc _ _ _ hk
  have hv := h.vp_t
  have hown : x2.ownsRow H 56 2 (.slice (some ⟨g', 0, none⟩) (ps.length + 1) cap') (ps ++ [(a, c)]).length (gv (ps ++ [(a, c)])) := by
    rw [gv_append, List.length_append]; exact h1
  have hd : ∀ k, vo.ownBlock = some k → g' ≠ k := fun k hk e => by
    subst e
    rcases h3 with h3 | h3
    · exact h.d2 _ hk h3
    · have := (h.op.lt _ hk).2; omega
  have hb : x2.heap[tb]? = some (.cells #[.slice (some ⟨pg, 0, none⟩) n n, .slice (some ⟨rg, 0, none⟩) n n, vo, vp] 54 (0, 0)) := by rw [hk tb (heap_lt h.blk) hv.1]; exact h.blk
  have hk2 : ∀ k, k ≠ tb → (x2.setCell ⟨tb, 3, none⟩ (.slice (some ⟨g', 0, none⟩) (ps.length + 1) cap')).heap[k]? = x2.heap[k]? := fun k hk => heap_setCell_other _ _ _ _ (by exact hk)
  refine ⟨heap_setCell_same x2 tb 3 _ _ _ hb, h.pl.of ?_, h.rk.of ?_, own_keep h.op fun g hg => ?_, own_keep hown fun g hg => hk2 g fun e => own_ne hown hb (by decide) (by rw [hg, e]), h.d1, fun k hk => ?_, h.ht⟩
  · rw [hk2 pg h.tp.symm, hk pg h.pl.lt hv.2.1]
  · rw [hk2 rg h.tr.symm, hk rg h.rk.lt hv.2.2]
  · rw [hk2 g fun e => h.vo_t.1 (by rw [hg, e]), hk g (h.op.lt g hg).2 (h.d2 g hg)]
  · intro e
    simp [Value.ownBlock] at e
    exact hd k hk e

/-- one open group more -/
theorem TAt.pushO (h : TAt H w tb pg rg n p R vo vp os ps) {a c g' cap' : Nat} {x2 : World} {O : Obj} (h1 : x2.ownsRow H 56 2 (.slice (some ⟨g', 0, none⟩) (os.length + 1) cap') (os.length + 1) (gv os ++ [iv (a : Int), iv (c : Int)])) (h2 : (w.alloc O).grownBy x2 vo.ownBlock) (h3 : vo.ownBlock = some g' ∨ g' = w.heap.size + 1) :
    TAt H (x2.setCell ⟨tb, 2, none⟩ (.slice (some ⟨g', 0, none⟩) (os.length + 1) cap')) tb pg rg n p R (.slice (some ⟨g', 0, none⟩) (os.length + 1) cap') vp (os ++ [(a, c)]) ps := by
  have hk : ∀ k, k < w.heap.size → vo.ownBlock ≠ some k → x2.heap[k]? = w.heap[k]? := fun k hk hr => by
    rw [h2.block k (by simp; omega) (fun e => hr e.symm)]; exact Below.heap_alloc _ _ _ hk
  have hv := h.vo_t
  have hown : x2.ownsRow H 56 2 (.slice (some ⟨g', 0, none⟩) (os.length + 1) cap') (os ++ [(a, c)]).length (gv (os ++ [(a, c)])) := by
    rw [gv_append, List.length_append]; exact h1
  have hd : ∀ k, vp.ownBlock = some k → g' ≠ k := fun k hk e => by
    subst e
    rcases h3 with h3 | h3
    · exact h.d2 _ h3 hk
    · have := (h.pc.lt _ hk).2; omega
  have hb : x2.heap[tb]? = some (.cells #[.slice (some ⟨pg, 0, none⟩) n n, .slice (some ⟨rg, 0, none⟩) n n, vo, vp] 54 (0, 0)) := by rw [hk tb (heap_lt h.blk) hv.1]; exact h.blk
  have hk2 : ∀ k, k ≠ tb → (x2.setCell ⟨tb, 2, none⟩ (.slice (some ⟨g', 0, none⟩) (os.length + 1) cap')).heap[k]? = x2.heap[k]? := fun k hk => heap_setCell_other _ _ _ _ (by exact hk)
  refine ⟨heap_setCell_same x2 tb 2 _ _ _ hb, h.pl.of ?_, h.rk.of ?_, own_keep hown fun g hg => hk2 g fun e => own_ne hown hb (by decide) (by rw [hg, e]), own_keep h.pc fun g hg => ?_, h.d1, fun k hk e => ?_, h.ht⟩
  · rw [hk2 pg h.tp.symm, hk pg h.pl.lt hv.2.1]
  · rw [hk2 rg h.tr.symm, hk rg h.rk.lt hv.2.2]
  · rw [hk2 g fun e => h.vp_t.1 (by rw [hg, e]), hk g (h.pc.lt g hg).2 (fun e => h.d2 g e hg)]
  · simp [Value.ownBlock] at hk
    exact hd k e hk
end

/-- a row of groups that is read -/
theorem own_group {w : World} {base : Nat} {v : Value} {l : List (Nat × Nat)} (h : w.ownsRow base 56 2 v l.length (gv l)) : ∃ a c, v = .slice a l.length c ∧ ∀ k, k < l.length → ∃ g, a = some ⟨g, 0, none⟩ ∧ v.ownBlock = some g ∧ w.cell? ⟨g, 2 * k, none⟩ = some (.int .i64 ((l.getD k (0, 0)).1 : Int)) ∧ w.cell? ⟨g, 2 * k + 1, none⟩ = some (.int .i64 ((l.getD k (0, 0)).2 : Int)) := by
  rcases h.2 with ⟨e1, e2⟩ | ⟨g, cap, cur, e1, hb, hg, hn, _, hs, ht⟩
  · exact ⟨none, 0, by rw [e1, e2], fun k hk => by omega⟩
  · refine ⟨_, cap, e1, fun k hk => ⟨g, rfl, by rw [e1]; rfl, ?_⟩⟩
    obtain ⟨h1, h2⟩ := gv_at l k hk
    rw [← ht, List.getElem?_take, if_pos (by omega)] at h1 h2
    constructor
    · simp only [World.cell?, hg]; simpa [iv] using h1
    · simp only [World.cell?, hg]; simpa [iv] using h2

/-- the row with nothing in it again -/
theorem own_clear {w : World} {base n : Nat} {a : Option Addr} {c : Nat} {xs : List Value} (h : w.ownsRow base 56 2 (.slice a n c) n xs) : w.ownsRow base 56 2 (.slice a 0 c) 0 [] := by
  rcases h.2 with ⟨e1, e2⟩ | ⟨g, cap, cur, e1, hb, hg, hn, hm, hs, ht⟩
  · injection e1 with e1 e3 e4
    subst e1 e4
    exact World.ownsRow_nil _ _ _ _
  · injection e1 with e1 e3 e4
    subst e1 e4
    exact ⟨by simp, .inr ⟨g, c, cur, rfl, hb, hg, Nat.zero_le _, hm, hs, by simp⟩⟩

end Go.Proofs.Ytpemgjcgcmleiaa
