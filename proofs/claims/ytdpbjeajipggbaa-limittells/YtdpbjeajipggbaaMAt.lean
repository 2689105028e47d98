/- Two lists that are merged, in memory: the struct of both rows, and what may change. -/
import Derived.Test.YtdpbjeajipggbaaPack
import Derived.Test.YtdpbjeajipggbaaAidTwo
namespace Go.Proofs.Ytdpbjeajipggbaa
open Go.RowKit
set_option linter.unusedVariables false

def two : Array Value := #[.slice none 0 0, .slice none 0 0]

structure MAt (A B : List Nat) (w ws : World) (bx : Nat) (vi va : Value) (mi ma : Nat) : Prop where
  box : ws.heap[bx]? = some (.cells #[vi, va] 57 (0, 0))
  res : ws.heap[w.heap.size]? = some (.cells two 57 (0, 0))
  oi : ws.ownsRow (w.heap.size + 1) 3 1 vi mi ((ints ((Merge.mgd A B).take mi)).map iv)
  oa : ws.ownsRow (w.heap.size + 1) 3 1 va ma ((ints ((Merge.ahd A B).take ma)).map iv)
  d1 : ∀ g, vi.ownBlock = some g → va.ownBlock ≠ some g
  d2 : vi.ownBlock ≠ some bx
  d3 : va.ownBlock ≠ some bx
  lo : w.heap.size < bx
  bel : Below w.heap.size w ws

section
variable {A B : List Nat} {w ws w1 : World} {bx : Nat} {vi va : Value} {mi ma : Nat}

theorem MAt.drew (h : MAt A B w ws bx vi va mi ma) : MAt A B w ws.drew bx vi va mi ma := ⟨h.box, h.res, h.oi.drew, h.oa.drew, h.d1, h.d2, h.d3, h.lo, h.bel.trans (Below.refl _ _).drew⟩
theorem MAt.drewN (h : MAt A B w ws bx vi va mi ma) (q : Nat) : MAt A B w (ws.drewN q) bx vi va mi ma := ⟨h.box, h.res, own_keep h.oi (fun _ _ => rfl), own_keep h.oa (fun _ _ => rfl), h.d1, h.d2, h.d3, h.lo, below_drewN h.bel q⟩

theorem MAt.c0 (h : MAt A B w ws bx vi va mi ma) : ws.cell? ⟨bx, 0, none⟩ = some vi := by simp [World.cell?, h.box]
theorem MAt.c1 (h : MAt A B w ws bx vi va mi ma) : ws.cell? ⟨bx, 1, none⟩ = some va := by simp [World.cell?, h.box]
theorem MAt.fz (h : MAt A B w ws bx vi va mi ma) (o : Nat) : ws.frozen? ⟨bx, o, none⟩ = false := by simp [World.frozen?, h.box]
theorem MAt.lt (h : MAt A B w ws bx vi va mi ma) : bx < ws.heap.size := heap_lt h.box

theorem take_snoc {l : List Nat} {n x : Nat} (h : l[n]? = some x) : l.take (n + 1) = l.take n ++ [x] := by
  obtain ⟨h1, h2⟩ := List.getElem?_eq_some_iff.1 h
  rw [← h2]
  exact (List.take_append_getElem h1).symm

theorem MAt.app0 (h : MAt A B w ws bx vi va mi ma) {x g cap : Nat} (hx : (Merge.mgd A B)[mi]? = some x) (o : Obj)
    (hown : w1.ownsRow (w.heap.size + 1) 3 1 (.slice (some ⟨g, 0, none⟩) (mi + 1) cap) (mi + 1) ((ints ((Merge.mgd A B).take mi)).map iv ++ [iv (x : Int)])) (hg : (ws.alloc o).grownBy w1 vi.ownBlock) (hat : vi.ownBlock = some g ∨ g = ws.heap.size + 1) :
    MAt A B w (w1.setCell ⟨bx, 0, none⟩ (.slice (some ⟨g, 0, none⟩) (mi + 1) cap)) bx (.slice (some ⟨g, 0, none⟩) (mi + 1) cap) va (mi + 1) ma := by
  have hbx := h.lt
  have hsz := h.bel.size
  have hlo := h.lo
  have kp : ∀ k, k < ws.heap.size → vi.ownBlock ≠ some k → w1.heap[k]? = ws.heap[k]? := fun k hk hne => by
    rw [hg.block k (by simp; omega) (fun e => hne e.symm), Below.heap_alloc _ _ _ hk]
  have hgb : g ≠ bx := by
    rcases hat with e | e
    · intro c; rw [c] at e; exact h.d2 e
    · omega
  have hb1 : w1.heap[bx]? = some (.cells #[vi, va] 57 (0, 0)) := by rw [kp bx hbx h.d2]; exact h.box
  have hva : ∀ k, va.ownBlock = some k → w1.heap[k]? = ws.heap[k]? := fun k e => kp k (h.oa.lt k e).2 (fun c => h.d1 k c e)
  refine ⟨?_, ?_, ?_, ?_, ?_, ?_, h.d3, hlo, ?_⟩
  · rw [heap_setCell_same w1 bx 0 _ 57 _ hb1]; rfl
  · rw [heap_setCell_other _ _ _ _ (by show w.heap.size ≠ bx; omega), kp _ (by omega) (fun e => by have := (h.oi.lt _ e).1; omega)]
    exact h.res
  · rw [take_snoc hx]
    have hown' : w1.ownsRow (w.heap.size + 1) 3 1 (.slice (some ⟨g, 0, none⟩) (mi + 1) cap) (mi + 1) ((ints ((Merge.mgd A B).take mi ++ [x])).map iv) := by simpa [ints] using hown
    exact own_keep hown' (fun k e => heap_setCell_other _ _ _ _ (by show k ≠ bx; injection e with e; rw [← e]; exact hgb))
  · refine own_keep h.oa (fun k e => ?_)
    rw [heap_setCell_other _ _ _ _ (by show k ≠ bx; intro c; rw [c] at e; exact h.d3 e)]
    exact hva k e
  · intro k e c
    injection e with e
    subst e
    rcases hat with e | e
    · exact h.d1 _ e c
    · have : g < ws.heap.size := (h.oa.lt _ c).2
      omega
  · intro e; injection e with e; exact hgb e
  · exact h.bel.trans ⟨hg.os, hg.tape, hg.output, by have := hg.size; simp at this ⊢; omega, fun k hk => by
      rw [heap_setCell_other _ _ _ _ (by show k ≠ bx; omega), kp k (by omega) (fun e => by have := (h.oi.lt _ e).1; omega)]⟩

theorem MAt.app1 (h : MAt A B w ws bx vi va mi ma) {x g cap : Nat} (hx : (Merge.ahd A B)[ma]? = some x) (o : Obj)
    (hown : w1.ownsRow (w.heap.size + 1) 3 1 (.slice (some ⟨g, 0, none⟩) (ma + 1) cap) (ma + 1) ((ints ((Merge.ahd A B).take ma)).map iv ++ [iv (x : Int)])) (hg : (ws.alloc o).grownBy w1 va.ownBlock) (hat : va.ownBlock = some g ∨ g = ws.heap.size + 1) :
    MAt A B w (w1.setCell ⟨bx, 1, none⟩ (.slice (some ⟨g, 0, none⟩) (ma + 1) cap)) bx vi (.slice (some ⟨g, 0, none⟩) (ma + 1) cap) mi (ma + 1) := by
  have hbx := h.lt
  have hsz := h.bel.size
  have hlo := h.lo
  have kp : ∀ k, k < ws.heap.size → va.ownBlock ≠ some k → w1.heap[k]? = ws.heap[k]? := fun k hk hne => by
    rw [hg.block k (by simp; omega) (fun e => hne e.symm), Below.heap_alloc _ _ _ hk]
  have hgb : g ≠ bx := by
    rcases hat with e | e
    · intro c; rw [c] at e; exact h.d3 e
    · omega
  have hb1 : w1.heap[bx]? = some (.cells #[vi, va] 57 (0, 0)) := by rw [kp bx hbx h.d3]; exact h.box
  have hvi : ∀ k, vi.ownBlock = some k → w1.heap[k]? = ws.heap[k]? := fun k e => kp k (h.oi.lt k e).2 (fun c => h.d1 k e c)
  refine ⟨?_, ?_, ?_, ?_, ?_, h.d2, ?_, hlo, ?_⟩
  · rw [heap_setCell_same w1 bx 1 _ 57 _ hb1]; rfl
  · rw [heap_setCell_other _ _ _ _ (by show w.heap.size ≠ bx; omega), kp _ (by omega) (fun e => by have := (h.oa.lt _ e).1; omega)]
    exact h.res
  · refine own_keep h.oi (fun k e => ?_)
    rw [heap_setCell_other _ _ _ _ (by show k ≠ bx; intro c; rw [c] at e; exact h.d2 e)]
    exact hvi k e
  · rw [take_snoc hx]
    have hown' : w1.ownsRow (w.heap.size + 1) 3 1 (.slice (some ⟨g, 0, none⟩) (ma + 1) cap) (ma + 1) ((ints ((Merge.ahd A B).take ma ++ [x])).map iv) := by simpa [ints] using hown
    exact own_keep hown' (fun k e => heap_setCell_other _ _ _ _ (by show k ≠ bx; injection e with e; rw [← e]; exact hgb))
  · intro k e c
    injection c with c
    subst c
    rcases hat with c | c
    · exact h.d1 _ e c
    · have : g < ws.heap.size := (h.oi.lt _ e).2
      omega
  · intro e; injection e with e; exact hgb e
  · exact h.bel.trans ⟨hg.os, hg.tape, hg.output, by have := hg.size; simp at this ⊢; omega, fun k hk => by
      rw [heap_setCell_other _ _ _ _ (by show k ≠ bx; omega), kp k (by omega) (fun e => by have := (h.oa.lt _ e).1; omega)]⟩
end

/-- what has been made so far -/
structure Got (w x : World) (room : Nat) (oi oa ob : Option Nat) : Prop where
  res : x.heap[w.heap.size]? = some (.cells two 57 (0, 0))
  bel : Below w.heap.size w x
  i : ∀ g, oi = some g → w.heap.size < g ∧ x.heap[g]? = some (.cells (icells .i64 room fun _ => 0) 3 (0, 0))
  a : ∀ g, oa = some g → w.heap.size < g ∧ x.heap[g]? = some (.cells (icells .i64 (room + 1) fun _ => 0) 3 (0, 0))
  b : ∀ g, ob = some g → w.heap.size < g ∧ x.heap[g]? = some (.cells two 57 (0, 0))
  ia : ∀ g, oi = some g → oa ≠ some g
  ib : ∀ g, oi = some g → ob ≠ some g
  ab : ∀ g, oa = some g → ob ≠ some g

section
variable {w x : World} {room : Nat} {oi oa ob : Option Nat}

theorem Got.start (w : World) (room : Nat) : Got w (w.alloc (.cells two 57)).drew room none none none :=
  ⟨heap_alloc_new _ _, ((Below.refl _ _).alloc (Nat.le_refl _) _).trans (Below.refl _ _).drew, fun g h => (by cases h), fun g h => (by cases h), fun g h => (by cases h), fun g h => (by cases h), fun g h => (by cases h), fun g h => (by cases h)⟩

theorem Got.size (h : Got w x room oi oa ob) : w.heap.size < x.heap.size := heap_lt h.res
theorem Got.keep (h : Got w x room oi oa ob) (o : Obj) : Got w (x.alloc o) room oi oa ob :=
  ⟨by rw [Below.heap_alloc _ _ _ h.size]; exact h.res, h.bel.trans ((Below.refl _ _).alloc h.bel.size _), fun g e => ⟨(h.i g e).1, by rw [Below.heap_alloc _ _ _ (heap_lt (h.i g e).2)]; exact (h.i g e).2⟩,
    fun g e => ⟨(h.a g e).1, by rw [Below.heap_alloc _ _ _ (heap_lt (h.a g e).2)]; exact (h.a g e).2⟩, fun g e => ⟨(h.b g e).1, by rw [Below.heap_alloc _ _ _ (heap_lt (h.b g e).2)]; exact (h.b g e).2⟩, h.ia, h.ib, h.ab⟩

theorem Got.makeI (h : Got w x room none oa ob) : Got w (x.alloc (.cells (icells .i64 room fun _ => 0) 3)) room (some x.heap.size) oa ob :=
  have k := h.keep (.cells (icells .i64 room fun _ => 0) 3)
  ⟨k.res, k.bel, fun g e => by injection e with e; subst e; exact ⟨h.size, heap_alloc_new _ _⟩, k.a, k.b, fun g e c => by injection e with e; subst e; have := heap_lt (h.a _ c).2; omega, fun g e c => by injection e with e; subst e; have := heap_lt (h.b _ c).2; omega, h.ab⟩
theorem Got.makeA (h : Got w x room oi none ob) : Got w (x.alloc (.cells (icells .i64 (room + 1) fun _ => 0) 3)) room oi (some x.heap.size) ob :=
  have k := h.keep (.cells (icells .i64 (room + 1) fun _ => 0) 3)
  ⟨k.res, k.bel, k.i, fun g e => by injection e with e; subst e; exact ⟨h.size, heap_alloc_new _ _⟩, k.b, fun g e c => by injection c with c; subst c; have := heap_lt (h.i _ e).2; omega, h.ib, fun g e c => by injection e with e; subst e; have := heap_lt (h.b _ c).2; omega⟩
theorem Got.makeB (h : Got w x room oi oa none) : Got w (x.alloc (.cells two 57)) room oi oa (some x.heap.size) :=
  have k := h.keep (.cells two 57)
  ⟨k.res, k.bel, k.i, k.a, fun g e => by injection e with e; subst e; exact ⟨h.size, heap_alloc_new _ _⟩, h.ia, fun g e c => by injection c with c; subst c; have := heap_lt (h.i _ e).2; omega, fun g e c => by injection c with c; subst c; have := heap_lt (h.a _ e).2; omega⟩

theorem own_of_cells {x : World} {base g n room : Nat} {xs : List Value} (hb : base ≤ g) (h : x.heap[g]? = some (.cells (icells .i64 room fun _ => 0) 3 (0, 0))) (hn : n ≤ room) (hr : room ≤ maxLen) (hx : xs = List.replicate n (iv 0)) : x.ownsRow base 3 1 (.slice (some ⟨g, 0, none⟩) n room) n xs := by
  subst hx
  refine ⟨by simp, .inr ⟨g, room, _, rfl, hb, h, hn, hr, by simp [icells], ?_⟩⟩
  apply List.ext_getElem
  · simp [icells]; omega
  · intro j h1 h2
    simp [icells, iv]

theorem Got.done {A B : List Nat} {gi ga bx : Nat} (h : Got w x room (some gi) (some ga) (some bx)) (hroom : room = A.length + B.length) (hs : room ≤ 1000000) :
    MAt A B w ((x.setCell ⟨bx, 0, none⟩ (.slice (some ⟨gi, 0, none⟩) 0 room)).setCell ⟨bx, 1, none⟩ (.slice (some ⟨ga, 0, none⟩) 1 (room + 1))) bx (.slice (some ⟨gi, 0, none⟩) 0 room) (.slice (some ⟨ga, 0, none⟩) 1 (room + 1)) 0 1 := by
  obtain ⟨i1, i2⟩ := h.i gi rfl
  obtain ⟨a1, a2⟩ := h.a ga rfl
  obtain ⟨b1, b2⟩ := h.b bx rfl
  have nib : gi ≠ bx := fun e => h.ib gi rfl (by rw [e])
  have nab : ga ≠ bx := fun e => h.ab ga rfl (by rw [e])
  have nia : gi ≠ ga := fun e => h.ia gi rfl (by rw [e])
  have kp : ∀ k v v', k ≠ bx → ((x.setCell ⟨bx, 0, none⟩ v).setCell ⟨bx, 1, none⟩ v').heap[k]? = x.heap[k]? := fun k v v' hk => by
    rw [heap_setCell_other _ _ _ _ (by exact hk), heap_setCell_other _ _ _ _ (by exact hk)]
  refine ⟨?_, ?_, ?_, ?_, ?_, ?_, ?_, b1, ?_⟩
  · rw [heap_setCell_same _ bx 1 _ 57 _ (heap_setCell_same x bx 0 _ 57 _ b2)]; rfl
  · rw [kp _ _ _ (by omega)]; exact h.res
  · exact own_of_cells (by omega) (by rw [kp _ _ _ nib]; exact i2) (by omega) (by unfold maxLen; omega) (by simp [ints])
  · refine own_of_cells (by omega) (by rw [kp _ _ _ nab]; exact a2) (by omega) (by unfold maxLen; omega) ?_
    have : (Merge.ahd A B).take 1 = [0] := by
      unfold Merge.ahd
      rw [show A.length + B.length + 1 = (A.length + B.length) + 1 from rfl, List.range_succ_eq_map]
      rfl
    rw [this]
    rfl
  · intro g e c; injection e with e; injection c with c; subst e; exact nia c.symm
  · intro e; injection e with e; exact nib e
  · intro e; injection e with e; exact nab e
  · exact h.bel.trans (((Below.refl _ _).setCell (by show w.heap.size ≤ bx; omega) _).setCell (by show w.heap.size ≤ bx; omega) _)
end

theorem MAt.grownI {A B : List Nat} {w ws w1 : World} {bx : Nat} {vi va : Value} {mi ma : Nat} (h : MAt A B w ws bx vi va mi ma) {o : Obj} (hg : (ws.alloc o).grownBy w1 vi.ownBlock) : w1.cell? ⟨bx, 0, none⟩ = some vi ∧ w1.frozen? ⟨bx, 0, none⟩ = false ∧ Below w.heap.size w w1 := by
  have hbx := h.lt
  have hsz := h.bel.size
  have kp : ∀ k, k < ws.heap.size → vi.ownBlock ≠ some k → w1.heap[k]? = ws.heap[k]? := fun k hk hne => by
    rw [hg.block k (by simp; omega) (fun e => hne e.symm), Below.heap_alloc _ _ _ hk]
  have hb1 : w1.heap[bx]? = some (.cells #[vi, va] 57 (0, 0)) := by rw [kp bx hbx h.d2]; exact h.box
  exact ⟨by simp [World.cell?, hb1], by simp [World.frozen?, hb1], h.bel.trans ⟨hg.os, hg.tape, hg.output, by have := hg.size; simp at this; omega, fun k hk => kp k (by omega) (fun e => by have := (h.oi.lt _ e).1; omega)⟩⟩

theorem MAt.grownA {A B : List Nat} {w ws w1 : World} {bx : Nat} {vi va : Value} {mi ma : Nat} (h : MAt A B w ws bx vi va mi ma) {o : Obj} (hg : (ws.alloc o).grownBy w1 va.ownBlock) : w1.cell? ⟨bx, 1, none⟩ = some va ∧ w1.frozen? ⟨bx, 1, none⟩ = false ∧ Below w.heap.size w w1 := by
  have hbx := h.lt
  have hsz := h.bel.size
  have kp : ∀ k, k < ws.heap.size → va.ownBlock ≠ some k → w1.heap[k]? = ws.heap[k]? := fun k hk hne => by
    rw [hg.block k (by simp; omega) (fun e => hne e.symm), Below.heap_alloc _ _ _ hk]
  have hb1 : w1.heap[bx]? = some (.cells #[vi, va] 57 (0, 0)) := by rw [kp bx hbx h.d3]; exact h.box
  exact ⟨by simp [World.cell?, hb1], by simp [World.frozen?, hb1], h.bel.trans ⟨hg.os, hg.tape, hg.output, by have := hg.size; simp at this; omega, fun k hk => kp k (by omega) (fun e => by have := (h.oa.lt _ e).1; omega)⟩⟩

theorem new_int (w : World) (z : Int) : (w.alloc (.cells #[.int .i64 z] 3)).cell? ⟨w.heap.size, 0, none⟩ = some (.int .i64 z) := by
  simp only [World.cell?, heap_alloc_new]; rfl

theorem new_news (w : World) (z : Int) : ∀ (j : Nat) (u : Value), [iv z][j]? = some u → (w.alloc (.cells #[.int .i64 z] 3)).cell? ((⟨w.heap.size, 0, none⟩ : Addr).add j) = some u := by
  intro j u hj
  match j, hj with
  | 0, hj => simp [iv] at hj; subst hj; simp [Addr.add]

end Go.Proofs.Ytdpbjeajipggbaa
