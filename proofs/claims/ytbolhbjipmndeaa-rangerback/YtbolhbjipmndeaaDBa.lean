/- Rows of one's own that one more is appended to. -/
import Derived.Test.YtbolhbjipmndeaaProg
import Derived.Test.YtbolhbjipmndeaaRgM
import Derived.BigQuiet
import Derived.Deep.AppendLies
import Derived.Deep.DeepCutAuto
import Derived.Deep.DeepMust
import Derived.Deep.DrawnRows
import Derived.Deep.LoopGhost
import Derived.Deep.QuietTactic
import Derived.Deep.WholeRow
import Derived.Handy
import Derived.KernelRfl
import Derived.Laws.AppendOwnNone
import Derived.Laws.BytesArg
import Derived.Laws.CopyOwn
import Derived.Laws.Rows
import Derived.Lib.SmallJoins
import Derived.Maps.AppendAt
import Derived.OwnWalk
import Derived.WalkKit
import Derived.WalkMore
import Derived.WalkSpells
import Derived.Deep.CutBlock
namespace Go.Proofs.Ytbolhbjipmndeaa.D
open Go.RowKit Rang
set_option maxRecDepth 100000
set_option linter.unusedVariables false

theorem hide {p : Prop} (h : p) : Hid p := h
theorem unhide {p : Prop} (h : Hid p) : p := h

theorem tmod_nat (a n : Nat) : (a : Int).tmod (n : Int) = ((a % n : Nat) : Int) := rfl

def iv (z : Int) : Value := .int .i64 z
theorem info3' : (Try.prog.info? 3).map (fun i => (i.zero, i.size, i.bytes)) = some (some (.int .i64 0), 1, 8) := by kernel_rfl

theorem cell_lt {w : World} {p : Addr} {u : Value} (h : w.cell? p = some u) : p.block < w.heap.size := by
  rcases Nat.lt_or_ge p.block w.heap.size with h' | h'
  · exact h'
  · simp [World.cell?, Array.getElem?_eq_none h'] at h

structure St (w0 w : World) (v : Value) (xs : List Value) : Prop where
  own : w.ownsRow w0.heap.size 3 1 v xs.length xs
  bel : Below w0.heap.size w0 w

theorem St.nil (w : World) : St w w (.slice none 0 0) [] := ⟨World.ownsRow_nil _ _ _ _, Below.refl _ _⟩

theorem wp_one {ops : Array Oper} {rest : List Oper} {o : Oper} {a : Act} {Q : Exit → Act → World → Prop} {w0 ws : World} (hgd : o.guard = none) (s x : Operand)
    (ho : o.op = .call { callee := .builtin .append, args := #[s, x], argTypes := #[35, 35] }) (va : Value) (xs : List Value) (X : Int) (hs : a.eval s = va) (hx : a.eval x = .slice (some ⟨ws.heap.size, 0, none⟩) 1 1)
    (hA : St w0 ws va xs) (hlen : (xs.length + 1) * 8 ≤ 140737488355328)
    (h : ∀ v' w', St w0 w' v' (xs ++ [iv X]) → wpList Try.prog ops Q rest (a.put o.dst v') w') : wpList Try.prog ops Q (o :: rest) a (ws.alloc (.cells #[iv X] 3)) := by
  obtain ⟨i0, hi, hz0, hz1, hz2⟩ := info_parts info3'
  refine wpList_append_own_at (ws.alloc (.cells #[iv X] 3)) hgd s x 35 ho w0.heap.size 3 i0 (.int .i64 0) 1 8 Try.underlying35 hi hz0 hz1 hz2 rfl (by decide) va xs.length xs hs (hA.own.alloc _) ⟨ws.heap.size, 0, none⟩ 1 1 [iv X] hx rfl ?_ (by intro u hu; rw [List.mem_singleton] at hu; subst hu; rfl) (by unfold maxLen; omega) hlen (by have := hA.bel.size; simp; omega) ?_
  · intro j u hj
    cases j with
    | zero =>
      have e : (⟨ws.heap.size, 0, none⟩ : Addr).add 0 = ⟨ws.heap.size, 0, none⟩ := by simp [Addr.add]
      rw [e]
      simp only [World.cell?, heap_alloc_new]
      simpa using hj
    | succ j => simp at hj
  · intro v' w' h2 h3 _ h5
    exact h v' w' ⟨by rw [List.length_append]; exact h2, (hA.bel.alloc hA.bel.size _).grown h3 (by have := hA.bel.size; simp; omega) (fun k e => (hA.own.lt k e).1)⟩

def bv (z : Nat) : Value := .int .u8 (z : Int)
theorem info5 : (Try.prog.info? 5).map (fun i => (i.zero, i.size, i.bytes)) = some (some (.int .u8 0), 1, 1) := by kernel_rfl

structure StB (w0 w : World) (v : Value) (xs : List Nat) : Prop where
  own : w.ownsRow w0.heap.size 5 1 v xs.length (xs.map bv)
  bel : Below w0.heap.size w0 w

theorem StB.nil (w : World) : StB w w (.slice none 0 0) [] := ⟨World.ownsRow_nil _ _ _ _, Below.refl _ _⟩

theorem wp_oneB {ops : Array Oper} {rest : List Oper} {o : Oper} {a : Act} {Q : Exit → Act → World → Prop} {w0 ws : World} (hgd : o.guard = none) (s x : Operand)
    (ho : o.op = .call { callee := .builtin .append, args := #[s, x], argTypes := #[32, 32] }) (va : Value) (xs : List Nat) (X : Nat) (hs : a.eval s = va) (hx : a.eval x = .slice (some ⟨ws.heap.size, 0, none⟩) 1 1)
    (hA : StB w0 ws va xs) (hlen : (xs.length + 1) * 8 ≤ 140737488355328)
    (h : ∀ v' w', StB w0 w' v' (xs ++ [X]) → (∀ k, k < ws.heap.size → va.ownBlock ≠ some k → w'.heap[k]? = ws.heap[k]?) → ws.heap.size ≤ w'.heap.size → (∀ b, v'.ownBlock = some b → va.ownBlock = some b ∨ ws.heap.size ≤ b) → wpList Try.prog ops Q rest (a.put o.dst v') w') : wpList Try.prog ops Q (o :: rest) a (ws.alloc (.cells #[bv X] 5)) := by
  obtain ⟨i0, hi, hz0, hz1, hz2⟩ := info_parts info5
  refine wpList_append_own_at (ws.alloc (.cells #[bv X] 5)) hgd s x 32 ho w0.heap.size 5 i0 (.int .u8 0) 1 1 Try.underlying32 hi hz0 hz1 hz2 rfl (by decide) va xs.length (xs.map bv) hs (hA.own.alloc _) ⟨ws.heap.size, 0, none⟩ 1 1 [bv X] hx rfl ?_ (by intro u hu; rw [List.mem_singleton] at hu; subst hu; rfl) (by unfold maxLen; omega) (by omega) (by have := hA.bel.size; simp; omega) ?_
  · intro j u hj
    cases j with
    | zero =>
      have e : (⟨ws.heap.size, 0, none⟩ : Addr).add 0 = ⟨ws.heap.size, 0, none⟩ := by simp [Addr.add]
      rw [e]
      simp only [World.cell?, heap_alloc_new]
      simpa using hj
    | succ j => simp at hj
  · intro v' w' h2 h3 _ h5
    refine h v' w' ⟨by rw [List.length_append, List.map_append]; exact h2, (hA.bel.alloc hA.bel.size _).grown h3 (by have := hA.bel.size; simp; omega) (fun k e => (hA.own.lt k e).1)⟩ (fun k hk hne => ?_) (by have := h3.size; simp at this; omega) (fun b e => ?_)
    · rw [h3.block k (by simp; omega) (fun e => hne e.symm), Below.heap_alloc _ _ _ hk]
    · rcases h5 with h5 | h5
      · exact .inl (by rw [← h5, e])
      · rw [e] at h5; have := Option.some.inj h5; simp at this; exact .inr (by omega)

theorem own_keep {w w' : World} {base e size n : Nat} {v : Value} {xs : List Value} (h : w.ownsRow base e size v n xs) (h2 : ∀ g, v.ownBlock = some g → w'.heap[g]? = w.heap[g]?) : w'.ownsRow base e size v n xs := by
  obtain ⟨hl, hr⟩ := h
  refine ⟨hl, ?_⟩
  rcases hr with e | ⟨g, cap, cur, e, hb, hh, r⟩
  · exact .inl e
  · exact .inr ⟨g, cap, cur, e, hb, by rw [h2 g (by rw [e]; rfl)]; exact hh, r⟩


/-- bytes that lie somewhere -/
def BytesIn (w : World) (a0 : Option Addr) (b : List Nat) : Prop := ∀ j, j < b.length → ∃ g off, a0 = some ⟨g, off, none⟩ ∧ w.cell? ⟨g, off + j, none⟩ = some (.int .u8 ((b.getD j 0 : Nat) : Int))

theorem BytesIn.stays {w w' : World} {a0 : Option Addr} {b : List Nat} (h : BytesIn w a0 b) (hb : Below w.heap.size w w') : BytesIn w' a0 b := fun j hj => by
  obtain ⟨g, off, e, hc⟩ := h j hj
  exact ⟨g, off, e, by rw [hb.cell (cell_lt hc)]; exact hc⟩

theorem getD_mem {l : List Nat} {r : Nat} (h : r < l.length) : l.getD r 0 ∈ l := by
  rw [List.getD_eq_getElem?_getD, List.getElem?_eq_getElem h]
  exact List.getElem_mem h

theorem drewN_below {B : Nat} {w x : World} (h : Below B w x) (q : Nat) : Below B w (x.drewN q) := ⟨h.os, h.tape, h.output, h.size, h.block⟩

theorem StB.drewN {w0 w : World} {v : Value} {xs : List Nat} (h : StB w0 w v xs) (q : Nat) : StB w0 (w.drewN q) v xs := ⟨h.own, drewN_below h.bel q⟩
theorem St.drewN {w0 w : World} {v : Value} {xs : List Value} (h : St w0 w v xs) (q : Nat) : St w0 (w.drewN q) v xs := ⟨h.own, drewN_below h.bel q⟩

/-- the length of what is there -/
theorem StB.len {w0 w : World} {v : Value} {xs : List Nat} (h : StB w0 w v xs) : ∃ a c, v = .slice a xs.length c := by
  rcases h.own.2 with ⟨e1, e2⟩ | ⟨g, cap, cur, e1, _⟩
  · exact ⟨none, 0, by rw [e1, e2]⟩
  · exact ⟨_, _, e1⟩

theorem St.len {w0 w : World} {v : Value} {xs : List Value} (h : St w0 w v xs) : ∃ a c, v = .slice a xs.length c := by
  rcases h.own.2 with ⟨e1, e2⟩ | ⟨g, cap, cur, e1, _⟩
  · exact ⟨none, 0, by rw [e1, e2]⟩
  · exact ⟨_, _, e1⟩

end Go.Proofs.Ytbolhbjipmndeaa.D
