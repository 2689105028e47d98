/- A chunk's size is kept. -/
import Derived.Test.YthafoojlkaifkaaKh
namespace Go.Proofs.Ythafoojlkaifkaa.K
open Go.RowKit H
set_option maxRecDepth 100000
set_option linter.unusedVariables false
attribute [local go_sem ↓] Go.wp_at_zero Go.wp_at_succ

def iv (z : Int) : Value := .int .i64 z
theorem info3' : (Try.prog.info? 3).map (fun i => (i.zero, i.size, i.bytes)) = some (some (.int .i64 0), 1, 8) := by kernel_rfl

/-- a row of ints of one's own -/
structure RI (B : Nat) (w : World) (v : Value) (xs : List Value) : Prop where
  own : w.ownsRow B 3 1 v xs.length xs
  le : B ≤ w.heap.size

theorem RI.len {B : Nat} {w : World} {v : Value} {xs : List Value} (h : RI B w v xs) : ∃ a n c, v = .slice a n c ∧ n = xs.length := by
  rcases h.own.2 with ⟨e1, e2⟩ | ⟨g, cap, cur, e1, _⟩
  · exact ⟨none, 0, 0, by rw [e1], e2.symm⟩
  · exact ⟨_, _, _, e1, rfl⟩

/-- what an append may change -/
structure RT (w w' : World) (v v' : Value) : Prop where
  os : w'.os = w.os
  tape : w'.tape = w.tape
  output : w'.output = w.output
  size : w.heap.size ≤ w'.heap.size
  keep : ∀ k, k < w.heap.size → v.ownBlock ≠ some k → w'.heap[k]? = w.heap[k]?
  lies : ∀ b, v'.ownBlock = some b → v.ownBlock = some b ∨ w.heap.size ≤ b

theorem wp_oneI {B : Nat} {ops : Array Oper} {rest : List Oper} {o : Oper} {a : Act} {Q : Exit → Act → World → Prop} {ws : World} (hgd : o.guard = none) (s x : Operand)
    (ho : o.op = .call { callee := .builtin .append, args := #[s, x], argTypes := #[23, 23] }) (va : Value) (xs : List Value) (X : Int) (hs : a.eval s = va) (hx : a.eval x = .slice (some ⟨ws.heap.size, 0, none⟩) 1 1)
    (hA : RI B ws va xs) (hlen : (xs.length + 1) * 8 ≤ 140737488355328)
    (h : ∀ v' w', RI B w' v' (xs ++ [iv X]) → RT ws w' va v' → wpList Try.prog ops Q rest (a.put o.dst v') w') : wpList Try.prog ops Q (o :: rest) a (ws.alloc (.cells #[iv X] 3)) := by
  obtain ⟨i0, hi, hz0, hz1, hz2⟩ := info_parts info3'
  refine wpList_append_own_at (ws.alloc (.cells #[iv X] 3)) hgd s x 23 ho B 3 i0 (.int .i64 0) 1 8 Try.underlying23 hi hz0 hz1 hz2 rfl (by decide) va xs.length xs hs (hA.own.alloc _) ⟨ws.heap.size, 0, none⟩ 1 1 [iv X] hx rfl ?_ (by intro u hu; rw [List.mem_singleton] at hu; subst hu; rfl) (by unfold maxLen; omega) hlen (by have := hA.le; simp; omega) ?_
  · intro j u hj
    cases j with
    | zero =>
      have e : (⟨ws.heap.size, 0, none⟩ : Addr).add 0 = ⟨ws.heap.size, 0, none⟩ := by simp [Addr.add]
      rw [e]
      simp only [World.cell?, heap_alloc_new]
      simpa using hj
    | succ j => simp at hj
  · intro v' w' h2 h3 _ h5
    refine h v' w' ⟨by rw [List.length_append]; exact h2, by have := h3.size; have := hA.le; simp at *; omega⟩ ⟨h3.os, h3.tape, h3.output, by have := h3.size; simp at this; omega, fun k hk hne => ?_, fun b e => ?_⟩
    · rw [h3.block k (by simp; omega) (fun e => hne e.symm), Below.heap_alloc _ _ _ hk]
    · rcases h5 with h5 | h5
      · exact .inl (by rw [← h5, e])
      · rw [e] at h5; have := Option.some.inj h5; simp at this; exact .inr (by omega)

/-- what keeps a size -/
structure TakeT (lb : Nat) (w w' : World) (v v' : Value) : Prop where
  os : w'.os = w.os
  tape : w'.tape = w.tape
  output : w'.output = w.output
  size : w.heap.size ≤ w'.heap.size
  keep : ∀ k, k < w.heap.size → k ≠ lb → v.ownBlock ≠ some k → w'.heap[k]? = w.heap[k]?
  lies : ∀ b, v'.ownBlock = some b → v.ownBlock = some b ∨ w.heap.size ≤ b

def TakeIs (B lb : Nat) (v : Value) (xs : List Value) (n : Nat) (w : World) (e : Ending) (w' : World) : Prop := e = .returned (.int .i64 0) ∧ ∃ v', w'.heap[lb]? = some (.cells #[v'] 23 (0, 0)) ∧ RI B w' v' (xs ++ [iv (n : Int)]) ∧ TakeT lb w w' v v'

theorem take_ok {B lb k n : Nat} {lc lp pb : Int} {body v : Value} {xs : List Value} {w : World} (hl : w.heap[lb]? = some (.cells #[v] 23 (0, 0))) (hlB : lb < B) (hA : RI B w v xs) (hlen : (xs.length + 1) * 8 ≤ 140737488355328) :
    Calls Try.prog 9 #[.agg (ccells k n lc lp pb body), .pointer (some ⟨lb, 0, none⟩)] w (TakeIs B lb v xs n w) := by
  have hlw := heap_lt hl
  have hA1 : RI B (w.alloc (.cells (ccells k n lc lp pb body) 37)) v xs := ⟨hA.own.alloc _, by have := hA.le; simp; omega⟩
  have c0 : (w.alloc (.cells (ccells k n lc lp pb body) 37)).cell? ⟨lb, 0, none⟩ = some v := by simp [World.cell?, Below.heap_alloc _ _ _ hlw, hl]
  have c1 : (w.alloc (.cells (ccells k n lc lp pb body) 37)).cell? ⟨w.heap.size, 1, none⟩ = some (.int .i64 (n : Int)) := by
    simp only [World.cell?, heap_alloc_new]
    rfl
  have HL := hide hl
  have HF : Hid (∀ v' w2, RI B w2 v' (xs ++ [iv (n : Int)]) → RT (w.alloc (.cells (ccells k n lc lp pb body) 37)) w2 v v' → TakeIs B lb v xs n w (.returned (.int .i64 0)) (w2.setCell ⟨lb, 0, none⟩ v')) := hide fun v' w2 h1 h2 => by
    have h3 : w2.heap[lb]? = some (.cells #[v] 23 (0, 0)) := by
      rw [h2.keep lb (by simp; omega) (fun e => by have := (hA.own.lt lb e).1; omega), Below.heap_alloc _ _ _ hlw]
      exact hl
    refine ⟨rfl, v', by rw [heap_setCell_same w2 lb 0 _ 23 _ h3]; rfl, ⟨own_keep h1.own fun g e => heap_setCell_other _ _ _ _ (fun e' => ?_), by have := h1.le; simp; omega⟩, h2.os, h2.tape, h2.output, by have := h2.size; simp at this ⊢; omega, fun x hx hn ho => ?_, fun b e => ?_⟩
    · have h7 := (h1.own.lt g e).1; have h8 : g = lb := e'; omega
    · rw [heap_setCell_other _ _ _ _ hn, h2.keep x (by simp; omega) ho, Below.heap_alloc _ _ _ hx]
    · rcases h2.lies b e with h4 | h4
      · exact .inl h4
      · exact .inr (by simp at h4; omega)
  have HC : Hid (∀ v' w2, RT (w.alloc (.cells (ccells k n lc lp pb body) 37)) w2 v v' → w2.cell? ⟨lb, 0, none⟩ = some v ∧ w2.frozen? ⟨lb, 0, none⟩ = false) := hide fun v' w2 h2 => by
    have h3 : w2.heap[lb]? = some (.cells #[v] 23 (0, 0)) := by
      rw [h2.keep lb (by simp; omega) (fun e => by have := (hA.own.lt lb e).1; omega), Below.heap_alloc _ _ _ hlw]
      exact hl
    exact ⟨by simp [World.cell?, h3], by simp [World.frozen?, h3]⟩
  have HA1 := hide hA1
  have HLEN := hide hlen
  generalize TakeIs B lb v xs n w = POST at HF ⊢
  clear hl hlB hA hA1 hlen hlw HL
  unfold ccells at *
  go_enter Try.func9, Try.ntmps9
  go_upto_region 1 with fail
  generalize w.alloc _ = w1 at *
  go_wp2_with (at_builtin; refine wp_oneI rfl (.tmp 4) (.tmp 7) rfl v xs (n : Int) (by simp [go_sem]) (by simp [go_sem]) (unhide HA1) (unhide HLEN) ?_; intro v2 w2 h2 h3; obtain ⟨a2, n2, c2, e2, e3⟩ := h2.len; rw [List.length_append] at e3; subst e2; subst e3; obtain ⟨d0, d1⟩ := unhide HC _ w2 h3; have HFF := hide (unhide HF _ _ h2 h3); clear h2 h3)
  first
  | exact unhide HFF
  | (go_ret; exact unhide HFF)
end Go.Proofs.Ythafoojlkaifkaa.K
