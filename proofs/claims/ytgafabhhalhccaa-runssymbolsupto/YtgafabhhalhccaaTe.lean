/- The two tellers: what is told is counted, or made. -/
import Derived.Test.YtgafabhhalhccaaPp
import Derived.Test.YtgafabhhalhccaaMem
namespace Go.Proofs.Ytgafabhhalhccaa
open Go.RowKit Runs
set_option maxRecDepth 100000
set_option linter.unusedVariables false
attribute [local go_sem ↓] Go.wp_at_zero Go.wp_at_succ

/-- a variable of its own that holds a value -/
def BoxAt (w : World) (g : Nat) (t : TypeId) (v : Value) : Prop := w.heap[g]? = some (.cells #[v] t (0, 0))

theorem BoxAt.cell {w : World} {g : Nat} {t : TypeId} {v : Value} (h : BoxAt w g t v) : w.cell? ⟨g, 0, none⟩ = some v := by
  simp only [World.cell?, show w.heap[g]? = _ from h]; rfl
theorem BoxAt.free {w : World} {g : Nat} {t : TypeId} {v : Value} (h : BoxAt w g t v) : w.frozen? ⟨g, 0, none⟩ = false := by
  simp [World.frozen?, show w.heap[g]? = _ from h]
theorem BoxAt.set {w : World} {g : Nat} {t : TypeId} {v : Value} (h : BoxAt w g t v) (u : Value) : BoxAt (w.setCell ⟨g, 0, none⟩ u) g t u := by
  unfold BoxAt
  rw [heap_setCell_same w g 0 _ t u h]
  rfl
theorem BoxAt.lt {w : World} {g : Nat} {t : TypeId} {v : Value} (h : BoxAt w g t v) : g < w.heap.size := heap_lt h

/-- so many have been counted -/
structure Cnt (w0 : World) (gr : Nat) (most : Int) (k : Nat) (w : World) : Prop where
  box : BoxAt w gr 3 (.int .i64 (most - (k : Int)))
  bel : Below gr w0 w
  le : (k : Int) ≤ most

set_option maxHeartbeats 4000000 in
theorem tell1_ok (w0 w : World) (gr : Nat) (most : Int) (k : Nat) (h : Cnt w0 gr most k w) (hm : most ≤ 9223372036854775807) (c : Value) (x : Nat) :
    Calls Try.prog 40 #[c, .int .i64 (x : Int), .pointer (some ⟨gr, 0, none⟩)] w fun e w' => ((k : Int) + (x : Int) ≤ most ∧ e = .returned (.int .i64 0) ∧ Cnt w0 gr most (k + x) w') ∨ (most < (k : Int) + (x : Int) ∧ e = .returned (.int .i64 3) ∧ w' = w) := by
  have c1 := h.box.cell
  have c2 := h.box.free
  have hle := h.le
  have H := hide h
  clear h
  by_cases hb : most - (k : Int) < (x : Int)
  · have HB : Hid (most < (k : Int) + (x : Int)) := hide (by omega)
    go_enter Try.func40, Try.ntmps40
    go_wp2_with fail
    go_ret
    exact .inr ⟨unhide HB, rfl, rfl⟩
  · have HB : Hid ((k : Int) + (x : Int) ≤ most) := hide (by omega)
    have fw : IntKind.i64.wrap (most - (k : Int) - (x : Int)) = most - (k : Int) - (x : Int) := by rw [IntKind.wrap_i64]; omega
    go_enter Try.func40, Try.ntmps40
    go_wp2_with fail
    go_ret
    refine .inl ⟨unhide HB, rfl, ?_, ?_, by have := unhide HB; omega⟩
    · have := (unhide H).box.set (.int .i64 (most - (k : Int) - (x : Int)))
      rw [show most - (k : Int) - (x : Int) = most - ((k + x : Nat) : Int) by omega] at this ⊢
      exact this
    · exact (unhide H).bel.setCell (Nat.le_refl _) _

theorem StB.shape {w0 w : World} {v : Value} {xs : List Nat} (h : StB w0 w v xs) : ∃ a n c, v = .slice a n c := by
  obtain ⟨a, c, e⟩ := h.len
  exact ⟨a, _, c, e⟩

/-- so much has been made -/
structure Mak (w0 : World) (ga : Nat) (out : List Nat) (va : Value) (w : World) : Prop where
  box : BoxAt w ga 22 va
  row : StB w0 w va out
  lo : w0.heap.size ≤ ga

theorem Mak.apart {w0 w : World} {ga : Nat} {out : List Nat} {va : Value} (h : Mak w0 ga out va w) : va.ownBlock ≠ some ga := by
  intro e
  rcases h.row.own.2 with ⟨e1, e2⟩ | ⟨g, cap, cur, e1, hb, hh, _⟩
  · rw [e1] at e; cases e
  · rw [e1] at e
    obtain rfl : g = ga := Option.some.inj e
    have := h.box
    unfold BoxAt at this
    rw [hh] at this
    injection this with this
    injection this with _ h2
    cases h2

theorem mak_box {w0 ws w' : World} {ga : Nat} {out : List Nat} {va : Value} (h : Mak w0 ga out va ws) (hk : ∀ k, k < ws.heap.size → va.ownBlock ≠ some k → w'.heap[k]? = ws.heap[k]?) : BoxAt w' ga 22 va := by
  unfold BoxAt
  rw [hk ga h.box.lt h.apart]
  exact h.box

theorem mak_step {w0 ws w' : World} {ga : Nat} {out xs : List Nat} {va v' : Value} (h : Mak w0 ga out va ws) (h3 : StB w0 w' v' xs) (hk : ∀ k, k < ws.heap.size → va.ownBlock ≠ some k → w'.heap[k]? = ws.heap[k]?) (hb : ∀ b, v'.ownBlock = some b → va.ownBlock = some b ∨ ws.heap.size ≤ b) : Mak w0 ga xs v' (w'.setCell ⟨ga, 0, none⟩ v') := by
  refine ⟨(mak_box h hk).set v', ⟨own_keep h3.own fun g e => heap_setCell_other _ _ _ _ ?_, h3.bel.setCell h.lo _⟩, h.lo⟩
  show g ≠ ga
  rintro rfl
  rcases hb g e with h4 | h4
  · exact h.apart h4
  · have := h.box.lt; omega

set_option maxHeartbeats 4000000 in
theorem tell2_ok (w0 w : World) (ga : Nat) (out : List Nat) (va : Value) (c x : Nat) (h : Mak w0 ga out va w) (hx : x ≤ 255) (hl : out.length + x ≤ 1000000000) :
    Calls Try.prog 41 #[.int .u8 (c : Int), .int .i64 (x : Int), .pointer (some ⟨ga, 0, none⟩)] w fun e w' => e = .returned (.int .i64 0) ∧ ∃ v', Mak w0 ga (out ++ List.replicate x c) v' w' := by
  have H := hide h
  clear h
  go_enter Try.func41, Try.ntmps41
  go_wp2_with fail
  go_loopg [7] x (fun gk d ws => ∃ (k : Nat), gk = x - k ∧ k ≤ x ∧ d = .int .i64 (k : Int) ∧ Hid (∃ v', Mak w0 ga (out ++ List.replicate k c) v' ws))
  case atStart => exact ⟨0, by omega, by omega, rfl, hide ⟨va, by simpa using unhide H⟩⟩
  case round =>
    clear H
    obtain ⟨k, rfl, hk, rfl, H⟩ := hrel
    by_cases hlt : k < x
    · have tl : (k : Int) < (x : Int) := by omega
      obtain ⟨v1, h1⟩ := unhide H
      have c1 := h1.box.cell
      have H1 := hide h1
      clear h1 H
      go_wp2_with (at_builtin; refine wp_oneB rfl _ _ rfl _ _ c (by rfl) (by rfl) (unhide H1).row (by rw [List.length_append, List.length_replicate]; omega) ?_; intro v3 w3 h3 h4 h5 h6; have H3 : Hid (Mak w0 ga (out ++ List.replicate k c ++ [c]) v3 (w3.setCell ⟨ga, 0, none⟩ v3)) := hide (mak_step (unhide H1) h3 h4 h6); have c3 : w3.cell? ⟨ga, 0, none⟩ = some v1 := (mak_box (unhide H1) h4).cell; have c4 : w3.frozen? ⟨ga, 0, none⟩ = false := (mak_box (unhide H1) h4).free; obtain ⟨a3, n3, k3, e3⟩ := h3.shape; subst e3; clear h3 h4 h5 h6)
      go_roundg (x - (k + 1))
      case measure => omega
      case rel => exact ⟨k + 1, rfl, by omega, by go_num, hide ⟨_, by rw [List.replicate_succ', ← List.append_assoc]; exact unhide H3⟩⟩
    · obtain rfl : k = x := by omega
      have tl : ¬ (k : Int) < (k : Int) := by omega
      go_wp2_with fail
      go_ret
      exact ⟨rfl, unhide H⟩
end Go.Proofs.Ytgafabhhalhccaa
