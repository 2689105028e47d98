/- A range over a function, each round handed the next of what comes; a round may leave, by a return or a break. The iterator may lay a walk's object of its own and move it on. -/
import Derived.Test.YthhdlmegbbmbhaaMa
import Derived.RangeFuncNested
import Derived.RangeFuncBound
import Derived.RangeFuncCalls
import Derived.RangeFuncLeaves
import Derived.Shelf.Abstract
import Derived.Shelf.RegionOpen
import Derived.OwnWalkIn
import Derived.TacticsInMore
import Derived.LoopNIn
import Derived.LoopIn
namespace Go.Proofs.Ythhdlmegbbmbhaa
open Go.RowKit
set_option linter.unusedVariables false

variable {F : Fence} {P : Program}

theorem putObj_same {W : World} {l : Nat} {o o' : Obj} (h : W.heap[l]? = some o) : (W.putObj l o').heap[l]? = some o' := World.putObj_heap_same (Array.getElem?_eq_some_iff.1 h).1

/-- by which jump a round is left -/
def Leaves (e : Exit) (c : Code) : Prop := (e = .ret ∧ c = .ret) ∨ ∃ id, e = .exit id ∧ c = .exit id

/-- One round, that goes on or leaves. -/
theorem round_at {m l : Nat} {r : Loop} {args : Array Value} {W : World} {I' : World → Prop} {X : Code → World → Prop} (hfn : F.fn r.fn) (hl : W.heap[l]? = some (.loop r)) (hr : r.state = .ready) (hp : r.pending = none) (hs : args.size = r.params.size)
    (h : r.assign.wpIn (F.inRound l) m P (Exit.then (fun a' W' => W'.heap[l]? = some (.loop r) ∧ r.body.wpIn (F.inRound l) m P (fun e _ W'' => W''.heap[l]? = some (.loop { r with state := .busy }) ∧ ((e = .normal ∧ I' (W''.putObj l (.loop r))) ∨ (∃ c, Leaves e c ∧ X c (W''.putObj l (.loop { r with state := .done, pending := some c }))))) a' (W'.putObj l (.loop { r with state := .busy }))) (fun _ _ _ => False))
      { tmps := (r.params.zip args).foldl (fun t (p, v) => t.setIfInBounds p v) r.tmps, defers := [] } W) :
    YieldAt F m P l args W fun e W' => (e = .returned (.bool true) ∧ I' W' ∧ W'.heap[l]? = some (.loop r)) ∨ (e = .returned (.bool false) ∧ ∃ c, X c W' ∧ W'.heap[l]? = some (.loop { r with state := .done, pending := some c })) := by
  refine ⟨r.fn, _, r.assign, r.body, run_yield hl hs, roundIn_of_wpIn hfn (wpIn_mono h ?_)⟩
  rintro e a' W' hq
  cases e with
  | normal =>
    obtain ⟨h1, h2⟩ := hq
    refine ⟨_, run_beginRound h1 hr, wpIn_mono h2 ?_⟩
    rintro e a'' W'' ⟨h3, ⟨rfl, h4⟩ | ⟨c, ⟨rfl, rfl⟩ | ⟨id, rfl, rfl⟩, h4⟩⟩
    · have h5 := run_endRound (P := P) none h3
      have e2 : ({ { r with state := .busy } with state := if (none : Option Code).isNone then .ready else .done, pending := none } : Loop) = r := by
        cases r
        simp at hr hp
        subst hr hp
        rfl
      rw [e2] at h5
      exact ⟨_, _, h5, .inl ⟨rfl, h4, putObj_same h3⟩⟩
    · have h5 := run_endRound (P := P) (some .ret) h3
      exact ⟨_, _, h5, .inr ⟨rfl, _, h4, putObj_same h3⟩⟩
    · have h5 := run_endRound (P := P) (some (.exit id)) h3
      exact ⟨_, _, h5, .inr ⟨rfl, _, h4, putObj_same h3⟩⟩
  | _ => exact hq.elim

/-- An iterator that hands out N times, in its order; between two rounds it wants Kp kept. -/
def SeqAt (F : Fence) (n : Nat) (P : Program) (g : Nat) (lb : Array Value) (encs : Nat → Array Value) (Kp : World → World → Prop) (N : Nat) (w : World) : Prop :=
  ∀ (l : Nat) (J : Nat → World → Prop) (Y : World → Prop) (W : World), Below w.heap.size w W → AbidesFrom W.heap.size J → AbidesFrom W.heap.size (fun (_ : Unit) => Y) →
    (∀ k W1, k < N → J k W1 → YieldAt F (n - 1) P l (encs k) W1 fun e W' => (e = .returned (.bool true) ∧ J (k + 1) W' ∧ Kp W1 W') ∨ (e = .returned (.bool false) ∧ Y W')) → J 0 W →
    CallsIn F n P g (#[.func (.yield l) #[] #[]] ++ lb) W fun e W' => (∃ v, e = .returned v) ∧ (J N W' ∨ Y W')

/-- The whole loop. -/
theorem range_at {n : Nat} {g : Operand} {ps : Array Tmp} {assign body : Code} {Q : Exit → Act → World → Prop} {a : Act} {w : World} (hro : F.round = none) (h1 : 1 ≤ n) {gf : Nat} {lb : Array Value} (hg : a.eval g = .func (.func gf) #[] lb) (hFg : F.fn gf)
    (eg : ∀ args w, (callFunc gf args).run P w = .ok (.enter gf args) w) (encs : Nat → Array Value) (Kp : World → World → Prop) (N : Nat) (hseq : SeqAt F (n - 1) P gf lb encs Kp N w)
    (hKt : ∀ {A B C : World}, Kp A B → Kp B C → Kp A C) (hKb : ∀ (W : World) (l : Nat) (o o' : Obj), w.heap.size ≤ l → W.heap[l]? = some o → o.isCells = false → o.isWalk = false → Kp W (W.putObj l o'))
    (hps : ∀ k, (encs k).size = ps.size) (I : Nat → World → Prop) (X : Code → World → Prop) (hI : OwnFrom w.heap.size I) (hX : OwnFrom w.heap.size X) (h0 : I 0 w)
    (Ax : Nat → Act → Prop)
    (hassign : ∀ (l k : Nat) (W : World) (K : Act → World → Prop), k < N → I k W → (∀ a', Ax k a' → K a' W) →
      assign.wpIn (F.inRound l) (n - 1 - 1) P (Exit.then K (fun _ _ _ => False)) { tmps := (ps.zip (encs k)).foldl (fun t (p, v) => t.setIfInBounds p v) a.tmps, defers := [] } W)
    (hbody : ∀ (l k : Nat) (a' : Act) (W : World), k < N → I k W → Ax k a' → body.wpIn (F.inRound l) (n - 1 - 1) P (fun e _ W'' => KeepsOthers W W'' ∧ ((e = .normal ∧ Kp W W'' ∧ I (k + 1) W'') ∨ (∃ c, Leaves e c ∧ X c W''))) a' W)
    (hdone : ∀ (D : Nat) (W : World), w.heap.size ≤ D → I N W → W.heap[D]? = some (.deferred (some [])) → Q .normal { a with defers := { target := .collected D, args := #[] } :: a.defers } W)
    (hstop : ∀ (D : Nat) (c : Code) (W : World), w.heap.size ≤ D → X c W → W.heap[D]? = some (.deferred (some [])) → c.wpIn F n P Q { a with defers := { target := .collected D, args := #[] } :: a.defers } W) :
    (Code.rangeFunc g ps assign body).wpIn F n P Q a w := by
  refine wpIn_rangeFunc fun fn hfn => ?_
  rw [hro]
  obtain ⟨r, hr⟩ : ∃ r : Loop, r = { state := .ready, pending := none, fn := fn, tmps := a.tmps, params := ps, assign := assign, body := body, defers := w.heap.size } := ⟨_, rfl⟩
  have hL : ((w.alloc (.deferred (some []))).alloc (.loop r)).heap[w.heap.size + 1]? = some (.loop r) := by
    have := World.alloc_heap_new (w.alloc (.deferred (some []))) (.loop r)
    rwa [World.size_alloc] at this
  have hD : ((w.alloc (.deferred (some []))).alloc (.loop r)).heap[w.heap.size]? = some (.deferred (some [])) := (Below.heap_alloc _ _ _ (by simp)).trans (World.alloc_heap_new w _)
  have hI1 : I 0 ((w.alloc (.deferred (some []))).alloc (.loop r)) := hI.alloc _ (hI.alloc _ h0)
  have hb1 : Below w.heap.size w ((w.alloc (.deferred (some []))).alloc (.loop r)) := ((Below.refl _ w).alloc (Nat.le_refl _) _).alloc (by simp) _
  have hz1 : ((w.alloc (.deferred (some []))).alloc (.loop r)).heap.size = w.heap.size + 2 := by simp
  obtain ⟨W1, hW1⟩ : ∃ W1, W1 = (w.alloc (.deferred (some []))).alloc (.loop r) := ⟨_, rfl⟩
  rw [← hW1] at hL hD hI1 hb1 hz1
  refine ⟨w.heap.size + 1, [{ target := .collected w.heap.size, args := #[] }], W1, { target := .fn (.func gf) lb, args := #[.func (.yield (w.heap.size + 1)) #[] #[]] }, W1, gf, #[.func (.yield (w.heap.size + 1)) #[] #[]] ++ lb, W1,
    (by rw [hW1, hr]; exact run_enterLoop_outer _ _ _ _ _), (by simp only [resolve, hg]; simp [go_sem]), (fun f' hf' => by simp [Target.leads] at hf'; subst hf'; exact hFg), (by simp [invoke, go_sem, eg]), fun _ => h1, ?_⟩
  have kp : ∀ {β : Type} {A B : World} {row : Option Nat}, A.grownBy B row → (∀ r, row = some r → W1.heap.size ≤ r ∧ ∃ o : Obj, A.heap[r]? = some o ∧ o.isWalk = true) → ∀ (I : β → World → Prop) (s : β), OwnFrom w.heap.size I → I s A → I s B :=
    fun hg' hr' I s hI hi => hI s _ _ _ hi hg' (fun r e => by obtain ⟨x, o, y, z⟩ := hr' r e; exact ⟨by omega, o, y, Obj.not_cells_of_walk z⟩)
  have kl : ∀ {A B : World} {row : Option Nat} {k : Nat} {o : Obj}, A.grownBy B row → (∀ r, row = some r → W1.heap.size ≤ r ∧ ∃ o : Obj, A.heap[r]? = some o ∧ o.isWalk = true) → k < W1.heap.size → A.heap[k]? = some o → B.heap[k]? = some o := by
    intro A B row k o hg' hr' hk ho
    refine (hg'.block k (Array.getElem?_eq_some_iff.1 ho).1 (fun e => ?_)).trans ho
    have := (hr' k e.symm).1
    omega
  refine (hseq (w.heap.size + 1) (fun k W => I k W ∧ W.heap[w.heap.size]? = some (.deferred (some [])) ∧ W.heap[w.heap.size + 1]? = some (.loop r)) (fun W => ∃ c, X c W ∧ W.heap[w.heap.size]? = some (.deferred (some [])) ∧ W.heap[w.heap.size + 1]? = some (.loop { r with state := .done, pending := some c })) W1 hb1
    (fun s A B row hs hg' hr' => ⟨kp hg' hr' I s hI hs.1, kl hg' hr' (by omega) hs.2.1, kl hg' hr' (by omega) hs.2.2⟩)
    (fun s A B row hs hg' hr' => by obtain ⟨c, x1, x2, x3⟩ := hs; exact ⟨c, kp hg' hr' X c hX x1, kl hg' hr' (by omega) x2, kl hg' hr' (by omega) x3⟩) ?_ ⟨hI1, hD, hL⟩).mono ?_
  · rintro k W hk ⟨hi, hd, hl⟩
    have hrd := round_at (F := F) (P := P) (m := n - 1 - 1) (l := w.heap.size + 1) (r := r) (args := encs k) (W := W) (I' := fun W' => I (k + 1) W' ∧ Kp W W' ∧ W'.heap[w.heap.size]? = some (.deferred (some []))) (X := fun c W' => X c W' ∧ W'.heap[w.heap.size]? = some (.deferred (some []))) (by rw [hr]; exact hfn) hl (by rw [hr]) (by rw [hr]) (by rw [hr]; exact hps k) (by
      have e1 : r.assign = assign := by rw [hr]
      have e2 : r.body = body := by rw [hr]
      have e3 : r.params = ps := by rw [hr]
      have e4 : r.tmps = a.tmps := by rw [hr]
      have hassign' := hassign
      have hbody' := hbody
      rw [← e1, ← e3, ← e4] at hassign'
      rw [← e2] at hbody'
      refine hassign' _ k W _ hk hi fun a' hax => ?_
      refine ⟨hl, wpIn_mono (hbody' _ k a' _ hk (hI.putObj _ hi (by omega) hl rfl) hax) ?_⟩
      rintro e a'' W'' ⟨kp2, hor⟩
      have hl2 := kp2.same (w.heap.size + 1) (.loop { r with state := .busy }) (putObj_same hl) rfl
      have hd2 := kp2.same w.heap.size (.deferred (some [])) ((World.putObj_heap_other (by omega)).trans hd) rfl
      refine ⟨hl2, ?_⟩
      rcases hor with ⟨rfl, hkp, hi2⟩ | ⟨c, hc, hx2⟩
      · exact .inl ⟨rfl, hI.putObj _ hi2 (by omega) hl2 rfl, hKt (hKt (hKb _ _ _ _ (by omega) hl rfl rfl) hkp) (hKb _ _ _ _ (by omega) hl2 rfl rfl), (World.putObj_heap_other (by omega)).trans hd2⟩
      · exact .inr ⟨c, hc, hX.putObj _ hx2 (by omega) hl2 rfl, (World.putObj_heap_other (by omega)).trans hd2⟩)
    obtain ⟨f', t', as', b', hy, hR⟩ := hrd
    refine ⟨f', t', as', b', hy, hR.mono ?_⟩
    rintro e W' (⟨x1, ⟨x2, x5, x3⟩, x4⟩ | ⟨x1, c, ⟨x2, x3⟩, x4⟩)
    · exact .inl ⟨x1, ⟨x2, x3, x4⟩, x5⟩
    · exact .inr ⟨x1, c, x2, x3, x4⟩
  · rintro e W2 ⟨⟨v, rfl⟩, ⟨hi, hd, hl⟩ | ⟨c, hx, hd, hl⟩⟩
    · have h2 := run_endLoop (P := P) hl (by rw [hr]; simp)
      have e2 : r.pending = none := by rw [hr]
      rw [e2] at h2
      exact ⟨none, _, h2, hdone _ _ (Nat.le_refl _) (hI.putObj _ hi (by omega) hl rfl) ((World.putObj_heap_other (by omega)).trans hd)⟩
    · have h2 := run_endLoop (P := P) hl (by simp)
      exact ⟨some c, _, h2, hstop _ c _ (Nat.le_refl _) (hX.putObj _ hx (by omega) hl rfl) ((World.putObj_heap_other (by omega)).trans hd)⟩

end Go.Proofs.Ythhdlmegbbmbhaa
