/-
  Plain steps through a statement whose order Go leaves open: an operation that reads is taken first; a call is met by its contract; what is held of memory may be said anew on the way.
-/
import Derived.Deep.RegionHeld3
import Derived.StillTailTactics
import Derived.WalkKit
namespace Go.Proofs.Ytcppnkbfndhioaa
open Go.RowKit

section
variable {P : Program} {md : Region.Mode} {ops : Array Oper} {Q : Exit → Act → World → Prop} {S S' : World → Prop}

theorem held_switch (hSS : ∀ w, S' w → S w) :
    ∀ {fuel : Nat} {listed : Array Bool} {a : Act} {w : World}, wpAnyH P md ops Q S' fuel listed a w → wpAnyH P md ops Q S fuel listed a w
  | 0, _, _, _, h => h
  | _ + 1, _, _, _, h => ⟨h.1, fun i hi => wpOp_mono (fun _ w' h' => ⟨hSS w' h'.1, held_switch hSS h'.2⟩) (h.2 i hi)⟩

/-- An operation that yields in every world that meets S is taken first. -/
theorem held_take {oi : Oper} {v : Value} {fuel : Nat} {listed : Array Bool} {l : List Value} {df : List Deferred} {w : World} (i d : Nat) (hi : ops[i]? = some oi) (hd : oi.dst = some d)
    (hs : Region.noSelect ops = true) (hf : Region.free md ops listed i = true) (hr : (Region.ready md ops listed).contains i = true)
    (hw : Region.wanted oi (yielded ops l.toArray) = true) (hS : S w) (hQ : ∀ c a w, ¬ Q (.panic c) a w)
    (hy : ∀ x, S x → (execOp (Act.eval ⟨l.toArray, df⟩) oi).run P x = .ok (.value v) x)
    (h : wpAnyH P md ops Q S fuel (listed.setIfInBounds i true) ⟨(l.set d v).toArray, df⟩ w) : wpAnyH P md ops Q S (fuel + 1) listed ⟨l.toArray, df⟩ w := by
  refine wpAnyH_take (i := i) (v := v) hi hs hf hr (fun c a w h => absurd h (hQ _ _ _)) (Or.inl ⟨hw, hy⟩) hS ?_
  have e : Act.put (⟨l.toArray, df⟩ : Act) oi.dst v = ⟨(l.set d v).toArray, df⟩ := by rw [hd]; simp [Act.put]
  rw [e]
  exact h

/-- A call that alone may come up now, by its contract. -/
theorem held_enter {o : Oper} {f : FuncId} {args : Array Value} {fuel : Nat} {listed : Array Bool} {l : List Value} {df : List Deferred} {w : World} (i d : Nat) (hr : Region.ready md ops listed = [i]) (hi : ops[i]? = some o) (hd : o.dst = some d)
    (hw : Region.wanted o (yielded ops l.toArray) = true) (hrun : (execOp (Act.eval ⟨l.toArray, df⟩) o).run P w = .ok (.enter f args) w)
    (h : Calls P f args w fun e w' => ∃ v, e = .returned v ∧ S w' ∧ wpAnyH P md ops Q S fuel (listed.setIfInBounds i true) ⟨(l.set d v).toArray, df⟩ w') : wpAnyH P md ops Q S (fuel + 1) listed ⟨l.toArray, df⟩ w := by
  refine wpAnyH_ready hr (by simp) (AllReadyH.cons hi (fun K hK => ?_) AllReadyH.nil)
  rw [if_pos hw]
  unfold Oper.wp
  rw [hrun, Oper.upon_enter]
  refine h.mono ?_
  rintro e w' ⟨v, rfl, hS, h2⟩
  have e : Act.put (⟨l.toArray, df⟩ : Act) o.dst v = ⟨(l.set d v).toArray, df⟩ := by rw [hd]; simp [Act.put]
  show K (Act.put ⟨l.toArray, df⟩ o.dst v) w'
  rw [e]
  exact hK.out _ _ hS (fun _ => h2)

end

/-- A region whose last operations wait for all that only reads. -/
theorem wp_tail {P : Program} {id : Nat} {Q : Exit → Act → World → Prop} {a : Act} {w : World} {l : List Oper} (n : Nat) (hm : P.follows .mixedOrders = true) (hB : Region.lexTailB .any l.toArray n = true)
    (h : wpStill P l.toArray w.drew (fun a' => wpList P l.toArray Q (l.drop n) a' w.drew) (l.take n) a) : (Code.region id l.toArray true).wp P Q a w := wp_region_still_tail n hm hB h

theorem noPanic_panic {Q : Exit → Act → World → Prop} (c : List PanicEntry) (a : Act) (w : World) : ¬ NoPanic Q (.panic c) a w := fun h => h

end Go.Proofs.Ytcppnkbfndhioaa
