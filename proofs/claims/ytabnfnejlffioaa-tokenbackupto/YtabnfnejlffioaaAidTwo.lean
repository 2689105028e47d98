/- More plain steps through a statement whose order Go leaves open: where more than one operation may come up next. -/
import Derived.Test.YtabnfnejlffioaaAid
import Derived.Test.YtabnfnejlffioaaKit
namespace Go.Proofs.Ytabnfnejlffioaa
open Go.RowKit

/-- an int in memory -/
def iv (z : Int) : Value := .int .i64 z

theorem info3' : (Try.prog.info? 3).map (fun i => (i.zero, i.size, i.bytes)) = some (some (.int .i64 0), 1, 8) := by kernel_rfl

section
variable {P : Program} {md : Region.Mode} {ops : Array Oper} {Q : Exit → Act → World → Prop} {S : World → Prop}

/-- One of those that may come up yields. -/
theorem held_go {o : Oper} {v : Value} {fuel : Nat} {listed : Array Bool} {l : List Value} {df : List Deferred} {w w' : World} {K : Act → World → Prop} (i d : Nat)
    (hK : Shut (∀ a w, S w → (S w → wpAnyH P md ops Q S fuel (listed.setIfInBounds i true) a w) → K a w)) (hd : o.dst = some d)
    (hw : Region.wanted o (yielded ops l.toArray) = true) (hrun : (execOp (Act.eval ⟨l.toArray, df⟩) o).run P w = .ok (.value v) w') (hS : S w')
    (h : wpAnyH P md ops Q S fuel (listed.setIfInBounds i true) ⟨(l.set d v).toArray, df⟩ w') :
    if Region.wanted o (yielded ops (⟨l.toArray, df⟩ : Act).tmps) = true then Oper.wp P o ⟨l.toArray, df⟩ w K Q else K ((⟨l.toArray, df⟩ : Act).put o.dst undef) w := by
  rw [if_pos hw]
  unfold Oper.wp
  rw [hrun, Oper.upon_value]
  have e : Act.put (⟨l.toArray, df⟩ : Act) o.dst v = ⟨(l.set d v).toArray, df⟩ := by rw [hd]; simp [Act.put]
  rw [e]
  exact hK.out _ _ hS (fun _ => h)

theorem held_two {fuel : Nat} {listed : Array Bool} {a : Act} {w : World} {i j : Nat} {o1 o2 : Oper} (hr : Region.ready md ops listed = [i, j]) (h1 : ops[i]? = some o1) (h2 : ops[j]? = some o2)
    (k1 : ∀ K : Act → World → Prop, Shut (∀ a w, S w → (S w → wpAnyH P md ops Q S fuel (listed.setIfInBounds i true) a w) → K a w) → if Region.wanted o1 (yielded ops a.tmps) = true then Oper.wp P o1 a w K Q else K (a.put o1.dst undef) w)
    (k2 : ∀ K : Act → World → Prop, Shut (∀ a w, S w → (S w → wpAnyH P md ops Q S fuel (listed.setIfInBounds j true) a w) → K a w) → if Region.wanted o2 (yielded ops a.tmps) = true then Oper.wp P o2 a w K Q else K (a.put o2.dst undef) w) :
    wpAnyH P md ops Q S (fuel + 1) listed a w := wpAnyH_ready hr (by simp) (AllReadyH.cons h1 k1 (AllReadyH.cons h2 k2 AllReadyH.nil))

theorem held_three {fuel : Nat} {listed : Array Bool} {a : Act} {w : World} {i j k : Nat} {o1 o2 o3 : Oper} (hr : Region.ready md ops listed = [i, j, k]) (h1 : ops[i]? = some o1) (h2 : ops[j]? = some o2) (h3 : ops[k]? = some o3)
    (k1 : ∀ K : Act → World → Prop, Shut (∀ a w, S w → (S w → wpAnyH P md ops Q S fuel (listed.setIfInBounds i true) a w) → K a w) → if Region.wanted o1 (yielded ops a.tmps) = true then Oper.wp P o1 a w K Q else K (a.put o1.dst undef) w)
    (k2 : ∀ K : Act → World → Prop, Shut (∀ a w, S w → (S w → wpAnyH P md ops Q S fuel (listed.setIfInBounds j true) a w) → K a w) → if Region.wanted o2 (yielded ops a.tmps) = true then Oper.wp P o2 a w K Q else K (a.put o2.dst undef) w)
    (k3 : ∀ K : Act → World → Prop, Shut (∀ a w, S w → (S w → wpAnyH P md ops Q S fuel (listed.setIfInBounds k true) a w) → K a w) → if Region.wanted o3 (yielded ops a.tmps) = true then Oper.wp P o3 a w K Q else K (a.put o3.dst undef) w) :
    wpAnyH P md ops Q S (fuel + 1) listed a w := wpAnyH_ready hr (by simp) (AllReadyH.cons h1 k1 (AllReadyH.cons h2 k2 (AllReadyH.cons h3 k3 AllReadyH.nil)))

/-- One that alone may come up yields. -/
theorem held_one {o : Oper} {v : Value} {fuel : Nat} {listed : Array Bool} {l : List Value} {df : List Deferred} {w w' : World} (i d : Nat) (hr : Region.ready md ops listed = [i]) (hi : ops[i]? = some o) (hd : o.dst = some d)
    (hw : Region.wanted o (yielded ops l.toArray) = true) (hrun : (execOp (Act.eval ⟨l.toArray, df⟩) o).run P w = .ok (.value v) w') (hS : S w')
    (h : wpAnyH P md ops Q S fuel (listed.setIfInBounds i true) ⟨(l.set d v).toArray, df⟩ w') : wpAnyH P md ops Q S (fuel + 1) listed ⟨l.toArray, df⟩ w :=
  wpAnyH_ready hr (by simp) (AllReadyH.cons hi (fun K hK => held_go i d hK hd hw hrun hS h) AllReadyH.nil)

/-- One that alone may come up stores. -/
theorem held_skip {o : Oper} {fuel : Nat} {listed : Array Bool} {a : Act} {w w' : World} (i : Nat) (hr : Region.ready md ops listed = [i]) (hi : ops[i]? = some o) (hd : o.dst = none)
    (hw : Region.wanted o (yielded ops a.tmps) = true) (hrun : (execOp (Act.eval a) o).run P w = .ok .skip w') (hS : S w')
    (h : wpAnyH P md ops Q S fuel (listed.setIfInBounds i true) a w') : wpAnyH P md ops Q S (fuel + 1) listed a w := by
  refine wpAnyH_ready hr (by simp) (AllReadyH.cons hi (fun K hK => ?_) AllReadyH.nil)
  rw [if_pos hw]
  unfold Oper.wp
  rw [hrun, Oper.upon_skip]
  have e : Act.put a o.dst undef = a := by rw [hd]; rfl
  rw [e]
  exact hK.out _ _ hS (fun _ => h)

/-- A row of ints that alone may be appended to: one more. -/
theorem held_append {o : Oper} {fuel : Nat} {listed : Array Bool} {l : List Value} {df : List Deferred} {w : World} (i d : Nat) (s x : Operand) (hr : Region.ready md ops listed = [i]) (hi : ops[i]? = some o) (hd : o.dst = some d)
    (hw : Region.wanted o (yielded ops l.toArray) = true) (ho : o.op = .call { callee := .builtin .append, args := #[s, x], argTypes := #[63, 63] }) (hP : P = Try.prog)
    (base : Nat) (v : Value) (n : Nat) (xs : List Value) (hs : Act.eval ⟨l.toArray, df⟩ s = v) (hown : w.ownsRow base 3 1 v n xs) (ad : Addr) (z : Int) (hx : Act.eval ⟨l.toArray, df⟩ x = .slice (some ad) 1 1)
    (hnew : w.cell? ad = some (.int .i64 z)) (hb : n + 1 ≤ 1000000000) (hbase : base ≤ w.heap.size) (H : Nat) (hH : w.heap.size = H) (hS : ∀ w', w.grownBy w' v.ownBlock → S w')
    (h : ∀ g cap w', w'.ownsRow base 3 1 (.slice (some ⟨g, 0, none⟩) (n + 1) cap) (n + 1) (xs ++ [iv z]) → w.grownBy w' v.ownBlock → (v.ownBlock = some g ∨ g = H) → g < w'.heap.size →
      wpAnyH P md ops Q S fuel (listed.setIfInBounds i true) ⟨(l.set d (.slice (some ⟨g, 0, none⟩) (n + 1) cap)).toArray, df⟩ w') : wpAnyH P md ops Q S (fuel + 1) listed ⟨l.toArray, df⟩ w := by
  subst hP
  obtain ⟨i0, hii, hz0, hz1, hz2⟩ := info_parts info3'
  refine wpAnyH_ready hr (by simp) (AllReadyH.cons hi (fun K hK => ?_) AllReadyH.nil)
  rw [if_pos hw]
  refine wp_append_lies w s x 63 ho base 3 i0 _ 1 8 Try.underlying63 hii hz0 hz1 hz2 rfl (by decide) v n xs hs hown ad 1 1 [iv z] hx rfl (fun j u hj => ?_) (by intro u hu; simp at hu; subst hu; rfl) (by omega) (by unfold maxLen; omega) (by omega) hbase H hH (fun g cap w' h1 h2 h3 h4 => ?_)
  · match j, hj with
    | 0, hj => simp [iv] at hj; subst hj; simpa [Addr.add] using hnew
  · have e : Act.put (⟨l.toArray, df⟩ : Act) o.dst (.slice (some ⟨g, 0, none⟩) (n + 1) cap) = ⟨(l.set d (.slice (some ⟨g, 0, none⟩) (n + 1) cap)).toArray, df⟩ := by rw [hd]; simp [Act.put]
    rw [e]
    exact hK.out _ _ (hS w' h2) (fun _ => h g cap w' h1 h2 h3 h4)
end

end Go.Proofs.Ytabnfnejlffioaa
