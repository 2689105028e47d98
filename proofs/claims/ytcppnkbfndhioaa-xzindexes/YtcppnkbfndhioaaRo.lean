/- Rows of bytes of a call's own: appends as one step. -/
import Derived.Test.YtcppnkbfndhioaaBase
import Derived.Deep.DeepCutAuto
namespace Go.Proofs.Ytcppnkbfndhioaa
open Go.RowKit
set_option maxRecDepth 100000
set_option linter.unusedVariables false

/-- a row of bytes that the call made -/
structure StB (w0 w : World) (v : Value) (xs : List Nat) : Prop where
  own : w.ownsRow w0.heap.size 5 1 v xs.length (xs.map bv)
  bel : Below w0.heap.size w0 w

theorem StB.nil (w : World) : StB w w (.slice none 0 0) [] := ⟨World.ownsRow_nil _ _ _ _, Below.refl _ _⟩

/-- What putting behind va leaves. -/
structure Kp (w w' : World) (va v' : Value) : Prop where
  size : w.heap.size ≤ w'.heap.size
  block : ∀ k, k < w.heap.size → va.ownBlock ≠ some k → w'.heap[k]? = w.heap[k]?
  lies : ∀ b, v'.ownBlock = some b → va.ownBlock = some b ∨ w.heap.size ≤ b

theorem StB.stays {w0 w w1 : World} {v : Value} {xs : List Nat} (h : StB w0 w v xs) (hb : Below w.heap.size w w1) : StB w0 w1 v xs :=
  ⟨own_keep h.own (fun g e => hb.block g (h.own.lt g e).2), h.bel.trans (hb.mono h.bel.size)⟩

theorem StB.reads {w0 w : World} {v : Value} {xs : List Nat} (h : StB w0 w v xs) : Reads w v xs := by
  rcases h.own.2 with ⟨e1, e2⟩ | ⟨g, cap, cur, e1, _⟩
  · have e3 : xs = [] := by simpa using e2
    subst e3
    exact ⟨_, _, by rw [e1]; rfl, fun h => absurd h (by simp)⟩
  · have := h.own
    rw [e1] at this ⊢
    exact reads_row this rfl

theorem bv_one (xs : List Nat) : ∀ u ∈ xs.map bv, u.oneCell' = true := by
  intro u hu
  obtain ⟨z, _, rfl⟩ := List.mem_map.1 hu
  rfl

/-- bytes that lie anywhere are put behind a row of one's own -/
theorem wp_appB {ops : Array Oper} {rest : List Oper} {o : Oper} {a : Act} {Q : Exit → Act → World → Prop} {w w0 : World} (hgd : o.guard = none) (s x : Operand)
    (ho : o.op = .call { callee := .builtin .append, args := #[s, x], argTypes := #[23, 23] }) (va vb : Value) (xs ys : List Nat) (hs : a.eval s = va) (hx : a.eval x = vb)
    (hA : StB w0 w va xs) (hB : Reads w vb ys) (hnil : ∀ n c, vb = .slice none n c → c = 0) (hlen : xs.length + ys.length ≤ 140737488355328)
    (h : ∀ v' w', StB w0 w' v' (xs ++ ys) → Kp w w' va v' → wpList Try.prog ops Q rest (a.put o.dst v') w') : wpList Try.prog ops Q (o :: rest) a w := by
  obtain ⟨i0, hi, hz0, hz1, hz2⟩ := info_parts info5
  obtain ⟨a0, cap, e1, hc⟩ := hB
  have hnone : (ys = [] ∧ a0 = none) ∨ ∃ ad, a0 = some ad ∧ ∀ (j : Nat) u, (ys.map bv)[j]? = some u → w.cell? (ad.add j) = some u := by
    cases a0 with
    | none =>
      refine .inl ⟨?_, rfl⟩
      cases ys with
      | nil => rfl
      | cons y ys => obtain ⟨ad, e, _⟩ := hc (by simp); cases e
    | some ad =>
      refine .inr ⟨ad, rfl, fun j u hj => ?_⟩
      have hp : 0 < ys.length := by
        have := (List.getElem?_eq_some_iff.1 hj).1
        simp at this; omega
      obtain ⟨ad', e, h2⟩ := hc hp
      cases e
      exact h2 j u hj
  rcases hnone with ⟨rfl, rfl⟩ | ⟨ad, rfl, hn⟩
  · refine wpList_append_own_none hgd s x 23 ho w0.heap.size 5 i0 1 Try.underlying23 hi va xs.length (xs.map bv) hs hA.own (by rw [hx, e1, hnil _ _ e1]; rfl) ?_
    refine h va w (by rw [List.append_nil]; exact hA) ⟨Nat.le_refl _, fun _ _ _ => rfl, fun b e => .inl e⟩
  · refine wpList_append_own_at w hgd s x 23 ho w0.heap.size 5 i0 (.int .u8 0) 1 1 Try.underlying23 hi hz0 hz1 hz2 rfl (by decide) va xs.length (xs.map bv) hs hA.own ad ys.length cap (ys.map bv) (by rw [hx, e1]) (by simp) hn (bv_one _) (by unfold maxLen; omega) (by omega) hA.bel.size ?_
    intro v' w' h2 h3 _ h5
    refine h v' w' ⟨by rw [List.length_append, List.map_append]; exact h2, hA.bel.grown h3 hA.bel.size (fun k e => (hA.own.lt k e).1)⟩ ⟨h3.size, fun k hk hne => h3.block k hk (fun e => hne e.symm), fun b e => ?_⟩
    rcases h5 with h5 | h5
    · exact .inl (by rw [← h5, e])
    · rw [e] at h5; exact .inr (by have := Option.some.inj h5; omega)

/-- a row of one's own with something in it -/
theorem StB.made {w0 w : World} {v : Value} {xs : List Nat} (h : StB w0 w v xs) (h0 : 0 < xs.length) : ∃ g cap, v = .slice (some ⟨g, 0, none⟩) xs.length cap ∧ xs.length ≤ cap ∧ w0.heap.size ≤ g ∧ g < w.heap.size := by
  rcases h.own.2 with ⟨e1, e2⟩ | ⟨g, cap, cur, e1, hb, hg, hn, _⟩
  · omega
  · exact ⟨g, cap, e1, by simpa using hn, hb, heap_lt hg⟩

/-- a new row that lies whole in its block -/
theorem StB.block {w0 w : World} {g : Nat} {xs : List Nat} (hb : Below w0.heap.size w0 w) (hg : w0.heap.size ≤ g) (h : w.heap[g]? = some (.cells (xs.map bv).toArray 5 (0, 0))) (hl : xs.length ≤ 140737488355328) : StB w0 w (.slice (some ⟨g, 0, none⟩) xs.length xs.length) xs := by
  refine ⟨⟨by simp, .inr ⟨g, xs.length, _, rfl, hg, h, Nat.le_refl _, by unfold maxLen; omega, by simp, by rw [Nat.mul_one]; exact List.take_of_length_le (by simp)⟩⟩, hb⟩

theorem zeros_are (m : Nat) : Builtin.zeroCells #[.int .u8 0] m = ((List.replicate m 0).map bv).toArray := by
  apply Array.ext
  · simp [size_zeroCells]
  · intro i h1 h2
    simp [Builtin.zeroCells, Nat.mod_one, bv]

/-- so many bytes 0 are put behind -/
theorem run_zeros {base : Nat} (w : World) (ty : TypeId) (v : Value) (xs : List Nat) (m : Nat) (hown : w.ownsRow base 5 1 v xs.length (xs.map bv)) (hx : 0 < xs.length) (hlen : xs.length + m ≤ 140737488355328) (hbase : base ≤ w.heap.size) :
    ∃ v' w', (Builtin.append_ #[23, 3] ty #[v, .int .i64 (m : Int)]).run Try.prog w = .ok v' w' ∧ w'.ownsRow base 5 1 v' (xs.length + m) ((xs ++ List.replicate m 0).map bv) ∧ w.grownBy w' v.ownBlock ∧ (v'.ownBlock = v.ownBlock ∨ v'.ownBlock = some w.heap.size) := by
  obtain ⟨i, hi, hz0, hz1, hz2⟩ := info_parts info5
  have h3 : Try.prog.underlying 3 = some (.int .i64) := Try.underlying3
  have hlen2 : ((xs ++ List.replicate m 0).map bv).length = xs.length + m := by simp
  have fw : IntKind.i64.wrap (m : Int) = (m : Int) := by rw [IntKind.wrap_i64]; omega
  have hneg : ¬ (m : Int) < 0 := by omega
  have h48 : ¬ (281474976710656 : Int) < (m : Int) := by omega
  rcases hown.2 with ⟨rfl, h0⟩ | ⟨g, cap, cur, rfl, hbg, hg, hnc, hcm, hcs, htake⟩
  · omega
  by_cases hm : m = 0
  · subst hm
    refine ⟨_, w, ?_, ?_, World.grownBy.refl _ _, Or.inl rfl⟩
    rotate_left
    · rw [List.replicate_zero, List.append_nil]; exact hown
    · have f0 : IntKind.i64.wrap (0 : Int) = 0 := by decide
      have hle : xs.length ≤ cap := by simpa using hnc
      simp [Builtin.append_, run_underlying Try.underlying23, run_underlying h3, sizeOf, typeInfo, zeroValue, hi, hz0, hz2, asInt, asIntOf, f0, hle, storeCells]
  · by_cases hroom : xs.length + m ≤ cap
    · have hone : ∀ u ∈ (List.replicate m 0).map bv, u.oneCell' = true := bv_one _
      have hfit : xs.length * 1 + ((List.replicate m 0).map bv).length ≤ cur.size := by rw [List.length_map, List.length_replicate, hcs]; omega
      have hst := run_storeCells_at Try.prog g (xs.length * 1) 5 ((List.replicate m 0).map bv) 0 cur w hg (by simpa using hfit) hone
      simp only [Nat.add_zero, Nat.mul_one] at hst
      refine ⟨.slice (some ⟨g, 0, none⟩) (xs.length + m) cap, w.setRow g (cur.toList.take (xs.length * 1) ++ (List.replicate m 0).map bv ++ cur.toList.drop (xs.length * 1 + ((List.replicate m 0).map bv).length)).toArray, ?_, ⟨by rw [hlen2, Nat.mul_one], .inr ⟨g, cap, _, rfl, hbg, setRow_heap w g cur _ 5 _ hg, hroom, hcm, ?_, ?_⟩⟩, ⟨rfl, rfl, rfl, by simp, fun k _ hk => setRow_other w g k _ (fun e => hk (by simp [Value.ownBlock, e]))⟩, Or.inl rfl⟩
      · simp [Builtin.append_, run_underlying Try.underlying23, run_underlying h3, sizeOf, typeInfo, zeroValue, hi, hz0, hz1, hz2, asInt, asIntOf, fw, hneg, h48, hroom, hm, zeros_are, Value.cells, Addr.add_lit]
        have hst2 := hst
        simp only [List.map_replicate, List.length_replicate, List.append_assoc] at hst2
        rw [hst2]
        rfl
      · simp only [List.size_toArray, List.length_append, List.length_take, List.length_drop, Array.length_toList, List.length_map, List.length_replicate]
        omega
      · rw [htake, Nat.mul_one, ← List.map_append, ← hlen2]
        exact List.take_left
    · have holds : ∀ j u, (xs.map bv)[j]? = some u → w.cell? ((⟨g, 0, none⟩ : Addr).add j) = some u := hown.cells (g := g) rfl
      have hf := run_firstCells_some (P := Try.prog) w.drew 1 xs.length ⟨g, 0, none⟩ xs.length cap (xs.map bv) (by simp) (by simpa using holds)
      have hnext := growslice_fits (need := xs.length + m) (old := cap) (bytes := 1) (by omega) (by omega)
      have h48' : ¬ (281474976710656 < Builtin.nextslicecap (xs.length + m) cap) := by omega
      have h63' : ¬ (9223372036854775807 < ((xs.length : Int) + (m : Int))) := by omega
      have hge := grownCap_ge w (xs.length + m) cap 5
      have hcm : grownCap w (xs.length + m) cap 5 ≤ maxLen := grownCap_le_maxLen w (xs.length + m) cap 5 (by unfold maxLen; omega)
      refine ⟨.slice (some ⟨w.heap.size, 0, none⟩) (xs.length + m) (grownCap w (xs.length + m) cap 5), w.drew.alloc (.cells ((xs.map bv).toArray ++ ((List.replicate m 0).map bv).toArray ++ Builtin.zeroCells #[.int .u8 0] (grownCap w (xs.length + m) cap 5 - (xs.length + m))) 5), ?_, ⟨by rw [hlen2, Nat.mul_one], .inr ⟨w.heap.size, _, _, rfl, hbase, heap_alloc_new w.drew _, hge, hcm, ?_, ?_⟩⟩, ⟨rfl, rfl, rfl, by simp, fun k hk _ => Below.heap_alloc w.drew _ k hk⟩, Or.inr rfl⟩
      · simp [Builtin.append_, run_underlying Try.underlying23, run_underlying h3, sizeOf, typeInfo, zeroValue, hi, hz0, hz1, hz2, asInt, asIntOf, fw, hneg, h48, hroom, h48', h63', hm, zeros_are, Value.cells, Question.forced, hf, newRow, grownCap]
      · simp only [Array.size_append, List.size_toArray, size_zeroCells, List.length_replicate, List.length_map]
        simp
        omega
      · simp only [Array.toList_append, List.append_assoc, Nat.mul_one]
        rw [← List.append_assoc, ← List.map_append, ← hlen2]
        exact List.take_left

/-- so many zeros put behind -/
theorem wp_zeros {ops : Array Oper} {rest : List Oper} {o : Oper} {a : Act} {Q : Exit → Act → World → Prop} {w w0 : World} (hgd : o.guard = none) (s x : Operand)
    (ho : o.op = .call { callee := .builtin .append, args := #[s, x], argTypes := #[23, 3] }) (va : Value) (xs : List Nat) (m : Nat) (hs : a.eval s = va) (hx : a.eval x = .int .i64 (m : Int))
    (hA : StB w0 w va xs) (h0 : 0 < xs.length) (hlen : xs.length + m ≤ 140737488355328)
    (h : ∀ v' w', StB w0 w' v' (xs ++ List.replicate m 0) → Kp w w' va v' → wpList Try.prog ops Q rest (a.put o.dst v') w') : wpList Try.prog ops Q (o :: rest) a w := by
  refine wpList_plain hgd fun K hK => ?_
  obtain ⟨v', w', hr, h2, h3, h5⟩ := run_zeros w o.type va xs m hA.own h0 hlen hA.bel.size
  unfold Oper.wp execOp
  simp only [ho, resolve, invoke, builtin, Sem.run_bind, Sem.run_pure, Result.andThen_ok, List.map_toArray, List.map_cons, List.map_nil, hs, hx, hr]
  refine hK _ _ (h v' w' ⟨by rw [List.length_append, List.length_replicate]; exact h2, hA.bel.grown h3 hA.bel.size (fun k e => (hA.own.lt k e).1)⟩ ⟨h3.size, fun k hk hne => h3.block k hk (fun e => hne e.symm), fun b e => ?_⟩)
  rcases h5 with h5 | h5
  · exact .inl (by rw [← h5, e])
  · rw [e] at h5; exact .inr (by have := Option.some.inj h5; omega)

end Go.Proofs.Ytcppnkbfndhioaa
