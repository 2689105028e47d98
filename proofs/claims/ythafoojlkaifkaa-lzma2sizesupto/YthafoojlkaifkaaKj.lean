/- Chunks, one behind the other. -/
import Derived.Test.YthafoojlkaifkaaKi
namespace Go.Proofs.Ythafoojlkaifkaa.K
open Go.RowKit H
set_option maxRecDepth 100000
set_option linter.unusedVariables false
attribute [local go_sem ↓] Go.wp_at_zero Go.wp_at_succ

theorem NK.of {w w' : World} {bb ub : Nat} {va : Option Addr} {vc : Nat} {zs : List Nat} {p : Nat} (h : NK w bb ub va vc zs p) (hb : w'.heap[bb]? = w.heap[bb]?) (hu : w'.heap[ub]? = w.heap[ub]?) (h5 : ∀ (g : Nat) (cur : Array Value), w.heap[g]? = some (.cells cur 5 (0, 0)) → w'.heap[g]? = w.heap[g]?) : NK w' bb ub va vc zs p := by
  refine ⟨by rw [hb]; exact h.b, by rw [hu]; exact h.u, ?_, h.cap, h.le, h.big, h.sm, fun a e h0 => ?_⟩
  · obtain ⟨a, c, e, h2⟩ := h.rd
    refine ⟨a, c, e, fun h0 => ?_⟩
    obtain ⟨ad, rfl, h3⟩ := h2 h0
    refine ⟨ad, rfl, fun j u hj => ?_⟩
    have hj2 := h3 j u hj
    injection e with e1
    have hz : 0 < zs.length := by
      rcases Nat.eq_zero_or_pos zs.length with h0 | h0
      · rw [List.eq_nil_of_length_eq_zero h0] at hj; simp at hj
      · exact h0
    obtain ⟨cur, hc⟩ := h.blk ad e1 hz
    have e4 : (ad.add j).block = ad.block := by simp [Addr.add]; split <;> rfl
    simp only [World.cell?] at hj2 ⊢
    rw [e4] at hj2 ⊢
    rw [h5 _ _ hc]
    exact hj2
  · obtain ⟨cur, hc⟩ := h.blk a e h0
    exact ⟨cur, by rw [h5 _ _ hc]; exact hc⟩

theorem RI.block {B : Nat} {w : World} {v : Value} {xs : List Value} (h : RI B w v xs) {g : Nat} (e : v.ownBlock = some g) : B ≤ g ∧ ∃ cur, w.heap[g]? = some (.cells cur 3 (0, 0)) := by
  rcases h.own.2 with ⟨e1, e2⟩ | ⟨g', cap, cur, e1, hb, hh, _⟩
  · rw [e1] at e; cases e
  · rw [e1] at e
    obtain rfl : g' = g := Option.some.inj e
    exact ⟨hb, cur, hh⟩

theorem RI.keep {B : Nat} {w w' : World} {v : Value} {xs : List Value} {gs : List Nat} (h : RI B w v xs) (hb : But gs w w') (hn : ∀ g ∈ gs, g < B ∨ ∃ c t, w.heap[g]? = some (.cells c t (0, 0)) ∧ t ≠ 3) : RI B w' v xs := by
  refine ⟨own_keep h.own fun g e => ?_, by have := h.le; have := hb.size; omega⟩
  obtain ⟨h1, cur, h2⟩ := h.block e
  refine hb.keep g (heap_lt h2) fun hm => ?_
  rcases hn g hm with h3 | ⟨c, t, h3, h4⟩
  · omega
  · exact ne_types h2 h3 (Ne.symm h4) rfl

/-- where the visit stands -/
structure VAt (ws : World) (B lb bb ub rb : Nat) (va : Option Addr) (vc : Nat) (zs : List Nat) (p : Nat) (bg pr : Bool) (acc : List Nat) (lv : Value) (w : World) : Prop where
  nk : NK ws bb ub va vc zs p
  row : RowAt ws rb bg pr
  l : ws.heap[lb]? = some (.cells #[lv] 23 (0, 0))
  ri : RI B ws lv (acc.map fun n : Nat => iv (n : Int))
  len : acc.length * 4 ≤ p
  but : But [lb] w ws
  lt : lb < w.heap.size ∧ w.heap.size ≤ B ∧ w.heap.size ≤ bb ∧ bb < B ∧ w.heap.size ≤ ub ∧ ub < B ∧ w.heap.size ≤ rb ∧ rb < B

def VisIs (R : Nat × Nat × List Nat) (lb : Nat) (w : World) (e : Ending) (w' : World) : Prop :=
  (R.1 ≠ 0 ∧ e = .returned (.tuple #[.int .i64 0, .int .i64 (R.1 : Int)]) ∧ But [lb] w w') ∨ (R.1 = 0 ∧ e = .returned (.tuple #[.int .i64 (R.2.1 : Int), .int .i64 0]) ∧ (∃ lv B, w.heap.size ≤ B ∧ w'.heap[lb]? = some (.cells #[lv] 23 (0, 0)) ∧ RI B w' lv (R.2.2.map fun n : Nat => iv (n : Int))) ∧ But [lb] w w')

section
variable {ws : World} {B lb bb ub rb : Nat} {va : Option Addr} {vc : Nat} {zs : List Nat} {p : Nat} {bg pr : Bool} {acc : List Nat} {lv : Value} {w : World}

/-- behind a kind that may stand there -/
theorem VAt.kind (h : VAt ws B lb bb ub rb va vc zs p bg pr acc lv w) {ws' : World} {k : Nat} (h1 : NK ws' bb ub va vc zs (p + 1)) (h2 : RowAt ws' rb true (nextP k pr)) (h3 : But [ub, rb] ws ws') : VAt ws' B lb bb ub rb va vc zs (p + 1) true (nextP k pr) acc lv w := by
  obtain ⟨l1, l2, l3, l4, l5, l6, l7, l8⟩ := h.lt
  refine ⟨h1, h2, ?_, h.ri.keep h3 (fun g hg => ?_), by have := h.len; omega, ?_, h.lt⟩
  · rw [h3.keep lb (heap_lt h.l) (by simp; omega)]; exact h.l
  · simp at hg; exact .inl (by omega)
  · refine ⟨h3.os.trans h.but.os, h3.tape.trans h.but.tape, h3.output.trans h.but.output, Nat.le_trans h.but.size h3.size, fun x hx hn => ?_⟩
    rw [h3.keep x (by have := h.but.size; omega) (by simp; omega), h.but.keep x hx hn]

/-- new memory -/
theorem VAt.below (h : VAt ws B lb bb ub rb va vc zs p bg pr acc lv w) {ws' : World} (hb : But [] ws ws') : VAt ws' B lb bb ub rb va vc zs p bg pr acc lv w := by
  refine ⟨h.nk.but hb, by unfold RowAt; rw [hb.keep rb (heap_lt h.row) (by simp)]; exact h.row, by rw [hb.keep lb (heap_lt h.l) (by simp)]; exact h.l, h.ri.keep hb (fun g hg => by simp at hg), h.len, h.but.trans (hb.more (by simp)), h.lt⟩

/-- behind a chunk that was read -/
theorem VAt.read (h : VAt ws B lb bb ub rb va vc zs p bg pr acc lv w) {ws' : World} {cb q k n : Nat} {l1 l2 l3 : Int} {bd : Value} (hc : CAt ws cb k n l1 l2 l3 bd) (h1 : NK ws' bb ub va vc zs q) (hq : p ≤ q) (h3 : But [ub, cb] ws ws') (hcb : w.heap.size ≤ cb) : VAt ws' B lb bb ub rb va vc zs q bg pr acc lv w := by
  obtain ⟨t1, t2, t3, t4, t5, t6, t7, t8⟩ := h.lt
  have n1 : rb ≠ cb := ne_types h.row hc (by decide)
  have n2 : lb ≠ cb := ne_types h.l hc (by decide)
  have n3 : rb ≠ ub := ne_types h.row h.nk.u (by decide)
  refine ⟨h1, ?_, ?_, h.ri.keep h3 (fun g hg => ?_), by have := h.len; omega, ?_, h.lt⟩
  · unfold RowAt; rw [h3.keep rb (heap_lt h.row) (by simp; omega)]; exact h.row
  · rw [h3.keep lb (heap_lt h.l) (by simp; omega)]; exact h.l
  · simp at hg
    rcases hg with rfl | rfl
    · exact .inl (by omega)
    · exact .inr ⟨_, _, hc, by decide⟩
  · refine ⟨h3.os.trans h.but.os, h3.tape.trans h.but.tape, h3.output.trans h.but.output, Nat.le_trans h.but.size h3.size, fun x hx hn => ?_⟩
    rw [h3.keep x (by have := h.but.size; omega) (by simp; omega), h.but.keep x hx hn]

/-- behind a size that was kept -/
theorem VAt.take (h : VAt ws B lb bb ub rb va vc zs p bg pr acc lv w) {ws' : World} {n : Nat} {lv' : Value} (h1 : ws'.heap[lb]? = some (.cells #[lv'] 23 (0, 0))) (h2 : RI B ws' lv' ((acc.map fun n : Nat => iv (n : Int)) ++ [iv (n : Int)])) (h3 : TakeT lb ws ws' lv lv') (hp : (acc.length + 1) * 4 ≤ p) : VAt ws' B lb bb ub rb va vc zs p bg pr (acc ++ [n]) lv' w := by
  obtain ⟨t1, t2, t3, t4, t5, t6, t7, t8⟩ := h.lt
  have hk : ∀ x, x < ws.heap.size → x ≠ lb → (x < B ∨ ∃ c t, ws.heap[x]? = some (.cells c t (0, 0)) ∧ t ≠ 3) → ws'.heap[x]? = ws.heap[x]? := fun x hx hn hor => h3.keep x hx hn fun e => by
    obtain ⟨e1, cur, e2⟩ := h.ri.block e
    rcases hor with h4 | ⟨c, t, h4, h5⟩
    · omega
    · exact ne_types e2 h4 (Ne.symm h5) rfl
  refine ⟨h.nk.of (hk _ (heap_lt h.nk.b) (by omega) (.inl t4)) (hk _ (heap_lt h.nk.u) (by omega) (.inl t6)) (fun g cur hg => hk g (heap_lt hg) (ne_types hg h.l (by decide)) (.inr ⟨_, _, hg, by decide⟩)), ?_, h1, by rw [List.map_append]; exact h2, by rw [List.length_append]; exact hp, ?_, h.lt⟩
  · unfold RowAt; rw [hk rb (heap_lt h.row) (by omega) (.inl t8)]; exact h.row
  · refine ⟨h3.os.trans h.but.os, h3.tape.trans h.but.tape, h3.output.trans h.but.output, Nat.le_trans h.but.size h3.size, fun x hx hn => ?_⟩
    rw [hk x (by have := h.but.size; omega) (by simpa using hn) (.inl (by omega)), h.but.keep x hx hn]
end
end Go.Proofs.Ythafoojlkaifkaa.K
