/- A copy by append: append([]byte{}, b...), append([]int{}, p...). -/
import Derived.Test.YtgafabhhalhccaaUp
import Derived.Test.YtgafabhhalhccaaIn
namespace Go.Proofs.Ytgafabhhalhccaa
open Go.RowKit Runs
set_option maxRecDepth 100000
set_option linter.unusedVariables false

/-- bytes that were handed in -/
def SrcB (w : World) (a0 : Option Addr) (cap : Nat) (b : List Nat) : Prop := (a0 = none ∧ cap = 0 ∧ b = []) ∨ ∃ ad, a0 = some ad ∧ ∀ (j : Nat) u, (b.map bv)[j]? = some u → w.cell? (ad.add j) = some u

def SrcI (w : World) (a0 : Option Addr) (cap : Nat) (b : List Int) : Prop := (a0 = none ∧ cap = 0 ∧ b = []) ∨ ∃ ad, a0 = some ad ∧ ∀ (j : Nat) u, (b.map iv)[j]? = some u → w.cell? (ad.add j) = some u

theorem SrcB.stays {w w' : World} {a0 : Option Addr} {cap : Nat} {b : List Nat} (h : SrcB w a0 cap b) (hb : Below w.heap.size w w') : SrcB w' a0 cap b := by
  rcases h with h | ⟨ad, e, h⟩
  · exact .inl h
  · exact .inr ⟨ad, e, fun j u hu => cell_stays hb (h j u hu)⟩

theorem SrcI.stays {w w' : World} {a0 : Option Addr} {cap : Nat} {b : List Int} (h : SrcI w a0 cap b) (hb : Below w.heap.size w w') : SrcI w' a0 cap b := by
  rcases h with h | ⟨ad, e, h⟩
  · exact .inl h
  · exact .inr ⟨ad, e, fun j u hu => cell_stays hb (h j u hu)⟩

theorem SrcB.bytes {w : World} {a0 : Option Addr} {cap : Nat} {b : List Nat} (h : SrcB w a0 cap b) : BytesIn w a0 b := (reads_of h).bytes

theorem SrcI.ints {w : World} {a0 : Option Addr} {cap : Nat} {b : List Int} (h : SrcI w a0 cap b) : IntsIn w a0 b := fun j hj => by
  rcases h with ⟨_, _, rfl⟩ | ⟨⟨g, off, sp⟩, rfl, hc⟩
  · simp at hj
  · have h1 := hc 0 (iv (b.getD 0 0)) (by simp [show 0 < b.length by omega])
    have hsp : sp = none := by simpa [Addr.add] using World.cell?_spot h1
    subst hsp
    refine ⟨g, off, rfl, ?_⟩
    have h2 := hc j (iv (b.getD j 0)) (by simp [hj])
    have e : (⟨g, off, none⟩ : Addr).add j = ⟨g, off + j, none⟩ := by by_cases hq : j = 0 <;> simp [Addr.add, hq]
    rw [e] at h2
    exact h2

theorem wp_catB {ops : Array Oper} {rest : List Oper} {o : Oper} {a : Act} {Q : Exit → Act → World → Prop} {ws : World} (hgd : o.guard = none) (s x : Operand)
    (ho : o.op = .call { callee := .builtin .append, args := #[s, x], argTypes := #[22, 22] }) (b : List Nat) (a0 : Option Addr) (n cap : Nat) (hs : a.eval s = .slice (some ⟨ws.heap.size, 0, none⟩) 0 0) (hx : a.eval x = .slice a0 n cap) (hn : b.length = n)
    (hsrc : SrcB ws a0 cap b) (hlen : b.length ≤ 1048576)
    (h : ∀ v' w', StB ws w' v' b → wpList Try.prog ops Q rest (a.put o.dst v') w') : wpList Try.prog ops Q (o :: rest) a (ws.alloc (.cells #[] 5)) := by
  obtain ⟨i0, hi, hz0, hz1, hz2⟩ := info_parts info5
  have hbel : Below ws.heap.size ws (ws.alloc (.cells #[] 5)) := (Below.refl _ _).alloc (Nat.le_refl _) _
  have hown := World.ownsRow_made (base := ws.heap.size) (e := 5) (size := 1) ws #[] 0 (Nat.le_refl _) (by unfold maxLen; omega) rfl
  rcases hsrc with ⟨rfl, rfl, rfl⟩ | ⟨ad, rfl, hc⟩
  · simp at hn
    subst hn
    exact wpList_append_own_none hgd s x 22 ho ws.heap.size 5 i0 1 Try.underlying22 hi _ 0 [] hs hown hx (h _ _ ⟨hown, hbel⟩)
  · refine wpList_append_own_at (ws.alloc (.cells #[] 5)) hgd s x 22 ho ws.heap.size 5 i0 (.int .u8 0) 1 1 Try.underlying22 hi hz0 hz1 hz2 rfl (by decide) _ 0 [] hs hown ad n cap (b.map bv) hx (by rw [List.length_map]; omega) (fun j u hj => cell_stays hbel (hc j u hj)) (bytes_one b) (by unfold maxLen; omega) (by omega) hbel.size ?_
    intro v' w' h2 h3 _ _
    exact h v' w' ⟨by rw [hn]; simpa using h2, hbel.grown h3 hbel.size (fun k e => by have := Option.some.inj e; subst this; exact Nat.le_refl _)⟩

theorem wp_catI {ops : Array Oper} {rest : List Oper} {o : Oper} {a : Act} {Q : Exit → Act → World → Prop} {ws : World} (hgd : o.guard = none) (s x : Operand)
    (ho : o.op = .call { callee := .builtin .append, args := #[s, x], argTypes := #[32, 32] }) (b : List Int) (a0 : Option Addr) (n cap : Nat) (hs : a.eval s = .slice (some ⟨ws.heap.size, 0, none⟩) 0 0) (hx : a.eval x = .slice a0 n cap) (hn : b.length = n)
    (hsrc : SrcI ws a0 cap b) (hlen : b.length ≤ 1048576)
    (h : ∀ v' w', St ws w' v' (b.map iv) → wpList Try.prog ops Q rest (a.put o.dst v') w') : wpList Try.prog ops Q (o :: rest) a (ws.alloc (.cells #[] 3)) := by
  obtain ⟨i0, hi, hz0, hz1, hz2⟩ := info_parts info3'
  have hbel : Below ws.heap.size ws (ws.alloc (.cells #[] 3)) := (Below.refl _ _).alloc (Nat.le_refl _) _
  have hown := World.ownsRow_made (base := ws.heap.size) (e := 3) (size := 1) ws #[] 0 (Nat.le_refl _) (by unfold maxLen; omega) rfl
  rcases hsrc with ⟨rfl, rfl, rfl⟩ | ⟨ad, rfl, hc⟩
  · simp at hn
    subst hn
    exact wpList_append_own_none hgd s x 32 ho ws.heap.size 3 i0 1 Try.underlying32 hi _ 0 [] hs hown hx (h _ _ ⟨hown, hbel⟩)
  · refine wpList_append_own_at (ws.alloc (.cells #[] 3)) hgd s x 32 ho ws.heap.size 3 i0 (.int .i64 0) 1 8 Try.underlying32 hi hz0 hz1 hz2 rfl (by decide) _ 0 [] hs hown ad n cap (b.map iv) hx (by rw [List.length_map]; omega) (fun j u hj => cell_stays hbel (hc j u hj)) (by intro u hu; obtain ⟨z, _, rfl⟩ := List.mem_map.1 hu; rfl) (by unfold maxLen; omega) (by omega) hbel.size ?_
    intro v' w' h2 h3 _ _
    exact h v' w' ⟨by rw [List.length_map, hn]; simpa using h2, hbel.grown h3 hbel.size (fun k e => by have := Option.some.inj e; subst this; exact Nat.le_refl _)⟩

theorem StB.toRow {w w' : World} {v : Value} {xs : List Nat} (h : StB w w' v xs) : Row w.heap.size w'.heap.size w' v .u8 5 xs := row_own (n := 0) rfl h.own
theorem St.toRow {w w' : World} {v : Value} {xs : List Nat} (h : St w w' v (xs.map fun d : Nat => iv (d : Int))) : Row w.heap.size w'.heap.size w' v .i64 3 xs := by
  refine row_own (n := 0) (size := 1) rfl ?_
  have := h.own
  rw [List.length_map] at this
  exact this

theorem St.lies {w0 w : World} {v : Value} {xs : List Int} (h : St w0 w v (xs.map iv)) : ∃ a0 cap, v = .slice a0 xs.length cap ∧ IntsIn w a0 xs := by
  rcases h.own.2 with ⟨e1, e2⟩ | ⟨g, cap, cur, e1, hb, hh, hn, _⟩
  · rw [List.length_map] at e2
    exact ⟨Option.none, 0, by rw [e1, e2], fun j hj => by omega⟩
  · rw [List.length_map] at e1
    refine ⟨some ⟨g, 0, Option.none⟩, cap, e1, fun j hj => ⟨g, 0, rfl, ?_⟩⟩
    have := h.own.cells (g := g) (by rw [e1]; rfl) j (iv (xs.getD j 0)) (by rw [List.getElem?_map, List.getElem?_eq_getElem hj, List.getD_eq_getElem?_getD, List.getElem?_eq_getElem hj]; rfl)
    have e : (⟨g, 0, Option.none⟩ : Addr).add j = ⟨g, 0 + j, Option.none⟩ := by rw [Nat.zero_add]; simp [Addr.add]; exact fun h => h.symm
    rw [e] at this
    exact this

end Go.Proofs.Ytgafabhhalhccaa
