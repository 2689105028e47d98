/- Two encoders side by side: the program's and the document's. -/
import Derived.Test.YtbolhbjipmndeaaOw
import Derived.Test.YtbolhbjipmndeaaPs
import Derived.Test.YtbolhbjipmndeaaLl
import Derived.Test.YtbolhbjipmndeaaDEr
namespace Go.Proofs.Ytbolhbjipmndeaa.D
open Go.RowKit Rang
set_option maxRecDepth 100000
set_option linter.unusedVariables false

theorem cell_stays {w w' : World} {p : Addr} {u : Value} (hb : Below w.heap.size w w') (h : w.cell? p = some u) : w'.cell? p = some u := by
  rw [hb.cell (cell_lt h)]
  exact h

/-- numbers that were handed in -/
def SrcI (w : World) (a0 : Option Addr) (cap : Nat) (b : List Int) : Prop := (a0 = none ∧ cap = 0 ∧ b = []) ∨ ∃ ad, a0 = some ad ∧ ∀ (j : Nat) u, (b.map iv)[j]? = some u → w.cell? (ad.add j) = some u

theorem SrcI.stays {w w' : World} {a0 : Option Addr} {cap : Nat} {b : List Int} (h : SrcI w a0 cap b) (hb : Below w.heap.size w w') : SrcI w' a0 cap b := by
  rcases h with h | ⟨ad, e, h⟩
  · exact .inl h
  · exact .inr ⟨ad, e, fun j u hu => cell_stays hb (h j u hu)⟩

theorem SrcI.ints {w : World} {a0 : Option Addr} {cap : Nat} {b : List Int} (h : SrcI w a0 cap b) : IntsIn w a0 b := fun j hj => by
  rcases h with ⟨_, _, rfl⟩ | ⟨⟨g, off, sp⟩, rfl, hc⟩
  · simp at hj
  · have h1 := hc 0 (iv (b.getD 0 0)) (by simp [show 0 < b.length by omega])
    have hsp : sp = none := by simpa [Addr.add] using World.cell?_spot h1
    subst hsp
    refine ⟨g, off, rfl, ?_⟩
    have h2 := hc j (iv (b.getD j 0)) (by simp [hj])
    have e : (⟨g, off, none⟩ : Addr).add j = ⟨g, off + j, none⟩ := by by_cases hq : j = 0 <;> simp [Addr.add, hq]
    rw [e] at h2
    exact h2

/-- a copy of numbers in a block of its own, with room behind it -/
structure Copy (ws w' : World) (v' : Value) (b : List Int) : Prop where
  shape : ∃ g cap sp, v' = .slice (some ⟨g, 0, none⟩) b.length cap ∧ ws.heap.size ≤ g ∧ w'.heap[g]? = some (.cells (b.map iv ++ sp).toArray 3 (0, 0))
  bel : Below ws.heap.size ws w'

theorem copy_of {ws w' : World} {v' : Value} {b : List Int} (h : w'.ownsRow ws.heap.size 3 1 v' b.length (b.map iv)) (hb : Below ws.heap.size ws w') (hn : v' ≠ .slice none 0 0) : Copy ws w' v' b := by
  rcases h.2 with ⟨e, _⟩ | ⟨g, cap, cur, e1, h1, h2, _, _, _, ht⟩
  · exact absurd e hn
  · refine ⟨⟨g, cap, cur.toList.drop b.length, e1, h1, ?_⟩, hb⟩
    rw [h2]
    rw [Nat.mul_one] at ht
    rw [← ht, List.take_append_drop]

theorem wp_catI {ops : Array Oper} {rest : List Oper} {o : Oper} {a : Act} {Q : Exit → Act → World → Prop} {ws : World} (hgd : o.guard = none) (s x : Operand)
    (ho : o.op = .call { callee := .builtin .append, args := #[s, x], argTypes := #[35, 35] }) (b : List Int) (a0 : Option Addr) (n cap : Nat) (hs : a.eval s = .slice (some ⟨ws.heap.size, 0, none⟩) 0 0) (hx : a.eval x = .slice a0 n cap) (hn : b.length = n)
    (hsrc : SrcI ws a0 cap b) (hlen : b.length ≤ 17592186044416)
    (h : ∀ v' w', Copy ws w' v' b → wpList Try.prog ops Q rest (a.put o.dst v') w') : wpList Try.prog ops Q (o :: rest) a (ws.alloc (.cells #[] 3)) := by
  obtain ⟨i0, hi, hz0, hz1, hz2⟩ := info_parts info3'
  have hbel : Below ws.heap.size ws (ws.alloc (.cells #[] 3)) := (Below.refl _ _).alloc (Nat.le_refl _) _
  have hown := World.ownsRow_made (base := ws.heap.size) (e := 3) (size := 1) ws #[] 0 (Nat.le_refl _) (by unfold maxLen; omega) rfl
  rcases hsrc with ⟨rfl, rfl, rfl⟩ | ⟨ad, rfl, hc⟩
  · simp at hn
    subst hn
    exact wpList_append_own_none hgd s x 35 ho ws.heap.size 3 i0 1 Try.underlying35 hi _ 0 [] hs hown hx (h _ _ (copy_of hown hbel (by intro e; cases e)))
  · refine wpList_append_own_at (ws.alloc (.cells #[] 3)) hgd s x 35 ho ws.heap.size 3 i0 (.int .i64 0) 1 8 Try.underlying35 hi hz0 hz1 hz2 rfl (by decide) _ 0 [] hs hown ad n cap (b.map iv) hx (by rw [List.length_map]; omega) (fun j u hj => cell_stays hbel (hc j u hj)) (by intro u hu; obtain ⟨z, _, rfl⟩ := List.mem_map.1 hu; rfl) (by unfold maxLen; omega) (by omega) hbel.size ?_
    intro v' w' h2 h3 h4 _
    exact h v' w' (copy_of (by rw [hn]; simpa using h2) (hbel.grown h3 hbel.size (fun k e => by have := Option.some.inj e; subst this; exact Nat.le_refl _)) (fun e => by have := (h4.1 e).1; cases this))

theorem Copy.ints {ws w' : World} {v' : Value} {b : List Int} (h : Copy ws w' v' b) : ∃ g cap, v' = .slice (some ⟨g, 0, none⟩) b.length cap ∧ IntsIn w' (some ⟨g, 0, none⟩) b := by
  obtain ⟨g, cap, sp, e, _, h1⟩ := h.shape
  refine ⟨g, cap, e, fun j hj => ⟨g, 0, rfl, ?_⟩⟩
  simp only [World.cell?, h1, Nat.zero_add]
  simp [List.getElem?_append, hj, iv, List.getD_eq_getElem?_getD]

theorem blk_ne {w : World} {a b : Nat} {cs cs' : Array Value} {t t' : TypeId} {fz fz' : Nat × Nat} (h1 : w.heap[a]? = some (.cells cs t fz)) (h2 : w.heap[b]? = some (.cells cs' t' fz')) (hne : t ≠ t') : a ≠ b := by
  rintro rfl
  rw [h1] at h2
  injection h2 with h2
  injection h2 with _ h3
  exact hne h3

theorem own_blk {w : World} {B n : Nat} {e : TypeId} {v : Value} {xs : List Value} {g : Nat} (h : w.ownsRow B e 1 v n xs) (hg : v.ownBlock = some g) : ∃ cur, w.heap[g]? = some (.cells cur e (0, 0)) := by
  rcases h.2 with ⟨e1, _⟩ | ⟨g', cap, cur, e1, _, hh, _⟩
  · rw [e1] at hg; cases hg
  · rw [e1] at hg
    obtain rfl : g' = g := Option.some.inj hg
    exact ⟨cur, hh⟩

/-- two encoders that share nothing -/
structure Two (B : Nat) (w : World) (pb gc : Nat) (ov : Value) (c : Enc) (ch : List Nat) (k : Nat) (qb gd cc : Nat) (ou : Value) (c' : Enc) (ch' : List Nat) (k' : Nat) : Prop where
  p : PS B w pb gc ov c ch k
  d : ES B w qb gd cc ou c' ch' k'
  ap : ∀ b, ov.ownBlock = some b → ou.ownBlock ≠ some b

section
variable {B : Nat} {w w' : World} {pb gc : Nat} {ov ov' : Value} {c c1 : Enc} {ch ch1 : List Nat} {k k1 : Nat} {qb gd cc : Nat} {ou ou' : Value} {c' c2 : Enc} {ch' ch2 : List Nat} {k' k2 : Nat}

theorem Two.stepP (h : Two B w pb gc ov c ch k qb gd cc ou c' ch' k') (hp : PS B w' pb gc ov' c1 ch1 k1) (ht : Tch w w' pb gc 0 ov ov') : Two B w' pb gc ov' c1 ch1 k1 qb gd cc ou c' ch' k' := by
  have a1 := h.p.pc.enc.cells
  have a2 := h.p.pc.chs
  have b1 := h.d.ec.enc.cells
  obtain ⟨sp, b2⟩ := h.d.ec.chs
  have keep : ∀ {g : Nat} {cs : Array Value} {t : TypeId}, w.heap[g]? = some (.cells cs t (0, 0)) → t ≠ 68 → t ≠ 91 → (ov.ownBlock ≠ some g) → w'.heap[g]? = w.heap[g]? := fun hg h1 h2 h3 => ht.keep _ (heap_lt hg) (blk_ne hg a1 h1) (blk_ne hg a2 h2) h3
  have nown : ∀ {g : Nat} {cs : Array Value} {t : TypeId}, w.heap[g]? = some (.cells cs t (0, 0)) → t ≠ 5 → ov.ownBlock ≠ some g := fun hg h1 e => by
    obtain ⟨cur, hh⟩ := own_blk h.p.pc.enc.row e
    exact blk_ne hg hh h1 rfl
  refine ⟨hp, ⟨⟨⟨?_, own_keep h.d.ec.enc.row fun g e => ?_, h.d.ec.enc.lo⟩, ⟨sp, ?_⟩, h.d.ec.lo⟩, h.d.wide, h.d.chs, Nat.le_trans h.d.base ht.size⟩, fun b e e' => ?_⟩
  · rw [keep b1 (by decide) (by decide) (nown b1 (by decide))]; exact b1
  · obtain ⟨cur, hh⟩ := own_blk h.d.ec.enc.row e
    exact keep hh (by decide) (by decide) (fun e2 => h.ap g e2 e)
  · rw [keep b2 (by decide) (by decide) (nown b2 (by decide))]; exact b2
  · rcases ht.lies b e with h1 | h1
    · exact h.ap b h1 e'
    · have := (h.d.ec.enc.row.lt b e').2; omega

theorem Two.stepD (h : Two B w pb gc ov c ch k qb gd cc ou c' ch' k') (hd : ES B w' qb gd cc ou' c2 ch2 k2) (ht : Tch w w' qb gd cc ou ou') : Two B w' pb gc ov c ch k qb gd cc ou' c2 ch2 k2 := by
  have a1 := h.p.pc.enc.cells
  have a2 := h.p.pc.chs
  have b1 := h.d.ec.enc.cells
  obtain ⟨sp, b2⟩ := h.d.ec.chs
  have keep : ∀ {g : Nat} {cs : Array Value} {t : TypeId}, w.heap[g]? = some (.cells cs t (0, 0)) → t ≠ 39 → t ≠ 3 → (ou.ownBlock ≠ some g) → w'.heap[g]? = w.heap[g]? := fun hg h1 h2 h3 => ht.keep _ (heap_lt hg) (blk_ne hg b1 h1) (blk_ne hg b2 h2) h3
  have nown : ∀ {g : Nat} {cs : Array Value} {t : TypeId}, w.heap[g]? = some (.cells cs t (0, 0)) → t ≠ 5 → ou.ownBlock ≠ some g := fun hg h1 e => by
    obtain ⟨cur, hh⟩ := own_blk h.d.ec.enc.row e
    exact blk_ne hg hh h1 rfl
  refine ⟨⟨⟨⟨?_, own_keep h.p.pc.enc.row fun g e => ?_, h.p.pc.enc.lo⟩, ?_, h.p.pc.lo⟩, h.p.wide, h.p.chs, Nat.le_trans h.p.base ht.size⟩, hd, fun b e e' => ?_⟩
  · rw [keep a1 (by decide) (by decide) (nown a1 (by decide))]; exact a1
  · obtain ⟨cur, hh⟩ := own_blk h.p.pc.enc.row e
    exact keep hh (by decide) (by decide) (fun e2 => h.ap g e e2)
  · unfold PCh
    rw [keep a2 (by decide) (by decide) (nown a2 (by decide))]; exact a2
  · rcases ht.lies b e' with h1 | h1
    · exact h.ap b e h1
    · have := (h.p.pc.enc.row.lt b e).2; omega

theorem EC.below (h : EC B w qb gd cc ou c' ch') (hb : Below w.heap.size w w') : EC B w' qb gd cc ou c' ch' :=
  ⟨⟨by rw [hb.block qb (heap_lt h.enc.cells)]; exact h.enc.cells, own_keep h.enc.row fun g eg => hb.block g (h.enc.row.lt g eg).2, h.enc.lo⟩, h.chs.of (hb.block gd h.chs.lt), h.lo⟩

theorem ES.below (h : ES B w qb gd cc ou c' ch' k') (hb : Below w.heap.size w w') : ES B w' qb gd cc ou c' ch' k' := ⟨h.ec.below hb, h.wide, h.chs, Nat.le_trans h.base hb.size⟩

theorem Two.below (h : Two B w pb gc ov c ch k qb gd cc ou c' ch' k') (hb : Below w.heap.size w w') : Two B w' pb gc ov c ch k qb gd cc ou c' ch' k' := ⟨h.p.below hb, h.d.below hb, h.ap⟩

theorem ES.mono {B' : Nat} (h : ES B w qb gd cc ou c' ch' k') (hB : B' ≤ B) : ES B' w qb gd cc ou c' ch' k' :=
  ⟨⟨⟨h.ec.enc.cells, ⟨h.ec.enc.row.1, by
    rcases h.ec.enc.row.2 with e | ⟨g, cap, cur, e1, e2, e3⟩
    · exact .inl e
    · exact .inr ⟨g, cap, cur, e1, by omega, e3⟩⟩, by have := h.ec.enc.lo; omega⟩, h.ec.chs, by have := h.ec.lo; omega⟩, h.wide, h.chs, by have := h.base; omega⟩

theorem Two.tchD {w0 : World} (h : Two B w pb gc ov c ch k qb gd cc ou c' ch' k') (hb : Below B w0 w) (ht : Tch w w' qb gd cc ou ou') : Below B w0 w' :=
  ⟨ht.os.trans hb.os, ht.tape.trans hb.tape, ht.output.trans hb.output, Nat.le_trans hb.size ht.size, fun q hq => by
    rw [ht.keep q (by have := h.d.ec.enc.lo; have := heap_lt h.d.ec.enc.cells; omega) (by have := h.d.ec.enc.lo; omega) (by have := h.d.ec.lo; omega) (fun e => by have := (h.d.ec.enc.row.lt q e).1; omega)]
    exact hb.block q hq⟩
end
end Go.Proofs.Ytbolhbjipmndeaa.D
