/- index.fill: all places ahead of one. -/
import Derived.Test.YtabnfnejlffioaaStood
namespace Go.Proofs.Ytabnfnejlffioaa
open Go.RowKit Go.Maps
set_option linter.unusedVariables false

attribute [local go_sem ↓] Go.wp_at_zero Go.wp_at_succ

/-- what lies below block B stays, and every block of another type -/
structure Keeps (B : Nat) (ts : List TypeId) (w w' : World) : Prop where
  os : w'.os = w.os
  tape : w'.tape = w.tape
  output : w'.output = w.output
  size : w.heap.size ≤ w'.heap.size
  low : ∀ x : Nat, x < w.heap.size → x < B → w'.heap[x]? = w.heap[x]?
  typ : ∀ (x : Nat) (cs : Array Value) (t : TypeId) (f : Nat × Nat), w.heap[x]? = some (.cells cs t f) → t ∉ ts → w'.heap[x]? = w.heap[x]?

theorem Keeps.refl (B : Nat) (ts : List TypeId) (w : World) : Keeps B ts w w := ⟨rfl, rfl, rfl, Nat.le_refl _, fun _ _ _ => rfl, fun _ _ _ _ _ _ => rfl⟩

theorem Keeps.trans {B : Nat} {ts : List TypeId} {x y z : World} (h : Keeps B ts x y) (k : Keeps B ts y z) : Keeps B ts x z :=
  ⟨k.os.trans h.os, k.tape.trans h.tape, k.output.trans h.output, Nat.le_trans h.size k.size, fun i hi hB => by rw [k.low i (by have := h.size; omega) hB, h.low i hi hB],
    fun i cs t f hi ht => by have h1 := h.typ i cs t f hi ht; rw [k.typ i cs t f (by rw [h1]; exact hi) ht, h1]⟩

theorem Keeps.wide {B : Nat} {ts us : List TypeId} {x y : World} (h : Keeps B ts x y) (hs : ∀ t, t ∈ ts → t ∈ us) : Keeps B us x y :=
  ⟨h.os, h.tape, h.output, h.size, h.low, fun i cs t f hi ht => h.typ i cs t f hi (fun hc => ht (hs t hc))⟩

theorem Keeps.drewN {B : Nat} {ts : List TypeId} {x y : World} (h : Keeps B ts x y) (q : Nat) : Keeps B ts x (y.drewN q) := ⟨h.os, h.tape, h.output, h.size, h.low, h.typ⟩

theorem Keeps.below {B : Nat} {ts : List TypeId} {x y : World} (h : Keeps B ts x y) (hB : B ≤ x.heap.size) : Below B x y := ⟨h.os, h.tape, h.output, h.size, fun k hk => h.low k (by omega) hk⟩

theorem Keeps.of_below {B : Nat} {ts : List TypeId} {x y : World} (h : Below x.heap.size x y) : Keeps B ts x y := ⟨h.os, h.tape, h.output, h.size, fun i hi _ => h.block i hi, fun i cs t f hi _ => h.block i (heap_lt hi)⟩

/-- how many places a level takes in -/
def cnt (L s f : Nat) : Nat := min f (L + 1 - s)

def upf {α : Type} (f : Nat → α) (j : Nat) (x : α) : Nat → α := fun i => if i = j then x else f i

/-- the levels of an index -/
structure Lvs (zs : List Nat) (B N : Nat) (sz b : Nat → Nat) (v : Nat → Value) (m : Nat → Nat) (w : World) (gl : Nat) : Prop where
  blk : ∃ cs, w.heap[gl]? = some (.cells cs 65 (0, 0))
  lv : ∀ j, j < N → LvlAt zs (sz j) (m j) B w gl (j * 3) (b j) (v j)
  ap1 : ∀ i j, i < N → j < N → i ≠ j → b i ≠ b j
  ap2 : ∀ i j, i < N → j < N → i ≠ j → ∀ x, (v i).ownBlock = some x → (v j).ownBlock ≠ some x
  gB : B ≤ gl
  bB : ∀ j, j < N → B ≤ b j

theorem own_base {w : World} {B n : Nat} {v : Value} {xs : List Value} (h : w.ownsRow B 3 1 v n xs) {x : Nat} (hx : v.ownBlock = some x) : B ≤ x ∧ ∃ cs f, w.heap[x]? = some (.cells cs 3 f) := by
  rcases h.2 with ⟨e, _⟩ | ⟨g, cap, cur, e, hb, hh, _⟩
  · rw [e] at hx; simp [Value.ownBlock] at hx
  · rw [e] at hx
    simp [Value.ownBlock] at hx
    subst hx
    exact ⟨hb, _, _, hh⟩

theorem LvlAt.kept {zs : List Nat} {s m B : Nat} {x y : World} {g o b : Nat} {v : Value} (h : LvlAt zs s m B x g o b v) (h0 : ∀ i, i < 3 → y.cell? ⟨g, o + i, none⟩ = x.cell? ⟨g, o + i, none⟩) (hb : y.heap[b]? = x.heap[b]?) (hv : ∀ q, v.ownBlock = some q → y.heap[q]? = x.heap[q]?) : LvlAt zs s m B y g o b v :=
  ⟨by have := h0 0 (by omega); rw [show o + 0 = o from rfl] at this; rw [this]; exact h.c0, by rw [h0 1 (by omega)]; exact h.c1, by rw [h0 2 (by omega)]; exact h.c2, h.mp.block hb, own_keep h.row hv⟩

theorem Lvs.kept {zs : List Nat} {B N : Nat} {sz b : Nat → Nat} {v : Nat → Value} {m : Nat → Nat} {x y : World} {gl : Nat} (h : Lvs zs B N sz b v m x gl) (hg : y.heap[gl]? = x.heap[gl]?) (hb : ∀ j, j < N → y.heap[b j]? = x.heap[b j]?) (hv : ∀ j q, j < N → (v j).ownBlock = some q → y.heap[q]? = x.heap[q]?) : Lvs zs B N sz b v m y gl := by
  obtain ⟨cs, hcs⟩ := h.blk
  exact ⟨⟨cs, by rw [hg]; exact hcs⟩, fun j hj => (h.lv j hj).kept (fun i _ => World.cell?_of_block (by exact hg)) (hb j hj) (fun q hq => hv j q hj hq), h.ap1, h.ap2, h.gB, h.bB⟩

/-- only new blocks, and blocks of no such type -/
theorem Lvs.grown {zs : List Nat} {B N : Nat} {sz b : Nat → Nat} {v : Nat → Value} {m : Nat → Nat} {x y : World} {gl : Nat} (h : Lvs zs B N sz b v m x gl) (hk : ∀ i, i < x.heap.size → y.heap[i]? = x.heap[i]?) : Lvs zs B N sz b v m y gl := by
  obtain ⟨cs, hcs⟩ := h.blk
  refine h.kept (hk _ (heap_lt hcs)) (fun j hj => ?_) (fun j q hj hq => ?_)
  · obtain ⟨es, ck, hb⟩ := (h.lv j hj).mp.is
    exact hk _ (heap_lt hb)
  · obtain ⟨_, cs, f, hh⟩ := own_base (h.lv j hj).row hq
    exact hk _ (heap_lt hh)

theorem Lvs.added {zs : List Nat} {B N : Nat} {sz b : Nat → Nat} {v : Nat → Value} {m : Nat → Nat} {w w' : World} {gl : Nat} (h : Lvs zs B N sz b v m w gl) {j : Nat} (hj : j < N) {v' : Value} {k : Nat} (hl : LvlAt zs (sz j) k B w' gl (j * 3) (b j) v') (hc : AddChg w gl (j * 3) (b j) (v j) v' w') : Lvs zs B N sz b (upf v j v') (upf m j k) w' gl ∧ Keeps B [3, 65] w w' := by
  obtain ⟨cs, hcs⟩ := h.blk
  have hg' := hc.gb cs 65 (0, 0) hcs
  have rowb : ∀ i, i < N → ∀ q, (v i).ownBlock = some q → q ≠ gl := fun i hi q hq e => row_not_cells (h.lv i hi).row hcs (by decide) (by rw [hq, e])
  have hlt : ∀ i, i < N → ∀ q, (v i).ownBlock = some q → q < w.heap.size := fun i hi q hq => by
    obtain ⟨_, cs, f, hh⟩ := own_base (h.lv i hi).row hq
    exact heap_lt hh
  refine ⟨⟨⟨_, hg'⟩, fun i hi => ?_, h.ap1, fun i i' hi hi' hne x hx => ?_, h.gB, h.bB⟩, ⟨hc.os, hc.tape, hc.output, hc.size, fun x hx hB => ?_, fun x cs' t f hx ht => ?_⟩⟩
  · by_cases e : i = j
    · subst e
      rw [show upf v i v' i = v' by simp [upf], show upf m i k i = k by simp [upf]]
      exact hl
    · rw [show upf v j v' i = v i by simp [upf, e], show upf m j k i = m i by simp [upf, e]]
      refine (h.lv i hi).kept (fun a ha => ?_) ?_ (fun q hq => ?_)
      · simp only [World.cell?, hg', hcs]
        rw [Array.getElem?_setIfInBounds_ne (by omega)]
      · obtain ⟨es, ck, hb⟩ := (h.lv i hi).mp.is
        refine hc.kp _ (heap_lt hb) (fun e2 => by rw [e2, hcs] at hb; cases hb) (fun e2 => h.ap1 i j hi hj e e2) (fun e2 => row_not_map (h.lv j hj).row hb e2)
      · refine hc.kp q (hlt i hi q hq) (rowb i hi q hq) (fun e2 => ?_) (fun e2 => h.ap2 i j hi hj e q hq e2)
        obtain ⟨es, ck, hb⟩ := (h.lv j hj).mp.is
        rw [← e2] at hb
        exact row_not_map (h.lv i hi).row hb hq
  · have hown := hc.own
    by_cases e : i = j
    · subst e
      rw [show upf v i v' i = v' by simp [upf]] at hx
      rw [show upf v i v' i' = v i' by simp [upf]; intro e; omega]
      intro hx'
      rcases hown with e | ⟨q, e, hq⟩
      · rw [e] at hx
        exact h.ap2 i i' hi hi' hne x hx hx'
      · have := hlt i' hi' x hx'
        rw [e] at hx
        injection hx with hx
        omega
    · rw [show upf v j v' i = v i by simp [upf, e]] at hx
      by_cases e' : i' = j
      · subst e'
        rw [show upf v i' v' i' = v' by simp [upf]]
        intro hx'
        rcases hown with e2 | ⟨q, e2, hq⟩
        · rw [e2] at hx'
          exact h.ap2 i i' hi hi' hne x hx hx'
        · have := hlt i hi x hx
          rw [e2] at hx'
          injection hx' with hx'
          omega
      · rw [show upf v j v' i' = v i' by simp [upf, e']]
        exact h.ap2 i i' hi hi' hne x hx
  · have h1 := h.gB
    have h2 := h.bB j hj
    exact hc.kp x hx (by omega) (by omega) (fun e => by have := (own_base (h.lv j hj).row e).1; omega)
  · simp at ht
    refine hc.kp x (heap_lt hx) (fun e => ?_) (fun e => ?_) (fun e => ?_)
    · rw [e, hcs] at hx
      injection hx with hx
      injection hx with _ hx _
      exact ht.2 hx.symm
    · obtain ⟨es, ck, hb⟩ := (h.lv j hj).mp.is
      rw [e, hb] at hx
      cases hx
    · obtain ⟨_, cs2, f2, hh⟩ := own_base (h.lv j hj).row e
      rw [hh] at hx
      injection hx with hx
      injection hx with _ hx _
      exact ht.1 hx.symm

theorem Lvs.cong {zs : List Nat} {B N : Nat} {sz b : Nat → Nat} {v : Nat → Value} {m m' : Nat → Nat} {w : World} {gl : Nat} (h : Lvs zs B N sz b v m w gl) (hm : ∀ j, j < N → m' j = m j) : Lvs zs B N sz b v m' w gl :=
  ⟨h.blk, fun j hj => by rw [hm j hj]; exact h.lv j hj, h.ap1, h.ap2, h.gB, h.bB⟩

/-- the whole index -/
structure IdxAt (zs : List Nat) (B N : Nat) (sz b : Nat → Nat) (v : Nat → Value) (m : Nat → Nat) (gx gl lc W M f : Nat) (tx : Value) (w : World) : Prop where
  xb : w.heap[gx]? = some (.cells #[tx, .int .i64 (W : Int), .int .i64 (M : Int), .slice (some ⟨gl, 0, none⟩) N lc, .int .i64 (f : Int)] 54 (0, 0))
  lvs : Lvs zs B N sz b v m w gl
  xB : B ≤ gx

section
variable {zs : List Nat} {B N : Nat} {sz b : Nat → Nat} {v : Nat → Value} {m : Nat → Nat} {gx gl lc W M f : Nat} {tx : Value} {w : World}

theorem IdxAt.x0 (h : IdxAt zs B N sz b v m gx gl lc W M f tx w) : w.cell? ⟨gx, 0, none⟩ = some tx := by simp [World.cell?, h.xb]
theorem IdxAt.x1 (h : IdxAt zs B N sz b v m gx gl lc W M f tx w) : w.cell? ⟨gx, 1, none⟩ = some (.int .i64 (W : Int)) := by simp [World.cell?, h.xb]
theorem IdxAt.x2 (h : IdxAt zs B N sz b v m gx gl lc W M f tx w) : w.cell? ⟨gx, 2, none⟩ = some (.int .i64 (M : Int)) := by simp [World.cell?, h.xb]
theorem IdxAt.x3 (h : IdxAt zs B N sz b v m gx gl lc W M f tx w) : w.cell? ⟨gx, 3, none⟩ = some (.slice (some ⟨gl, 0, none⟩) N lc) := by simp [World.cell?, h.xb]
theorem IdxAt.x4 (h : IdxAt zs B N sz b v m gx gl lc W M f tx w) : w.cell? ⟨gx, 4, none⟩ = some (.int .i64 (f : Int)) := by simp [World.cell?, h.xb]
theorem IdxAt.fz (h : IdxAt zs B N sz b v m gx gl lc W M f tx w) (i : Nat) : w.frozen? ⟨gx, i, none⟩ = false := by simp [World.frozen?, h.xb]

theorem IdxAt.gne (h : IdxAt zs B N sz b v m gx gl lc W M f tx w) : gx ≠ gl := fun e => by
  obtain ⟨cs, hcs⟩ := h.lvs.blk
  have := h.xb
  rw [e, hcs] at this
  injection this with this
  injection this with _ this _
  cases this

/-- one place more -/
theorem IdxAt.next (h : IdxAt zs B N sz b v m gx gl lc W M f tx w) (f' : Nat) : IdxAt zs B N sz b v m gx gl lc W M f' tx (w.setCell ⟨gx, 4, none⟩ (.int .i64 (f' : Int))) ∧ Keeps B [3, 54, 65] w (w.setCell ⟨gx, 4, none⟩ (.int .i64 (f' : Int))) := by
  have o : ∀ k, k ≠ gx → (w.setCell ⟨gx, 4, none⟩ (.int .i64 (f' : Int))).heap[k]? = w.heap[k]? := fun k hk => heap_setCell_other _ _ _ _ (by exact hk)
  have hxb := h.xb
  refine ⟨⟨?_, h.lvs.kept (o _ (fun e => h.gne e.symm)) (fun j hj => o _ (fun e => ?_)) (fun j q hj hq => o _ (fun e => ?_)), h.xB⟩, ⟨rfl, rfl, rfl, by simp, fun x hx hB => o x (fun e => by have := h.xB; omega), fun x cs t f hx ht => o x (fun e => ?_)⟩⟩
  · rw [heap_setCell_same w gx 4 _ 54 _ hxb]; rfl
  · obtain ⟨es, ck, hb⟩ := (h.lvs.lv j hj).mp.is
    rw [e, hxb] at hb
    cases hb
  · exact row_not_cells (h.lvs.lv j hj).row hxb (by decide) (by rw [hq, e])
  · rw [e, hxb] at hx
    injection hx with hx
    injection hx with _ hx _
    simp at ht
    exact ht.2.1 hx.symm

theorem IdxAt.add {k : Nat} {v' : Value} {w' : World} {j : Nat} (h : IdxAt zs B N sz b v m gx gl lc W M f tx w) (hj : j < N) (hl : LvlAt zs (sz j) k B w' gl (j * 3) (b j) v') (hc : AddChg w gl (j * 3) (b j) (v j) v' w') : IdxAt zs B N sz b (upf v j v') (upf m j k) gx gl lc W M f tx w' ∧ Keeps B [3, 54, 65] w w' := by
  obtain ⟨h1, h2⟩ := h.lvs.added hj hl hc
  exact ⟨⟨by rw [h2.typ gx _ 54 (0, 0) h.xb (by decide)]; exact h.xb, h1, h.xB⟩, h2.wide (fun t ht => by simp at ht ⊢; rcases ht with e | e <;> simp [e])⟩

theorem IdxAt.grown {y : World} (h : IdxAt zs B N sz b v m gx gl lc W M f tx w) (hk : ∀ i, i < w.heap.size → y.heap[i]? = w.heap[i]?) : IdxAt zs B N sz b v m gx gl lc W M f tx y :=
  ⟨by rw [hk _ (heap_lt h.xb)]; exact h.xb, h.lvs.grown hk, h.xB⟩

theorem IdxAt.cong {m' : Nat → Nat} (h : IdxAt zs B N sz b v m gx gl lc W M f tx w) (hm : ∀ j, j < N → m' j = m j) : IdxAt zs B N sz b v m' gx gl lc W M f tx w := ⟨h.xb, h.lvs.cong hm, h.xB⟩
end

end Go.Proofs.Ytabnfnejlffioaa
