/- Packages of coins in memory, while they are made. -/
import Derived.Test.YtdpbjeajipggbaaComing
namespace Go.Proofs.Ytdpbjeajipggbaa
open Go.RowKit
set_option linter.unusedVariables false

/-- a list of coins -/
def CoinsL (w : World) (v : Value) (cs : List Merge.Coin) : Prop := ∃ a c cv, v = .slice a cs.length c ∧ ReadsC w a c cv ∧ CoinsR w cv cs

theorem CoinsL.stays {w w1 : World} (hb : Below w.heap.size w w1) {v : Value} {cs : List Merge.Coin} (h : CoinsL w v cs) : CoinsL w1 v cs := by
  obtain ⟨a, c, cv, rfl, h1, h2⟩ := h
  exact ⟨a, c, cv, rfl, h1.stays hb, h2.stays hb⟩

theorem CoinsL.drewN {w : World} (q : Nat) {v : Value} {cs : List Merge.Coin} (h : CoinsL w v cs) : CoinsL (w.drewN q) v cs := h.stays ⟨rfl, rfl, rfl, Nat.le_refl _, fun _ _ => rfl⟩

/-- one of them -/
theorem CoinsL.get {w : World} {v : Value} {cs : List Merge.Coin} (h : CoinsL w v cs) (h0 : 0 < cs.length) : ∃ b off c, v = .slice (some ⟨b, off, none⟩) cs.length c ∧ cs.length ≤ c ∧ ∀ j, j < cs.length → ∃ sv, w.cell? ⟨b, off + j * 2, none⟩ = some (.int .i64 ((cs.getD j Merge.d0).1 : Int)) ∧ w.cell? ⟨b, off + j * 2 + 1, none⟩ = some sv ∧ SymV w sv (cs.getD j Merge.d0).2 := by
  obtain ⟨a, c, cv, rfl, h1, h2⟩ := h
  rcases h1 with ⟨_, _, rfl⟩ | ⟨b, off, rfl, hl, hc⟩
  · have := h2.1
    simp at this
    omega
  · refine ⟨b, off, c, rfl, by rw [← h2.1]; exact hl, fun j hj => ⟨(cv.getD j cz).2, ?_, (hc j (by rw [h2.1]; exact hj)).2, (h2.2 j hj).2⟩⟩
    rw [← (h2.2 j hj).1]
    exact (hc j (by rw [h2.1]; exact hj)).1

/-- symbols in a block of ints -/
def SymT (w : World) (v : Value) (l : List Nat) : Prop := ∃ a cap, v = .slice a l.length cap ∧ ((a = none ∧ cap = 0 ∧ l = []) ∨ ∃ g off cs f, a = some ⟨g, off, none⟩ ∧ w.heap[g]? = some (.cells cs 3 f) ∧ ∀ j, j < l.length → cs[off + j]? = some (iv (l.getD j 0 : Nat)))

theorem SymT.v {w : World} {v : Value} {l : List Nat} (h : SymT w v l) : SymV w v l := by
  obtain ⟨a, cap, rfl, h⟩ := h
  refine ⟨a, cap, rfl, ?_⟩
  rcases h with ⟨h1, h2, h3⟩ | ⟨g, off, cs, f, rfl, hh, hc⟩
  · exact .inl ⟨h1, h2, by rw [h3]; rfl⟩
  · refine .inr ⟨_, rfl, fun j u hj => ?_⟩
    have hl : j < l.length := by
      have := (List.getElem?_eq_some_iff.1 hj).1
      simpa [nats] using this
    have ea : (⟨g, off, none⟩ : Addr).add j = ⟨g, off + j, none⟩ := by by_cases hq : j = 0 <;> simp [Addr.add, hq]
    rw [ea]
    simp only [World.cell?, hh]
    rw [hc j hl]
    simpa [nats, hl] using hj

/-- blocks of ints stay -/
def Keep3 (w w' : World) : Prop := ∀ (g : Nat) (cs : Array Value) (f : Nat × Nat), w.heap[g]? = some (.cells cs 3 f) → w'.heap[g]? = some (.cells cs 3 f)

theorem Keep3.trans {a b c : World} (h : Keep3 a b) (k : Keep3 b c) : Keep3 a c := fun g cs f hg => k g cs f (h g cs f hg)
theorem Keep3.below {w w' : World} (h : Below w.heap.size w w') : Keep3 w w' := fun g cs f hg => by rw [h.block g (heap_lt hg)]; exact hg
theorem Keep3.grown {w w' : World} {base n : Nat} {v : Value} {xs : List Value} (ho : w.ownsRow base 48 2 v n xs) (hg : w.grownBy w' v.ownBlock) : Keep3 w w' := fun g cs f h => sym_keep h ho hg

theorem SymT.keep {w w' : World} (hk : Keep3 w w') {v : Value} {l : List Nat} (h : SymT w v l) : SymT w' v l := by
  obtain ⟨a, cap, rfl, h⟩ := h
  refine ⟨a, cap, rfl, ?_⟩
  rcases h with h | ⟨g, off, cs, f, rfl, hh, hc⟩
  · exact .inl h
  · exact .inr ⟨g, off, cs, f, rfl, hk g cs f hh, hc⟩

theorem own_symT {w : World} {base n : Nat} {v : Value} {l : List Nat} (h : w.ownsRow base 3 1 v n ((nats l).map iv)) : SymT w v l := by
  have hl := h.1
  simp [nats] at hl
  subst hl
  rcases h.2 with ⟨e, e'⟩ | ⟨g, cap, cur, e, _, hh, _, _, _, ht⟩
  · exact ⟨none, 0, by rw [e, e'], .inl ⟨rfl, rfl, List.length_eq_zero_iff.1 e'⟩⟩
  · refine ⟨_, cap, e, .inr ⟨g, 0, cur, _, rfl, hh, fun j hj => ?_⟩⟩
    have h2 : (cur.toList.take (l.length * 1))[j]? = some (iv (l.getD j 0 : Nat)) := by rw [ht]; simp [nats, hj]
    rw [List.getElem?_take, if_pos (by omega)] at h2
    rw [Nat.zero_add, ← Array.getElem?_toList]
    exact h2

/-- values are these coins, their symbols in blocks of ints -/
def CoinsT (w : World) (cv : List CV) (cs : List Merge.Coin) : Prop := cv.length = cs.length ∧ ∀ j, j < cs.length → (cv.getD j cz).1 = (cs.getD j Merge.d0).1 ∧ SymT w (cv.getD j cz).2 (cs.getD j Merge.d0).2

theorem CoinsT.r {w : World} {cv : List CV} {cs : List Merge.Coin} (h : CoinsT w cv cs) : CoinsR w cv cs := ⟨h.1, fun j hj => ⟨(h.2 j hj).1, (h.2 j hj).2.v⟩⟩

theorem CoinsT.keep {w w' : World} (hk : Keep3 w w') {cv : List CV} {cs : List Merge.Coin} (h : CoinsT w cv cs) : CoinsT w' cv cs := ⟨h.1, fun j hj => ⟨(h.2 j hj).1, (h.2 j hj).2.keep hk⟩⟩

theorem CoinsT.snoc {w : World} {cv : List CV} {cs : List Merge.Coin} {x : Nat} {v : Value} {l : List Nat} (h : CoinsT w cv cs) (h' : SymT w v l) : CoinsT w (cv ++ [(x, v)]) (cs ++ [(x, l)]) := by
  refine ⟨by simp [h.1], fun j hj => ?_⟩
  by_cases hl : j < cs.length
  · rw [getD_cl cz cv _ j (by rw [h.1]; exact hl), getD_cl Merge.d0 cs _ j hl]
    exact h.2 j hl
  · have e : j = cs.length + 0 := by simp at hj; omega
    rw [e, getD_cr Merge.d0 cs, ← h.1, getD_cr cz cv]
    exact ⟨rfl, h'⟩

/-- packages, while they are made -/
structure PackAt (coins : List Merge.Coin) (wk ws : World) (v : Value) (pv : List CV) (p : Nat) : Prop where
  own : ws.ownsRow wk.heap.size 48 2 v p (ccells pv)
  co : CoinsT ws pv ((Merge.pack coins).take p)
  bel : Below wk.heap.size wk ws

theorem PackAt.next {coins : List Merge.Coin} {wk ws wx w3 : World} {v v3 sv : Value} {pv : List CV} {p x : Nat} {l : List Nat} (h : PackAt coins wk ws v pv p) (hp : p < (Merge.pack coins).length) (hx : (Merge.pack coins).getD p Merge.d0 = (x, l))
    (hb : Below ws.heap.size ws wx) (hs : SymT wx sv l) (ho : wx.ownsRow wk.heap.size 48 2 v p (ccells pv)) (hg : (wx.alloc (.cells #[.int .i64 (x : Int), sv] 48)).grownBy w3 v.ownBlock) (ho3 : w3.ownsRow wk.heap.size 48 2 v3 (p + 1) (ccells (pv ++ [(x, sv)]))) : PackAt coins wk w3 v3 (pv ++ [(x, sv)]) (p + 1) := by
  have hbx := h.bel.trans (hb.mono h.bel.size)
  refine ⟨ho3, ?_, (hbx.alloc hbx.size _).grown hg (by have := hbx.size; simp; omega) (fun y e => (ho.lt y e).1)⟩
  rw [Merge.take_succ_get _ p hp, hx]
  have hk : Keep3 wx w3 := (Keep3.below ((Below.refl _ _).alloc (Nat.le_refl _) _)).trans (Keep3.grown (ho.alloc _) hg)
  exact ((h.co.keep (Keep3.below hb)).keep hk).snoc (hs.keep hk)

theorem PackAt.done {coins : List Merge.Coin} {wk ws : World} {v : Value} {pv : List CV} {p : Nat} (h : PackAt coins wk ws v pv p) (hp : p = (Merge.pack coins).length) : CoinsL ws v (Merge.pack coins) := by
  obtain ⟨a, c, rfl, hn, hr⟩ := own_coins h.own
  have hc := h.co.r
  rw [List.take_of_length_le (by omega)] at hc
  exact ⟨a, c, pv, by rw [hp], hr, hc⟩

/-- what is merged so far -/
structure NextAt (next : List Merge.Coin) (wn ws : World) (v : Value) (nv : List CV) : Prop where
  own : ws.ownsRow wn.heap.size 48 2 v next.length (ccells nv)
  co : CoinsR wn nv next
  bel : Below wn.heap.size wn ws

theorem NextAt.snoc {next : List Merge.Coin} {wn ws w2 : World} {v v2 sv : Value} {nv : List CV} {x : Nat} {l : List Nat} (h : NextAt next wn ws v nv) (hs : SymV wn sv l) (ho : w2.ownsRow wn.heap.size 48 2 v2 (next.length + 1) (ccells (nv ++ [(x, sv)]))) (hg : (ws.alloc (.cells #[.int .i64 (x : Int), sv] 48)).grownBy w2 v.ownBlock) : NextAt (next ++ [(x, l)]) wn w2 v2 (nv ++ [(x, sv)]) :=
  ⟨by rw [List.length_append]; exact ho, h.co.append (CoinsR.one hs), (h.bel.alloc h.bel.size _).grown hg (by have := h.bel.size; simp; omega) (fun y e => (h.own.lt y e).1)⟩

theorem NextAt.drewN {next : List Merge.Coin} {wn ws : World} {v : Value} {nv : List CV} (h : NextAt next wn ws v nv) (q : Nat) : NextAt next wn (ws.drewN q) v nv := ⟨h.own, h.co, below_drewN h.bel q⟩

end Go.Proofs.Ytdpbjeajipggbaa
