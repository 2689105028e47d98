/-
  What a writer of bits is in memory: its struct and the row of its bytes; and what a call that writes through it may change.
-/
import Derived.Test.YtclccccodeekmaaRows
import Derived.Test.YtclccccodeekmaaMath
import Derived.WalkKit
import Derived.WalkSpells
import Derived.Handy
import Derived.Laws.Rows
import Derived.Laws.BitsAllLaws
namespace Go.Proofs.Ytclccccodeekmaa
open Go.RowKit Mth

theorem hide {p : Prop} (h : p) : Hid p := h
theorem unhide {p : Prop} (h : Hid p) : p := h

def bv (z : Nat) : Value := .int .u8 (z : Int)

structure WOk (w : World) (pb : Nat) (high : Bool) (v : Value) (m : Nat) (L : List Bool) (f : Nat) : Prop where
  blk : w.heap[pb]? = some (.cells #[.bool true, .bool high, v, .int .i64 (f : Int)] 76 (0, 0))
  row : w.ownsRow (pb + 1) 5 1 v m ((pk high m L).map bv)
  len : L.length + f = 8 * m

structure Chg (pb : Nat) (v0 : Value) (w0 : World) (v : Value) (w : World) : Prop where
  os : w.os = w0.os
  tape : w.tape = w0.tape
  output : w.output = w0.output
  size : w0.heap.size ≤ w.heap.size
  keep : ∀ k, k < w0.heap.size → k ≠ pb → v0.ownBlock ≠ some k → w.heap[k]? = w0.heap[k]?
  lies : v.ownBlock = v0.ownBlock ∨ ∃ g, v.ownBlock = some g ∧ w0.heap.size ≤ g

theorem Chg.refl (pb : Nat) (v : Value) (w : World) : Chg pb v w v w := ⟨rfl, rfl, rfl, Nat.le_refl _, fun _ _ _ _ => rfl, .inl rfl⟩

theorem Chg.trans {pb : Nat} {v0 v1 v2 : Value} {w0 w1 w2 : World} (h : Chg pb v0 w0 v1 w1) (k : Chg pb v1 w1 v2 w2) : Chg pb v0 w0 v2 w2 where
  os := k.os.trans h.os
  tape := k.tape.trans h.tape
  output := k.output.trans h.output
  size := Nat.le_trans h.size k.size
  keep := fun b hb hne hv => by
    have hs := h.size
    rw [k.keep b (by omega) hne (by
      rcases h.lies with e | ⟨g, e, hg⟩
      · rw [e]; exact hv
      · rw [e]; intro c; injection c with c; omega), h.keep b hb hne hv]
  lies := by
    have hs := h.size
    rcases k.lies with e | ⟨g, e, hg⟩
    · rw [e]; exact h.lies
    · exact .inr ⟨g, e, by omega⟩

theorem WOk.c0 {w : World} {pb : Nat} {high : Bool} {v : Value} {m : Nat} {L : List Bool} {f : Nat} (h : WOk w pb high v m L f) : w.cell? ⟨pb, 0, none⟩ = some (.bool true) := by simp [World.cell?, h.blk]
theorem WOk.c1 {w : World} {pb : Nat} {high : Bool} {v : Value} {m : Nat} {L : List Bool} {f : Nat} (h : WOk w pb high v m L f) : w.cell? ⟨pb, 1, none⟩ = some (.bool high) := by simp [World.cell?, h.blk]
theorem WOk.c2 {w : World} {pb : Nat} {high : Bool} {v : Value} {m : Nat} {L : List Bool} {f : Nat} (h : WOk w pb high v m L f) : w.cell? ⟨pb, 2, none⟩ = some v := by simp [World.cell?, h.blk]
theorem WOk.c3 {w : World} {pb : Nat} {high : Bool} {v : Value} {m : Nat} {L : List Bool} {f : Nat} (h : WOk w pb high v m L f) : w.cell? ⟨pb, 3, none⟩ = some (.int .i64 (f : Int)) := by simp [World.cell?, h.blk]
theorem WOk.fz {w : World} {pb : Nat} {high : Bool} {v : Value} {m : Nat} {L : List Bool} {f : Nat} (h : WOk w pb high v m L f) (o : Nat) : w.frozen? ⟨pb, o, none⟩ = false := by simp [World.frozen?, h.blk]
theorem WOk.lt {w : World} {pb : Nat} {high : Bool} {v : Value} {m : Nat} {L : List Bool} {f : Nat} (h : WOk w pb high v m L f) : pb < w.heap.size := by
  rcases Nat.lt_or_ge pb w.heap.size with h' | h'
  · exact h'
  · have := h.blk; rw [Array.getElem?_eq_none h'] at this; cases this


theorem bv_set (l : List Nat) (i x : Nat) : (l.map bv).set i (bv x) = (l.set i x).map bv := by rw [List.map_set]

/-- The struct's cells, where the row has grown and the struct is not yet told so. -/
theorem WOk.grown {wr w1 : World} {pb : Nat} {high : Bool} {v : Value} {m : Nat} {L : List Bool} {f : Nat} {o : Obj} (h : WOk wr pb high v m L f) (hg : (wr.alloc o).grownBy w1 v.ownBlock) :
    w1.cell? ⟨pb, 1, none⟩ = some (.bool high) ∧ w1.cell? ⟨pb, 2, none⟩ = some v ∧ w1.cell? ⟨pb, 3, none⟩ = some (.int .i64 (f : Int)) ∧ w1.frozen? ⟨pb, 2, none⟩ = false ∧ w1.frozen? ⟨pb, 3, none⟩ = false := by
  have hlt := h.lt
  have hvb : v.ownBlock ≠ some pb := fun e => by have := (h.row.lt pb e).1; omega
  have hbk : w1.heap[pb]? = some (.cells #[.bool true, .bool high, v, .int .i64 (f : Int)] 76 (0, 0)) := by
    rw [hg.block pb (by simp; omega) (fun e => hvb e.symm), Below.heap_alloc _ _ _ hlt]; exact h.blk
  simp [World.cell?, World.frozen?, hbk]

/-- A byte 0 is laid behind, and eight places are free. -/
theorem WOk.grow {wr w1 : World} {pb : Nat} {high : Bool} {v : Value} {m g cap : Nat} {L : List Bool} (h : WOk wr pb high v m L 0) (o : Obj)
    (hown : w1.ownsRow (pb + 1) 5 1 (.slice (some ⟨g, 0, none⟩) (m + 1) cap) (m + 1) ((pk high m L).map bv ++ [.int .u8 0])) (hg : (wr.alloc o).grownBy w1 v.ownBlock) (hat : v.ownBlock = some g ∨ g = wr.heap.size + 1) :
    WOk ((w1.setCell ⟨pb, 2, none⟩ (.slice (some ⟨g, 0, none⟩) (m + 1) cap)).setCell ⟨pb, 3, none⟩ (.int .i64 8)) pb high (.slice (some ⟨g, 0, none⟩) (m + 1) cap) (m + 1) L 8 ∧
    Chg pb v wr (.slice (some ⟨g, 0, none⟩) (m + 1) cap) ((w1.setCell ⟨pb, 2, none⟩ (.slice (some ⟨g, 0, none⟩) (m + 1) cap)).setCell ⟨pb, 3, none⟩ (.int .i64 8)) := by
  have hlt := h.lt
  have hvb : v.ownBlock ≠ some pb := fun e => by have := (h.row.lt pb e).1; omega
  have hgp : g ≠ pb := by
    rcases hat with e | e
    · have := (h.row.lt g e).1; omega
    · omega
  have hbk : w1.heap[pb]? = some (.cells #[.bool true, .bool high, v, .int .i64 0] 76 (0, 0)) := by
    rw [hg.block pb (by simp; omega) (fun e => hvb e.symm), Below.heap_alloc _ _ _ hlt]; exact h.blk
  refine ⟨⟨?_, ?_, ?_⟩, ?_⟩
  · have h2 := heap_setCell_same w1 pb 2 _ _ (.slice (some ⟨g, 0, none⟩) (m + 1) cap) hbk
    rw [heap_setCell_same _ pb 3 _ _ _ h2]
    simp
  · obtain ⟨hl, hr⟩ := hown
    refine ⟨by simp [pk_length], ?_⟩
    rcases hr with ⟨e, _⟩ | ⟨g', cap', cur, e, hb, hh, hn, hc, hs, ht⟩
    · cases e
    · injection e with e1 e2 e3
      injection e1 with e1
      injection e1 with e1
      subst e1 e3
      refine .inr ⟨g, cap, cur, rfl, hb, ?_, hn, hc, hs, ?_⟩
      · rw [heap_setCell_other _ _ _ _ (by exact hgp), heap_setCell_other _ _ _ _ (by exact hgp)]; exact hh
      · rw [ht, pk_succ_beyond high L m (by have := h.len; omega)]; simp [bv]
  · have := h.len; omega
  · refine ⟨hg.os, hg.tape, hg.output, ?_, ?_, ?_⟩
    · have := hg.size; simp at this ⊢; omega
    · intro k hk hne hv
      rw [heap_setCell_other _ _ _ _ (by exact hne), heap_setCell_other _ _ _ _ (by exact hne), hg.block k (by simp; omega) (fun e => hv e.symm), Below.heap_alloc _ _ _ hk]
    · rcases hat with e | e
      · exact .inl e.symm
      · exact .inr ⟨g, rfl, by omega⟩

/-- One bit is laid into the last byte. -/
theorem WOk.bit {wr : World} {pb : Nat} {high : Bool} {q g cap f : Nat} {L : List Bool} (h : WOk wr pb high (.slice (some ⟨g, 0, none⟩) (q + 1) cap) (q + 1) L (f + 1)) (hf : f ≤ 7) (b : Bool) :
    WOk ((wr.setCell ⟨g, q, none⟩ (bv (octet high L q ||| (b.toNat <<< rk high 8 (7 - f))))).setCell ⟨pb, 3, none⟩ (.int .i64 (f : Int))) pb high (.slice (some ⟨g, 0, none⟩) (q + 1) cap) (q + 1) (L ++ [b]) f ∧
    Chg pb (.slice (some ⟨g, 0, none⟩) (q + 1) cap) wr (.slice (some ⟨g, 0, none⟩) (q + 1) cap) ((wr.setCell ⟨g, q, none⟩ (bv (octet high L q ||| (b.toNat <<< rk high 8 (7 - f))))).setCell ⟨pb, 3, none⟩ (.int .i64 (f : Int))) := by
  have hlt := h.lt
  have hgp : g ≠ pb := by have := (h.row.lt g rfl).1; omega
  have hll := h.len
  refine ⟨⟨?_, ?_, ?_⟩, ?_⟩
  · rw [heap_setCell_same _ pb 3 #[.bool true, .bool high, .slice (some ⟨g, 0, none⟩) (q + 1) cap, .int .i64 ((f + 1 : Nat) : Int)] 76 _ (by rw [heap_setCell_other _ _ _ _ (by exact hgp.symm)]; exact h.blk)]
    simp
  · obtain ⟨hl, hr⟩ := h.row
    refine ⟨by simp [pk_length], ?_⟩
    rcases hr with ⟨e, _⟩ | ⟨g', cap', cur, e, hb, hh, hn, hc, hs, ht⟩
    · cases e
    · injection e with e1 e2 e3
      injection e1 with e1
      injection e1 with e1
      subst e1 e3
      refine .inr ⟨g, cap, cur.setIfInBounds q (bv (octet high L q ||| (b.toNat <<< rk high 8 (7 - f)))), rfl, hb, ?_, hn, hc, ?_, ?_⟩
      · rw [heap_setCell_other _ _ _ _ (by exact hgp), heap_setCell_same _ g q cur 5 _ hh]
      · simpa using hs
      · rw [pk_append_one high L b q (7 - f) (by omega) (by omega), ← bv_set, ← ht]
        simp [List.take_set]
  · simp; omega
  · refine ⟨rfl, rfl, rfl, ?_, ?_, .inl rfl⟩
    · simp
    · intro k hk hne hv
      have hv' : k ≠ g := fun e => hv (by rw [e]; rfl)
      rw [heap_setCell_other _ _ _ _ (by exact hne), heap_setCell_other _ _ _ _ (by exact hv')]

/-- The last byte, in its cell. -/
theorem WOk.last {wr : World} {pb : Nat} {high : Bool} {q g cap f : Nat} {L : List Bool} (h : WOk wr pb high (.slice (some ⟨g, 0, none⟩) (q + 1) cap) (q + 1) L f) :
    wr.cell? ⟨g, q, none⟩ = some (.int .u8 (octet high L q : Int)) := by
  have := h.row.cells (g := g) rfl q (bv (octet high L q)) (by rw [List.getElem?_map, pk_get high (q + 1) L q (by omega)]; rfl)
  have e : (⟨g, 0, none⟩ : Addr).add q = ⟨g, q, none⟩ := by by_cases hq : q = 0 <;> simp [Addr.add, hq]
  rw [e] at this
  exact this

theorem WOk.lastfz {wr : World} {pb : Nat} {high : Bool} {q g cap f : Nat} {L : List Bool} (h : WOk wr pb high (.slice (some ⟨g, 0, none⟩) (q + 1) cap) (q + 1) L f) :
    wr.frozen? ⟨g, q, none⟩ = false ∧ g ≠ pb ∧ g < wr.heap.size ∧ (q : Int) + 1 ≤ cap ∧ (cap : Int) ≤ 9223372036854775807 := by
  have hb := (h.row.lt g rfl)
  obtain ⟨hl, hr⟩ := h.row
  rcases hr with ⟨e, _⟩ | ⟨g', cap', cur, e, hb', hh, hn, hc, hs, ht⟩
  · cases e
  · injection e with e1 e2 e3
    injection e1 with e1
    injection e1 with e1
    subst e1 e3
    unfold maxLen at hc
    exact ⟨by simp [World.frozen?, hh], by omega, by omega, by omega, by omega⟩

/-- A bit of a number, as the walk spells it. -/
theorem bit_val (V r : Nat) (hr : r < 64) : bits .and .u8 ((V : Int) / 2 ^ min r 64 % 256) 1 = ((V.testBit r).toNat : Int) := by
  rw [Nat.min_eq_left (by omega), show ((V : Int) / 2 ^ r % 256) = ((V / 2 ^ r % 256 : Nat) : Int) by simp]
  have h := u8_and_nat (V / 2 ^ r % 256) 1 (Nat.mod_lt _ (by decide)) (by decide)
  rw [Nat.and_one_is_mod, ← Nat.shiftRight_eq_div_pow, shift_and_one] at h
  rw [← Nat.shiftRight_eq_div_pow]
  exact h

theorem or_val (B r : Nat) (bt : Bool) (hB : B < 256) (hr : r < 8) : bits .or .u8 (B : Int) ((bt.toNat : Int) * 2 ^ min r 8 % 256) = ((B ||| (bt.toNat <<< r) : Nat) : Int) := by
  have h2 : bt.toNat * 2 ^ r < 256 := by
    have h3 : bt.toNat ≤ 1 := Bool.toNat_le bt
    have h4 : 2 ^ r ≤ 2 ^ 7 := Nat.pow_le_pow_right (by decide) (by omega)
    have h5 := Nat.mul_le_mul h3 h4
    omega
  rw [Nat.min_eq_left (by omega), show (bt.toNat : Int) * 2 ^ r % 256 = ((bt.toNat * 2 ^ r % 256 : Nat) : Int) by simp, Nat.mod_eq_of_lt h2, u8_or_nat B _ hB h2, Nat.shiftLeft_eq]

theorem WOk.drew {w : World} {pb : Nat} {high : Bool} {v : Value} {m : Nat} {L : List Bool} {f : Nat} (h : WOk w pb high v m L f) : WOk w.drew pb high v m L f := ⟨h.blk, h.row.drew, h.len⟩
theorem Chg.drew {pb : Nat} {v0 v : Value} {w0 w : World} (h : Chg pb v0 w0 v w) : Chg pb v0 w0 v w.drew := ⟨h.os, h.tape, h.output, h.size, h.keep, h.lies⟩

/-- One bit of a number is laid into the last byte: as the walk spells it. -/
theorem WOk.bitAt {wr : World} {pb : Nat} {high : Bool} {q g cap f V N k : Nat} {L : List Bool} (h : WOk wr pb high (.slice (some ⟨g, 0, none⟩) (q + 1) cap) (q + 1) (L ++ (bitsOf high V N).take k) (f + 1)) (hf : f ≤ 7) (hk : k < N) (x : Int)
    (hx : x = bits .or .u8 (octet high (L ++ (bitsOf high V N).take k) q : Int) (((V.testBit (rk high N k)).toNat : Int) * 2 ^ min (rk high 8 (7 - f)) 8 % 256)) :
    WOk ((wr.setCell ⟨g, q, none⟩ (.int .u8 x)).setCell ⟨pb, 3, none⟩ (.int .i64 (f : Int))).drew pb high (.slice (some ⟨g, 0, none⟩) (q + 1) cap) (q + 1) (L ++ (bitsOf high V N).take (k + 1)) f ∧
    Chg pb (.slice (some ⟨g, 0, none⟩) (q + 1) cap) wr (.slice (some ⟨g, 0, none⟩) (q + 1) cap) ((wr.setCell ⟨g, q, none⟩ (.int .u8 x)).setCell ⟨pb, 3, none⟩ (.int .i64 (f : Int))).drew := by
  have h2 := h.bit hf (V.testBit (rk high N k))
  rw [hx, or_val _ _ _ (octet_lt _ _ _) (rk_lt (by omega)), bitsOf_take_succ high V N k hk, ← List.append_assoc]
  exact ⟨h2.1.drew, h2.2.drew⟩

end Go.Proofs.Ytclccccodeekmaa
