/- What the laws' arguments read as. -/
import Derived.Test.YtabnfnejlffioaaTMem
import Derived.ProofKit
import Derived.OpenShut
import Derived.ChangeOld
import Derived.SizedLaws
import Derived.JoinedCond
import Derived.Lib.SmallJoins
namespace Go.Proofs.Ytabnfnejlffioaa
open Go.ChangeShapes Go.WideShapes Go.ChangeAt Go.RowKit Go.Deep Go.Joins

theorem own : ownKnob Try.prog.godebug = none := by kernel_rfl
theorem laidOut : laidOutB Try.prog = true := by kernel_rfl
theorem cells3 : Try.prog.cellsOf 3 = 1 := by kernel_rfl
theorem cells5 : Try.prog.cellsOf 5 = 1 := by kernel_rfl
theorem cells37 : Try.prog.cellsOf 37 = 3 := by kernel_rfl

theorem bulk_pos {H : Type} (d : DataW H) : 1 ≤ Rows.uptoBulk d := by
  cases d with
  | lit l => cases l <;> simp [Rows.uptoBulk]
  | _ => simp [Rows.uptoBulk]

theorem bulk_len {H : Type} (l : List (DataW H)) : l.length ≤ Rows.uptoBulkAll l := by
  induction l with
  | nil => simp [Rows.uptoBulkAll]
  | cons x r ih => have := bulk_pos x; simp only [Rows.uptoBulkAll, List.length_cons]; omega

theorem bulk_slice {H : Type} (elems spare : List (DataW H)) : elems.length ≤ Rows.uptoBulk (.slice elems spare) := by
  have := bulk_len elems
  simp only [Rows.uptoBulk]; omega

variable {H : Type} {enc : TypeId × Value → H} {W : World}

theorem bytes_of {fuel : Nat} {cs : List Value} {y : DataW H × List MemPlace} (h : DataW.trod enc Try.prog W 0 (fun _ => true) true fuel 22 cs = some y) :
    ∃ (a : Option Addr) (cap : Nat) (zs : List Nat), cs = [.slice a zs.length cap] ∧ zs.length ≤ cap ∧ ReadsB W a cap zs ∧ (∀ z ∈ zs, z < 256) ∧ zs.length ≤ Rows.uptoBulk y.1 := by
  rcases open_ints Try.underlying22 Try.underlying5 cells5 h with ⟨hcs, hy⟩ | ⟨x, l, c, ys, hcs, _, hl, hm, hz, hx, hcell, hwz⟩
  · exact ⟨none, 0, [], hcs, Nat.le_refl _, .inl ⟨rfl, rfl, rfl⟩, by simp, by simp⟩
  · simp at hz
    have hb : ∀ y ∈ ys, 0 ≤ y ∧ y ≤ 255 := fun y hy => bounds_u8 (hwz y hy)
    have hlen : ((ys.take l).map Int.toNat).length = l := by simp; omega
    refine ⟨some x, c, (ys.take l).map Int.toNat, by rw [hlen]; exact hcs, by rw [hlen]; exact hl, .inr ⟨x, rfl, fun j u hj => ?_⟩, ?_, ?_⟩
    · have hj2 : j < l := by
        have := (List.getElem?_eq_some_iff.1 hj).1
        simp at this; omega
      rw [hcell j (by omega)]
      rw [List.getElem?_map, List.getElem?_map, List.getElem?_take, if_pos hj2, List.getElem?_eq_getElem (by omega)] at hj
      simp [bv] at hj
      rw [← hj]
      have := hb ys[j] (List.getElem_mem _)
      simp [show j < ys.length by omega]
      omega
    · intro z hz'
      obtain ⟨y, hy, rfl⟩ := List.mem_map.1 hz'
      have := hb y (List.mem_of_mem_take hy)
      omega
    · rw [hlen]
      have h1 := bulk_slice (lits .u8 (ys.take l) : List (DataW H)) (lits .u8 (ys.drop l))
      rw [hx]
      refine Nat.le_trans ?_ h1
      simp [lits]; omega

/-- a token's cells -/
theorem tok_cells {n : Nat} {cs : List Value} {y : DataW H × List MemPlace} (h : DataW.trod enc Try.prog W 0 (fun _ => true) true n 37 cs = some y) (hl : cs.length = 3) :
    ∃ t : Tok, cs = [.int .i64 t.n, .int .i64 t.d, .int .u8 (t.b : Int)] ∧ t.n ≤ 9223372036854775807 ∧ t.d ≤ 9223372036854775807 ∧ t.b < 256 := by
  obtain ⟨y0, y1, y2, m, hy, _, t0, t1, t2⟩ := trod_struct3 Try.underlying37 h
  match cs, hl with
  | [c0, c1, c2], _ =>
    simp [cells3, cells5] at t0 t1 t2
    obtain ⟨n, e0, _, w0⟩ := DataW.trod_int Try.underlying3 t0
    obtain ⟨d, e1, _, w1⟩ := DataW.trod_int Try.underlying3 t1
    obtain ⟨b, e2, _, w2⟩ := DataW.trod_int Try.underlying5 t2
    have hu := bounds_u8 w2
    obtain ⟨b', rfl⟩ := Int.eq_ofNat_of_zero_le hu.1
    simp at e0 e1 e2
    exact ⟨⟨n, d, b'⟩, by rw [e0, e1, e2], (bounds_i64 w0).2, (bounds_i64 w1).2, by have := hu.2; show b' < 256; omega⟩

theorem getD_range (F : Nat → Tok) (n i : Nat) (h : i < n) : ((List.range n).map F).getD i tz = F i := by
  rw [List.getD_eq_getElem?_getD, List.getElem?_map, List.getElem?_range h]
  rfl

theorem toks_of {fuel : Nat} {cs : List Value} {y : DataW H × List MemPlace} (h : DataW.trod enc Try.prog W 0 (fun _ => true) true fuel 28 cs = some y) :
    ∃ (a : Option Addr) (cap : Nat) (ts : List Tok), cs = [.slice a ts.length cap] ∧ ReadsTN W a cap ts ∧ InT ts ∧ SmallT ts ∧ ts.length ≤ Rows.uptoBulk y.1 := by
  rcases open_slice Try.underlying28 h with ⟨hcs, _⟩ | ⟨x, l, c, m, n, D, Pl, hcs, _, hl, hm, hmm, hx, hcell⟩
  · exact ⟨none, 0, [], hcs, .inl ⟨rfl, rfl, rfl⟩, fun j hj => by simp at hj, fun j hj => by simp at hj, by simp⟩
  · simp at hmm
    have hc : ∀ i, ∃ t : Tok, i < l → (∀ k, k < 3 → W.cell? ((x.add (i * 3)).add k) = [Value.int .i64 t.n, .int .i64 t.d, .int .u8 (t.b : Int)][k]?) ∧ t.n ≤ 9223372036854775807 ∧ t.d ≤ 9223372036854775807 ∧ t.b < 256 := fun i => by
      by_cases hi : i < l
      · obtain ⟨cs, hc1, hc2⟩ := hcell i (by omega)
        rw [cells37] at hc1
        obtain ⟨_, hcl, hc3⟩ := World.cells?_some hc1
        obtain ⟨t, rfl, ht⟩ := tok_cells hc2 hcl
        exact ⟨t, fun _ => ⟨hc3, ht⟩⟩
      · exact ⟨tz, fun h => absurd h hi⟩
    obtain ⟨F, hF⟩ : ∃ F : Nat → Tok, ∀ i, i < l → (∀ k, k < 3 → W.cell? ((x.add (i * 3)).add k) = [Value.int .i64 (F i).n, .int .i64 (F i).d, .int .u8 ((F i).b : Int)][k]?) ∧ (F i).n ≤ 9223372036854775807 ∧ (F i).d ≤ 9223372036854775807 ∧ (F i).b < 256 := ⟨fun i => Classical.choose (hc i), fun i hi => Classical.choose_spec (hc i) hi⟩
    have hlen : ((List.range l).map F).length = l := by simp
    refine ⟨some x, c, (List.range l).map F, by rw [hlen]; exact hcs, .inr ⟨x, rfl, by rw [hlen]; exact hl, fun j u hj => ?_⟩, fun j hj => ?_, fun j hj => ?_, ?_⟩
    · have hj3 : j < l * 3 := by
        have := (List.getElem?_eq_some_iff.1 hj).1
        rw [tcells_length, hlen] at this
        exact this
      have hi : j / 3 < l := by omega
      obtain ⟨g1, g2, g3⟩ := tcells_get ((List.range l).map F) (j / 3) (by rw [hlen]; exact hi)
      rw [getD_range F l _ hi] at g1 g2 g3
      have h0 := (hF (j / 3) hi).1
      have ea : ∀ k, (x.add (j / 3 * 3)).add k = x.add (j / 3 * 3 + k) := fun k => by
        obtain ⟨xb, xo, xs⟩ := x
        have hs : xs = none := by
          have := (hF 0 (by omega)).1 0 (by omega)
          simp at this
          simpa [Addr.add] using World.cell?_spot this
        subst hs
        by_cases h1 : j / 3 * 3 = 0 <;> by_cases h2 : k = 0 <;> simp [Addr.add, h1, h2] <;> omega
      have hd := Nat.div_add_mod j 3
      have hm3 : j % 3 = 0 ∨ j % 3 = 1 ∨ j % 3 = 2 := by omega
      rcases hm3 with e | e | e
      · have := h0 0 (by omega)
        rw [ea, show j / 3 * 3 + 0 = j by omega] at this
        rw [show j / 3 * 3 = j by omega] at g1
        rw [this, ← hj, g1]
        rfl
      · have := h0 1 (by omega)
        rw [ea, show j / 3 * 3 + 1 = j by omega] at this
        rw [show j / 3 * 3 + 1 = j by omega] at g2
        rw [this, ← hj, g2]
        rfl
      · have := h0 2 (by omega)
        rw [ea, show j / 3 * 3 + 2 = j by omega] at this
        rw [show j / 3 * 3 + 2 = j by omega] at g3
        rw [this, ← hj, g3]
        rfl
    · rw [hlen] at hj
      rw [getD_range F l j hj]
      exact ⟨(hF j hj).2.1, (hF j hj).2.2.1⟩
    · rw [hlen] at hj
      rw [getD_range F l j hj]
      exact (hF j hj).2.2.2
    · rw [hlen, hx]
      have := bulk_slice ((List.range l).map D) ((List.range (m - l)).map fun j => D (l + j))
      simpa using this

end Go.Proofs.Ytabnfnejlffioaa
