/- For all records and all bytes, hamperlaw16.XzIndexes returns true (xz.Index tells the document's index of the records, or refuses them, and xz.ReadIndex tells the document's records of the bytes, with how many bytes they took, or its error), and its arguments read behind the call as they read before; there are no conditions. -/
import Derived.Test.YtcppnkbfndhioaaXp
import Derived.ProofKit
import Derived.OpenShut
import Derived.ChangeOld
import Derived.SizedLaws
import Derived.JoinedCond
import Derived.Lib.SmallJoins
namespace Go.Proofs.Ytcppnkbfndhioaa.IndexesFrame
open Go.ChangeShapes Go.WideShapes Go.ChangeAt Go.RowKit Go.Deep Go.Joins
set_option maxRecDepth 100000

theorem own : ownKnob Try.prog.godebug = none := by kernel_rfl
theorem laidOut : laidOutB Try.prog = true := by kernel_rfl
theorem cells3 : Try.prog.cellsOf 3 = 1 := by kernel_rfl
theorem cells5 : Try.prog.cellsOf 5 = 1 := by kernel_rfl
theorem cells37 : Try.prog.cellsOf 37 = 2 := by kernel_rfl
theorem bytes5 : Try.prog.bytesOf 5 = 1 := by kernel_rfl
theorem bytes37 : Try.prog.bytesOf 37 = 16 := by kernel_rfl

variable {H : Type} {enc : TypeId × Value → H} {W : World}

/-- a record's cells -/
theorem rec_cells {n : Nat} {cs : List Value} {y : DataW H × List MemPlace} (h : DataW.trod enc Try.prog W 0 (fun _ => true) true n 37 cs = some y) (hl : cs.length = 2) :
    ∃ r : Int × Int, cs = [.int .i64 r.1, .int .i64 r.2] := by
  obtain ⟨y0, y1, m, hy, _, t0, t1⟩ := trod_struct2 Try.underlying37 h
  match cs, hl with
  | [c0, c1], _ =>
    simp [cells3] at t0 t1
    obtain ⟨s, e0, _, w0⟩ := DataW.trod_int Try.underlying3 t0
    obtain ⟨t, e1, _, w1⟩ := DataW.trod_int Try.underlying3 t1
    simp at e0 e1
    exact ⟨(s, t), by rw [e0, e1]⟩

theorem choose_lt {α : Type} (z : α) {n : Nat} {p : Nat → α → Prop} (h : ∀ i, i < n → ∃ a, p i a) : ∃ F : Nat → α, ∀ i, i < n → p i (F i) := by
  refine ⟨fun i => if hi : i < n then Classical.choose (h i hi) else z, fun i hi => ?_⟩
  simp only [dif_pos hi]
  exact Classical.choose_spec (h i hi)

theorem getD_range (F : Nat → Int × Int) (n i : Nat) (h : i < n) : ((List.range n).map F).getD i (0, 0) = F i := by
  rw [List.getD_eq_getElem?_getD, List.getElem?_map, List.getElem?_range h]
  rfl

theorem recs_of {a : Option Addr} {len cap : Nat} {d : DataW H} {p : List MemPlace} (h : DataW.Trod enc Try.prog W 0 (fun _ => true) true 22 (.slice a len cap) d p)
    (hs : ∀ elems spare, d = .slice elems spare → (elems.length + spare.length) * 16 ≤ reachBytes) :
    ∃ l : List (Int × Int), l.length = len ∧ ReadsN W a cap l ∧ len ≤ 8796093021952 := by
  obtain ⟨fuel, hf⟩ := h
  rcases open_slice Try.underlying22 hf with ⟨hcs, _⟩ | ⟨x, l, c, m, n, D, Pl, hcs, _, hl, hm, hmm, hx, hcell⟩
  · simp [Value.cells] at hcs
    obtain ⟨rfl, rfl, rfl⟩ := hcs
    exact ⟨[], rfl, .inl ⟨rfl, rfl, rfl⟩, by omega⟩
  · simp [Value.cells] at hcs
    obtain ⟨rfl, rfl, rfl⟩ := hcs
    simp only [Prod.mk.injEq] at hx
    have hsz := hs _ _ hx.1
    have hlen : len ≤ 8796093021952 := by
      have := hsz
      simp [reachBytes] at this
      omega
    have hc : ∀ i, i < len → ∃ r : Int × Int, ∀ k, k < 2 → W.cell? ((x.add (i * 2)).add k) = [Value.int .i64 r.1, .int .i64 r.2][k]? := fun i hi => by
      have hmm' : len ≤ m := by simp at hmm; omega
      obtain ⟨cs, hc1, hc2⟩ := hcell i (by omega)
      rw [cells37] at hc1
      obtain ⟨_, hcl, hc3⟩ := World.cells?_some hc1
      obtain ⟨r, rfl⟩ := rec_cells hc2 hcl
      exact ⟨r, hc3⟩
    obtain ⟨F, hF⟩ := choose_lt (0, 0) hc
    have hlen2 : ((List.range len).map F).length = len := by simp
    refine ⟨(List.range len).map F, hlen2, .inr ⟨x, rfl, by rw [hlen2]; exact hl, fun j u hj => ?_⟩, hlen⟩
    have hj2 : j < len * 2 := by
      have := (List.getElem?_eq_some_iff.1 hj).1
      rw [rcells_length, hlen2] at this
      exact this
    have hi : j / 2 < len := by omega
    obtain ⟨g1, g2⟩ := rcells_get ((List.range len).map F) (j / 2) (by rw [hlen2]; exact hi)
    rw [getD_range F len _ hi] at g1 g2
    have h0 := hF (j / 2) hi
    have ea : ∀ k, (x.add (j / 2 * 2)).add k = x.add (j / 2 * 2 + k) := fun k => by
      obtain ⟨xb, xo, xs⟩ := x
      have hs : xs = none := by
        have := hF 0 (by omega) 0 (by omega)
        simp at this
        simpa [Addr.add] using World.cell?_spot this
      subst hs
      by_cases h1 : j / 2 * 2 = 0 <;> by_cases h2 : k = 0 <;> simp [Addr.add, h1, h2] <;> omega
    have hm2 : j % 2 = 0 ∨ j % 2 = 1 := by omega
    rcases hm2 with e | e
    · have := h0 0 (by omega)
      rw [ea, show j / 2 * 2 + 0 = j by omega] at this
      rw [show j / 2 * 2 = j by omega] at g1
      rw [this, ← hj, g1]
      rfl
    · have := h0 1 (by omega)
      rw [ea, show j / 2 * 2 + 1 = j by omega] at this
      rw [show j / 2 * 2 + 1 = j by omega] at g2
      rw [this, ← hj, g2]
      rfl

theorem lifted (os : Os) (started : os.Started) (H : Type) (enc : TypeId × Value → H) :
    ReturnsInHanded {} Try.checked os 3 .any (Rows.xzIndexesSpec.pre6 enc Try.prog Try.f3 Rows.xzIndexesRow.domain false) (Rows.xzIndexesSpec.post enc Try.prog Try.f3 false true false false) := by
  refine returnsInHanded_of_change_sized (C := Try.checked) own started (by kernel_rfl) Try.func3
    (ChangeSpec.witness6 (enc := enc) (C := Try.checked) false ⟨#[], #[.slice none 0 0, .slice none 0 0], []⟩ 8 (by kernel_rfl) (by kernel_rfl) (by kernel_rfl) (by kernel_rfl)) ?_
  intro W base args ds gs before hval0 hW hcnd hsz0 _
  have hsz : (DataW.weightsEach Try.prog (Try.f3.params.toList ++ Rows.xzIndexesSpec.plain.varTypes Try.prog) (ds ++ gs)).all (· ≤ reachBytes) = true := hsz0
  have hval : ∀ (j : Nat) t v, Try.f3.params[j]? = some t → args[j]? = some v → Value.okWide Try.prog W .any base t v := hval0
  have hW' := hW
  obtain ⟨p, q, hA0, hV, rfl, hfz, hnd⟩ := hW
  have hA : DataW.TrodAll enc Try.prog W 0 (fun _ => true) true Try.f3.params.toList args.toList ds p := hA0
  rw [Try.params3] at hA hval hsz
  obtain ⟨v0, vs0, d0, ds0, p0, q0, hargs, rfl, rfl, h0, r0⟩ := trodAll_cons hA
  obtain ⟨v2, vs2, d2, ds2, p2, q2, rfl, rfl, rfl, h2, r2⟩ := trodAll_cons r0
  obtain ⟨rfl, rfl, rfl⟩ := trodAll_nil r2
  obtain rfl : args = #[v0, v2] := by cases args; simp_all
  obtain ⟨rfl, rfl⟩ := trodVars_none hV
  obtain ⟨a0, len0, cap0, rfl⟩ := okWide_slice Try.underlying22 (hval 0 22 v0 rfl rfl)
  have k0 := h0
  have lt0 : ∀ x ∈ p0, x.block < W.heap.size := by obtain ⟨m, hm⟩ := k0; exact DataW.trod_lt m _ _ _ hm
  obtain ⟨l, hll, hrn, hln⟩ := recs_of h0 (fun elems spare e => by
    have hz := sized_slice hsz (j := 0) (t := 22) (e := 37) (elems := elems) (spare := spare) rfl (by rw [e]; rfl) Try.underlying22
    rw [bytes37] at hz
    exact hz)
  obtain ⟨a2, len2, cap2, rfl⟩ := okWide_slice Try.underlying23 (hval 1 23 v2 rfl rfl)
  have k2 := h2
  have lt2 : ∀ x ∈ p2, x.block < W.heap.size := by obtain ⟨m, hm⟩ := k2; exact DataW.trod_lt m _ _ _ hm
  obtain ⟨zs2, hzl2, hz2, hcp2, hsm2, hrd2⟩ : ∃ zs : List Nat, zs.length = len2 ∧ len2 ≤ 140737488351232 ∧ len2 ≤ cap2 ∧ (∀ z ∈ zs, z < 256) ∧ ((a2 = none ∧ cap2 = 0 ∧ zs = []) ∨ ∃ ad, a2 = some ad ∧ ∀ (j : Nat) u, (zs.map bv)[j]? = some u → W.cell? (ad.add j) = some u) := by
    obtain ⟨fuel, hf⟩ := h2
    have hf2 := hf
    rcases open_ints Try.underlying23 Try.underlying5 cells5 hf with ⟨hcs, _⟩ | ⟨x, l, c, ys, hcs, _, hl, hm, hz, hx, hcell, hwz⟩
    · simp [Value.cells] at hcs
      obtain ⟨rfl, rfl, rfl⟩ := hcs
      exact ⟨[], rfl, by omega, by omega, by simp, .inl ⟨rfl, rfl, rfl⟩⟩
    · simp [Value.cells] at hcs
      obtain ⟨rfl, rfl, rfl⟩ := hcs
      have hlen : len2 ≤ 140737488351232 := by
        rcases open_slice Try.underlying23 hf2 with ⟨hcs, _⟩ | ⟨x', l', c', m', n', D, Pl, hcs, _, _, _, _, hx', _⟩
        · simp [Value.cells] at hcs
        · simp [Value.cells] at hcs
          obtain ⟨rfl, rfl, rfl⟩ := hcs
          simp only [Prod.mk.injEq] at hx'
          have hd1 := hx'.1
          subst hd1
          have hz := sized_slice hsz (j := 1) (t := 23) (e := 5) rfl rfl Try.underlying23
          simp [bytes5, reachBytes] at hz
          omega
      simp at hz
      have hb : ∀ y ∈ ys, 0 ≤ y ∧ y ≤ 255 := fun y hy => bounds_u8 (hwz y hy)
      refine ⟨(ys.take len2).map Int.toNat, by simp; omega, hlen, by omega, ?_, .inr ⟨x, rfl, fun j u hj => ?_⟩⟩
      · intro z hz'
        obtain ⟨y, hy, rfl⟩ := List.mem_map.1 hz'
        have := hb y (List.mem_of_mem_take hy)
        omega
      · have hj2 : j < len2 := by
          have := (List.getElem?_eq_some_iff.1 hj).1
          simp at this; omega
        rw [hcell j (by omega)]
        rw [List.getElem?_map, List.getElem?_map, List.getElem?_take, if_pos hj2, List.getElem?_eq_getElem (by omega)] at hj
        simp [bv] at hj
        rw [← hj]
        have := hb ys[j] (List.getElem_mem _)
        simp [show j < ys.length by omega]
        omega
  clear hA0 hval0
  subst hzl2 hll
  refine (indexes_walk a0 cap0 l a2 cap2 zs2 W hrn hrd2 hsm2 hcp2 hln hz2).mono fun e W' ⟨he, bel⟩ => ?_
  subst he
  exact ⟨_, rfl, _, _, _, [], _, [], hW', trodAll_mk1 (shut_bool Try.underlying4 _), (trodAll_cons_mk (Below.trod laidOut (by kernel_rfl) (of_decide_eq_true (by kernel_rfl)) k0 bel lt0) (trodAll_cons_mk (Below.trod laidOut (by kernel_rfl) (of_decide_eq_true (by kernel_rfl)) k2 bel lt2) trodAll_mk0)), rfl, bel.frame _, fun h => by cases h⟩

theorem proved : Rows.XzIndexesSaid :=
  OpenClaim.holds_of_wide 3 Try.f3 rfl rfl rfl rfl rfl rfl rfl ⟨rfl, rfl, rfl, rfl, rfl⟩ rfl rfl rfl rfl rfl (by kernel_rfl) Try.func3 (by kernel_rfl)
    (of_decide_eq_true (by kernel_rfl)) (by unfold Func.isWrapper; first | (rw [if_pos (by decide +kernel)]; kernel_rfl) | (rw [if_neg (by decide +kernel)]; exact ⟨rfl, rfl⟩))
    (fun os started H enc _ => lifted os started H enc)

end Go.Proofs.Ytcppnkbfndhioaa.IndexesFrame
namespace Go.Proofs.Ytcppnkbfndhioaa
theorem xzIndexes_holds : Rows.XzIndexesSaid := IndexesFrame.proved
end Go.Proofs.Ytcppnkbfndhioaa
