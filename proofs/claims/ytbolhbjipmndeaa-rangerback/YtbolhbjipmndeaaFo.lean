/- Acts that were handed in, opened. -/
import Derived.Test.YtbolhbjipmndeaaWr
import Derived.Test.YtbolhbjipmndeaaFa
namespace Go.Proofs.Ytbolhbjipmndeaa.Fa
open Go.ChangeShapes Go.WideShapes Go.ChangeAt Go.RowKit Go.Deep Go.Joins
set_option maxRecDepth 100000

theorem cells41 : Try.prog.cellsOf 41 = 5 := by kernel_rfl
theorem cells3 : Try.prog.cellsOf 3 = 1 := by kernel_rfl
theorem cells35 : Try.prog.cellsOf 35 = 1 := by kernel_rfl
theorem bytes41 : Try.prog.bytesOf 41 = 56 := by kernel_rfl
theorem bytes3 : Try.prog.bytesOf 3 = 8 := by kernel_rfl

theorem weights_all {H : Type} {P : Program} {e : TypeId} {d : DataW H} {x : Nat} : ∀ {l : List (DataW H)}, d ∈ l → x ∈ DataW.weights P e d → x ∈ DataW.weightsAll P e l
  | [], h, _ => by cases h
  | y :: r, h, hx => by
    rw [DataW.weightsAll]
    rcases List.mem_cons.1 h with rfl | h
    · exact List.mem_append.2 (.inl hx)
    · exact List.mem_append.2 (.inr (weights_all h hx))

/-- all lengths of acts, and of the lists in them -/
theorem sized_acts {H : Type} {ts : List TypeId} {ds : List (DataW H)} (h : (DataW.weightsEach Try.prog ts ds).all (· ≤ reachBytes) = true) {j : Nat} (ht : ts[j]? = some 22) {elems spare : List (DataW H)} (hd : ds[j]? = some (.slice elems spare)) :
    (elems.length + spare.length) * 56 ≤ reachBytes ∧ ∀ d ∈ elems, ∀ x ∈ DataW.weights Try.prog 41 d, x ≤ reachBytes := by
  constructor
  · have := sized_slice h ht hd Try.underlying22
    rw [bytes41] at this
    exact this
  · intro d hm x hx
    have := List.all_eq_true.1 h _ (DataW.weights_mem_each ht hd x (by
      simp only [DataW.weights, Try.underlying22]
      exact List.mem_cons.2 (.inr (List.mem_append.2 (.inl (weights_all hm hx))))))
    simpa using this

/-- an act: its cells, and its list -/
theorem act_open {H : Type} {enc : TypeId × Value → H} {w : World} {base n : Nat} {spare : Nat → Bool} {held : Bool} {cs : List Value} {y : DataW H × List MemPlace} (h : DataW.trod enc Try.prog w base spare held n 41 cs = some y) (hl : cs.length = 5) (hs : ∀ x ∈ DataW.weights Try.prog 41 y.1, x ≤ reachBytes) :
    ∃ a : D.ActD, cs = [.int .i64 a.kd, .int .i64 a.bs, .int .i64 a.v, .int .i64 a.n, .slice a.lp a.ls.length a.lc] ∧ D.SrcI w a.lp a.lc a.ls ∧ a.bs ≤ 9223372036854775807 ∧ a.ls.length ≤ 17592186044416 := by
  obtain ⟨y0, y1, y2, y3, y4, m, hy, _, t0, t1, t2, t3, t4⟩ := trod_struct5 Try.underlying41 h
  match cs, hl with
  | [c0, c1, c2, c3, c4], _ =>
    simp [cells3, cells35] at t0 t1 t2 t3 t4
    obtain ⟨kd, e0, _, _⟩ := DataW.trod_int Try.underlying3 t0
    obtain ⟨bs, e1, _, w1⟩ := DataW.trod_int Try.underlying3 t1
    obtain ⟨v, e2, _, _⟩ := DataW.trod_int Try.underlying3 t2
    obtain ⟨nn, e3, _, _⟩ := DataW.trod_int Try.underlying3 t3
    have hu := bounds_i64 w1
    have hw4 : ∀ x ∈ DataW.weights Try.prog 35 y4.1, x ≤ reachBytes := fun x hx => hs x (by
      rw [hy]
      simp only [DataW.weights, Try.underlying41]
      simp [DataW.weightsEach, hx])
    rcases open_ints Try.underlying35 Try.underlying3 cells3 t4 with ⟨e4, _⟩ | ⟨x, l, c, ys, e4, _, hl, hm, hz, hx, hcell, hwz⟩
    · simp at e0 e1 e2 e3 e4
      exact ⟨⟨kd, bs, v, nn, none, 0, []⟩, by rw [e0, e1, e2, e3, e4]; rfl, .inl ⟨rfl, rfl, rfl⟩, by simp only; omega, by simp⟩
    · simp at e0 e1 e2 e3 e4
      have hyl : l ≤ ys.length := by rw [hz]; split <;> omega
      have hlen : (ys.take l).length = l := by simp; omega
      have hb := hw4 ((ys.take l).length * 8 + (ys.drop l).length * 8) (by
        rw [hx]
        simp only [DataW.weights, Try.underlying35, bytes3]
        refine List.mem_cons.2 (.inl ?_)
        simp [lits]
        omega)
      refine ⟨⟨kd, bs, v, nn, some x, c, ys.take l⟩, by simp only; rw [hlen, e0, e1, e2, e3, e4], .inr ⟨x, rfl, fun j u hj => ?_⟩, by simp only; omega, by simp only; rw [hlen] at hb ⊢; unfold reachBytes at hb; omega⟩
      have hj2 : j < l := by
        have := (List.getElem?_eq_some_iff.1 hj).1
        simp at this; omega
      rw [hcell j (by omega)]
      rw [List.getElem?_map, List.getElem?_take, if_pos hj2, List.getElem?_eq_getElem (by omega)] at hj
      simp [D.iv] at hj
      rw [← hj]
      simp [show j < ys.length by omega]

theorem choose_lt {α : Type} (z : α) {n : Nat} {p : Nat → α → Prop} (h : ∀ i, i < n → ∃ a, p i a) : ∃ F : Nat → α, ∀ i, i < n → p i (F i) := by
  refine ⟨fun i => if hi : i < n then Classical.choose (h i hi) else z, fun i hi => ?_⟩
  simp only [dif_pos hi]
  exact Classical.choose_spec (h i hi)

def noAct : D.ActD := ⟨0, 0, 0, 0, none, 0, []⟩

theorem acts_open {H : Type} {enc : TypeId × Value → H} {W : World} {a2 : Option Addr} {len2 cap2 : Nat} {d2 : DataW H} {p2 : List MemPlace} (h2 : DataW.Trod enc Try.prog W 0 (fun _ => true) true 22 (.slice a2 len2 cap2) d2 p2)
    (hs : ∀ elems spare, d2 = .slice elems spare → (elems.length + spare.length) * 56 ≤ reachBytes ∧ ∀ d ∈ elems, ∀ x ∈ DataW.weights Try.prog 41 d, x ≤ reachBytes) :
    ∃ b off A, (0 < len2 → a2 = some ⟨b, off, none⟩) ∧ D.Acts W b off len2 A ∧ len2 ≤ 2513169435000 := by
  obtain ⟨fuel, hf⟩ := h2
  rcases open_slice Try.underlying22 hf with ⟨hcs, _⟩ | ⟨x, l, c, m, n, Dd, Pl, hcs, _, hl, hm, hmm, hx, hcell⟩
  · simp [Value.cells] at hcs
    obtain ⟨rfl, rfl, rfl⟩ := hcs
    exact ⟨0, 0, fun _ => noAct, by omega, ⟨by omega, by omega, by omega, by omega, by omega, by omega, by omega, by omega⟩, by omega⟩
  · simp [Value.cells] at hcs
    obtain ⟨rfl, rfl, rfl⟩ := hcs
    simp only [Prod.mk.injEq] at hx
    have hsz := hs _ _ hx.1
    have hlen : len2 ≤ 2513169435000 := by
      have := hsz.1
      simp [reachBytes] at this
      omega
    have hcells : ∀ i, i < len2 → ∃ a : D.ActD, (∀ k, k < 5 → W.cell? ((x.add (i * 5)).add k) = [Value.int .i64 a.kd, .int .i64 a.bs, .int .i64 a.v, .int .i64 a.n, .slice a.lp a.ls.length a.lc][k]?) ∧ D.SrcI W a.lp a.lc a.ls ∧ a.bs ≤ 9223372036854775807 ∧ a.ls.length ≤ 17592186044416 := fun i hi => by
      have hmm' : len2 ≤ m := by simp at hmm; omega
      obtain ⟨cs, hc1, hc2⟩ := hcell i (by omega)
      rw [cells41] at hc1
      obtain ⟨_, hcl, hc3⟩ := World.cells?_some hc1
      obtain ⟨a, rfl, hV⟩ := act_open hc2 hcl (hsz.2 (Dd i) (List.mem_map.2 ⟨i, List.mem_range.2 hi, rfl⟩))
      exact ⟨a, hc3, hV⟩
    by_cases h0 : len2 = 0
    · subst h0
      exact ⟨0, 0, fun _ => noAct, by omega, ⟨by omega, by omega, by omega, by omega, by omega, by omega, by omega, by omega⟩, by omega⟩
    · obtain ⟨xb, xo, xs⟩ := x
      have hspot : xs = none := by
        obtain ⟨a, hk, _⟩ := hcells 0 (by omega)
        have := hk 0 (by omega)
        simp at this
        simpa [Addr.add] using World.cell?_spot this
      subst hspot
      have had : ∀ i k, ((⟨xb, xo, none⟩ : Addr).add (i * 5)).add k = ⟨xb, xo + i * 5 + k, none⟩ := fun i k => by
        by_cases hi : i * 5 = 0 <;> by_cases hk : k = 0 <;> simp [Addr.add, hi, hk] <;> omega
      obtain ⟨F, hF⟩ := choose_lt noAct hcells
      refine ⟨xb, xo, F, fun _ => rfl, ⟨fun i hi => ?_, fun i hi => ?_, fun i hi => ?_, fun i hi => ?_, fun i hi => ?_, fun i hi => (hF i hi).2.1, fun i hi => (hF i hi).2.2.1, fun i hi => (hF i hi).2.2.2⟩, hlen⟩
      · have := (hF i hi).1 0 (by omega); rw [had] at this; exact this
      · have := (hF i hi).1 1 (by omega); rw [had] at this; exact this
      · have := (hF i hi).1 2 (by omega); rw [had] at this; exact this
      · have := (hF i hi).1 3 (by omega); rw [had] at this; exact this
      · have := (hF i hi).1 4 (by omega); rw [had] at this; exact this
end Go.Proofs.Ytbolhbjipmndeaa.Fa
