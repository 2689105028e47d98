/- What PrefixBack, PrefixReads and PrefixCodes keep: a code, a writer, a list of symbols. -/
import Derived.Test.YtclccccodeekmaaMakes
import Derived.Test.YtclccccodeekmaaCPut
import Derived.Test.YtclccccodeekmaaCGet
namespace Go.Proofs.Ytclccccodeekmaa
open Go.RowKit Mth
set_option linter.unusedVariables false

/-- the bits of words, one behind the other -/
def flat (ls : List Nat) (ss : List Nat) : List Bool := ss.flatMap fun s => bitsOf true (Canon.wd ls s) (Canon.ln ls s)

theorem flat_snoc (ls ss : List Nat) (s : Nat) : flat ls (ss ++ [s]) = flat ls ss ++ bitsOf true (Canon.wd ls s) (Canon.ln ls s) := by
  simp [flat, List.flatMap_append]

theorem flat_len (ls ss : List Nat) (h : ∀ s ∈ ss, Canon.ln ls s ≤ 20) : (flat ls ss).length ≤ 20 * ss.length := by
  induction ss with
  | nil => simp [flat]
  | cons x r ih =>
    have h1 := h x (by simp)
    have h2 := ih (fun s hs => h s (List.mem_cons_of_mem _ hs))
    have e : (flat ls (x :: r)).length = Canon.ln ls x + (flat ls r).length := by simp [flat, bitsOf_length]
    rw [e, List.length_cons]
    omega

/-- The code of the lengths 1 and 1. -/
theorem pnew_pair (v : Value) (w : World) (hr : ReadsI w v [1, 1]) :
    Calls Try.prog 8 #[v, .int .i64 1, .bool false] w fun e w' => ∃ cp, e = .returned (.tuple #[.pointer (some ⟨cp, 0, none⟩), .int .i64 0]) ∧ Code [1, 1] w' cp w.heap.size w'.heap.size ∧ Below w.heap.size w w' := by
  refine (pnew_ok v [1, 1] 1 false w hr).mono fun e w' ⟨_, _, h3, h4⟩ => ?_
  obtain ⟨cp, he, hc⟩ := h3 ⟨⟨by decide, by decide, by decide, by decide⟩, by intro z hz; simp at hz; subst hz; exact ⟨by decide, by decide⟩⟩ (.inl (by simp [nat, Canon.sum, Canon.kr, Canon.cn]))
  exact ⟨cp, he, hc, h4⟩

theorem reads11 (w : World) : ReadsI (w.alloc (.cells #[.int .i64 1, .int .i64 1] 3)) (.slice (some ⟨w.heap.size, 0, none⟩) 2 2) [1, 1] := by
  refine ⟨_, 2, rfl, fun _ => ⟨w.heap.size, 0, rfl, fun j hj => ?_⟩⟩
  have hb := heap_alloc_new w (.cells #[.int .i64 1, .int .i64 1] 3)
  simp only [World.cell?, hb]
  have : j = 0 ∨ j = 1 := by simp at hj; omega
  rcases this with rfl | rfl <;> rfl

/-- A code, a box, a writer and a list of symbols, each in blocks of its own. -/
structure BackAt (ls : List Nat) (w ws : World) (cp lo hi bx : Nat) (box : Array Value) (pb : Nat) (high : Bool) (v : Value) (m f : Nat) (L : List Bool) (v10 : Value) (ss : List Int) : Prop where
  code : Code ls ws cp lo hi
  box : ws.heap[bx]? = some (.cells box 24 (0, 0))
  wr : WOk ws pb high v m L f
  f7 : f ≤ 7
  own : ws.ownsRow (pb + 1) 3 1 v10 ss.length (ss.map iv)
  bel : Below w.heap.size w ws
  b1 : hi ≤ pb
  b2 : bx < pb
  b3 : w.heap.size ≤ pb
  dis : ∀ g, v10.ownBlock = some g → v.ownBlock ≠ some g

section
variable {ls : List Nat} {w ws w' : World} {cp lo hi bx pb m f m' f' : Nat} {box : Array Value} {high : Bool} {v v' : Value} {L L' : List Bool} {v10 : Value} {ss : List Int}

theorem BackAt.chg (h : BackAt ls w ws cp lo hi bx box pb high v m f L v10 ss) (hw : WOk w' pb high v' m' L' f') (hf : f' ≤ 7) (hc : Chg pb v ws v' w') : BackAt ls w w' cp lo hi bx box pb high v' m' f' L' v10 ss := by
  have hpb := h.wr.lt
  have hv : ∀ k, v.ownBlock = some k → pb + 1 ≤ k := fun k e => (h.wr.row.lt k e).1
  have kp : ∀ k, k < pb → w'.heap[k]? = ws.heap[k]? := fun k hk => hc.keep k (by omega) (by omega) (fun e => by have := hv k e; omega)
  refine ⟨h.code.keep (fun k _ h2 => kp k (by have := h.b1; omega)), by rw [kp _ h.b2]; exact h.box, hw, hf, own_keep h.own (fun g hg => hc.keep g (h.own.lt g hg).2 (by have := (h.own.lt g hg).1; omega) (h.dis g hg)), ?_, h.b1, h.b2, h.b3, fun g hg => ?_⟩
  · exact h.bel.trans ⟨hc.os, hc.tape, hc.output, hc.size, fun k hk => kp k (by have := h.b3; omega)⟩
  · rcases hc.lies with e | ⟨g', e, hg'⟩
    · rw [e]; exact h.dis g hg
    · rw [e]; intro c; injection c with c; have := (h.own.lt g hg).2; omega

theorem BackAt.app (h : BackAt ls w ws cp lo hi bx box pb high v m f L v10 ss) (s : Int) (o : Obj) {w1 : World} {g cap : Nat} (hown : w1.ownsRow (pb + 1) 3 1 (.slice (some ⟨g, 0, none⟩) (ss.length + 1) cap) (ss.length + 1) (ss.map iv ++ [.int .i64 s])) (hg : (ws.alloc o).grownBy w1 v10.ownBlock) (hat : v10.ownBlock = some g ∨ g = ws.heap.size + 1) :
    BackAt ls w w1 cp lo hi bx box pb high v m f L (.slice (some ⟨g, 0, none⟩) (ss.length + 1) cap) (ss ++ [s]) := by
  have hpb := h.wr.lt
  have hv10 : ∀ k, v10.ownBlock = some k → pb + 1 ≤ k := fun k e => (h.own.lt k e).1
  have kp : ∀ k, k ≤ pb → w1.heap[k]? = ws.heap[k]? := fun k hk => by
    rw [hg.block k (by simp; omega) (fun e => by have := hv10 k e.symm; omega), Below.heap_alloc _ _ _ (by omega)]
  refine ⟨h.code.keep (fun k _ h2 => kp k (by have := h.b1; omega)), by rw [kp _ (by have := h.b2; omega)]; exact h.box, h.wr.keep (kp _ (Nat.le_refl _)) (fun k hk => ?_), h.f7, ?_, ?_, h.b1, h.b2, h.b3, fun k hk => ?_⟩
  · have := (h.wr.row.lt k hk).2
    rw [hg.block k (by simp; omega) (fun e => h.dis k e.symm hk), Below.heap_alloc _ _ _ this]
  · rw [List.length_append, List.map_append]; exact hown
  · exact h.bel.trans (((Below.refl _ _).alloc h.bel.size _).trans ⟨hg.os, hg.tape, hg.output, hg.size, fun k hk => hg.block k (by simp; have := h.b3; omega) (fun e => by have := hv10 k e.symm; have := h.b3; omega)⟩)
  · injection hk with hk
    subst hk
    rcases hat with e | e
    · exact h.dis _ e
    · intro c; have h2 : g < ws.heap.size := (h.wr.row.lt g c).2; omega

theorem BackAt.box0 (h : BackAt ls w ws cp lo hi bx box pb high v m f L v10 ss) {x : Value} {j : Nat} (hj : box[j]? = some x) : ws.cell? ⟨bx, j, none⟩ = some x := by
  simp only [World.cell?, h.box]; simpa using hj

theorem own_slice {base n : Nat} {xs : List Value} (h : ws.ownsRow base 3 1 v10 n xs) : ∃ a c, v10 = .slice a n c := by
  rcases h.2 with ⟨e, rfl⟩ | ⟨g, cap, _, e, _⟩
  · exact ⟨none, 0, e⟩
  · exact ⟨_, cap, e⟩

theorem own_cell {base n : Nat} (h : ws.ownsRow base 3 1 v10 n (ss.map iv)) (i : Nat) (hi : i < n) : ∃ g c, v10 = .slice (some ⟨g, 0, none⟩) n c ∧ ws.cell? ⟨g, i, none⟩ = some (.int .i64 (ss.getD i 0)) := by
  have hl := h.1
  simp at hl
  rcases h.2 with ⟨_, rfl⟩ | ⟨g, cap, cur, e, _, hh, _, _, _, ht⟩
  · omega
  · refine ⟨g, cap, e, ?_⟩
    have h2 : (cur.toList.take (n * 1))[i]? = some (iv ss[i]) := by rw [ht]; simp [show i < ss.length by omega]
    rw [List.getElem?_take, if_pos (by omega)] at h2
    simp only [World.cell?, hh]
    simpa [iv, show i < ss.length by omega] using h2

end

end Go.Proofs.Ytclccccodeekmaa
