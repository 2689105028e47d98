/- RangerBack: what was written is read again, act by act. -/
import Derived.Test.YtbolhbjipmndeaaBw
namespace Go.Proofs.Ytbolhbjipmndeaa.D
open Go.RowKit Rang
set_option maxRecDepth 100000
set_option linter.unusedVariables false

def sta0 (n : Nat) : Sta := ⟨enc0, 0, 0, List.replicate n 1024⟩
def stA (n : Nat) (l : List ActD) (j : Nat) : Sta := actsS ((l.take j).map key) (sta0 n)

theorem stA_zero (n : Nat) (l : List ActD) : stA n l 0 = sta0 n := by unfold stA; simp [actsS]
theorem stA_all (n : Nat) (l : List ActD) : stA n l l.length = actsS (l.map key) (sta0 n) := by unfold stA; rw [List.take_length]

theorem stA_succ (n : Nat) (l : List ActD) (j : Nat) (hj : j < l.length) : stA n l (j + 1) = actS (key l[j]) (stA n l j) := by
  unfold stA
  rw [List.take_succ_eq_append_getElem hj, List.map_append, List.map_singleton, actsS_snoc]

theorem sta0_ok (n : Nat) : Ok (sta0 n) := ⟨wide0, fun p hp => by
  rw [(List.mem_replicate.1 hp).2]; decide⟩

theorem stA_ok {n : Nat} {l : List ActD} (hm : ∀ a ∈ l, May (key a) n) : ∀ j, j ≤ l.length → Ok (stA n l j) ∧ (stA n l j).ch.length = n
  | 0, _ => by rw [stA_zero]; exact ⟨sta0_ok n, by simp [sta0]⟩
  | j + 1, hj => by
    have ih := stA_ok hm j (by omega)
    rw [stA_succ n l j (by omega)]
    exact ⟨actS_ok ih.1 (by rw [ih.2]; exact hm _ (List.getElem_mem _)), by rw [actS_len]; exact ih.2⟩

theorem stA_ahead {n : Nat} {l : List ActD} {Tf K : Nat} (hm : ∀ a ∈ l, May (key a) n) (h : AheadS (stA n l l.length) Tf K) : ∀ m j, j + m = l.length → AheadS (stA n l j) Tf K
  | 0, j, e => by rw [show j = l.length by omega]; exact h
  | m + 1, j, e => by
    have ih := stA_ahead hm h m (j + 1) (by omega)
    rw [stA_succ n l j (by omega)] at ih
    have ho := stA_ok hm j (by omega)
    exact actS_ahead ho.1 (by rw [ho.2]; exact hm _ (List.getElem_mem _)) ih

theorem QS.below {w w' : World} {pb gc gr : Nat} {rcs : Array Value} {Bs : List Nat} {d : Dec} {ch : List Nat} (h : QS w pb gc gr rcs Bs d ch) (hb : Below w.heap.size w w') : QS w' pb gc gr rcs Bs d ch := by
  obtain ⟨o, rc, hq⟩ := h.qa
  have a2 : w.heap[gc]? = _ := hq.chs
  exact h.of (hb.block pb (heap_lt hq.cells)) (hb.block gc (heap_lt a2)) (hb.block gr (heap_lt hq.row))

theorem StB.src {w0 w : World} {a : Option Addr} {L c : Nat} {xs : List Nat} (h : StB w0 w (.slice a L c) xs) (h0 : 0 < xs.length) : xs.length ≤ c ∧ SrcB w a c xs := by
  rcases h.own.2 with ⟨_, e⟩ | ⟨g, cap, cur, e, _, hh, hc, _, _, ht⟩
  · omega
  · injection e with e1 e2 e3
    subst e1 e3
    refine ⟨hc, .inr ⟨_, rfl, fun j u hu => ?_⟩⟩
    rw [← ht] at hu
    have h1 := List.getElem?_take_of_lt (l := cur.toList) (show j < xs.length * 1 by have := (List.getElem?_eq_some_iff.1 hu).1; simp at this; omega)
    rw [h1] at hu
    rw [Addr.add_mid, Nat.zero_add]
    simp only [World.cell?, hh]
    simpa using hu

theorem own_cells5 {w : World} {B N c : Nat} {a : Option Addr} {xs : List Value} (h : w.ownsRow B 41 5 (.slice a N c) N xs) (h0 : 0 < N) : ∃ g, a = some ⟨g, 0, none⟩ ∧ ∀ x u, xs[x]? = some u → w.cell? ⟨g, x, none⟩ = some u := by
  rcases h.2 with ⟨_, e⟩ | ⟨g, cap, cur, e, _, hh, hc, _, _, ht⟩
  · omega
  · injection e with e1 e2 e3
    subst e1 e3
    refine ⟨g, rfl, fun j u hu => ?_⟩
    rw [← ht] at hu
    have h1 := List.getElem?_take_of_lt (l := cur.toList) (show j < N * 5 by have := (List.getElem?_eq_some_iff.1 hu).1; simp at this; omega)
    rw [h1] at hu
    simp only [World.cell?, hh]
    simpa using hu

/-- the cells of the act that is read next -/
theorem done_cells {w : World} {B c : Nat} {a : Option Addr} {l : List ActD} (h : w.ownsRow B 41 5 (.slice a l.length c) l.length (accAll l)) (j : Nat) (hj : j < l.length) : ∃ g, a = some ⟨g, 0, none⟩ ∧ w.cell? ⟨g, j * 5, none⟩ = some (.int .i64 l[j].kd) ∧ w.cell? ⟨g, j * 5 + 1, none⟩ = some (.int .i64 l[j].bs) ∧ w.cell? ⟨g, j * 5 + 2, none⟩ = some (.int .i64 l[j].v) ∧ w.cell? ⟨g, j * 5 + 3, none⟩ = some (.int .i64 l[j].n) ∧ w.cell? ⟨g, j * 5 + 4, none⟩ = some (.slice l[j].lp l[j].ls.length l[j].lc) := by
  obtain ⟨g, e, hg⟩ := own_cells5 h (by omega)
  exact ⟨g, e, hg _ _ (accAll_at l j 0 hj (by decide)), hg _ _ (accAll_at l j 1 hj (by decide)), hg _ _ (accAll_at l j 2 hj (by decide)), hg _ _ (accAll_at l j 3 hj (by decide)), hg _ _ (accAll_at l j 4 hj (by decide))⟩

/-- where the reading stands -/
structure PlayB (w5 w : World) (qb gd gr : Nat) (rcs : Array Value) (Bs : List Nat) (n : Nat) (l : List ActD) (j : Nat) (d : Dec) : Prop where
  q : QS w qb gd gr rcs Bs d (stA n l j).ch
  f : FollowsS Bs d (stA n l j)
  bel : Below w5.heap.size w5 w
  lo : w5.heap.size ≤ qb ∧ w5.heap.size ≤ gd ∧ w5.heap.size ≤ gr

theorem PlayB.below {w5 w w' : World} {qb gd gr : Nat} {rcs : Array Value} {Bs : List Nat} {n : Nat} {l : List ActD} {j : Nat} {d : Dec} (h : PlayB w5 w qb gd gr rcs Bs n l j d) (hb : Below w.heap.size w w') : PlayB w5 w' qb gd gr rcs Bs n l j d :=
  ⟨h.q.below hb, h.f, h.bel.trans (hb.mono h.bel.size), h.lo⟩

theorem PlayB.next {w5 w w' : World} {qb gd gr : Nat} {rcs : Array Value} {Bs : List Nat} {n : Nat} {l : List ActD} {j : Nat} {d d' : Dec} (h : PlayB w5 w qb gd gr rcs Bs n l j d) (hj : j < l.length) (h1 : QS w' qb gd gr rcs Bs d' (actS (key l[j]) (stA n l j)).ch) (h2 : QT w w' qb gd) (h3 : FollowsS Bs d' (actS (key l[j]) (stA n l j))) : PlayB w5 w' qb gd gr rcs Bs n l (j + 1) d' := by
  rw [← stA_succ n l j hj] at h1 h3
  exact ⟨h1, h3, h2.below h.bel h.lo.1 h.lo.2.1 h.bel.size, h.lo⟩

theorem ints_rown {w : World} {g n : Nat} {l : List Nat} (h : Ints w g l) (e : l.length = n) : Row g (g + 1) w (.slice (some ⟨g, 0, none⟩) n n) .i64 3 l := by
  subst e
  exact ints_row h

theorem ints_lt {w : World} {g : Nat} {l : List Nat} (h : Ints w g l) : g + 1 ≤ w.heap.size := by
  unfold Ints at h
  exact heap_lt h
end Go.Proofs.Ytbolhbjipmndeaa.D
