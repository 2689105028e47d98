/- The program's Runs. -/
import Derived.Test.YtabeanealkopbaaWds
namespace Go.Proofs.Ytabeanealkopbaa
open Go.RowKit Infl Defl
set_option maxRecDepth 100000
set_option linter.unusedVariables false

attribute [local go_sem ↓] Go.wp_at_zero Go.wp_at_succ

theorem wpList_append_int {w : World} {ops : Array Oper} {rest : List Oper} {o : Oper} {a : Act} {Q : Exit → Act → World → Prop} (hgd : o.guard = none) (s x : Operand)
    (ho : o.op = .call { callee := .builtin .append, args := #[s, x], argTypes := #[28, 28] })
    (base : Nat) (v : Value) (n : Nat) (xs : List Int) (hn : n = xs.length) (hs : a.eval s = v) (hown : w.ownsRow base 3 1 v n (xs.map iv))
    (g : Nat) (z : Int) (hx : a.eval x = .slice (some ⟨g, 0, none⟩) 1 1) (hg : w.heap[g]? = some (.cells #[.int .i64 z] 3 (0, 0))) (h63 : (n + 1) * 8 ≤ 140737488355328) (hbase : base ≤ w.heap.size)
    (h : ∀ g' cap w', w'.ownsRow base 3 1 (.slice (some ⟨g', 0, none⟩) (n + 1) cap) (xs ++ [z]).length ((xs ++ [z]).map iv) → w.grownBy w' v.ownBlock → (v.ownBlock = some g' ∨ g' = w.heap.size) → wpList Try.prog ops Q rest (a.put o.dst (.slice (some ⟨g', 0, none⟩) (n + 1) cap)) w') : wpList Try.prog ops Q (o :: rest) a w := by
  obtain ⟨i0, hii, hz0, hz1, hz2⟩ := info_parts info3'
  refine wpList_append_lies (w := w) hgd s x 28 ho base 3 i0 _ 1 8 Try.underlying28 hii hz0 hz1 hz2 rfl (by decide) v n (xs.map iv) hs hown ⟨g, 0, none⟩ 1 1 [iv z] hx rfl (fun j u hj => ?_)
      (by intro u hu; simp at hu; subst hu; rfl) (by decide) (by unfold maxLen; omega) h63 hbase _ rfl (fun g' cap w' h1 h2 h3 _ => h g' cap w' (by rw [List.length_append, List.map_append, ← hn]; exact h1) h2 h3)
  have ea : (⟨g, 0, none⟩ : Addr).add j = ⟨g, j, none⟩ := by by_cases hq : j = 0 <;> simp [Addr.add, hq]
  rw [ea]
  simp only [World.cell?, hg]
  simpa [iv] using hj

/-- two rows of ints of one's own -/
structure TwoAt (w ws : World) (xs ys : List Int) (sv mv : Value) : Prop where
  own1 : ws.ownsRow w.heap.size 3 1 sv xs.length (xs.map iv)
  own2 : ws.ownsRow w.heap.size 3 1 mv ys.length (ys.map iv)
  bel : Below w.heap.size w ws
  ne : ∀ g, sv.ownBlock = some g → mv.ownBlock ≠ some g

section
variable {w ws w' : World} {xs ys : List Int} {sv mv v' : Value}

theorem TwoAt.start (w : World) : TwoAt w w [] [] (.slice none 0 0) (.slice none 0 0) :=
  ⟨World.ownsRow_nil _ _ _ _, World.ownsRow_nil _ _ _ _, Below.refl _ _, fun g e => by cases e⟩

theorem TwoAt.below (h : TwoAt w ws xs ys sv mv) (hb : Below ws.heap.size ws w') : TwoAt w w' xs ys sv mv :=
  ⟨own_keep h.own1 (fun g e => hb.block _ (h.own1.lt g e).2), own_keep h.own2 (fun g e => hb.block _ (h.own2.lt g e).2), h.bel.trans (hb.mono h.bel.size), h.ne⟩

theorem TwoAt.app1 (h : TwoAt w ws xs ys sv mv) {g' cap n : Nat} {z : Int} (ho : w'.ownsRow w.heap.size 3 1 (.slice (some ⟨g', 0, none⟩) n cap) (xs ++ [z]).length ((xs ++ [z]).map iv)) (hg : ws.grownBy w' sv.ownBlock) (ha : sv.ownBlock = some g' ∨ g' = ws.heap.size) : TwoAt w w' (xs ++ [z]) ys (.slice (some ⟨g', 0, none⟩) n cap) mv := by
  refine ⟨ho, own_keep h.own2 (fun g e => ?_), h.bel.grown hg h.bel.size (fun k e => (h.own1.lt k e).1), fun g e e' => ?_⟩
  · exact hg.block g (h.own2.lt g e).2 (fun e' => h.ne g e'.symm e)
  · have eb : g = g' := by simp only [Value.ownBlock, Option.some.injEq] at e; exact e.symm
    subst eb
    rcases ha with ha | ha
    · exact h.ne g ha e'
    · have := (h.own2.lt g e').2; omega

theorem TwoAt.app2 (h : TwoAt w ws xs ys sv mv) {g' cap n : Nat} {z : Int} (ho : w'.ownsRow w.heap.size 3 1 (.slice (some ⟨g', 0, none⟩) n cap) (ys ++ [z]).length ((ys ++ [z]).map iv)) (hg : ws.grownBy w' mv.ownBlock) (ha : mv.ownBlock = some g' ∨ g' = ws.heap.size) : TwoAt w w' xs (ys ++ [z]) sv (.slice (some ⟨g', 0, none⟩) n cap) := by
  refine ⟨own_keep h.own1 (fun g e => ?_), ho, h.bel.grown hg h.bel.size (fun k e => (h.own2.lt k e).1), fun g e e' => ?_⟩
  · exact hg.block g (h.own1.lt g e).2 (fun e' => h.ne g e e'.symm)
  · have eb : g = g' := by simp only [Value.ownBlock, Option.some.injEq] at e'; exact e'.symm
    subst eb
    rcases ha with ha | ha
    · exact h.ne g e ha
    · have := (h.own1.lt g e).2; omega
end

theorem wcs_get : ∀ (l : List Wd) (k : Nat) (r : Wd), l[k]? = some r → (wcs l)[k * 3]? = some (.int .i64 r.1) ∧ (wcs l)[k * 3 + 1]? = some (.int .i64 (r.2.1 : Int)) ∧ (wcs l)[k * 3 + 2]? = some (.int .i64 (r.2.2 : Int))
  | [], k, r, h => by simp at h
  | x :: l, 0, r, h => by simp at h; subst h; simp [wcs]
  | x :: l, k + 1, r, h => by
    have := wcs_get l k r (by simpa using h)
    rw [show (k + 1) * 3 = k * 3 + 3 by omega]
    simpa [wcs] using this

/-- a word's three cells -/
theorem word_cells {w : World} {base n : Nat} {wv : Value} {l : List Wd} (h : w.ownsRow base 34 3 wv n (wcs l)) {k : Nat} {r : Wd} (hk : l[k]? = some r) :
    ∃ g cap, wv = .slice (some ⟨g, 0, none⟩) n cap ∧ g < w.heap.size ∧ w.cell? ⟨g, k * 3, none⟩ = some (.int .i64 r.1) ∧ w.cell? ⟨g, k * 3 + 1, none⟩ = some (.int .i64 (r.2.1 : Int)) ∧ w.cell? ⟨g, k * 3 + 2, none⟩ = some (.int .i64 (r.2.2 : Int)) := by
  obtain ⟨h1, h2, h3⟩ := wcs_get l k r hk
  rcases h.2 with ⟨e, e'⟩ | ⟨g, cap, cur, e, hb, hh, hn, hc, hs, ht⟩
  · have hl := h.1
    rw [wcs_length, e'] at hl
    have : l = [] := List.length_eq_zero_iff.1 (by omega)
    subst this
    simp at hk
  · refine ⟨g, cap, e, (h.lt g (by rw [e]; rfl)).2, ?_, ?_, ?_⟩
    all_goals
      have key : ∀ j u, (wcs l)[j]? = some u → w.cell? ⟨g, j, none⟩ = some u := fun j u hj => by
        have := h.cells (g := g) (by rw [e]; rfl) j u hj
        have ea : (⟨g, 0, none⟩ : Addr).add j = ⟨g, j, none⟩ := by by_cases hq : j = 0 <;> simp [Addr.add, hq]
        rwa [ea] at this
      first | exact key _ _ h1 | exact key _ _ h2 | exact key _ _ h3

def syms (l : List Wd) : List Int := l.map fun r => r.1
def mores (l : List Wd) : List Int := l.map fun r => (r.2.1 : Int)

set_option maxHeartbeats 2000000 in
theorem pruns_ok (l : List Int) (a0 : Option Addr) (cap : Nat) (w : World) (hr : ReadsI w (.slice a0 l.length cap) l) (hcap : l.length ≤ cap) (hlen : l.length * 24 ≤ 140737488351232) (hwl : (wordsL l).length ≤ l.length) :
    Calls Try.prog 9 #[.slice a0 l.length cap] w fun e w' => ∃ sv mv w0, e = .returned (.tuple #[sv, mv]) ∧ TwoAt w0 w' (syms (wordsL l)) (mores (wordsL l)) sv mv ∧ Below w.heap.size w w0 := by
  have HW := hide (runWords_ok l a0 cap w hr hcap hlen)
  obtain ⟨n, hn⟩ : ∃ n, n = l.length := ⟨_, rfl⟩
  rw [← hn] at HW hlen hwl ⊢
  obtain ⟨ws, hws⟩ : ∃ ws, ws = wordsL l := ⟨_, rfl⟩
  rw [← hws] at HW hwl ⊢
  clear hr hcap hn hws
  go_enter Try.func9, Try.ntmps9
  go_wp2_with fail
  refine (unhide HW).mono ?_
  rintro e w0 ⟨wv, rfl, hown, hbel⟩
  have HOWN := hide hown
  have HBEL := hide hbel
  clear hown hbel HW
  obtain ⟨K, hK⟩ : ∃ K, K = ws.length := ⟨_, rfl⟩
  obtain ⟨wa, wc, rfl⟩ : ∃ wa wc, wv = .slice wa K wc := by
    rcases (unhide HOWN).2 with ⟨e, e'⟩ | ⟨g, cap, cur, e, _⟩
    · exact ⟨none, 0, by rw [e, hK, e']⟩
    · exact ⟨_, cap, by rw [e, hK]⟩
  have HKK := hide hK
  rw [← hK] at hwl
  clear hK
  go_wp2_with fail
  go_loopg [2, 3, 9] K (fun gk sv mv kv wx => ∃ k : Nat, gk = K - k ∧ k ≤ K ∧ kv = .int .i64 (k : Int) ∧ TwoAt w0 wx (syms (ws.take k)) (mores (ws.take k)) sv mv)
  case atStart => exact ⟨0, by omega, by omega, rfl, by simpa [syms, mores] using TwoAt.start w0⟩
  case round =>
    obtain ⟨k, rfl, hkK, rfl, hat⟩ := hrel
    by_cases hlt : k < K
    · have e1 : (k : Int) < (K : Int) := by omega
      have hk2 : k < ws.length := by rw [← unhide HKK]; exact hlt
      obtain ⟨g, cg, ev, hgs, q1, q2, q3⟩ := word_cells (unhide HOWN) (k := k) (r := ws[k]) (List.getElem?_eq_getElem hk2)
      have hL1 : (syms (ws.take k)).length = k := by simp [syms]; omega
      have hL2 : (mores (ws.take k)).length = k := by simp [mores]; omega
      have n1 : syms (ws.take (k + 1)) = syms (ws.take k) ++ [ws[k].1] := by unfold syms; rw [List.take_succ_eq_append_getElem hk2, List.map_append]; rfl
      have n2 : mores (ws.take (k + 1)) = mores (ws.take k) ++ [(ws[k].2.1 : Int)] := by unfold mores; rw [List.take_succ_eq_append_getElem hk2, List.map_append]; rfl
      have HN1 := hide n1
      have HN2 := hide n2
      injection ev with ev1 ev2 ev3
      subst ev1 ev3
      clear ev2
      generalize ws[k] = r at q1 q2 q3 HN1 HN2
      obtain ⟨r1, r2, r3⟩ := r
      simp only at q1 q2 q3 HN1 HN2
      have p1 : wr.cell? ⟨g, k * 3, none⟩ = some (.int .i64 r1) := cell_stays hat.bel q1
      have p2 : wr.cell? ⟨g, k * 3 + 1, none⟩ = some (.int .i64 (r2 : Int)) := cell_stays hat.bel q2
      have p3 : wr.cell? ⟨g, k * 3 + 2, none⟩ = some (.int .i64 (r3 : Int)) := cell_stays hat.bel q3
      have T1 : Hid (TwoAt w0 ((wr.alloc (.cells #[.int .i64 r1, .int .i64 (r2 : Int), .int .i64 (r3 : Int)] 34)).alloc (.cells #[.int .i64 r1] 3)) (syms (ws.take k)) (mores (ws.take k)) u2 u3) := hide (hat.below (((Below.refl _ _).alloc (Nat.le_refl _) _).alloc (by simp) _))
      have HG1 : Hid (((wr.alloc (.cells #[.int .i64 r1, .int .i64 (r2 : Int), .int .i64 (r3 : Int)] 34)).alloc (.cells #[.int .i64 r1] 3)).heap[wr.heap.size + 1]? = some (.cells #[.int .i64 r1] 3 (0, 0))) := hide (by
        rw [show wr.heap.size + 1 = (wr.alloc (.cells #[.int .i64 r1, .int .i64 (r2 : Int), .int .i64 (r3 : Int)] 34)).heap.size by simp]
        exact heap_alloc_new _ _)
      have HX : Hid (((wr.alloc (.cells #[.int .i64 r1, .int .i64 (r2 : Int), .int .i64 (r3 : Int)] 34)).alloc (.cells #[.int .i64 r1] 3)).heap[wr.heap.size]? = some (.cells #[.int .i64 r1, .int .i64 (r2 : Int), .int .i64 (r3 : Int)] 34 (0, 0))) := hide (by
        rw [Below.heap_alloc _ _ _ (by simp)]
        exact heap_alloc_new _ _)
      have HNO : Hid (u2.ownBlock ≠ some wr.heap.size) := hide (fun e => by have := (hat.own1.lt _ e).2; omega)
      have HSZ : Hid (w0.heap.size ≤ wr.heap.size) := hide hat.bel.size
      have HS1 := hide (unhide T1).own1
      rw [hL1] at HS1
      clear hat q1 q2 q3 n1 n2
      obtain ⟨xs, hxs⟩ : ∃ xs, xs = syms (ws.take k) := ⟨_, rfl⟩
      obtain ⟨ys, hys⟩ : ∃ ys, ys = mores (ws.take k) := ⟨_, rfl⟩
      rw [← hxs] at T1 HN1 HS1 hL1
      rw [← hys] at T1 HN2 hL2
      have HL1 := hide hL1
      have HL2 := hide hL2
      clear hxs hys hL1 hL2
      have hk9 : (k + 1) * 8 ≤ 140737488355328 := by omega
      go_wp2_with (at_builtin; first
        | (refine wpList_append_int rfl _ _ rfl w0.heap.size u2 k xs (unhide HL1).symm (by rfl) (unhide HS1) (wr.heap.size + 1) r1 (by rfl) (unhide HG1) hk9 (by have := unhide HSZ; simp; omega) ?_
           intro g1 c1 w2 hown1 hgr1 hat1
           have T2 : Hid (TwoAt w0 w2 (xs ++ [r1]) ys (.slice (some ⟨g1, 0, none⟩) (k + 1) c1) u3) := hide ((unhide T1).app1 hown1 hgr1 hat1)
           have hx2 : w2.heap[wr.heap.size]? = some (.cells #[.int .i64 r1, .int .i64 (r2 : Int), .int .i64 (r3 : Int)] 34 (0, 0)) := (by rw [hgr1.block _ (by simp; omega) (fun e => unhide HNO e.symm)]; exact unhide HX)
           have x1 : w2.cell? ⟨wr.heap.size, 1, none⟩ = some (.int .i64 (r2 : Int)) := (by simp only [World.cell?, hx2]; rfl)
           have T3 : Hid (TwoAt w0 (w2.alloc (.cells #[.int .i64 (r2 : Int)] 3)) (xs ++ [r1]) ys (.slice (some ⟨g1, 0, none⟩) (k + 1) c1) u3) := hide ((unhide T2).below ((Below.refl _ _).alloc (Nat.le_refl _) _))
           have HS2 := hide (unhide T3).own2
           rw [unhide HL2] at HS2
           have HG2 : Hid ((w2.alloc (.cells #[.int .i64 (r2 : Int)] 3)).heap[w2.heap.size]? = some (.cells #[.int .i64 (r2 : Int)] 3 (0, 0))) := hide (heap_alloc_new _ _)
           have HSZ2 : Hid (w0.heap.size ≤ w2.heap.size) := hide (unhide T2).bel.size
           clear hown1 hgr1 hat1 hx2 T1 HS1 HG1 HX T2)
        | (refine wpList_append_int rfl _ _ rfl w0.heap.size u3 k ys (unhide HL2).symm (by rfl) (unhide HS2) w2.heap.size (r2 : Int) (by rfl) (unhide HG2) hk9 (by have := unhide HSZ2; simp; omega) ?_
           intro g2 c2 w4 hown2 hgr2 hat2
           have T4 : Hid (TwoAt w0 w4 (xs ++ [r1]) (ys ++ [(r2 : Int)]) (.slice (some ⟨g1, 0, none⟩) (k + 1) c1) (.slice (some ⟨g2, 0, none⟩) (k + 1) c2)) := hide ((unhide T3).app2 hown2 hgr2 hat2)
           clear hown2 hgr2 hat2 T3 HS2 HG2))
      go_roundg (K - (k + 1))
      case measure => omega
      case rel => exact ⟨k + 1, rfl, by omega, by go_num, by rw [unhide HN1, unhide HN2]; exact unhide T4⟩
    · obtain rfl : k = K := by omega
      have HAT := hide hat
      clear hat
      go_wp2_with fail
      go_ret2
      refine ⟨_, _, w0, rfl, ?_, unhide HBEL⟩
      have := unhide HAT
      rw [List.take_of_length_le (by rw [← unhide HKK]; exact Nat.le_refl _)] at this
      exact this

end Go.Proofs.Ytabeanealkopbaa
