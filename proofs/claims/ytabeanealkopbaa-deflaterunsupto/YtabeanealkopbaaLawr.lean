/- The walk of DeflateRuns. -/
import Derived.Test.YtabeanealkopbaaLaw
namespace Go.Proofs.Ytabeanealkopbaa
open Go.RowKit Infl Defl
set_option maxRecDepth 100000
set_option linter.unusedVariables false

/-- a row of ints of one's own, between two bounds -/
structure RowIn (w : World) (v : Value) (xs : List Int) (lo hi : Nat) : Prop where
  own : w.ownsRow lo 3 1 v xs.length (xs.map iv)
  hi : ∀ g, v.ownBlock = some g → g < hi

theorem RowIn.apart {w w' : World} {v u : Value} {xs ys : List Int} {lo hi lo' hi' : Nat} (h : RowIn w v xs lo hi) (h' : RowIn w' u ys lo' hi') (hl : hi ≤ lo') : ∀ g, v.ownBlock = some g → u.ownBlock ≠ some g := fun g e e' => by
  have := h.hi g e
  have := (h'.own.lt g e').1
  omega

theorem RowIn.keep {w w' : World} {v u : Value} {xs : List Int} {lo hi : Nat} (h : RowIn w v xs lo hi) (hr : Row1 u w w') (hne : ∀ g, v.ownBlock = some g → u.ownBlock ≠ some g) : RowIn w' v xs lo hi :=
  ⟨own_keep h.own (fun g e => hr.keep g (h.own.lt g e).2 (hne g e)), h.hi⟩

theorem RowIn.below {w w' : World} {v : Value} {xs : List Int} {lo hi : Nat} (h : RowIn w v xs lo hi) (hb : Below w.heap.size w w') : RowIn w' v xs lo hi :=
  ⟨own_keep h.own (fun g e => hb.block g (h.own.lt g e).2), h.hi⟩

theorem Row1.below {v : Value} {w w' : World} {B : Nat} (h : Row1 v w w') (hB : B ≤ w.heap.size) (hv : ∀ g, v.ownBlock = some g → B ≤ g) : Below B w w' :=
  ⟨h.os, h.tape, h.output, h.size, fun k hk => h.keep k (by omega) (fun e => by have := hv k e; omega)⟩

theorem own_base {w : World} {B B' e n : Nat} {v : Value} {xs : List Value} (h : w.ownsRow B e 1 v n xs) (hB : B' ≤ B) : w.ownsRow B' e 1 v n xs := by
  refine ⟨h.1, ?_⟩
  rcases h.2 with h | ⟨g, cap, cur, e1, h2, r⟩
  · exact .inl h
  · exact .inr ⟨g, cap, cur, e1, Nat.le_trans hB h2, r⟩

/-- two rows are the same -/
theorem same_rows {w : World} {v u : Value} {xs : List Int} {lo hi lo' hi' : Nat} (h : RowIn w v xs lo hi) (h' : RowIn w u xs lo' hi') (hl : hi ≤ lo') (hx : xs.length ≤ 100000000000) :
    Calls Try.prog 11 #[v, u] w fun e w' => e = .returned (.bool true) ∧ Row1 v w w' := by
  refine same_ok xs v u lo w h.own (own_reads h'.own rfl) (fun _ b off ln c e e' => ?_) hx
  refine h.apart h' hl b e' ?_
  rcases h'.own.2 with ⟨e2, _⟩ | ⟨g, cap, cur, e2, _⟩
  · rw [e2] at e; cases e
  · rw [e2] at e ⊢
    injection e with e3
    injection e3 with e3
    injection e3 with e3 e4
    subst e3
    rfl

theorem wordsL_le (l : List Int) : (wordsL l).length ≤ l.length := by
  have key : ∀ k a, (wordsF l k a).length ≤ k := by
    intro k
    induction k with
    | zero => intro a; simp [wordsF]
    | succ k ih => intro a; unfold wordsF; split <;> simp; exact ih _
  exact key _ _

theorem syms_runs (l : List Int) : syms (wordsL l) = (runsL l).map fun r => r.1 := by
  rw [← wordsL_runs, List.map_map]; rfl
theorem mores_runs (l : List Int) : mores (wordsL l) = (runsL l).map fun r => (r.2 : Int) := by
  rw [← wordsL_runs, List.map_map]; rfl

set_option maxHeartbeats 4000000 in
theorem law_walk (a0 : Option Addr) (cap : Nat) (l : List Int) (w : World) (hr : ReadsN w a0 cap l) (hlen : l.length ≤ 1048576) :
    Calls Try.prog 4 #[.slice a0 l.length cap] w fun e w' => e = .returned (.bool true) ∧ Below w.heap.size w w' := by
  have HRD := hide hr
  have HWL := hide (wordsL_le l)
  obtain ⟨S, hS⟩ : ∃ S, S = syms (wordsL l) := ⟨_, rfl⟩
  obtain ⟨M, hM⟩ : ∃ M, M = mores (wordsL l) := ⟨_, rfl⟩
  have HSL : Hid (S.length ≤ 1048576 ∧ M.length ≤ 1048576) := hide (by rw [hS, hM]; simp [syms, mores]; have := unhide HWL; omega)
  have HP : Hid (∀ (W : World) (v : Value) (lo hi : Nat), RowIn W v l lo hi → Calls Try.prog 9 #[v] W fun e w' => ∃ sv mv w0, e = .returned (.tuple #[sv, mv]) ∧ TwoAt w0 w' S M sv mv ∧ Below W.heap.size W w0) := hide (fun W v lo hi h => by
    rw [hS, hM]
    rcases h.own.2 with ⟨e, e'⟩ | ⟨g, c, cur, e, _, _, hn, _⟩
    · have hnil : l = [] := List.length_eq_zero_iff.1 e'
      subst hnil
      rw [e]
      exact pruns_ok [] none 0 W ⟨none, 0, rfl, fun h => by simp at h⟩ (by simp) (by simp) (unhide HWL)
    · rw [e]
      refine pruns_ok l _ c W (own_reads (by rw [← e]; exact h.own) rfl) hn (by omega) (unhide HWL))
  have HQ : Hid (∀ (W : World), Below w.heap.size w W → Calls Try.prog 10 #[.slice a0 l.length cap] W fun e w' => ∃ sv mv, e = .returned (.tuple #[sv, mv]) ∧ RowIn w' sv S W.heap.size w'.heap.size ∧ RowIn w' mv M W.heap.size w'.heap.size ∧ Below W.heap.size W w') := hide (fun W hb => by
    refine (runs_ok l _ W ((unhide HRD).stays hb).reads (by omega)).mono ?_
    rintro e w' ⟨sv, mv, rfl, h1, h2, h3, h4⟩
    have e1 : S.map iv = (runsL l).map fun r => iv r.1 := by rw [hS, syms_runs, List.map_map]; rfl
    have e2 : M.map iv = (runsL l).map fun r => iv (r.2 : Int) := by rw [hM, mores_runs, List.map_map]; rfl
    have e3 : S.length = (runsL l).length := by rw [hS, syms_runs, List.length_map]
    have e4 : M.length = (runsL l).length := by rw [hM, mores_runs, List.length_map]
    exact ⟨sv, mv, rfl, ⟨by rw [e1, e3]; exact h1, fun g e => (h1.lt g e).2⟩, ⟨by rw [e2, e4]; exact h2, fun g e => (h2.lt g e).2⟩, h3⟩)
  clear hS hM hr HWL
  obtain ⟨n, hn⟩ : ∃ n, n = l.length := ⟨_, rfl⟩
  have HN := hide hn
  rw [← hn] at hlen HQ ⊢
  clear hn
  go_enter Try.func4, Try.ntmps4
  go_wp2_with (at_builtin; go_must (refine wpList_append_ints rfl _ _ rfl w.heap.size _ 0 [] (by rfl) (built_own w w.heap.size (Nat.le_refl _)) _ n _ l (unhide HN) (by rfl) ((unhide HRD).stays ((Below.refl _ _).alloc (Nat.le_refl _) _)) (by omega) (by simp) ?_; intro iv0 w0 h1 h2 h3; have HI : Hid (RowIn w0 iv0 l w.heap.size w0.heap.size) := hide ⟨by rw [unhide HN] at h1; simpa using h1, fun g e => (h1.lt g e).2⟩; have HB0 : Hid (Below w.heap.size w w0) := hide (((Below.refl _ _).alloc (Nat.le_refl _) _).grown h2 (by simp) (fun k e => by simp only [Value.ownBlock, Option.some.injEq] at e; omega)); clear h1 h2 h3))
  refine (unhide HP w0 iv0 _ _ (unhide HI)).mono ?_
  rintro e w1 ⟨A, B, x1, rfl, t1, b1⟩
  have HA : Hid (RowIn w1 A S w0.heap.size w1.heap.size) := hide ⟨own_base t1.own1 b1.size, fun g e => (t1.own1.lt g e).2⟩
  have HBB : Hid (RowIn w1 B M w0.heap.size w1.heap.size) := hide ⟨own_base t1.own2 b1.size, fun g e => (t1.own2.lt g e).2⟩
  have HNE1 : Hid (∀ g, A.ownBlock = some g → B.ownBlock ≠ some g) := hide t1.ne
  have HW1 : Hid (Below w0.heap.size w0 w1) := hide (b1.trans (t1.bel.mono b1.size))
  have HI1 : Hid (RowIn w1 iv0 l w.heap.size w0.heap.size) := hide ((unhide HI).below (unhide HW1))
  clear t1 b1 HI
  go_wp2_with fail
  refine (unhide HP w1 iv0 _ _ (unhide HI1)).mono ?_
  rintro e w2 ⟨C, D, x2, rfl, t2, b2⟩
  have HC : Hid (RowIn w2 C S w1.heap.size w2.heap.size) := hide ⟨own_base t2.own1 b2.size, fun g e => (t2.own1.lt g e).2⟩
  have HD : Hid (RowIn w2 D M w1.heap.size w2.heap.size) := hide ⟨own_base t2.own2 b2.size, fun g e => (t2.own2.lt g e).2⟩
  have HNE2 : Hid (∀ g, C.ownBlock = some g → D.ownBlock ≠ some g) := hide t2.ne
  have HW2 : Hid (Below w1.heap.size w1 w2) := hide (b2.trans (t2.bel.mono b2.size))
  have HI2 : Hid (RowIn w2 iv0 l w.heap.size w0.heap.size) := hide ((unhide HI1).below (unhide HW2))
  have HA2 : Hid (RowIn w2 A S w0.heap.size w1.heap.size) := hide ((unhide HA).below (unhide HW2))
  have HB2 : Hid (RowIn w2 B M w0.heap.size w1.heap.size) := hide ((unhide HBB).below (unhide HW2))
  have HBL2 : Hid (Below w.heap.size w w2) := hide (((unhide HB0).trans ((unhide HW1).mono (unhide HB0).size)).trans ((unhide HW2).mono (Nat.le_trans (unhide HB0).size (unhide HW1).size)))
  clear t2 b2 HI1 HA HBB HP
  go_wp2_with fail
  refine (unhide HQ w2 (unhide HBL2)).mono ?_
  rintro e w3 ⟨X, Y, rfl, hx, hy, hw3⟩
  have HX := hide hx
  have HY := hide hy
  have HW3 := hide hw3
  have HI3 : Hid (RowIn w3 iv0 l w.heap.size w0.heap.size) := hide ((unhide HI2).below hw3)
  have HA3 : Hid (RowIn w3 A S w0.heap.size w1.heap.size) := hide ((unhide HA2).below hw3)
  have HB3 : Hid (RowIn w3 B M w0.heap.size w1.heap.size) := hide ((unhide HB2).below hw3)
  have HC3 : Hid (RowIn w3 C S w1.heap.size w2.heap.size) := hide ((unhide HC).below hw3)
  have HD3 : Hid (RowIn w3 D M w1.heap.size w2.heap.size) := hide ((unhide HD).below hw3)
  have HS12 : Hid (w0.heap.size ≤ w1.heap.size ∧ w1.heap.size ≤ w2.heap.size ∧ w2.heap.size ≤ w3.heap.size) := hide ⟨(unhide HW1).size, (unhide HW2).size, hw3.size⟩
  have HBL3 : Hid (Below w.heap.size w w3) := hide ((unhide HBL2).trans (hw3.mono (unhide HBL2).size))
  clear hx hy hw3 HI2 HA2 HB2 HC HD HQ
  go_wp2_with fail
  refine (same_rows (unhide HA3) (unhide HX) (unhide HS12).2.1 (by have := (unhide HSL).1; omega)).mono ?_
  rintro e w4 ⟨rfl, r4⟩
  have HB4 : Hid (RowIn w4 B M w0.heap.size w1.heap.size) := hide ((unhide HB3).keep r4 (fun g e e' => unhide HNE1 g e' e))
  have HC4 : Hid (RowIn w4 C S w1.heap.size w2.heap.size) := hide ((unhide HC3).keep r4 (fun g e e' => (unhide HA3).apart (unhide HC3) (Nat.le_refl _) g e' e))
  have HD4 : Hid (RowIn w4 D M w1.heap.size w2.heap.size) := hide ((unhide HD3).keep r4 (fun g e e' => (unhide HA3).apart (unhide HD3) (Nat.le_refl _) g e' e))
  have HX4 : Hid (RowIn w4 X S w2.heap.size w3.heap.size) := hide ((unhide HX).keep r4 (fun g e e' => (unhide HA3).apart (unhide HX) (unhide HS12).2.1 g e' e))
  have HY4 : Hid (RowIn w4 Y M w2.heap.size w3.heap.size) := hide ((unhide HY).keep r4 (fun g e e' => (unhide HA3).apart (unhide HY) (unhide HS12).2.1 g e' e))
  have HI4 : Hid (RowIn w4 iv0 l w.heap.size w0.heap.size) := hide ((unhide HI3).keep r4 (fun g e e' => (unhide HI3).apart (unhide HA3) (Nat.le_refl _) g e e'))
  have HBL4 : Hid (Below w.heap.size w w4) := hide ((unhide HBL3).trans (r4.below (unhide HBL3).size (fun g e => Nat.le_trans (unhide HB0).size ((unhide HA3).own.lt g e).1)))
  clear r4 HB3 HC3 HD3 HX HY HI3 HA3
  go_wp2_with fail
  refine (same_rows (unhide HB4) (unhide HY4) (unhide HS12).2.1 (by have := (unhide HSL).2; omega)).mono ?_
  rintro e w5 ⟨rfl, r5⟩
  have HC5 : Hid (RowIn w5 C S w1.heap.size w2.heap.size) := hide ((unhide HC4).keep r5 (fun g e e' => (unhide HB4).apart (unhide HC4) (Nat.le_refl _) g e' e))
  have HD5 : Hid (RowIn w5 D M w1.heap.size w2.heap.size) := hide ((unhide HD4).keep r5 (fun g e e' => (unhide HB4).apart (unhide HD4) (Nat.le_refl _) g e' e))
  have HX5 : Hid (RowIn w5 X S w2.heap.size w3.heap.size) := hide ((unhide HX4).keep r5 (fun g e e' => (unhide HB4).apart (unhide HX4) (unhide HS12).2.1 g e' e))
  have HY5 : Hid (RowIn w5 Y M w2.heap.size w3.heap.size) := hide ((unhide HY4).keep r5 (fun g e e' => (unhide HB4).apart (unhide HY4) (unhide HS12).2.1 g e' e))
  have HI5 : Hid (RowIn w5 iv0 l w.heap.size w0.heap.size) := hide ((unhide HI4).keep r5 (fun g e e' => (unhide HI4).apart (unhide HB4) (Nat.le_refl _) g e e'))
  have HBL5 : Hid (Below w.heap.size w w5) := hide ((unhide HBL4).trans (r5.below (unhide HBL4).size (fun g e => Nat.le_trans (unhide HB0).size ((unhide HB4).own.lt g e).1)))
  clear r5 HB4 HC4 HD4 HX4 HY4 HI4
  go_wp2_with fail
  refine (same_rows (unhide HC5) (unhide HX5) (Nat.le_refl _) (by have := (unhide HSL).1; omega)).mono ?_
  rintro e w6 ⟨rfl, r6⟩
  have HD6 : Hid (RowIn w6 D M w1.heap.size w2.heap.size) := hide ((unhide HD5).keep r6 (fun g e e' => unhide HNE2 g e' e))
  have HY6 : Hid (RowIn w6 Y M w2.heap.size w3.heap.size) := hide ((unhide HY5).keep r6 (fun g e e' => (unhide HC5).apart (unhide HY5) (Nat.le_refl _) g e' e))
  have HI6 : Hid (RowIn w6 iv0 l w.heap.size w0.heap.size) := hide ((unhide HI5).keep r6 (fun g e e' => (unhide HI5).apart (unhide HC5) (unhide HS12).1 g e e'))
  have HBL6 : Hid (Below w.heap.size w w6) := hide ((unhide HBL5).trans (r6.below (unhide HBL5).size (fun g e => Nat.le_trans (Nat.le_trans (unhide HB0).size (unhide HS12).1) ((unhide HC5).own.lt g e).1)))
  clear r6 HC5 HD5 HX5 HY5 HI5
  go_wp2_with fail
  refine (same_rows (unhide HD6) (unhide HY6) (Nat.le_refl _) (by have := (unhide HSL).2; omega)).mono ?_
  rintro e w7 ⟨rfl, r7⟩
  have HI7 : Hid (RowIn w7 iv0 l w.heap.size w0.heap.size) := hide ((unhide HI6).keep r7 (fun g e e' => (unhide HI6).apart (unhide HD6) (unhide HS12).1 g e e'))
  have HBL7 : Hid (Below w.heap.size w w7) := hide ((unhide HBL6).trans (r7.below (unhide HBL6).size (fun g e => Nat.le_trans (Nat.le_trans (unhide HB0).size (unhide HS12).1) ((unhide HD6).own.lt g e).1)))
  clear r7 HD6 HY6 HI6
  have HLAST : Hid (Calls Try.prog 11 #[iv0, .slice a0 n cap] w7 fun e w' => e = .returned (.bool true) ∧ Row1 iv0 w7 w') := hide (by
    rw [unhide HN]
    have hrl := ((unhide HRD).stays (unhide HBL7)).reads
    refine same_ok l iv0 _ w.heap.size w7 (unhide HI7).own hrl (fun h0 b off ln c e e' => ?_) (by rw [← unhide HN]; omega)
    have hb := hrl.spot h0
    obtain ⟨b', off', e1, hc⟩ := hb
    injection e with e2
    rw [e2] at e1
    injection e1 with e1
    injection e1 with e1 e3
    have h1 := (unhide HI7).own.lt b e'
    have h2 := (unhide HRD).reads.spot h0
    obtain ⟨b2, off2, e4, hc2⟩ := h2
    rw [e2] at e4
    injection e4 with e4
    injection e4 with e4 e5
    have := cell_lt (hc2 0 h0)
    simp only at this
    omega)
  go_wp2_with fail
  refine (unhide HLAST).mono ?_
  rintro e w8 ⟨rfl, r8⟩
  have HBL8 : Hid (Below w.heap.size w w8) := hide ((unhide HBL7).trans (r8.below (unhide HBL7).size (fun g e => ((unhide HI7).own.lt g e).1)))
  clear r8
  go_wp2_with fail
  go_ret
  exact ⟨rfl, unhide HBL8⟩

end Go.Proofs.Ytabeanealkopbaa
