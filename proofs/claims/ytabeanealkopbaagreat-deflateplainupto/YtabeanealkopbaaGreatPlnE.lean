/- Texts of one proof, one behind the other: DeflP, DeflB, DeflC, DeflD, St1, Find, Symw, Fxc, Wy0, Dg, Ch1, Pt1. -/
import Derived.Test.YtabeanealkopbaaGreatPlnD
import Derived.Laws.EntriesVeiled

section
namespace Go.Proofs.YtabeanealkopbaaGreat.Defl
open Infl
set_option linter.unusedVariables false

theorem snoc_of {l : List Nat} (h : 0 < l.length) (h0 : l.getD (l.length - 1) 0 = 0) : l = l.take (l.length - 1) ++ [0] := by
  have e : l.take (l.length - 1 + 1) = l.take (l.length - 1) ++ [l.getD (l.length - 1) 0] := by
    rw [List.take_add_one, List.getD_eq_getElem?_getD, List.getElem?_eq_getElem (by omega)]
    rfl
  rw [h0, List.take_of_length_le (by omega)] at e
  exact e

theorem okSum_snoc (l : List Nat) (loose : Bool) : okSum (l ++ [0]) loose ↔ okSum l loose := by
  unfold okSum
  rw [Canon.sum_snoc l 0 (by decide), if_neg (by decide), Nat.add_zero]
  have h1 : words (l ++ [0]) = words l := by
    unfold words
    rw [List.filter_append]
    simp
  have h2 : (l ++ [0]).count 1 = l.count 1 := by rw [List.count_append]; simp
  rw [h1, h2]

theorem good_snoc {l : List Nat} (h : Good (l ++ [0])) : Good l := by
  refine ⟨fun x hx => h.small x (by simp [hx]), ?_⟩
  have := h.sum
  rw [Canon.sum_snoc l 0 (by decide), if_neg (by decide), Nat.add_zero] at this
  exact this

theorem trim_sum (n : Nat) : ∀ (k : Nat) (l : List Nat) (loose : Bool), (okSum l loose → okSum (trim n k l) loose) ∧ (Good l → Good (trim n k l))
  | 0, l, loose => ⟨id, id⟩
  | k + 1, l, loose => by
    unfold trim
    by_cases c : n < l.length ∧ l.getD (l.length - 1) 0 = 0
    · rw [if_pos c]
      have e := snoc_of (by omega) c.2
      obtain ⟨h1, h2⟩ := trim_sum n k (l.take (l.length - 1)) loose
      refine ⟨fun h => h1 ?_, fun h => h2 ?_⟩
      · rw [e] at h; exact (okSum_snoc _ _).1 h
      · rw [e] at h; exact good_snoc h
    · rw [if_neg c]
      exact ⟨id, id⟩

theorem ce_of {ls : List Nat} {M : Nat} {loose : Bool} (h : okSum ls loose) : ce ls M loose = 0 := by
  rcases ce_cases ls M loose with ⟨h', _⟩ | ⟨_, h'⟩
  · exact h'
  · exact absurd h h'

/-- runs of one symbol alone -/
theorem runs_all {s : Nat} {tgt : List Nat} : ∀ (rs : List (Nat × Nat)) (all : List Nat), RunsTo all rs tgt → (∀ r ∈ rs, r.1 = s) → (s ≤ 15 → ∀ i, all.length ≤ i → i < tgt.length → tgt.getD i 0 = s) ∧ (s = 17 ∨ s = 18 → ∀ i, all.length ≤ i → i < tgt.length → tgt.getD i 0 = 0) ∧ ∀ i, i < all.length → tgt.getD i 0 = all.getD i 0
  | [], all, h, _ => by
    have e : all = tgt := h
    subst e
    exact ⟨fun _ i h1 h2 => by omega, fun _ i h1 h2 => by omega, fun _ _ => rfl⟩
  | r :: rs, all, h, hs => by
    obtain ⟨v, n, h1, h2⟩ := h
    have hr := hs r (by simp)
    obtain ⟨i1, i2, i3⟩ := runs_all rs (all ++ List.replicate n v) h2 (fun x hx => hs x (by simp [hx]))
    rw [List.length_append, List.length_replicate] at i1 i2 i3
    have hnew : ∀ i, all.length ≤ i → i < all.length + n → tgt.getD i 0 = v := fun i a b => by
      rw [i3 i b, List.getD_eq_getElem?_getD, List.getElem?_append_right a, List.getElem?_replicate, if_pos (by omega)]
      rfl
    refine ⟨fun h15 i a b => ?_, fun h17 i a b => ?_, fun i a => ?_⟩
    · by_cases c : i < all.length + n
      · rw [hnew i a c]
        rcases h1 with ⟨_, _, e, _⟩ | ⟨e, _⟩ | ⟨e, _⟩ | ⟨e, _⟩ <;> omega
      · exact i1 h15 i (by omega) b
    · by_cases c : i < all.length + n
      · rw [hnew i a c]
        rcases h1 with ⟨_, _, e, _⟩ | ⟨e, _⟩ | ⟨_, _, e, _⟩ | ⟨_, _, e, _⟩ <;> omega
      · exact i2 h17 i (by omega) b
    · rw [i3 i (by omega), List.getD_eq_getElem?_getD, List.getElem?_append_left a, List.getD_eq_getElem?_getD]

theorem cnt_all {l : List Int} {v : Int} (h : ∀ i, i < l.length → l.getD i 0 = v) : cntRun v l = l.length := by
  induction l with
  | nil => rfl
  | cons x r ih =>
    have h0 : x = v := by have := h 0 (by simp); simpa using this
    unfold cntRun
    rw [if_pos h0, ih (fun i hi => by have := h (i + 1) (by simp; omega); simpa using this), List.length_cons]
    omega

/-- of lengths that are not all 0, and many, runs have two symbols at least -/
theorem runs_two (ls : List Nat) (h15 : ∀ x ∈ ls, x ≤ 15) (hlen : 10 ≤ ls.length) (j : Nat) (hj : j < ls.length) (hne : ls.getD j 0 ≠ 0) :
    ∃ r ∈ (runsL (ls.map fun x : Nat => (x : Int))).map nn, ∃ r' ∈ (runsL (ls.map fun x : Nat => (x : Int))).map nn, r.1 ≠ r'.1 := by
  have hto := runsL_to ls h15
  obtain ⟨k, hk⟩ : ∃ k, ls.length = k + 2 := ⟨ls.length - 2, by omega⟩
  obtain ⟨rs, hrs⟩ : ∃ rs, rs = (runsL (ls.map fun x : Nat => (x : Int))).map nn := ⟨_, rfl⟩
  rw [← hrs] at hto ⊢
  have hunf : rs = nn ((stepR (ls.map fun x : Nat => (x : Int)) 0).1, (stepR (ls.map fun x : Nat => (x : Int)) 0).2.1) :: (runsF (ls.map fun x : Nat => (x : Int)) (k + 1) (0 + (stepR (ls.map fun x : Nat => (x : Int)) 0).2.2)).map nn := by
    rw [hrs]
    unfold runsL
    rw [List.length_map, hk, runsF, if_pos (by rw [List.length_map]; omega), List.map_cons]
  refine Classical.byContradiction fun hcon => ?_
  obtain ⟨s, hs⟩ : ∃ s, s = (stepR (ls.map fun x : Nat => (x : Int)) 0).1.toNat := ⟨_, rfl⟩
  have hall : ∀ r ∈ rs, r.1 = s := fun r hr => Classical.byContradiction fun hn => hcon ⟨r, hr, nn ((stepR (ls.map fun x : Nat => (x : Int)) 0).1, (stepR (ls.map fun x : Nat => (x : Int)) 0).2.1), by rw [hunf]; simp, by rw [hs] at hn; exact hn⟩
  obtain ⟨a1, a2, _⟩ := runs_all rs [] hto hall
  have hst := stepR_ok ls 0 (by omega) h15
  rw [← hs, List.take_zero] at hst
  by_cases h17 : s = 17 ∨ s = 18
  · exact hne (a2 h17 j (Nat.zero_le _) hj)
  · have hs15 : s ≤ 15 := by
      rcases hst with ⟨e, _⟩ | ⟨_, _, e, _⟩ | ⟨e, _⟩ | ⟨e, _⟩
      · exact e
      · exact absurd rfl e
      · exact absurd (.inl e) h17
      · exact absurd (.inr e) h17
    have hval := a1 hs15
    have hs0 : s ≠ 0 := fun e => hne (by rw [hval j (Nat.zero_le _) hj, e])
    have hn1 : (stepR (ls.map fun x : Nat => (x : Int)) 0).2.2 = 1 := by
      rcases hst with ⟨_, _, _, e⟩ | ⟨e, _⟩ | ⟨e, _⟩ | ⟨e, _⟩
      · exact e
      · omega
      · omega
      · omega
    have hI : ∀ i, i < ls.length → (ls.map fun x : Nat => (x : Int)).getD i 0 = (s : Int) := fun i hi => by
      rw [List.getD_eq_getElem?_getD, List.getElem?_map, List.getElem?_eq_getElem hi]
      have := hval i (Nat.zero_le _) hi
      rw [List.getD_eq_getElem?_getD, List.getElem?_eq_getElem hi] at this
      show ((ls[i] : Nat) : Int) = (s : Int)
      have e : ls[i] = s := this
      rw [e]
    have hcnt : cntRun (s : Int) ((ls.map fun x : Nat => (x : Int)).drop 1) = ls.length - 1 := by
      rw [cnt_all, List.length_drop, List.length_map]
      intro i hi
      rw [List.length_drop, List.length_map] at hi
      have := hI (1 + i) (by omega)
      rw [List.getD_eq_getElem?_getD] at this ⊢
      rw [List.getElem?_drop]
      exact this
    have hstep1 : (stepR (ls.map fun x : Nat => (x : Int)) 1).1 = 16 := by
      unfold stepR
      rw [hI 1 (by omega), hcnt, if_neg (by omega), if_neg (by omega), if_pos ⟨by omega, by omega, by rw [hI 0 (by omega)], by omega⟩]
    have hmem : nn ((stepR (ls.map fun x : Nat => (x : Int)) 1).1, (stepR (ls.map fun x : Nat => (x : Int)) 1).2.1) ∈ rs := by
      rw [hunf, hn1]
      refine List.mem_cons_of_mem _ ?_
      rw [runsF, if_pos (by rw [List.length_map]; omega), List.map_cons]
      simp
    have := hall _ hmem
    unfold nn at this
    rw [hstep1] at this
    have h16 : s = 16 := by rw [← this]; rfl
    omega

/-- the plan by both codes' lengths and the third one's -/
def planOf (x0 y0 z : List Nat) : Plan :=
  { x := trim 257 286 x0, y := trim 1 30 y0, z := z, vs := trim 4 19 (order.map fun j => z.getD j 0), rs := (runsL (((trim 257 286 x0) ++ (trim 1 30 y0)).map fun x : Nat => (x : Int))).map nn }

/-- how often a symbol of runs comes -/
def oftenOf (x0 y0 : List Nat) (s : Nat) : Nat := (((runsL (((trim 257 286 x0) ++ (trim 1 30 y0)).map fun x : Nat => (x : Int))).map nn).map Prod.fst).count s

theorem trim_ln {n k : Nat} {l : List Nat} (h : n ≤ l.length) (i : Nat) : Canon.ln (trim n k l) i = Canon.ln l i := (trim_is n k l h).2.2 i

theorem ln_lt {l : List Nat} {i : Nat} (h : 0 < Canon.ln l i) : i < l.length := by
  unfold Canon.ln at h
  rcases Nat.lt_or_ge i l.length with h' | h'
  · exact h'
  · rw [List.getD_eq_getElem?_getD, List.getElem?_eq_none h'] at h; simp at h

theorem runs_sym (ls : List Nat) (h15 : ∀ x ∈ ls, x ≤ 15) : ∀ r ∈ (runsL (ls.map fun x : Nat => (x : Int))).map nn, r.1 < 19 := by
  have key : ∀ (rs : List (Nat × Nat)) (all tgt : List Nat), RunsTo all rs tgt → ∀ r ∈ rs, r.1 < 19 := by
    intro rs
    induction rs with
    | nil => intro all tgt _ r hr; simp at hr
    | cons a rs ih =>
      intro all tgt h r hr
      obtain ⟨v, n, h1, h2⟩ := h
      rw [List.mem_cons] at hr
      rcases hr with rfl | hr
      · exact h1.pos.2
      · exact ih _ _ h2 r hr
  exact key _ _ _ (runsL_to ls h15)

theorem order_get : ∀ j, j < 19 → order.getD (order.idxOf j) 0 = j ∧ order.idxOf j < 19 := by decide

theorem plan_ok {a b : Nat → Nat} {x0 y0 z : List Nat} (hx : LimOk a 15 286 x0) (hy : LimOk b 15 30 y0) (h256 : 0 < a 256) (hz : LimOk (oftenOf x0 y0) 7 19 z) :
    (planOf x0 y0 z).ok ∧ Good (planOf x0 y0 z).x ∧ Good (planOf x0 y0 z).y ∧ (∀ i, i < 286 → 0 < a i → i < (planOf x0 y0 z).x.length ∧ 0 < Canon.ln (planOf x0 y0 z).x i) ∧ (∀ i, i < 30 → 0 < b i → i < (planOf x0 y0 z).y.length ∧ 0 < Canon.ln (planOf x0 y0 z).y i) := by
  obtain ⟨tx1, tx2, tx3⟩ := trim_is 257 286 x0 (by rw [hx.len]; decide)
  obtain ⟨ty1, ty2, ty3⟩ := trim_is 1 30 y0 (by rw [hy.len]; decide)
  rw [hx.len] at tx2
  rw [hy.len] at ty2
  have hxs := trim_sum 257 286 x0 true
  have hys := trim_sum 1 30 y0 true
  have h15 : ∀ v ∈ trim 257 286 x0 ++ trim 1 30 y0, v ≤ 15 := fun v hv => by
    rw [List.mem_append] at hv
    rcases hv with hv | hv
    · exact hx.le v (trim_mem _ _ _ v hv)
    · exact hy.le v (trim_mem _ _ _ v hv)
  have hl256 : 0 < Canon.ln (trim 257 286 x0) 256 := by
    rw [trim_ln (by rw [hx.len]; decide)]
    exact hx.pos 256 (by decide) h256
  have hcnt : ∀ r ∈ (runsL ((trim 257 286 x0 ++ trim 1 30 y0).map fun x : Nat => (x : Int))).map nn, 0 < oftenOf x0 y0 r.1 := fun r hr => by
    unfold oftenOf
    exact List.count_pos_iff.2 (List.mem_map_of_mem hr)
  have hsym := runs_sym _ h15
  have hol : (order.map fun j => z.getD j 0).length = 19 := by rw [List.length_map]; rfl
  obtain ⟨tv1, tv2, tv3⟩ := trim_is 4 19 (order.map fun j => z.getD j 0) (by rw [hol]; decide)
  rw [hol] at tv2
  refine ⟨⟨tx1, tx2, ty1, ty2, tv1, tv2, ?_, ?_, hz.good, ?_, runsL_to _ h15, ?_, ?_, ce_of (hxs.1 hx.loose), ce_of (hys.1 hy.loose)⟩, hxs.2 hx.good, hys.2 hy.good, fun i hi ha => ?_, fun i hi hb => ?_⟩
  · intro v hv
    have := trim_mem _ _ _ v hv
    rw [List.mem_map] at this
    obtain ⟨j, _, rfl⟩ := this
    rw [List.getD_eq_getElem?_getD]
    cases hg : z[j]? with
    | none => simp
    | some w => have := hz.le w (List.mem_of_getElem? hg); simp; omega
  · show ownOf (trim 4 19 (order.map fun j => z.getD j 0)) = z
    refine list_eq (by rw [ownOf_length, hz.len]) fun i hi => ?_
    rw [ownOf_length] at hi
    unfold ownOf
    rw [List.getD_eq_getElem?_getD, List.getElem?_map, List.getElem?_range hi]
    show (trim 4 19 (order.map fun j => z.getD j 0)).getD (order.idxOf i) 0 = z.getD i 0
    rw [tv3]
    obtain ⟨o1, o2⟩ := order_get i hi
    rw [List.getD_eq_getElem?_getD, List.getElem?_map]
    have e : order[order.idxOf i]? = some i := by
      rw [List.getD_eq_getElem?_getD] at o1
      rw [List.getElem?_eq_getElem (show order.idxOf i < order.length from o2)] at o1 ⊢
      simp
    rw [e]
    rfl
  · refine ce_of (hz.full ?_)
    obtain ⟨r, hr, r', hr', hne⟩ := runs_two _ h15 (by rw [List.length_append]; omega) 256 (by rw [List.length_append]; omega) (by
      rw [List.getD_eq_getElem?_getD, List.getElem?_append_left (by omega)]
      have := hl256
      unfold Canon.ln at this
      rw [List.getD_eq_getElem?_getD] at this
      omega)
    exact ⟨r.1, r'.1, hsym r hr, hsym r' hr', hne, hcnt r hr, hcnt r' hr'⟩
  · intro r hr
    exact hz.pos r.1 (hsym r hr) (hcnt r hr)
  · show (trim 257 286 x0).getD 256 0 ≠ 0
    have := hl256
    unfold Canon.ln at this
    omega
  · have h := hx.pos i hi ha
    rw [← trim_ln (n := 257) (k := 286) (by rw [hx.len]; decide)] at h
    exact ⟨ln_lt h, h⟩
  · have h := hy.pos i hi hb
    rw [← trim_ln (n := 1) (k := 30) (by rw [hy.len]; decide)] at h
    exact ⟨ln_lt h, h⟩

end Go.Proofs.YtabeanealkopbaaGreat.Defl
end

section
namespace Go.Proofs.YtabeanealkopbaaGreat.Defl
open Infl
set_option linter.unusedVariables false

/-- these bits are a block that tells c behind out -/
def Tellsc (out c : List Nat) (p last F0 : Nat) (L : List Bool) : Prop := ∀ (zs : List Nat) (most F : Nat), (out ++ c).length ≤ most → F0 ≤ F → Lies (Infl.bitsOf zs) p L → Infl.block gg ce most F out (Infl.bitsOf zs) p = .ok (last, out ++ c) (p + L.length)

/-- how often a symbol comes in tokens, with the end -/
def symCount (ts : List T) (s : Nat) : Nat := (if s = 256 then 1 else 0) + (ts.map fun t => if t.n = 0 then t.b else symL t.n).count s
def distCount (ts : List T) (s : Nat) : Nat := ((ts.filter fun t => decide (t.n ≠ 0)).map fun t => symD t.d).count s

/-- each token may be, where it stands -/
def Oks : List Nat → List T → Prop
  | _, [] => True
  | out, t :: ts => t.ok out ∧ Oks (t.ext out) ts

theorem Oks.each : ∀ {ts : List T} {out : List Nat}, Oks out ts → ∀ t ∈ ts, t.n = 0 ∧ t.b < 256 ∨ 3 ≤ t.n ∧ t.n ≤ 258 ∧ 1 ≤ t.d ∧ t.d ≤ 32768
  | [], _, _, t, h => by simp at h
  | a :: ts, out, h, t, ht => by
    rw [List.mem_cons] at ht
    rcases ht with rfl | ht
    · rcases h.1 with h | ⟨h1, h2, h3, h4, _⟩
      · exact .inl h
      · exact .inr ⟨h1, h2, h3, h4⟩
    · exact h.2.each t ht

theorem toks_of {l1 l2 : List Nat} : ∀ {ts : List T} {out : List Nat}, Oks out ts → (∀ t ∈ ts, t.has l1 l2) → Toks l1 l2 out ts
  | [], _, _, _ => trivial
  | a :: ts, out, h, hh => ⟨h.1, hh a (by simp), toks_of h.2 (fun t ht => hh t (by simp [ht]))⟩

/-- tokens by the fixed code -/
theorem fixed_has {t : T} (h : t.n = 0 ∧ t.b < 256 ∨ 3 ≤ t.n ∧ t.n ≤ 258 ∧ 1 ≤ t.d ∧ t.d ≤ 32768) : t.has fixedL fixedD := by
  have hL : ∀ s, s < 288 → s < fixedL.length ∧ 0 < Canon.ln fixedL s := by
    intro s hs
    refine ⟨by rw [fixedL_len]; exact hs, ?_⟩
    unfold Canon.ln
    rw [fixedL_is, List.getD_eq_getElem?_getD, List.getElem?_map, List.getElem?_range hs]
    show 0 < fx s
    unfold fx
    split
    · decide
    · split <;> decide
  have hD : ∀ s, s < 32 → s < fixedD.length ∧ 0 < Canon.ln fixedD s := by
    intro s hs
    refine ⟨by rw [fixedD_len]; exact hs, ?_⟩
    unfold Canon.ln fixedD
    rw [List.getD_eq_getElem?_getD, List.getElem?_replicate, if_pos hs]
    decide
  unfold T.has
  rcases h with ⟨h0, hb⟩ | ⟨h1, h2, h3, h4⟩
  · rw [if_pos h0]
    exact hL _ (by omega)
  · rw [if_neg (by omega)]
    have a := symL_is t.n h1 h2
    have b := symD_is t.d h3 h4
    exact ⟨hL _ (by omega), hD _ (by omega)⟩

theorem fixed_tells {out c : List Nat} {ts : List T} {p last : Nat} (hl : last < 2) (hok : Oks out ts) (hx : exts out ts = out ++ c) : Tellsc out c p last (ts.length + 1) (head last 1 ++ (tbits fixedL fixedD ts ++ wb fixedL 256)) := by
  intro zs most F hm hF h
  rw [← hx]
  exact block_fixed hl (by omega) (toks_of hok (fun t ht => fixed_has (hok.each t ht))) (by rw [hx]; exact hm) h

theorem told_has {ts : List T} {out : List Nat} (hok : Oks out ts) {x y : List Nat} (hx : ∀ i, i < 286 → 0 < symCount ts i → i < x.length ∧ 0 < Canon.ln x i) (hy : ∀ i, i < 30 → 0 < distCount ts i → i < y.length ∧ 0 < Canon.ln y i) : ∀ t ∈ ts, t.has x y := by
  intro t ht
  have hm : ∀ s, s = (if t.n = 0 then t.b else symL t.n) → 0 < symCount ts s := fun s hs => by
    unfold symCount
    have : 0 < (ts.map fun t => if t.n = 0 then t.b else symL t.n).count s := List.count_pos_iff.2 (by rw [hs]; exact List.mem_map_of_mem (f := fun t : T => if t.n = 0 then t.b else symL t.n) ht)
    omega
  unfold T.has
  rcases hok.each t ht with ⟨h0, hb⟩ | ⟨h1, h2, h3, h4⟩
  · rw [if_pos h0]
    exact hx t.b (by omega) (hm _ (by rw [if_pos h0]))
  · have h0 : t.n ≠ 0 := by omega
    rw [if_neg h0]
    have a := symL_is t.n h1 h2
    have b := symD_is t.d h3 h4
    refine ⟨hx _ (by omega) (hm _ (by rw [if_neg h0])), hy _ (by omega) ?_⟩
    unfold distCount
    exact List.count_pos_iff.2 (List.mem_map_of_mem (f := fun t : T => symD t.d) (List.mem_filter.2 ⟨ht, by simpa using h0⟩))

theorem told_tells {out c : List Nat} {ts : List T} {p last : Nat} {x0 y0 z : List Nat} (hl : last < 2) (hok : Oks out ts) (hx : exts out ts = out ++ c) (h1 : LimOk (symCount ts) 15 286 x0) (h2 : LimOk (distCount ts) 15 30 y0) (h3 : LimOk (oftenOf x0 y0) 7 19 z) :
    Tellsc out c p last (ts.length + 1) (head last 2 ++ ((planOf x0 y0 z).bits ++ (tbits (planOf x0 y0 z).x (planOf x0 y0 z).y ts ++ wb (planOf x0 y0 z).x 256))) := by
  intro zs most F hm hF h
  obtain ⟨p1, p2, p3, p4, p5⟩ := plan_ok h1 h2 (by unfold symCount; rw [if_pos rfl]; omega) h3
  rw [← hx]
  exact block_told p1 p2 p3 hl (by omega) (toks_of hok (told_has hok p4 p5)) (by rw [hx]; exact hm) h

/-- bytes' bits -/
def bbits (c : List Nat) : List Bool := (c.map fun b => nb b 8).flatten

theorem bbits_length : ∀ c : List Nat, (bbits c).length = 8 * c.length
  | [] => rfl
  | v :: vs => by
    have := bbits_length vs
    unfold bbits at this ⊢
    rw [List.map_cons, List.flatten_cons, List.length_append, nb_length, this, List.length_cons]
    omega

theorem bytes_bits {I : In} : ∀ (c out : List Nat) (p : Nat), (∀ v ∈ c, v < 256) → Lies I p (bbits c) → Infl.bytes c.length out I p = .ok (out ++ c) (p + 8 * c.length)
  | [], out, p, _, _ => by rw [List.append_nil]; rfl
  | v :: vs, out, p, h, hl => by
    have e : bbits (v :: vs) = nb v 8 ++ bbits vs := by unfold bbits; rw [List.map_cons, List.flatten_cons]
    rw [e] at hl
    have r := hl.right
    rw [nb_length] at r
    rw [List.length_cons, Infl.bytes, bind_of (get_nb hl.left (h v (by simp))), bytes_bits vs (out ++ [v]) (p + 8) (fun x hx => h x (by simp [hx])) r]
    rw [List.append_assoc, List.singleton_append]
    congr 1
    omega

/-- bits 0 up to a whole place -/
def pad (p : Nat) : List Bool := List.replicate ((p + 7) / 8 * 8 - p) false

theorem stored_tells {out c : List Nat} {p last : Nat} (hl : last < 2) (hc : c.length ≤ 65535) (hs : ∀ v ∈ c, v < 256) : Tellsc out c p last 0 (head last 0 ++ (pad (p + 3) ++ (nb c.length 16 ++ (nb (65535 - c.length) 16 ++ bbits c)))) := by
  intro zs most F hm hF h
  obtain ⟨h1, h2, h3⟩ := head_reads hl (by decide) h
  have r1 := h3.right
  have hp : p + 3 + (pad (p + 3)).length = (p + 3 + 7) / 8 * 8 := by unfold pad; rw [List.length_replicate]; omega
  rw [hp] at r1
  have g1 := get_nb r1.left (by omega)
  have r2 := r1.right
  rw [nb_length] at r2
  have g2 := get_nb r2.left (by omega)
  have r3 := r2.right
  rw [nb_length] at r3
  have g3 := bytes_bits c out _ hs r3
  have hk : byKind 0 most F out (Infl.bitsOf zs) (p + 3) = .ok (out ++ c) ((p + 3 + 7) / 8 * 8 + 16 + 16 + 8 * c.length) := by
    show Infl.stored most out (Infl.bitsOf zs) (p + 3) = _
    unfold Infl.stored
    rw [bind_of (x := ()) (o := (p + 3 + 7) / 8 * 8) (by rfl), bind_of g1, bind_of g2, if_neg (by omega), if_neg (by rw [List.length_append] at hm; omega)]
    exact g3
  rw [block_is h1 h2 (x := 0) hk]
  have e1 : (head last 0 ++ (pad (p + 3) ++ (nb c.length 16 ++ (nb (65535 - c.length) 16 ++ bbits c)))).length = 3 + ((pad (p + 3)).length + (16 + (16 + 8 * c.length))) := by
    rw [List.length_append, List.length_append, List.length_append, List.length_append, nb_length, nb_length, bbits_length]
    rw [show (head last 0).length = 3 from by unfold head; rw [List.length_append, nb_length, nb_length]]
  rw [e1]
  congr 1
  omega

/-- blocks one behind the other: the text so far, the bits so far -/
inductive Chain : List Nat → List Bool → Prop
  | nil : Chain [] []
  | step {out c : List Nat} {B L : List Bool} {F0 : Nat} (h : Chain out B) (hb : Tellsc out c B.length 0 F0 L) : Chain (out ++ c) (B ++ L)

theorem chain_goes {zs : List Nat} {most : Nat} {out : List Nat} {B : List Bool} (h : Chain out B) (hl : Lies (Infl.bitsOf zs) 0 B) (hm : out.length ≤ most) : Goes most zs out B.length := by
  induction h with
  | nil => exact Goes.start most zs
  | step h hb ih =>
    rename_i out c B L F0
    have hr := hl.right
    rw [Nat.zero_add] at hr
    have := (ih hl.left (by rw [List.length_append] at hm; omega)).next (hb zs most F0 hm (Nat.le_refl _) hr)
    rw [List.length_append]
    exact this

/-- the last block ends the text -/
theorem chain_tells {zs : List Nat} {most : Nat} {out c : List Nat} {B L : List Bool} {F0 : Nat} (h : Chain out B) (hb : Tellsc out c B.length 1 F0 L) (hl : Lies (Infl.bitsOf zs) 0 (B ++ L)) (hm : (out ++ c).length ≤ most) : Tells gg ce (Infl.bitsOf zs) most (.ok (out ++ c) (B ++ L).length) := by
  have hr := hl.right
  rw [Nat.zero_add] at hr
  have := (chain_goes h hl.left (by rw [List.length_append] at hm; omega)).fin (hb zs most F0 hm (Nat.le_refl _) hr)
  rw [List.length_append]
  exact this

end Go.Proofs.YtabeanealkopbaaGreat.Defl
end

section
namespace Go.Proofs.YtabeanealkopbaaGreat.Defl
open Infl
set_option linter.unusedVariables false

def storedB (c : List Nat) (last p : Nat) : List Bool := head last 0 ++ (pad (p + 3) ++ (nb c.length 16 ++ (nb (65535 - c.length) 16 ++ bbits c)))
def fixedB (ts : List T) (last : Nat) : List Bool := head last 1 ++ (tbits fixedL fixedD ts ++ wb fixedL 256)
def toldB (d : List Nat × List Nat × List Nat) (ts : List T) (last : Nat) : List Bool :=
  head last 2 ++ ((planOf d.1 d.2.1 d.2.2).bits ++ (tbits (planOf d.1 d.2.1 d.2.2).x (planOf d.1 d.2.1 d.2.2).y ts ++ wb (planOf d.1 d.2.1 d.2.2).x 256))

/-- the first of the fewest bits -/
def fewest (A B : List Bool) : List Bool := if B.length < A.length then B else A

/-- the kind's block: 0 is the best one -/
def pick (kind : Nat) (S F D : List Bool) : List Bool := if kind = 1 then S else if kind = 2 then F else if kind = 3 then D else fewest (fewest S F) D

theorem fewest_one (A B : List Bool) : fewest A B = A ∨ fewest A B = B := by
  unfold fewest
  split
  · exact .inr rfl
  · exact .inl rfl

theorem pick_one (kind : Nat) (S F D : List Bool) : pick kind S F D = S ∨ pick kind S F D = F ∨ pick kind S F D = D := by
  unfold pick
  by_cases h1 : kind = 1
  · rw [if_pos h1]; exact .inl rfl
  · rw [if_neg h1]
    by_cases h2 : kind = 2
    · rw [if_pos h2]; exact .inr (.inl rfl)
    · rw [if_neg h2]
      by_cases h3 : kind = 3
      · rw [if_pos h3]; exact .inr (.inr rfl)
      · rw [if_neg h3]
        rcases fewest_one (fewest S F) D with e | e
        · rw [e]
          rcases fewest_one S F with e | e
          · exact .inl e
          · exact .inr (.inl e)
        · exact .inr (.inr e)

theorem pick_best (S F D : List Bool) : (pick 0 S F D).length ≤ S.length ∧ (pick 0 S F D).length ≤ F.length ∧ (pick 0 S F D).length ≤ D.length := by
  unfold pick fewest
  rw [if_neg (by decide), if_neg (by decide), if_neg (by decide)]
  by_cases h1 : F.length < S.length
  · rw [if_pos h1]
    by_cases h2 : D.length < F.length
    · rw [if_pos h2]; omega
    · rw [if_neg h2]; omega
  · rw [if_neg h1]
    by_cases h2 : D.length < S.length
    · rw [if_pos h2]; omega
    · rw [if_neg h2]; omega

section
variable (zs : List Nat) (k kind : Nat) (tk : Nat → Nat → List T) (pl : List T → List Nat × List Nat × List Nat)

/-- a piece's end -/
def ende (a : Nat) : Nat := min (a + k) zs.length
def lastOf (a : Nat) : Nat := if zs.length ≤ a + k then 1 else 0
def piece (a : Nat) : List Nat := (zs.take (ende zs k a)).drop a
def ownB (a p : Nat) : List Bool := pick kind (storedB (piece zs k a) (lastOf zs k a) p) (fixedB (tk a (ende zs k a)) (lastOf zs k a)) (toldB (pl (tk a (ende zs k a))) (tk a (ende zs k a)) (lastOf zs k a))

/-- the bits, from a place on -/
def deflF : Nat → Nat → List Bool → List Bool
  | 0, _, B => B
  | f + 1, a, B => if zs.length ≤ a + k then B ++ ownB zs k kind tk pl a B.length else deflF f (a + k) (B ++ ownB zs k kind tk pl a B.length)

/-- what is asked of tokens and codes -/
structure Tools : Prop where
  oks : ∀ a e, a ≤ e → e ≤ zs.length → Oks (zs.take a) (tk a e)
  ext : ∀ a e, a ≤ e → e ≤ zs.length → exts (zs.take a) (tk a e) = zs.take e
  l1 : ∀ a e, a ≤ e → e ≤ zs.length → LimOk (symCount (tk a e)) 15 286 (pl (tk a e)).1
  l2 : ∀ a e, a ≤ e → e ≤ zs.length → LimOk (distCount (tk a e)) 15 30 (pl (tk a e)).2.1
  l3 : ∀ a e, a ≤ e → e ≤ zs.length → LimOk (oftenOf (pl (tk a e)).1 (pl (tk a e)).2.1) 7 19 (pl (tk a e)).2.2

variable {zs k kind tk pl}

theorem take_piece (a : Nat) (ha : a ≤ zs.length) : zs.take a ++ piece zs k a = zs.take (ende zs k a) := by
  unfold piece
  have h : (zs.take (ende zs k a)).take a = zs.take a := by
    rw [List.take_take]
    congr 1
    unfold ende
    omega
  rw [← h, List.take_append_drop]

theorem piece_len (a : Nat) (ha : a ≤ zs.length) : (piece zs k a).length ≤ k := by
  unfold piece ende
  rw [List.length_drop, List.length_take]
  omega

theorem own_tells (hT : Tools zs tk pl) (hs : ∀ z ∈ zs, z < 256) (hk : k ≤ 65535) (a p : Nat) (ha : a ≤ zs.length) : ∃ F0, Tellsc (zs.take a) (piece zs k a) p (lastOf zs k a) F0 (ownB zs k kind tk pl a p) := by
  have he : a ≤ ende zs k a ∧ ende zs k a ≤ zs.length := by unfold ende; omega
  have hl : lastOf zs k a < 2 := by unfold lastOf; split <;> decide
  have hx := take_piece (k := k) a ha
  have hext := hT.ext a (ende zs k a) he.1 he.2
  unfold ownB
  rcases pick_one kind (storedB (piece zs k a) (lastOf zs k a) p) (fixedB (tk a (ende zs k a)) (lastOf zs k a)) (toldB (pl (tk a (ende zs k a))) (tk a (ende zs k a)) (lastOf zs k a)) with e | e | e
  · rw [e]
    exact ⟨0, stored_tells hl (Nat.le_trans (piece_len a ha) hk) (fun v hv => hs v (List.mem_of_mem_take (List.mem_of_mem_drop hv)))⟩
  · rw [e]
    exact ⟨_, fixed_tells hl (hT.oks _ _ he.1 he.2) (by rw [hext, hx])⟩
  · rw [e]
    exact ⟨_, told_tells hl (hT.oks _ _ he.1 he.2) (by rw [hext, hx]) (hT.l1 _ _ he.1 he.2) (hT.l2 _ _ he.1 he.2) (hT.l3 _ _ he.1 he.2)⟩

/-- the bits are blocks whose last one ends the text -/
theorem defl_chain (hT : Tools zs tk pl) (hs : ∀ z ∈ zs, z < 256) (hk1 : 1 ≤ k) (hk : k ≤ 65535) : ∀ (f a : Nat) (B : List Bool), a ≤ zs.length → zs.length < a + f * k ∨ (f = 1 ∧ zs.length ≤ a + k) → Chain (zs.take a) B →
    ∃ (out c : List Nat) (B' L : List Bool) (F0 : Nat), deflF zs k kind tk pl f a B = B' ++ L ∧ Chain out B' ∧ Tellsc out c B'.length 1 F0 L ∧ out ++ c = zs
  | 0, a, B, ha, h, _ => by
    rcases h with h | ⟨h, _⟩
    · rw [Nat.zero_mul] at h; omega
    · cases h
  | f + 1, a, B, ha, h, hc => by
    obtain ⟨F0, ht⟩ := own_tells (kind := kind) hT hs hk a B.length ha
    unfold deflF
    by_cases hl : zs.length ≤ a + k
    · rw [if_pos hl]
      have h1 : lastOf zs k a = 1 := by unfold lastOf; rw [if_pos hl]
      rw [h1] at ht
      refine ⟨zs.take a, piece zs k a, B, _, F0, rfl, hc, ht, ?_⟩
      rw [take_piece a ha]
      exact List.take_of_length_le (by unfold ende; omega)
    · rw [if_neg hl]
      have h1 : lastOf zs k a = 0 := by unfold lastOf; rw [if_neg hl]
      rw [h1] at ht
      have hstep := Chain.step hc ht
      rw [take_piece a ha, show ende zs k a = a + k from by unfold ende; omega] at hstep
      refine defl_chain hT hs hk1 hk f (a + k) _ (by omega) ?_ hstep
      rcases h with h | ⟨h, h'⟩
      · left
        rw [Nat.add_mul, Nat.one_mul] at h
        omega
      · exact absurd h' hl

theorem pk_lies (m : Nat) (L : List Bool) (h : L.length ≤ 8 * m) : Lies (Infl.bitsOf (Mth.pk false m L)) 0 L := by
  refine ⟨by rw [bitsOf_m, Mth.pk_length]; omega, fun i hi => ?_⟩
  rw [Nat.zero_add, ← bitIn_is, Mth.bitIn_pk false m L i (by omega)]

/-- a packed text is told again, all of it -/
theorem defl_tells (hT : Tools zs tk pl) (hs : ∀ z ∈ zs, z < 256) (hk1 : 1 ≤ k) (hk : k ≤ 65535) (f : Nat) (hf : zs.length < f * k) (L : List Bool) (hL : L = deflF zs k kind tk pl f 0 []) :
    Tells gg ce (Infl.bitsOf (Mth.pk false ((L.length + 7) / 8) L)) zs.length (.ok zs L.length) := by
  obtain ⟨out, c, B', L', F0, e1, e2, e3, e4⟩ := defl_chain (kind := kind) hT hs hk1 hk f 0 [] (Nat.zero_le _) (.inl (by rw [Nat.zero_add]; exact hf)) (by rw [List.take_zero]; exact Chain.nil)
  have hL' : L = B' ++ L' := by rw [hL, e1]
  have := chain_tells (most := zs.length) e2 e3 (zs := Mth.pk false ((L.length + 7) / 8) L) (by rw [← hL']; exact pk_lies _ L (by omega)) (by rw [e4]; exact Nat.le_refl _)
  rw [e4, ← hL'] at this
  exact this

theorem stored_len (c : List Nat) (last p q : Nat) : (storedB c last p).length ≤ (storedB c last q).length + 7 := by
  simp only [storedB, pad, List.length_append, List.length_replicate]
  omega

theorem own_len (a p q : Nat) : (ownB zs k 0 tk pl a p).length ≤ (ownB zs k kind tk pl a q).length + 7 := by
  unfold ownB
  obtain ⟨b1, b2, b3⟩ := pick_best (storedB (piece zs k a) (lastOf zs k a) p) (fixedB (tk a (ende zs k a)) (lastOf zs k a)) (toldB (pl (tk a (ende zs k a))) (tk a (ende zs k a)) (lastOf zs k a))
  have hs := stored_len (piece zs k a) (lastOf zs k a) p q
  rcases pick_one kind (storedB (piece zs k a) (lastOf zs k a) q) (fixedB (tk a (ende zs k a)) (lastOf zs k a)) (toldB (pl (tk a (ende zs k a))) (tk a (ende zs k a)) (lastOf zs k a)) with e | e | e
  · rw [e]; omega
  · rw [e]; omega
  · rw [e]; omega

/-- the best kind is at most seven bits a block longer -/
theorem best_len (hk1 : 1 ≤ k) : ∀ (f a i : Nat) (B1 B2 : List Bool), a ≤ zs.length → zs.length < a + f * k → B1.length ≤ B2.length + 7 * i →
    (deflF zs k 0 tk pl f a B1).length ≤ (deflF zs k kind tk pl f a B2).length + 7 * (i + ((zs.length - a) / k + 1))
  | 0, a, i, B1, B2, ha, h, hb => by rw [Nat.zero_mul] at h; omega
  | f + 1, a, i, B1, B2, ha, h, hb => by
    have ho := own_len (zs := zs) (k := k) (kind := kind) (tk := tk) (pl := pl) a B1.length B2.length
    unfold deflF
    by_cases hl : zs.length ≤ a + k
    · rw [if_pos hl, if_pos hl, List.length_append, List.length_append]
      have : 7 * (i + ((zs.length - a) / k + 1)) = 7 * i + 7 * ((zs.length - a) / k) + 7 := by omega
      omega
    · rw [if_neg hl, if_neg hl]
      have hd : (zs.length - a) / k = (zs.length - (a + k)) / k + 1 := by
        rw [show zs.length - a = (zs.length - (a + k)) + k from by omega, Nat.add_div_right _ (by omega)]
      have ih := best_len hk1 f (a + k) (i + 1) (B1 ++ ownB zs k 0 tk pl a B1.length) (B2 ++ ownB zs k kind tk pl a B2.length) (by omega) (by rw [Nat.add_mul, Nat.one_mul] at h; omega) (by rw [List.length_append, List.length_append]; omega)
      rw [hd]
      have e : i + 1 + ((zs.length - (a + k)) / k + 1) = i + ((zs.length - (a + k)) / k + 1 + 1) := by omega
      rw [e] at ih
      exact ih

/-- in bytes: at most one a block longer -/
theorem best_bytes (hk1 : 1 ≤ k) (f : Nat) (hf : zs.length < f * k) :
    ((deflF zs k 0 tk pl f 0 []).length + 7) / 8 ≤ ((deflF zs k kind tk pl f 0 []).length + 7) / 8 + (zs.length / k + 1) := by
  have := best_len (kind := kind) (tk := tk) (pl := pl) hk1 f 0 0 [] [] (Nat.zero_le _) (by rw [Nat.zero_add]; exact hf) (by simp)
  rw [Nat.zero_add, Nat.sub_zero] at this
  omega
end

end Go.Proofs.YtabeanealkopbaaGreat.Defl
end

section
namespace Go.Proofs.YtabeanealkopbaaGreat.Defl
open Infl
set_option linter.unusedVariables false

theorem nb_add (v a b : Nat) : nb v (a + b) = nb v a ++ nb (v / 2 ^ a) b := by
  unfold nb
  rw [List.range_add, List.map_append, List.map_map]
  congr 1
  refine List.map_congr_left fun i _ => ?_
  show v.testBit (a + i) = (v / 2 ^ a).testBit i
  rw [Nat.testBit_div_two_pow, Nat.add_comm]

theorem nb_mod (v n : Nat) : nb (v % 2 ^ n) n = nb v n := by
  unfold nb
  refine List.map_congr_left fun i hi => ?_
  rw [List.mem_range] at hi
  rw [Nat.testBit_mod_two_pow]
  simp [hi]

theorem nb_sixteen (v : Nat) (h : v ≤ 65535) : nb v 16 = nb (v % 256) 8 ++ nb (v / 256) 8 := by
  rw [show (16 : Nat) = 8 + 8 from rfl, nb_add, ← nb_mod v 8]

theorem bbits_append (a b : List Nat) : bbits (a ++ b) = bbits a ++ bbits b := by
  unfold bbits
  rw [List.map_append, List.flatten_append]

theorem head_pad (last p : Nat) (hl : last < 2) (hp : p % 8 = 0) : head last 0 ++ pad (p + 3) = nb last 8 := by
  have e : (p + 3 + 7) / 8 * 8 - (p + 3) = 5 := by omega
  unfold head pad
  rw [e]
  rcases (show last = 0 ∨ last = 1 by omega) with rfl | rfl <;> decide

/-- a block that stores, at a whole place, is five bytes and its text -/
theorem storedB_is (c : List Nat) (last p : Nat) (hl : last < 2) (hp : p % 8 = 0) (hc : c.length ≤ 65535) : storedB c last p = bbits (blk last c) := by
  unfold storedB
  rw [← List.append_assoc, head_pad last p hl hp, nb_sixteen c.length hc, nb_sixteen (65535 - c.length) (by omega)]
  unfold blk
  rw [bbits_append]
  have e1 : (65535 - c.length) % 256 = 255 - c.length % 256 := by omega
  have e2 : (65535 - c.length) / 256 = 255 - c.length / 256 := by omega
  rw [e1, e2]
  have e3 : bbits [last, c.length % 256, c.length / 256, 255 - c.length % 256, 255 - c.length / 256] = nb last 8 ++ (nb (c.length % 256) 8 ++ (nb (c.length / 256) 8 ++ (nb (255 - c.length % 256) 8 ++ (nb (255 - c.length / 256) 8 ++ [])))) := rfl
  rw [e3, List.append_nil]
  simp only [List.append_assoc]

section
variable {zs : List Nat} {k : Nat} {tk : Nat → Nat → List T} {pl : List T → List Nat × List Nat × List Nat}

/-- the pieces, from a place on -/
def pieces (zs : List Nat) (k : Nat) : Nat → Nat → List (List Nat)
  | 0, _ => []
  | f + 1, a => if zs.length ≤ a + k then [piece zs k a] else piece zs k a :: pieces zs k f (a + k)

theorem pieces_ne (zs : List Nat) (k f a : Nat) : pieces zs k (f + 1) a ≠ [] := by
  unfold pieces
  split <;> simp

theorem plain_is (hk1 : 1 ≤ k) (hk : k ≤ 65535) : ∀ (f a : Nat) (B : List Bool), a ≤ zs.length → zs.length < a + f * k → B.length % 8 = 0 → deflF zs k 1 tk pl f a B = B ++ bbits (pack (pieces zs k f a))
  | 0, a, B, ha, h, _ => by rw [Nat.zero_mul] at h; omega
  | f + 1, a, B, ha, h, hb => by
    have hl : lastOf zs k a < 2 := by unfold lastOf; split <;> decide
    have ho : ownB zs k 1 tk pl a B.length = bbits (blk (lastOf zs k a) (piece zs k a)) := by
      unfold ownB pick
      rw [if_pos rfl]
      exact storedB_is _ _ _ hl hb (Nat.le_trans (piece_len a ha) hk)
    unfold deflF pieces
    rw [ho]
    by_cases hc : zs.length ≤ a + k
    · rw [if_pos hc, if_pos hc, show lastOf zs k a = 1 from by unfold lastOf; rw [if_pos hc]]
      rfl
    · rw [if_neg hc, if_neg hc, show lastOf zs k a = 0 from by unfold lastOf; rw [if_neg hc]]
      have hf : zs.length < a + k + f * k := by rw [Nat.add_mul, Nat.one_mul] at h; omega
      rw [plain_is hk1 hk f (a + k) _ (by omega) hf (by rw [List.length_append, bbits_length]; omega)]
      cases f with
      | zero => rw [Nat.zero_mul] at hf; omega
      | succ f =>
        obtain ⟨d, r, hd⟩ : ∃ d r, pieces zs k (f + 1) (a + k) = d :: r := by
          cases hp : pieces zs k (f + 1) (a + k) with
          | nil => exact absurd hp (pieces_ne zs k f (a + k))
          | cons d r => exact ⟨d, r, rfl⟩
        rw [hd, pack, bbits_append, List.append_assoc]

theorem bbits_get : ∀ (c : List Nat) (i r : Nat), i < c.length → r < 8 → (bbits c).getD (8 * i + r) false = (c.getD i 0).testBit r
  | [], i, r, h, _ => by simp at h
  | v :: vs, i, r, h, hr => by
    have e : bbits (v :: vs) = nb v 8 ++ bbits vs := by unfold bbits; rw [List.map_cons, List.flatten_cons]
    rw [e]
    cases i with
    | zero =>
      rw [List.getD_eq_getElem?_getD, List.getElem?_append_left (by rw [nb_length]; omega)]
      simp [nb, hr]
    | succ i =>
      rw [List.getD_eq_getElem?_getD, List.getElem?_append_right (by rw [nb_length]; omega), nb_length, show 8 * (i + 1) + r - 8 = 8 * i + r from by omega]
      have := bbits_get vs i r (by simp at h; omega) hr
      rw [List.getD_eq_getElem?_getD] at this
      rw [this]
      rfl

/-- bytes' bits make the bytes -/
theorem pk_bbits (c : List Nat) (hs : ∀ v ∈ c, v < 256) : Mth.pk false c.length (bbits c) = c := by
  refine list_eq (by rw [Mth.pk_length]) fun i hi => ?_
  rw [Mth.pk_length] at hi
  rw [List.getD_eq_getElem?_getD, Mth.pk_get _ _ _ _ hi]
  show Mth.octet false (bbits c) i = c.getD i 0
  have hv : c.getD i 0 < 256 := hs _ (by rw [List.getD_eq_getElem?_getD, List.getElem?_eq_getElem hi]; exact List.getElem_mem _)
  refine Nat.eq_of_testBit_eq fun r => ?_
  rw [Mth.octet_testBit]
  by_cases hr : r < 8
  · rw [show Mth.rk false 8 r = r from by simp [Mth.rk], bbits_get c i r hi hr]
    simp [hr]
  · have : (c.getD i 0).testBit r = false := Nat.testBit_lt_two_pow (Nat.lt_of_lt_of_le hv (Nat.pow_le_pow_right (n := 2) (by decide) (show 8 ≤ r by omega)))
    rw [this, decide_eq_false hr]
    rfl

theorem pack_small : ∀ (cs : List (List Nat)), (∀ c ∈ cs, c.length ≤ 65535 ∧ ∀ x ∈ c, x < 256) → ∀ v ∈ pack cs, v < 256
  | [], _, v, h => by simp [pack] at h
  | [c], hc, v, h => by
    have h1 := hc c (by simp)
    unfold pack blk at h
    rw [List.mem_append] at h
    rcases h with h | h
    · simp only [List.mem_cons, List.not_mem_nil, or_false] at h
      rcases h with rfl | rfl | rfl | rfl | rfl <;> omega
    · exact h1.2 v h
  | c :: d :: cs, hc, v, h => by
    have h1 := hc c (by simp)
    rw [pack, List.mem_append] at h
    rcases h with h | h
    · unfold blk at h
      rw [List.mem_append] at h
      rcases h with h | h
      · simp only [List.mem_cons, List.not_mem_nil, or_false] at h
        rcases h with rfl | rfl | rfl | rfl | rfl <;> omega
      · exact h1.2 v h
    · exact pack_small (d :: cs) (fun x hx => hc x (by simp only [List.mem_cons] at hx ⊢; exact .inr hx)) v h

theorem pieces_ok (hs : ∀ z ∈ zs, z < 256) (hk : k ≤ 65535) : ∀ (f a : Nat), a ≤ zs.length → ∀ c ∈ pieces zs k f a, c.length ≤ 65535 ∧ ∀ x ∈ c, x < 256
  | 0, a, _, c, h => by simp [pieces] at h
  | f + 1, a, ha, c, h => by
    have hp : (piece zs k a).length ≤ 65535 ∧ ∀ x ∈ piece zs k a, x < 256 := ⟨Nat.le_trans (piece_len a ha) hk, fun x hx => hs x (List.mem_of_mem_take (List.mem_of_mem_drop hx))⟩
    unfold pieces at h
    by_cases hc : zs.length ≤ a + k
    · rw [if_pos hc, List.mem_singleton] at h
      rw [h]; exact hp
    · rw [if_neg hc, List.mem_cons] at h
      rcases h with rfl | h
      · exact hp
      · exact pieces_ok hs hk f (a + k) (by omega) c h

/-- the bytes of a text that is stored -/
theorem plain_bytes (hs : ∀ z ∈ zs, z < 256) (hk1 : 1 ≤ k) (hk : k ≤ 65535) (f : Nat) (hf : zs.length < f * k) (L : List Bool) (hL : L = deflF zs k 1 tk pl f 0 []) : Mth.pk false ((L.length + 7) / 8) L = pack (pieces zs k f 0) := by
  have h := plain_is (tk := tk) (pl := pl) hk1 hk f 0 [] (Nat.zero_le _) (by rw [Nat.zero_add]; exact hf) rfl
  rw [List.nil_append, ← hL] at h
  rw [h, bbits_length, show (8 * (pack (pieces zs k f 0)).length + 7) / 8 = (pack (pieces zs k f 0)).length from by omega]
  exact pk_bbits _ (pack_small _ (pieces_ok hs hk f 0 (Nat.zero_le _)))
end

end Go.Proofs.YtabeanealkopbaaGreat.Defl
end

section
namespace Go.Proofs.YtabeanealkopbaaGreat.W4
open Go.RowKit Mth Infl Defl
set_option maxRecDepth 100000
set_option linter.unusedVariables false

theorem nb_bits (v n : Nat) : nb v n = Mth.bitsOf false v n := by simp [nb, Mth.bitsOf, rk]
theorem wb_bits (ls : List Nat) (s : Nat) : wb ls s = Mth.bitsOf true (Canon.wd ls s) (Canon.ln ls s) := by simp [wb, Mth.bitsOf, rk]

theorem bbits_of (c : List Nat) : bbits c = ofBytes false c := by
  refine List.ext_getElem (by rw [bbits_length, ofBytes_length]) fun i h1 h2 => ?_
  have hl := h1
  rw [bbits_length] at hl
  have e := bbits_get c (i / 8) (i % 8) (by omega) (by omega)
  rw [show 8 * (i / 8) + i % 8 = i by omega] at e
  have e2 := ofBytes_getD false c i hl
  rw [List.getD_eq_getElem?_getD, List.getElem?_eq_getElem h1] at e
  rw [List.getD_eq_getElem?_getD, List.getElem?_eq_getElem h2] at e2
  simp only [Option.getD_some] at e e2
  rw [e, e2]
  simp [bitIn, rk]

/-- the writer has these bits, and nothing else was changed since -/
def WrAt (w0 : World) (v0 : Value) (pb : Nat) (L : List Bool) (w : World) : Prop := ∃ v m f, WOk w pb false v m L f ∧ f ≤ 7 ∧ Chg pb v0 w0 v w

/-- a block that no writing touches -/
def Safe (w0 : World) (v0 : Value) (pb k : Nat) : Prop := k < w0.heap.size ∧ k ≠ pb ∧ v0.ownBlock ≠ some k

theorem WrAt.block {w0 w : World} {v0 : Value} {pb : Nat} {L : List Bool} (h : WrAt w0 v0 pb L w) {k : Nat} (hk : Safe w0 v0 pb k) : w.heap[k]? = w0.heap[k]? := by
  obtain ⟨v, m, f, _, _, hc⟩ := h
  exact hc.keep k hk.1 hk.2.1 hk.2.2

theorem WrAt.cell {w0 w : World} {v0 : Value} {pb : Nat} {L : List Bool} (h : WrAt w0 v0 pb L w) {p : Addr} (hk : Safe w0 v0 pb p.block) {u : Value} (hu : w0.cell? p = some u) : w.cell? p = some u := by
  simp only [World.cell?] at hu ⊢
  rw [h.block hk]
  exact hu

theorem WrAt.below {w0 w w' : World} {v0 : Value} {pb : Nat} {L : List Bool} (h : WrAt w0 v0 pb L w) (hb : Below w.heap.size w w') : WrAt w0 v0 pb L w' := by
  obtain ⟨v, m, f, h1, h2, h3⟩ := h
  exact ⟨v, m, f, h1.below hb, h2, h3.trans (Chg.of_below hb)⟩

theorem WrAt.size {w0 w : World} {v0 : Value} {pb : Nat} {L : List Bool} (h : WrAt w0 v0 pb L w) : w0.heap.size ≤ w.heap.size := by
  obtain ⟨v, m, f, _, _, hc⟩ := h
  exact hc.size

theorem WrAt.put {w0 w : World} {v0 : Value} {pb : Nat} {L : List Bool} (h : WrAt w0 v0 pb L w) (V n : Nat) (hn : n ≤ 64) (hV : V < 2 ^ n) (hb : L.length + n ≤ 1000000000000000) :
    Calls Tryz.prog 53 #[.pointer (some ⟨pb, 0, none⟩), .int .u64 (V : Int), .int .i64 (n : Int)] w fun e w' => e = .returned (.int .i64 0) ∧ WrAt w0 v0 pb (L ++ nb V n) w' := by
  obtain ⟨v, m, f, h1, h2, h3⟩ := h
  refine (put_ok pb m f false v L (V : Int) (n : Int) w h1 h2 (by omega) (by omega) (by omega) (by simpa using hV) (by simpa using hb)).mono ?_
  rintro e w' ⟨rfl, v', m', f', k1, k2, k3⟩
  refine ⟨rfl, v', m', f', ?_, k2, h3.trans k3⟩
  rw [nb_bits]
  simpa using k1

theorem WrAt.word {w0 w : World} {v0 : Value} {pb : Nat} {L : List Bool} (h : WrAt w0 v0 pb L w) (ls : List Nat) (cp lo hi s : Nat) (hc : Code ls w cp lo hi) (hs : s < ls.length) (h0 : 0 < Canon.ln ls s) (hb : L.length + 20 ≤ 1000000000000000) :
    Calls Tryz.prog 110 #[.pointer (some ⟨cp, 0, none⟩), .pointer (some ⟨pb, 0, none⟩), .int .i64 (s : Int)] w fun e w' => e = .returned (.int .i64 0) ∧ WrAt w0 v0 pb (L ++ wb ls s) w' := by
  obtain ⟨v, m, f, h1, h2, h3⟩ := h
  refine (cput_ok ls cp lo hi s pb m f false v L w hc hs h0 h1 h2 hb).mono ?_
  rintro e w' ⟨rfl, v', m', f', k1, k2, k3⟩
  refine ⟨rfl, v', m', f', ?_, k2, h3.trans k3⟩
  rw [wb_bits]
  exact k1

theorem pad_is {m f : Nat} {L : List Bool} (h : L.length + f = 8 * m) (hf : f ≤ 7) : pad L.length = List.replicate f false := by
  unfold pad
  congr 1
  omega

theorem WrAt.align {w0 w : World} {v0 : Value} {pb : Nat} {L : List Bool} (h : WrAt w0 v0 pb L w) :
    Calls Tryz.prog 52 #[.pointer (some ⟨pb, 0, none⟩)] w fun e w' => e = .returned (.int .i64 0) ∧ WrAt w0 v0 pb (L ++ pad L.length) w' := by
  obtain ⟨v, m, f, h1, h2, h3⟩ := h
  refine (walign_ok pb m f false v L w h1).mono ?_
  rintro e w' ⟨rfl, k1, k3⟩
  exact ⟨rfl, v, m, 0, by rw [pad_is h1.len h2]; exact k1, by omega, h3.trans k3⟩

set_option maxHeartbeats 1000000 in
theorem putBytes_nil (pb m : Nat) (v0 : Value) (L : List Bool) (w : World) (hw : WOk w pb false v0 m L 0) :
    Calls Tryz.prog 54 #[.pointer (some ⟨pb, 0, none⟩), .slice none 0 0] w fun e w' => e = .returned (.int .i64 0) ∧ WOk w' pb false v0 m L 0 ∧ Chg pb v0 w v0 w' := by
  obtain ⟨i0, hi, hz0, hz1, hz2⟩ := info_parts info5
  obtain ⟨va, vl, vc, rfl⟩ := own_form hw.row
  have c0 := hw.c0
  have c2 := hw.c2
  have c3 := hw.c3
  have H := hide hw
  have hfz := hw.fz 2
  have HSET : Hid (WOk (w.setCell ⟨pb, 2, none⟩ (.slice va vl vc)) pb false (.slice va vl vc) m L 0 ∧ Chg pb (.slice va vl vc) w (.slice va vl vc) (w.setCell ⟨pb, 2, none⟩ (.slice va vl vc))) := hide (by
    have := hw.growBytes (w1 := w) (v' := .slice va vl vc) (zs := []) (by simp) (by simpa using hw.row) (World.grownBy.refl _ _) (.inl rfl)
    simpa [ofBytes] using this)
  clear hw
  go_enter Tryz.func54, Tryz.ntmps54
  go_wp2_with (first
    | (go_at_call 31; refine (good_yes _ _ (by assumption)).mono ?_; rintro e w' ⟨rfl, rfl⟩)
    | (at_builtin; go_must (refine wpList_append_own_none rfl _ _ 22 rfl (pb + 1) 5 i0 1 Tryz.underlying22 hi _ m _ (by rfl) (unhide H).row (by rfl) ?_)))
  go_ret
  exact ⟨rfl, unhide HSET⟩

/-- bytes, at a whole place -/
theorem WrAt.bytes {w0 w : World} {v0 : Value} {pb : Nat} {L : List Bool} (h : WrAt w0 v0 pb L w) (zs : List Nat) (a : Option Addr) (c : Nat) (hr : (a = none ∧ c = 0 ∧ zs = []) ∨ ∃ ad, a = some ad ∧ ∀ (j : Nat) u, (zs.map bv)[j]? = some u → w.cell? (ad.add j) = some u) (hz : ∀ z ∈ zs, z < 256) (hL : L.length % 8 = 0) (hb : L.length + 8 * zs.length ≤ 1000000000000000) :
    Calls Tryz.prog 54 #[.pointer (some ⟨pb, 0, none⟩), .slice a zs.length c] w fun e w' => e = .returned (.int .i64 0) ∧ WrAt w0 v0 pb (L ++ bbits zs) w' := by
  obtain ⟨v, m, f, h1, h2, h3⟩ := h
  have hl := h1.len
  obtain rfl : f = 0 := by omega
  rcases hr with ⟨rfl, rfl, rfl⟩ | ⟨ad, rfl, hc⟩
  · refine (putBytes_nil pb m v L w h1).mono ?_
    rintro e w' ⟨rfl, k1, k3⟩
    exact ⟨rfl, v, m, 0, by simpa [bbits] using k1, by omega, h3.trans k3⟩
  · refine (putBytes_ok pb m false v L ad c zs w h1 hz hc (by omega)).mono ?_
    rintro e w' ⟨rfl, v', k1, k3⟩
    exact ⟨rfl, v', m + zs.length, 0, by rw [bbits_of]; exact k1, by omega, h3.trans k3⟩

set_option maxHeartbeats 1000000 in
/-- a block's head -/
theorem begin_ok (xb pb kind : Nat) (last : Bool) (w0 w : World) (v0 : Value) (L : List Bool) (h : WrAt w0 v0 pb L w) (hx : Safe w0 v0 pb xb) (hc : w0.cell? ⟨xb, 0, none⟩ = some (.bool last)) (hk1 : 1 ≤ kind) (hk2 : kind ≤ 3) (hb : L.length + 3 ≤ 1000000000000000) :
    Calls Tryz.prog 51 #[.pointer (some ⟨xb, 0, none⟩), .pointer (some ⟨pb, 0, none⟩), .int .i64 (kind : Int)] w fun e w' => e = .returned (.tuple #[]) ∧ WrAt w0 v0 pb (L ++ head last.toNat (kind - 1)) w' := by
  have c0 := h.cell (p := ⟨xb, 0, none⟩) hx hc
  have HP := hide (h.put last.toNat 1 (by omega) (by cases last <;> decide) (by omega))
  have HQ : Hid (∀ w', WrAt w0 v0 pb (L ++ nb last.toNat 1) w' → Calls Tryz.prog 53 #[.pointer (some ⟨pb, 0, none⟩), .int .u64 ((kind : Int) - 1), .int .i64 2] w' fun e w'' => e = .returned (.int .i64 0) ∧ WrAt w0 v0 pb (L ++ head last.toNat (kind - 1)) w'') := hide (fun w' hw' => by
    have := hw'.put (kind - 1) 2 (by omega) (by omega) (by rw [List.length_append, nb_length]; omega)
    rw [show ((kind - 1 : Nat) : Int) = (kind : Int) - 1 by omega, List.append_assoc] at this
    exact this)
  have e1 : (1 : Int) ≤ (kind : Int) := by omega
  have e2 : (kind : Int) ≤ 3 := by omega
  clear h hb hc
  cases last with
  | true =>
    go_enter Tryz.func51, Tryz.ntmps51
    go_wp2_with fail
    refine (unhide HP).mono ?_
    rintro e w1 ⟨rfl, h1⟩
    have H1 := hide h1
    clear h1
    go_wp2_with fail
    refine (unhide HQ w1 (unhide H1)).mono ?_
    rintro e w2 ⟨rfl, h2⟩
    have H2 := hide h2
    clear h2
    go_wp2_with fail
    go_end0
    exact ⟨rfl, unhide H2⟩
  | false =>
    go_enter Tryz.func51, Tryz.ntmps51
    go_wp2_with fail
    refine (unhide HP).mono ?_
    rintro e w1 ⟨rfl, h1⟩
    have H1 := hide h1
    clear h1
    go_wp2_with fail
    refine (unhide HQ w1 (unhide H1)).mono ?_
    rintro e w2 ⟨rfl, h2⟩
    have H2 := hide h2
    clear h2
    go_wp2_with fail
    go_end0
    exact ⟨rfl, unhide H2⟩

/-- what a block is, in memory -/
def BlkAt (w : World) (xb : Nat) (last : Bool) (plain toks fx fy own : Value) : Prop := w.heap[xb]? = some (.cells #[.bool last, plain, toks, fx, fy, own] 65 (0, 0))

theorem BlkAt.c {w : World} {xb : Nat} {last : Bool} {plain toks fx fy own : Value} (h : BlkAt w xb last plain toks fx fy own) : w.cell? ⟨xb, 0, none⟩ = some (.bool last) ∧ w.cell? ⟨xb, 1, none⟩ = some plain ∧ w.cell? ⟨xb, 2, none⟩ = some toks ∧ w.cell? ⟨xb, 3, none⟩ = some fx ∧ w.cell? ⟨xb, 4, none⟩ = some fy ∧ w.cell? ⟨xb, 5, none⟩ = some own := by
  unfold BlkAt at h
  simp [World.cell?, h]

def storedBits (n at_ : Nat) : Nat := 3 + ((at_ + 3 + 7) / 8 * 8 - (at_ + 3)) + 32 + 8 * n

set_option maxHeartbeats 1000000 in
theorem weighStored_ok (xb at_ n : Nat) (a : Option Addr) (c : Nat) (last : Bool) (toks fx fy own : Value) (w : World) (h : BlkAt w xb last (.slice a n c) toks fx fy own) (hn : n ≤ 65535) (ha : at_ ≤ 1000000000000000) :
    Calls Tryz.prog 20 #[.pointer (some ⟨xb, 0, none⟩), .int .i64 (at_ : Int)] w fun e w' => e = .returned (.int .i64 (storedBits n at_ : Int)) ∧ w' = w := by
  obtain ⟨c0, c1, _⟩ := h.c
  unfold storedBits
  have e1 : ((3 + ((at_ + 3 + 7) / 8 * 8 - (at_ + 3)) + 32 + 8 * n : Nat) : Int) = 3 + ((8 - ((at_ : Int) + 3) % 8) % 8) + 32 + 8 * (n : Int) := by omega
  rw [e1]
  clear h e1
  go_enter Tryz.func20, Tryz.ntmps20
  go_wp2_with fail
  go_ret
  refine ⟨?_, rfl⟩
  show Ending.returned (.int .i64 (3 + -(((at_ : Int) + 3) % 8) % 8 + 32 + 8 * (n : Int))) = _
  congr 2
  omega

theorem storedB_len (c : List Nat) (last p : Nat) : (storedB c last p).length = storedBits c.length p := by
  unfold storedB storedBits
  simp only [List.length_append, head, nb_length, pad, List.length_replicate, bbits_length]
  omega

theorem xor_sixteen (n : Nat) (h : n ≤ 65535) : Go.bits .xor .u64 (n : Int) 65535 = ((65535 - n : Nat) : Int) := by
  have e := u64_xor_nat n 65535 (by omega) (by omega)
  have e2 : n ^^^ 65535 = 65535 - n := by
    refine Nat.eq_of_testBit_eq fun i => ?_
    have h1 := Nat.testBit_two_pow_sub_succ (x := n) (n := 16) (by omega) i
    have h2 := Nat.testBit_two_pow_sub_one 16 i
    rw [show 2 ^ 16 - (n + 1) = 65535 - n by omega] at h1
    rw [show 2 ^ 16 - 1 = 65535 by decide] at h2
    rw [Nat.testBit_xor, h1, h2]
    by_cases hi : i < 16
    · simp [hi]
    · have : n.testBit i = false := Nat.testBit_lt_two_pow (Nat.lt_of_lt_of_le (show n < 2 ^ 16 by omega) (Nat.pow_le_pow_right (by decide) (by omega)))
      simp [hi, this]
  rw [← e2]
  exact e

theorem add_block (ad : Addr) (j : Nat) : (ad.add j).block = ad.block := by
  unfold Addr.add
  split <;> rfl

set_option maxHeartbeats 2000000 in
theorem putStored_ok (xb pb : Nat) (zs : List Nat) (a : Option Addr) (c : Nat) (last : Bool) (toks fx fy own : Value) (w0 w : World) (v0 : Value) (L : List Bool) (h : WrAt w0 v0 pb L w) (hx : Safe w0 v0 pb xb) (hc : BlkAt w0 xb last (.slice a zs.length c) toks fx fy own)
    (hr : (a = none ∧ c = 0 ∧ zs = []) ∨ ∃ ad, a = some ad ∧ (zs = [] ∨ Safe w0 v0 pb ad.block) ∧ ∀ (j : Nat) u, (zs.map bv)[j]? = some u → w0.cell? (ad.add j) = some u) (hz : ∀ z ∈ zs, z < 256) (hn : zs.length ≤ 65535) (hb : L.length ≤ 900000000000000) :
    Calls Tryz.prog 21 #[.pointer (some ⟨xb, 0, none⟩), .pointer (some ⟨pb, 0, none⟩)] w fun e w' => e = .returned (.tuple #[]) ∧ WrAt w0 v0 pb (L ++ storedB zs last.toNat L.length) w' := by
  obtain ⟨c0, c1, _⟩ := hc.c
  have HC1 : Hid (∀ L' w', WrAt w0 v0 pb L' w' → w'.cell? ⟨xb, 1, none⟩ = some (.slice a zs.length c)) := hide (fun L' w' h' => h'.cell (p := ⟨xb, 1, none⟩) hx c1)
  have HBG := hide (begin_ok xb pb 1 last w0 w v0 L h hx c0 (by omega) (by omega) (by omega))
  have HXR := xor_sixteen zs.length hn
  have HBY : Hid (∀ L' w', WrAt w0 v0 pb L' w' → L'.length % 8 = 0 → L'.length ≤ 990000000000000 → Calls Tryz.prog 54 #[.pointer (some ⟨pb, 0, none⟩), .slice a zs.length c] w' fun e w'' => e = .returned (.int .i64 0) ∧ WrAt w0 v0 pb (L' ++ bbits zs) w'') := hide (fun L' w' h' h8 hl => by
    refine h'.bytes zs a c ?_ hz h8 (by omega)
    rcases hr with h1 | ⟨ad, h1, h2, h3⟩
    · exact .inl h1
    · exact .inr ⟨ad, h1, fun j u hj => h'.cell (p := ad.add j) (by
        rcases h2 with h2 | h2
        · rw [h2] at hj; simp at hj
        · rw [add_block]; exact h2) (h3 j u hj)⟩)
  obtain ⟨n, hn'⟩ : ∃ n, n = zs.length := ⟨_, rfl⟩
  have HN := hide hn'
  rw [← hn'] at hn HC1 HXR HBY
  clear h hc hr hz c0 c1 hn'
  go_enter Tryz.func21, Tryz.ntmps21
  go_wp2_with fail
  refine (unhide HBG).mono ?_
  rintro e w1 ⟨rfl, h1⟩
  have H1 := hide h1
  clear h1 HBG
  go_wp2_with fail
  refine ((unhide H1).align).mono ?_
  rintro e w2 ⟨rfl, h2⟩
  have c2 := unhide HC1 _ _ h2
  have H2 := hide h2
  clear h2 H1
  have hp8 : ((L ++ head last.toNat (1 - 1)) ++ pad (L ++ head last.toNat (1 - 1)).length).length % 8 = 0 ∧ ((L ++ head last.toNat (1 - 1)) ++ pad (L ++ head last.toNat (1 - 1)).length).length ≤ L.length + 20 := by
    simp only [List.length_append, head, nb_length, pad, List.length_replicate]
    omega
  have HEQ : Hid (((((L ++ head last.toNat (1 - 1)) ++ pad (L ++ head last.toNat (1 - 1)).length) ++ nb n 16) ++ nb (65535 - n) 16) ++ bbits zs = L ++ storedB zs last.toNat L.length) := hide (by
    unfold storedB
    rw [unhide HN]
    have : (L ++ head last.toNat (1 - 1)).length = L.length + 3 := by simp [head, nb_length]
    rw [this]
    simp only [List.append_assoc])
  generalize ((L ++ head last.toNat (1 - 1)) ++ pad (L ++ head last.toNat (1 - 1)).length) = L2 at H2 hp8 HEQ
  have HP1 := hide ((unhide H2).put n 16 (by omega) (by omega) (by omega))
  clear H2
  go_wp2_with fail
  refine (unhide HP1).mono ?_
  rintro e w3 ⟨rfl, h3⟩
  have HP2 := hide (h3.put (65535 - n) 16 (by omega) (by omega) (by rw [List.length_append, nb_length]; omega))
  clear h3 HP1 c2
  go_wp2_with fail
  refine (unhide HP2).mono ?_
  rintro e w4 ⟨rfl, h4⟩
  have c4 := unhide HC1 _ _ h4
  have HP3 := hide (unhide HBY _ _ h4 (by simp only [List.length_append, nb_length]; omega) (by simp only [List.length_append, nb_length]; omega))
  clear h4 HP2
  go_wp2_with fail
  refine (unhide HP3).mono ?_
  rintro e w5 ⟨rfl, h5⟩
  rw [unhide HEQ] at h5
  have H5 := hide h5
  clear h5 HP3
  go_wp2_with fail
  go_end0
  exact ⟨rfl, unhide H5⟩

end Go.Proofs.YtabeanealkopbaaGreat.W4
end

section
namespace Go.Proofs.YtabeanealkopbaaGreat
open Go.RowKit Infl
set_option maxRecDepth 100000
set_option linter.unusedVariables false

attribute [local go_sem ↓] Go.wp_at_zero Go.wp_at_succ

theorem heap_alloc_at (w : World) (o : Obj) (k : Nat) : (w.alloc o).heap[k]? = if k = w.heap.size then some o else w.heap[k]? := by
  simp only [World.alloc, Array.getElem?_push]

theorem alloc_size (w : World) (o : Obj) : (w.alloc o).heap.size = w.heap.size + 1 := by simp

theorem results_cell {fn : Func} {p : Tmp} {ty : TypeId} (h : fn.results = #[.cell p ty]) (tmps : Array Value) (P : Program) (w : World) :
    (results fn tmps).run P w = ((asAddr (tmps.getD p undef)).run P w).andThen fun a w₁ => (loadVar ty a).run P w₁ := by
  simp only [results, h]
  simp [Sem.run_bind, Result.andThen]

/-- a look at symbols: a least one and how many bits -/
def LookAt (N first last : Nat) (le ex : Nat → Nat) : Prop := ∀ (s : Nat) (w : World), first ≤ s → s ≤ last → Calls Tryz.prog N #[.int .i64 (s : Int)] w fun e w' => e = .returned (.tuple #[.int .i64 (le s : Int), .int .i64 (ex s : Int), .int .i64 0]) ∧ w' = w

theorem look_lens : LookAt 138 257 285 (fun s => (lenOf s).1) (fun s => (lenOf s).2) := fun s w h1 h2 => by
  have := len_ok (s : Int) w
  unfold lenAns at this
  rwa [if_neg (by omega)] at this

theorem look_dists : LookAt 139 0 29 (fun s => (distOf s).1) (fun s => (distOf s).2) := fun s w h1 h2 => by
  have := dist_ok (s : Int) w
  unfold distAns at this
  rwa [if_neg (by omega)] at this

/-- the test that is sought by -/
def testB (le : Nat → Nat) (first v i : Nat) : Bool := decide (v < le (first + i))

set_option maxHeartbeats 1000000 in
theorem test_len (i : Nat) (hi : 257 + i ≤ 285) (v pf p1 pv : Nat) (w : World) (h1 : w.cell? ⟨pf, 0, none⟩ = some (.func (.func 138) #[] #[])) (h2 : w.cell? ⟨p1, 0, none⟩ = some (.int .i64 257)) (h3 : w.cell? ⟨pv, 0, none⟩ = some (.int .i64 (v : Int))) :
    Calls Tryz.prog 156 #[.int .i64 (i : Int), .pointer (some ⟨pf, 0, none⟩), .pointer (some ⟨p1, 0, none⟩), .pointer (some ⟨pv, 0, none⟩)] w fun e w' => e = .returned (.bool (testB (fun s => (lenOf s).1) 257 v i)) ∧ w' = w := by
  have HL := hide (look_lens (257 + i) w (by omega) (by omega))
  have e1 : ((257 + i : Nat) : Int) = 257 + (i : Int) := by omega
  rw [e1] at HL
  clear e1
  obtain ⟨b, hb2⟩ : ∃ b, b = testB (fun s => (lenOf s).1) 257 v i := ⟨_, rfl⟩
  have hb3 : decide (v < (lenOf (257 + i)).1) = b := by rw [hb2]; unfold testB; rfl
  rw [← hb2]
  simp only at HL
  generalize (lenOf (257 + i)).1 = l at HL hb3
  generalize (lenOf (257 + i)).2 = x at HL
  have HB3 := hide hb3
  clear hb2 hb3
  go_enter Tryz.func156, Tryz.ntmps156
  go_wp2_with fail
  refine (unhide HL).mono ?_
  rintro e w1 ⟨rfl, rfl⟩
  go_wp2_with fail
  go_ret
  exact ⟨by rw [unhide HB3]; rfl, rfl⟩

set_option maxHeartbeats 1000000 in
theorem test_dist (i : Nat) (hi : 0 + i ≤ 29) (v pf p1 pv : Nat) (w : World) (h1 : w.cell? ⟨pf, 0, none⟩ = some (.func (.func 139) #[] #[])) (h2 : w.cell? ⟨p1, 0, none⟩ = some (.int .i64 0)) (h3 : w.cell? ⟨pv, 0, none⟩ = some (.int .i64 (v : Int))) :
    Calls Tryz.prog 156 #[.int .i64 (i : Int), .pointer (some ⟨pf, 0, none⟩), .pointer (some ⟨p1, 0, none⟩), .pointer (some ⟨pv, 0, none⟩)] w fun e w' => e = .returned (.bool (testB (fun s => (distOf s).1) 0 v i)) ∧ w' = w := by
  have HL := hide (look_dists (i) w (by omega) (by omega))
  obtain ⟨b, hb2⟩ : ∃ b, b = testB (fun s => (distOf s).1) 0 v i := ⟨_, rfl⟩
  have hb3 : decide (v < (distOf (i)).1) = b := by rw [hb2]; unfold testB; simp
  rw [← hb2]
  simp only at HL
  generalize (distOf (i)).1 = l at HL hb3
  generalize (distOf (i)).2 = x at HL
  have HB3 := hide hb3
  clear hb2 hb3
  go_enter Tryz.func156, Tryz.ntmps156
  go_wp2_with fail
  refine (unhide HL).mono ?_
  rintro e w1 ⟨rfl, rfl⟩
  go_wp2_with fail
  go_ret
  exact ⟨by rw [unhide HB3]; rfl, rfl⟩

set_option maxHeartbeats 1000000 in
/-- the first place at which a test that stays true is true -/
theorem search_ok (n : Nat) (hn : n ≤ 1000) (p : Nat → Bool) (caps : Array Value) (w : World) (hf : ∀ i, i < n → Calls Tryz.prog 156 (#[.int .i64 (i : Int)] ++ caps) w fun e w' => e = .returned (.bool (p i)) ∧ w' = w) (hm : ∀ i j, i ≤ j → j < n → p i = true → p j = true) :
    Calls Tryz.prog 155 #[.int .i64 (n : Int), .func (.func 156) #[] caps] w fun e w' => (∃ k : Nat, e = .returned (.int .i64 (k : Int)) ∧ k ≤ n ∧ (∀ i, i < k → p i = false) ∧ ∀ i, k ≤ i → i < n → p i = true) ∧ w' = w := by
  have HF := hide hf
  have HM := hide hm
  clear hf hm
  go_enter Tryz.func155, Tryz.ntmps155
  go_wp2_with fail
  go_loopg [5, 6] n (fun gk iv jv ws => ∃ i j : Nat, gk = j - i ∧ iv = .int .i64 (i : Int) ∧ jv = .int .i64 (j : Int) ∧ i ≤ j ∧ j ≤ n ∧ ws = w ∧ Hid ((∀ t, t < i → p t = false) ∧ ∀ t, j ≤ t → t < n → p t = true))
  case atStart => exact ⟨0, n, rfl, rfl, rfl, by omega, by omega, rfl, fun t h => by omega, fun t h h2 => by omega⟩
  case round =>
    obtain ⟨i, j, rfl, rfl, rfl, hij, hjn, rfl, hp⟩ := hrel
    by_cases hlt : i < j
    · have e1 : (i : Int) < (j : Int) := by omega
      obtain ⟨h, hh⟩ : ∃ h, h = (i + j) / 2 := ⟨_, rfl⟩
      have e2 : ((i : Int) + (j : Int)) / 2 = (h : Int) := by omega
      have hi1 : i ≤ h := by omega
      have hi2 : h < j := by omega
      have HC := hide (unhide HF h (by omega))
      obtain ⟨b, hb⟩ : ∃ b, b = p h := ⟨_, rfl⟩
      rw [← hb] at HC
      have HBB := hide hb
      clear hh hb
      go_wp2_with fail
      refine (unhide HC).mono ?_
      rintro e w1 ⟨rfl, rfl⟩
      cases b with
      | true =>
        go_wp2_with fail
        go_roundg (h - i)
        case measure => omega
        case rel => exact ⟨i, h, rfl, rfl, rfl, by omega, by omega, rfl, (unhide hp).1, fun t h1 h2 => unhide HM h t h1 h2 (unhide HBB).symm⟩
      | false =>
        go_wp2_with fail
        go_roundg (j - (h + 1))
        case measure => omega
        case rel =>
          refine ⟨h + 1, j, rfl, by go_num, rfl, by omega, by omega, rfl, fun t ht => ?_, (unhide hp).2⟩
          cases hc : p t with
          | false => rfl
          | true => have := unhide HM t h (by omega) (by omega) hc; rw [← unhide HBB] at this; cases this
    · have e1 : ¬ (i : Int) < (j : Int) := by omega
      obtain rfl : i = j := by omega
      go_wp2_with fail
      go_ret
      exact ⟨⟨i, rfl, hjn, (unhide hp).1, (unhide hp).2⟩, rfl⟩

/-- what is found -/
structure Found (f : Nat → Nat) (first last v s : Nat) : Prop where
  lo : first ≤ s
  hi : s ≤ last
  le : f s ≤ v
  next : ∀ t, s < t → t ≤ last → v < f t

theorem Found.eq {f : Nat → Nat} {first last v s s' : Nat} (h : Found f first last v s) (h' : Found f first last v s') : s = s' := by
  rcases Nat.lt_trichotomy s s' with e | e | e
  · have := h.next s' e h'.hi; have := h'.le; omega
  · exact e
  · have := h'.next s e h.hi; have := h.le; omega

def wordV (s m x : Nat) : Value := .agg #[.int .i64 (s : Int), .int .i64 (m : Int), .int .i64 (x : Int)]

theorem found_len (v : Nat) (h1 : 3 ≤ v) : Found (fun s => (lenOf s).1) 257 285 v (symL v) := by
  obtain ⟨a, b, c⟩ := down_is (fun s => (lenOf s).1) v 257 (by show (lenOf 257).1 ≤ v; exact h1) 285 (by omega)
  exact ⟨a, down_le _ _ _, b, c⟩

theorem mono_len : ∀ j, j < 29 → ∀ i, i < j + 1 → (lenOf (257 + i)).1 ≤ (lenOf (257 + j)).1 := by decide

set_option maxHeartbeats 2000000 in
theorem find_len (v : Nat) (w : World) (h1 : 3 ≤ v) (h2 : v ≤ 258) :
    Calls Tryz.prog 137 #[.int .i64 (v : Int), .int .i64 257, .int .i64 285, .func (.func 138) #[] #[]] w fun e w' => e = .returned (wordV (symL v) (v - (lenOf (symL v)).1) (lenOf (symL v)).2) ∧ Below w.heap.size w w' := by
  have HFD := hide (found_len v h1)
  obtain ⟨s, hs⟩ : ∃ s, s = symL v := ⟨_, rfl⟩
  rw [← hs] at HFD ⊢
  clear hs
  have hle : (lenOf s).1 ≤ v := (unhide HFD).le
  have e2 : ((v - (lenOf s).1 : Nat) : Int) = (v : Int) - ((lenOf s).1 : Int) := by omega
  unfold wordV
  rw [e2]
  clear e2
  obtain ⟨le, hl1⟩ : ∃ le, le = (lenOf s).1 := ⟨_, rfl⟩
  obtain ⟨ex, hl2⟩ : ∃ ex, ex = (lenOf s).2 := ⟨_, rfl⟩
  rw [← hl1] at hle ⊢
  rw [← hl2]
  have HL1 := hide hl1
  have HL2 := hide hl2
  clear hl1 hl2
  go_enter Tryz.func137, Tryz.ntmps137
  go_wp2_with fail
  generalize hw4 : World.alloc _ _ = w4
  have HB : Hid (Below w.heap.size w w4) := hide (by
    rw [← hw4]
    exact ((((Below.refl _ _).alloc (by simp) _).alloc (by simp) _).alloc (by simp; omega) _).alloc (by simp; omega) _)
  have c0 : w4.cell? ⟨w.heap.size, 0, none⟩ = some (.int .i64 (v : Int)) := by rw [← hw4]; simp only [World.cell?, heap_alloc_at, alloc_size]; (repeat (first | rw [if_pos (by omega)] | rw [if_neg (by omega)])); rfl
  have c1 : w4.cell? ⟨w.heap.size + 1, 0, none⟩ = some (.int .i64 257) := by rw [← hw4]; simp only [World.cell?, heap_alloc_at, alloc_size]; (repeat (first | rw [if_pos (by omega)] | rw [if_neg (by omega)])); rfl
  have c2 : w4.cell? ⟨w.heap.size + 1 + 1, 0, none⟩ = some (.func (.func 138) #[] #[]) := by rw [← hw4]; simp only [World.cell?, heap_alloc_at, alloc_size]; (repeat (first | rw [if_pos (by omega)] | rw [if_neg (by omega)])); rfl
  have c3 : w4.heap[w.heap.size + 1 + 1 + 1]? = some (.cells #[.int .i64 0, .int .i64 0, .int .i64 0] 141 (0, 0)) := by rw [← hw4]; simp only [heap_alloc_at, alloc_size]; rw [if_pos trivial]
  have d0 : w4.cell? ⟨w.heap.size + 1 + 1 + 1, 0, none⟩ = some (.int .i64 0) := by simp only [World.cell?, c3]; rfl
  have d1 : w4.cell? ⟨w.heap.size + 1 + 1 + 1, 1, none⟩ = some (.int .i64 0) := by simp only [World.cell?, c3]; rfl
  have d2 : w4.cell? ⟨w.heap.size + 1 + 1 + 1, 2, none⟩ = some (.int .i64 0) := by simp only [World.cell?, c3]; rfl
  have f0 : ∀ o, w4.frozen? ⟨w.heap.size + 1 + 1 + 1, o, none⟩ = false := fun o => by simp [World.frozen?, c3]
  clear hw4 c3
  have HS := hide (search_ok 29 (by omega) (testB (fun s => (lenOf s).1) 257 v) #[.pointer (some ⟨w.heap.size + 1 + 1, 0, none⟩), .pointer (some ⟨w.heap.size + 1, 0, none⟩), .pointer (some ⟨w.heap.size, 0, none⟩)] w4 (fun i hi => test_len i (by omega) v _ _ _ w4 c2 c1 c0) (fun i j hij hj h => by
    have := mono_len j hj i (by omega)
    unfold testB at h ⊢
    simp only [decide_eq_true_eq] at h ⊢
    omega))
  refine (unhide HS).mono ?_
  rintro e w5 ⟨⟨k, rfl, hk, hk1, hk2⟩, rfl⟩
  have hks : k + 257 = s + 1 := by
    have h0 : 1 ≤ k := by
      rcases Nat.eq_zero_or_pos k with e | e
      · have := hk2 0 (by omega) (by omega)
        unfold testB at this
        simp only [decide_eq_true_eq] at this
        have : (lenOf (257 + 0)).1 = 3 := by decide
        omega
      · exact e
    have hf : Found (fun s => (lenOf s).1) 257 285 v (257 + (k - 1)) := by
      refine ⟨by omega, by omega, ?_, fun t h1 h2 => ?_⟩
      · have := hk1 (k - 1) (by omega)
        unfold testB at this
        simp only [decide_eq_false_iff_not] at this
        show (lenOf (257 + (k - 1))).1 ≤ v
        omega
      · have := hk2 (t - 257) (by omega) (by omega)
        unfold testB at this
        simp only [decide_eq_true_eq] at this
        rw [show 257 + (t - 257) = t by omega] at this
        exact this
    have := hf.eq (unhide HFD)
    omega
  have e1 : (257 : Int) + (k : Int) - 1 = (s : Int) := by omega
  have hk3 : k ≤ 29 := hk
  have HLK := hide (look_lens s w5 (unhide HFD).lo (unhide HFD).hi)
  simp only at HLK
  rw [← unhide HL1, ← unhide HL2] at HLK
  clear hk hk1 hk2 hks HS HFD HL1 HL2
  go_wp2_with fail
  refine (unhide HLK).mono ?_
  rintro e w6 ⟨rfl, rfl⟩
  go_wp2_with fail
  refine bodyPost_ret (v := .agg #[.int .i64 (s : Int), .int .i64 ((v : Int) - (le : Int)), .int .i64 (ex : Int)]) ?_ rfl ⟨rfl, (((unhide HB).setCell (show w.heap.size ≤ w.heap.size + 1 + 1 + 1 by omega) _).setCell (show w.heap.size ≤ w.heap.size + 1 + 1 + 1 by omega) _).setCell (show w.heap.size ≤ w.heap.size + 1 + 1 + 1 by omega) _⟩
  rw [results_cell rfl]
  go_simp

theorem found_dist (v : Nat) (h1 : 1 ≤ v) : Found (fun s => (distOf s).1) 0 29 v (symD v) := by
  obtain ⟨a, b, c⟩ := down_is (fun s => (distOf s).1) v 0 (by show (distOf 0).1 ≤ v; exact h1) 29 (by omega)
  exact ⟨a, down_le _ _ _, b, c⟩

theorem mono_dist : ∀ j, j < 30 → ∀ i, i < j + 1 → (distOf (0 + i)).1 ≤ (distOf (0 + j)).1 := by decide

set_option maxHeartbeats 2000000 in
theorem find_dist (v : Nat) (w : World) (h1 : 1 ≤ v) (h2 : v ≤ 32768) :
    Calls Tryz.prog 137 #[.int .i64 (v : Int), .int .i64 0, .int .i64 29, .func (.func 139) #[] #[]] w fun e w' => e = .returned (wordV (symD v) (v - (distOf (symD v)).1) (distOf (symD v)).2) ∧ Below w.heap.size w w' := by
  have HFD := hide (found_dist v h1)
  obtain ⟨s, hs⟩ : ∃ s, s = symD v := ⟨_, rfl⟩
  rw [← hs] at HFD ⊢
  clear hs
  have hle : (distOf s).1 ≤ v := (unhide HFD).le
  have e2 : ((v - (distOf s).1 : Nat) : Int) = (v : Int) - ((distOf s).1 : Int) := by omega
  unfold wordV
  rw [e2]
  clear e2
  obtain ⟨le, hl1⟩ : ∃ le, le = (distOf s).1 := ⟨_, rfl⟩
  obtain ⟨ex, hl2⟩ : ∃ ex, ex = (distOf s).2 := ⟨_, rfl⟩
  rw [← hl1] at hle ⊢
  rw [← hl2]
  have HL1 := hide hl1
  have HL2 := hide hl2
  clear hl1 hl2
  go_enter Tryz.func137, Tryz.ntmps137
  go_wp2_with fail
  generalize hw4 : World.alloc _ _ = w4
  have HB : Hid (Below w.heap.size w w4) := hide (by
    rw [← hw4]
    exact ((((Below.refl _ _).alloc (by simp) _).alloc (by simp) _).alloc (by simp; omega) _).alloc (by simp; omega) _)
  have c0 : w4.cell? ⟨w.heap.size, 0, none⟩ = some (.int .i64 (v : Int)) := by rw [← hw4]; simp only [World.cell?, heap_alloc_at, alloc_size]; (repeat (first | rw [if_pos (by omega)] | rw [if_neg (by omega)])); rfl
  have c1 : w4.cell? ⟨w.heap.size + 1, 0, none⟩ = some (.int .i64 0) := by rw [← hw4]; simp only [World.cell?, heap_alloc_at, alloc_size]; (repeat (first | rw [if_pos (by omega)] | rw [if_neg (by omega)])); rfl
  have c2 : w4.cell? ⟨w.heap.size + 1 + 1, 0, none⟩ = some (.func (.func 139) #[] #[]) := by rw [← hw4]; simp only [World.cell?, heap_alloc_at, alloc_size]; (repeat (first | rw [if_pos (by omega)] | rw [if_neg (by omega)])); rfl
  have c3 : w4.heap[w.heap.size + 1 + 1 + 1]? = some (.cells #[.int .i64 0, .int .i64 0, .int .i64 0] 141 (0, 0)) := by rw [← hw4]; simp only [heap_alloc_at, alloc_size]; rw [if_pos trivial]
  have d0 : w4.cell? ⟨w.heap.size + 1 + 1 + 1, 0, none⟩ = some (.int .i64 0) := by simp only [World.cell?, c3]; rfl
  have d1 : w4.cell? ⟨w.heap.size + 1 + 1 + 1, 1, none⟩ = some (.int .i64 0) := by simp only [World.cell?, c3]; rfl
  have d2 : w4.cell? ⟨w.heap.size + 1 + 1 + 1, 2, none⟩ = some (.int .i64 0) := by simp only [World.cell?, c3]; rfl
  have f0 : ∀ o, w4.frozen? ⟨w.heap.size + 1 + 1 + 1, o, none⟩ = false := fun o => by simp [World.frozen?, c3]
  clear hw4 c3
  have HS := hide (search_ok 30 (by omega) (testB (fun s => (distOf s).1) 0 v) #[.pointer (some ⟨w.heap.size + 1 + 1, 0, none⟩), .pointer (some ⟨w.heap.size + 1, 0, none⟩), .pointer (some ⟨w.heap.size, 0, none⟩)] w4 (fun i hi => test_dist i (by omega) v _ _ _ w4 c2 c1 c0) (fun i j hij hj h => by
    have := mono_dist j hj i (by omega)
    unfold testB at h ⊢
    simp only [decide_eq_true_eq] at h ⊢
    omega))
  refine (unhide HS).mono ?_
  rintro e w5 ⟨⟨k, rfl, hk, hk1, hk2⟩, rfl⟩
  have hks : k + 0 = s + 1 := by
    have h0 : 1 ≤ k := by
      rcases Nat.eq_zero_or_pos k with e | e
      · have := hk2 0 (by omega) (by omega)
        unfold testB at this
        simp only [decide_eq_true_eq] at this
        have : (distOf (0 + 0)).1 = 1 := by decide
        omega
      · exact e
    have hf : Found (fun s => (distOf s).1) 0 29 v (0 + (k - 1)) := by
      refine ⟨by omega, by omega, ?_, fun t h1 h2 => ?_⟩
      · have := hk1 (k - 1) (by omega)
        unfold testB at this
        simp only [decide_eq_false_iff_not] at this
        show (distOf (0 + (k - 1))).1 ≤ v
        omega
      · have := hk2 (t - 0) (by omega) (by omega)
        unfold testB at this
        simp only [decide_eq_true_eq] at this
        rw [show 0 + (t - 0) = t by omega] at this
        exact this
    have := hf.eq (unhide HFD)
    omega
  have e1 : (k : Int) - 1 = (s : Int) := by omega
  have hk3 : k ≤ 30 := hk
  have HLK := hide (look_dists s w5 (unhide HFD).lo (unhide HFD).hi)
  simp only at HLK
  rw [← unhide HL1, ← unhide HL2] at HLK
  clear hk hk1 hk2 hks HS HFD HL1 HL2
  go_wp2_with fail
  refine (unhide HLK).mono ?_
  rintro e w6 ⟨rfl, rfl⟩
  go_wp2_with fail
  refine bodyPost_ret (v := .agg #[.int .i64 (s : Int), .int .i64 ((v : Int) - (le : Int)), .int .i64 (ex : Int)]) ?_ rfl ⟨rfl, (((unhide HB).setCell (show w.heap.size ≤ w.heap.size + 1 + 1 + 1 by omega) _).setCell (show w.heap.size ≤ w.heap.size + 1 + 1 + 1 by omega) _).setCell (show w.heap.size ≤ w.heap.size + 1 + 1 + 1 by omega) _⟩
  rw [results_cell rfl]
  go_simp

end Go.Proofs.YtabeanealkopbaaGreat
end

section
namespace Go.Proofs.YtabeanealkopbaaGreat
open Go.RowKit Infl
set_option maxRecDepth 100000
set_option linter.unusedVariables false



set_option maxHeartbeats 1000000 in
theorem lenWord_ok (v : Nat) (w : World) (h1 : 3 ≤ v) (h2 : v ≤ 258) :
    Calls Tryz.prog 107 #[.int .i64 (v : Int)] w fun e w' => e = .returned (wordV (symL v) (v - (lenOf (symL v)).1) (lenOf (symL v)).2) ∧ Below w.heap.size w w' := by
  have HF := hide (fun w => find_len v w h1 h2)
  generalize (v - (lenOf (symL v)).1) = m at HF ⊢
  generalize (lenOf (symL v)).2 = x at HF ⊢
  generalize symL v = s at HF ⊢
  unfold wordV at HF ⊢
  go_enter Tryz.func107, Tryz.ntmps107
  go_wp2_with fail
  obtain ⟨w1, hw1⟩ : ∃ w1, w1 = w.alloc (.cells #[.int .i64 0, .int .i64 0, .int .i64 0] 141) := ⟨_, rfl⟩
  have hs1 : w1.heap.size = w.heap.size + 1 := by rw [hw1]; simp
  have c3 : w1.heap[w.heap.size]? = some (.cells #[.int .i64 0, .int .i64 0, .int .i64 0] 141 (0, 0)) := by rw [hw1]; exact heap_alloc_new _ _
  have HB1 : Hid (Below w.heap.size w w1) := hide (by rw [hw1]; exact (Below.refl _ _).alloc (by simp) _)
  rw [← hw1]
  clear hw1
  refine (unhide HF w1).mono ?_
  rintro e w2 ⟨rfl, hb2⟩
  have c4 : w2.heap[w.heap.size]? = some (.cells #[.int .i64 0, .int .i64 0, .int .i64 0] 141 (0, 0)) := by rw [hb2.block _ (by omega)]; exact c3
  have HB2 : Hid (Below w.heap.size w w2) := hide ((unhide HB1).trans (hb2.mono (by omega)))
  have d0 : w2.cell? ⟨w.heap.size, 0, none⟩ = some (.int .i64 0) := by simp only [World.cell?, c4]; rfl
  have d1 : w2.cell? ⟨w.heap.size, 1, none⟩ = some (.int .i64 0) := by simp only [World.cell?, c4]; rfl
  have d2 : w2.cell? ⟨w.heap.size, 2, none⟩ = some (.int .i64 0) := by simp only [World.cell?, c4]; rfl
  have f0 : ∀ o, w2.frozen? ⟨w.heap.size, o, none⟩ = false := fun o => by simp [World.frozen?, c4]
  clear HF HB1 hb2 c3 c4 hs1
  go_wp2_with fail
  refine bodyPost_ret (v := .agg #[.int .i64 (s : Int), .int .i64 (m : Int), .int .i64 (x : Int)]) ?_ rfl ⟨rfl, (((unhide HB2).setCell (Nat.le_refl _) _).setCell (Nat.le_refl _) _).setCell (Nat.le_refl _) _⟩
  rw [results_cell rfl]
  go_simp

set_option maxHeartbeats 1000000 in
theorem distWord_ok (v : Nat) (w : World) (h1 : 1 ≤ v) (h2 : v ≤ 32768) :
    Calls Tryz.prog 108 #[.int .i64 (v : Int)] w fun e w' => e = .returned (wordV (symD v) (v - (distOf (symD v)).1) (distOf (symD v)).2) ∧ Below w.heap.size w w' := by
  have HF := hide (fun w => find_dist v w h1 h2)
  generalize (v - (distOf (symD v)).1) = m at HF ⊢
  generalize (distOf (symD v)).2 = x at HF ⊢
  generalize symD v = s at HF ⊢
  unfold wordV at HF ⊢
  go_enter Tryz.func108, Tryz.ntmps108
  go_wp2_with fail
  obtain ⟨w1, hw1⟩ : ∃ w1, w1 = w.alloc (.cells #[.int .i64 0, .int .i64 0, .int .i64 0] 141) := ⟨_, rfl⟩
  have hs1 : w1.heap.size = w.heap.size + 1 := by rw [hw1]; simp
  have c3 : w1.heap[w.heap.size]? = some (.cells #[.int .i64 0, .int .i64 0, .int .i64 0] 141 (0, 0)) := by rw [hw1]; exact heap_alloc_new _ _
  have HB1 : Hid (Below w.heap.size w w1) := hide (by rw [hw1]; exact (Below.refl _ _).alloc (by simp) _)
  rw [← hw1]
  clear hw1
  refine (unhide HF w1).mono ?_
  rintro e w2 ⟨rfl, hb2⟩
  have c4 : w2.heap[w.heap.size]? = some (.cells #[.int .i64 0, .int .i64 0, .int .i64 0] 141 (0, 0)) := by rw [hb2.block _ (by omega)]; exact c3
  have HB2 : Hid (Below w.heap.size w w2) := hide ((unhide HB1).trans (hb2.mono (by omega)))
  have d0 : w2.cell? ⟨w.heap.size, 0, none⟩ = some (.int .i64 0) := by simp only [World.cell?, c4]; rfl
  have d1 : w2.cell? ⟨w.heap.size, 1, none⟩ = some (.int .i64 0) := by simp only [World.cell?, c4]; rfl
  have d2 : w2.cell? ⟨w.heap.size, 2, none⟩ = some (.int .i64 0) := by simp only [World.cell?, c4]; rfl
  have f0 : ∀ o, w2.frozen? ⟨w.heap.size, o, none⟩ = false := fun o => by simp [World.frozen?, c4]
  clear HF HB1 hb2 c3 c4 hs1
  go_wp2_with fail
  refine bodyPost_ret (v := .agg #[.int .i64 (s : Int), .int .i64 (m : Int), .int .i64 (x : Int)]) ?_ rfl ⟨rfl, (((unhide HB2).setCell (Nat.le_refl _) _).setCell (Nat.le_refl _) _).setCell (Nat.le_refl _) _⟩
  rw [results_cell rfl]
  go_simp

end Go.Proofs.YtabeanealkopbaaGreat
end

section
namespace Go.Proofs.YtabeanealkopbaaGreat.W4
open Go.RowKit Mth Infl Defl
set_option maxRecDepth 100000
set_option linter.unusedVariables false
attribute [local go_sem ↓] Go.wp_at_zero Go.wp_at_succ

set_option maxHeartbeats 2000000 in
theorem mul64_ok (w : World) : Calls Tryz.prog 94 #[.int .u64 1, .int .u64 32] w fun e w' => e = .returned (.tuple #[.int .u64 0, .int .u64 32]) ∧ w' = w := by
  go_enter Tryz.func94, Tryz.ntmps94
  go_wp2_with fail
  go_ret2
  exact ⟨rfl, rfl⟩

set_option maxHeartbeats 2000000 in
theorem mul_ok (w : World) : Calls Tryz.prog 61 #[.int .u64 1, .int .u64 32] w fun e w' => e = .returned (.tuple #[.int .u64 0, .int .u64 32]) ∧ w' = w := by
  have H := hide (mul64_ok w)
  go_enter Tryz.func61, Tryz.ntmps61
  go_wp2_with fail
  refine (unhide H).mono ?_
  rintro e w' ⟨rfl, rfl⟩
  go_wp2_with fail
  go_ret2
  exact ⟨rfl, rfl⟩

/-- so many fives, and noughts -/
def fv (n : Nat) : List Value := List.replicate n (.int .i64 5) ++ List.replicate (32 - n) (.int .i64 0)

theorem size3' : (Tryz.prog.info? 3).map (·.size) = some 1 := by kernel_rfl

set_option maxHeartbeats 2000000 in
theorem repeat_ok (g0 : Nat) (w : World) (h0 : w.heap[g0]? = some (.cells #[.int .i64 5] 3 (0, 0))) :
    Calls Tryz.prog 28 #[.slice (some ⟨g0, 0, none⟩) 1 1, .int .i64 32] w fun e w' => e = .returned (.slice (some ⟨w.heap.size, 0, none⟩) 32 32) ∧ IntsAt w' .i64 3 w.heap.size 32 (fun _ => 5) ∧ Below w.heap.size w w' := by
  have HM := hide (mul_ok w)
  have hmk : ∀ w, (Instr.makeSlice 45 (.int .i64 32) (.int .i64 32)).run Tryz.prog w = .ok (.slice (some ⟨w.heap.size, 0, none⟩) 32 32) (w.alloc (.cells (icells .i64 32 (fun _ => 0)) 3)) := fun w => ints_made w 32 (by decide)
  have H0 := hide h0
  clear h0
  go_enter Tryz.func28, Tryz.ntmps28
  go_wp2_with fail
  refine (unhide HM).mono ?_
  rintro e w' ⟨rfl, rfl⟩
  have HZ : Hid ((w'.alloc (.cells (icells .i64 32 (fun _ => 0)) 3)).heap[w'.heap.size]? = some (.cells (List.replicate 32 (Value.int .i64 0)).toArray 3 (0, 0))) := hide (by rw [heap_alloc_new]; rfl)
  have HSRC : Hid (∀ (j : Nat) v, [Value.int .i64 5][j]? = some v → (w'.alloc (.cells (icells .i64 32 (fun _ => 0)) 3)).cell? ((⟨g0, 0, none⟩ : Addr).add j) = some v) := hide (fun j v hj => by
    have hg := heap_lt (unhide H0)
    have ea : (⟨g0, 0, none⟩ : Addr).add j = ⟨g0, j, none⟩ := by by_cases hq : j = 0 <;> simp [Addr.add, hq]
    rw [ea]
    simp only [World.cell?, Below.heap_alloc _ _ _ hg, unhide H0]
    simpa using hj)
  have HBL : Hid (Below w'.heap.size w' (w'.alloc (.cells (icells .i64 32 (fun _ => 0)) 3))) := hide ((Below.refl _ _).alloc (Nat.le_refl _) _)
  go_wp2_with (first | (refine wpList_copy_splice rfl (.tmp 31) (.tmp 32) 45 45 rfl 3 Tryz.underlying45 size3' _ _ _ _ _ _ (by rfl) (by rfl) w'.heap.size 0 _ 3 (unhide HZ) [.int .i64 5] rfl (fun _ => ⟨rfl, _, rfl, unhide HSRC⟩) (by simp) (by intro v hv; simp at hv; subst hv; rfl) w'.heap.size w' (unhide HBL) (Nat.le_refl _) ?_; intro w2 h2 hb2; have H2 : Hid (w2.heap[w'.heap.size]? = some (.cells (fv 1).toArray 3 (0, 0))) := hide (by rw [unhide h2]; rfl); have HB2 := hide hb2; clear h2 hb2))
  obtain ⟨g, hg⟩ : ∃ g, g = w'.heap.size := ⟨_, rfl⟩
  have HG := hide hg
  rw [← hg] at H2 ⊢
  clear HM HZ HSRC HBL hmk hg
  go_loopg [8] 31 (fun gk nv ws => ∃ n : Nat, gk = 32 - n ∧ nv = .int .i64 (n : Int) ∧ (n = 32 ∨ 1 ≤ n ∧ n ≤ 16) ∧ Hid (n = 1 ∨ n = 2 ∨ n = 4 ∨ n = 8 ∨ n = 16 ∨ n = 32) ∧ Hid (ws.heap[g]? = some (.cells (fv n).toArray 3 (0, 0))) ∧ Hid (Below w'.heap.size w' ws))
  case atStart => exact ⟨1, by omega, rfl, .inr ⟨by omega, by omega⟩, hide (.inl rfl), H2, HB2⟩
  case round =>
    obtain ⟨n, rfl, rfl, hn, hn6, hrow, hbel⟩ := hrel
    clear H2 HB2
    rcases hn with rfl | ⟨hn1, hn2⟩
    · go_wp2_with fail
      go_ret
      refine ⟨by rw [unhide HG]; rfl, ?_, unhide hbel⟩
      rw [← unhide HG]
      unfold IntsAt
      rw [unhide hrow]
      rfl
    · have HNEXT : Hid (splice (fv n) n (List.replicate n (Value.int .i64 5)) = fv (n + n)) := hide (by
        rcases unhide hn6 with rfl | rfl | rfl | rfl | rfl | rfl <;> first | rfl | omega)
      have HSR : Hid (∀ q (j : Nat) v, (List.replicate n (Value.int .i64 5))[j]? = some v → (wr.drewN q).cell? ((⟨g, 0, none⟩ : Addr).add j) = some v) := hide (fun q j v hj => by
        have ea : (⟨g, 0, none⟩ : Addr).add j = ⟨g, j, none⟩ := by by_cases hq : j = 0 <;> simp [Addr.add, hq]
        rw [ea]
        have hjn : j < n := by
          rcases Nat.lt_or_ge j n with h | h
          · exact h
          · rw [List.getElem?_eq_none (by simp; omega)] at hj; cases hj
        show wr.cell? ⟨g, j, none⟩ = some v
        simp only [World.cell?, unhide hrow]
        unfold fv
        simp only [List.getElem?_toArray]
        rw [List.getElem?_append_left (by simpa using hjn)]
        exact hj)
      have hcp : (Builtin.copy_ #[45, 45] 3 #[.slice (some ⟨g, n, none⟩) (32 - n) (32 - n), .slice (some ⟨g, 0, none⟩) n 32]).run Tryz.prog wr.drew = .ok (.int .i64 (n : Int)) (wr.drew.setRow g (fv (n + n)).toArray) := by
        have h := run_copy_row (P := Tryz.prog) wr.drew 45 45 3 3 g n (32 - n) (32 - n) ⟨g, 0, none⟩ n 32 (fv n).toArray 3 (List.replicate n (.int .i64 5)) Tryz.underlying45 size3' (unhide hrow) (by rw [List.length_replicate]; exact (Nat.min_eq_left (by omega)).symm) (unhide HSR 1) (by simp [fv]; omega) (by intro v hv; rw [List.mem_replicate] at hv; rw [hv.2]; rfl)
        have e := unhide HNEXT
        unfold splice at e
        simp only [List.length_replicate] at h e
        refine h.trans ?_
        rw [← e, List.append_assoc]
        rfl
      have e1 : (n : Int) < 32 := by omega
      have e2 : ¬ 32 = n := by omega
      have e3 : (n : Int) ≤ 32 := by omega
      have e4 : ((n + n : Nat) : Int) = (n : Int) + (n : Int) := by omega
      have e5 : IntKind.i64.wrap ((n : Int) + (n : Int)) = (n : Int) + (n : Int) := IntWalk.i64_in _ (by omega)
      have HN6 := hn6
      clear HSR HNEXT hn6
      go_wp2_with fail
      refine wp_region_noPanic ?_
      refine wp_region_held_drew (S := fun _ => True) (by kernel_rfl) True.intro (fun hHeld => ?_)
      refine held_take 0 38 rfl rfl (by kernel_rfl) (by kernel_rfl) (by kernel_rfl) (by rfl) hHeld noPanic_panic (v := ?_) (fun x hSx => ?_) ?_
      rotate_left 1
      · go_simp <;> with_reducible rfl
      simp only [List.set_cons_zero, List.set_cons_succ]
      refine held_take 1 39 rfl rfl (by kernel_rfl) (by kernel_rfl) (by kernel_rfl) (by rfl) hHeld noPanic_panic (v := ?_) (fun x hSx => ?_) ?_
      rotate_left 1
      · go_simp <;> with_reducible rfl
      simp only [List.set_cons_zero, List.set_cons_succ]
      refine held_take 2 40 rfl rfl (by kernel_rfl) (by kernel_rfl) (by kernel_rfl) (by rfl) hHeld noPanic_panic (v := ?_) (fun x hSx => ?_) ?_
      rotate_left 1
      · go_simp <;> with_reducible rfl
      simp only [List.set_cons_zero, List.set_cons_succ]
      refine held_take 3 41 rfl rfl (by kernel_rfl) (by kernel_rfl) (by kernel_rfl) (by rfl) hHeld noPanic_panic (v := ?_) (fun x hSx => ?_) ?_
      rotate_left 1
      · go_simp <;> with_reducible rfl
      simp only [List.set_cons_zero, List.set_cons_succ]
      refine held_take 4 42 rfl rfl (by kernel_rfl) (by kernel_rfl) (by kernel_rfl) (by rfl) hHeld noPanic_panic (v := ?_) (fun x hSx => ?_) ?_
      rotate_left 1
      · go_simp <;> with_reducible rfl
      simp only [List.set_cons_zero, List.set_cons_succ]
      refine held_take 5 43 rfl rfl (by kernel_rfl) (by kernel_rfl) (by kernel_rfl) (by rfl) hHeld noPanic_panic (v := ?_) (fun x hSx => ?_) ?_
      rotate_left 1
      · go_simp <;> with_reducible rfl
      simp only [List.set_cons_zero, List.set_cons_succ]
      refine held_take 6 44 rfl rfl (by kernel_rfl) (by kernel_rfl) (by kernel_rfl) (by rfl) hHeld noPanic_panic (v := ?_) (fun x hSx => ?_) ?_
      rotate_left 1
      · go_simp <;> with_reducible rfl
      simp only [List.set_cons_zero, List.set_cons_succ]
      refine held_one 7 45 (by kernel_rfl) rfl rfl (by rfl) (v := .int .i64 (n : Int)) (w' := wr.drew.setRow g (fv (n + n)).toArray) ?_ True.intro ?_
      · go_simp <;> with_reducible rfl
      simp only [List.set_cons_zero, List.set_cons_succ]
      refine held_one 8 46 (by kernel_rfl) rfl rfl (by rfl) (v := .int .i64 ((n + n : Nat) : Int)) (w' := wr.drew.setRow g (fv (n + n)).toArray) ?_ True.intro ?_
      · go_simp <;> with_reducible rfl
      simp only [List.set_cons_zero, List.set_cons_succ]
      refine held_one 9 8 (by kernel_rfl) rfl rfl (by rfl) (v := .int .i64 ((n + n : Nat) : Int)) (w' := wr.drew.setRow g (fv (n + n)).toArray) ?_ True.intro ?_
      · go_simp <;> with_reducible rfl
      simp only [List.set_cons_zero, List.set_cons_succ]
      refine wpAnyH_done (by kernel_rfl) ?_ _
      refine NoPanic.normal ?_
      have HR2 : Hid ((wr.drew.setRow g (fv (n + n)).toArray).heap[g]? = some (.cells (fv (n + n)).toArray 3 (0, 0))) := hide (setRow_heap wr.drew g _ _ 3 _ (unhide hrow))
      have HB2 : Hid (Below w'.heap.size w' (wr.drew.setRow g (fv (n + n)).toArray)) := hide (below_setRow (below_drewN (unhide hbel) 1) (by have := unhide HG; omega) _)
      go_wp2_with fail
      go_roundg (32 - (n + n))
      case measure => omega
      case rel => exact ⟨n + n, rfl, rfl, (by have := unhide HN6; omega), hide (by have := unhide HN6; omega), HR2, HB2⟩

/-- two codes in memory, the blocks of each between bounds -/
structure TwoCodes (l1 l2 : List Nat) (w : World) (c1 c2 lo hi : Nat) : Prop where
  a : ∃ x y, Code l1 w c1 x y ∧ lo ≤ x ∧ y ≤ hi
  b : ∃ x y, Code l2 w c2 x y ∧ lo ≤ x ∧ y ≤ hi

theorem TwoCodes.keep {l1 l2 : List Nat} {w w' : World} {c1 c2 lo hi : Nat} (h : TwoCodes l1 l2 w c1 c2 lo hi) (hk : ∀ k, lo ≤ k → k < hi → w'.heap[k]? = w.heap[k]?) : TwoCodes l1 l2 w' c1 c2 lo hi := by
  obtain ⟨⟨x, y, h1, h2, h3⟩, ⟨x', y', h1', h2', h3'⟩⟩ := h
  exact ⟨⟨x, y, h1.keep fun k hk1 hk2 => hk k (by omega) (by omega), h2, h3⟩, ⟨x', y', h1'.keep fun k hk1 hk2 => hk k (by omega) (by omega), h2', h3'⟩⟩

set_option maxHeartbeats 2000000 in
theorem newCodes_ok (l1 l2 : List Nat) (v1 v2 : Value) (w : World) (h1 : ReadsN w v1 l1) (h2 : ReadsN w v2 l2) (hn1 : 1 ≤ l1.length ∧ l1.length ≤ 65536) (hn2 : 1 ≤ l2.length ∧ l2.length ≤ 65536) (hl1 : ∀ l ∈ l1, l ≤ 15) (hl2 : ∀ l ∈ l2, l ≤ 15) (ho1 : okSum l1 true) (ho2 : okSum l2 true) :
    Calls Tryz.prog 26 #[v1, v2] w fun e w' => ∃ c1 c2, e = .returned (.agg #[.pointer (some ⟨c1, 0, none⟩), .pointer (some ⟨c2, 0, none⟩)]) ∧ TwoCodes l1 l2 w' c1 c2 w.heap.size w'.heap.size ∧ Below w.heap.size w w' := by
  have HN1 : Hid (∀ W, Below w.heap.size w W → Calls Tryz.prog 60 #[v1, .int .i64 15, .bool true] W fun e w' => ∃ cp, e = .returned (.tuple #[.pointer (some ⟨cp, 0, none⟩), .int .i64 0]) ∧ Code l1 w' cp W.heap.size w'.heap.size ∧ Below W.heap.size W w') := hide (fun W hb => by
    refine (rnew l1 15 true v1 W (h1.stays hb) (by decide) hn1 hl1).mono ?_
    rintro e w' ⟨hb, h | ⟨_, cp, h3, h4⟩⟩
    · rw [ce_of ho1] at h; cases h.1
    · exact ⟨cp, h3, h4, hb⟩)
  have HN2 : Hid (∀ W, Below w.heap.size w W → Calls Tryz.prog 60 #[v2, .int .i64 15, .bool true] W fun e w' => ∃ cp, e = .returned (.tuple #[.pointer (some ⟨cp, 0, none⟩), .int .i64 0]) ∧ Code l2 w' cp W.heap.size w'.heap.size ∧ Below W.heap.size W w') := hide (fun W hb => by
    refine (rnew l2 15 true v2 W (h2.stays hb) (by decide) hn2 hl2).mono ?_
    rintro e w' ⟨hb, h | ⟨_, cp, h3, h4⟩⟩
    · rw [ce_of ho2] at h; cases h.1
    · exact ⟨cp, h3, h4, hb⟩)
  clear h1 h2 hn1 hn2 hl1 hl2 ho1 ho2
  go_enter Tryz.func26, Tryz.ntmps26
  go_wp2_with fail
  obtain ⟨W1, hW1⟩ : ∃ W1, W1 = w.alloc (.cells #[.pointer none, .pointer none] 39) := ⟨_, rfl⟩
  have HB1 : Hid (Below w.heap.size w W1) := hide (by rw [hW1]; exact (Below.refl _ _).alloc (Nat.le_refl _) _)
  have HX1 : Hid (W1.heap[w.heap.size]? = some (.cells #[.pointer none, .pointer none] 39 (0, 0))) := hide (by rw [hW1]; exact heap_alloc_new _ _)
  have hs1 : W1.heap.size = w.heap.size + 1 := by rw [hW1]; simp
  rw [← hW1]
  clear hW1
  refine (unhide HN1 W1 (unhide HB1)).mono ?_
  rintro e W2 ⟨c1, rfl, q1, b1⟩
  have x2 : W2.heap[w.heap.size]? = some (.cells #[.pointer none, .pointer none] 39 (0, 0)) := by rw [b1.block _ (by omega)]; exact unhide HX1
  have d0 : W2.cell? ⟨w.heap.size, 0, none⟩ = some (.pointer none) := by simp [World.cell?, x2]
  have d1 : W2.cell? ⟨w.heap.size, 1, none⟩ = some (.pointer none) := by simp [World.cell?, x2]
  have f0 : ∀ o, W2.frozen? ⟨w.heap.size, o, none⟩ = false := fun o => by simp [World.frozen?, x2]
  have hs2 := b1.size
  have HC1 : Hid (Code l1 W2 c1 W1.heap.size W2.heap.size) := hide q1
  have HB2 : Hid (Below w.heap.size w (W2.setCell ⟨w.heap.size, 0, none⟩ (.pointer (some ⟨c1, 0, none⟩)))) := hide (((unhide HB1).trans (b1.mono (by omega))).setCell (Nat.le_refl _) _)
  have HX2 : Hid ((W2.setCell ⟨w.heap.size, 0, none⟩ (.pointer (some ⟨c1, 0, none⟩))).heap[w.heap.size]? = some (.cells #[.pointer (some ⟨c1, 0, none⟩), .pointer none] 39 (0, 0))) := hide (by rw [heap_setCell_same _ _ 0 _ _ _ x2]; rfl)
  have HC2 : Hid (Code l1 (W2.setCell ⟨w.heap.size, 0, none⟩ (.pointer (some ⟨c1, 0, none⟩))) c1 W1.heap.size W2.heap.size) := hide (q1.keep fun k h1 h2 => heap_setCell_other _ _ _ _ (by show k ≠ w.heap.size; omega))
  have HS3 : Hid ((W2.setCell ⟨w.heap.size, 0, none⟩ (.pointer (some ⟨c1, 0, none⟩))).heap.size = W2.heap.size) := hide (by simp)
  clear q1 b1 HC1
  go_wp2_with fail
  generalize W2.setCell ⟨w.heap.size, 0, none⟩ (.pointer (some ⟨c1, 0, none⟩)) = W3 at HB2 HX2 HC2 HS3 ⊢
  refine (unhide HN2 W3 (unhide HB2)).mono ?_
  rintro e W4 ⟨c2, rfl, q2, b2⟩
  have x4 : W4.heap[w.heap.size]? = some (.cells #[.pointer (some ⟨c1, 0, none⟩), .pointer none] 39 (0, 0)) := by rw [b2.block _ (by have := unhide HS3; omega)]; exact unhide HX2
  have g0 : W4.cell? ⟨w.heap.size, 0, none⟩ = some (.pointer (some ⟨c1, 0, none⟩)) := by simp [World.cell?, x4]
  have g1 : W4.cell? ⟨w.heap.size, 1, none⟩ = some (.pointer none) := by simp [World.cell?, x4]
  have f1 : ∀ o, W4.frozen? ⟨w.heap.size, o, none⟩ = false := fun o => by simp [World.frozen?, x4]
  have hs4 := b2.size
  have hs3 := unhide HS3
  have HK : Hid (∀ k, k ≠ w.heap.size → (((W4.setCell ⟨w.heap.size, 1, none⟩ (.pointer (some ⟨c2, 0, none⟩))).setCell ⟨w.heap.size, 0, none⟩ (.pointer (some ⟨c1, 0, none⟩))).setCell ⟨w.heap.size, 1, none⟩ (.pointer (some ⟨c2, 0, none⟩))).heap[k]? = W4.heap[k]?) := hide (fun k hk => by rw [heap_setCell_other _ _ _ _ (by exact hk), heap_setCell_other _ _ _ _ (by exact hk), heap_setCell_other _ _ _ _ (by exact hk)])
  have HT : Hid (TwoCodes l1 l2 (((W4.setCell ⟨w.heap.size, 1, none⟩ (.pointer (some ⟨c2, 0, none⟩))).setCell ⟨w.heap.size, 0, none⟩ (.pointer (some ⟨c1, 0, none⟩))).setCell ⟨w.heap.size, 1, none⟩ (.pointer (some ⟨c2, 0, none⟩))) c1 c2 w.heap.size (((W4.setCell ⟨w.heap.size, 1, none⟩ (.pointer (some ⟨c2, 0, none⟩))).setCell ⟨w.heap.size, 0, none⟩ (.pointer (some ⟨c1, 0, none⟩))).setCell ⟨w.heap.size, 1, none⟩ (.pointer (some ⟨c2, 0, none⟩))).heap.size) := hide (by
    refine ⟨⟨W1.heap.size, W2.heap.size, ?_, by omega, by simp; omega⟩, ⟨W3.heap.size, W4.heap.size, ?_, by omega, by simp⟩⟩
    · refine ((unhide HC2).keep fun k h1 h2 => b2.block k (by omega)).keep fun k h1 h2 => unhide HK k (by omega)
    · exact q2.keep fun k h1 h2 => unhide HK k (by omega))
  have HB4 : Hid (Below w.heap.size w (((W4.setCell ⟨w.heap.size, 1, none⟩ (.pointer (some ⟨c2, 0, none⟩))).setCell ⟨w.heap.size, 0, none⟩ (.pointer (some ⟨c1, 0, none⟩))).setCell ⟨w.heap.size, 1, none⟩ (.pointer (some ⟨c2, 0, none⟩)))) := hide (((((unhide HB2).trans (b2.mono (by omega))).setCell (Nat.le_refl _) _).setCell (Nat.le_refl _) _).setCell (Nat.le_refl _) _)
  clear q2 b2 HC2 HX2 HB2 d0 d1 f0 x2 x4
  go_wp2_with fail
  refine bodyPost_ret (v := .agg #[.pointer (some ⟨c1, 0, none⟩), .pointer (some ⟨c2, 0, none⟩)]) ?_ rfl ⟨c1, c2, rfl, unhide HT, unhide HB4⟩
  rw [results_cell rfl]
  go_simp

theorem fixedL_ok : okSum fixedL true ∧ okSum fixedD true := ⟨.inl fixedL_full, .inl fixedD_full⟩

set_option maxHeartbeats 2000000 in
theorem fixedCodes_gen (l1 l2 : List Nat) (w : World) (h1 : Hid (l1 = fixedL)) (h2 : Hid (l2 = fixedD)) :
    Calls Tryz.prog 11 #[] w fun e w' => ∃ c1 c2, e = .returned (.agg #[.pointer (some ⟨c1, 0, none⟩), .pointer (some ⟨c2, 0, none⟩)]) ∧ TwoCodes l1 l2 w' c1 c2 w.heap.size w'.heap.size ∧ Below w.heap.size w w' := by
  go_enter Tryz.func11, Tryz.ntmps11
  go_wp2_with fail
  obtain ⟨W1, hW1⟩ : ∃ W1, W1 = w.alloc (.cells #[.pointer none, .pointer none] 39) := ⟨_, rfl⟩
  have HB1 : Hid (Below w.heap.size w W1) := hide (by rw [hW1]; exact (Below.refl _ _).alloc (Nat.le_refl _) _)
  have x1 : W1.heap[w.heap.size]? = some (.cells #[.pointer none, .pointer none] 39 (0, 0)) := by rw [hW1]; exact heap_alloc_new _ _
  have hs1 : w.heap.size < W1.heap.size := by rw [hW1]; simp
  rw [← hW1]
  clear hW1
  refine (fixed_ok W1).mono ?_
  rintro e W2 ⟨rfl, a2, b2⟩
  have HR2 : Hid (ReadsN W2 (.slice (some ⟨W1.heap.size, 0, none⟩) 288 288) l1) := hide (by rw [unhide h1]; exact ints_reads a2 fixedL fixedL_is)
  have x2 : W2.heap[w.heap.size]? = some (.cells #[.pointer none, .pointer none] 39 (0, 0)) := by rw [b2.block _ (by omega)]; exact x1
  have HB2 : Hid (Below w.heap.size w W2) := hide ((unhide HB1).trans (b2.mono (by omega)))
  have hs2 := b2.size
  clear a2 b2 HB1 x1
  go_wp2_with fail
  obtain ⟨W3, hW3⟩ : ∃ W3, W3 = W2.alloc (.cells #[.int .i64 5] 3) := ⟨_, rfl⟩
  have hs3 : W2.heap.size < W3.heap.size := by rw [hW3]; simp
  have x3 : W3.heap[w.heap.size]? = some (.cells #[.pointer none, .pointer none] 39 (0, 0)) := by rw [hW3, Below.heap_alloc _ _ _ (by omega)]; exact x2
  have y3 : W3.heap[W2.heap.size]? = some (.cells #[.int .i64 5] 3 (0, 0)) := by rw [hW3]; exact heap_alloc_new _ _
  have HB23 : Hid (Below W2.heap.size W2 W3) := hide (by rw [hW3]; exact (Below.refl _ _).alloc (Nat.le_refl _) _)
  rw [← hW3]
  clear hW3 x2
  refine (repeat_ok W2.heap.size W3 y3).mono ?_
  rintro e W4 ⟨rfl, a4, b4⟩
  have HR4 : Hid (ReadsN W4 (.slice (some ⟨W3.heap.size, 0, none⟩) 32 32) l2) := hide (by rw [unhide h2]; exact ints_reads a4 fixedD (by decide))
  have HR4b : Hid (ReadsN W4 (.slice (some ⟨W1.heap.size, 0, none⟩) 288 288) l1) := hide (((unhide HR2).stays (unhide HB23)).stays b4)
  have x4 : W4.heap[w.heap.size]? = some (.cells #[.pointer none, .pointer none] 39 (0, 0)) := by rw [b4.block _ (by omega)]; exact x3
  have HB4 : Hid (Below w.heap.size w W4) := hide (((unhide HB2).trans ((unhide HB23).mono (unhide HB2).size)).trans (b4.mono (by omega)))
  have hs4 := b4.size
  clear a4 b4 HB2 HB23 HR2 x3 y3
  have HNC := hide (newCodes_ok l1 l2 _ _ W4 (unhide HR4b) (unhide HR4) (by rw [unhide h1, fixedL_len]; decide) (by rw [unhide h2, fixedD_len]; decide) (by rw [unhide h1]; exact fixedL_le) (by rw [unhide h2]; exact fixedD_le) (by rw [unhide h1]; exact fixedL_ok.1) (by rw [unhide h2]; exact fixedL_ok.2))
  go_wp2_with fail
  refine (unhide HNC).mono ?_
  rintro e W5 ⟨c1, c2, rfl, t5, b5⟩
  have x5 : W5.heap[w.heap.size]? = some (.cells #[.pointer none, .pointer none] 39 (0, 0)) := by rw [b5.block _ (by omega)]; exact x4
  have g0 : W5.cell? ⟨w.heap.size, 0, none⟩ = some (.pointer none) := by simp [World.cell?, x5]
  have g1 : W5.cell? ⟨w.heap.size, 1, none⟩ = some (.pointer none) := by simp [World.cell?, x5]
  have f1 : ∀ o, W5.frozen? ⟨w.heap.size, o, none⟩ = false := fun o => by simp [World.frozen?, x5]
  have hs5 := b5.size
  have HT : Hid (TwoCodes l1 l2 ((W5.setCell ⟨w.heap.size, 0, none⟩ (.pointer (some ⟨c1, 0, none⟩))).setCell ⟨w.heap.size, 1, none⟩ (.pointer (some ⟨c2, 0, none⟩))) c1 c2 w.heap.size ((W5.setCell ⟨w.heap.size, 0, none⟩ (.pointer (some ⟨c1, 0, none⟩))).setCell ⟨w.heap.size, 1, none⟩ (.pointer (some ⟨c2, 0, none⟩))).heap.size) := hide (by
    have t6 := t5.keep (w' := (W5.setCell ⟨w.heap.size, 0, none⟩ (.pointer (some ⟨c1, 0, none⟩))).setCell ⟨w.heap.size, 1, none⟩ (.pointer (some ⟨c2, 0, none⟩))) (fun k h1 h2 => by rw [heap_setCell_other _ _ _ _ (by show k ≠ w.heap.size; omega), heap_setCell_other _ _ _ _ (by show k ≠ w.heap.size; omega)])
    obtain ⟨⟨x, y, q1, q2, q3⟩, ⟨x', y', q1', q2', q3'⟩⟩ := t6
    exact ⟨⟨x, y, q1, by omega, by simpa using q3⟩, ⟨x', y', q1', by omega, by simpa using q3'⟩⟩)
  have HB6 : Hid (Below w.heap.size w ((W5.setCell ⟨w.heap.size, 0, none⟩ (.pointer (some ⟨c1, 0, none⟩))).setCell ⟨w.heap.size, 1, none⟩ (.pointer (some ⟨c2, 0, none⟩)))) := hide ((((unhide HB4).trans (b5.mono (by omega))).setCell (Nat.le_refl _) _).setCell (Nat.le_refl _) _)
  clear t5 b5 x5 x4 HB4 HR4 HR4b HNC
  go_wp2_with fail
  refine bodyPost_ret (v := .agg #[.pointer (some ⟨c1, 0, none⟩), .pointer (some ⟨c2, 0, none⟩)]) ?_ rfl ⟨c1, c2, rfl, unhide HT, unhide HB6⟩
  rw [results_cell rfl]
  go_simp

theorem fixedCodes_ok (w : World) :
    Calls Tryz.prog 11 #[] w fun e w' => ∃ c1 c2, e = .returned (.agg #[.pointer (some ⟨c1, 0, none⟩), .pointer (some ⟨c2, 0, none⟩)]) ∧ TwoCodes fixedL fixedD w' c1 c2 w.heap.size w'.heap.size ∧ Below w.heap.size w w' :=
  fixedCodes_gen fixedL fixedD w (hide rfl) (hide rfl)

end Go.Proofs.YtabeanealkopbaaGreat.W4
end

section
namespace Go.Proofs.YtabeanealkopbaaGreat.W4
open Go.RowKit Mth Infl Defl
set_option maxRecDepth 100000
set_option linter.unusedVariables false
attribute [local go_sem ↓] Go.wp_at_zero Go.wp_at_succ

/-- the three ways -/
def wayCells : Array Value := #[.func (.func 20) #[] #[], .func (.func 21) #[] #[], .func (.func 22) #[] #[], .func (.func 23) #[] #[], .func (.func 24) #[] #[], .func (.func 25) #[] #[]]

/-- the ways of a kind -/
def wayV (g kind : Nat) : Value := if kind = 0 then .slice (some ⟨g, 0, none⟩) 3 3 else .slice (some ⟨g, (kind - 1) * 2, none⟩) 1 (4 - kind)

set_option maxHeartbeats 2000000 in
theorem waysOf_ok (kind : Nat) (w : World) (hk : kind ≤ 3) :
    Calls Tryz.prog 10 #[.int .i64 (kind : Int)] w fun e w' => e = .returned (wayV w.heap.size kind) ∧ w' = w.alloc (.cells wayCells 59) := by
  unfold wayV wayCells
  have hc : kind = 0 ∨ kind = 1 ∨ kind = 2 ∨ kind = 3 := by omega
  rcases hc with rfl | rfl | rfl | rfl
  all_goals
    go_enter Tryz.func10, Tryz.ntmps10
    go_wp2_with fail
    go_ret
    exact ⟨rfl, rfl⟩

/-- a packing in memory -/
def PackAt (w : World) (pp pb kind gw c1 c2 : Nat) : Prop := w.heap[pp]? = some (.cells #[.pointer (some ⟨pb, 0, none⟩), .int .i64 (kind : Int), wayV gw kind, .pointer (some ⟨c1, 0, none⟩), .pointer (some ⟨c2, 0, none⟩)] 42 (0, 0)) ∧ w.heap[gw]? = some (.cells wayCells 59 (0, 0))

end Go.Proofs.YtabeanealkopbaaGreat.W4
end

section
namespace Go.Proofs.YtabeanealkopbaaGreat.W4
open Go.RowKit Mth Infl Defl
set_option maxRecDepth 100000
set_option linter.unusedVariables false
attribute [local go_sem ↓] Go.wp_at_zero Go.wp_at_succ

theorem Safe.step {x x' : World} {v0 v : Value} {pb k : Nat} (h : Safe x v0 pb k) (hc : Chg pb v0 x v x') : Safe x' v pb k := by
  refine ⟨Nat.lt_of_lt_of_le h.1 hc.size, h.2.1, fun e => ?_⟩
  rcases hc.lies with e' | ⟨g, e', hg⟩
  · rw [e'] at e; exact h.2.2 e
  · rw [e'] at e; injection e with e; have := h.1; omega

/-- what a packing stands on, in memory -/
structure Env (w x : World) (kind pp pb gw c1 c2 lo hi : Nat) (v0 : Value) : Prop where
  pack : PackAt x pp pb kind gw c1 c2
  bel : Below w.heap.size w x
  wpb : w.heap.size ≤ pb
  spp : Safe x v0 pb pp
  sgw : Safe x v0 pb gw
  codes : TwoCodes fixedL fixedD x c1 c2 lo hi
  shi : ∀ k, lo ≤ k → k < hi → Safe x v0 pb k
  row : ∀ g, v0.ownBlock = some g → w.heap.size ≤ g

theorem Env.step {w x x' : World} {kind pp pb gw c1 c2 lo hi : Nat} {v0 v : Value} (h : Env w x kind pp pb gw c1 c2 lo hi v0) (hc : Chg pb v0 x v x') : Env w x' kind pp pb gw c1 c2 lo hi v where
  pack := ⟨by rw [hc.keep pp h.spp.1 h.spp.2.1 h.spp.2.2]; exact h.pack.1, by rw [hc.keep gw h.sgw.1 h.sgw.2.1 h.sgw.2.2]; exact h.pack.2⟩
  bel := h.bel.trans ⟨hc.os, hc.tape, hc.output, hc.size, fun k hk => hc.keep k (Nat.lt_of_lt_of_le hk h.bel.size) (by have := h.wpb; omega) (fun e => by have := h.row k e; omega)⟩
  wpb := h.wpb
  spp := h.spp.step hc
  sgw := h.sgw.step hc
  codes := h.codes.keep fun k h1 h2 => hc.keep k (h.shi k h1 h2).1 (h.shi k h1 h2).2.1 (h.shi k h1 h2).2.2
  shi := fun k h1 h2 => (h.shi k h1 h2).step hc
  row := fun g e => by
    rcases hc.lies with e' | ⟨g', e', hg⟩
    · rw [e'] at e; exact h.row g e
    · rw [e'] at e; injection e with e; have := h.bel.size; omega

/-- what put does, at any place of a text -/
def PutIs (kind : Nat) (zs : List Nat) (k : Nat) (tk : Nat → Nat → List T) (pl : List T → List Nat × List Nat × List Nat) (a : Option Addr) (c : Nat) (w : World) : Prop :=
  ∀ (x : World) (v0 : Value) (m f : Nat) (L : List Bool) (pp pb gw c1 c2 lo hi fr e : Nat) (last : Bool), Env w x kind pp pb gw c1 c2 lo hi v0 → WOk x pb false v0 m L f → f ≤ 7 → L.length ≤ 900000000000000 → e = ende zs k fr → last = decide (zs.length ≤ fr + k) → (fr < zs.length ∨ fr = 0) →
    Calls Tryz.prog 12 #[.pointer (some ⟨pp, 0, none⟩), .slice a e c, .int .i64 (fr : Int), .bool last] x fun en w' => en = .returned (.tuple #[]) ∧ WrAt x v0 pb (L ++ ownB zs k kind tk pl fr L.length) w'

/-- within Deflate's loop -/
structure DfAt (zs : List Nat) (k kind : Nat) (tk : Nat → Nat → List T) (pl : List T → List Nat × List Nat × List Nat) (w x : World) (pp pb gw c1 c2 lo hi fr : Nat) (L : List Bool) : Prop where
  at_ : ∃ v m f, WOk x pb false v m L f ∧ f ≤ 7 ∧ Env w x kind pp pb gw c1 c2 lo hi v
  on : ∃ F, deflF zs k kind tk pl (zs.length + 1) 0 [] = deflF zs k kind tk pl (F + 1) fr L ∧ zs.length ≤ fr + F
  le : L.length ≤ 6000 * fr
  pl : fr < zs.length ∨ fr = 0

theorem DfAt.next {zs : List Nat} {k kind : Nat} {tk : Nat → Nat → List T} {pl : List T → List Nat × List Nat × List Nat} {w x x' : World} {pp pb gw c1 c2 lo hi fr : Nat} {L : List Bool} {v0 : Value} {m f : Nat}
    (h : DfAt zs k kind tk pl w x pp pb gw c1 c2 lo hi fr L) (hk : 1 ≤ k) (hlt : fr + k < zs.length) (hl : (ownB zs k kind tk pl fr L.length).length ≤ 6000 * k) (he : Env w x kind pp pb gw c1 c2 lo hi v0) (hw : WrAt x v0 pb (L ++ ownB zs k kind tk pl fr L.length) x') :
    DfAt zs k kind tk pl w x' pp pb gw c1 c2 lo hi (fr + k) (L ++ ownB zs k kind tk pl fr L.length) := by
  obtain ⟨v, m', f', k1, k2, k3⟩ := hw
  refine ⟨⟨v, m', f', k1, k2, he.step k3⟩, ?_, ?_, .inl hlt⟩
  · obtain ⟨F, h1, h2⟩ := h.on
    obtain ⟨F', rfl⟩ : ∃ F', F = F' + 1 := ⟨F - 1, by omega⟩
    refine ⟨F', ?_, by omega⟩
    rw [h1, deflF, if_neg (by omega)]
  · have := h.le
    rw [List.length_append, Nat.mul_add]
    omega

set_option maxHeartbeats 8000000 in
theorem deflate_gen (kind : Nat) (zs : List Nat) (a : Option Addr) (c k : Nat) (tk : Nat → Nat → List T) (pl : List T → List Nat × List Nat × List Nat) (w : World) (hk1 : 1 ≤ k) (hk2 : k ≤ 65535) (hkind : kind ≤ 3) (hn : zs.length ≤ 10000000) (hc : zs.length ≤ c) (ha : 0 < zs.length → ∃ b off, a = some ⟨b, off, none⟩)
    (hput : PutIs kind zs k tk pl a c w) (hown : ∀ fr p, fr < zs.length ∨ fr = 0 → (ownB zs k kind tk pl fr p).length ≤ 6000 * k) :
    Calls Tryz.prog 6 #[.slice a zs.length c, .int .i64 (k : Int), .int .i64 (kind : Int)] w fun e w' => ∃ g L, L = deflF zs k kind tk pl (zs.length + 1) 0 [] ∧ e = .returned (.tuple #[.slice (some ⟨g, 0, none⟩) ((L.length + 7) / 8) ((L.length + 7) / 8), .int .i64 0]) ∧ w'.heap[g]? = some (.cells ((pk false ((L.length + 7) / 8) L).map bv).toArray 5 (0, 0)) ∧ w.heap.size ≤ g ∧ Below w.heap.size w w' := by
  have HPUT := hide hput
  have HOWN := hide hown
  obtain ⟨n, hN⟩ : ∃ n, n = zs.length := ⟨_, rfl⟩
  have HN := hide hN
  rw [← hN] at hn hc ha ⊢
  clear hput hown hN
  have t1 : decide ((k : Int) < 1) = false := by simp; omega
  have t2 : decide (65535 < (k : Int)) = false := by simp; omega
  have t3 : ¬ (k : Int) < 1 := by omega
  have t4 : ¬ 65535 < (k : Int) := by omega
  have t5 : decide ((kind : Int) < 0) = false := by simp
  have t6 : decide (3 < (kind : Int)) = false := by simp; omega
  have t7 : ¬ (kind : Int) < 0 := by omega
  have t8 : ¬ 3 < (kind : Int) := by omega
  go_enter Tryz.func6, Tryz.ntmps6
  go_wp2_with fail
  refine (new_any false w).mono ?_
  rintro e w1 ⟨rfl, h1⟩
  have HW1 := hide h1
  have hs1 : w1.heap.size = w.heap.size + 1 := by rw [h1]; simp
  have HWO1 : Hid (WOk w1 w.heap.size false (.slice none 0 0) 0 [] 0) := hide (by rw [h1]; exact new_ok false w)
  have HB1 : Hid (Below w.heap.size w w1) := hide (by rw [h1]; exact (Below.refl _ _).alloc (Nat.le_refl _) _)
  have HS1 := hide hs1
  clear h1 hs1 HW1
  go_wp2_with fail
  refine (waysOf_ok kind w1 hkind).mono ?_
  rintro e w2 ⟨rfl, h2⟩
  have HB2 : Hid (Below w1.heap.size w1 w2) := hide (by rw [h2]; exact (Below.refl _ _).alloc (Nat.le_refl _) _)
  have HG2 : Hid (w2.heap[w1.heap.size]? = some (.cells wayCells 59 (0, 0))) := hide (by rw [h2]; exact heap_alloc_new _ _)
  have HS2 : Hid (w2.heap.size = w1.heap.size + 1) := hide (by rw [h2]; simp)
  clear h2
  obtain ⟨wa, wl, wcp, hwv⟩ : ∃ wa wl wcp, wayV w1.heap.size kind = .slice wa wl wcp := by unfold wayV; split <;> exact ⟨_, _, _, rfl⟩
  have HWV := hide hwv
  rw [hwv]
  clear hwv
  go_wp2_with fail
  refine (fixedCodes_ok w2).mono ?_
  rintro e w3 ⟨c1, c2, rfl, tc, b3⟩
  have HT3 := hide tc
  have HB3 := hide b3
  clear tc b3
  obtain ⟨w4, hw4⟩ : ∃ w4, w4 = w3.alloc (.cells #[.pointer (some ⟨w.heap.size, 0, none⟩), .int .i64 (kind : Int), .slice wa wl wcp, .pointer (some ⟨c1, 0, none⟩), .pointer (some ⟨c2, 0, none⟩)] 42) := ⟨_, rfl⟩
  have HS34 : Hid (w4.heap.size = w3.heap.size + 1) := hide (by rw [hw4]; simp)
  have HB4 : Hid (Below w3.heap.size w3 w4) := hide (by rw [hw4]; exact (Below.refl _ _).alloc (Nat.le_refl _) _)
  have HENV : Hid (Env w w4 kind w3.heap.size w.heap.size w1.heap.size c1 c2 w2.heap.size w3.heap.size (.slice none 0 0)) := hide (by
    have e1 := unhide HS1
    have e2 := unhide HS2
    have e3 := (unhide HB3).size
    have e4 := unhide HS34
    refine ⟨⟨?_, ?_⟩, ?_, Nat.le_refl _, ⟨by omega, by omega, by simp [Value.ownBlock]⟩, ⟨by omega, by omega, by simp [Value.ownBlock]⟩, ?_, fun q q1 q2 => ⟨by omega, by omega, by simp [Value.ownBlock]⟩, fun g e => by simp [Value.ownBlock] at e⟩
    · rw [hw4, heap_alloc_new, ← unhide HWV]
    · rw [(unhide HB4).block _ (by omega), (unhide HB3).block _ (by omega)]; exact unhide HG2
    · exact (((unhide HB1).trans ((unhide HB2).mono (by omega))).trans ((unhide HB3).mono (by omega))).trans ((unhide HB4).mono (by omega))
    · exact (unhide HT3).keep fun q q1 q2 => (unhide HB4).block q (by omega))
  have HWO4 : Hid (WOk w4 w.heap.size false (.slice none 0 0) 0 [] 0) := hide ((((unhide HWO1).below (unhide HB2)).below (unhide HB3)).below (unhide HB4))
  go_wp2_with fail
  rw [← hw4]
  obtain ⟨pp, hpp⟩ : ∃ pp, pp = w3.heap.size := ⟨_, rfl⟩
  obtain ⟨pb, hpb⟩ : ∃ pb, pb = w.heap.size := ⟨_, rfl⟩
  obtain ⟨gw, hgw⟩ : ∃ gw, gw = w1.heap.size := ⟨_, rfl⟩
  obtain ⟨lo, hlo⟩ : ∃ lo, lo = w2.heap.size := ⟨_, rfl⟩
  obtain ⟨hi, hhi⟩ : ∃ hi, hi = w3.heap.size := ⟨_, rfl⟩
  have HDF : Hid (DfAt zs k kind tk pl w w4 pp pb gw c1 c2 lo hi 0 []) := hide (by
    rw [hpp, hpb, hgw, hlo, hhi]
    exact ⟨⟨_, _, _, unhide HWO4, by omega, unhide HENV⟩, ⟨zs.length, rfl, by omega⟩, by simp, .inr rfl⟩)
  rw [← hpp, ← hpb]
  clear hw4 HS1 HS2 HS34 HB1 HB2 HB3 HB4 HENV HWO4 HWO1 HG2 HT3 HWV hpp hpb hgw hlo hhi
  go_loopg [9] n (fun gk fv ws => ∃ (fr : Nat) (L : List Bool), gk = n - fr ∧ fv = .int .i64 (fr : Int) ∧ fr ≤ n ∧ Hid (DfAt zs k kind tk pl w ws pp pb gw c1 c2 lo hi fr L))
  case atStart => exact ⟨0, [], rfl, rfl, by omega, HDF⟩
  case round =>
    clear HDF
    obtain ⟨fr, L, rfl, rfl, hfr, hdf⟩ := hrel
    have hLle : L.length ≤ 900000000000000 := by have := (unhide hdf).le; omega
    obtain ⟨v0, m, f, hwo, hf7, henv⟩ := (unhide hdf).at_
    have HWO := hide hwo
    have HENV := hide henv
    clear hwo henv
    by_cases hlt : fr + k < n
    · obtain ⟨b, off, rfl⟩ := ha (by omega)
      obtain ⟨e, he⟩ : ∃ e, e = fr + k := ⟨_, rfl⟩
      have u1 : (k : Int) < (n : Int) - (fr : Int) := by omega
      have u2 : (fr : Int) + (k : Int) = (e : Int) := by omega
      have u3 : e < n := by omega
      have HP := hide (unhide HPUT wr v0 m f L pp pb gw c1 c2 lo hi fr e false (unhide HENV) (unhide HWO) hf7 hLle (by rw [he]; unfold ende; rw [← unhide HN]; omega) (by rw [← unhide HN]; simp; omega) (unhide hdf).pl)
      have HNX : Hid (∀ x', WrAt wr v0 pb (L ++ ownB zs k kind tk pl fr L.length) x' → DfAt zs k kind tk pl w x' pp pb gw c1 c2 lo hi e (L ++ ownB zs k kind tk pl fr L.length)) := hide (fun x' hx' => by
        rw [he]
        exact (unhide hdf).next (v0 := v0) (m := m) (f := f) hk1 (by rw [← unhide HN]; exact hlt) (unhide HOWN fr L.length (unhide hdf).pl) (unhide HENV) hx')
      have u4 : e ≤ c := by omega
      have hfe : fr < e := by omega
      clear he
      go_wp2_with fail
      refine (unhide HP).mono ?_
      rintro en x1 ⟨rfl, h1⟩
      have H1 := hide (unhide HNX x1 h1)
      clear h1 HP HNX
      go_wp2_with fail
      go_roundg (n - e)
      case measure => omega
      case rel => exact ⟨e, _, rfl, rfl, by omega, H1⟩
    · have u1 : ¬ (k : Int) < (n : Int) - (fr : Int) := by omega
      have HP := hide (unhide HPUT wr v0 m f L pp pb gw c1 c2 lo hi fr n true (unhide HENV) (unhide HWO) hf7 hLle (by unfold ende; rw [← unhide HN]; omega) (by rw [← unhide HN]; simp; omega) (unhide hdf).pl)
      have HFIN : Hid (L ++ ownB zs k kind tk pl fr L.length = deflF zs k kind tk pl (n + 1) 0 []) := hide (by
        obtain ⟨F, h1, h2⟩ := (unhide hdf).on
        rw [unhide HN, h1, deflF, if_pos (by rw [← unhide HN]; omega)])
      have hL2 : (L ++ ownB zs k kind tk pl fr L.length).length ≤ 1000000000000 := by
        rw [List.length_append]
        have := (unhide hdf).le
        have := unhide HOWN fr L.length (unhide hdf).pl
        omega
      generalize L ++ ownB zs k kind tk pl fr L.length = Lf at HP HFIN hL2
      go_wp2_with fail
      refine (unhide HP).mono ?_
      rintro en x1 ⟨rfl, v1, m1, f1, k1, k2, k3⟩
      have henv1 := (unhide HENV).step k3
      have p0 : x1.cell? ⟨pp, 0, none⟩ = some (.pointer (some ⟨pb, 0, none⟩)) := by simp only [World.cell?, henv1.pack.1]; rfl
      have hm1 : m1 = (Lf.length + 7) / 8 := by have := k1.len; omega
      have HBY := hide (bytes_ok pb m1 f1 false v1 Lf x1 k1 (by omega))
      rw [hm1] at HBY
      have HB1 := hide henv1.bel
      clear k1 k2 k3 henv1 hm1 HP HPUT
      go_wp2_with fail
      refine (unhide HBY).mono ?_
      rintro en x2 ⟨rfl, g1, g2⟩
      have HG1 := hide g1
      have HB2 : Hid (Below w.heap.size w x2) := hide ((unhide HB1).trans (g2.mono (unhide HB1).size))
      clear g1 g2 HBY
      go_wp2_with fail
      go_ret2
      exact ⟨x1.heap.size, Lf, unhide HFIN, rfl, unhide HG1, (unhide HB1).size, unhide HB2⟩

end Go.Proofs.YtabeanealkopbaaGreat.W4
end

section
namespace Go.Proofs.YtabeanealkopbaaGreat.W4
open Go.RowKit Mth Infl Defl
set_option maxRecDepth 100000
set_option linter.unusedVariables false
attribute [local go_sem ↓] Go.wp_at_zero Go.wp_at_succ

/-- all but one block stay -/
def Keep (xb : Nat) (x x' : World) : Prop := x.heap.size ≤ x'.heap.size ∧ ∀ k, k < x.heap.size → k ≠ xb → x'.heap[k]? = x.heap[k]?

/-- choose's own three blocks -/
structure Kp (H yb : Nat) (best : Array Value) (fn fm : Value) (x : World) : Prop where
  rb : x.heap[H]? = some (.cells #[.int .i64 0, .int .i64 0] 69 (0, 0))
  bb : x.heap[H + 1]? = some (.cells best 69 (0, 0))
  yy : x.heap[yb]? = some (.cells #[fn, fm] 59 (0, 0))

theorem Kp.y0 {H yb : Nat} {best : Array Value} {fn fm : Value} {x : World} (h : Kp H yb best fn fm x) : x.cell? ⟨yb, 0, none⟩ = some fn := by simp [World.cell?, h.yy]

theorem Kp.keep {H yb xb : Nat} {best : Array Value} {fn fm : Value} {x x' : World} (h : Kp H yb best fn fm x) (hk : Keep xb x x') (h1 : xb < H) (h2 : H + 2 ≤ yb) : Kp H yb best fn fm x' :=
  ⟨by rw [hk.2 H (heap_lt h.rb) (by omega)]; exact h.rb, by rw [hk.2 (H + 1) (heap_lt h.bb) (by omega)]; exact h.bb, by rw [hk.2 yb (heap_lt h.yy) (by omega)]; exact h.yy⟩

theorem Kp.drewN {H yb : Nat} {best : Array Value} {fn fm : Value} {x : World} (h : Kp H yb best fn fm x) (q : Nat) : Kp H yb best fn fm (x.drewN q) := ⟨h.rb, h.bb, h.yy⟩

theorem Kp.alloc {H yb : Nat} {best : Array Value} {fn fm : Value} {x : World} (h : Kp H yb best fn fm x) (o : Obj) : Kp H yb best fn fm (x.alloc o) :=
  ⟨by rw [Below.heap_alloc _ _ _ (heap_lt h.rb)]; exact h.rb, by rw [Below.heap_alloc _ _ _ (heap_lt h.bb)]; exact h.bb, by rw [Below.heap_alloc _ _ _ (heap_lt h.yy)]; exact h.yy⟩

theorem Kp.set {H yb k : Nat} {best : Array Value} {fn fm : Value} {x : World} (h : Kp H yb best fn fm x) (o : Nat) (v : Value) (h1 : k ≠ H) (h2 : k ≠ H + 1) (h3 : k ≠ yb) : Kp H yb best fn fm (x.setCell ⟨k, o, none⟩ v) :=
  ⟨by rw [heap_setCell_other _ _ _ _ (by exact h1.symm)]; exact h.rb, by rw [heap_setCell_other _ _ _ _ (by exact h2.symm)]; exact h.bb, by rw [heap_setCell_other _ _ _ _ (by exact h3.symm)]; exact h.yy⟩

/-- what the next plan is, behind its statement -/
def NextIs (SS : World → Prop) (H yb : Nat) (best : Array Value) (fn fm : Value) (i b : Int) (v : Value) (x : World) : Prop :=
  ∃ nb, v = .pointer (some ⟨nb, 0, none⟩) ∧ SS x ∧ Kp H yb best fn fm x ∧ x.heap[nb]? = some (.cells #[.int .i64 i, .int .i64 b] 69 (0, 0)) ∧ H + 2 ≤ nb ∧ nb ≠ yb

/-- its block is made and filled -/
theorem next_done {SS : World → Prop} {H yb nb : Nat} {best : Array Value} {fn fm : Value} {x : World} (i b : Int) (hset : ∀ x k o v, SS x → H ≤ k → SS (x.setCell ⟨k, o, none⟩ v)) (h1 : SS x) (h2 : Kp H yb best fn fm x) (h3 : x.heap[nb]? = some (.cells #[.int .i64 0, .int .i64 0] 69 (0, 0))) (h4 : H + 2 ≤ nb) (h5 : nb ≠ yb) :
    NextIs SS H yb best fn fm i b (.pointer (some ⟨nb, 0, none⟩)) ((x.setCell ⟨nb, 0, none⟩ (.int .i64 i)).setCell ⟨nb, 1, none⟩ (.int .i64 b)) := by
  refine ⟨nb, rfl, hset _ _ _ _ (hset _ _ _ _ h1 (by omega)) (by omega), (h2.set _ _ (by omega) (by omega) h5).set _ _ (by omega) (by omega) h5, ?_, h4, h5⟩
  rw [heap_setCell_same _ nb 1 _ _ _ (heap_setCell_same _ nb 0 _ _ _ h3)]
  rfl

set_option maxHeartbeats 8000000 in
theorem choose_20 (SS : World → Prop) (pp pb gw off cp xb : Nat) (at_ b1 : Int) (w : World) (H : Nat) (hH : Hid (H = w.heap.size))
    (hcell : ∀ x, SS x → x.cell? ⟨pp, 0, none⟩ = some (.pointer (some ⟨pb, 0, none⟩)))
    (hway : ∀ x, SS x → x.cell? ⟨pp, 2, none⟩ = some (.slice (some ⟨gw, off, none⟩) 1 cp))
    (hfn : ∀ x, SS x → x.cell? ⟨gw, off, none⟩ = some (.func (.func 20) #[] #[]) ∧ x.cell? ⟨gw, off + 1, none⟩ = some (.func (.func 21) #[] #[]))
    (halloc : ∀ x o, SS x → SS (x.alloc o)) (hset : ∀ x k o v, SS x → H ≤ k → SS (x.setCell ⟨k, o, none⟩ v)) (hdrew : ∀ x q, SS x → SS (x.drewN q))
    (hlen : ∀ x, SS x → Calls Tryz.prog 66 #[.pointer (some ⟨pb, 0, none⟩)] x fun e x' => e = .returned (.int .i64 at_) ∧ ∃ q, x' = x.drewN q)
    (hwgh : ∀ x, SS x → Calls Tryz.prog 20 #[.pointer (some ⟨xb, 0, none⟩), .int .i64 at_] x fun e x' => e = .returned (.int .i64 b1) ∧ SS x' ∧ Keep xb x x')
    (hxb : xb < H) (h0 : SS w) :
    Calls Tryz.prog 30 #[.pointer (some ⟨pp, 0, none⟩), .pointer (some ⟨xb, 0, none⟩)] w fun e w' => e = .returned (.agg #[.int .i64 0, .int .i64 b1]) ∧ SS w' := by
  obtain ⟨W2, hW2⟩ : ∃ W2, W2 = (w.alloc (.cells #[.int .i64 0, .int .i64 0] 69)).alloc (.cells #[.int .i64 0, .int .i64 0] 69) := ⟨_, rfl⟩
  have HSS2 : Hid (SS W2) := hide (by rw [hW2]; exact halloc _ _ (halloc _ _ h0))
  have HR2 : Hid (W2.heap[H]? = some (.cells #[.int .i64 0, .int .i64 0] 69 (0, 0))) := hide (by rw [hW2, unhide hH, Below.heap_alloc _ _ _ (by simp)]; exact heap_alloc_new _ _)
  have HT2 : Hid (W2.heap[H + 1]? = some (.cells #[.int .i64 0, .int .i64 0] 69 (0, 0))) := hide (by rw [hW2, unhide hH, show w.heap.size + 1 = (w.alloc (.cells #[.int .i64 0, .int .i64 0] 69)).heap.size by simp]; exact heap_alloc_new _ _)
  have e2 := hway W2 (unhide HSS2)
  have e2' := e2
  rw [hW2] at e2'
  have HSS := hide h0
  clear h0
  go_enter Tryz.func30, Tryz.ntmps30
  go_wp2_with fail
  rw [← hW2, ← unhide hH]
  clear hW2 e2'
  go_loopg [14] 1 (fun gk kv ws => (gk = 1 ∧ kv = .int .i64 0 ∧ Hid (SS ws) ∧ Hid (ws.heap[H]? = some (.cells #[.int .i64 0, .int .i64 0] 69 (0, 0))) ∧ Hid (ws.heap[H + 1]? = some (.cells #[.int .i64 0, .int .i64 0] 69 (0, 0)))) ∨ (gk = 0 ∧ kv = .int .i64 1 ∧ Hid (SS ws) ∧ Hid (ws.heap[H]? = some (.cells #[.int .i64 0, .int .i64 0] 69 (0, 0))) ∧ Hid (ws.heap[H + 1]? = some (.cells #[.int .i64 0, .int .i64 b1] 69 (0, 0)))))
  case atStart => exact .inl ⟨rfl, rfl, HSS2, HR2, HT2⟩
  case round =>
    clear HSS2 HR2 HT2 e2
    rcases hrel with ⟨rfl, rfl, hs, hr, hb⟩ | ⟨rfl, rfl, hs, hr, hb⟩
    · obtain ⟨y0, y1⟩ := hfn wr (unhide hs)
      have z0 : (wr.alloc (.cells #[.nilFunc, .nilFunc] 59)).cell? ⟨wr.heap.size, 0, none⟩ = some .nilFunc := by simp only [World.cell?, heap_alloc_new]; rfl
      have z1 : (wr.alloc (.cells #[.nilFunc, .nilFunc] 59)).cell? ⟨wr.heap.size, 1, none⟩ = some .nilFunc := by simp only [World.cell?, heap_alloc_new]; rfl
      have z2 : ∀ o, (wr.alloc (.cells #[.nilFunc, .nilFunc] 59)).frozen? ⟨wr.heap.size, o, none⟩ = false := fun o => by simp only [World.frozen?, heap_alloc_new]; simp
      go_upto_region 5 with fail
      obtain ⟨yb, hyb0⟩ : ∃ yb, yb = wr.heap.size := ⟨_, rfl⟩
      obtain ⟨fn, hfn0⟩ : ∃ fn : Value, fn = .func (.func 20) #[] #[] := ⟨_, rfl⟩
      obtain ⟨fm, hfm0⟩ : ∃ fm : Value, fm = .func (.func 21) #[] #[] := ⟨_, rfl⟩
      obtain ⟨W3, hW3⟩ : ∃ W3, W3 = wr.alloc (.cells #[.func (.func 20) #[] #[], .func (.func 21) #[] #[]] 59) := ⟨_, rfl⟩
      have hyb : H + 2 ≤ yb := by rw [hyb0]; have := heap_lt (unhide hb); omega
      have HSS3 : Hid (SS W3) := hide (by rw [hW3]; exact halloc _ _ (unhide hs))
      have HKP3 : Hid (Kp H yb #[.int .i64 0, .int .i64 0] (.func (.func 20) #[] #[]) (.func (.func 21) #[] #[]) W3) := hide (by
        rw [hW3, hyb0]
        exact ⟨by rw [Below.heap_alloc _ _ _ (heap_lt (unhide hr))]; exact unhide hr, by rw [Below.heap_alloc _ _ _ (heap_lt (unhide hb))]; exact unhide hb, heap_alloc_new _ _⟩)
      rw [← hW3, ← hyb0]
      clear hW3 hyb0 hfn0 hfm0 hs hr hb y0 y1
      go_cut [8] (fun v8 wc => NextIs SS H yb #[.int .i64 0, .int .i64 0] (.func (.func 20) #[] #[]) (.func (.func 21) #[] #[]) 0 b1 v8 wc)
      case first =>
        refine wp_region_noPanic ?_
        refine wp_region_held_drew (S := fun x => SS x ∧ Kp H yb #[.int .i64 0, .int .i64 0] (.func (.func 20) #[] #[]) (.func (.func 21) #[] #[]) x) (by kernel_rfl) ⟨hdrew _ 1 (unhide HSS3), (unhide HKP3).drewN 1⟩ (fun hHeld => ?_)
        obtain ⟨x0, hx0⟩ : ∃ x0, x0 = W3.drew := ⟨_, rfl⟩
        have HS0 : Hid (SS x0) := hide (by rw [hx0]; exact hdrew _ 1 (unhide HSS3))
        have HK0 : Hid (Kp H yb #[.int .i64 0, .int .i64 0] (.func (.func 20) #[] #[]) (.func (.func 21) #[] #[]) x0) := hide (by rw [hx0]; exact (unhide HKP3).drewN 1)
        have HZ0 : Hid (yb < x0.heap.size) := hide (by rw [hx0]; exact heap_lt (unhide HKP3).yy)
        show wpAnyH _ _ _ _ _ _ _ _ W3.drew
        rw [← hx0] at hHeld ⊢
        clear hx0
        refine held_take 0 19 rfl rfl (by kernel_rfl) (by kernel_rfl) (by kernel_rfl) (by rfl) hHeld noPanic_panic (v := ?_) (fun x hSx => ?_) ?_
        rotate_left 1
        · go_simp <;> with_reducible rfl
        simp only [List.set_cons_zero, List.set_cons_succ]
        refine held_take 1 20 rfl rfl (by kernel_rfl) (by kernel_rfl) (by kernel_rfl) (by rfl) hHeld noPanic_panic (v := ?_) (fun x hSx => ?_) ?_
        rotate_left 1
        · go_simp <;> with_reducible rfl
        simp only [List.set_cons_zero, List.set_cons_succ]
        refine held_take 2 21 rfl rfl (by kernel_rfl) (by kernel_rfl) (by kernel_rfl) (by rfl) hHeld noPanic_panic (v := ?_) (fun x hSx => ?_) ?_
        rotate_left 1
        · have q := hSx.2.y0; clear hSx; go_simp <;> with_reducible rfl
        simp only [List.set_cons_zero, List.set_cons_succ]
        refine held_take 3 22 rfl rfl (by kernel_rfl) (by kernel_rfl) (by kernel_rfl) (by rfl) hHeld noPanic_panic (v := ?_) (fun x hSx => ?_) ?_
        rotate_left 1
        · go_simp <;> with_reducible rfl
        simp only [List.set_cons_zero, List.set_cons_succ]
        refine held_take 4 23 rfl rfl (by kernel_rfl) (by kernel_rfl) (by kernel_rfl) (by rfl) hHeld noPanic_panic (v := ?_) (fun x hSx => ?_) ?_
        rotate_left 1
        · go_simp <;> with_reducible rfl
        simp only [List.set_cons_zero, List.set_cons_succ]
        refine held_take 5 24 rfl rfl (by kernel_rfl) (by kernel_rfl) (by kernel_rfl) (by rfl) hHeld noPanic_panic (v := ?_) (fun x hSx => ?_) ?_
        rotate_left 1
        · go_simp <;> with_reducible rfl
        simp only [List.set_cons_zero, List.set_cons_succ]
        refine held_take 6 25 rfl rfl (by kernel_rfl) (by kernel_rfl) (by kernel_rfl) (by rfl) hHeld noPanic_panic (v := ?_) (fun x hSx => ?_) ?_
        rotate_left 1
        · go_simp <;> with_reducible rfl
        simp only [List.set_cons_zero, List.set_cons_succ]
        refine held_take 7 26 rfl rfl (by kernel_rfl) (by kernel_rfl) (by kernel_rfl) (by rfl) hHeld noPanic_panic (v := ?_) (fun x hSx => ?_) ?_
        rotate_left 1
        · have q := hcell x hSx.1; clear hSx; go_simp <;> with_reducible rfl
        simp only [List.set_cons_zero, List.set_cons_succ]
        refine held_two (i := 8) (j := 11) (by kernel_rfl) rfl rfl (fun K hK => ?_) (fun K hK => ?_)
        ·
          refine held_go_enter 8 27 hK rfl (by rfl) (by go_simp <;> exact ⟨rfl, rfl⟩) ?_
          refine (hlen x0 (unhide HS0)).mono ?_
          rintro e x1 ⟨rfl, q1, hq1⟩
          have HS1 : Hid (SS x1) := hide (by rw [hq1]; exact hdrew _ _ (unhide HS0))
          have HK1 : Hid (Kp H yb #[.int .i64 0, .int .i64 0] (.func (.func 20) #[] #[]) (.func (.func 21) #[] #[]) x1) := hide (by rw [hq1]; exact (unhide HK0).drewN _)
          have HZ1 : Hid (yb < x1.heap.size) := hide (by rw [hq1]; exact unhide HZ0)
          clear hq1
          refine ⟨_, rfl, ⟨unhide HS1, unhide HK1⟩, ?_⟩
          simp only [List.set_cons_zero, List.set_cons_succ]
          refine held_two (i := 9) (j := 11) (by kernel_rfl) rfl rfl (fun K hK => ?_) (fun K hK => ?_)
          ·
            refine held_go_enter 9 28 hK rfl (by rfl) (by go_simp <;> exact ⟨rfl, rfl⟩) ?_
            refine (hwgh x1 (unhide HS1)).mono ?_
            rintro e x2 ⟨rfl, s2, k2⟩
            have HS2 : Hid (SS x2) := hide s2
            have HK2 : Hid (Kp H yb #[.int .i64 0, .int .i64 0] (.func (.func 20) #[] #[]) (.func (.func 21) #[] #[]) x2) := hide ((unhide HK1).keep k2 hxb hyb)
            have HZ2 : Hid (yb < x2.heap.size) := hide (Nat.lt_of_lt_of_le (unhide HZ1) k2.1)
            clear s2 k2
            refine ⟨_, rfl, ⟨unhide HS2, unhide HK2⟩, ?_⟩
            simp only [List.set_cons_zero, List.set_cons_succ]
            refine held_take 10 29 rfl rfl (by kernel_rfl) (by kernel_rfl) (by kernel_rfl) (by rfl) ⟨unhide HS2, unhide HK2⟩ noPanic_panic (v := ?_) (fun x hSx => ?_) ?_
            rotate_left 1
            · go_simp <;> with_reducible rfl
            simp only [List.set_cons_zero, List.set_cons_succ]
            refine held_one 11 8 (by kernel_rfl) rfl rfl (by rfl) (v := .pointer (some ⟨x2.heap.size, 0, none⟩)) (w' := x2.alloc (.cells #[.int .i64 0, .int .i64 0] 69)) ?_ ⟨halloc _ _ (unhide HS2), (unhide HK2).alloc _⟩ ?_
            · first | (go_simp; done) | (go_simp <;> first | exact ⟨rfl, rfl⟩ | rfl)
            simp only [List.set_cons_zero, List.set_cons_succ]
            obtain ⟨nb, hnb⟩ : ∃ nb, nb = x2.heap.size := ⟨_, rfl⟩
            obtain ⟨x3, hx3⟩ : ∃ x, x = x2.alloc (.cells #[.int .i64 0, .int .i64 0] 69) := ⟨_, rfl⟩
            have HS3 : Hid (SS x3) := hide (by rw [hx3]; exact halloc _ _ (unhide HS2))
            have HK3 : Hid (Kp H yb #[.int .i64 0, .int .i64 0] (.func (.func 20) #[] #[]) (.func (.func 21) #[] #[]) x3) := hide (by rw [hx3]; exact (unhide HK2).alloc _)
            have HZ3 : Hid (yb < x3.heap.size) := hide (by rw [hx3]; simp; have := unhide HZ2; omega)
            have HN3 : Hid (x3.heap[nb]? = some (.cells #[.int .i64 0, .int .i64 0] 69 (0, 0))) := hide (by rw [hx3, hnb]; exact heap_alloc_new _ _)
            have HNB : Hid (yb < nb) := hide (by rw [hnb]; exact unhide HZ2)
            rw [← hx3, ← hnb]
            clear hx3 hnb
            have hc0 : x3.cell? ⟨nb, 0, none⟩ = some (.int .i64 0) := by simp [World.cell?, unhide HN3]
            have hc1 : x3.cell? ⟨nb, 1, none⟩ = some (.int .i64 0) := by simp [World.cell?, unhide HN3]
            have hf0 : x3.frozen? ⟨nb, 0, none⟩ = false := by simp [World.frozen?, unhide HN3]
            have hf1 : x3.frozen? ⟨nb, 1, none⟩ = false := by simp [World.frozen?, unhide HN3]
            have HD := hide (next_done 0 b1 hset (unhide HS3) (unhide HK3) (unhide HN3) (by have := unhide HNB; omega) (by have := unhide HNB; omega))
            refine held_skip 12 (by kernel_rfl) rfl rfl (by rfl) (w' := (x3.setCell ⟨nb, 0, none⟩ (.int .i64 0)).setCell ⟨nb, 1, none⟩ (.int .i64 b1)) ?_ ⟨by obtain ⟨_, _, h, _⟩ := unhide HD; exact h, by obtain ⟨_, _, _, h, _⟩ := unhide HD; exact h⟩ ?_
            · first | (go_simp; done) | (go_simp <;> rfl)
            refine wpAnyH_done (by kernel_rfl) ?_ _
            refine NoPanic.normal ?_
            go_wp2_with fail
            go_meet
            exact unhide HD
          ·
            refine held_go 11 8 hK rfl (by rfl) (v := .pointer (some ⟨x1.heap.size, 0, none⟩)) (w' := x1.alloc (.cells #[.int .i64 0, .int .i64 0] 69)) ?_ ⟨halloc _ _ (unhide HS1), (unhide HK1).alloc _⟩ ?_
            · first | (go_simp; done) | (go_simp <;> first | exact ⟨rfl, rfl⟩ | rfl)
            simp only [List.set_cons_zero, List.set_cons_succ]
            obtain ⟨nb, hnb⟩ : ∃ nb, nb = x1.heap.size := ⟨_, rfl⟩
            obtain ⟨x2, hx2⟩ : ∃ x, x = x1.alloc (.cells #[.int .i64 0, .int .i64 0] 69) := ⟨_, rfl⟩
            have HS2 : Hid (SS x2) := hide (by rw [hx2]; exact halloc _ _ (unhide HS1))
            have HK2 : Hid (Kp H yb #[.int .i64 0, .int .i64 0] (.func (.func 20) #[] #[]) (.func (.func 21) #[] #[]) x2) := hide (by rw [hx2]; exact (unhide HK1).alloc _)
            have HZ2 : Hid (yb < x2.heap.size) := hide (by rw [hx2]; simp; have := unhide HZ1; omega)
            have HN2 : Hid (x2.heap[nb]? = some (.cells #[.int .i64 0, .int .i64 0] 69 (0, 0))) := hide (by rw [hx2, hnb]; exact heap_alloc_new _ _)
            have HNB : Hid (yb < nb) := hide (by rw [hnb]; exact unhide HZ1)
            rw [← hx2, ← hnb]
            clear hx2 hnb
            refine held_enter 9 28 (by kernel_rfl) rfl rfl (by rfl) (by go_simp <;> exact ⟨rfl, rfl⟩) ?_
            refine (hwgh x2 (unhide HS2)).mono ?_
            rintro e x3 ⟨rfl, s3, k3⟩
            have HS3 : Hid (SS x3) := hide s3
            have HK3 : Hid (Kp H yb #[.int .i64 0, .int .i64 0] (.func (.func 20) #[] #[]) (.func (.func 21) #[] #[]) x3) := hide ((unhide HK2).keep k3 hxb hyb)
            have HZ3 : Hid (yb < x3.heap.size) := hide (Nat.lt_of_lt_of_le (unhide HZ2) k3.1)
            have HN3 : Hid (x3.heap[nb]? = some (.cells #[.int .i64 0, .int .i64 0] 69 (0, 0))) := hide (by rw [k3.2 nb (heap_lt (unhide HN2)) (by have := unhide HNB; omega)]; exact unhide HN2)
            clear s3 k3
            refine ⟨_, rfl, ⟨unhide HS3, unhide HK3⟩, ?_⟩
            simp only [List.set_cons_zero, List.set_cons_succ]
            refine held_take 10 29 rfl rfl (by kernel_rfl) (by kernel_rfl) (by kernel_rfl) (by rfl) ⟨unhide HS3, unhide HK3⟩ noPanic_panic (v := ?_) (fun x hSx => ?_) ?_
            rotate_left 1
            · go_simp <;> with_reducible rfl
            simp only [List.set_cons_zero, List.set_cons_succ]
            have hc0 : x3.cell? ⟨nb, 0, none⟩ = some (.int .i64 0) := by simp [World.cell?, unhide HN3]
            have hc1 : x3.cell? ⟨nb, 1, none⟩ = some (.int .i64 0) := by simp [World.cell?, unhide HN3]
            have hf0 : x3.frozen? ⟨nb, 0, none⟩ = false := by simp [World.frozen?, unhide HN3]
            have hf1 : x3.frozen? ⟨nb, 1, none⟩ = false := by simp [World.frozen?, unhide HN3]
            have HD := hide (next_done 0 b1 hset (unhide HS3) (unhide HK3) (unhide HN3) (by have := unhide HNB; omega) (by have := unhide HNB; omega))
            refine held_skip 12 (by kernel_rfl) rfl rfl (by rfl) (w' := (x3.setCell ⟨nb, 0, none⟩ (.int .i64 0)).setCell ⟨nb, 1, none⟩ (.int .i64 b1)) ?_ ⟨by obtain ⟨_, _, h, _⟩ := unhide HD; exact h, by obtain ⟨_, _, _, h, _⟩ := unhide HD; exact h⟩ ?_
            · first | (go_simp; done) | (go_simp <;> rfl)
            refine wpAnyH_done (by kernel_rfl) ?_ _
            refine NoPanic.normal ?_
            go_wp2_with fail
            go_meet
            exact unhide HD
        ·
          refine held_go 11 8 hK rfl (by rfl) (v := .pointer (some ⟨x0.heap.size, 0, none⟩)) (w' := x0.alloc (.cells #[.int .i64 0, .int .i64 0] 69)) ?_ ⟨halloc _ _ (unhide HS0), (unhide HK0).alloc _⟩ ?_
          · first | (go_simp; done) | (go_simp <;> first | exact ⟨rfl, rfl⟩ | rfl)
          simp only [List.set_cons_zero, List.set_cons_succ]
          obtain ⟨nb, hnb⟩ : ∃ nb, nb = x0.heap.size := ⟨_, rfl⟩
          obtain ⟨x1, hx1⟩ : ∃ x, x = x0.alloc (.cells #[.int .i64 0, .int .i64 0] 69) := ⟨_, rfl⟩
          have HS1 : Hid (SS x1) := hide (by rw [hx1]; exact halloc _ _ (unhide HS0))
          have HK1 : Hid (Kp H yb #[.int .i64 0, .int .i64 0] (.func (.func 20) #[] #[]) (.func (.func 21) #[] #[]) x1) := hide (by rw [hx1]; exact (unhide HK0).alloc _)
          have HZ1 : Hid (yb < x1.heap.size) := hide (by rw [hx1]; simp; have := unhide HZ0; omega)
          have HN1 : Hid (x1.heap[nb]? = some (.cells #[.int .i64 0, .int .i64 0] 69 (0, 0))) := hide (by rw [hx1, hnb]; exact heap_alloc_new _ _)
          have HNB : Hid (yb < nb) := hide (by rw [hnb]; exact unhide HZ0)
          rw [← hx1, ← hnb]
          clear hx1 hnb
          refine held_enter 8 27 (by kernel_rfl) rfl rfl (by rfl) (by go_simp <;> exact ⟨rfl, rfl⟩) ?_
          refine (hlen x1 (unhide HS1)).mono ?_
          rintro e x2 ⟨rfl, q2, hq2⟩
          have HS2 : Hid (SS x2) := hide (by rw [hq2]; exact hdrew _ _ (unhide HS1))
          have HK2 : Hid (Kp H yb #[.int .i64 0, .int .i64 0] (.func (.func 20) #[] #[]) (.func (.func 21) #[] #[]) x2) := hide (by rw [hq2]; exact (unhide HK1).drewN _)
          have HZ2 : Hid (yb < x2.heap.size) := hide (by rw [hq2]; exact unhide HZ1)
          have HN2 : Hid (x2.heap[nb]? = some (.cells #[.int .i64 0, .int .i64 0] 69 (0, 0))) := hide (by rw [hq2]; exact unhide HN1)
          clear hq2
          refine ⟨_, rfl, ⟨unhide HS2, unhide HK2⟩, ?_⟩
          simp only [List.set_cons_zero, List.set_cons_succ]
          refine held_enter 9 28 (by kernel_rfl) rfl rfl (by rfl) (by go_simp <;> exact ⟨rfl, rfl⟩) ?_
          refine (hwgh x2 (unhide HS2)).mono ?_
          rintro e x3 ⟨rfl, s3, k3⟩
          have HS3 : Hid (SS x3) := hide s3
          have HK3 : Hid (Kp H yb #[.int .i64 0, .int .i64 0] (.func (.func 20) #[] #[]) (.func (.func 21) #[] #[]) x3) := hide ((unhide HK2).keep k3 hxb hyb)
          have HZ3 : Hid (yb < x3.heap.size) := hide (Nat.lt_of_lt_of_le (unhide HZ2) k3.1)
          have HN3 : Hid (x3.heap[nb]? = some (.cells #[.int .i64 0, .int .i64 0] 69 (0, 0))) := hide (by rw [k3.2 nb (heap_lt (unhide HN2)) (by have := unhide HNB; omega)]; exact unhide HN2)
          clear s3 k3
          refine ⟨_, rfl, ⟨unhide HS3, unhide HK3⟩, ?_⟩
          simp only [List.set_cons_zero, List.set_cons_succ]
          refine held_take 10 29 rfl rfl (by kernel_rfl) (by kernel_rfl) (by kernel_rfl) (by rfl) ⟨unhide HS3, unhide HK3⟩ noPanic_panic (v := ?_) (fun x hSx => ?_) ?_
          rotate_left 1
          · go_simp <;> with_reducible rfl
          simp only [List.set_cons_zero, List.set_cons_succ]
          have hc0 : x3.cell? ⟨nb, 0, none⟩ = some (.int .i64 0) := by simp [World.cell?, unhide HN3]
          have hc1 : x3.cell? ⟨nb, 1, none⟩ = some (.int .i64 0) := by simp [World.cell?, unhide HN3]
          have hf0 : x3.frozen? ⟨nb, 0, none⟩ = false := by simp [World.frozen?, unhide HN3]
          have hf1 : x3.frozen? ⟨nb, 1, none⟩ = false := by simp [World.frozen?, unhide HN3]
          have HD := hide (next_done 0 b1 hset (unhide HS3) (unhide HK3) (unhide HN3) (by have := unhide HNB; omega) (by have := unhide HNB; omega))
          refine held_skip 12 (by kernel_rfl) rfl rfl (by rfl) (w' := (x3.setCell ⟨nb, 0, none⟩ (.int .i64 0)).setCell ⟨nb, 1, none⟩ (.int .i64 b1)) ?_ ⟨by obtain ⟨_, _, h, _⟩ := unhide HD; exact h, by obtain ⟨_, _, _, h, _⟩ := unhide HD; exact h⟩ ?_
          · first | (go_simp; done) | (go_simp <;> rfl)
          refine wpAnyH_done (by kernel_rfl) ?_ _
          refine NoPanic.normal ?_
          go_wp2_with fail
          go_meet
          exact unhide HD
      case rest =>
        obtain ⟨nb, rfl, hs, hk, hn, hn1, hn2⟩ := hcut
        have b0 : wc.cell? ⟨H + 1, 0, none⟩ = some (.int .i64 0) := by simp [World.cell?, hk.bb]
        have b1' : wc.cell? ⟨H + 1, 1, none⟩ = some (.int .i64 0) := by simp [World.cell?, hk.bb]
        have bf : ∀ o, wc.frozen? ⟨H + 1, o, none⟩ = false := fun o => by simp [World.frozen?, hk.bb]
        have n0 : wc.cell? ⟨nb, 0, none⟩ = some (.int .i64 0) := by simp [World.cell?, hn]
        have n1 : wc.cell? ⟨nb, 1, none⟩ = some (.int .i64 b1) := by simp [World.cell?, hn]
        have HS4 : Hid (SS ((wc.setCell ⟨H + 1, 0, none⟩ (.int .i64 0)).setCell ⟨H + 1, 1, none⟩ (.int .i64 b1))) := hide (hset _ _ _ _ (hset _ _ _ _ hs (by omega)) (by omega))
        have HR4 : Hid (((wc.setCell ⟨H + 1, 0, none⟩ (.int .i64 0)).setCell ⟨H + 1, 1, none⟩ (.int .i64 b1)).heap[H]? = some (.cells #[.int .i64 0, .int .i64 0] 69 (0, 0))) := hide (by rw [heap_setCell_other _ _ _ _ (by show H ≠ H + 1; omega), heap_setCell_other _ _ _ _ (by show H ≠ H + 1; omega)]; exact hk.rb)
        have HB4 : Hid (((wc.setCell ⟨H + 1, 0, none⟩ (.int .i64 0)).setCell ⟨H + 1, 1, none⟩ (.int .i64 b1)).heap[H + 1]? = some (.cells #[.int .i64 0, .int .i64 b1] 69 (0, 0))) := hide (by rw [heap_setCell_same _ (H + 1) 1 _ _ _ (heap_setCell_same _ (H + 1) 0 _ _ _ hk.bb)]; rfl)
        clear hs hk hn
        go_wp2_with fail
        go_roundg 0
        case measure => omega
        case rel => exact .inr ⟨rfl, rfl, HS4, HR4, HB4⟩
    · have r0 : wr.cell? ⟨H, 0, none⟩ = some (.int .i64 0) := by simp [World.cell?, unhide hr]
      have r1 : wr.cell? ⟨H, 1, none⟩ = some (.int .i64 0) := by simp [World.cell?, unhide hr]
      have rf : ∀ o, wr.frozen? ⟨H, o, none⟩ = false := fun o => by simp [World.frozen?, unhide hr]
      have b0 : wr.cell? ⟨H + 1, 0, none⟩ = some (.int .i64 0) := by simp [World.cell?, unhide hb]
      have b2 : wr.cell? ⟨H + 1, 1, none⟩ = some (.int .i64 b1) := by simp [World.cell?, unhide hb]
      have HS5 : Hid (SS ((wr.setCell ⟨H, 0, none⟩ (.int .i64 0)).setCell ⟨H, 1, none⟩ (.int .i64 b1))) := hide (hset _ _ _ _ (hset _ _ _ _ (unhide hs) (Nat.le_refl _)) (Nat.le_refl _))
      clear hs hr hb
      go_wp2_with fail
      refine bodyPost_ret (v := .agg #[.int .i64 0, .int .i64 b1]) ?_ rfl ⟨rfl, unhide HS5⟩
      rw [results_cell rfl]
      go_simp

end Go.Proofs.YtabeanealkopbaaGreat.W4
end

section
namespace Go.Proofs.YtabeanealkopbaaGreat.W4
open Go.RowKit Mth Infl Defl
set_option maxRecDepth 100000
set_option linter.unusedVariables false

theorem field69 (x : World) (a b : Int) : (Instr.field 69 (.agg #[.int .i64 a, .int .i64 b]) 0).run Tryz.prog x = .ok (.int .i64 a) x := by kernel_rfl

set_option maxHeartbeats 4000000 in
theorem put_stored (pp pb gw c1 c2 from_ n : Nat) (a : Option Addr) (c : Nat) (pa : Option Addr) (pc : Nat) (zs : List Nat) (last : Bool) (w : World) (v0 : Value) (m f : Nat) (L : List Bool) (hp : PackAt w pp pb 1 gw c1 c2) (hw : WOk w pb false v0 m L f) (hf : f ≤ 7)
    (hS1 : Safe w v0 pb pp) (hS2 : Safe w v0 pb gw)
    (hsl : ∀ x, (Instr.slice 22 (.slice a n c) (some (.int .i64 (from_ : Int))) none none).run Tryz.prog x = .ok (.slice pa zs.length pc) x)
    (hr : (pa = none ∧ pc = 0 ∧ zs = []) ∨ ∃ ad, pa = some ad ∧ (zs = [] ∨ Safe w v0 pb ad.block) ∧ ∀ (j : Nat) u, (zs.map bv)[j]? = some u → w.cell? (ad.add j) = some u) (hz : ∀ z ∈ zs, z < 256) (hn : zs.length ≤ 65535) (hb : L.length ≤ 900000000000000) :
    Calls Tryz.prog 12 #[.pointer (some ⟨pp, 0, none⟩), .slice a n c, .int .i64 (from_ : Int), .bool last] w fun e w' => e = .returned (.tuple #[]) ∧ WrAt w v0 pb (L ++ storedB zs last.toNat L.length) w' := by
  obtain ⟨N, hN⟩ : ∃ N, N = zs.length := ⟨_, rfl⟩
  have HN := hide hN
  rw [← hN] at hsl hn
  clear hN
  have HPW : Hid (∀ x xb, Below w.heap.size w x → BlkAt x xb last (.slice pa N pc) (.slice none 0 0) (.pointer (some ⟨c1, 0, none⟩)) (.pointer (some ⟨c2, 0, none⟩)) (.pointer none) → w.heap.size ≤ xb → Calls Tryz.prog 21 #[.pointer (some ⟨xb, 0, none⟩), .pointer (some ⟨pb, 0, none⟩)] x fun e w' => e = .returned (.tuple #[]) ∧ WrAt w v0 pb (L ++ storedB zs last.toNat L.length) w' ∧ WrAt x v0 pb (L ++ storedB zs last.toNat L.length) w') := hide (fun x xb hbx hx hxb => by
    have hwx : WOk x pb false v0 m L f := hw.below hbx
    have sf : ∀ k, Safe w v0 pb k → Safe x v0 pb k := fun k hk => ⟨Nat.lt_of_lt_of_le hk.1 hbx.size, hk.2.1, hk.2.2⟩
    rw [unhide HN] at hx
    refine (putStored_ok xb pb zs pa pc last _ _ _ _ x x v0 L ⟨v0, m, f, hwx, hf, Chg.refl _ _ _⟩ ⟨heap_lt hx, by have := hw.lt; omega, fun e => by have := (hw.row.lt xb e).2; omega⟩ hx ?_ hz (by rw [← unhide HN]; exact hn) hb).mono ?_
    · rcases hr with h1 | ⟨ad, h1, h2, h3⟩
      · exact .inl h1
      · exact .inr ⟨ad, h1, h2.imp id (sf _), fun j u hj => cell_stays hbx (h3 j u hj)⟩
    · rintro e w' ⟨rfl, v', m', f', k1, k2, k3⟩
      exact ⟨rfl, ⟨v', m', f', k1, k2, (Chg.of_below hbx).trans k3⟩, ⟨v', m', f', k1, k2, k3⟩⟩)
  have HCH : Hid (∀ x xb, Below w.heap.size w x → PackAt x pp pb 1 gw c1 c2 → BlkAt x xb last (.slice pa N pc) (.slice none 0 0) (.pointer (some ⟨c1, 0, none⟩)) (.pointer (some ⟨c2, 0, none⟩)) (.pointer none) → Calls Tryz.prog 30 #[.pointer (some ⟨pp, 0, none⟩), .pointer (some ⟨xb, 0, none⟩)] x fun e w' => e = .returned (.agg #[.int .i64 0, .int .i64 (storedBits N L.length : Int)]) ∧ Below x.heap.size x w') := hide (fun x xb hbx hpx hx => by
    have hwx : WOk x pb false v0 m L f := hw.below hbx
    have hpp := heap_lt hpx.1
    have hgw := heap_lt hpx.2
    have key : ∀ y, Below x.heap.size x y → y.heap[pp]? = x.heap[pp]? ∧ y.heap[gw]? = x.heap[gw]? ∧ y.heap[xb]? = x.heap[xb]? := fun y hy => ⟨hy.block _ hpp, hy.block _ hgw, hy.block _ (heap_lt hx)⟩
    refine choose_20 (fun y => Below x.heap.size x y) pp pb gw 0 3 xb (L.length : Int) (storedBits N L.length : Int) x x.heap.size (hide rfl) ?_ ?_ ?_ (fun y o hy => hy.alloc hy.size _) (fun y k o v hy hk => hy.setCell hk _) (fun y q hy => below_drewN hy q) ?_ ?_ (heap_lt hx) (Below.refl _ _)
    · intro y hy; simp only [World.cell?, (key y hy).1, hpx.1]; rfl
    · intro y hy; simp only [World.cell?, (key y hy).1, hpx.1]; rfl
    · intro y hy; constructor <;> (simp only [World.cell?, (key y hy).2.1, hpx.2]; rfl)
    · intro y hy
      exact len_ok pb m f false v0 L y (hwx.below hy) (by omega) hf
    · intro y hy
      have hxy : BlkAt y xb last (.slice pa N pc) (.slice none 0 0) (.pointer (some ⟨c1, 0, none⟩)) (.pointer (some ⟨c2, 0, none⟩)) (.pointer none) := by unfold BlkAt; rw [(key y hy).2.2]; exact hx
      refine (weighStored_ok xb L.length N pa pc last _ _ _ _ y hxy hn (by omega)).mono ?_
      rintro e y' ⟨rfl, rfl⟩
      exact ⟨rfl, hy, Nat.le_refl _, fun _ _ _ => rfl⟩)
  have HSF : Hid (∀ x w', Below w.heap.size w x → PackAt x pp pb 1 gw c1 c2 → WrAt x v0 pb (L ++ storedB zs last.toNat L.length) w' → PackAt w' pp pb 1 gw c1 c2) := hide (fun x w' hbx hpx h => by
    have sf : ∀ k, Safe w v0 pb k → Safe x v0 pb k := fun k hk => ⟨Nat.lt_of_lt_of_le hk.1 hbx.size, hk.2.1, hk.2.2⟩
    exact ⟨by rw [h.block (sf _ hS1)]; exact hpx.1, by rw [h.block (sf _ hS2)]; exact hpx.2⟩)
  obtain ⟨hp1, hp2⟩ := hp
  clear hw hf hS1 hS2 hr hz hb
  have p1 : w.cell? ⟨pp, 1, none⟩ = some (.int .i64 1) := by simp [World.cell?, hp1]
  go_enter Tryz.func12, Tryz.ntmps12
  go_wp2_with fail
  refine wp_region_noPanic ?_
  refine wp_region_held_drew (S := fun x => PackAt x pp pb 1 gw c1 c2) (by kernel_rfl) ⟨hp1, hp2⟩ (fun hHeld => ?_)
  refine held_take 0 9 rfl rfl (by kernel_rfl) (by kernel_rfl) (by kernel_rfl) (by rfl) hHeld noPanic_panic (v := ?_) (fun x hSx => ?_) ?_
  rotate_left 1
  · go_simp <;> with_reducible rfl
  simp only [List.set_cons_zero, List.set_cons_succ]
  refine held_take 1 10 rfl rfl (by kernel_rfl) (by kernel_rfl) (by kernel_rfl) (by rfl) hHeld noPanic_panic (v := ?_) (fun x hSx => ?_) ?_
  rotate_left 1
  · go_simp <;> with_reducible rfl
  simp only [List.set_cons_zero, List.set_cons_succ]
  refine held_take 2 11 rfl rfl (by kernel_rfl) (by kernel_rfl) (by kernel_rfl) (by rfl) hHeld noPanic_panic (v := ?_) (fun x hSx => ?_) ?_
  rotate_left 1
  · go_simp <;> with_reducible rfl
  simp only [List.set_cons_zero, List.set_cons_succ]
  refine held_take 3 12 rfl rfl (by kernel_rfl) (by kernel_rfl) (by kernel_rfl) (by rfl) hHeld noPanic_panic (v := ?_) (fun x hSx => ?_) ?_
  rotate_left 1
  · go_simp <;> with_reducible rfl
  simp only [List.set_cons_zero, List.set_cons_succ]
  refine held_take 4 13 rfl rfl (by kernel_rfl) (by kernel_rfl) (by kernel_rfl) (by rfl) hHeld noPanic_panic (v := ?_) (fun x hSx => ?_) ?_
  rotate_left 1
  · go_simp <;> with_reducible rfl
  simp only [List.set_cons_zero, List.set_cons_succ]
  refine held_take 5 14 rfl rfl (by kernel_rfl) (by kernel_rfl) (by kernel_rfl) (by rfl) hHeld noPanic_panic (v := ?_) (fun x hSx => ?_) ?_
  rotate_left 1
  · go_simp <;> with_reducible rfl
  simp only [List.set_cons_zero, List.set_cons_succ]
  refine held_take 6 15 rfl rfl (by kernel_rfl) (by kernel_rfl) (by kernel_rfl) (by rfl) hHeld noPanic_panic (v := ?_) (fun x hSx => ?_) ?_
  rotate_left 1
  · go_simp <;> with_reducible rfl
  simp only [List.set_cons_zero, List.set_cons_succ]
  refine held_take 7 16 rfl rfl (by kernel_rfl) (by kernel_rfl) (by kernel_rfl) (by rfl) hHeld noPanic_panic (v := ?_) (fun x hSx => ?_) ?_
  rotate_left 1
  · have q3 : x.cell? ⟨pp, 3, none⟩ = some (.pointer (some ⟨c1, 0, none⟩)) := (by simp [World.cell?, hSx.1]); have q4 : x.cell? ⟨pp, 4, none⟩ = some (.pointer (some ⟨c2, 0, none⟩)) := (by simp [World.cell?, hSx.1]); clear hSx; go_simp <;> with_reducible rfl
  simp only [List.set_cons_zero, List.set_cons_succ]
  refine held_take 8 17 rfl rfl (by kernel_rfl) (by kernel_rfl) (by kernel_rfl) (by rfl) hHeld noPanic_panic (v := ?_) (fun x hSx => ?_) ?_
  rotate_left 1
  · go_simp <;> with_reducible rfl
  simp only [List.set_cons_zero, List.set_cons_succ]
  refine held_one 9 18 (by kernel_rfl) rfl rfl (by rfl) (v := .pointer (some ⟨w.heap.size, 0, none⟩)) (w' := (w.alloc (.cells #[.bool last, .slice pa N pc, .slice none 0 0, .pointer (some ⟨c1, 0, none⟩), .pointer (some ⟨c2, 0, none⟩), .pointer none] 65)).drew) ?_ ?_ ?_
  · first | (go_simp; done) | (go_simp <;> first | exact ⟨rfl, rfl⟩ | rfl)
  · exact ⟨by show (w.alloc _).heap[pp]? = _; rw [Below.heap_alloc _ _ _ (heap_lt hp1)]; exact hp1, by show (w.alloc _).heap[gw]? = _; rw [Below.heap_alloc _ _ _ (heap_lt hp2)]; exact hp2⟩
  simp only [List.set_cons_zero, List.set_cons_succ]
  obtain ⟨xb, hxb⟩ : ∃ xb, xb = w.heap.size := ⟨_, rfl⟩
  obtain ⟨W1, hW1⟩ : ∃ W1, W1 = (w.alloc (.cells #[.bool last, .slice pa N pc, .slice none 0 0, .pointer (some ⟨c1, 0, none⟩), .pointer (some ⟨c2, 0, none⟩), .pointer none] 65)).drew := ⟨_, rfl⟩
  have HX1 : Hid (BlkAt W1 xb last (.slice pa N pc) (.slice none 0 0) (.pointer (some ⟨c1, 0, none⟩)) (.pointer (some ⟨c2, 0, none⟩)) (.pointer none)) := hide (by rw [hW1, hxb]; exact heap_alloc_new _ _)
  have HB1 : Hid (Below w.heap.size w W1) := hide (by rw [hW1]; exact below_drewN ((Below.refl _ _).alloc (Nat.le_refl _) _) 1)
  have HP1 : Hid (PackAt W1 pp pb 1 gw c1 c2) := hide ⟨by rw [(unhide HB1).block pp (heap_lt hp1)]; exact hp1, by rw [(unhide HB1).block gw (heap_lt hp2)]; exact hp2⟩
  rw [← hW1, ← hxb]
  have HXB := hide hxb
  clear hW1 hxb hHeld
  refine held_one 10 8 (by kernel_rfl) rfl rfl (by rfl) (v := .pointer (some ⟨xb, 0, none⟩)) (w' := W1) ?_ (unhide HP1) ?_
  · first | (go_simp; done) | (go_simp <;> first | exact ⟨rfl, rfl⟩ | rfl)
  simp only [List.set_cons_zero, List.set_cons_succ]
  refine wpAnyH_done (by kernel_rfl) ?_ _
  refine NoPanic.normal ?_
  have p1 : W1.cell? ⟨pp, 1, none⟩ = some (.int .i64 1) := by simp [World.cell?, (unhide HP1).1]
  go_wp2_with fail
  refine wp_region_noPanic ?_
  refine wp_region_held_drew (S := fun x => PackAt x pp pb 1 gw c1 c2) (by kernel_rfl) (unhide HP1) (fun hHeld => ?_)
  obtain ⟨W2, hW2⟩ : ∃ W2, W2 = W1.drew := ⟨_, rfl⟩
  have HB2 : Hid (Below w.heap.size w W2) := hide (by rw [hW2]; exact below_drewN (unhide HB1) 1)
  have HX2 : Hid (BlkAt W2 xb last (.slice pa N pc) (.slice none 0 0) (.pointer (some ⟨c1, 0, none⟩)) (.pointer (some ⟨c2, 0, none⟩)) (.pointer none)) := hide (by rw [hW2]; exact unhide HX1)
  show wpAnyH _ _ _ _ _ _ _ _ W1.drew
  rw [← hW2] at hHeld ⊢
  clear hW2 HX1 HB1 p1 HP1
  refine held_take 0 33 rfl rfl (by kernel_rfl) (by kernel_rfl) (by kernel_rfl) (by rfl) hHeld noPanic_panic (v := ?_) (fun x hSx => ?_) ?_
  rotate_left 1
  · go_simp <;> with_reducible rfl
  simp only [List.set_cons_zero, List.set_cons_succ]
  refine held_take 1 34 rfl rfl (by kernel_rfl) (by kernel_rfl) (by kernel_rfl) (by rfl) hHeld noPanic_panic (v := ?_) (fun x hSx => ?_) ?_
  rotate_left 1
  · go_simp <;> with_reducible rfl
  simp only [List.set_cons_zero, List.set_cons_succ]
  refine held_take 2 35 rfl rfl (by kernel_rfl) (by kernel_rfl) (by kernel_rfl) (by rfl) hHeld noPanic_panic (v := ?_) (fun x hSx => ?_) ?_
  rotate_left 1
  · go_simp <;> with_reducible rfl
  simp only [List.set_cons_zero, List.set_cons_succ]
  refine held_take 3 36 rfl rfl (by kernel_rfl) (by kernel_rfl) (by kernel_rfl) (by rfl) hHeld noPanic_panic (v := ?_) (fun x hSx => ?_) ?_
  rotate_left 1
  · have q2 : x.cell? ⟨pp, 2, none⟩ = some (.slice (some ⟨gw, 0, none⟩) 1 3) := (by simp only [World.cell?, hSx.1]; rfl); clear hSx; go_simp <;> with_reducible rfl
  simp only [List.set_cons_zero, List.set_cons_succ]
  refine held_take 4 37 rfl rfl (by kernel_rfl) (by kernel_rfl) (by kernel_rfl) (by rfl) hHeld noPanic_panic (v := ?_) (fun x hSx => ?_) ?_
  rotate_left 1
  · go_simp <;> with_reducible rfl
  simp only [List.set_cons_zero, List.set_cons_succ]
  refine held_take 5 38 rfl rfl (by kernel_rfl) (by kernel_rfl) (by kernel_rfl) (by rfl) hHeld noPanic_panic (v := ?_) (fun x hSx => ?_) ?_
  rotate_left 1
  · go_simp <;> with_reducible rfl
  simp only [List.set_cons_zero, List.set_cons_succ]
  refine held_take 11 44 rfl rfl (by kernel_rfl) (by kernel_rfl) (by kernel_rfl) (by rfl) hHeld noPanic_panic (v := ?_) (fun x hSx => ?_) ?_
  rotate_left 1
  · go_simp <;> with_reducible rfl
  simp only [List.set_cons_zero, List.set_cons_succ]
  refine held_take 12 45 rfl rfl (by kernel_rfl) (by kernel_rfl) (by kernel_rfl) (by rfl) hHeld noPanic_panic (v := ?_) (fun x hSx => ?_) ?_
  rotate_left 1
  · go_simp <;> with_reducible rfl
  simp only [List.set_cons_zero, List.set_cons_succ]
  refine held_take 13 46 rfl rfl (by kernel_rfl) (by kernel_rfl) (by kernel_rfl) (by rfl) hHeld noPanic_panic (v := ?_) (fun x hSx => ?_) ?_
  rotate_left 1
  · go_simp <;> with_reducible rfl
  simp only [List.set_cons_zero, List.set_cons_succ]
  refine held_take 14 47 rfl rfl (by kernel_rfl) (by kernel_rfl) (by kernel_rfl) (by rfl) hHeld noPanic_panic (v := ?_) (fun x hSx => ?_) ?_
  rotate_left 1
  · go_simp <;> with_reducible rfl
  simp only [List.set_cons_zero, List.set_cons_succ]
  refine held_take 15 48 rfl rfl (by kernel_rfl) (by kernel_rfl) (by kernel_rfl) (by rfl) hHeld noPanic_panic (v := ?_) (fun x hSx => ?_) ?_
  rotate_left 1
  · have q0 : x.cell? ⟨pp, 0, none⟩ = some (.pointer (some ⟨pb, 0, none⟩)) := (by simp only [World.cell?, hSx.1]; rfl); clear hSx; go_simp <;> with_reducible rfl
  simp only [List.set_cons_zero, List.set_cons_succ]
  refine held_enter 6 39 (by kernel_rfl) rfl rfl (by rfl) (by go_simp <;> exact ⟨rfl, rfl⟩) ?_
  refine (unhide HCH W2 xb (unhide HB2) hHeld (unhide HX2)).mono ?_
  rintro e W3 ⟨rfl, b3⟩
  have HP3 : Hid (PackAt W3 pp pb 1 gw c1 c2) := hide ⟨by rw [b3.block _ (heap_lt hHeld.1)]; exact hHeld.1, by rw [b3.block _ (heap_lt hHeld.2)]; exact hHeld.2⟩
  have HB3 : Hid (Below w.heap.size w W3) := hide ((unhide HB2).trans (b3.mono (unhide HB2).size))
  have HX3 : Hid (BlkAt W3 xb last (.slice pa N pc) (.slice none 0 0) (.pointer (some ⟨c1, 0, none⟩)) (.pointer (some ⟨c2, 0, none⟩)) (.pointer none)) := hide (by unfold BlkAt; rw [b3.block _ (heap_lt (unhide HX2))]; exact unhide HX2)
  clear b3
  refine ⟨_, rfl, unhide HP3, ?_⟩
  simp only [List.set_cons_zero, List.set_cons_succ]
  have fld := fun x => field69 x 0 (storedBits N L.length : Int)
  refine held_take 7 40 rfl rfl (by kernel_rfl) (by kernel_rfl) (by kernel_rfl) (by rfl) (unhide HP3) noPanic_panic (v := ?_) (fun x hSx => ?_) ?_
  rotate_left 1
  · go_simp <;> with_reducible rfl
  simp only [List.set_cons_zero, List.set_cons_succ]
  refine held_take 8 41 rfl rfl (by kernel_rfl) (by kernel_rfl) (by kernel_rfl) (by rfl) (unhide HP3) noPanic_panic (v := ?_) (fun x hSx => ?_) ?_
  rotate_left 1
  · go_simp <;> with_reducible rfl
  simp only [List.set_cons_zero, List.set_cons_succ]
  refine held_take 9 42 rfl rfl (by kernel_rfl) (by kernel_rfl) (by kernel_rfl) (by rfl) (unhide HP3) noPanic_panic (v := ?_) (fun x hSx => ?_) ?_
  rotate_left 1
  · go_simp <;> with_reducible rfl
  simp only [List.set_cons_zero, List.set_cons_succ]
  refine held_take 10 43 rfl rfl (by kernel_rfl) (by kernel_rfl) (by kernel_rfl) (by rfl) (unhide HP3) noPanic_panic (v := ?_) (fun x hSx => ?_) ?_
  rotate_left 1
  · have q1 : x.cell? ⟨gw, 1, none⟩ = some (.func (.func 21) #[] #[]) := (by simp only [World.cell?, hSx.2]; rfl); clear hSx; go_simp <;> with_reducible rfl
  simp only [List.set_cons_zero, List.set_cons_succ]
  refine held_enter 16 49 (by kernel_rfl) rfl rfl (by rfl) (by go_simp <;> exact ⟨rfl, rfl⟩) ?_
  refine (unhide HPW W3 xb (unhide HB3) (unhide HX3) (by rw [unhide HXB]; exact Nat.le_refl _)).mono ?_
  rintro e W4 ⟨rfl, k1, k2⟩
  have HK1 := hide k1
  refine ⟨_, rfl, unhide HSF W3 W4 (unhide HB3) (unhide HP3) k2, ?_⟩
  simp only [List.set_cons_zero, List.set_cons_succ]
  clear k1 k2
  refine wpAnyH_done (by kernel_rfl) ?_ _
  refine NoPanic.normal ?_
  go_wp2_with fail
  go_end0
  exact ⟨rfl, unhide HK1⟩

end Go.Proofs.YtabeanealkopbaaGreat.W4
end
