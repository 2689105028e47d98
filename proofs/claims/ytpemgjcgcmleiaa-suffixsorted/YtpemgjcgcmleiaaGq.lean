/- A group is cut into pieces; a round; the end. -/
import Derived.Test.YtpemgjcgcmleiaaGp
namespace Go.Proofs.Ytpemgjcgcmleiaa.Suf
set_option linter.unusedVariables false

theorem Grps.dis_of {b : List Nat} {h : Nat} {p R : Nat → Nat} {T N : List (Nat × Nat)} {g g' : Nat × Nat} (H : Grps b h p R (g :: T) N) (hg' : g' ∈ T ++ N) : Dis g g' := by
  have := H.dis
  rw [List.cons_append, List.pairwise_cons] at this
  exact this.1 g' hg'

/-- the ranks of places beside a group -/
theorem Grps.beside {b : List Nat} {h : Nat} {p R : Nat → Nat} {T N : List (Nat × Nat)} {g : Nat × Nat} (H : Grps b h p R (g :: T) N) (s : Nat) (hs : s < b.length) : (s < g.1 → R (p s) < g.1) ∧ (g.2 ≤ s → g.2 ≤ R (p s)) := by
  have hg := H.grp g (by simp)
  constructor
  · intro h1
    have := (H.good.fst s hs).1
    omega
  · intro h1
    have h2 : g.1 ≤ R (p s) := by
      have := H.good.sorted g.1 s (by have := hg.1; omega) hs
      rw [hg.2.2 g.1 (Nat.le_refl _) hg.1] at this
      exact this
    rcases Nat.lt_or_ge (R (p s)) g.2 with h3 | h3
    · exfalso
      have h4 := hg.2.2 (R (p s)) h2 h3
      rw [(H.good.fst s hs).2] at h4
      obtain ⟨g', hg', h5, h6⟩ := H.cov g.1 s (by have := hg.1; omega) hs (by rw [h4]; exact hg.2.2 g.1 (Nat.le_refl _) hg.1)
      rw [List.cons_append, List.mem_cons] at hg'
      rcases hg' with rfl | hg'
      · omega
      · have := H.dis_of hg'
        unfold Dis at this
        have := hg.1
        omega
    · exact h3

theorem Grps.part {b : List Nat} {h : Nat} {p R R' f : Nat → Nat} {T N ps : List (Nat × Nat)} {g : Nat × Nat} (H : Grps b h p R (g :: T) N) (hs : ∀ r s, g.1 ≤ r → r < s → s < g.2 → f (p r) ≤ f (p s))
    (hf : ∀ r s, g.1 ≤ r → r < g.2 → g.1 ≤ s → s < g.2 → f (p r) < f (p s) → LtR b (p r) (p s)) (hc : Cut f p g.1 g.2 ps) (hr : Ranked b.length p R R' g.1 g.2 ps) : Grps b h p R' T (N ++ wide ps) := by
  have hg := H.grp g (by simp)
  have hg2 := hg.2.1
  have G := H.good
  have hin : ∀ r, g.1 ≤ r → r < g.2 → ∃ q, q ∈ ps ∧ (q.1 ≤ r ∧ r < q.2) ∧ R' (p r) = q.1 ∧ g.1 ≤ q.1 ∧ q.2 ≤ g.2 := fun r h1 h2 => by
    obtain ⟨q, hq, h3, h4⟩ := hc.cov r h1 h2
    have := hc.rng q hq
    exact ⟨q, hq, ⟨h3, h4⟩, hr.new q hq r h3 h4, by omega, by omega⟩
  have hout : ∀ r, r < b.length → (r < g.1 ∨ g.2 ≤ r) → R' (p r) = R (p r) := fun r h1 h2 => hr.old (p r) (G.mem r h1) fun r' h3 h4 e => by
    have := G.inj r' r (by omega) h1 e
    omega
  have hbs := H.beside
  have hgd : Good b h p R' := by
    refine ⟨G.mem, G.inj, G.onto, ?_, ?_, ?_, ?_⟩
    · intro i k hi hk hlt
      obtain ⟨r, hr1, rfl⟩ := G.onto i hi
      obtain ⟨s, hs1, rfl⟩ := G.onto k hk
      by_cases c1 : g.1 ≤ r ∧ r < g.2 <;> by_cases c2 : g.1 ≤ s ∧ s < g.2
      · obtain ⟨q, hq, hqr, e1, _, _⟩ := hin r c1.1 c1.2
        obtain ⟨q', hq', hqs, e2, _, _⟩ := hin s c2.1 c2.2
        rw [e1, e2] at hlt
        exact hf r s c1.1 c1.2 c2.1 c2.2 (hc.lt hs hq hq' hqr hqs hlt)
      · obtain ⟨q, hq, hqr, e1, h1, h2⟩ := hin r c1.1 c1.2
        rw [e1, hout s hs1 (by omega)] at hlt
        have h3 := hbs s hs1
        refine G.lt _ _ hi hk ?_
        rw [hg.2.2 r c1.1 c1.2]
        omega
      · obtain ⟨q, hq, hqr, e1, h1, h2⟩ := hin s c2.1 c2.2
        rw [e1, hout r hr1 (by omega)] at hlt
        have h3 := hbs r hr1
        refine G.lt _ _ hi hk ?_
        rw [hg.2.2 s c2.1 c2.2]
        omega
      · rw [hout r hr1 (by omega), hout s hs1 (by omega)] at hlt
        exact G.lt _ _ hi hk hlt
    · intro i k hi hk he
      obtain ⟨r, hr1, rfl⟩ := G.onto i hi
      obtain ⟨s, hs1, rfl⟩ := G.onto k hk
      refine G.eq _ _ hi hk ?_
      by_cases c1 : g.1 ≤ r ∧ r < g.2 <;> by_cases c2 : g.1 ≤ s ∧ s < g.2
      · rw [hg.2.2 r c1.1 c1.2, hg.2.2 s c2.1 c2.2]
      · obtain ⟨q, hq, hqr, e1, h1, h2⟩ := hin r c1.1 c1.2
        rw [e1, hout s hs1 (by omega)] at he
        have h3 := hbs s hs1
        omega
      · obtain ⟨q, hq, hqr, e1, h1, h2⟩ := hin s c2.1 c2.2
        rw [e1, hout r hr1 (by omega)] at he
        have h3 := hbs r hr1
        omega
      · rw [hout r hr1 (by omega), hout s hs1 (by omega)] at he
        exact he
    · intro r s hrs hs1
      have hr1 : r < b.length := by omega
      by_cases c1 : g.1 ≤ r ∧ r < g.2 <;> by_cases c2 : g.1 ≤ s ∧ s < g.2
      · obtain ⟨q, hq, hqr, e1, _, _⟩ := hin r c1.1 c1.2
        obtain ⟨q', hq', hqs, e2, _, _⟩ := hin s c2.1 c2.2
        rw [e1, e2]
        rcases Nat.lt_or_ge q'.1 q.1 with h1 | h1
        · have := hc.lt hs hq' hq hqs hqr h1
          have := hs r s c1.1 hrs c2.2
          omega
        · exact h1
      · obtain ⟨q, hq, hqr, e1, h1, h2⟩ := hin r c1.1 c1.2
        rw [e1, hout s hs1 (by omega)]
        have h3 := hbs s hs1
        omega
      · obtain ⟨q, hq, hqr, e1, h1, h2⟩ := hin s c2.1 c2.2
        rw [e1, hout r hr1 (by omega)]
        have h3 := hbs r hr1
        omega
      · rw [hout r hr1 (by omega), hout s hs1 (by omega)]
        exact G.sorted r s hrs hs1
    · intro r hr1
      by_cases c1 : g.1 ≤ r ∧ r < g.2
      · obtain ⟨q, hq, hqr, e1, h1, h2⟩ := hin r c1.1 c1.2
        rw [e1]
        exact ⟨hqr.1, hr.new q hq q.1 (Nat.le_refl _) (hc.rng q hq).2.1⟩
      · have h3 := hbs r hr1
        have h4 := G.fst r hr1
        rw [hout r hr1 (by omega), hout (R (p r)) (by omega) (by omega)]
        exact h4
  refine ⟨hgd, ?_, ?_, ?_⟩
  · intro g' hg'
    rw [← List.append_assoc, List.mem_append] at hg'
    rcases hg' with hg' | hg'
    · have h1 := H.grp g' (by rw [List.cons_append]; exact List.mem_cons_of_mem _ hg')
      have h2 := H.dis_of hg'
      unfold Dis at h2
      refine ⟨h1.1, h1.2.1, fun r h3 h4 => ?_⟩
      rw [hout r (by have := h1.2.1; omega) (by omega)]
      exact h1.2.2 r h3 h4
    · have h1 := hc.rng g' (mem_wide.1 hg').1
      exact ⟨h1.2.1, by omega, hr.new g' (mem_wide.1 hg').1⟩
  · rw [← List.append_assoc, List.pairwise_append]
    have h1 := H.dis
    rw [List.cons_append, List.pairwise_cons] at h1
    refine ⟨h1.2, (hc.dis.imp fun h => .inl h).filter _, fun g' hg' q hq => ?_⟩
    have h2 := h1.1 g' hg'
    have h3 := hc.rng q (mem_wide.1 hq).1
    unfold Dis at *
    omega
  · intro r s hrs hs1 he
    have hr1 : r < b.length := by omega
    by_cases c1 : g.1 ≤ r ∧ r < g.2 <;> by_cases c2 : g.1 ≤ s ∧ s < g.2
    · obtain ⟨q, hq, hqr, e1, _, _⟩ := hin r c1.1 c1.2
      obtain ⟨q', hq', hqs, e2, _, _⟩ := hin s c2.1 c2.2
      rw [e1, e2] at he
      have := hc.one hq hq' he
      subst this
      exact ⟨q, by simp [mem_wide, hq]; omega, hqr.1, hqs.2⟩
    · obtain ⟨q, hq, hqr, e1, h1, h2⟩ := hin r c1.1 c1.2
      rw [e1, hout s hs1 (by omega)] at he
      have h3 := hbs s hs1
      omega
    · obtain ⟨q, hq, hqr, e1, h1, h2⟩ := hin s c2.1 c2.2
      rw [e1, hout r hr1 (by omega)] at he
      have h3 := hbs r hr1
      omega
    · rw [hout r hr1 (by omega), hout s hs1 (by omega)] at he
      obtain ⟨g', hg', h1, h2⟩ := H.cov r s hrs hs1 he
      rw [List.cons_append, List.mem_cons] at hg'
      rcases hg' with rfl | hg'
      · omega
      · exact ⟨g', by rw [← List.append_assoc]; exact List.mem_append_left _ hg', h1, h2⟩

/-- a round, some groups being done -/
structure Mid (b : List Nat) (h : Nat) (R0 p R : Nat → Nat) (T N : List (Nat × Nat)) (parted : Bool) : Prop where
  grps : Grps b h p R T N
  new : ∀ g, g ∈ N → ∀ r s, g.1 ≤ r → r < g.2 → g.1 ≤ s → s < g.2 → EqTo b (h + h) (p r) (p s)
  same : parted = false → (∀ i, i < b.length → R i = R0 i) ∧ ∀ g, g ∈ N → ∀ r s, g.1 ≤ r → r < g.2 → g.1 ≤ s → s < g.2 → R0 ((p r + h) % b.length) = R0 ((p s + h) % b.length)

theorem Mid.step {b : List Nat} {h : Nat} {R0 p p' R R' : Nat → Nat} {T N ps : List (Nat × Nat)} {g : Nat × Nat} {parted : Bool} (H : Mid b h R0 p R (g :: T) N parted) (hp : Perm b.length p p' g.1 g.2)
    (hs : ∀ r s, g.1 ≤ r → r < s → s < g.2 → R ((p' r + h) % b.length) ≤ R ((p' s + h) % b.length)) (hc : Cut (fun x => R ((x + h) % b.length)) p' g.1 g.2 ps) (hr : Ranked b.length p' R R' g.1 g.2 ps) : Mid b h R0 p' R' T (N ++ wide ps) (decide (1 < ps.length) || parted) := by
  have hg := H.grps.grp g (by simp)
  have hg1 := hg.1
  have hg2 := hg.2.1
  have H' := H.grps.perm hg hp
  have hg' := H'.grp g (by simp)
  have hb : 0 < b.length := by omega
  have hm : ∀ x, x % b.length < b.length := fun x => Nat.mod_lt _ hb
  have hN : ∀ g', g' ∈ N → ∀ r, g'.1 ≤ r → r < g'.2 → p' r = p r := fun g' hg' r h1 h2 => by
    have h3 := H.grps.dis_of (List.mem_append_right T hg')
    have h4 := (H.grps.grp g' (by simp [hg'])).2.1
    unfold Dis at h3
    exact hp.out r (by omega) (by omega)
  have hq : ∀ q, q ∈ ps → ∀ r s, q.1 ≤ r → r < q.2 → q.1 ≤ s → s < q.2 → R ((p' r + h) % b.length) = R ((p' s + h) % b.length) := fun q hq r s h1 h2 h3 h4 => hc.same hq hq ⟨h1, h2⟩ ⟨h3, h4⟩ rfl
  refine ⟨H'.part hs ?_ hc hr, ?_, ?_⟩
  · intro r s h1 h2 h3 h4 hlt
    exact LtR.shift (H'.good.eq _ _ (H'.good.mem r (by omega)) (H'.good.mem s (by omega)) (by rw [hg'.2.2 r h1 h2, hg'.2.2 s h3 h4])) (H'.good.lt _ _ (hm _) (hm _) hlt)
  · intro q hq1 r s h1 h2 h3 h4
    rcases List.mem_append.1 hq1 with hq1 | hq1
    · rw [hN q hq1 r h1 h2, hN q hq1 s h3 h4]
      exact H.new q hq1 r s h1 h2 h3 h4
    · have hq2 := (mem_wide.1 hq1).1
      have hrg := hc.rng q hq2
      exact (H'.good.eq _ _ (H'.good.mem r (by omega)) (H'.good.mem s (by omega)) (by rw [hg'.2.2 r (by omega) (by omega), hg'.2.2 s (by omega) (by omega)])).add (H'.good.eq _ _ (hm _) (hm _) (hq q hq2 r s h1 h2 h3 h4))
  · intro hpt
    rw [Bool.or_eq_false_iff, decide_eq_false_iff_not] at hpt
    obtain ⟨e1, e2⟩ := H.same hpt.2
    have hR : ∀ i, i < b.length → R' i = R i := by
      obtain ⟨q, hq1, hq2, hq3⟩ := hc.cov g.1 (Nat.le_refl _) hg1
      have hrg := hc.rng q hq1
      have hall : ∀ r, g.1 ≤ r → r < g.2 → R' (p' r) = g.1 := fun r h1 h2 => by
        obtain ⟨q', hq1', hq2', hq3'⟩ := hc.cov r h1 h2
        have : q' = q := by
          match ps, hpt.1, hq1, hq1' with
          | [x], _, hx, hx' => simp at hx hx'; rw [hx, hx']
          | x :: y :: l, hlen, _, _ => exact absurd (by simp) hlen
        subst this
        rw [hr.new q' hq1' r hq2' hq3']
        omega
      intro i hi
      obtain ⟨r, hr1, rfl⟩ := H'.good.onto i hi
      by_cases c : g.1 ≤ r ∧ r < g.2
      · rw [hall r c.1 c.2, hg'.2.2 r c.1 c.2]
      · refine hr.old _ hi fun r' h1 h2 e => ?_
        have := H'.good.inj r' r (by omega) hr1 e
        omega
    refine ⟨fun i hi => by rw [hR i hi, e1 i hi], fun q hq1 r s h1 h2 h3 h4 => ?_⟩
    rcases List.mem_append.1 hq1 with hq1 | hq1
    · rw [hN q hq1 r h1 h2, hN q hq1 s h3 h4]
      exact e2 q hq1 r s h1 h2 h3 h4
    · rw [← e1 _ (hm _), ← e1 _ (hm _)]
      exact hq q (mem_wide.1 hq1).1 r s h1 h2 h3 h4

theorem Mid.start {b : List Nat} {h : Nat} {p R : Nat → Nat} {T : List (Nat × Nat)} (H : Grps b h p R T []) : Mid b h R p R T [] false :=
  ⟨H, fun g hg => by simp at hg, fun _ => ⟨fun _ _ => rfl, fun g hg => by simp at hg⟩⟩

theorem Good.more {b : List Nat} {h h' : Nat} {p R : Nat → Nat} (G : Good b h p R) (he : ∀ i k, i < b.length → k < b.length → R i = R k → EqTo b h' i k) : Good b h' p R := ⟨G.mem, G.inj, G.onto, G.lt, he, G.sorted, G.fst⟩

theorem Mid.pair {b : List Nat} {h : Nat} {R0 p R : Nat → Nat} {N : List (Nat × Nat)} {parted : Bool} (H : Mid b h R0 p R [] N parted) (i k : Nat) (hi : i < b.length) (hk : k < b.length) (he : R i = R k) : i = k ∨ ∃ g, g ∈ N ∧ ∃ r s, g.1 ≤ r ∧ r < g.2 ∧ g.1 ≤ s ∧ s < g.2 ∧ p r = i ∧ p s = k := by
  obtain ⟨r, hr1, rfl⟩ := H.grps.good.onto i hi
  obtain ⟨s, hs1, rfl⟩ := H.grps.good.onto k hk
  rcases Nat.lt_trichotomy r s with h1 | h1 | h1
  · obtain ⟨g, hg, h2, h3⟩ := H.grps.cov r s h1 hs1 he
    exact .inr ⟨g, by simpa using hg, r, s, h2, by omega, by omega, h3, rfl, rfl⟩
  · subst h1; exact .inl rfl
  · obtain ⟨g, hg, h2, h3⟩ := H.grps.cov s r h1 hr1 he.symm
    exact .inr ⟨g, by simpa using hg, r, s, by omega, h3, h2, by omega, rfl, rfl⟩

/-- behind a round -/
theorem Mid.done {b : List Nat} {h : Nat} {R0 p R : Nat → Nat} {N : List (Nat × Nat)} {parted : Bool} (H : Mid b h R0 p R [] N parted) : Grps b (h + h) p R N [] := by
  refine ⟨H.grps.good.more fun i k hi hk he => ?_, fun g hg => H.grps.grp g (by simpa using hg), by simpa using H.grps.dis, fun r s h1 h2 h3 => by simpa using H.grps.cov r s h1 h2 h3⟩
  rcases H.pair i k hi hk he with rfl | ⟨g, hg, r, s, h1, h2, h3, h4, rfl, rfl⟩
  · exact fun m _ => rfl
  · exact H.new g hg r s h1 h2 h3 h4

/-- behind a round that parted none, those of a group are like one another -/
theorem Mid.like {b : List Nat} {h : Nat} {R0 p R : Nat → Nat} {N : List (Nat × Nat)} (H : Mid b h R0 p R [] N false) (hh : 0 < h) (i k : Nat) (hi : i < b.length) (hk : k < b.length) (he : R i = R k) : rot b i = rot b k := by
  have hb : 0 < b.length := by omega
  have hm : ∀ x, x % b.length < b.length := fun x => Nat.mod_lt _ hb
  obtain ⟨e1, e2⟩ := H.same rfl
  have key : ∀ j i k, i < b.length → k < b.length → R i = R k → EqTo b (j * h) i k := by
    intro j
    induction j with
    | zero => intro i k _ _ _ m hm; omega
    | succ j ih =>
      intro i k hi hk he
      rw [Nat.add_mul, Nat.one_mul, Nat.add_comm]
      refine (H.grps.good.eq i k hi hk he).add (ih _ _ (hm _) (hm _) ?_)
      rcases H.pair i k hi hk he with rfl | ⟨g, hg, r, s, h1, h2, h3, h4, rfl, rfl⟩
      · rfl
      · rw [e1 _ (hm _), e1 _ (hm _)]
        exact e2 g hg r s h1 h2 h3 h4
  exact (key b.length i k hi hk he).rot (Nat.le_mul_of_pos_right _ hh)

/-- the end: those of a group are like one another; some groups stand by their places -/
structure Fin' (b : List Nat) (p R : Nat → Nat) (T N : List (Nat × Nat)) : Prop where
  grps : ∃ h, Grps b h p R T N
  like : ∀ i k, i < b.length → k < b.length → R i = R k → rot b i = rot b k
  asc : ∀ g, g ∈ N → ∀ r s, g.1 ≤ r → r < s → s < g.2 → p r < p s

theorem Fin'.step {b : List Nat} {p p' R : Nat → Nat} {T N : List (Nat × Nat)} {g : Nat × Nat} (H : Fin' b p R (g :: T) N) (hp : Perm b.length p p' g.1 g.2) (ha : ∀ r s, g.1 ≤ r → r < s → s < g.2 → p' r < p' s) : Fin' b p' R T (N ++ [g]) := by
  obtain ⟨h, H1⟩ := H.grps
  have hg := H1.grp g (by simp)
  have H2 := H1.perm hg hp
  have hN : ∀ g', g' ∈ N → ∀ r, g'.1 ≤ r → r < g'.2 → p' r = p r := fun g' hg' r h1 h2 => by
    have h3 := H1.dis_of (List.mem_append_right T hg')
    have h4 := (H1.grp g' (by simp [hg'])).2.1
    unfold Dis at h3
    exact hp.out r (by omega) (by omega)
  have hpm : (T ++ (N ++ [g])).Perm ((g :: T) ++ N) := by
    rw [← List.append_assoc, List.cons_append]
    exact List.perm_append_singleton g (T ++ N)
  refine ⟨⟨h, H2.good, fun g' hg' => H2.grp g' (hpm.mem_iff.1 hg'), (hpm.pairwise_iff (fun h => Dis.symm h)).2 H2.dis, fun r s h1 h2 h3 => ?_⟩, H.like, fun g' hg' r s h1 h2 h3 => ?_⟩
  · obtain ⟨q, hq, h4⟩ := H2.cov r s h1 h2 h3
    exact ⟨q, hpm.mem_iff.2 hq, h4⟩
  · rcases List.mem_append.1 hg' with hg' | hg'
    · rw [hN g' hg' r h1 (by omega), hN g' hg' s (by omega) h3]
      exact H.asc g' hg' r s h1 h2 h3
    · simp at hg'
      subst hg'
      exact ha r s h1 h2 h3

theorem Fin'.rows {b : List Nat} {p R : Nat → Nat} {N : List (Nat × Nat)} (H : Fin' b p R [] N) : IsRows b ((List.range b.length).map p) := by
  obtain ⟨h, H1⟩ := H.grps
  have G := H1.good
  have hpw : ((List.range b.length).map p).Pairwise (Ahead b) := by
    rw [List.pairwise_map]
    refine List.Pairwise.imp_of_mem ?_ (List.pairwise_lt_range (n := b.length))
    intro r s hr hs hrs
    have hr := List.mem_range.1 hr
    have hs := List.mem_range.1 hs
    rcases Nat.lt_or_ge (R (p r)) (R (p s)) with h1 | h1
    · exact (G.lt _ _ (G.mem r hr) (G.mem s hs) h1).ahead (by omega)
    · have h2 := G.sorted r s hrs hs
      have h3 : R (p r) = R (p s) := by omega
      obtain ⟨g, hg, h4, h5⟩ := H1.cov r s hrs hs h3
      have e := H.like _ _ (G.mem r hr) (G.mem s hs) h3
      exact ⟨by rw [e]; exact List.le_refl _, fun _ => H.asc g (by simpa using hg) r s h4 hrs h5⟩
  refine ⟨?_, hpw⟩
  rw [List.perm_ext_iff_of_nodup]
  · intro i
    rw [List.mem_map, List.mem_range]
    constructor
    · rintro ⟨r, hr, rfl⟩
      exact G.mem r (List.mem_range.1 hr)
    · intro hi
      obtain ⟨r, hr, e⟩ := G.onto i hi
      exact ⟨r, List.mem_range.2 hr, e⟩
  · rw [List.nodup_iff_pairwise_ne]
    refine hpw.imp ?_
    rintro i k hik rfl
    exact ahead_irrefl hik
  · exact List.nodup_range

/-- the beginning: all places, sorted by their first bytes -/
theorem Grps.begin {b : List Nat} {h : Nat} {p R R' f : Nat → Nat} {ps : List (Nat × Nat)} (hmem : ∀ r, r < b.length → p r < b.length) (hinj : ∀ r s, r < b.length → s < b.length → p r = p s → r = s) (honto : ∀ i, i < b.length → ∃ r, r < b.length ∧ p r = i)
    (hs : ∀ r s, r < s → s < b.length → f (p r) ≤ f (p s)) (hlt : ∀ i k, i < b.length → k < b.length → f i < f k → LtR b i k) (heq : ∀ i k, i < b.length → k < b.length → f i = f k → EqTo b h i k) (hc : Cut f p 0 b.length ps) (hr : Ranked b.length p R R' 0 b.length ps) : Grps b h p R' (wide ps) [] := by
  have hin : ∀ r, r < b.length → ∃ q, q ∈ ps ∧ (q.1 ≤ r ∧ r < q.2) ∧ R' (p r) = q.1 := fun r h2 => by
    obtain ⟨q, hq, h3, h4⟩ := hc.cov r (Nat.zero_le _) h2
    exact ⟨q, hq, ⟨h3, h4⟩, hr.new q hq r h3 h4⟩
  have hs' : ∀ r s, 0 ≤ r → r < s → s < b.length → f (p r) ≤ f (p s) := fun r s _ h1 h2 => hs r s h1 h2
  refine ⟨⟨hmem, hinj, honto, ?_, ?_, ?_, ?_⟩, ?_, ?_, ?_⟩
  · intro i k hi hk h1
    obtain ⟨r, hr1, rfl⟩ := honto i hi
    obtain ⟨s, hs1, rfl⟩ := honto k hk
    obtain ⟨q, hq, hqr, e1⟩ := hin r hr1
    obtain ⟨q', hq', hqs, e2⟩ := hin s hs1
    rw [e1, e2] at h1
    exact hlt _ _ hi hk (hc.lt hs' hq hq' hqr hqs h1)
  · intro i k hi hk h1
    obtain ⟨r, hr1, rfl⟩ := honto i hi
    obtain ⟨s, hs1, rfl⟩ := honto k hk
    obtain ⟨q, hq, hqr, e1⟩ := hin r hr1
    obtain ⟨q', hq', hqs, e2⟩ := hin s hs1
    rw [e1, e2] at h1
    exact heq _ _ hi hk (hc.same hq hq' hqr hqs h1)
  · intro r s hrs hs1
    obtain ⟨q, hq, hqr, e1⟩ := hin r (by omega)
    obtain ⟨q', hq', hqs, e2⟩ := hin s hs1
    rw [e1, e2]
    rcases Nat.lt_or_ge q'.1 q.1 with h1 | h1
    · have := hc.lt hs' hq' hq hqs hqr h1
      have := hs r s hrs hs1
      omega
    · exact h1
  · intro r hr1
    obtain ⟨q, hq, hqr, e1⟩ := hin r hr1
    rw [e1]
    exact ⟨hqr.1, hr.new q hq q.1 (Nat.le_refl _) (hc.rng q hq).2.1⟩
  · intro q hq
    rw [List.append_nil] at hq
    have h1 := hc.rng q (mem_wide.1 hq).1
    exact ⟨h1.2.1, h1.2.2, hr.new q (mem_wide.1 hq).1⟩
  · rw [List.append_nil]
    exact (hc.dis.imp fun h => .inl h).filter _
  · intro r s hrs hs1 he
    obtain ⟨q, hq, hqr, e1⟩ := hin r (by omega)
    obtain ⟨q', hq', hqs, e2⟩ := hin s hs1
    rw [e1, e2] at he
    have := hc.one hq hq' he
    subst this
    exact ⟨q, by simp [mem_wide, hq]; omega, hqr.1, hqs.2⟩

theorem Fin'.of {b : List Nat} {h : Nat} {p R : Nat → Nat} {T : List (Nat × Nat)} (H : Grps b h p R T []) (hl : ∀ i k, i < b.length → k < b.length → R i = R k → rot b i = rot b k) : Fin' b p R T [] := ⟨⟨h, H⟩, hl, fun g hg => by simp at hg⟩

end Go.Proofs.Ytpemgjcgcmleiaa.Suf
