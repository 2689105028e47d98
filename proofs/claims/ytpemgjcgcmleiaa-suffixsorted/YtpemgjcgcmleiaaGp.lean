/- Turnings in groups: the mathematics of the sort by doubling. -/
import Derived.Test.YtpemgjcgcmleiaaSufN
namespace Go.Proofs.Ytpemgjcgcmleiaa.Suf
set_option linter.unusedVariables false

/-- one turning stands ahead of another by a byte -/
def LtR (b : List Nat) (i k : Nat) : Prop := ∃ m, (∀ m', m' < m → tw b i m' = tw b k m') ∧ tw b i m < tw b k m

/-- two turnings begin with so many like bytes -/
def EqTo (b : List Nat) (h i k : Nat) : Prop := ∀ m, m < h → tw b i m = tw b k m

theorem tw_shift (b : List Nat) (i h m : Nat) : tw b ((i + h) % b.length) m = tw b i (h + m) := by
  unfold tw
  rw [Nat.mod_add_mod, Nat.add_assoc]

theorem LtR.shift {b : List Nat} {h i k : Nat} (he : EqTo b h i k) (hl : LtR b ((i + h) % b.length) ((k + h) % b.length)) : LtR b i k := by
  obtain ⟨m, h1, h2⟩ := hl
  rw [tw_shift, tw_shift] at h2
  refine ⟨h + m, fun m' hm' => ?_, h2⟩
  rcases Nat.lt_or_ge m' h with hlt | hge
  · exact he m' hlt
  · have := h1 (m' - h) (by omega)
    rw [tw_shift, tw_shift, show h + (m' - h) = m' by omega] at this
    exact this

theorem EqTo.add {b : List Nat} {h h' i k : Nat} (he : EqTo b h i k) (hl : EqTo b h' ((i + h) % b.length) ((k + h) % b.length)) : EqTo b (h + h') i k := by
  intro m hm
  rcases Nat.lt_or_ge m h with hlt | hge
  · exact he m hlt
  · have := hl (m - h) (by omega)
    rw [tw_shift, tw_shift, show h + (m - h) = m by omega] at this
    exact this

theorem LtR.ahead {b : List Nat} {i k : Nat} (h : LtR b i k) (hb : 0 < b.length) : Ahead b i k := by
  obtain ⟨m, h1, h2⟩ := h
  refine ahead_by ?_ h1 h2
  rcases Nat.lt_or_ge m b.length with hlt | hge
  · exact hlt
  · exfalso
    have hm : m % b.length < b.length := Nat.mod_lt _ hb
    have := h1 (m % b.length) (by omega)
    rw [tw_mod, tw_mod] at this
    omega

theorem EqTo.rot {b : List Nat} {h i k : Nat} (he : EqTo b h i k) (hn : b.length ≤ h) : rot b i = rot b k := rot_same fun m hm => he m (by omega)

/-- places in rows, and of each place the first row of its group -/
structure Good (b : List Nat) (h : Nat) (p R : Nat → Nat) : Prop where
  mem : ∀ r, r < b.length → p r < b.length
  inj : ∀ r s, r < b.length → s < b.length → p r = p s → r = s
  onto : ∀ i, i < b.length → ∃ r, r < b.length ∧ p r = i
  lt : ∀ i k, i < b.length → k < b.length → R i < R k → LtR b i k
  eq : ∀ i k, i < b.length → k < b.length → R i = R k → EqTo b h i k
  sorted : ∀ r s, r < s → s < b.length → R (p r) ≤ R (p s)
  fst : ∀ r, r < b.length → R (p r) ≤ r ∧ R (p (R (p r))) = R (p r)

/-- a group -/
def IsGrp (n : Nat) (p R : Nat → Nat) (g : Nat × Nat) : Prop := g.1 < g.2 ∧ g.2 ≤ n ∧ ∀ r, g.1 ≤ r → r < g.2 → R (p r) = g.1

def Dis (g g' : Nat × Nat) : Prop := g.2 ≤ g'.1 ∨ g'.2 ≤ g.1

theorem Dis.symm {g g' : Nat × Nat} (h : Dis g g') : Dis g' g := by unfold Dis at *; omega

/-- groups: those that are to be looked at, and new ones -/
structure Grps (b : List Nat) (h : Nat) (p R : Nat → Nat) (T N : List (Nat × Nat)) : Prop where
  good : Good b h p R
  grp : ∀ g, g ∈ T ++ N → IsGrp b.length p R g
  dis : (T ++ N).Pairwise Dis
  cov : ∀ r s, r < s → s < b.length → R (p r) = R (p s) → ∃ g, g ∈ T ++ N ∧ g.1 ≤ r ∧ s < g.2

/-- a segment's places in another order -/
structure Perm (n : Nat) (p p' : Nat → Nat) (a c : Nat) : Prop where
  out : ∀ r, r < n → (r < a ∨ c ≤ r) → p' r = p r
  seg : ∀ r, a ≤ r → r < c → ∃ s, a ≤ s ∧ s < c ∧ p' r = p s
  back : ∀ r, a ≤ r → r < c → ∃ s, a ≤ s ∧ s < c ∧ p r = p' s
  inj : ∀ r s, r < n → s < n → p' r = p' s → r = s

theorem Grps.same_rank {b : List Nat} {h : Nat} {p p' R : Nat → Nat} {g : Nat × Nat} (hg : IsGrp b.length p R g) (hp : Perm b.length p p' g.1 g.2) (r : Nat) (hr : r < b.length) : R (p' r) = R (p r) := by
  by_cases h1 : g.1 ≤ r ∧ r < g.2
  · obtain ⟨s, s1, s2, e⟩ := hp.seg r h1.1 h1.2
    rw [e, hg.2.2 s s1 s2, hg.2.2 r h1.1 h1.2]
  · rw [hp.out r hr (by omega)]

/-- within a group the order may change -/
theorem Grps.perm {b : List Nat} {h : Nat} {p p' R : Nat → Nat} {T N : List (Nat × Nat)} {g : Nat × Nat} (H : Grps b h p R T N) (hg : IsGrp b.length p R g) (hp : Perm b.length p p' g.1 g.2) : Grps b h p' R T N := by
  have e := Grps.same_rank (h := h) hg hp
  refine ⟨⟨?_, hp.inj, ?_, H.good.lt, H.good.eq, ?_, ?_⟩, ?_, H.dis, ?_⟩
  · intro r hr
    by_cases h1 : g.1 ≤ r ∧ r < g.2
    · obtain ⟨s, s1, s2, e⟩ := hp.seg r h1.1 h1.2
      rw [e]
      exact H.good.mem s (by have := hg.2.1; omega)
    · rw [hp.out r hr (by omega)]
      exact H.good.mem r hr
  · intro i hi
    obtain ⟨r, hr, rfl⟩ := H.good.onto i hi
    by_cases h1 : g.1 ≤ r ∧ r < g.2
    · obtain ⟨s, s1, s2, e⟩ := hp.back r h1.1 h1.2
      exact ⟨s, by have := hg.2.1; omega, e.symm⟩
    · exact ⟨r, hr, hp.out r hr (by omega)⟩
  · intro r s hrs hs
    rw [e r (by omega), e s hs]
    exact H.good.sorted r s hrs hs
  · intro r hr
    have h1 := H.good.fst r hr
    rw [e r hr, e (R (p r)) (by omega)]
    exact h1
  · intro q hq
    have h1 := H.grp q hq
    refine ⟨h1.1, h1.2.1, fun r h2 h3 => ?_⟩
    rw [e r (by have := h1.2.1; omega)]
    exact h1.2.2 r h2 h3
  · intro r s hrs hs he
    rw [e r (by omega), e s hs] at he
    exact H.cov r s hrs hs he

/-- a segment cut where a number changes -/
structure Cut (f p : Nat → Nat) (a c : Nat) (ps : List (Nat × Nat)) : Prop where
  cov : ∀ r, a ≤ r → r < c → ∃ q, q ∈ ps ∧ q.1 ≤ r ∧ r < q.2
  rng : ∀ q, q ∈ ps → a ≤ q.1 ∧ q.1 < q.2 ∧ q.2 ≤ c
  con : ∀ q, q ∈ ps → ∀ r, q.1 ≤ r → r < q.2 → f (p r) = f (p q.1)
  dif : ∀ q, q ∈ ps → a < q.1 → f (p (q.1 - 1)) ≠ f (p q.1)
  dis : ps.Pairwise fun q q' => q.2 ≤ q'.1

/-- within the loop that cuts -/
structure CutTo (f p : Nat → Nat) (a cur row : Nat) (ps : List (Nat × Nat)) : Prop where
  cut : Cut f p a cur ps
  le : a ≤ cur ∧ cur < row
  con : ∀ r, cur ≤ r → r < row → f (p r) = f (p cur)
  dif : a < cur → f (p (cur - 1)) ≠ f (p cur)

theorem CutTo.start (f p : Nat → Nat) (a : Nat) : CutTo f p a a (a + 1) [] :=
  ⟨⟨fun r h1 h2 => by omega, fun q hq => by simp at hq, fun q hq => by simp at hq, fun q hq => by simp at hq, List.Pairwise.nil⟩, by omega, fun r h1 h2 => by rw [show r = a by omega], fun h => by omega⟩

theorem CutTo.push {f p : Nat → Nat} {a cur row : Nat} {ps : List (Nat × Nat)} (h : CutTo f p a cur row ps) : Cut f p a row (ps ++ [(cur, row)]) := by
  have hle := h.le
  refine ⟨fun r h1 h2 => ?_, fun q hq => ?_, fun q hq => ?_, fun q hq => ?_, ?_⟩
  · rcases Nat.lt_or_ge r cur with h3 | h3
    · obtain ⟨q, hq, h4⟩ := h.cut.cov r h1 h3
      exact ⟨q, List.mem_append_left _ hq, h4⟩
    · exact ⟨(cur, row), by simp, h3, h2⟩
  · rcases List.mem_append.1 hq with hq | hq
    · have := h.cut.rng q hq
      omega
    · simp at hq
      subst hq
      dsimp only
      omega
  · rcases List.mem_append.1 hq with hq | hq
    · exact h.cut.con q hq
    · simp at hq
      subst hq
      exact h.con
  · rcases List.mem_append.1 hq with hq | hq
    · exact h.cut.dif q hq
    · simp at hq
      subst hq
      exact h.dif
  · rw [List.pairwise_append]
    refine ⟨h.cut.dis, by simp, fun q hq q' hq' => ?_⟩
    simp at hq'
    subst hq'
    exact (h.cut.rng q hq).2.2

theorem CutTo.next {f p : Nat → Nat} {a cur row : Nat} {ps : List (Nat × Nat)} (h : CutTo f p a cur row ps) (hd : f (p (row - 1)) ≠ f (p row)) : CutTo f p a row (row + 1) (ps ++ [(cur, row)]) :=
  ⟨h.push, by have := h.le; omega, fun r h1 h2 => by rw [show r = row by omega], fun _ => hd⟩

theorem CutTo.keep {f p : Nat → Nat} {a cur row : Nat} {ps : List (Nat × Nat)} (h : CutTo f p a cur row ps) (hd : f (p (row - 1)) = f (p row)) : CutTo f p a cur (row + 1) ps := by
  refine ⟨h.cut, by have := h.le; omega, fun r h1 h2 => ?_, h.dif⟩
  rcases Nat.lt_or_ge r row with h3 | h3
  · exact h.con r h1 h3
  · obtain rfl : r = row := by omega
    rw [← hd]
    exact h.con (r - 1) (by have := h.le; omega) (by have := h.le; omega)

theorem Cut.lt {f p : Nat → Nat} {a c : Nat} {ps : List (Nat × Nat)} (h : Cut f p a c ps) (hs : ∀ r s, a ≤ r → r < s → s < c → f (p r) ≤ f (p s)) {q q' : Nat × Nat} (hq : q ∈ ps) (hq' : q' ∈ ps) {r s : Nat} (hr : q.1 ≤ r ∧ r < q.2) (hs' : q'.1 ≤ s ∧ s < q'.2) (hlt : q.1 < q'.1) : f (p r) < f (p s) := by
  rw [h.con q hq r hr.1 hr.2, h.con q' hq' s hs'.1 hs'.2]
  have h1 := h.rng q hq
  have h2 := h.rng q' hq'
  have h3 := h.dif q' hq' (by omega)
  have h4 : f (p (q'.1 - 1)) ≤ f (p q'.1) := hs _ _ (by omega) (by omega) (by omega)
  have h5 : f (p q.1) ≤ f (p (q'.1 - 1)) := by
    rcases Nat.lt_or_ge q.1 (q'.1 - 1) with h6 | h6
    · exact hs _ _ (by omega) h6 (by omega)
    · rw [show q.1 = q'.1 - 1 by omega]
      exact Nat.le_refl _
  omega

theorem Cut.same {f p : Nat → Nat} {a c : Nat} {ps : List (Nat × Nat)} (h : Cut f p a c ps) {q q' : Nat × Nat} (hq : q ∈ ps) (hq' : q' ∈ ps) {r s : Nat} (hr : q.1 ≤ r ∧ r < q.2) (hs' : q'.1 ≤ s ∧ s < q'.2) (he : q.1 = q'.1) : f (p r) = f (p s) := by
  rw [h.con q hq r hr.1 hr.2, h.con q' hq' s hs'.1 hs'.2, he]

/-- pieces that begin alike are one -/
theorem Cut.one {f p : Nat → Nat} {a c : Nat} {ps : List (Nat × Nat)} (h : Cut f p a c ps) {q q' : Nat × Nat} (hq : q ∈ ps) (hq' : q' ∈ ps) (he : q.1 = q'.1) : q = q' := by
  have key : ∀ (l : List (Nat × Nat)), l.Pairwise (fun q q' => q.2 ≤ q'.1) → (∀ x ∈ l, x.1 < x.2) → q ∈ l → q' ∈ l → q = q' := by
    intro l
    induction l with
    | nil => intro _ _ h; simp at h
    | cons x l ih =>
      intro hp hx h1 h2
      rw [List.pairwise_cons] at hp
      rw [List.mem_cons] at h1 h2
      rcases h1 with rfl | h1 <;> rcases h2 with rfl | h2
      · rfl
      · have := hp.1 _ h2
        have := hx q (List.mem_cons_self ..)
        omega
      · have := hp.1 _ h1
        have := hx q' (List.mem_cons_self ..)
        omega
      · exact ih hp.2 (fun y hy => hx y (List.mem_cons_of_mem _ hy)) h1 h2
  exact key ps h.dis (fun x hx => (h.rng x hx).2.1) hq hq'

/-- the ranks behind a cut -/
structure Ranked (n : Nat) (p R R' : Nat → Nat) (a c : Nat) (ps : List (Nat × Nat)) : Prop where
  new : ∀ q, q ∈ ps → ∀ r, q.1 ≤ r → r < q.2 → R' (p r) = q.1
  old : ∀ x, x < n → (∀ r, a ≤ r → r < c → p r ≠ x) → R' x = R x

/-- the pieces of more than one -/
def wide (ps : List (Nat × Nat)) : List (Nat × Nat) := ps.filter fun q => decide (1 < q.2 - q.1)

theorem mem_wide {ps : List (Nat × Nat)} {q : Nat × Nat} : q ∈ wide ps ↔ q ∈ ps ∧ 1 < q.2 - q.1 := by
  unfold wide
  rw [List.mem_filter, decide_eq_true_iff]

end Go.Proofs.Ytpemgjcgcmleiaa.Suf
