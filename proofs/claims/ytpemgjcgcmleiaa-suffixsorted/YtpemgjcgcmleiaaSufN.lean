/- A column's places by their bytes; rows that are put in one by one. -/
import Derived.Test.YtpemgjcgcmleiaaSufM
namespace Go.Proofs.Ytpemgjcgcmleiaa.Suf
set_option linter.unusedVariables false

/-- the places of a byte -/
def spots (c : List Nat) (v : Nat) : List Nat := (List.range c.length).filter fun i => c.getD i 0 == v

/-- byte by byte -/
def nextF (c : List Nat) (k : Nat) : List Nat := ((List.range k).map (spots c)).flatten

theorem mem_spots {c : List Nat} {v i : Nat} : i ∈ spots c v ↔ i < c.length ∧ c.getD i 0 = v := by
  unfold spots
  rw [List.mem_filter, List.mem_range, beq_iff_eq]

theorem nextF_sorted (c : List Nat) (k : Nat) : (nextF c k).Pairwise fun x y => c.getD x 0 < c.getD y 0 ∨ (c.getD x 0 = c.getD y 0 ∧ x < y) := by
  unfold nextF
  rw [List.pairwise_flatten]
  constructor
  · intro l hl
    obtain ⟨v, _, rfl⟩ := List.mem_map.1 hl
    refine List.Pairwise.imp_of_mem ?_ ((List.pairwise_lt_range (n := c.length)).filter _)
    intro x y hx hy h
    rw [mem_spots] at hx hy
    exact .inr ⟨by rw [hx.2, hy.2], h⟩
  · rw [List.pairwise_map]
    refine List.Pairwise.imp ?_ (List.pairwise_lt_range (n := k))
    intro v u h x hx y hy
    rw [mem_spots] at hx hy
    exact .inl (by omega)

theorem nextF_is {c : List Nat} (h : ∀ z ∈ c, z < 256) : IsNext c (nextF c 256) := by
  refine ⟨?_, nextF_sorted c 256⟩
  rw [List.perm_ext_iff_of_nodup]
  · intro i
    unfold nextF
    rw [List.mem_flatten, List.mem_range]
    constructor
    · rintro ⟨l, hl, hi⟩
      obtain ⟨v, _, rfl⟩ := List.mem_map.1 hl
      exact (mem_spots.1 hi).1
    · intro hi
      exact ⟨_, List.mem_map.2 ⟨c.getD i 0, List.mem_range.2 (h _ (getD_mem hi)), rfl⟩, mem_spots.2 ⟨hi, rfl⟩⟩
  · rw [List.nodup_iff_pairwise_ne]
    refine List.Pairwise.imp ?_ (nextF_sorted c 256)
    rintro x y hxy rfl
    omega
  · exact List.nodup_range

theorem nextF_succ (c : List Nat) (k : Nat) : nextF c (k + 1) = nextF c k ++ spots c k := by
  unfold nextF
  rw [List.range_succ, List.map_append, List.flatten_append, List.map_singleton, List.flatten_singleton]

/-- does the turning at one place stand ahead of that at another? -/
def Ahead (b : List Nat) (i k : Nat) : Prop := rot b i ≤ rot b k ∧ (rot b i = rot b k → i < k)

theorem ahead_irrefl {b : List Nat} {i : Nat} (h : Ahead b i i) : False := Nat.lt_irrefl _ (h.2 rfl)

theorem ahead_trans {b : List Nat} {i k j : Nat} (h : Ahead b i k) (h' : Ahead b k j) : Ahead b i j := by
  refine ⟨List.le_trans h.1 h'.1, fun e => ?_⟩
  have e1 : rot b i = rot b k := List.le_antisymm h.1 (by rw [e]; exact h'.1)
  have e2 : rot b k = rot b j := by rw [← e1, e]
  have a1 := h.2 e1
  have a2 := h'.2 e2
  omega

theorem ahead_total {b : List Nat} {i k : Nat} (h : i ≠ k) : Ahead b i k ∨ Ahead b k i := by
  by_cases e : rot b i = rot b k
  · rcases Nat.lt_or_ge i k with hl | hg
    · exact .inl ⟨by rw [e]; exact List.le_refl _, fun _ => hl⟩
    · exact .inr ⟨by rw [e]; exact List.le_refl _, fun _ => by omega⟩
  · rcases List.le_total (rot b i) (rot b k) with hl | hl
    · exact .inl ⟨hl, fun e' => absurd e' e⟩
    · exact .inr ⟨hl, fun e' => absurd e'.symm e⟩

/-- by the first byte that is another one -/
theorem ahead_by {b : List Nat} {i k n : Nat} (hn : n < b.length) (he : ∀ m, m < n → tw b i m = tw b k m) (hlt : tw b i n < tw b k n) : Ahead b i k := by
  have key : ∀ (n : Nat) (f g : Nat → Nat) (N : Nat), n < N → (∀ m, m < n → f m = g m) → f n < g n → (List.range N).map f < (List.range N).map g := by
    intro n
    induction n with
    | zero =>
      intro f g N hN _ h
      obtain ⟨M, rfl⟩ : ∃ M, N = M + 1 := ⟨N - 1, by omega⟩
      rw [List.range_succ_eq_map, List.map_cons, List.map_cons, List.cons_lt_cons_iff]
      exact .inl h
    | succ n ih =>
      intro f g N hN he h
      obtain ⟨M, rfl⟩ : ∃ M, N = M + 1 := ⟨N - 1, by omega⟩
      rw [List.range_succ_eq_map, List.map_cons, List.map_cons, List.cons_lt_cons_iff, List.map_map, List.map_map]
      exact .inr ⟨he 0 (by omega), ih (f ∘ Nat.succ) (g ∘ Nat.succ) M (by omega) (fun m hm => he (m + 1) (by omega)) h⟩
  have hr := key n (tw b i) (tw b k) b.length hn he hlt
  refine ⟨List.le_of_lt hr, fun e => ?_⟩
  unfold rot at e
  rw [e] at hr
  exact absurd hr (List.lt_irrefl _)

theorem rot_same {b : List Nat} {i k : Nat} (he : ∀ m, m < b.length → tw b i m = tw b k m) : rot b i = rot b k := by
  unfold rot
  exact List.map_congr_left fun m hm => he m (List.mem_range.1 hm)

/-- a place is put in where it belongs -/
theorem put_in {b A B : List Nat} {i : Nat} (h : (A ++ B).Pairwise (Ahead b)) (hA : A = [] ∨ ∃ A' x, A = A' ++ [x] ∧ Ahead b x i) (hB : ∀ x ∈ B, Ahead b i x) : (A ++ i :: B).Pairwise (Ahead b) := by
  rw [List.pairwise_append] at h ⊢
  obtain ⟨h1, h2, h3⟩ := h
  have hAi : ∀ x ∈ A, Ahead b x i := by
    rcases hA with rfl | ⟨A', y, rfl, hy⟩
    · intro x hx; simp at hx
    · intro x hx
      rw [List.mem_append, List.mem_singleton] at hx
      rcases hx with hx | rfl
      · rw [List.pairwise_append] at h1
        exact ahead_trans (h1.2.2 x hx y (by simp)) hy
      · exact hy
  refine ⟨h1, List.pairwise_cons.2 ⟨hB, h2⟩, fun x hx y hy => ?_⟩
  rw [List.mem_cons] at hy
  rcases hy with rfl | hy
  · exact hAi x hx
  · exact h3 x hx y hy

theorem rows_of {b l : List Nat} (hp : l.Perm (List.range b.length)) (hs : l.Pairwise (Ahead b)) : IsRows b l := ⟨hp, hs⟩

/-- the row of place 0 -/
theorem row_of {b l : List Nat} (h : IsRows b l) (hb : 0 < b.length) : ∃ r, r < b.length ∧ l.getD r 0 = 0 ∧ ∀ q, q < b.length → l.getD q 0 = 0 → q = r := by
  have hm : 0 ∈ l := h.perm.mem_iff.2 (List.mem_range.2 hb)
  obtain ⟨r, hr, e⟩ := List.getElem_of_mem hm
  have hd : l.Nodup := h.perm.nodup_iff.2 List.nodup_range
  have ge : ∀ q (hq : q < l.length), l.getD q 0 = l[q] := fun q hq => by simp [List.getD_eq_getElem?_getD, List.getElem?_eq_getElem hq]
  refine ⟨r, by rw [← h.len]; exact hr, by rw [ge r hr, e], fun q hq hq0 => ?_⟩
  rw [← h.len] at hq
  rw [ge q hq, ← e] at hq0
  rcases Nat.lt_trichotomy q r with hlt | heq | hlt
  · exact absurd hq0 (List.pairwise_iff_getElem.1 (List.nodup_iff_pairwise_ne.1 hd) q r hq hr hlt)
  · exact heq
  · exact absurd hq0.symm (List.pairwise_iff_getElem.1 (List.nodup_iff_pairwise_ne.1 hd) r q hr hq hlt)

/-- the column has the text's bytes -/
theorem col_perm {b l : List Nat} (h : IsRows b l) : (col b l).Perm b := by
  have p1 : (col b l).Perm ((List.range b.length).map fun i => b.getD (prev b.length i) 0) := h.perm.map _
  have p2 : ((List.range b.length).map fun i => b.getD (prev b.length i) 0) = ((List.range b.length).map (prev b.length)).map fun i => b.getD i 0 := by rw [List.map_map]; rfl
  rw [p2] at p1
  refine p1.trans (((prev_perm _).map _).trans ?_)
  have := map_getD b id
  simp only [id, List.map_id_fun] at this
  rw [this]

end Go.Proofs.Ytpemgjcgcmleiaa.Suf
