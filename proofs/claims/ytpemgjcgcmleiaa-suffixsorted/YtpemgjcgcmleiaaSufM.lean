/- A text's turnings, sorted, and back: the mathematics of chapter 10. -/
namespace Go.Proofs.Ytpemgjcgcmleiaa.Suf
set_option linter.unusedVariables false

/-- the n-th byte of the turning at a place -/
def tw (b : List Nat) (i m : Nat) : Nat := b.getD ((i + m) % b.length) 0

/-- the turning at a place -/
def rot (b : List Nat) (i : Nat) : List Nat := (List.range b.length).map (tw b i)

/-- the place ahead -/
def prev (n i : Nat) : Nat := (i + n - 1) % n

/-- all turnings' places, sorted; like ones by their places -/
structure IsRows (b l : List Nat) : Prop where
  perm : l.Perm (List.range b.length)
  sorted : l.Pairwise fun i k => rot b i ≤ rot b k ∧ (rot b i = rot b k → i < k)

/-- the last bytes of the rows -/
def col (b l : List Nat) : List Nat := l.map fun i => b.getD (prev b.length i) 0

/-- a column's places by their bytes, of like ones rising -/
structure IsNext (c nx : List Nat) : Prop where
  perm : nx.Perm (List.range c.length)
  sorted : nx.Pairwise fun x y => c.getD x 0 < c.getD y 0 ∨ (c.getD x 0 = c.getD y 0 ∧ x < y)

theorem rot_length (b : List Nat) (i : Nat) : (rot b i).length = b.length := by simp [rot]

theorem IsRows.len {b l : List Nat} (h : IsRows b l) : l.length = b.length := by rw [h.perm.length_eq, List.length_range]
theorem IsNext.len {c nx : List Nat} (h : IsNext c nx) : nx.length = c.length := by rw [h.perm.length_eq, List.length_range]
theorem IsRows.lt {b l : List Nat} (h : IsRows b l) {i : Nat} (hi : i ∈ l) : i < b.length := List.mem_range.1 (h.perm.mem_iff.1 hi)
theorem IsNext.lt {c nx : List Nat} (h : IsNext c nx) {i : Nat} (hi : i ∈ nx) : i < c.length := List.mem_range.1 (h.perm.mem_iff.1 hi)

theorem getD_mem {l : List Nat} {r : Nat} (h : r < l.length) : l.getD r 0 ∈ l := by
  rw [List.getD_eq_getElem?_getD, List.getElem?_eq_getElem h]
  exact List.getElem_mem h

/-- there is one list of rows -/
theorem IsRows.one {b l l' : List Nat} (h : IsRows b l) (h' : IsRows b l') : l = l' := by
  refine List.Perm.eq_of_pairwise ?_ h.sorted h'.sorted (h.perm.trans h'.perm.symm)
  rintro i k _ _ ⟨h1, h2⟩ ⟨h3, h4⟩
  have e := List.le_antisymm h1 h3
  have a := h2 e
  have b := h4 e.symm
  omega

theorem IsNext.one {c nx nx' : List Nat} (h : IsNext c nx) (h' : IsNext c nx') : nx = nx' := by
  refine List.Perm.eq_of_pairwise ?_ h.sorted h'.sorted (h.perm.trans h'.perm.symm)
  intro i k _ _ h1 h2
  omega

theorem tw_mod (b : List Nat) (i m : Nat) : tw b i (m % b.length) = tw b i m := by
  unfold tw
  rw [Nat.add_mod_mod]

theorem rot_tw {b : List Nat} {i k : Nat} (h : rot b i = rot b k) (hb : 0 < b.length) (m : Nat) : tw b i m = tw b k m := by
  rw [← tw_mod b i, ← tw_mod b k]
  have hm : m % b.length < b.length := Nat.mod_lt _ hb
  have := congrArg (fun l => l.getD (m % b.length) 0) h
  simpa [rot, List.getD_eq_getElem?_getD, hm] using this

theorem tw_prev {b : List Nat} {i : Nat} (hi : i < b.length) (m : Nat) : tw b (prev b.length i) (m + 1) = tw b i m := by
  unfold tw prev
  congr 1
  rw [Nat.mod_add_mod, show i + b.length - 1 + (m + 1) = i + m + b.length by omega, Nat.add_mod_right]

theorem tw_zero {b : List Nat} {i : Nat} (hi : i < b.length) : tw b i 0 = b.getD i 0 := by
  unfold tw
  rw [Nat.add_zero, Nat.mod_eq_of_lt hi]

theorem prev_lt {n i : Nat} (h : i < n) : prev n i < n := Nat.mod_lt _ (by omega)

theorem rot_prev {b : List Nat} {i : Nat} (hi : i < b.length) : rot b (prev b.length i) = b.getD (prev b.length i) 0 :: (rot b i).dropLast := by
  obtain ⟨n, hn⟩ : ∃ n, b.length = n + 1 := ⟨b.length - 1, by omega⟩
  have e1 : rot b (prev b.length i) = tw b (prev b.length i) 0 :: (List.range n).map fun m => tw b (prev b.length i) (m + 1) := by
    unfold rot
    rw [hn, List.range_succ_eq_map, List.map_cons, List.map_map]
    rfl
  have e2 : (rot b i).dropLast = (List.range n).map (tw b i) := by
    unfold rot
    rw [hn, List.range_succ, List.map_append, List.map_singleton, List.dropLast_concat]
  rw [e1, e2, tw_zero (prev_lt hi)]
  congr 1
  exact List.map_congr_left fun m _ => tw_prev hi m

theorem drop_le : ∀ (a c : List Nat), a.length = c.length → a ≤ c → a.dropLast ≤ c.dropLast
  | [], [], _, _ => List.le_refl _
  | [x], [y], _, _ => List.le_refl _
  | x :: x' :: a, y :: y' :: c, hl, h => by
    rw [List.dropLast_cons_cons, List.dropLast_cons_cons, List.cons_le_cons_iff]
    rw [List.cons_le_cons_iff] at h
    rcases h with h | ⟨h1, h2⟩
    · exact .inl h
    · exact .inr ⟨h1, drop_le (x' :: a) (y' :: c) (by simpa using hl) h2⟩
  | [], y :: c, hl, _ => by simp at hl
  | x :: a, [], hl, _ => by simp at hl
  | [x], y :: y' :: c, hl, _ => by simp at hl
  | x :: x' :: a, [y], hl, _ => by simp at hl

theorem prev_perm (n : Nat) : ((List.range n).map (prev n)).Perm (List.range n) := by
  have inj : ∀ i, i < n → ∀ k, k < n → prev n i = prev n k → i = k := by
    intro i hi k hk h
    unfold prev at h
    have key : ∀ i, i < n → ((i + n - 1) % n + 1) % n = i := fun i hi => by
      rw [Nat.mod_add_mod, show i + n - 1 + 1 = i + n by omega, Nat.add_mod_right, Nat.mod_eq_of_lt hi]
    rw [← key i hi, ← key k hk, h]
  rw [List.perm_ext_iff_of_nodup]
  · intro a
    rw [List.mem_map, List.mem_range]
    constructor
    · rintro ⟨i, hi, rfl⟩
      exact prev_lt (List.mem_range.1 hi)
    · intro ha
      refine ⟨(a + 1) % n, List.mem_range.2 (Nat.mod_lt _ (by omega)), ?_⟩
      unfold prev
      rcases Nat.lt_or_ge (a + 1) n with h | h
      · rw [Nat.mod_eq_of_lt h, show a + 1 + n - 1 = a + n by omega, Nat.add_mod_right, Nat.mod_eq_of_lt ha]
      · obtain rfl : n = a + 1 := by omega
        rw [Nat.mod_self, show 0 + (a + 1) - 1 = a by omega, Nat.mod_eq_of_lt (by omega)]
  · rw [List.nodup_iff_pairwise_ne, List.pairwise_map]
    refine List.Pairwise.imp_of_mem ?_ (List.nodup_range (n := n))
    intro a c ha hc hne h
    exact hne (inj a (List.mem_range.1 ha) c (List.mem_range.1 hc) h)
  · exact List.nodup_range

theorem map_getD (l : List Nat) (f : Nat → Nat) : (List.range l.length).map (fun x => f (l.getD x 0)) = l.map f := by
  refine List.ext_getElem? fun j => ?_
  rw [List.getElem?_map, List.getElem?_map]
  by_cases h : j < l.length
  · rw [List.getElem?_range h, List.getElem?_eq_getElem h]
    simp [List.getD_eq_getElem?_getD, List.getElem?_eq_getElem h]
  · rw [List.getElem?_eq_none (by simpa using h), List.getElem?_eq_none (by simpa using h)]
    rfl

/-- the r-th row is the next row's turning, turned back by one -/
theorem next_is {b l nx : List Nat} (hl : IsRows b l) (hn : IsNext (col b l) nx) (r : Nat) (hr : r < b.length) : rot b (prev b.length (l.getD (nx.getD r 0) 0)) = rot b (l.getD r 0) := by
  have hcl : (col b l).length = b.length := by rw [col, List.length_map, hl.len]
  have hA : (nx.map fun x => rot b (prev b.length (l.getD x 0))) = l.map (rot b) := by
    refine List.Perm.eq_of_pairwise (le := fun a c : List Nat => a ≤ c) (fun _ _ _ _ h1 h2 => List.le_antisymm h1 h2) ?_ ?_ ?_
    · rw [List.pairwise_map]
      refine List.Pairwise.imp_of_mem ?_ hn.sorted
      intro x y hx hy h
      have hx := hn.lt hx
      have hy := hn.lt hy
      rw [hcl] at hx hy
      have hix := hl.lt (getD_mem (show x < l.length by rw [hl.len]; exact hx))
      have hiy := hl.lt (getD_mem (show y < l.length by rw [hl.len]; exact hy))
      have cx : ∀ x, x < b.length → (col b l).getD x 0 = b.getD (prev b.length (l.getD x 0)) 0 := fun x hx => by
        have : x < l.length := by rw [hl.len]; exact hx
        simp [col, List.getD_eq_getElem?_getD, List.getElem?_map, List.getElem?_eq_getElem this]
      rw [cx x hx, cx y hy] at h
      rw [rot_prev hix, rot_prev hiy, List.cons_le_cons_iff]
      rcases h with h | ⟨h1, h2⟩
      · exact .inl h
      · refine .inr ⟨h1, drop_le _ _ (by rw [rot_length, rot_length]) ?_⟩
        have hp := List.pairwise_iff_getElem.1 hl.sorted x y (by rw [hl.len]; exact hx) (by rw [hl.len]; exact hy) h2
        have e : ∀ x (h : x < l.length), l.getD x 0 = l[x] := fun x h => by simp [List.getD_eq_getElem?_getD, List.getElem?_eq_getElem h]
        rw [e x (by rw [hl.len]; exact hx), e y (by rw [hl.len]; exact hy)]
        exact hp.1
    · rw [List.pairwise_map]
      exact hl.sorted.imp fun h => h.1
    · have p1 : (nx.map fun x => rot b (prev b.length (l.getD x 0))).Perm ((List.range l.length).map fun x => rot b (prev b.length (l.getD x 0))) := by
        rw [hl.len, ← hcl]
        exact hn.perm.map _
      have p2 : ((List.range l.length).map fun x => rot b (prev b.length (l.getD x 0))) = (l.map (prev b.length)).map (rot b) := by
        rw [← map_getD l (prev b.length), List.map_map]
        rfl
      rw [p2] at p1
      exact p1.trans ((((hl.perm.map _).trans (prev_perm _)).trans hl.perm.symm).map _)
  have hr1 : r < nx.length := by rw [hn.len, hcl]; exact hr
  have hr2 : r < l.length := by rw [hl.len]; exact hr
  have := congrArg (fun q => q[r]?) hA
  simp only [List.getElem?_map, List.getElem?_eq_getElem hr1, List.getElem?_eq_getElem hr2, Option.map_some, Option.some.injEq] at this
  simpa [List.getD_eq_getElem?_getD, List.getElem?_eq_getElem hr1, List.getElem?_eq_getElem hr2] using this

theorem next_tw {b l nx : List Nat} (hl : IsRows b l) (hn : IsNext (col b l) nx) (r : Nat) (hr : r < b.length) (m : Nat) : tw b (l.getD (nx.getD r 0) 0) m = tw b (l.getD r 0) (m + 1) := by
  have hcl : (col b l).length = b.length := by rw [col, List.length_map, hl.len]
  have hx := hn.lt (getD_mem (show r < nx.length by rw [hn.len, hcl]; exact hr))
  rw [hcl] at hx
  have hi := hl.lt (getD_mem (show nx.getD r 0 < l.length by rw [hl.len]; exact hx))
  rw [← rot_tw (next_is hl hn r hr) (by omega), tw_prev hi]

/-- the row that so many steps lead to -/
def steps (nx : List Nat) (row : Nat) : Nat → Nat
  | 0 => row
  | k + 1 => nx.getD (steps nx row k) 0

theorem steps_tw {b l nx : List Nat} (hl : IsRows b l) (hn : IsNext (col b l) nx) {row : Nat} (hr : row < b.length) (h0 : l.getD row 0 = 0) : ∀ k, steps nx row k < b.length ∧ ∀ m, tw b (l.getD (steps nx row k) 0) m = tw b 0 (m + k)
  | 0 => ⟨hr, fun m => by rw [steps, h0, Nat.add_zero]⟩
  | k + 1 => by
    have hcl : (col b l).length = b.length := by rw [col, List.length_map, hl.len]
    obtain ⟨h1, h2⟩ := steps_tw hl hn hr h0 k
    have hx := hn.lt (getD_mem (show steps nx row k < nx.length by rw [hn.len, hcl]; exact h1))
    rw [hcl] at hx
    refine ⟨hx, fun m => ?_⟩
    rw [steps, next_tw hl hn _ h1, h2, show m + 1 + k = m + (k + 1) by omega]

/-- what is told of a column and a row -/
def back (c nx : List Nat) (row : Nat) : List Nat := (List.range c.length).map fun k => c.getD (steps nx row (k + 1)) 0

/-- a turned text is turned back -/
theorem back_is {b l nx : List Nat} (hl : IsRows b l) (hn : IsNext (col b l) nx) {row : Nat} (hr : row < b.length) (h0 : l.getD row 0 = 0) : back (col b l) nx row = b := by
  have hcl : (col b l).length = b.length := by rw [col, List.length_map, hl.len]
  unfold back
  rw [hcl]
  refine List.ext_getElem? fun k => ?_
  by_cases h : k < b.length
  · rw [List.getElem?_map, List.getElem?_range h, List.getElem?_eq_getElem h, Option.map_some]
    obtain ⟨h1, h2⟩ := steps_tw hl hn hr h0 (k + 1)
    have hi := hl.lt (getD_mem (show steps nx row (k + 1) < l.length by rw [hl.len]; exact h1))
    have e1 : (col b l).getD (steps nx row (k + 1)) 0 = b.getD (prev b.length (l.getD (steps nx row (k + 1)) 0)) 0 := by
      have : steps nx row (k + 1) < l.length := by rw [hl.len]; exact h1
      simp [col, List.getD_eq_getElem?_getD, List.getElem?_map, List.getElem?_eq_getElem this]
    have e2 := h2 (b.length - 1)
    unfold tw at e2
    rw [show l.getD (steps nx row (k + 1)) 0 + (b.length - 1) = l.getD (steps nx row (k + 1)) 0 + b.length - 1 by omega, show 0 + (b.length - 1 + (k + 1)) = k + b.length by omega, Nat.add_mod_right, Nat.mod_eq_of_lt h] at e2
    rw [e1]
    unfold prev
    rw [e2]
    simp [List.getD_eq_getElem?_getD, List.getElem?_eq_getElem h]
  · rw [List.getElem?_eq_none (by simpa using h), List.getElem?_eq_none (by simpa using h)]

end Go.Proofs.Ytpemgjcgcmleiaa.Suf
