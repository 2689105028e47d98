/- Places sorted by a byte: the mathematics of counting. -/
import Derived.Test.YtpemgjcgcmleiaaSufN
namespace Go.Proofs.Ytpemgjcgcmleiaa.Suf
set_option linter.unusedVariables false

/-- those of a list that have a byte -/
def those (f : Nat → Nat) (L : List Nat) (v : Nat) : List Nat := L.filter fun x => f x == v

/-- byte by byte -/
def bys (f : Nat → Nat) (L : List Nat) (k : Nat) : List Nat := ((List.range k).map (those f L)).flatten

theorem mem_those {f : Nat → Nat} {L : List Nat} {v x : Nat} : x ∈ those f L v ↔ x ∈ L ∧ f x = v := by
  unfold those
  rw [List.mem_filter, beq_iff_eq]

theorem bys_succ (f : Nat → Nat) (L : List Nat) (k : Nat) : bys f L (k + 1) = bys f L k ++ those f L k := by
  unfold bys
  rw [List.range_succ, List.map_append, List.flatten_append, List.map_singleton, List.flatten_singleton]

theorem mem_bys {f : Nat → Nat} {L : List Nat} {k x : Nat} : x ∈ bys f L k ↔ x ∈ L ∧ f x < k := by
  unfold bys
  rw [List.mem_flatten]
  constructor
  · rintro ⟨l, hl, hx⟩
    obtain ⟨v, hv, rfl⟩ := List.mem_map.1 hl
    rw [mem_those] at hx
    exact ⟨hx.1, by rw [hx.2]; exact List.mem_range.1 hv⟩
  · rintro ⟨h1, h2⟩
    exact ⟨_, List.mem_map.2 ⟨f x, List.mem_range.2 h2, rfl⟩, mem_those.2 ⟨h1, rfl⟩⟩

/-- those of like bytes stay in the order in which they stand -/
theorem bys_sorted {R : Nat → Nat → Prop} (f : Nat → Nat) {L : List Nat} (h : L.Pairwise R) (k : Nat) : (bys f L k).Pairwise fun x y => f x < f y ∨ (f x = f y ∧ R x y) := by
  unfold bys
  rw [List.pairwise_flatten]
  constructor
  · intro l hl
    obtain ⟨v, _, rfl⟩ := List.mem_map.1 hl
    refine List.Pairwise.imp_of_mem ?_ (h.filter fun x => f x == v)
    intro x y hx hy hr
    exact .inr ⟨by rw [(mem_those.1 hx).2, (mem_those.1 hy).2], hr⟩
  · rw [List.pairwise_map]
    refine List.Pairwise.imp ?_ (List.pairwise_lt_range (n := k))
    intro v u h x hx y hy
    rw [mem_those] at hx hy
    exact .inl (by omega)

theorem bys_nodup (f : Nat → Nat) {L : List Nat} (h : L.Nodup) (k : Nat) : (bys f L k).Nodup := by
  rw [List.nodup_iff_pairwise_ne] at h ⊢
  refine List.Pairwise.imp ?_ (bys_sorted f h k)
  rintro x y hxy rfl
  rcases hxy with h | h
  · omega
  · exact h.2 rfl

theorem bys_perm (f : Nat → Nat) {L : List Nat} (h : L.Nodup) {k : Nat} (hk : ∀ x ∈ L, f x < k) : (bys f L k).Perm L := by
  rw [List.perm_ext_iff_of_nodup (bys_nodup f h k) h]
  intro x
  rw [mem_bys]
  exact ⟨fun q => q.1, fun q => ⟨q, hk x q⟩⟩

/-- how often a byte comes -/
def cnt (f : Nat → Nat) (L : List Nat) (v : Nat) : Nat := (those f L v).length

/-- the row of a byte's first one -/
def start (f : Nat → Nat) (L : List Nat) (v : Nat) : Nat := (bys f L v).length

theorem start_zero (f : Nat → Nat) (L : List Nat) : start f L 0 = 0 := rfl
theorem start_succ (f : Nat → Nat) (L : List Nat) (v : Nat) : start f L (v + 1) = start f L v + cnt f L v := by
  unfold start cnt
  rw [bys_succ, List.length_append]

theorem those_snoc (f : Nat → Nat) (L : List Nat) (i v : Nat) (hi : i < L.length) : those f (L.take (i + 1)) v = if f (L.getD i 0) = v then those f (L.take i) v ++ [L.getD i 0] else those f (L.take i) v := by
  unfold those
  rw [List.take_add_one, List.getElem?_eq_getElem hi, List.filter_append, List.getD_eq_getElem?_getD, List.getElem?_eq_getElem hi]
  by_cases h : f L[i] = v
  · simp [h]
  · simp [h]

theorem cnt_snoc (f : Nat → Nat) (L : List Nat) (i v : Nat) (hi : i < L.length) : cnt f (L.take (i + 1)) v = if v = f (L.getD i 0) then cnt f (L.take i) (f (L.getD i 0)) + 1 else cnt f (L.take i) v := by
  unfold cnt
  rw [those_snoc f L i v hi]
  by_cases h : v = f (L.getD i 0)
  · subst h
    rw [if_pos rfl, if_pos rfl, List.length_append, List.length_singleton]
  · rw [if_neg (fun e => h e.symm), if_neg h]

theorem cnt_le (f : Nat → Nat) (L : List Nat) (v : Nat) : cnt f L v ≤ L.length := List.length_filter_le _ _

theorem cnt_take_le (f : Nat → Nat) (L : List Nat) (i v : Nat) : cnt f (L.take i) v ≤ cnt f L v := by
  unfold cnt those
  exact ((List.take_sublist i L).filter _).length_le

theorem start_mono (f : Nat → Nat) (L : List Nat) {u v : Nat} (h : u ≤ v) : start f L u ≤ start f L v := by
  induction v with
  | zero => rw [show u = 0 by omega]; exact Nat.le_refl _
  | succ v ih =>
    rcases Nat.lt_or_ge u (v + 1) with h1 | h1
    · rw [start_succ]
      have := ih (by omega)
      omega
    · rw [show u = v + 1 by omega]
      exact Nat.le_refl _

theorem start_top (f : Nat → Nat) {L : List Nat} (h : L.Nodup) (hk : ∀ x ∈ L, f x < 256) : start f L 256 = L.length := (bys_perm f h hk).length_eq

/-- a place in the sorted list is one of a byte -/
theorem start_find (f : Nat → Nat) (L : List Nat) : ∀ k r, r < start f L k → ∃ v j, v < k ∧ j < cnt f L v ∧ r = start f L v + j
  | 0, r, h => by rw [start_zero] at h; omega
  | k + 1, r, h => by
    rcases Nat.lt_or_ge r (start f L k) with h1 | h1
    · obtain ⟨v, j, h2, h3, h4⟩ := start_find f L k r h1
      exact ⟨v, j, by omega, h3, h4⟩
    · rw [start_succ] at h
      exact ⟨k, r - start f L k, by omega, by omega, by omega⟩

theorem bys_at (f : Nat → Nat) (L : List Nat) : ∀ k v j, v < k → j < cnt f L v → (bys f L k).getD (start f L v + j) 0 = (those f L v).getD j 0
  | 0, v, j, h, _ => by omega
  | k + 1, v, j, h, hj => by
    rw [bys_succ]
    rcases Nat.lt_or_ge v k with h1 | h1
    · rw [← bys_at f L k v j h1 hj]
      have h2 : start f L v + j < (bys f L k).length := by
        have := start_mono f L (show v + 1 ≤ k by omega)
        rw [start_succ] at this
        unfold start at this ⊢
        omega
      rw [List.getD_eq_getElem?_getD, List.getElem?_append_left h2, List.getD_eq_getElem?_getD]
    · obtain rfl : v = k := by omega
      rw [List.getD_eq_getElem?_getD, List.getElem?_append_right (by unfold start; omega), List.getD_eq_getElem?_getD]
      congr 2
      unfold start
      omega

/-- what lies in the sorted row, so many places being put -/
def PutTo (f : Nat → Nat) (L : List Nat) (i : Nat) (S : Nat → Nat) : Prop := ∀ v, v < 256 → ∀ j, j < cnt f (L.take i) v → S (start f L v + j) = (those f (L.take i) v).getD j 0

theorem put_zero (f : Nat → Nat) (L : List Nat) (S : Nat → Nat) : PutTo f L 0 S := fun v _ j hj => by
  rw [List.take_zero] at hj
  exact absurd hj (by simp [cnt, those])

theorem start_apart (f : Nat → Nat) (L : List Nat) {u v j k : Nat} (hj : j < cnt f L u) (hk : k < cnt f L v) (h : start f L u + j = start f L v + k) : u = v ∧ j = k := by
  rcases Nat.lt_trichotomy u v with h1 | h1 | h1
  · have := start_mono f L (show u + 1 ≤ v by omega)
    rw [start_succ] at this
    omega
  · subst h1
    exact ⟨rfl, by omega⟩
  · have := start_mono f L (show v + 1 ≤ u by omega)
    rw [start_succ] at this
    omega

theorem cnt_lt (f : Nat → Nat) (L : List Nat) (i : Nat) (hi : i < L.length) : cnt f (L.take i) (f (L.getD i 0)) < cnt f L (f (L.getD i 0)) := by
  have h1 := cnt_take_le f L (i + 1) (f (L.getD i 0))
  rw [cnt_snoc f L i _ hi, if_pos rfl] at h1
  omega

theorem put_succ (f : Nat → Nat) (L : List Nat) (i : Nat) (S : Nat → Nat) (hi : i < L.length) (h : PutTo f L i S) : PutTo f L (i + 1) (fun r => if r = start f L (f (L.getD i 0)) + cnt f (L.take i) (f (L.getD i 0)) then L.getD i 0 else S r) := by
  intro v hv j hj
  have hlt := cnt_lt f L i hi
  have hc := cnt_snoc f L i v hi
  have ht := those_snoc f L i v hi
  generalize L.getD i 0 = x at *
  rw [hc] at hj
  dsimp only
  rw [ht]
  by_cases e : v = f x
  · subst e
    rw [if_pos rfl] at hj
    rw [if_pos (show f x = f x from rfl)]
    by_cases ej : j = cnt f (L.take i) (f x)
    · subst ej
      rw [if_pos rfl, List.getD_eq_getElem?_getD]
      unfold cnt
      rw [List.getElem?_append_right (Nat.le_refl _)]
      simp
    · rw [if_neg (by omega), h _ hv j (by omega), List.getD_eq_getElem?_getD, List.getD_eq_getElem?_getD, List.getElem?_append_left (by unfold cnt at hj ej; omega)]
  · rw [if_neg e] at hj
    rw [if_neg (fun q : f x = v => e q.symm)]
    rw [if_neg (fun q => e (start_apart f L (Nat.lt_of_lt_of_le hj (cnt_take_le f L i v)) hlt q).1), h v hv j hj]

theorem put_done (f : Nat → Nat) {L : List Nat} (S : Nat → Nat) (hd : L.Nodup) (hk : ∀ x ∈ L, f x < 256) (h : PutTo f L L.length S) (r : Nat) (hr : r < L.length) : S r = (bys f L 256).getD r 0 := by
  rw [← start_top f hd hk] at hr
  obtain ⟨v, j, h1, h2, rfl⟩ := start_find f L 256 r hr
  have := h v h1 j (by rw [List.take_length]; exact h2)
  rw [this, List.take_length, bys_at f L 256 v j h1 h2]

theorem start_row_lt (f : Nat → Nat) {L : List Nat} (hd : L.Nodup) (hk : ∀ x ∈ L, f x < 256) (i : Nat) (hi : i < L.length) : start f L (f (L.getD i 0)) + cnt f (L.take i) (f (L.getD i 0)) < L.length := by
  have h1 := cnt_lt f L i hi
  have h2 := start_mono f L (show f (L.getD i 0) + 1 ≤ 256 by have := hk _ (getD_mem hi); omega)
  rw [start_succ, start_top f hd hk] at h2
  omega

theorem nextF_bys (c : List Nat) (k : Nat) : nextF c k = bys (fun i => c.getD i 0) (List.range c.length) k := rfl

end Go.Proofs.Ytpemgjcgcmleiaa.Suf
