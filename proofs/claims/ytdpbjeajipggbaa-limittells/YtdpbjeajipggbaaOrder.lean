/- The order of the symbols that come. -/
import Derived.Test.YtdpbjeajipggbaaSort
import Derived.Test.YtdpbjeajipggbaaBest
namespace Go.Proofs.Ytdpbjeajipggbaa
open Go.RowKit Go.Sort Go.Lib
set_option linter.unusedVariables false

/-- how often a symbol comes -/
def wt (os : List Int) (i : Nat) : Nat := (os.getD i 0).toNat

def Ahead (os : List Int) (i j : Nat) : Prop := wt os i < wt os j ∨ wt os i = wt os j ∧ i < j

structure IsOrder (os : List Int) (l : List Nat) : Prop where
  pw : l.Pairwise (Ahead os)
  mem : ∀ i, i ∈ l ↔ i < os.length ∧ 0 < wt os i

theorem Ahead.trans {os : List Int} {i j k : Nat} (h : Ahead os i j) (h' : Ahead os j k) : Ahead os i k := by unfold Ahead at *; omega
theorem Ahead.irrefl {os : List Int} {i : Nat} (h : Ahead os i i) : False := by unfold Ahead at *; omega

theorem IsOrder.nodup {os : List Int} {l : List Nat} (h : IsOrder os l) : l.Nodup := by
  refine h.pw.imp ?_
  intro a b hab e
  subst e
  exact hab.irrefl

theorem pw_unique {os : List Int} : ∀ {l l' : List Nat}, l.Pairwise (Ahead os) → l'.Pairwise (Ahead os) → (∀ i, i ∈ l ↔ i ∈ l') → l = l'
  | [], [], _, _, _ => rfl
  | [], y :: r, _, _, h => by have := (h y).2 (by simp); simp at this
  | x :: r, [], _, _, h => by have := (h x).1 (by simp); simp at this
  | x :: r, y :: r', h1, h2, h => by
    have a1 := List.pairwise_cons.1 h1
    have a2 := List.pairwise_cons.1 h2
    have e : x = y := by
      have hx := (h x).1 (by simp)
      have hy := (h y).2 (by simp)
      simp at hx hy
      rcases hx with hx | hx
      · exact hx
      · rcases hy with hy | hy
        · exact hy.symm
        · exact ((a2.1 x hx).trans (a1.1 y hy)).irrefl.elim
    subst e
    refine congrArg (x :: ·) (pw_unique a1.2 a2.2 fun i => ⟨fun hi => ?_, fun hi => ?_⟩)
    · have := (h i).1 (by simp [hi])
      simp at this
      rcases this with rfl | h3
      · exact (a1.1 i hi).irrefl.elim
      · exact h3
    · have := (h i).2 (by simp [hi])
      simp at this
      rcases this with rfl | h3
      · exact (a2.1 i hi).irrefl.elim
      · exact h3

/-- there is one order -/
theorem IsOrder.one {os : List Int} {l l' : List Nat} (h : IsOrder os l) (h' : IsOrder os l') : l = l' :=
  pw_unique h.pw h'.pw fun i => by rw [h.mem, h'.mem]

theorem IsOrder.sorted {os : List Int} {l : List Nat} (h : IsOrder os l) : Merge.Sorted (Merge.baseOf (wt os) l) := by
  unfold Merge.Sorted Merge.baseOf
  rw [List.pairwise_map]
  refine h.pw.imp ?_
  intro a b hab
  unfold Ahead at hab
  simp only
  omega

def raw (os : List Int) (n : Nat) : List Nat := (List.range n).filter fun i => decide (0 < wt os i)
def pair (os : List Int) (i : Nat) : Int × Int := ((i : Int), (wt os i : Int))

theorem raw_succ (os : List Int) (n : Nat) : raw os (n + 1) = if 0 < wt os n then raw os n ++ [n] else raw os n := by
  unfold raw
  rw [List.range_succ, List.filter_append]
  by_cases h : 0 < wt os n <;> simp [h]

theorem raw_mem (os : List Int) (n i : Nat) : i ∈ raw os n ↔ i < n ∧ 0 < wt os i := by simp [raw]
theorem raw_nodup (os : List Int) (n : Nat) : (raw os n).Nodup := List.Pairwise.filter _ List.nodup_range
theorem raw_len (os : List Int) (n : Nat) : (raw os n).length ≤ n := by
  have := List.length_filter_le (fun i => decide (0 < wt os i)) (List.range n)
  simpa [raw] using this

theorem cf_lt (x y : Int × Int) : ltOf cf x y = decide (x.2 < y.2 ∨ x.2 = y.2 ∧ x.1 < y.1) := by
  unfold ltOf cf Lib.compareInt
  by_cases h1 : x.2 < y.2
  · simp [h1]
  · by_cases h2 : y.2 < x.2
    · have : ¬ x.2 = y.2 := by omega
      simp [h1, h2, this]
    · have e : x.2 = y.2 := by omega
      by_cases h3 : x.1 < y.1
      · simp [e, h3]
      · by_cases h4 : y.1 < x.1 <;> simp [e, h3, h4]

theorem cf_swo : SWO (ltOf cf) where
  irrefl x := by rw [cf_lt]; simp
  trans x y z h1 h2 := by rw [cf_lt] at *; simp only [decide_eq_true_eq] at *; omega
  ntrans x y z h1 h2 := by rw [cf_lt] at *; simp only [decide_eq_false_iff_not] at *; omega

theorem cf_total (x y : Int × Int) (h1 : ltOf cf x y = false) (h2 : ltOf cf y x = false) : x = y := by
  rw [cf_lt] at h1 h2
  simp only [decide_eq_false_iff_not] at h1 h2
  apply Prod.ext <;> omega

/-- sorted, they are in their order -/
theorem sort_order (os : List Int) : ∃ l, IsOrder os l ∧ l.length = (raw os os.length).length ∧ (((raw os os.length).map (pair os)).mergeSort fun x y => !(ltOf cf) y x) = l.map (pair os) := by
  obtain ⟨d, hd⟩ : ∃ d, d = (((raw os os.length).map (pair os)).mergeSort fun x y => !(ltOf cf) y x) := ⟨_, rfl⟩
  have hp : d.Perm ((raw os os.length).map (pair os)) := by rw [hd]; exact List.mergeSort_perm _ _
  have hs : d.Pairwise fun x y => (!(ltOf cf) y x) = true := by
    rw [hd]
    refine List.pairwise_mergeSort (fun a b c h1 h2 => ?_) (fun a b => ?_) _
    · simp only [Bool.not_eq_true', cf_lt, decide_eq_false_iff_not] at *; omega
    · rw [cf_lt, cf_lt]
      by_cases h1 : b.2 < a.2 ∨ b.2 = a.2 ∧ b.1 < a.1
      · have h2 : ¬ (a.2 < b.2 ∨ a.2 = b.2 ∧ a.1 < b.1) := by omega
        simp [h1, h2]
      · simp [h1]
  have hm : ∀ p ∈ d, ∃ i, i ∈ raw os os.length ∧ p = pair os i := fun p h => by
    have := hp.mem_iff.1 h
    obtain ⟨i, hi, rfl⟩ := List.mem_map.1 this
    exact ⟨i, hi, rfl⟩
  have hd2 : d = (d.map fun p => p.1.toNat).map (pair os) := by
    rw [List.map_map]
    conv => lhs; rw [← List.map_id d]
    refine List.map_congr_left fun p h => ?_
    obtain ⟨i, hi, rfl⟩ := hm p h
    simp [pair]
  rw [← hd]
  have hperm : (d.map fun p => p.1.toNat).Perm (raw os os.length) := by
    have := hp.map (fun p : Int × Int => p.1.toNat)
    rw [List.map_map] at this
    have e : (raw os os.length).map ((fun p : Int × Int => p.1.toNat) ∘ pair os) = raw os os.length := by
      conv => rhs; rw [← List.map_id (raw os os.length)]
      exact List.map_congr_left fun i _ => by simp [pair]
    rwa [e] at this
  refine ⟨d.map fun p => p.1.toNat, ⟨?_, fun i => ?_⟩, ?_, hd2⟩
  · have hnd : (d.map fun p => p.1.toNat).Nodup := hperm.nodup_iff.2 (raw_nodup os _)
    have h2 : ((d.map fun p => p.1.toNat).map (pair os)).Pairwise fun x y => (!(ltOf cf) y x) = true := by rw [← hd2]; exact hs
    rw [List.pairwise_map] at h2
    have h3 := h2.and hnd
    refine h3.imp ?_
    rintro a b ⟨k1, k2⟩
    simp only [cf_lt, pair, Bool.not_eq_true', decide_eq_false_iff_not] at k1
    unfold Ahead
    omega
  · rw [hperm.mem_iff, raw_mem]
  · exact hperm.length_eq

end Go.Proofs.Ytdpbjeajipggbaa
