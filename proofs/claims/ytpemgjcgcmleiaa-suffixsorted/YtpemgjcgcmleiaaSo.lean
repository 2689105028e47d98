/- What a sort leaves. -/
import Derived.Test.YtpemgjcgcmleiaaTa
import Derived.Test.YtpemgjcgcmleiaaShelf
namespace Go.Proofs.Ytpemgjcgcmleiaa
open Go.RowKit Suf Go.Sort
set_option maxRecDepth 100000
set_option linter.unusedVariables false

theorem getD_get! {l : List Nat} {r : Nat} (h : r < l.length) : l.getD r 0 = l[r] := by simp [List.getD_eq_getElem?_getD, List.getElem?_eq_getElem h]

/-- the places with a segment's in another order -/
def segP (p : Nat → Nat) (a c : Nat) (l : List Nat) : Nat → Nat := fun r => if a ≤ r ∧ r < c then l.getD (r - a) 0 else p r

/-- a segment as a list -/
def seg (p : Nat → Nat) (a c : Nat) : List Nat := (List.range (c - a)).map fun j => p (a + j)

theorem seg_mem {p : Nat → Nat} {a c x : Nat} : x ∈ seg p a c ↔ ∃ s, a ≤ s ∧ s < c ∧ p s = x := by
  unfold seg
  rw [List.mem_map]
  constructor
  · rintro ⟨j, hj, rfl⟩
    have := List.mem_range.1 hj
    exact ⟨a + j, by omega, by omega, rfl⟩
  · rintro ⟨s, h1, h2, rfl⟩
    exact ⟨s - a, List.mem_range.2 (by omega), by rw [show a + (s - a) = s by omega]⟩

theorem seg_nodup {p : Nat → Nat} {a c n : Nat} (hc : c ≤ n) (hinj : ∀ r s, r < n → s < n → p r = p s → r = s) : (seg p a c).Nodup := by
  unfold seg
  rw [List.nodup_iff_pairwise_ne, List.pairwise_map]
  refine List.Pairwise.imp_of_mem ?_ (List.nodup_range (n := c - a))
  intro x y hx hy hne e
  have hx := List.mem_range.1 hx
  have hy := List.mem_range.1 hy
  have := hinj _ _ (by omega) (by omega) e
  omega

theorem perm_seg {n a c : Nat} {p : Nat → Nat} {l : List Nat} (hac : a ≤ c) (hc : c ≤ n) (hinj : ∀ r s, r < n → s < n → p r = p s → r = s) (hl : l.Perm (seg p a c)) : Perm n p (segP p a c l) a c := by
  have hlen : l.length = c - a := by rw [hl.length_eq]; simp [seg]
  have hnd : l.Nodup := hl.nodup_iff.2 (seg_nodup hc hinj)
  have hin : ∀ r, a ≤ r → r < c → ∃ s, a ≤ s ∧ s < c ∧ segP p a c l r = p s := fun r h1 h2 => by
    have hm : l.getD (r - a) 0 ∈ l := getD_mem (by omega)
    obtain ⟨s, h3, h4, h5⟩ := seg_mem.1 (hl.mem_iff.1 hm)
    exact ⟨s, h3, h4, by unfold segP; rw [if_pos ⟨h1, h2⟩, h5]⟩
  have hout : ∀ r, r < n → (r < a ∨ c ≤ r) → segP p a c l r = p r := fun r hr h => by unfold segP; rw [if_neg (by omega)]
  refine ⟨hout, hin, fun r h1 h2 => ?_, fun r s hr hs e => ?_⟩
  · obtain ⟨j, hj, e⟩ := List.getElem_of_mem (hl.mem_iff.2 (seg_mem.2 ⟨r, h1, h2, rfl⟩))
    refine ⟨a + j, by omega, by omega, ?_⟩
    unfold segP
    rw [if_pos (by omega), show a + j - a = j by omega, getD_get! hj, e]
  · by_cases c1 : a ≤ r ∧ r < c <;> by_cases c2 : a ≤ s ∧ s < c
    · unfold segP at e
      rw [if_pos c1, if_pos c2, getD_get! (by omega), getD_get! (by omega)] at e
      rcases Nat.lt_trichotomy (r - a) (s - a) with h | h | h
      · exact absurd e (List.pairwise_iff_getElem.1 (List.nodup_iff_pairwise_ne.1 hnd) _ _ (by omega) (by omega) h)
      · omega
      · exact absurd e.symm (List.pairwise_iff_getElem.1 (List.nodup_iff_pairwise_ne.1 hnd) _ _ (by omega) (by omega) h)
    · obtain ⟨s', h1, h2, e2⟩ := hin r c1.1 c1.2
      rw [e2, hout s hs (by omega)] at e
      have := hinj _ _ (by omega) hs e
      omega
    · obtain ⟨s', h1, h2, e2⟩ := hin s c2.1 c2.2
      rw [e2, hout r hr (by omega)] at e
      have := hinj _ _ hr (by omega) e
      omega
    · rw [hout r hr (by omega), hout s hs (by omega)] at e
      exact hinj _ _ hr hs e

theorem grow_ints {α : Type} [Inhabited α] (enc : α → Value) (val : α → Nat) (w : World) (pg n a c m : Nat) (p : Nat → Nat) (d : Array α) (os : Array Obj) (h : IntsAt w .i64 3 pg n p) (henc : ∀ j, j < d.size → enc d[j]! = .int .i64 (val d[j]! : Int)) (hsz : d.size = c - a) (hac : a ≤ c) (hc : c ≤ n) :
    IntsAt (grow (putRow enc (Sort.ahead w m) pg a d) os) .i64 3 pg n (segP p a c (d.toList.map val)) ∧ Kp (fun k => k = pg) w (grow (putRow enc (Sort.ahead w m) pg a d) os) := by
  have hb : ∀ k, k < w.heap.size → (grow (putRow enc (Sort.ahead w m) pg a d) os).heap[k]? = (w.heap.modify pg (onCells (putCells enc a d)))[k]? := fun k hk => by
    show ((w.heap.modify pg (onCells (putCells enc a d))) ++ os)[k]? = _
    rw [Array.getElem?_append_left (by simpa using hk)]
  constructor
  · unfold IntsAt
    rw [hb pg h.lt, Array.getElem?_modify, if_pos rfl, show w.heap[pg]? = _ from h]
    simp only [Option.map_some, onCells]
    congr 2
    apply Array.ext (by simp [putCells, icells])
    intro j h1 h2
    have hj : j < n := by simpa [icells] using h2
    simp only [putCells, Array.getElem_mapIdx]
    simp only [icells, List.getElem_toArray, List.getElem_map, List.getElem_range, segP]
    by_cases hr : a ≤ j ∧ j < c
    · rw [if_pos (by omega), if_pos hr, henc _ (by omega)]
      congr 2
      rw [List.getD_eq_getElem?_getD, List.getElem?_map, Array.getElem?_toList, Array.getElem?_eq_getElem (show j - a < d.size by omega), getElem!_pos d (j - a) (by omega)]
      rfl
    · rw [if_neg (by omega), if_neg hr]
  · refine ⟨rfl, rfl, rfl, ?_, fun k hk hne => ?_⟩
    · show w.heap.size ≤ ((w.heap.modify pg (onCells (putCells enc a d))) ++ os).size
      simp
    · rw [hb k hk, Array.getElem?_modify, if_neg (fun e => hne e.symm)]

end Go.Proofs.Ytpemgjcgcmleiaa
