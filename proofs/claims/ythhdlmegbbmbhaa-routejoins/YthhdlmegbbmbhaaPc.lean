/- pieces: an iterator over a text's pieces. -/
import Derived.Test.YthhdlmegbbmbhaaNm
namespace Go.Proofs.Ythhdlmegbbmbhaa
open Go.RowKit Go.Shelf
set_option linter.unusedVariables false

attribute [local go_sem] Oper.semAt_some

/-- the k-th piece of a text -/
def pcAt (l : List UInt8) (k : Nat) : ByteArray := ⟨((pcs l)[k]?.getD []).toArray⟩

/-- what a round keeps for the iterator -/
def KpB (Bs : Nat) (v : Value) (W W' : World) : Prop := KeepsWalks W W' ∧ (W.heap[Bs]? = some (.cells #[v] 9 (0, 0)) → W'.heap[Bs]? = some (.cells #[v] 9 (0, 0)))

theorem KpB.trans {Bs : Nat} {v : Value} {A B C : World} (h : KpB Bs v A B) (k : KpB Bs v B C) : KpB Bs v A C := ⟨h.1.trans k.1, fun x => k.2 (h.2 x)⟩

theorem KpB.other {Bs : Nat} {v : Value} {w : World} (W : World) (l : Nat) (o o' : Obj) (_ : w.heap.size ≤ l) (h : W.heap[l]? = some o) (hc : o.isCells = false) (hw : o.isWalk = false) : KpB Bs v W (W.putObj l o') := by
  refine ⟨KeepsWalks.putObj _ h hw, fun x => ?_⟩
  by_cases e : l = Bs
  · subst e
    rw [h] at x
    cases x
    cases hc
  · exact (World.putObj_heap_other (fun q => e q.symm)).trans x

/-- where the walk over a text stands: ahead of piece k, which begins at 'from'; no / since -/
structure Stand (s : ByteArray) (k fr pos : Nat) : Prop where
  k_lt : k < (pcs s.data.toList).length
  rest : (pcs s.data.toList).drop k = pcs (s.data.toList.drop fr)
  le : fr ≤ pos
  size : pos ≤ s.size
  free : ∀ j, fr ≤ j → j < pos → (s.get! j).toNat ≠ 47

theorem Stand.zero (s : ByteArray) : Stand s 0 0 0 := ⟨List.length_pos_iff.2 (pcs_ne _), by simp, Nat.le_refl _, Nat.zero_le _, fun j a b => by omega⟩

theorem drop_get (s : ByteArray) (i : Nat) (h : i < s.size) : s.data.toList.drop i = s.get! i :: s.data.toList.drop (i + 1) := by
  have h' : i < s.data.toList.length := by simpa using h
  rw [List.drop_eq_getElem_cons h']
  congr 1
  show _ = s.data[i]!
  rw [getElem!_pos s.data i (by simpa using h')]
  simp

theorem cut_data (s : ByteArray) (a b : Nat) (hb : b ≤ s.size) : (s.extract a b).data.toList = (s.data.toList.drop a).take (b - a) := by
  rw [ByteArray.data_extract, Array.toList_extract, List.extract_eq_take_drop]

theorem free_cut {s : ByteArray} {a b : Nat} (hb : b ≤ s.size) (h : ∀ j, a ≤ j → j < b → (s.get! j).toNat ≠ 47) : (47 : UInt8) ∉ (s.data.toList.drop a).take (b - a) := by
  intro hm
  obtain ⟨j, hj, e⟩ := List.mem_iff_getElem.1 hm
  rw [List.getElem_take, List.getElem_drop] at e
  simp at hj
  have h2 := h (a + j) (by omega) (by omega)
  have e2 : s.get! (a + j) = s.data.toList[a + j]'(by simp; omega) := by
    show s.data[a + j]! = _
    rw [getElem!_pos s.data (a + j) (by show a + j < s.size; omega)]
    simp
  rw [e2, e] at h2
  exact h2 rfl

/-- a / : the piece is whole -/
theorem Stand.cut {s : ByteArray} {k fr pos : Nat} (h : Stand s k fr pos) (hp : pos < s.size) (hc : (s.get! pos).toNat = 47) : pcAt s.data.toList k = s.extract fr pos ∧ Stand s (k + 1) (pos + 1) (pos + 1) := by
  have hsp : s.data.toList.drop fr = (s.data.toList.drop fr).take (pos - fr) ++ 47 :: s.data.toList.drop (pos + 1) := by
    conv => lhs; rw [← List.take_append_drop (pos - fr) (s.data.toList.drop fr)]
    congr 1
    rw [List.drop_drop, show fr + (pos - fr) = pos by have := h.le; omega, drop_get s pos hp]
    congr 1
    exact UInt8.toNat.inj hc
  have hpc : pcs (s.data.toList.drop fr) = (s.data.toList.drop fr).take (pos - fr) :: pcs (s.data.toList.drop (pos + 1)) := by
    conv => lhs; rw [hsp]
    exact pcs_cut (free_cut (by omega) h.free)
  have hd := h.rest
  rw [hpc] at hd
  have hk : (pcs s.data.toList)[k]? = some ((s.data.toList.drop fr).take (pos - fr)) := by
    have := congrArg (·[0]?) hd
    simpa using this
  have hd2 : (pcs s.data.toList).drop (k + 1) = pcs (s.data.toList.drop (pos + 1)) := by
    have := congrArg List.tail hd
    simpa [List.tail_drop] using this
  refine ⟨?_, ⟨?_, hd2, Nat.le_refl _, by omega, fun j a b => by omega⟩⟩
  · apply ByteArray.ext
    unfold pcAt
    rw [hk, ← Array.toList_inj]
    rw [cut_data s fr pos (by omega)]
    simp
  · have := congrArg List.length hd2
    rw [List.length_drop] at this
    have := List.length_pos_iff.2 (pcs_ne (s.data.toList.drop (pos + 1)))
    omega

/-- the end: the last piece -/
theorem Stand.last {s : ByteArray} {k fr : Nat} (h : Stand s k fr s.size) : pcAt s.data.toList k = s.extract fr s.size ∧ (pcs s.data.toList).length = k + 1 := by
  have hpc : pcs (s.data.toList.drop fr) = [s.data.toList.drop fr] := by
    refine pcs_last ?_
    have := free_cut (Nat.le_refl _) h.free
    rwa [List.take_of_length_le (by simp)] at this
  have hd := h.rest
  rw [hpc] at hd
  have hk : (pcs s.data.toList)[k]? = some (s.data.toList.drop fr) := by
    have := congrArg (·[0]?) hd
    simpa using this
  refine ⟨?_, ?_⟩
  · apply ByteArray.ext
    unfold pcAt
    rw [hk, ← Array.toList_inj, cut_data s fr s.size (Nat.le_refl _), List.take_of_length_le (by simp)]
    simp
  · have := congrArg List.length hd
    rw [List.length_drop] at this
    simp at this
    have := h.k_lt
    omega

/-- another rune -/
theorem Stand.step {s : ByteArray} {k fr pos : Nat} (h : Stand s k fr pos) (hp : pos < s.size) (hc : (Utf8.decode s pos).1 ≠ 47) : Stand s k fr (pos + (Utf8.decode s pos).2) := by
  obtain ⟨a, b, c⟩ := decode_facts s pos hp
  refine ⟨h.k_lt, h.rest, by have := h.le; omega, a, fun j x y => ?_⟩
  by_cases hj : j < pos
  · exact h.free j x hj
  rcases c with ⟨c1, c2, c3⟩ | ⟨c1, c2⟩
  · have e : j = pos := by omega
    subst e
    omega
  · have := c2 j (by omega) y
    omega

theorem is_slash {s : ByteArray} {pos : Nat} (hp : pos < s.size) (hc : (Utf8.decode s pos).1 = 47) : (s.get! pos).toNat = 47 ∧ (Utf8.decode s pos).2 = 1 := by
  obtain ⟨a, b, c⟩ := decode_facts s pos hp
  rcases c with ⟨c1, c2, c3⟩ | ⟨c1, c2⟩ <;> omega

end Go.Proofs.Ythhdlmegbbmbhaa
