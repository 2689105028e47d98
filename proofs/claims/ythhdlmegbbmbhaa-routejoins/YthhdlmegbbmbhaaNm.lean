/- isName: a range over a text, rune by rune. -/
import Derived.Test.YthhdlmegbbmbhaaShelf
import Derived.Test.YthhdlmegbbmbhaaRows
import Derived.WalkKit
import Derived.WalkSpells
import Derived.WalkLawsBesides
namespace Go.Proofs.Ythhdlmegbbmbhaa
open Go.RowKit Go.Shelf
set_option linter.unusedVariables false

/-- a fact that a walk does not use -/
def Hid (p : Prop) : Prop := p
theorem hide {p : Prop} (h : p) : Hid p := h
theorem unhide {p : Prop} (h : Hid p) : p := h

theorem toList_data (s : ByteArray) : s.toList = s.data.toList := by
  exact ByteArray.toList_eq s

/-- the bytes ahead of a place are those of names -/
def Cln (s : ByteArray) (pos : Nat) : Prop := ∀ j, j < pos → (s.get! j).toNat ≠ 47 ∧ (s.get! j).toNat ≠ 0

theorem get_mem (s : ByteArray) (b : UInt8) : b ∈ s.data.toList ↔ ∃ j, j < s.size ∧ s.get! j = b := by
  constructor
  · intro h
    obtain ⟨j, hj, e⟩ := List.mem_iff_getElem.1 h
    refine ⟨j, by simpa using hj, ?_⟩
    rw [← e]
    simp at hj
    simp [ByteArray.get!, hj]
  · rintro ⟨j, hj, rfl⟩
    have hj' : j < s.data.size := hj
    have e : s.get! j = s.data[j] := by
      show s.data[j]! = _
      exact getElem!_pos s.data j hj'
    rw [e]
    exact Array.mem_toList_iff.2 (Array.getElem_mem hj')

theorem name_yes (s : ByteArray) (h1 : ¬ s.data.toList = []) (h2 : s.size ≤ 255) (h3 : ¬ s.data.toList = [46]) (h4 : ¬ s.data.toList = [46, 46]) (h : Cln s s.size) : nameL s.data.toList = true := by
  have a : (47 : UInt8) ∉ s.data.toList := fun hm => by
    obtain ⟨j, hj, e⟩ := (get_mem s 47).1 hm
    have := (h j hj).1
    rw [e] at this
    exact this rfl
  have b : (0 : UInt8) ∉ s.data.toList := fun hm => by
    obtain ⟨j, hj, e⟩ := (get_mem s 0).1 hm
    have := (h j hj).2
    rw [e] at this
    exact this rfl
  have c : 1 ≤ s.data.toList.length := by
    cases hl : s.data.toList with
    | nil => exact absurd hl h1
    | cons x y => simp
  have d : s.data.toList.length ≤ 255 := by simpa using h2
  simp only [nameL, a, b, c, d, h3, h4, ne_eq, not_false_eq_true, decide_true, Bool.and_self]

theorem name_no (s : ByteArray) (h : s.data.toList = [] ∨ 255 < s.size ∨ s.data.toList = [46] ∨ s.data.toList = [46, 46] ∨ ∃ j, j < s.size ∧ ((s.get! j).toNat = 47 ∨ (s.get! j).toNat = 0)) : nameL s.data.toList = false := by
  have e : s.data.toList.length = s.size := by simp
  unfold nameL
  rcases h with h | h | h | h | ⟨j, hj, h | h⟩
  · rw [h]; rfl
  · have : ¬ s.data.toList.length ≤ 255 := by omega
    have h2 : decide (s.data.toList.length ≤ 255) = false := decide_eq_false this
    rw [h2]
    simp
  · rw [h]; rfl
  · rw [h]; rfl
  · have : (47 : UInt8) ∈ s.data.toList := (get_mem s 47).2 ⟨j, hj, UInt8.toNat.inj h⟩
    simp only [this, not_true, decide_false, Bool.and_false, Bool.false_and]
  · have : (0 : UInt8) ∈ s.data.toList := (get_mem s 0).2 ⟨j, hj, UInt8.toNat.inj h⟩
    simp only [this, not_true, decide_false, Bool.and_false, Bool.false_and]

theorem Cln.step {s : ByteArray} {pos : Nat} (h : Cln s pos) (hp : pos < s.size) (h1 : (Utf8.decode s pos).1 ≠ 47) (h2 : (Utf8.decode s pos).1 ≠ 0) : Cln s (pos + (Utf8.decode s pos).2) := by
  intro j hj
  by_cases hlt : j < pos
  · exact h j hlt
  obtain ⟨a, b, c⟩ := decode_facts s pos hp
  rcases c with ⟨c1, c2, c3⟩ | ⟨c1, c2⟩
  · have e : j = pos := by omega
    subst e
    omega
  · have := c2 j (by omega) hj
    omega

theorem bad_at {s : ByteArray} {pos : Nat} (hp : pos < s.size) (h : (Utf8.decode s pos).1 = 47 ∨ (Utf8.decode s pos).1 = 0) : ∃ j, j < s.size ∧ ((s.get! j).toNat = 47 ∨ (s.get! j).toNat = 0) := by
  obtain ⟨a, b, c⟩ := decode_facts s pos hp
  refine ⟨pos, hp, ?_⟩
  rcases c with ⟨c1, c2, c3⟩ | ⟨c1, c2⟩ <;> omega

set_option maxHeartbeats 400000 in
theorem isName_ok (s : ByteArray) (w : World) (hs : s.size ≤ 9223372036854775807) :
    Calls Try.prog 30 #[.string s] w fun e w' => e = .returned (.bool (nameL s.data.toList)) ∧ Below w.heap.size w w' := by
  have HNO := hide (name_no s)
  rw [← toList_data] at HNO
  by_cases q1 : s.toList = []
  · have q1b : s.toList.isEmpty = true := by rw [q1]; rfl
    go_enter Try.func30, Try.ntmps30
    go_wp2_with fail
    go_ret
    exact ⟨by rw [← toList_data, unhide HNO (.inl q1)]; rfl, Below.refl _ _⟩
  have e1 : s.toList.isEmpty = false := by
    cases h : s.toList with
    | nil => exact absurd h q1
    | cons a b => rfl
  by_cases q2 : 255 < s.size
  · have q2i : (255 : Int) < s.size := by omega
    have q2j : ¬ (s.size : Int) ≤ 255 := by omega
    go_enter Try.func30, Try.ntmps30
    go_wp2_with fail
    go_ret
    exact ⟨by rw [← toList_data, unhide HNO (.inr (.inl q2))]; rfl, Below.refl _ _⟩
  by_cases q3 : s.toList = [46]
  · have e3 : (s.size : Int) ≤ 255 := by omega
    have e6 : ¬ (255 : Int) < s.size := by omega
    go_enter Try.func30, Try.ntmps30
    go_wp2_with fail
    go_ret
    exact ⟨by rw [← toList_data, unhide HNO (.inr (.inr (.inl q3)))]; rfl, Below.refl _ _⟩
  by_cases q4 : s.toList = [46, 46]
  · have e3 : (s.size : Int) ≤ 255 := by omega
    have e6 : ¬ (255 : Int) < s.size := by omega
    have e7 : (s.toList == [46]) = false := by simpa using q3
    go_enter Try.func30, Try.ntmps30
    go_wp2_with fail
    go_ret
    exact ⟨by rw [← toList_data, unhide HNO (.inr (.inr (.inr (.inl q4))))]; rfl, Below.refl _ _⟩
  clear HNO
  · have e1 : s.toList.isEmpty = false := by
      cases h : s.toList with
      | nil => exact absurd h q1
      | cons a b => rfl
    have e2 : ¬ s.toList = [] := q1
    have e3 : (s.size : Int) ≤ 255 := by
      omega
    have e4 : ¬ s.toList = [46] := q3
    have e5 : ¬ s.toList = [46, 46] := q4
    have e6 : ¬ (255 : Int) < s.size := by omega
    have e7 : (s.toList == [46]) = false := by simpa using e4
    have e8 : (s.toList == [46, 46]) = false := by simpa using e5
    go_enter Try.func30, Try.ntmps30
    go_wp2_with fail
    go_loopw [] (fun wr => ∃ pos : Nat, wr.heap[w.heap.size]? = some (.stringIter s pos) ∧ Below w.heap.size w wr ∧ Cln s pos ∧ pos ≤ s.size) (fun wr => s.size - wr.iterPos w.heap.size)
    case atStart => exact ⟨0, World.iter_heap _ _ _, (Below.refl _ w).alloc (Nat.le_refl _) _, fun j hj => absurd hj (Nat.not_lt_zero _), Nat.zero_le _⟩
    case round =>
      obtain ⟨pos, hit, hb, hc, hle⟩ := hrel
      by_cases hp : pos < s.size
      · have hnx : ∀ ty, (Instr.next (.pointer (some ⟨w.heap.size, 0, none⟩)) true ty).run Try.prog wr = _ := fun ty => Lib.run_next_any_at wr w.heap.size s pos ty hit hp
        have hit2 := Lib.iterAt_heap wr w.heap.size s pos (pos + (Utf8.decode s pos).2) hit
        have hb2 := Lib.below_iterAt hb (k := w.heap.size) (Nat.le_refl _) s (pos + (Utf8.decode s pos).2)
        have hdf := decode_facts s pos hp
        have HB := hide (bad_at hp)
        have HC := hide (hc.step hp)
        have HI := hide hit
        clear hc hit hb hdf
        by_cases h47 : (Utf8.decode s pos).1 = 47
        · go_wp2_with fail
          go_ret
          exact ⟨by rw [name_no s (.inr (.inr (.inr (.inr (unhide HB (.inl h47))))))]; rfl, hb2⟩
        by_cases h00 : (Utf8.decode s pos).1 = 0
        · go_wp2_with fail
          go_ret
          exact ⟨by rw [name_no s (.inr (.inr (.inr (.inr (unhide HB (.inr h00))))))]; rfl, hb2⟩
        have i47 : ¬ (((Utf8.decode s pos).1 : Nat) : Int) = 47 := by omega
        have i00 : ¬ (((Utf8.decode s pos).1 : Nat) : Int) = 0 := by omega
        have j47 : ((((Utf8.decode s pos).1 : Nat) : Int) == 47) = false := by simpa using i47
        have j00 : ((((Utf8.decode s pos).1 : Nat) : Int) == 0) = false := by simpa using i00
        go_wp2_with fail
        refine ⟨⟨_, hit2, hb2, unhide HC h47 h00, (decode_facts s pos hp).1⟩, ?_⟩
        have := decode_facts s pos hp
        simp only [World.iterPos, hit2, unhide HI]
        omega
      · have hnx : ∀ ty, (Instr.next (.pointer (some ⟨w.heap.size, 0, none⟩)) true ty).run Try.prog wr = _ := fun ty => Lib.run_next_end_at wr w.heap.size s pos ty hit hp
        obtain rfl : pos = s.size := by omega
        go_wp2_with fail
        go_ret
        have hy : nameL s.data.toList = true := by
          rw [toList_data] at e2 e4 e5
          exact name_yes s e2 (by omega) e4 e5 hc
        exact ⟨by rw [hy]; rfl, hb⟩

end Go.Proofs.Ythhdlmegbbmbhaa
