/- strings.Cut at a / , and Compare. -/
import Derived.Test.YthhdlmegbbmbhaaVa
import Derived.Lib.IndexLaws
import Derived.Deep.RegionHeld3
import Derived.StillTailTactics
namespace Go.Proofs.Ythhdlmegbbmbhaa
open Go.RowKit Go.Shelf
set_option linter.unusedVariables false

/-- a text cut at its first / -/
structure CutOf (s x y : ByteArray) (m : Bool) : Prop where
  yes : m = true → pcs s.data.toList = x.data.toList :: pcs y.data.toList
  no : m = false → pcs s.data.toList = [x.data.toList]
  xle : x.size ≤ s.size
  yle : y.size ≤ s.size

theorem cutOf_none {s : ByteArray} (h : Lib.indexByte s.data.toList 47 = -1) : CutOf s s ⟨#[]⟩ false := by
  refine ⟨fun e => (Bool.false_ne_true e).elim, fun _ => pcs_last ?_, Nat.le_refl _, Nat.zero_le _⟩
  intro hm
  obtain ⟨j, hj, e⟩ := List.mem_iff_getElem.1 hm
  exact Lib.indexByte_none h j (by rw [List.getElem?_eq_getElem hj, e])

theorem cutOf_some {s : ByteArray} {o : Nat} (h : Lib.indexByte s.data.toList 47 = o) : o + 1 ≤ s.size ∧ CutOf s (s.extract 0 o) (s.extract (o + 1) s.size) true := by
  obtain ⟨h1, h2⟩ := Lib.indexByte_some h
  obtain ⟨hlt, e⟩ := List.getElem?_eq_some_iff.1 h1
  have hlt' : o < s.size := by simpa using hlt
  refine ⟨hlt', fun _ => ?_, fun e => (Bool.false_ne_true e.symm).elim, ?_, ?_⟩
  · have hf : (47 : UInt8) ∉ s.data.toList.take o := by
      intro hm
      obtain ⟨j, hj, e2⟩ := List.mem_iff_getElem.1 hm
      rw [List.getElem_take] at e2
      simp at hj
      exact h2 j (by omega) (by rw [List.getElem?_eq_getElem (by omega), e2])
    have hsp : s.data.toList = s.data.toList.take o ++ 47 :: s.data.toList.drop (o + 1) := by
      conv => lhs; rw [← List.take_append_drop o s.data.toList]
      congr 1
      rw [List.drop_eq_getElem_cons hlt, e]
    conv => lhs; rw [hsp]
    rw [pcs_cut hf, cut_data s 0 o (by omega), cut_data s (o + 1) s.size (Nat.le_refl _)]
    rw [List.drop_zero, Nat.sub_zero, List.take_of_length_le (by simp : (s.data.toList.drop (o + 1)).length ≤ _)]
  · simp
    try omega
  · simp
    try omega

set_option maxHeartbeats 1000000 in
theorem cut43 (s : ByteArray) (w : World) (hs : s.size ≤ 9223372036854775807) :
    Calls Try.prog 43 #[.string s, .string ⟨#[47]⟩] w fun e w' => ∃ x y m, e = .returned (.tuple #[.string x, .string y, .bool m]) ∧ CutOf s x y m ∧ ∃ n, w' = w.drewN n := by
  have hge := Lib.indexByte_ge s.data.toList 47
  by_cases hi : Lib.indexByte s.data.toList 47 = -1
  · have HC := hide (cutOf_none hi)
    go_enter Try.func43, Try.ntmps43
    go_wp2_with fail
    refine (Try.stringslite_Index_one s 47 w).mono ?_
    rintro e w' ⟨rfl, rfl⟩
    rw [hi]
    go_wp2_with fail
    go_ret3
    exact ⟨_, _, _, rfl, unhide HC, 0, rfl⟩
  · obtain ⟨o, ho⟩ : ∃ o : Nat, Lib.indexByte s.data.toList 47 = o := ⟨(Lib.indexByte s.data.toList 47).toNat, by omega⟩
    obtain ⟨hl, hc⟩ := cutOf_some ho
    have HC := hide hc
    have c1 : (0 : Int) ≤ ↑o := by omega
    have c2 : (↑o : Int) ≤ ↑s.size := by omega
    have c3 : (0 : Int) ≤ ↑o + 1 := by omega
    have c4 : (↑o + 1 : Int) ≤ ↑s.size := by omega
    clear hc
    go_enter Try.func43, Try.ntmps43
    go_wp2_with fail
    refine (Try.stringslite_Index_one s 47 w).mono ?_
    rintro e w' ⟨rfl, rfl⟩
    rw [ho]
    clear hi hge
    have HO := hide ho
    clear ho
    go_wp2_with fail
    have mixed : Try.prog.follows .mixedOrders = true := by kernel_rfl
    go_region_o
    go_wp2_with fail
    go_ret3
    exact ⟨_, _, _, rfl, unhide HC, 1, rfl⟩

set_option maxHeartbeats 1000000 in
theorem cut_ok (s : ByteArray) (w : World) (hs : s.size ≤ 9223372036854775807) :
    Calls Try.prog 34 #[.string s, .string ⟨#[47]⟩] w fun e w' => ∃ x y m, e = .returned (.tuple #[.string x, .string y, .bool m]) ∧ CutOf s x y m ∧ ∃ n, w' = w.drewN n := by
  go_enter Try.func34, Try.ntmps34
  go_wp2_with fail
  refine (cut43 s w hs).mono ?_
  rintro e w' ⟨x, y, m, rfl, hc, hn⟩
  go_wp2_with fail
  go_ret3
  exact ⟨_, _, _, rfl, hc, hn⟩


theorem drewN_heap (w : World) (n : Nat) : (w.drewN n).heap = w.heap := by
  induction n generalizing w with
  | zero => rfl
  | succ n ih => exact ih w

theorem below_drewN (B : Nat) (w : World) (n : Nat) : Below B w (w.drewN n) := by
  induction n generalizing w with
  | zero => exact Below.refl _ _
  | succ n ih => exact (ih w).drew

end Go.Proofs.Ythhdlmegbbmbhaa
