/- Parent. -/
import Derived.Test.YthhdlmegbbmbhaaBa
namespace Go.Proofs.Ythhdlmegbbmbhaa
open Go.RowKit Go.Shelf
set_option linter.unusedVariables false

theorem validL_names {l : List UInt8} (h : validL l = true) : ∀ p, p ∈ pcs l → nameL p = true := by
  unfold validL at h
  simp only [Bool.and_eq_true, decide_eq_true_eq] at h
  exact fun p hp => List.all_eq_true.1 h.1.2 p hp

theorem validL_deep {l : List UInt8} (h : validL l = true) : (pcs l).length ≤ 64 := by
  unfold validL at h
  simp only [Bool.and_eq_true, decide_eq_true_eq] at h
  exact h.2

theorem nameL_pos {p : List UInt8} (h : nameL p = true) : 1 ≤ p.length := by
  unfold nameL at h
  simp only [Bool.and_eq_true, decide_eq_true_eq] at h
  exact h.1.1.1.1.1

/-- the last piece -/
def lastL (l : List UInt8) : List UInt8 := (pcs l).getLast (pcs_ne l)

theorem baseB_list {l : List UInt8} (h : validL l = true) : (baseB l).data.toList = lastL l := by
  unfold baseB lastL
  rw [if_pos h]
  have h0 := List.length_pos_iff.2 (pcs_ne l)
  obtain ⟨n, hn⟩ : ∃ n, (pcs l).length = n + 1 := ⟨(pcs l).length - 1, by omega⟩
  rw [hn]
  show (pcAt l n).data.toList = _
  rw [pcAt_list (by omega), List.getLast_eq_getElem]
  congr 1
  omega

theorem last_join (l : List UInt8) (h : 2 ≤ (pcs l).length) : l = jn (pcs l).dropLast ++ 47 :: lastL l := by
  have e := List.dropLast_concat_getLast (pcs_ne l)
  have hd : (pcs l).dropLast ≠ [] := by
    intro h0
    have := congrArg List.length h0
    rw [List.length_dropLast] at this
    simp at this
    omega
  conv => lhs; rw [← jn_pcs l, ← e, jn_app _ _ hd (by simp)]
  rfl

theorem last_one (l : List UInt8) (h : (pcs l).length = 1) : lastL l = l := by
  obtain ⟨p, hp⟩ := List.length_eq_one_iff.1 h
  have : jn (pcs l) = l := jn_pcs l
  rw [hp] at this
  unfold lastL
  simp only [hp]
  exact this

/-- Parent's answer -/
def parentL (l : List UInt8) : List UInt8 := if validL l = true ∧ 2 ≤ (pcs l).length then jn (pcs l).dropLast else []
def parentOk (l : List UInt8) : Bool := validL l && decide (2 ≤ (pcs l).length)

theorem baseB_none {l : List UInt8} (h : validL l = false) : baseB l = ⟨#[]⟩ := by
  unfold baseB
  rw [if_neg (by rw [h]; exact Bool.false_ne_true)]

theorem trim_last {l : List UInt8} (h : 2 ≤ (pcs l).length) : Lib.trimSuffix l (47 :: lastL l) = jn (pcs l).dropLast := by
  have e := last_join l h
  unfold Lib.trimSuffix Lib.hasSuffix
  have h1 : (47 :: lastL l).isSuffixOf l = true := by
    rw [List.isSuffixOf_iff_suffix]
    exact ⟨_, e.symm⟩
  rw [if_pos h1]
  have h2 : l.length = (jn (pcs l).dropLast).length + (47 :: lastL l).length := by
    conv => lhs; rw [e]
    rw [List.length_append]
  have h3 : l.length - (47 :: lastL l).length = (jn (pcs l).dropLast).length := by omega
  rw [h3]
  generalize (jn (pcs l).dropLast) = u at e ⊢
  rw [e, List.take_left]

set_option maxHeartbeats 2000000 in
theorem parent_ok (s : ByteArray) (w : World) (hs : s.size ≤ 9223372036854775807) :
    Calls Try.prog 14 #[.string s] w fun e w' => e = .returned (.tuple #[.string ⟨(parentL s.data.toList).toArray⟩, .bool (parentOk s.data.toList)]) ∧ Below w.heap.size w w' := by
  have HB := hide (base_ok s w hs)
  cases hv : validL s.data.toList with
  | false =>
    rw [baseB_none hv] at HB
    have e1 : parentL s.data.toList = [] := by unfold parentL; rw [if_neg (fun h => by rw [hv] at h; exact Bool.false_ne_true h.1)]
    have e2 : parentOk s.data.toList = false := by unfold parentOk; rw [hv]; rfl
    rw [e1, e2]
    clear hv e1 e2
    go_enter Try.func14, Try.ntmps14
    go_wp2_with fail
    refine (unhide HB).mono ?_
    rintro e w1 ⟨rfl, hb1⟩
    have HB1 := hide hb1
    clear hb1
    go_wp2_with fail
    go_ret2
    exact ⟨rfl, unhide HB1⟩
  | true =>
    obtain ⟨b, hb⟩ : ∃ b, b = baseB s.data.toList := ⟨_, rfl⟩
    have hbl : b.data.toList = lastL s.data.toList := by rw [hb]; exact baseB_list hv
    have hpos : 1 ≤ (lastL s.data.toList).length := nameL_pos (validL_names hv _ (List.getLast_mem _))
    rw [← hb] at HB
    clear hb
    have hsm := validL_small hv
    have q1 : ¬ b.toList = [] := by
      rw [toList_data, hbl]
      intro h
      rw [h] at hpos
      simp at hpos
    have q1b : b.toList.isEmpty = false := by
      cases h : b.toList with
      | nil => exact absurd h q1
      | cons x y => rfl
    by_cases h1 : (pcs s.data.toList).length = 1
    · have hbs : b = s := by
        apply ByteArray.ext
        apply Array.toList_inj.1
        rw [hbl, last_one _ h1]
      have e1 : parentL s.data.toList = [] := by unfold parentL; rw [if_neg (fun h => by omega)]
      have e2 : parentOk s.data.toList = false := by unfold parentOk; rw [h1]; simp
      rw [e1, e2]
      subst hbs
      clear hv e1 e2 hbl h1 hpos
      go_enter Try.func14, Try.ntmps14
      go_wp2_with fail
      refine (unhide HB).mono ?_
      rintro e w1 ⟨rfl, hb1⟩
      have HB1 := hide hb1
      clear hb1
      go_wp2_with fail
      go_ret2
      exact ⟨rfl, unhide HB1⟩
    · have h2 : 2 ≤ (pcs s.data.toList).length := by have := List.length_pos_iff.2 (pcs_ne s.data.toList); omega
      have hlj := last_join s.data.toList h2
      have q2 : ¬ b = s := by
        intro h
        subst h
        have := congrArg List.length hlj
        rw [← hbl, List.length_append, List.length_cons] at this
        omega
      have q2b : (b.toList == s.toList) = false := by
        rw [beq_eq_false_iff_ne]
        intro h
        apply q2
        apply ByteArray.ext
        apply Array.toList_inj.1
        rw [← toList_data, ← toList_data, h]
      have e1 : parentL s.data.toList = jn (pcs s.data.toList).dropLast := by unfold parentL; rw [if_pos ⟨hv, h2⟩]
      have e2 : parentOk s.data.toList = true := by unfold parentOk; rw [hv]; simp [h2]
      have hbz : b.size ≤ 1024 := by
        have h3 : b.data.toList.length ≤ s.data.toList.length := by
          rw [hbl]
          have := congrArg List.length hlj
          rw [List.length_append, List.length_cons] at this
          omega
        simp at h3
        omega
      have HT := hide (Try.strings_TrimSuffix s (⟨#[47]⟩ ++ b))
      have HTE : Hid (Lib.trimSuffix s.data.toList (⟨#[47]⟩ ++ b : ByteArray).data.toList = jn (pcs s.data.toList).dropLast) := hide (by
        have : (⟨#[47]⟩ ++ b : ByteArray).data.toList = 47 :: lastL s.data.toList := by
          rw [ByteArray.data_append, Array.toList_append, hbl]
          rfl
        rw [this]
        exact trim_last h2)
      rw [e1, e2]
      have HJ : Hid ((jn (pcs s.data.toList).dropLast).length ≤ 1024) := hide (by
        have h3 := congrArg List.length hlj
        rw [List.length_append] at h3
        simp at h3
        omega)
      clear hv e1 e2 hbl h1 hpos h2 hlj
      go_enter Try.func14, Try.ntmps14
      go_wp2_with fail
      refine (unhide HB).mono ?_
      rintro e w1 ⟨rfl, hb1⟩
      have HB1 := hide hb1
      clear hb1
      go_wp2_with fail
      refine (unhide HT w1 hs).mono ?_
      rintro e w2 ⟨rfl, rfl⟩
      rw [unhide HTE]
      go_wp2_with fail
      refine (clone_ok _ w2 (by have := unhide HJ; simp [ByteArray.size]; omega)).mono ?_
      rintro e w3 ⟨rfl, hb3⟩
      have HB3 := hide ((unhide HB1).trans (hb3.mono (unhide HB1).size))
      clear hb3
      go_wp2_with fail
      go_ret2
      exact ⟨rfl, unhide HB3⟩

end Go.Proofs.Ythhdlmegbbmbhaa
