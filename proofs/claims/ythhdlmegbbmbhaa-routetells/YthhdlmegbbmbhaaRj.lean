/- The document's Compare and Within. -/
import Derived.Test.YthhdlmegbbmbhaaRi
namespace Go.Proofs.Ythhdlmegbbmbhaa
open Go.RowKit Go.Shelf
set_option linter.unusedVariables false

namespace Doc

theorem PcsAt.drewN {w : World} {g : Nat} {l : List UInt8} (h : PcsAt w g l) (n : Nat) : PcsAt (w.drewN n) g l :=
  ⟨fun j hj => by rw [World.cell?_of_block (w := w) (by rw [drewN_heap])]; exact h.at_ j hj, by rw [drewN_heap]; exact h.lt⟩

theorem str_eq {p q : ByteArray} : (p.toList == q.toList) = decide (Lib.compareBytes p.data.toList q.data.toList = 0) := by
  rw [toList_data, toList_data]
  by_cases h : p.data.toList = q.data.toList
  · rw [h, cmpB_self]; simp
  · have : ¬ Lib.compareBytes p.data.toList q.data.toList = 0 := fun e => h (cmpB_cmp.eq _ _ e)
    rw [decide_eq_false this]
    simpa using h

theorem less_str (p q : ByteArray) : Op.bytesLess p.toList q.toList = decide (Lib.compareBytes p.data.toList q.data.toList = -1) := by
  rw [toList_data, toList_data]
  exact less_is _ _

set_option maxHeartbeats 4000000 in
theorem compare_ok (a b : ByteArray) (w : World) (ha : a.size ≤ 1000000000000) (hb : b.size ≤ 1000000000000) :
    Calls Try.prog 21 #[.string a, .string b] w fun e w' => e = .returned (.int .i64 (cmpL a.data.toList b.data.toList)) ∧ Below w.heap.size w w' := by
  have mixed : Try.prog.follows .mixedOrders = true := by kernel_rfl
  go_enter Try.func21, Try.ntmps21
  go_wp2_with fail
  refine (pieces_ok a w ha).mono ?_
  rintro e w1 ⟨g, cap, rfl, hg, hpa, hcap, hb1⟩
  have HB1 := hide hb1
  have HPA := hide hpa
  clear hb1 hpa
  go_wp2_with fail
  refine (pieces_ok b w1 hb).mono ?_
  rintro e w2 ⟨g2, cap2, rfl, hg2, hpa2, hcap2, hb2⟩
  have HB2 := hide ((unhide HB1).trans (hb2.mono (unhide HB1).size))
  have HPA1 := hide ((unhide HPA).belowAll hb2)
  have HPA2 := hide hpa2
  clear hb2 hpa2 HPA HB1
  obtain ⟨N, hN⟩ : ∃ N, N = (pcs a.data.toList).length := ⟨_, rfl⟩
  obtain ⟨M, hM⟩ : ∃ M, M = (pcs b.data.toList).length := ⟨_, rfl⟩
  have hNs : N ≤ 1000000000001 := by have := pcs_len a.data.toList; have e : a.data.toList.length = a.size := (by simp); omega
  have hMs : M ≤ 1000000000001 := by have := pcs_len b.data.toList; have e : b.data.toList.length = b.size := (by simp); omega
  rw [← hN] at hcap ⊢
  rw [← hM] at hcap2 ⊢
  have HN := hide hN
  have HM := hide hM
  clear hN hM
  go_wp2_with fail
  go_loopw [7] (fun i wr => ∃ k n : Nat, i = .int .i64 (k : Int) ∧ k ≤ N ∧ k ≤ M ∧ wr = w2.drewN n ∧ cmpL a.data.toList b.data.toList = cmpPs ((pcs a.data.toList).drop k) ((pcs b.data.toList).drop k)) (fun i _ => ((N : Int) - intOf i).toNat)
  case atStart => exact ⟨0, 0, rfl, Nat.zero_le _, Nat.zero_le _, rfl, by simp [cmpL]⟩
  case round =>
    obtain ⟨k, n, rfl, hkN, hkM, rfl, hc⟩ := hrel
    by_cases h1 : k < N
    · have i1 : (k : Int) < (N : Int) := by omega
      by_cases h2 : k < M
      · have i2 : (k : Int) < (M : Int) := by omega
        have l1 : k < (pcs a.data.toList).length := by rw [← unhide HN]; exact h1
        have l2 : k < (pcs b.data.toList).length := by rw [← unhide HM]; exact h2
        have d0 : w2.cell? ⟨g, k, none⟩ = some (.string (pcAt a.data.toList k)) := (unhide HPA1).at_ k l1
        have d1 : w2.cell? ⟨g2, k, none⟩ = some (.string (pcAt b.data.toList k)) := (unhide HPA2).at_ k l2
        have hs : cmpL a.data.toList b.data.toList = (if Lib.compareBytes (pcAt a.data.toList k).data.toList (pcAt b.data.toList k).data.toList ≠ 0 then Lib.compareBytes (pcAt a.data.toList k).data.toList (pcAt b.data.toList k).data.toList else cmpPs ((pcs a.data.toList).drop (k + 1)) ((pcs b.data.toList).drop (k + 1))) := by
          rw [hc, List.drop_eq_getElem_cons l1, List.drop_eq_getElem_cons l2, pcAt_list l1, pcAt_list l2]
          rfl
        obtain ⟨p, hp⟩ : ∃ p, p = pcAt a.data.toList k := ⟨_, rfl⟩
        obtain ⟨q, hq⟩ : ∃ q, q = pcAt b.data.toList k := ⟨_, rfl⟩
        rw [← hp] at d0 hs
        rw [← hq] at d1 hs
        clear hp hq
        have hlt := less_str p q
        have heq := @str_eq p q
        have hvv := cmpB_vals p.data.toList q.data.toList
        obtain ⟨c, hcc⟩ : ∃ c, c = Lib.compareBytes p.data.toList q.data.toList := ⟨_, rfl⟩
        rw [← hcc] at hlt heq hvv hs
        have HS := hide hs
        clear hs hc hcc l1 l2
        rcases hvv with rfl | rfl | rfl
        · have hlt' : Op.bytesLess p.toList q.toList = true := by rw [hlt]; rfl
          clear hlt heq
          go_wp2_with fail
          go_region_o
          go_wp2_with fail
          go_ret
          refine ⟨by rw [unhide HS]; rfl, (unhide HB2).trans ((below_drewN _ w2 (n + 1)))⟩
        · have hlt' : Op.bytesLess p.toList q.toList = false := by rw [hlt]; rfl
          have heq' : (p.toList == q.toList) = true := by rw [heq]; rfl
          clear hlt heq
          go_wp2_with fail
          go_region_o
          go_wp2_with fail
          go_region_o
          go_wp2_with fail
          refine ⟨⟨k + 1, n + 2, by simp, by omega, by omega, by first | rfl | trivial, ?_⟩, by simp [intOf]; omega⟩
          rw [unhide HS]
          rfl
        · have hlt' : Op.bytesLess p.toList q.toList = false := by rw [hlt]; rfl
          have heq' : (p.toList == q.toList) = false := by rw [heq]; rfl
          clear hlt heq
          go_wp2_with fail
          go_region_o
          go_wp2_with fail
          go_region_o
          go_wp2_with fail
          go_ret
          refine ⟨by rw [unhide HS]; rfl, (unhide HB2).trans ((below_drewN _ w2 (n + 2)))⟩
      · obtain rfl : k = M := by omega
        have i2 : ¬ (k : Int) < (k : Int) := by omega
        have i3 : (k : Int) < (N : Int) := by omega
        have i4 : ¬ (N : Int) < (k : Int) := by omega
        have hv : cmpL a.data.toList b.data.toList = 1 := by
          rw [hc, List.drop_of_length_le (l := pcs b.data.toList) (by rw [← unhide HM]; exact Nat.le_refl _), List.drop_eq_getElem_cons (by rw [← unhide HN]; exact h1)]
          rfl
        have HV := hide hv
        clear hv hc
        go_wp2_with fail
        go_ret
        exact ⟨by rw [unhide HV]; rfl, (unhide HB2).trans (below_drewN _ w2 n)⟩
    · obtain rfl : k = N := by omega
      have i1 : ¬ (k : Int) < (k : Int) := by omega
      by_cases h2 : k < M
      · have i2 : (k : Int) < (M : Int) := by omega
        have hv : cmpL a.data.toList b.data.toList = -1 := by
          rw [hc, List.drop_of_length_le (l := pcs a.data.toList) (by rw [← unhide HN]; exact Nat.le_refl _), List.drop_eq_getElem_cons (by rw [← unhide HM]; exact h2)]
          rfl
        have HV := hide hv
        clear hv hc
        go_wp2_with fail
        go_ret
        exact ⟨by rw [unhide HV]; rfl, (unhide HB2).trans (below_drewN _ w2 n)⟩
      · obtain rfl : k = M := by omega
        have hv : cmpL a.data.toList b.data.toList = 0 := by
          rw [hc, List.drop_of_length_le (l := pcs a.data.toList) (by rw [← unhide HN]; exact Nat.le_refl _), List.drop_of_length_le (l := pcs b.data.toList) (by rw [← unhide HM]; exact Nat.le_refl _)]
          rfl
        have HV := hide hv
        clear hv hc
        go_wp2_with fail
        go_ret
        exact ⟨by rw [unhide HV]; rfl, (unhide HB2).trans (below_drewN _ w2 n)⟩

theorem take_next {x y : List (List UInt8)} {k : Nat} (hx : k < x.length) (hy : k < y.length) (h : x.take k = y.take k) (he : x[k] = y[k]) : x.take (k + 1) = y.take (k + 1) := by
  rw [List.take_succ_eq_append_getElem hx, List.take_succ_eq_append_getElem hy, h, he]

set_option maxHeartbeats 4000000 in
theorem within_ok (s f : ByteArray) (w : World) (hs : s.size ≤ 9223372036854775807) (hf : f.size ≤ 9223372036854775807) :
    Calls Try.prog 23 #[.string s, .string f] w fun e w' => e = .returned (.bool (withinL s.data.toList f.data.toList)) ∧ Below w.heap.size w w' := by
  have mixed : Try.prog.follows .mixedOrders = true := by kernel_rfl
  go_enter Try.func23, Try.ntmps23
  go_wp2_with fail
  refine (names_ok s w hs).mono ?_
  rintro e w1 ⟨v1, rfl, hn1, hb1⟩
  have HB1 := hide hb1
  have HN1 := hide hn1
  clear hb1 hn1
  go_wp2_with fail
  refine (names_ok f w1 hf).mono ?_
  rintro e w2 ⟨v2, rfl, hn2, hb2⟩
  have HB2 := hide ((unhide HB1).trans (hb2.mono (unhide HB1).size))
  rcases unhide HN1 with ⟨hv1, g, cap, rfl, hg, hpa, hcap⟩ | ⟨hv1, rfl⟩
  case' inl =>
    have HPA1 := hide (hpa.belowAll hb2)
    clear hpa hg
  all_goals clear hb2 HB1 HN1
  all_goals rcases hn2 with ⟨hv2, g2, cap2, rfl, hg2, hpa2, hcap2⟩ | ⟨hv2, rfl⟩
  · have HPA2 := hide hpa2
    have h64 := validL_deep hv1
    have h642 := validL_deep hv2
    obtain ⟨N, hN⟩ : ∃ N, N = (pcs s.data.toList).length := ⟨_, rfl⟩
    obtain ⟨M, hM⟩ : ∃ M, M = (pcs f.data.toList).length := ⟨_, rfl⟩
    have h0 := List.length_pos_iff.2 (pcs_ne f.data.toList)
    rw [← hN] at hcap h64 ⊢
    rw [← hM] at hcap2 h642 h0 ⊢
    have HN := hide hN
    have HM := hide hM
    have HV1 := hide hv1
    have HV2 := hide hv2
    have m0 : ¬ (M : Int) = 0 := by omega
    have m1 : ((M : Int) == 0) = false := by simpa using m0
    clear hN hM hv1 hv2 hpa2 hg2
    by_cases hle : N ≤ M
    · have n0 : (N : Int) ≤ (M : Int) := by omega
      have hw : withinL s.data.toList f.data.toList = false := by
        unfold withinL
        rw [decide_eq_false (by rw [← unhide HN, ← unhide HM]; omega : ¬ (pcs f.data.toList).length < (pcs s.data.toList).length), Bool.and_false]
      have HW := hide hw
      clear hw
      go_wp2_with fail
      go_ret
      exact ⟨by rw [unhide HW]; rfl, unhide HB2⟩
    · have n0 : ¬ (N : Int) ≤ (M : Int) := by omega
      go_wp2_with fail
      go_loopw [7] (fun i wr => ∃ k n : Nat, i = .int .i64 (k : Int) ∧ k ≤ M ∧ wr = w2.drewN n ∧ (pcs f.data.toList).take k = (pcs s.data.toList).take k) (fun i _ => ((M : Int) - intOf i).toNat)
      case atStart => exact ⟨0, 0, rfl, Nat.zero_le _, rfl, rfl⟩
      case round =>
        obtain ⟨k, n, rfl, hkM, rfl, ht⟩ := hrel
        by_cases h1 : k < M
        · have i1 : (k : Int) < (M : Int) := by omega
          have i2 : (k : Int) < (N : Int) := by omega
          have l1 : k < (pcs s.data.toList).length := by rw [← unhide HN]; omega
          have l2 : k < (pcs f.data.toList).length := by rw [← unhide HM]; exact h1
          have d0 : w2.cell? ⟨g, k, none⟩ = some (.string (pcAt s.data.toList k)) := (unhide HPA1).at_ k l1
          have d1 : w2.cell? ⟨g2, k, none⟩ = some (.string (pcAt f.data.toList k)) := (unhide HPA2).at_ k l2
          have p1 := pcAt_list l1
          have p2 := pcAt_list l2
          by_cases he : (pcs s.data.toList)[k] = (pcs f.data.toList)[k]
          · have HT := hide (take_next l2 l1 ht he.symm)
            have heq : ((pcAt s.data.toList k).toList == (pcAt f.data.toList k).toList) = true := by rw [toList_data, toList_data, p1, p2, he]; simp
            have heq2 : (pcAt s.data.toList k).toList = (pcAt f.data.toList k).toList := by rw [toList_data, toList_data, p1, p2, he]
            clear ht he p1 p2 l1 l2
            go_wp2_with fail
            go_region_o
            go_wp2_with fail
            exact ⟨⟨k + 1, n + 1, by simp, by omega, by first | rfl | trivial, unhide HT⟩, by simp [intOf]; omega⟩
          · have hw : withinL s.data.toList f.data.toList = false := by
              have hnp : ¬ pcs f.data.toList <+: pcs s.data.toList := by
                intro hp
                apply he
                exact (List.IsPrefix.getElem hp l2).symm
              unfold withinL
              rw [decide_eq_false hnp, Bool.and_false, Bool.false_and]
            have heq : ((pcAt s.data.toList k).toList == (pcAt f.data.toList k).toList) = false := by rw [toList_data, toList_data, p1, p2]; simpa using he
            have heq2 : ¬ (pcAt s.data.toList k).toList = (pcAt f.data.toList k).toList := by rw [toList_data, toList_data, p1, p2]; exact he
            have HW := hide hw
            clear ht he p1 p2 l1 l2 hw
            go_wp2_with fail
            go_region_o
            go_wp2_with fail
            go_ret
            exact ⟨by rw [unhide HW]; rfl, (unhide HB2).trans (below_drewN _ w2 (n + 1))⟩
        · obtain rfl : k = M := by omega
          have i1 : ¬ (k : Int) < (k : Int) := by omega
          have hw : withinL s.data.toList f.data.toList = true := by
            have hp : pcs f.data.toList <+: pcs s.data.toList := by
              rw [List.take_of_length_le (l := pcs f.data.toList) (by rw [← unhide HM]; exact Nat.le_refl _)] at ht
              rw [ht]
              exact List.take_prefix _ _
            unfold withinL
            rw [unhide HV1, unhide HV2]
            simp only [Bool.and_eq_true, decide_eq_true_eq]
            exact ⟨⟨⟨trivial, trivial⟩, hp⟩, by rw [← unhide HN, ← unhide HM]; omega⟩
          have HW := hide hw
          clear ht hw
          go_wp2_with fail
          go_ret
          exact ⟨by rw [unhide HW]; rfl, (unhide HB2).trans (below_drewN _ w2 n)⟩
  all_goals
    have hw : withinL s.data.toList f.data.toList = false := by
      unfold withinL
      first
        | rw [hv2, Bool.and_false, Bool.false_and, Bool.false_and]
        | rw [hv1, Bool.false_and, Bool.false_and, Bool.false_and]
    have HW := hide hw
    clear hw hv1 hv2
  · go_wp2_with fail
    go_ret
    exact ⟨by rw [unhide HW]; rfl, unhide HB2⟩
  · obtain ⟨M, hM⟩ : ∃ M, M = (pcs f.data.toList).length := ⟨_, rfl⟩
    have h0 := List.length_pos_iff.2 (pcs_ne f.data.toList)
    rw [← hM] at hcap2 h0 ⊢
    have m0 : ¬ (M : Int) = 0 := by omega
    have m1 : ((M : Int) == 0) = false := by simpa using m0
    have m2 : (0 : Int) ≤ (M : Int) := by omega
    clear hM
    go_wp2_with fail
    go_ret
    exact ⟨by rw [unhide HW]; rfl, unhide HB2⟩
  · go_wp2_with fail
    go_ret
    exact ⟨by rw [unhide HW]; rfl, unhide HB2⟩

end Doc
end Go.Proofs.Ythhdlmegbbmbhaa
