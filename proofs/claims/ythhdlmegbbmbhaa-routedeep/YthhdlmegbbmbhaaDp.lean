/- RouteDeep. -/
import Derived.Test.YthhdlmegbbmbhaaPa
namespace Go.Proofs.Ythhdlmegbbmbhaa
open Go.RowKit Go.Shelf
set_option linter.unusedVariables false

theorem maxLen_le {n : Nat} (h : n ≤ maxLen) : n ≤ 9223372036854775807 := h

theorem within_trans {a b c : List UInt8} (h1 : withinL a b = true) (h2 : withinL b c = true) : withinL a c = true := by
  unfold withinL at h1 h2 ⊢
  simp only [Bool.and_eq_true, decide_eq_true_eq] at h1 h2 ⊢
  exact ⟨⟨⟨h1.1.1.1, h2.1.1.2⟩, h2.1.2.trans h1.1.2⟩, by omega⟩

/-- the first n + 1 of the names, as a text: where Deep's loop stands (k parents up) -/
def upL (l : List UInt8) (k : Nat) : List UInt8 := jn ((pcs l).take ((pcs l).length - k))

theorem upL_zero (l : List UInt8) : upL l 0 = l := by unfold upL; rw [Nat.sub_zero, List.take_length, jn_pcs]

theorem pcs_up {l : List UInt8} {k : Nat} (h : k < (pcs l).length) : pcs (upL l k) = (pcs l).take ((pcs l).length - k) := by
  unfold upL
  refine pcs_jn ?_ (fun p hp => pcs_free l p (List.mem_of_mem_take hp))
  intro h0
  have := congrArg List.length h0
  rw [List.length_take] at this
  simp at this
  omega

theorem jn_len_le (a b : List (List UInt8)) : (jn a).length ≤ (jn (a ++ b)).length := by
  by_cases ha : a = []
  · subst ha; simp [jn]
  by_cases hb : b = []
  · subst hb; simp
  rw [jn_app a b ha hb, List.length_append]
  omega

theorem upL_len (l : List UInt8) (k : Nat) : (upL l k).length ≤ l.length := by
  have h := jn_len_le ((pcs l).take ((pcs l).length - k)) ((pcs l).drop ((pcs l).length - k))
  rw [List.take_append_drop, jn_pcs] at h
  exact h

theorem valid_up {l : List UInt8} {k : Nat} (hv : validL l = true) (h : k < (pcs l).length) : validL (upL l k) = true := by
  have h1 := upL_len l k
  unfold validL at hv ⊢
  rw [pcs_up h]
  simp only [Bool.and_eq_true, decide_eq_true_eq, List.all_eq_true] at hv ⊢
  exact ⟨⟨by omega, fun p hp => hv.1.2 p (List.mem_of_mem_take hp)⟩, by rw [List.length_take]; omega⟩

theorem parent_up {l : List UInt8} {k : Nat} (hv : validL l = true) (h : k + 1 < (pcs l).length) : parentOk (upL l k) = true ∧ parentL (upL l k) = upL l (k + 1) := by
  have h0 : k < (pcs l).length := by omega
  have hv1 := valid_up hv h0
  have hl : 2 ≤ (pcs (upL l k)).length := by rw [pcs_up h0, List.length_take]; omega
  refine ⟨by unfold parentOk; rw [hv1]; simp [hl], ?_⟩
  unfold parentL
  rw [if_pos ⟨hv1, hl⟩, pcs_up h0]
  unfold upL
  congr 1
  rw [List.dropLast_eq_take, List.take_take, List.length_take]
  congr 1
  omega

theorem parent_top {l : List UInt8} {k : Nat} (hv : validL l = true) (h : k + 1 = (pcs l).length) : parentOk (upL l k) = false ∧ parentL (upL l k) = [] := by
  have h0 : k < (pcs l).length := by omega
  have hl : ¬ 2 ≤ (pcs (upL l k)).length := by rw [pcs_up h0, List.length_take]; omega
  refine ⟨by unfold parentOk; simp [hl], ?_⟩
  unfold parentL
  rw [if_neg (fun q => hl q.2)]

theorem parent_none {l : List UInt8} (hv : validL l = false) : parentOk l = false ∧ parentL l = [] := by
  refine ⟨by unfold parentOk; rw [hv]; rfl, ?_⟩
  unfold parentL
  rw [if_neg (fun q => by rw [hv] at q; exact Bool.false_ne_true q.1)]

theorem cmpPs_prefix (x t : List (List UInt8)) (h : t ≠ []) : cmpPs x (x ++ t) = -1 := by
  induction x with
  | nil =>
    cases t with
    | nil => exact absurd rfl h
    | cons a b => rfl
  | cons a r ih =>
    rw [List.cons_append]
    unfold cmpPs
    rw [if_neg (by rw [cmpB_self]; simp), ih]

theorem up_facts {l : List UInt8} {k : Nat} (hv : validL l = true) (h : k + 1 < (pcs l).length) : withinL l (upL l (k + 1)) = true ∧ withinL (upL l (k + 1)) l = false ∧ cmpL (upL l (k + 1)) l = -1 := by
  have e := pcs_up h
  have hv1 := valid_up hv h
  refine ⟨?_, ?_, ?_⟩
  · unfold withinL
    rw [hv, hv1, e]
    simp only [Bool.and_eq_true, decide_eq_true_eq]
    refine ⟨⟨⟨trivial, trivial⟩, List.take_prefix _ _⟩, ?_⟩
    rw [List.length_take]
    omega
  · unfold withinL
    rw [e]
    have : ¬ (pcs l).length < ((pcs l).take ((pcs l).length - (k + 1))).length := by rw [List.length_take]; omega
    rw [decide_eq_false this, Bool.and_false]
  · unfold cmpL
    rw [e]
    conv => lhs; rhs; rw [← List.take_append_drop ((pcs l).length - (k + 1)) (pcs l)]
    apply cmpPs_prefix
    intro h0
    have := congrArg List.length h0
    rw [List.length_drop] at this
    simp at this
    omega

theorem up_size (a : ByteArray) (k : Nat) : (⟨(upL a.data.toList k).toArray⟩ : ByteArray).size ≤ a.size := by
  have h1 := upL_len a.data.toList k
  have e1 : (⟨(upL a.data.toList k).toArray⟩ : ByteArray).size = (upL a.data.toList k).length := List.size_toArray
  have e2 : a.data.toList.length = a.size := by simp
  omega

set_option maxHeartbeats 4000000 in
theorem deep_law (a b c : ByteArray) (w : World) (ha : a.size ≤ 9223372036854775807) (hb : b.size ≤ 9223372036854775807) (hc : c.size ≤ 9223372036854775807) :
    Calls Try.prog 8 #[.string a, .string b, .string c] w fun e w' => e = .returned (.bool true) ∧ Below w.heap.size w w' := by
  have H0 := hide (fun w => within_ok ⟨#[97, 47, 98]⟩ ⟨#[97]⟩ w (by decide) (by decide))
  have e0 : withinL (⟨#[97, 47, 98]⟩ : ByteArray).data.toList (⟨#[97]⟩ : ByteArray).data.toList = true := by decide
  rw [e0] at H0
  have H1 := hide (fun w => within_ok a b w ha hb)
  have H2 := hide (fun w => within_ok b c w hb hc)
  have H3 := hide (fun w => within_ok a c w ha hc)
  have HT := @within_trans a.data.toList b.data.toList c.data.toList
  obtain ⟨q1, hq1⟩ : ∃ q1, q1 = withinL a.data.toList b.data.toList := ⟨_, rfl⟩
  obtain ⟨q2, hq2⟩ : ∃ q2, q2 = withinL b.data.toList c.data.toList := ⟨_, rfl⟩
  obtain ⟨q3, hq3⟩ : ∃ q3, q3 = withinL a.data.toList c.data.toList := ⟨_, rfl⟩
  rw [← hq1] at H1 HT
  rw [← hq2] at H2 HT
  rw [← hq3] at H3 HT
  have HT' := hide HT
  have HA := hide ha
  clear hq1 hq2 hq3 HT hb hc e0
  have hup0 : (⟨(upL a.data.toList 0).toArray⟩ : ByteArray) = a := by rw [upL_zero]
  have HU0 := hide hup0
  have HB0 := hide (show ∃ w0 : World, w0 = w from ⟨_, rfl⟩)
  clear hup0
  go_enter Try.func8, Try.ntmps8
  go_wp2_with fail
  refine (unhide H0 _).mono ?_
  rintro e w0 ⟨rfl, hb0⟩
  have B0 := hide hb0
  clear hb0
  go_wp2_with fail
  refine (unhide H1 _).mono ?_
  rintro e w1 ⟨rfl, hb1⟩
  have B1 := hide ((unhide B0).trans (hb1.mono (unhide B0).size))
  clear hb1 HB0 B0 H0 H1
  cases q1
  case' true =>
    go_wp2_with fail
    refine (unhide H2 _).mono ?_
    rintro e w2 ⟨rfl, hb2⟩
    have B2 := hide ((unhide B1).trans (hb2.mono (unhide B1).size))
    clear hb2 B1
    cases q2
    case' true =>
      have hq : q3 = true := by have h := unhide HT'; simpa using h
      subst hq
      go_wp2_with fail
      refine (unhide H3 _).mono ?_
      rintro e w3 ⟨rfl, hb3⟩
      have B3 := hide ((unhide B2).trans (hb3.mono (unhide B2).size))
      clear hb3 B2
  all_goals clear H2 H3 HT'
  all_goals go_wp2_with fail
  all_goals rename_i B1 _ _
  all_goals
    go_loopw [7, 8] (fun s n wr => ∃ k : Nat, s = .string ⟨(upL a.data.toList k).toArray⟩ ∧ n = .int .i64 (k : Int) ∧ Below w.heap.size w wr ∧ (validL a.data.toList = true → k < (pcs a.data.toList).length) ∧ (validL a.data.toList = false → k = 0)) (fun s n wr => (70 - intOf n).toNat)
    case atStart =>
      have hu := unhide HU0
      exact ⟨0, by rw [hu], rfl, unhide (by assumption), fun _ => List.length_pos_iff.2 (pcs_ne _), fun _ => rfl⟩
    case round =>
      obtain ⟨k, rfl, rfl, hbw, hk1, hk2⟩ := hrel
      have HBW := hide hbw
      have hsz : (⟨(upL a.data.toList k).toArray⟩ : ByteArray).size ≤ 9223372036854775807 := Nat.le_trans (up_size a k) (unhide HA)
      have HP := hide (parent_ok ⟨(upL a.data.toList k).toArray⟩ wr hsz)
      have hdl : (⟨(upL a.data.toList k).toArray⟩ : ByteArray).data.toList = upL a.data.toList k := by simp
      rw [hdl] at HP
      have hk70 : (k : Int) < 64 := by
        cases hv : validL a.data.toList with
        | true => have := hk1 hv; have := validL_deep hv; omega
        | false => have := hk2 hv; omega
      have HV := hide (fun w => valid_ok a w (unhide HA))
      clear hbw hsz hdl
      cases hv : validL a.data.toList with
      | false =>
        have hk0 := hk2 hv
        obtain ⟨p1, p2⟩ := parent_none hv
        have hu := upL_zero a.data.toList
        rw [hk0, hu, p1, p2, ← hu, ← hk0] at HP
        rw [hv] at HV
        clear hk1 hk2 hv hk0 p1 p2 hu
        go_wp2_with fail
        refine (unhide HP).mono ?_
        rintro e wp ⟨rfl, hbp⟩
        have HBP := hide ((unhide HBW).trans (hbp.mono (unhide HBW).size))
        clear hbp
        go_wp2_with fail
        refine (unhide HV _).mono ?_
        rintro e wv ⟨rfl, hbv⟩
        have HBV := hide ((unhide HBP).trans (hbv.mono (unhide HBP).size))
        clear hbv
        go_wp2_with fail
        go_ret
        exact ⟨rfl, unhide HBV⟩
      | true =>
        have hkN := hk1 hv
        rw [hv] at HV
        by_cases htop : k + 1 = (pcs a.data.toList).length
        · obtain ⟨p1, p2⟩ := parent_top hv htop
          rw [p1, p2] at HP
          clear hk1 hk2 hv p1 p2 htop hkN
          go_wp2_with fail
          refine (unhide HP).mono ?_
          rintro e wp ⟨rfl, hbp⟩
          have HBP := hide ((unhide HBW).trans (hbp.mono (unhide HBW).size))
          clear hbp
          go_wp2_with fail
          refine (unhide HV _).mono ?_
          rintro e wv ⟨rfl, hbv⟩
          have HBV := hide ((unhide HBP).trans (hbv.mono (unhide HBP).size))
          clear hbv
          go_wp2_with fail
          go_ret
          exact ⟨rfl, unhide HBV⟩
        · have hlt : k + 1 < (pcs a.data.toList).length := by omega
          obtain ⟨p1, p2⟩ := parent_up hv hlt
          obtain ⟨f1, f2, f3⟩ := up_facts hv hlt
          have HV2 := hide hv
          rw [p1, p2] at HP
          have hsz2 : (⟨(upL a.data.toList (k + 1)).toArray⟩ : ByteArray).size ≤ 9223372036854775807 := Nat.le_trans (up_size a (k + 1)) (unhide HA)
          have hdl2 : (⟨(upL a.data.toList (k + 1)).toArray⟩ : ByteArray).data.toList = upL a.data.toList (k + 1) := by simp
          have W1 := hide (fun w => within_ok a ⟨(upL a.data.toList (k + 1)).toArray⟩ w (unhide HA) hsz2)
          have W2 := hide (fun w => within_ok ⟨(upL a.data.toList (k + 1)).toArray⟩ a w hsz2 (unhide HA))
          have W3 := hide (fun w => compare_ok ⟨(upL a.data.toList (k + 1)).toArray⟩ a w hsz2 (unhide HA))
          rw [hdl2] at W1 W2 W3
          rw [f1] at W1
          rw [f2] at W2
          rw [f3] at W3
          have HLT := hide hlt
          obtain ⟨u, hu⟩ : ∃ u : ByteArray, u = ⟨(upL a.data.toList (k + 1)).toArray⟩ := ⟨_, rfl⟩
          rw [← hu] at HP W1 W2 W3
          have HU := hide hu
          clear hk1 hk2 hv p1 p2 htop hkN hlt f1 f2 f3 hsz2 hdl2 HV hu
          go_wp2_with fail
          refine (unhide HP).mono ?_
          rintro e wp ⟨rfl, hbp⟩
          have HBP := hide ((unhide HBW).trans (hbp.mono (unhide HBW).size))
          clear hbp
          go_wp2_with fail
          refine (unhide W1 _).mono ?_
          rintro e wv ⟨rfl, hbv⟩
          have HB1 := hide ((unhide HBP).trans (hbv.mono (unhide HBP).size))
          clear hbv
          go_wp2_with fail
          refine (unhide W2 _).mono ?_
          rintro e wv2 ⟨rfl, hbv⟩
          have HB2 := hide ((unhide HB1).trans (hbv.mono (unhide HB1).size))
          clear hbv
          go_wp2_with fail
          refine (unhide W3 _).mono ?_
          rintro e wv3 ⟨rfl, hbv⟩
          have HB3 := hide ((unhide HB2).trans (hbv.mono (unhide HB2).size))
          clear hbv
          go_wp2_with fail
          go_roundw
          case rel => exact ⟨k + 1, by rw [unhide HU], by simp, unhide HB3, fun _ => unhide HLT, fun h => (Bool.false_ne_true h.symm).elim⟩
          case measure => simp [intOf]; omega

end Go.Proofs.Ythhdlmegbbmbhaa
