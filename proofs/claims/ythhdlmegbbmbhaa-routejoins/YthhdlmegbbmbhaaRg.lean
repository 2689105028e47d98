/- The document's Base, Parent and Read. -/
import Derived.Test.YthhdlmegbbmbhaaRf
namespace Go.Proofs.Ythhdlmegbbmbhaa
open Go.RowKit Go.Shelf
set_option linter.unusedVariables false

namespace Doc

theorem baseB_some {l : List UInt8} (h : validL l = true) : baseB l = pcAt l ((pcs l).length - 1) := by
  unfold baseB
  rw [if_pos h]
  have h0 := List.length_pos_iff.2 (pcs_ne l)
  obtain ⟨n, hn⟩ : ∃ n, (pcs l).length = n + 1 := ⟨(pcs l).length - 1, by omega⟩
  rw [hn]
  rfl

set_option maxHeartbeats 2000000 in
theorem base_ok (s : ByteArray) (w : World) (hs : s.size ≤ 9223372036854775807) :
    Calls Try.prog 19 #[.string s] w fun e w' => e = .returned (.string (baseB s.data.toList)) ∧ Below w.heap.size w w' := by
  have HN := hide (names_ok s w hs)
  go_enter Try.func19, Try.ntmps19
  go_wp2_with fail
  refine (unhide HN).mono ?_
  rintro e w1 ⟨v, rfl, hn, hb1⟩
  have HB1 := hide hb1
  clear hb1
  rcases hn with ⟨hv, g, cap, rfl, hg, hpa, hcap⟩ | ⟨hv, rfl⟩
  · have hb := baseB_some hv
    have h64 := validL_deep hv
    have h0 := List.length_pos_iff.2 (pcs_ne s.data.toList)
    have hat := hpa.at_ ((pcs s.data.toList).length - 1) (by omega)
    obtain ⟨N, hNe⟩ : ∃ N, N = (pcs s.data.toList).length := ⟨_, rfl⟩
    rw [← hNe] at hb h64 h0 hat hcap ⊢
    obtain ⟨M, hM⟩ : ∃ M, M = N - 1 := ⟨_, rfl⟩
    rw [← hM] at hb hat
    have eM : (N : Int) - 1 = (M : Int) := by omega
    have hMN : (M : Int) < (N : Int) := by omega
    have hM0 : (0 : Int) ≤ (M : Int) := by omega
    have n0 : ¬ (N : Int) = 0 := by omega
    have n1 : ((N : Int) == 0) = false := by simpa using n0
    have HB := hide hb
    clear hb hv hNe hM
    go_wp2_with fail
    go_ret
    exact ⟨by rw [unhide HB]; rfl, unhide HB1⟩
  · have HB := hide (baseB_none hv)
    clear hv
    go_wp2_with fail
    go_ret
    exact ⟨by rw [unhide HB]; rfl, unhide HB1⟩

theorem take_parent {l : List UInt8} (h : 2 ≤ (pcs l).length) : l.take (jn (pcs l).dropLast).length = jn (pcs l).dropLast := by
  have e := last_join l h
  generalize jn (pcs l).dropLast = u at e ⊢
  rw [e, List.take_left]

set_option maxHeartbeats 2000000 in
theorem parent_ok (s : ByteArray) (w : World) (hs : s.size ≤ 9223372036854775807) :
    Calls Try.prog 15 #[.string s] w fun e w' => e = .returned (.tuple #[.string ⟨(parentL s.data.toList).toArray⟩, .bool (parentOk s.data.toList)]) ∧ Below w.heap.size w w' := by
  have HN := hide (names_ok s w hs)
  go_enter Try.func15, Try.ntmps15
  go_wp2_with fail
  refine (unhide HN).mono ?_
  rintro e w1 ⟨v, rfl, hn, hb1⟩
  have HB1 := hide hb1
  clear hb1
  rcases hn with ⟨hv, g, cap, rfl, hg, hpa, hcap⟩ | ⟨hv, rfl⟩
  · have hsm := validL_small hv
    have h64 := validL_deep hv
    have h0 := List.length_pos_iff.2 (pcs_ne s.data.toList)
    have hat := hpa.at_ ((pcs s.data.toList).length - 1) (by omega)
    have hll : (pcAt s.data.toList ((pcs s.data.toList).length - 1)).data.toList = lastL s.data.toList := by
      rw [← baseB_some hv, baseB_list hv]
    by_cases h2 : 2 ≤ (pcs s.data.toList).length
    · have e1 : parentL s.data.toList = jn (pcs s.data.toList).dropLast := by unfold parentL; rw [if_pos ⟨hv, h2⟩]
      have e2 : parentOk s.data.toList = true := by unfold parentOk; rw [hv]; simp [h2]
      have htk := take_parent h2
      have hlj := last_join s.data.toList h2
      have hle := congrArg List.length hlj
      rw [List.length_append, List.length_cons] at hle
      have hse : s.data.toList.length = s.size := by simp
      obtain ⟨N, hNe⟩ : ∃ N, N = (pcs s.data.toList).length := ⟨_, rfl⟩
      rw [← hNe] at h64 h0 hat hcap h2 hll ⊢
      obtain ⟨M, hM⟩ : ∃ M, M = N - 1 := ⟨_, rfl⟩
      rw [← hM] at hat hll
      obtain ⟨b, hb⟩ : ∃ b, b = pcAt s.data.toList M := ⟨_, rfl⟩
      rw [← hb] at hat hll
      have hbs : b.size = (lastL s.data.toList).length := by rw [← hll]; simp
      obtain ⟨K, hK⟩ : ∃ K, K = (jn (pcs s.data.toList).dropLast).length := ⟨_, rfl⟩
      have eK : (s.size : Int) - (b.size : Int) - 1 = (K : Int) := by omega
      have hKs : (K : Int) ≤ (s.size : Int) := by omega
      have hK0 : (0 : Int) ≤ (K : Int) := by omega
      have hbb : (b.size : Int) ≤ 1024 := by omega
      have hbs2 : (s.size : Int) ≤ 1024 := by omega
      have hex : s.extract 0 K = ⟨(parentL s.data.toList).toArray⟩ := by
        apply ByteArray.ext
        apply Array.toList_inj.1
        rw [cut_data s 0 K (by omega), e1]
        simp only [List.drop_zero, Nat.sub_zero]
        rw [hK]
        exact htk
      have eM : (N : Int) - 1 = (M : Int) := by omega
      have hMN : (M : Int) < (N : Int) := by omega
      have hM0 : (0 : Int) ≤ (M : Int) := by omega
      have n0 : ¬ (N : Int) < 2 := by omega
      have HEX := hide hex
      have E2 := hide e2
      clear hv hNe hM hlj hle hll hb hbs hK hex e1 e2 hse htk
      go_wp2_with fail
      go_ret2
      exact ⟨by rw [unhide E2, ← unhide HEX]; rfl, unhide HB1⟩
    · have e1 : parentL s.data.toList = [] := by unfold parentL; rw [if_neg (fun h => h2 h.2)]
      have e2 : parentOk s.data.toList = false := by unfold parentOk; simp [h2]
      obtain ⟨N, hNe⟩ : ∃ N, N = (pcs s.data.toList).length := ⟨_, rfl⟩
      rw [← hNe] at h64 h0 hcap h2 ⊢
      have n0 : (N : Int) < 2 := by omega
      have E1 := hide e1
      have E2 := hide e2
      clear hv hNe e1 e2 hll hat
      go_wp2_with fail
      go_ret2
      exact ⟨by rw [unhide E1, unhide E2]; rfl, unhide HB1⟩
  · have e1 : parentL s.data.toList = [] := by unfold parentL; rw [if_neg (fun h => by rw [hv] at h; exact Bool.false_ne_true h.1)]
    have e2 : parentOk s.data.toList = false := by unfold parentOk; rw [hv]; rfl
    have E1 := hide e1
    have E2 := hide e2
    clear hv e1 e2
    go_wp2_with fail
    go_ret2
    exact ⟨by rw [unhide E1, unhide E2]; rfl, unhide HB1⟩

/-- a text ends with a / -/
theorem slash_end {s : ByteArray} (h : 0 < s.size) : Lib.hasSuffix s.data.toList [47] = true ↔ (s.get! (s.size - 1)).toNat = 47 := by
  have hl : s.data.toList.length = s.size := by simp
  have hsp : s.data.toList = s.data.toList.take (s.size - 1) ++ [s.get! (s.size - 1)] := by
    conv => lhs; rw [← List.take_append_drop (s.size - 1) s.data.toList]
    congr 1
    rw [drop_get s (s.size - 1) (by omega), List.drop_of_length_le (by omega)]
  unfold Lib.hasSuffix
  rw [List.isSuffixOf_iff_suffix]
  constructor
  · rintro ⟨t, ht⟩
    rw [hsp] at ht
    have := (List.append_inj' ht rfl).2
    injection this with h1 _
    rw [← h1]
    rfl
  · intro h1
    have e : s.get! (s.size - 1) = 47 := UInt8.toNat.inj h1
    rw [e] at hsp
    exact ⟨_, hsp.symm⟩

/-- Read's answer -/
def readL (l : List UInt8) : List UInt8 := if validL (Lib.trimSuffix l [47]) = true then Lib.trimSuffix l [47] else []
def readF (l : List UInt8) : Bool := Lib.hasSuffix l [47] && validL (Lib.trimSuffix l [47])
def readE (l : List UInt8) : Int := if validL (Lib.trimSuffix l [47]) = true then 0 else 20

/-- a path does not end with a / -/
theorem valid_end {l : List UInt8} (h : validL l = true) : Lib.hasSuffix l [47] = false := by
  cases hq : Lib.hasSuffix l [47] with
  | false => rfl
  | true =>
    exfalso
    unfold Lib.hasSuffix at hq
    obtain ⟨t, ht⟩ := List.isSuffixOf_iff_suffix.1 hq
    have hp : pcs l = pcs t ++ [[]] := by
      rw [← ht]
      exact pcs_app t []
    have := validL_names h [] (by rw [hp]; simp)
    simp [nameL] at this

theorem trim_none {l : List UInt8} (h : Lib.hasSuffix l [47] = false) : Lib.trimSuffix l [47] = l := by
  unfold Lib.trimSuffix
  rw [if_neg (by rw [h]; exact Bool.false_ne_true)]

theorem trim_some {l : List UInt8} (h : Lib.hasSuffix l [47] = true) : Lib.trimSuffix l [47] = l.take (l.length - 1) := by
  unfold Lib.trimSuffix
  rw [if_pos h]
  rfl

set_option maxHeartbeats 2000000 in
theorem read_ok (s : ByteArray) (w : World) (hs : s.size ≤ 9223372036854775807) :
    Calls Try.prog 17 #[.string s] w fun e w' => e = .returned (.tuple #[.string ⟨(readL s.data.toList).toArray⟩, .bool (readF s.data.toList), .int .i64 (readE s.data.toList)]) ∧ Below w.heap.size w w' := by
  have HV := hide (valid_ok s w hs)
  have hl : s.data.toList.length = s.size := by simp
  cases hv : validL s.data.toList with
  | true =>
    have hq := valid_end hv
    have ht := trim_none hq
    have e1 : readL s.data.toList = s.data.toList := by unfold readL; rw [ht, hv, if_pos rfl]
    have e2 : readF s.data.toList = false := by unfold readF; rw [hq]; rfl
    have e3 : readE s.data.toList = 0 := by unfold readE; rw [ht, hv, if_pos rfl]
    rw [hv] at HV
    have E := hide (And.intro e1 (And.intro e2 e3))
    clear hv hq ht e1 e2 e3 hl
    go_enter Try.func17, Try.ntmps17
    go_wp2_with fail
    refine (unhide HV).mono ?_
    rintro e w1 ⟨rfl, hb1⟩
    have HB1 := hide hb1
    clear hb1
    go_wp2_with fail
    go_ret3
    exact ⟨by rw [(unhide E).1, (unhide E).2.1, (unhide E).2.2]; rfl, unhide HB1⟩
  | false =>
    rw [hv] at HV
    by_cases h0 : 0 < s.size
    · have hge := slash_end h0
      obtain ⟨K, hK⟩ : ∃ K, K = s.size - 1 := ⟨_, rfl⟩
      have hKl : K < s.size := by omega
      have hgt : s.get! K = s[K]'hKl := getElem!_pos s.data K hKl
      rw [← hK, hgt] at hge
      have eK : (s.size : Int) - 1 = (K : Int) := by omega
      have hKi : (K : Int) < (s.size : Int) := by omega
      have hKi2 : (K : Int) ≤ (s.size : Int) := by omega
      have hK0 : (0 : Int) ≤ (K : Int) := by omega
      have n0 : (0 : Int) < (s.size : Int) := by omega
      by_cases h47 : (s[K]'hKl).toNat = 47
      · have hq := hge.2 h47
        have ht := trim_some hq
        have hex : (s.extract 0 K).data.toList = Lib.trimSuffix s.data.toList [47] := by
          rw [cut_data s 0 K (by omega), ht, hl, ← hK]
          simp
        have HV2 := hide (fun w => valid_ok (s.extract 0 K) w (by simp; omega))
        rw [hex] at HV2
        have j1 : (((s[K]'hKl).toNat : Nat) : Int) = 47 := by omega
        have j2 : ((((s[K]'hKl).toNat : Nat) : Int) == 47) = true := by rw [j1]; rfl
        have hxx : s.extract 0 K = ⟨(Lib.trimSuffix s.data.toList [47]).toArray⟩ := by
          apply ByteArray.ext
          apply Array.toList_inj.1
          rw [hex]
        have HX := hide hxx
        have HQ := hide hq
        have HT : Hid (∀ b, b = validL (Lib.trimSuffix s.data.toList [47]) → b = validL (Lib.trimSuffix s.data.toList [47])) := hide (fun b h => h)
        obtain ⟨b, hb⟩ : ∃ b, b = validL (Lib.trimSuffix s.data.toList [47]) := ⟨_, rfl⟩
        rw [← hb] at HV2
        have HBV := hide hb
        clear hv hq ht hex hxx hge hgt h47 hl hK hb
        go_enter Try.func17, Try.ntmps17
        go_wp2_with fail
        refine (unhide HV).mono ?_
        rintro e w1 ⟨rfl, hb1⟩
        have HB1 := hide hb1
        clear hb1
        go_wp2_with fail
        refine (unhide HV2 w1).mono ?_
        rintro e w2 ⟨rfl, hb2⟩
        have HB2 := hide ((unhide HB1).trans (hb2.mono (unhide HB1).size))
        clear hb2
        cases b with
        | true =>
          have e1 : readL s.data.toList = Lib.trimSuffix s.data.toList [47] := by unfold readL; rw [if_pos (unhide HBV).symm]
          have e2 : readF s.data.toList = true := by unfold readF; rw [unhide HQ, ← unhide HBV]; rfl
          have e3 : readE s.data.toList = 0 := by unfold readE; rw [if_pos (unhide HBV).symm]
          have E := hide (And.intro e1 (And.intro e2 e3))
          clear e1 e2 e3
          go_wp2_with fail
          go_ret3
          exact ⟨by rw [(unhide E).1, (unhide E).2.1, (unhide E).2.2, ← unhide HX]; rfl, unhide HB2⟩
        | false =>
          have hn : ¬ validL (Lib.trimSuffix s.data.toList [47]) = true := by rw [← unhide HBV]; exact Bool.false_ne_true
          have e1 : readL s.data.toList = [] := by unfold readL; rw [if_neg hn]
          have e2 : readF s.data.toList = false := by unfold readF; rw [← unhide HBV, Bool.and_false]
          have e3 : readE s.data.toList = 20 := by unfold readE; rw [if_neg hn]
          have E := hide (And.intro e1 (And.intro e2 e3))
          clear e1 e2 e3 hn
          go_wp2_with fail
          go_ret3
          exact ⟨by rw [(unhide E).1, (unhide E).2.1, (unhide E).2.2]; rfl, unhide HB2⟩
      · have hq : Lib.hasSuffix s.data.toList [47] = false := by
          cases hq : Lib.hasSuffix s.data.toList [47] with
          | false => rfl
          | true => exact absurd (hge.1 hq) h47
        have ht := trim_none hq
        have hn : ¬ validL (Lib.trimSuffix s.data.toList [47]) = true := by rw [ht, hv]; exact Bool.false_ne_true
        have e1 : readL s.data.toList = [] := by unfold readL; rw [if_neg hn]
        have e2 : readF s.data.toList = false := by unfold readF; rw [hq]; rfl
        have e3 : readE s.data.toList = 20 := by unfold readE; rw [if_neg hn]
        have j1 : ¬ (((s[K]'hKl).toNat : Nat) : Int) = 47 := by omega
        have j2 : ((((s[K]'hKl).toNat : Nat) : Int) == 47) = false := by simpa using j1
        have E := hide (And.intro e1 (And.intro e2 e3))
        clear hv hq ht hn e1 e2 e3 hge hgt h47 hl hK
        go_enter Try.func17, Try.ntmps17
        go_wp2_with fail
        refine (unhide HV).mono ?_
        rintro e w1 ⟨rfl, hb1⟩
        have HB1 := hide hb1
        clear hb1
        go_wp2_with fail
        go_ret3
        exact ⟨by rw [(unhide E).1, (unhide E).2.1, (unhide E).2.2]; rfl, unhide HB1⟩
    · have z0 : s.size = 0 := by omega
      have hnil : s.data.toList = [] := List.eq_nil_of_length_eq_zero (by omega)
      have e1 : readL s.data.toList = [] := by rw [hnil]; decide
      have e2 : readF s.data.toList = false := by rw [hnil]; decide
      have e3 : readE s.data.toList = 20 := by rw [hnil]; decide
      have n0 : ¬ (0 : Int) < (s.size : Int) := by omega
      have E := hide (And.intro e1 (And.intro e2 e3))
      clear hv hnil e1 e2 e3 hl
      go_enter Try.func17, Try.ntmps17
      go_wp2_with fail
      refine (unhide HV).mono ?_
      rintro e w1 ⟨rfl, hb1⟩
      have HB1 := hide hb1
      clear hb1
      go_wp2_with fail
      go_ret3
      exact ⟨by rw [(unhide E).1, (unhide E).2.1, (unhide E).2.2]; rfl, unhide HB1⟩

end Doc
end Go.Proofs.Ythhdlmegbbmbhaa
