/- The document's name, Valid and Names. -/
import Derived.Test.YthhdlmegbbmbhaaRe
namespace Go.Proofs.Ythhdlmegbbmbhaa
open Go.RowKit Go.Shelf
set_option linter.unusedVariables false

namespace Doc

theorem Cln_byte {s : ByteArray} {pos : Nat} (h : Cln s pos) (h1 : (s.get! pos).toNat ≠ 47) (h2 : (s.get! pos).toNat ≠ 0) : Cln s (pos + 1) := by
  intro j hj
  by_cases hlt : j < pos
  · exact h j hlt
  · have e : j = pos := by omega
    subst e
    exact ⟨h1, h2⟩

set_option maxHeartbeats 2000000 in
theorem name_ok (s : ByteArray) (w : World) (hs : s.size ≤ 9223372036854775807) :
    Calls Try.prog 31 #[.string s] w fun e w' => e = .returned (.bool (nameL s.data.toList)) ∧ w' = w := by
  go_enter Try.func31, Try.ntmps31
  go_wp2_with fail
  go_loopw [3] (fun i wr => ∃ pos : Nat, i = .int .i64 (pos : Int) ∧ pos ≤ s.size ∧ Cln s pos ∧ wr = w) (fun i _ => ((s.size : Int) - intOf i).toNat)
  case atStart => exact ⟨0, rfl, Nat.zero_le _, fun j hj => absurd hj (Nat.not_lt_zero _), rfl⟩
  case round =>
    obtain ⟨pos, rfl, hps, hc, rfl⟩ := hrel
    by_cases hp : pos < s.size
    · have i2 : (pos : Int) < (s.size : Int) := by omega
      have hgt : s.get! pos = s[pos]'hp := getElem!_pos s.data pos hp
      by_cases h47 : (s.get! pos).toNat = 47
      · have hno := name_no s (.inr (.inr (.inr (.inr ⟨pos, hp, .inl h47⟩))))
        rw [hgt] at h47
        have j1 : (((s[pos]'hp).toNat : Nat) : Int) = 47 := by omega
        have j2 : ((((s[pos]'hp).toNat : Nat) : Int) == 47) = true := by rw [j1]; rfl
        have HNO := hide hno
        clear hgt h47 hc hno
        go_wp2_with fail
        go_ret
        exact ⟨by rw [unhide HNO]; rfl, rfl⟩
      by_cases h00 : (s.get! pos).toNat = 0
      · have hno := name_no s (.inr (.inr (.inr (.inr ⟨pos, hp, .inr h00⟩))))
        rw [hgt] at h47 h00
        have j1 : ¬ (((s[pos]'hp).toNat : Nat) : Int) = 47 := by omega
        have j2 : ((((s[pos]'hp).toNat : Nat) : Int) == 47) = false := by simpa using j1
        have j3 : (((s[pos]'hp).toNat : Nat) : Int) = 0 := by omega
        have j4 : ((((s[pos]'hp).toNat : Nat) : Int) == 0) = true := by rw [j3]; rfl
        have HNO := hide hno
        clear hgt h47 h00 hc hno
        go_wp2_with fail
        go_ret
        exact ⟨by rw [unhide HNO]; rfl, rfl⟩
      have HC := hide (Cln_byte hc h47 h00)
      rw [hgt] at h47 h00
      have j1 : ¬ (((s[pos]'hp).toNat : Nat) : Int) = 47 := by omega
      have j2 : ((((s[pos]'hp).toNat : Nat) : Int) == 47) = false := by simpa using j1
      have j3 : ¬ (((s[pos]'hp).toNat : Nat) : Int) = 0 := by omega
      have j4 : ((((s[pos]'hp).toNat : Nat) : Int) == 0) = false := by simpa using j3
      clear hgt h47 h00 hc
      go_wp2_with fail
      exact ⟨⟨pos + 1, by simp, by omega, unhide HC, trivial⟩, by simp [intOf]; omega⟩
    · obtain rfl : pos = s.size := by omega
      have i2 : ¬ (s.size : Int) < (s.size : Int) := by omega
      have HC := hide hc
      have HNO := hide (name_no s)
      have HYE := hide (name_yes s)
      rw [← toList_data] at HNO HYE
      clear hc
      by_cases q1 : s.toList = []
      · have z1 : s.size = 0 := by rw [toList_data] at q1; have := congrArg List.length q1; simpa using this
        have q1i : ¬ (1 : Int) ≤ (s.size : Int) := by omega
        clear q1
        have q1 : s.toList = [] := by rw [toList_data]; exact List.eq_nil_of_length_eq_zero (by simpa using z1)
        go_wp2_with fail
        go_ret
        exact ⟨by rw [← toList_data, unhide HNO (.inl q1)]; simp, rfl⟩
      have z1 : (1 : Int) ≤ (s.size : Int) := by
        rw [toList_data] at q1
        have : s.data.toList.length ≠ 0 := fun h => q1 (List.eq_nil_of_length_eq_zero h)
        have e : s.data.toList.length = s.size := by simp
        omega
      by_cases q2 : 255 < s.size
      · have q2i : ¬ (s.size : Int) ≤ 255 := by omega
        go_wp2_with fail
        go_ret
        exact ⟨by rw [← toList_data, unhide HNO (.inr (.inl q2))]; simp, rfl⟩
      have q2i : (s.size : Int) ≤ 255 := by omega
      by_cases q3 : s.toList = [46]
      · have q3b : (s.toList == [46]) = true := by rw [q3]; rfl
        go_wp2_with fail
        go_ret
        exact ⟨by rw [← toList_data, unhide HNO (.inr (.inr (.inl q3)))]; rfl, rfl⟩
      have q3b : (s.toList == [46]) = false := by simpa using q3
      by_cases q4 : s.toList = [46, 46]
      · have q4b : (s.toList == [46, 46]) = true := by rw [q4]; rfl
        go_wp2_with fail
        go_ret
        exact ⟨by rw [← toList_data, unhide HNO (.inr (.inr (.inr (.inl q4))))]; rfl, rfl⟩
      have q4b : (s.toList == [46, 46]) = false := by simpa using q4
      go_wp2_with fail
      go_ret
      exact ⟨by rw [← toList_data, unhide HYE q1 (by omega) q3 q4 (unhide HC)]; rfl, rfl⟩

set_option maxHeartbeats 2000000 in
theorem valid_ok (s : ByteArray) (w : World) (hs : s.size ≤ 9223372036854775807) :
    Calls Try.prog 12 #[.string s] w fun e w' => e = .returned (.bool (validL s.data.toList)) ∧ Below w.heap.size w w' := by
  have hsz : s.data.toList.length = s.size := by simp
  by_cases hbig : 1024 < s.size
  · have h1 : (1024 : Int) < (s.size : Int) := by omega
    have hv : validL s.data.toList = false := by
      have : ¬ s.data.toList.length ≤ 1024 := by omega
      simp only [validL, decide_eq_false this, Bool.false_and]
    have HV := hide hv
    clear hv
    go_enter Try.func12, Try.ntmps12
    go_wp2_with fail
    go_ret
    exact ⟨by rw [unhide HV]; rfl, Below.refl _ _⟩
  have h1 : ¬ (1024 : Int) < (s.size : Int) := by omega
  have hsm : s.data.toList.length ≤ 1024 := by omega
  have hN : (pcs s.data.toList).length ≤ 1025 := by have := pcs_len s.data.toList; omega
  clear hsz
  have HSM := hide hsm
  have HPC := hide (pieces_ok s w (by omega))
  go_enter Try.func12, Try.ntmps12
  go_wp2_with fail
  refine (unhide HPC).mono ?_
  rintro e w1 ⟨g, cap, rfl, hg, hpa, hcap, hb1⟩
  obtain ⟨N, hNe⟩ : ∃ N, N = (pcs s.data.toList).length := ⟨_, rfl⟩
  rw [← hNe] at hN hcap ⊢
  have HPA := hide hpa
  have HB1 := hide hb1
  have HNE := hide hNe
  have HG := hide hg
  clear hpa hb1 HPC hNe hg hsm
  go_wp2_with fail
  go_loopw [4] (fun i wr => ∃ k : Nat, i = .int .i64 (k : Int) ∧ k ≤ N ∧ wr = w1 ∧ ∀ j (h : j < (pcs s.data.toList).length), j < k → nameL (pcs s.data.toList)[j] = true) (fun i _ => ((N : Int) - intOf i).toNat)
  case atStart => exact ⟨0, rfl, Nat.zero_le _, rfl, fun j _ h => absurd h (Nat.not_lt_zero _)⟩
  case round =>
    obtain ⟨k, rfl, hk, rfl, hnm⟩ := hrel
    by_cases hlt : k < N
    · have hlt' : k < (pcs s.data.toList).length := by rw [← unhide HNE]; exact hlt
      have hki : (k : Int) < (N : Int) := by omega
      have c0 := (unhide HPA).at_ k hlt'
      have HN := hide (name_ok (pcAt s.data.toList k) wr (Nat.le_trans (pcAt_size s k) hs))
      rw [pcAt_list hlt'] at HN
      have HNM := hide hnm
      clear hnm
      go_wp2_with fail
      refine (unhide HN).mono ?_
      rintro e w2 ⟨rfl, rfl⟩
      cases hn : nameL (pcs s.data.toList)[k] with
      | true =>
        go_wp2_with fail
        refine ⟨⟨k + 1, by simp, by omega, by first | rfl | trivial, fun j hj hjk => ?_⟩, by simp [intOf]; omega⟩
        rcases Nat.lt_or_ge j k with h | h
        · exact unhide HNM j hj h
        · have e : j = k := by omega
          subst e
          exact hn
      | false =>
        have HV := hide (validL_bad ⟨k, hlt', hn⟩)
        clear hn
        go_wp2_with fail
        go_ret
        exact ⟨by rw [unhide HV]; rfl, unhide HB1⟩
    · obtain rfl : k = N := by omega
      have hki : ¬ (k : Int) < (k : Int) := by omega
      have HV := hide (validL_end (unhide HSM) (fun j hj hjk => hnm j hj (by rw [unhide HNE]; exact hjk)))
      rw [← unhide HNE] at HV
      clear hnm
      go_wp2_with fail
      go_ret
      exact ⟨by rw [unhide HV]; rfl, unhide HB1⟩

/-- the document's names, as a slice -/
def NamesR (s : ByteArray) (B : Nat) (v : Value) (w' : World) : Prop :=
  (validL s.data.toList = true ∧ ∃ g cap, v = .slice (some ⟨g, 0, none⟩) (pcs s.data.toList).length cap ∧ B ≤ g ∧ PcsAt w' g s.data.toList ∧ (pcs s.data.toList).length ≤ cap) ∨ (validL s.data.toList = false ∧ v = .slice none 0 0)

set_option maxHeartbeats 1000000 in
theorem names_ok (s : ByteArray) (w : World) (hs : s.size ≤ 9223372036854775807) :
    Calls Try.prog 9 #[.string s] w fun e w' => ∃ v, e = .returned v ∧ NamesR s w.heap.size v w' ∧ Below w.heap.size w w' := by
  have H1 := hide (valid_ok s w hs)
  cases hv : validL s.data.toList with
  | false =>
    rw [hv] at H1
    have HV := hide hv
    clear hv
    go_enter Try.func9, Try.ntmps9
    go_wp2_with fail
    refine (unhide H1).mono ?_
    rintro e w1 ⟨rfl, hb1⟩
    have HB := hide hb1
    clear hb1
    go_wp2_with fail
    go_ret
    exact ⟨_, rfl, .inr ⟨unhide HV, rfl⟩, unhide HB⟩
  | true =>
    rw [hv] at H1
    have HV := hide hv
    have HS := hide (validL_small hv)
    clear hv
    go_enter Try.func9, Try.ntmps9
    go_wp2_with fail
    refine (unhide H1).mono ?_
    rintro e w1 ⟨rfl, hb1⟩
    have HB1 := hide hb1
    clear hb1
    go_wp2_with fail
    refine (pieces_ok s w1 (by have := unhide HS; omega)).mono ?_
    rintro e w2 ⟨g, cap, rfl, hg, hpa, hcap, hb2⟩
    have HB2 := hide ((unhide HB1).trans (hb2.mono (unhide HB1).size))
    have HPA := hide hpa
    have HG := hide hg
    have HC := hide hcap
    clear hb2 hpa hg hcap
    go_wp2_with fail
    go_ret
    exact ⟨_, rfl, .inl ⟨unhide HV, g, cap, rfl, Nat.le_trans (unhide HB1).size (unhide HG), unhide HPA, unhide HC⟩, unhide HB2⟩

end Doc
end Go.Proofs.Ythhdlmegbbmbhaa
