/- TokenBack. -/
import Derived.Test.YtabnfnejlffioaaTbm
import Derived.Test.YtabnfnejlffioaaJoins
namespace Go.Proofs.Ytabnfnejlffioaa
open Go.RowKit
set_option linter.unusedVariables false

attribute [local go_sem ↓] Go.wp_at_zero Go.wp_at_succ

theorem mask_65535 (n : Int) : ∃ c : Nat, c ≤ 65535 ∧ bits .and .i64 n 65535 = (c : Int) := by
  have h0 : bits .and .i64 n 65535 = n % 65536 := by
    have hm : (BitVec.ofInt 64 65535).toNat = 2 ^ 16 - 1 := by decide
    have key : (BitVec.ofInt 64 n &&& BitVec.ofInt 64 65535).toNat = (n % ((2 ^ 64 : Nat) : Int)).toNat % 2 ^ 16 := by
      rw [BitVec.toNat_and, BitVec.toNat_ofInt, hm, Nat.and_two_pow_sub_one_eq_mod]
    show IntKind.i64.wrap ((BitVec.ofInt 64 n &&& BitVec.ofInt 64 65535).toNat : Nat) = n % 65536
    rw [key, IntKind.wrap_i64]
    omega
  exact ⟨(n % 65536).toNat, by omega, by rw [h0]; omega⟩

theorem mask_7 (n : Int) : ∃ c : Nat, c ≤ 7 ∧ bits .and .i64 n 7 = (c : Int) := by
  have h0 : bits .and .i64 n 7 = n % 8 := by
    have hm : (BitVec.ofInt 64 7).toNat = 2 ^ 3 - 1 := by decide
    have key : (BitVec.ofInt 64 n &&& BitVec.ofInt 64 7).toNat = (n % ((2 ^ 64 : Nat) : Int)).toNat % 2 ^ 3 := by
      rw [BitVec.toNat_and, BitVec.toNat_ofInt, hm, Nat.and_two_pow_sub_one_eq_mod]
    show IntKind.i64.wrap ((BitVec.ofInt 64 n &&& BitVec.ofInt 64 7).toNat : Nat) = n % 8
    rw [key, IntKind.wrap_i64]
    omega
  exact ⟨(n % 8).toNat, by omega, by rw [h0]; omega⟩

theorem mask_255 (n : Int) : ∃ c : Nat, c ≤ 255 ∧ bits .and .i64 n 255 = (c : Int) := by
  have h0 : bits .and .i64 n 255 = n % 256 := by
    have hm : (BitVec.ofInt 64 255).toNat = 2 ^ 8 - 1 := by decide
    have key : (BitVec.ofInt 64 n &&& BitVec.ofInt 64 255).toNat = (n % ((2 ^ 64 : Nat) : Int)).toNat % 2 ^ 8 := by
      rw [BitVec.toNat_and, BitVec.toNat_ofInt, hm, Nat.and_two_pow_sub_one_eq_mod]
    show IntKind.i64.wrap ((BitVec.ofInt 64 n &&& BitVec.ofInt 64 255).toNat : Nat) = n % 256
    rw [key, IntKind.wrap_i64]
    omega
  exact ⟨(n % 256).toNat, by omega, by rw [h0]; omega⟩

theorem ReadsB.take {w : World} {a : Option Addr} {cap : Nat} {zs : List Nat} (h : ReadsB w a cap zs) (k : Nat) : ReadsB w a cap (zs.take k) := by
  rcases h with ⟨h1, h2, rfl⟩ | ⟨ad, rfl, hc⟩
  · exact .inl ⟨h1, h2, by simp⟩
  · refine .inr ⟨ad, rfl, fun j u hj => hc j u ?_⟩
    rw [List.map_take, List.getElem?_take] at hj
    split at hj
    · exact hj
    · cases hj

theorem below_drewN {B : Nat} {a w : World} (h : Below B a w) (n : Nat) : Below B a (w.drewN n) := ⟨h.os, h.tape, h.output, h.size, h.block⟩

/-- a place of the text -/
theorem place_of (x : Int) (N : Nat) (hN : 1 ≤ N) (hN2 : N ≤ 2000000) : ∃ (r s : Int) (P : Nat), x.tmod (N : Int) = r ∧ r + (N : Int) = s ∧ IntKind.i64.wrap s = s ∧ s.tmod (N : Int) = (P : Int) ∧ P < N ∧ -2000000 ≤ r ∧ r ≤ 2000000 := by
  have h1 := Int.tmod_lt_of_pos x (show (0 : Int) < (N : Int) by omega)
  have h2 := Int.lt_tmod_of_pos x (show (0 : Int) < (N : Int) by omega)
  have h3 : 0 ≤ x.tmod (N : Int) + (N : Int) := by omega
  have h4 := Int.tmod_nonneg (N : Int) h3
  have h5 := Int.tmod_lt_of_pos (x.tmod (N : Int) + (N : Int)) (show (0 : Int) < (N : Int) by omega)
  obtain ⟨P, hP⟩ := Int.eq_ofNat_of_zero_le h4
  exact ⟨_, _, P, rfl, rfl, IntWalk.i64_in _ (by omega), hP, by omega, by omega, by omega⟩

set_option maxRecDepth 100000 in
set_option maxHeartbeats 4000000 in
theorem back_walk (zs : List Nat) (a : Option Addr) (cap : Nat) (x0 x1 x2 x3 : Int) (w : World) (hb : ReadsB w a cap zs) (hcap : zs.length ≤ cap) (hsm : ∀ z ∈ zs, z < 256) (hl : zs.length ≤ 1048576) (hm : ML w) :
    Calls Try.prog 5 #[.slice a zs.length cap, .agg #[.int .i64 x0, .int .i64 x1, .int .i64 x2, .int .i64 x3]] w fun e w' => e = .returned (.bool true) ∧ Below w.heap.size w w' := by
  obtain ⟨c1, hc1, e1⟩ := mask_65535 x1
  obtain ⟨c2, hc2, e2⟩ := mask_7 x2
  obtain ⟨c3, hc3, e3⟩ := mask_255 x3
  obtain ⟨r, s, P, er, es, ews, ep, hP, hr1, hr2⟩ := place_of x0 (zs.length + 1) (by omega) (by omega)
  obtain ⟨W, hW⟩ : ∃ W : Nat, 1 + (c1 : Int) = (W : Int) := ⟨1 + c1, by omega⟩
  obtain ⟨least, hle⟩ : ∃ least : Nat, 1 + (c2 : Int) = (least : Int) := ⟨1 + c2, by omega⟩
  obtain ⟨M, hM⟩ : ∃ M : Nat, 8 + (c3 : Int) = (M : Int) := ⟨8 + c3, by omega⟩
  have hwW : IntKind.i64.wrap (W : Int) = (W : Int) := IntWalk.i64_in _ (by omega)
  have hwl : IntKind.i64.wrap (least : Int) = (least : Int) := IntWalk.i64_in _ (by omega)
  have hwM : IntKind.i64.wrap (M : Int) = (M : Int) := IntWalk.i64_in _ (by omega)
  obtain ⟨W0, hW0⟩ : ∃ W0, W0 = w.alloc (.cells #[.int .i64 x0, .int .i64 x1, .int .i64 x2, .int .i64 x3] 24) := ⟨_, rfl⟩
  have hbl0 : Below w.heap.size w W0 := by rw [hW0]; exact (Below.refl _ _).alloc (Nat.le_refl _) _
  have hb0 := hb.stays hbl0
  have hWn : W = 1 + c1 := by omega
  have hln : least = 1 + c2 := by omega
  have hMn : M = 8 + c3 := by omega
  have HPC := hide (parse_good zs a cap P W least M W0 (hb0.reads.u hcap) hcap hsm (by omega) (by omega) (by omega) (by omega) (by omega) (by omega) (by omega) (hm.stays hbl0))
  have h1l : 1 ≤ least := by omega
  have HB := hide hb
  have HSM := hide hsm
  have HBL0 := hide hbl0
  obtain ⟨L, hL⟩ : ∃ L, L = zs.length := ⟨_, rfl⟩
  obtain ⟨N1, hN1⟩ : ∃ N1 : Nat, (L : Int) + 1 = (N1 : Int) := ⟨L + 1, by omega⟩
  have hN1' : zs.length + 1 = N1 := by omega
  rw [hN1'] at er es ep hP
  rw [← hL] at hcap hl HPC ⊢
  have hN10 : ¬ (N1 : Int) = 0 := by omega
  have hwN : IntKind.i64.wrap (N1 : Int) = (N1 : Int) := IntWalk.i64_in _ (by omega)
  have HL := hide hL
  have hPL : P ≤ L := by omega
  clear hb hsm hm hbl0 hb0 hL hN1' hWn hln hMn
  go_enter Try.func5, Try.ntmps5
  go_wp2_with fail
  rw [← hW0]
  refine (unhide HPC).mono ?_
  rintro e w1 ⟨tv, ts, rfl, hpar, hown, hbl1⟩
  obtain ⟨ta, tc, rfl, hrt⟩ := own_toks hown rfl
  have hmk := hpar.makes h1l (by rw [← unhide HL]; exact hPL) (by rw [← unhide HL]; omega)
  have hmd := hpar.mades h1l (by rw [← unhide HL]; exact hPL) (by rw [← unhide HL]; omega)
  have hkl := (hpar.len h1l (by rw [← unhide HL]; exact hPL)).1
  rw [← unhide HL] at hkl
  have hbl : Below w.heap.size w w1 := below_next (unhide HBL0) hbl1
  have hbs1 := (unhide HB).stays hbl
  have htl : (zs.take P).length = P := by simp; rw [← unhide HL]; omega
  have hin : InT ts := fun j hj => by have := hmk.2.2.2 j hj; rw [← unhide HL] at this; omega
  have HEX := hide (expand_ok (zs.take P) ts (.slice a P cap) (.slice ta ts.length tc) w1.heap.size w1 (by
    have h := (hbs1.take P).reads
    have h2 := h.u (by rw [htl]; omega)
    rw [htl] at h2
    exact h2) hrt.t (Nat.le_refl _) hin (by rw [htl]; omega) (by omega))
  have hgd : Good (P : Int) ts ts.length := hmk.2.1
  have HGD := hide hgd
  have HTS := hide hmk.2.2.1
  have HMD := hide hmd
  have HIN := hide hin
  have HRT := hide hrt
  have HBL1 := hide hbl
  obtain ⟨K, hK⟩ : ∃ K, K = ts.length := ⟨_, rfl⟩
  rw [← hK] at HEX ⊢
  have HK := hide hK
  have hPc : P ≤ cap := by omega
  clear hpar hown hbl1 hrt hmk hmd hbl hbs1 hin hgd hK HPC hW0 HBL0
  go_upto_region 6 with fail
  go_wp2_with fail
  refine (unhide HEX).mono ?_
  rintro e w2 ⟨vx, ex, rfl, hx, hb2⟩
  obtain ⟨rfl, ho⟩ : ex = 0 ∧ w2.ownsRow w1.heap.size 5 1 vx (zs.drop P).length ((zs.drop P).map bv) := by
    rcases hx with ⟨hf, _⟩ | ⟨_, rfl, ho⟩
    · rw [htl] at hf
      exact absurd (unhide HGD) hf.not
    · rw [unhide HMD] at ho
      exact ⟨rfl, ho⟩
  obtain ⟨ax, cx, rfl, hcx, _, hrx⟩ := own_readsB ho
  have hdl : (zs.drop P).length = L - P := by simp; rw [← unhide HL]
  have hb12 : Below w.heap.size w w2 := below_next (unhide HBL1) hb2
  have HLN := hide (length_ok ts (.slice ta ts.length tc) w2.heap.size w2 ((unhide HRT).stays hb2).t (Nat.le_refl _) (unhide HIN) (by omega))
  have HGW : Hid (Good 9223372036854775807 ts ts.length) := hide ((unhide HGD).wide (by omega))
  rw [← unhide HK] at HLN
  have HRX := hide hrx
  have HB12 := hide hb12
  rw [hdl] at hcx ⊢
  clear hx ho hrx hb2 hb12 HEX
  go_upto_region 7 with fail
  go_wp2_with fail
  refine (unhide HLN).mono ?_
  rintro e w3 ⟨k, ek, rfl, hln, hb3⟩
  obtain ⟨rfl, rfl⟩ : k = ((L - P : Nat) : Int) ∧ ek = 0 := by
    rcases hln with ⟨hf, _⟩ | ⟨_, h2, h3⟩
    · exact absurd (unhide HGW) hf.not
    · rw [unhide HTS, ← unhide HL] at h2
      exact ⟨h2, h3⟩
  have hrx3 := (unhide HRX).stays hb3
  have hb13 : Below w.heap.size w w3 := below_next (unhide HB12) hb3
  have hsd : ∀ z ∈ zs.drop P, z < 256 := fun z hz => unhide HSM z (List.mem_of_mem_drop hz)
  have hr3 := (unhide HB).stays hb13
  obtain ⟨D, hD⟩ : ∃ D, D = L - P := ⟨_, rfl⟩
  have hcv1 : ∀ q, (convert 22 9 (.slice ax D cx)).run Try.prog (w3.drewN q) = .ok (.string (str (zs.drop P))) (w3.drewN q) := fun q => by
    have h := conv_reads (w := w3.drewN q) (v := .slice ax (zs.drop P).length cx) (zs := zs.drop P) (hrx3.stays (w1 := w3.drewN q) ⟨rfl, rfl, rfl, Nat.le_refl _, fun _ _ => rfl⟩).reads hsd
    rw [hdl, ← hD] at h
    exact h
  have HB13 := hide hb13
  rw [← hD] at hcx ⊢
  clear hln hb3 hrx3 hb13 HLN HGW HGD HTS HRT HIN HMD HRX HB12
  by_cases hlt : P < L
  · obtain ⟨b, off, rfl⟩ : ∃ b off, a = some ⟨b, off, none⟩ := by
      have h := hr3.reads.u (by rw [← unhide HL]; exact hcap)
      obtain ⟨a', c', e, _, hs⟩ := h
      injection e with e1 e2 e3
      obtain ⟨b, off, e, _⟩ := hs (by rw [← unhide HL]; omega)
      exact ⟨b, off, by rw [e1]; exact e⟩
    have hcv2 : ∀ q, (convert 22 9 (.slice (some ⟨b, off + P, none⟩) D (cap - P))).run Try.prog (w3.drewN q) = .ok (.string (str (zs.drop P))) (w3.drewN q) := fun q => by
      have h0 := (hr3.stays (w1 := w3.drewN q) ⟨rfl, rfl, rfl, Nat.le_refl _, fun _ _ => rfl⟩).reads.u (by rw [← unhide HL]; exact hcap)
      have h1 := h0.sub rfl P D (cap - P) (by rw [← unhide HL]; omega) (by omega)
      rw [List.take_of_length_le (by rw [hdl]; omega)] at h1
      have h := conv_reads (w := w3.drewN q) (v := .slice (some ⟨b, off + P, none⟩) D (cap - P)) (zs := zs.drop P) h1.reads hsd
      exact h
    obtain ⟨S, hS⟩ : ∃ S, S = str (zs.drop P) := ⟨_, rfl⟩
    rw [← hS] at hcv1 hcv2
    have hcP : ¬ cap - P = 0 := by omega
    have hcP2 : ¬ cap = P := by omega
    have hLD : L - P = D := hD.symm
    have v1 := hcv1 0
    have v2 := hcv2 0
    clear hr3 hdl hsd hS hD
    go_upto_region 8 with fail
    go_quiet (fail)
    go_wp2_with fail
    go_ret
    exact ⟨rfl, below_drewN (unhide HB13) nq⟩
  · obtain rfl : P = L := by omega
    have hD0 : D = 0 := by omega
    subst hD0
    have hz : zs.drop P = [] := List.eq_nil_of_length_eq_zero (by rw [hdl]; omega)
    rw [hz] at hcv1
    have hS0 : str [] = (⟨#[]⟩ : ByteArray) := rfl
    rw [hS0] at hcv1
    have hcv2 : ∀ (x : Option Addr) (c q : Nat), (convert 22 9 (.slice x 0 c)).run Try.prog (w3.drewN q) = .ok (.string ⟨#[]⟩) (w3.drewN q) := fun x c q => conv_zero _ _ _
    have hcv3 : ∀ (x : Option Addr) (c : Nat), (convert 22 9 (.slice x 0 c)).run Try.prog w3 = .ok (.string ⟨#[]⟩) w3 := fun x c => conv_zero _ _ _
    clear hr3 hdl hsd hD hcv1 hz hS0
    by_cases hcp : cap = P
    · subst hcp
      cases a with
      | none =>
        go_upto_region 8 with fail
        go_quiet (fail)
        go_wp2_with fail
        go_ret
        exact ⟨rfl, below_drewN (unhide HB13) nq⟩
      | some ad =>
        go_upto_region 8 with fail
        go_quiet (fail)
        go_wp2_with fail
        go_ret
        exact ⟨rfl, below_drewN (unhide HB13) nq⟩
    · have hcP : ¬ cap - P = 0 := by omega
      cases a with
      | none =>
        go_upto_region 8 with fail
        go_quiet (fail)
        go_wp2_with fail
        go_ret
        exact ⟨rfl, below_drewN (unhide HB13) nq⟩
      | some ad =>
        go_upto_region 8 with fail
        go_quiet (fail)
        go_wp2_with fail
        go_ret
        exact ⟨rfl, below_drewN (unhide HB13) nq⟩

end Go.Proofs.Ytabnfnejlffioaa
