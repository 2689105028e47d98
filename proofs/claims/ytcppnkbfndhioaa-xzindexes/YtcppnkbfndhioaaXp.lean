/- The law XzIndexes, walked. -/
import Derived.Test.YtcppnkbfndhioaaXo
namespace Go.Proofs.Ytcppnkbfndhioaa
open Go.RowKit
set_option maxRecDepth 100000
set_option linter.unusedVariables false
attribute [local go_sem ↓] Go.wp_at_zero Go.wp_at_succ

set_option maxHeartbeats 4000000 in
theorem indexes_walk (la : Option Addr) (lcap : Nat) (l : List (Int × Int)) (ba : Option Addr) (bcap : Nat) (zs : List Nat) (w : World)
    (hl : ReadsN w la lcap l) (hb : (ba = none ∧ bcap = 0 ∧ zs = []) ∨ ∃ ad, ba = some ad ∧ ∀ (j : Nat) u, (zs.map bv)[j]? = some u → w.cell? (ad.add j) = some u) (hs : ∀ z ∈ zs, z < 256) (hcap : zs.length ≤ bcap) (hln : l.length ≤ 8796093021952) (hzn : zs.length ≤ 140737488351232) :
    Calls Try.prog 3 #[.slice la l.length lcap, .slice ba zs.length bcap] w fun e w' => e = .returned (.bool true) ∧ Below w.heap.size w w' := by
  have HL := hide hl
  have HB := hide hb
  have HS := hide hs
  have HRB := hide (reads_of hb)
  have HLN := hide hln
  have HZN := hide hzn
  have HCAP := hide hcap
  clear hl hb hs hcap
  go_enter Try.func3, Try.ntmps3
  go_wp2_with (at_builtin; go_must (refine wp_appR rfl (.tmp 17) (.tmp 18) rfl la lcap l rfl rfl (unhide HL) (by have := unhide HLN; omega) ?_; intro v1 w1 h1; have H1 := hide h1; clear h1))
  refine (index_ok l v1 w1 (ReadsR.own (unhide H1).own) (by have := unhide HLN; omega)).mono ?_
  rintro e w2 ⟨x, xe, rfl, h2⟩
  have H2 := hide h2
  have B2 : Hid (Below w.heap.size w w2) := hide ((unhide H1).bel.trans (h2.bel.mono (unhide H1).bel.size))
  clear h2
  go_wp2_with fail
  refine (refs_ok l _ w2 (ReadsN.stays (unhide B2) (unhide HL)).r (by have := unhide HLN; omega)).mono ?_
  rintro e w3 ⟨v3, rfl, h3⟩
  have H3 := hide h3
  clear h3
  go_wp2_with fail
  refine (refIndex_ok l v3 w3 (ReadsR.own (unhide H3).own) (by have := unhide HLN; omega)).mono ?_
  rintro e w4 ⟨y, ye, rfl, h4⟩
  obtain ⟨rfl, xs, hx, hy, hxs, hxl⟩ := idx_join (unhide H2) h4
  have HX := hide (hx.stays ((unhide H3).bel.trans (h4.bel.mono (unhide H3).bel.size)))
  have HY := hide hy
  have HXS := hide hxs
  have HXL := hide hxl
  have B4 : Hid (Below w.heap.size w w4) := hide ((unhide B2).trans (((unhide H3).bel.trans (h4.bel.mono (unhide H3).bel.size)).mono (unhide B2).size))
  have HSZ : Hid (w.heap.size ≤ w1.heap.size ∧ w2.heap.size ≤ w4.heap.size) := hide ⟨(unhide H1).bel.size, Nat.le_trans (unhide H3).bel.size h4.bel.size⟩
  clear h4 hx hy hxs hxl H1 H2 H3
  obtain ⟨ax, cx, rfl, _⟩ := id (unhide HX)
  obtain ⟨ay, cy, rfl, _⟩ := id (unhide HY)
  have HBZ : Hid ((ba = none ∧ bcap = 0 ∧ zs = []) ∨ ∃ ad, ba = some ad ∧ ∀ (j : Nat) u, (zs.map bv)[j]? = some u → w4.cell? (ad.add j) = some u) := hide (by
    rcases unhide HB with h | ⟨ad, e, h⟩
    · exact .inl h
    · exact .inr ⟨ad, e, fun j u hj => cell_stays (unhide B4) (h j u hj)⟩)
  go_wp2_with (at_builtin; go_must (refine wp_appN rfl (.tmp 30) (.tmp 31) rfl ba bcap zs rfl rfl (unhide HBZ) (by have := unhide HZN; omega) ?_; intro gb cb w5 h5 h6 h7; have H5 := hide h5; have HC5 := hide h6; have HG5 := hide h7; clear h5 h6 h7))
  refine (readIndex_ok gb cb zs w5 (unhide H5).cells0 (unhide HG5) (unhide HC5) (by have := unhide HZN; omega) (unhide HS)).mono ?_
  rintro e w6 ⟨m, rfl, h61, h62, h63⟩
  have B6 : Hid (Below w4.heap.size w4 w6) := hide ((unhide H5).bel.trans (h63.mono (unhide H5).bel.size))
  have HM : Hid (OwnR w5.heap.size w6 m (if (riF zs).2.2 = 0 then (riF zs).1 else [])) := hide (by
    by_cases h : (riF zs).2.2 = 0
    · rw [if_pos h]; exact h61 h
    · rw [if_neg h, h62 h]; exact World.ownsRow_nil _ _ _ _)
  clear h61 h62
  have HRB6 := hide ((unhide HRB).stays ((unhide B4).trans ((unhide B6).mono (unhide B4).size)))
  have H63 := hide h63
  clear h63
  go_wp2_with fail
  have hba : ∀ a n c, Value.slice ba zs.length bcap = .slice a n c → zs.length ≤ c := by
    intro a n c e
    injection e with _ _ e3
    rw [← e3]
    exact unhide HCAP
  refine (refReadIndex_ok zs _ w6 (unhide HRB6) hba (by have := unhide HZN; omega) (unhide HS)).mono ?_
  rintro e w7 ⟨m2, rfl, k1, k2, k3⟩
  have HM2 : Hid (w7.ownsRow w6.heap.size 38 2 m2 (if (riF zs).2.2 = 0 then (riF zs).1 else []).length (rcells (if (riF zs).2.2 = 0 then (riF zs).1 else []))) := hide (by
    by_cases h : (riF zs).2.2 = 0
    · rw [if_pos h]; exact (k1 h).own
    · rw [if_neg h, k2 h]; exact World.ownsRow_nil _ _ _ _)
  have HM7 : Hid (w7.ownsRow w5.heap.size 37 2 m (if (riF zs).2.2 = 0 then (riF zs).1 else []).length (rcells (if (riF zs).2.2 = 0 then (riF zs).1 else []))) := hide (own_keep (unhide HM) (fun g e => k3.block g (World.ownsRow.lt (unhide HM) g e).2))
  have B7 : Hid (Below w4.heap.size w4 w7) := hide ((unhide B6).trans (k3.mono (unhide B6).size))
  have HSZ2 : Hid (w4.heap.size ≤ w5.heap.size ∧ w4.heap.size ≤ w6.heap.size) := hide ⟨(unhide H5).bel.size, (unhide B6).size⟩
  clear k1 k2 k3 HM hba HRB6 HBZ H63 HC5 HG5 H5
  generalize (if (riF zs).2.2 = 0 then (riF zs).1 else []) = rs at *
  generalize (riF zs).2.1 = us at *
  generalize (riF zs).2.2 = er at *
  obtain ⟨am, cm, rfl⟩ := ownR_shape (unhide HM7)
  obtain ⟨am2, cm2, rfl⟩ := ownR_shape (unhide HM2)
  have HX7 := hide ((unhide HX).stays (unhide B7))
  have HY7 := hide ((unhide HY).stays (unhide B7))
  have HSP := hide (spoilt_ok _ _ _ _ _ _ xs w7 (unhide HX7) (unhide HY7) (unhide HXS) (unhide HXL))
  clear HX HY HX7 HY7
  generalize xs.length = LX at *
  go_wp2_with (go_at_call 9; go_must (refine (unhide HSP).mono ?_; rintro e w8 ⟨rfl, h8⟩; have H8 := hide h8; clear h8))
  have HR1 : Hid (ReadsR w8 (.slice am rs.length cm) rs) := hide (ReadsR.own (own_chg (unhide HM7) (unhide H8) (by have := unhide HSZ; have := unhide HSZ2; omega)))
  have HR2 : Hid (ReadsR w8 (.slice am2 rs.length cm2) rs) := hide (ReadsR.own (own_chg (unhide HM2) (unhide H8) (by have := unhide HSZ; have := unhide HSZ2; omega)))
  have BW : Hid (Below w.heap.size w w8) := hide ((unhide H8).below ((unhide B4).trans ((unhide B7).mono (unhide B4).size)) (unhide HSZ).1 (Nat.le_trans (unhide B4).size (unhide B7).size))
  clear H8 HSP HM2 B7 B6 B4 B2 HSZ HSZ2 HL HB HS HRB HLN HZN HCAP HXS HXL
  have hMb : rs.length ≤ 9223372036854775807 := by
    rcases (unhide HM7).2 with ⟨_, e⟩ | ⟨g, c, cur, _, _, _, h1, h2, _⟩
    · omega
    · unfold maxLen at h2; omega
  clear HM7
  obtain ⟨M, hM⟩ : ∃ M, M = rs.length := ⟨_, rfl⟩
  rw [← hM] at HR1 HR2 hMb ⊢
  have HMM := hide hM
  clear hM
  go_loopg [15] M (fun gk c ws => ∃ (i q : Nat), gk = M - i ∧ i ≤ M ∧ c = .int .i64 (i : Int) ∧ ws = w8.drewN q)
  case atStart => exact ⟨0, 0, by omega, by omega, rfl, rfl⟩
  case round =>
    obtain ⟨i, q, rfl, hi, rfl, rfl⟩ := hrel
    by_cases hlt : i < M
    · have hki : (i : Int) < (M : Int) := by omega
      obtain ⟨a1, c1, e1, hc1, hs1⟩ := unhide HR1
      obtain ⟨a2, c2, e2, hc2, hs2⟩ := unhide HR2
      injection e1 with e11 e12 e13
      injection e2 with e21 e22 e23
      subst e11 e13 e21 e23
      obtain ⟨b1, o1, rfl, _, hcell1⟩ := hs1 (by rw [← unhide HMM]; omega)
      obtain ⟨b2, o2, rfl, _, hcell2⟩ := hs2 (by rw [← unhide HMM]; omega)
      obtain ⟨k1, k2⟩ := hcell1 i (by rw [← unhide HMM]; omega)
      obtain ⟨k3, k4⟩ := hcell2 i (by rw [← unhide HMM]; omega)
      generalize rs.getD i (0, 0) = r at k1 k2 k3 k4
      obtain ⟨s, t⟩ := r
      simp only at k1 k2 k3 k4
      have HLT := hide hlt
      have hss : (s != s) = false := by simp
      have htt : (t != t) = false := by simp
      clear hcell1 hcell2 hs1 hs2 e12 e22 hlt hi hc1 hc2
      go_wp2_with fail
      go_quiet (fail)
      go_wp2_with fail
      go_roundg (M - (i + 1))
      case measure => have := unhide HLT; omega
      case rel => exact ⟨i + 1, q + nq, rfl, unhide HLT, by go_num, by first | rfl | exact World.drewN_drewN _ _ _⟩
    · obtain rfl : i = M := by omega
      go_wp2_with (go_at_call 10; go_must (refine (names_ok _).mono ?_; rintro e w9 ⟨rfl, h9⟩; rw [h9]))
      go_ret
      exact ⟨rfl, below_drew (unhide BW) _⟩
end Go.Proofs.Ytcppnkbfndhioaa
