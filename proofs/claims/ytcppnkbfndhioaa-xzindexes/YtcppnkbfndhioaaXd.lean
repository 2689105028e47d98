/- What Index tells. -/
import Derived.Test.YtcppnkbfndhioaaXc
namespace Go.Proofs.Ytcppnkbfndhioaa
open Go.RowKit
set_option maxRecDepth 100000
set_option linter.unusedVariables false
attribute [local go_sem ↓] Go.wp_at_zero Go.wp_at_succ

/-- the bytes of records -/
def recB (l : List (Int × Int)) : List Nat := l.flatMap fun r => N.varB r.1.toNat ++ N.varB r.2.toNat
def bodyB (l : List (Int × Int)) : List Nat := [0] ++ N.varB l.length ++ recB l
def idxB (l : List (Int × Int)) : List Nat := fillB (bodyB l) ++ crcB (fillB (bodyB l))
/-- what Index tells -/
def IdxIs (w w' : World) (v : Value) (x : Int) (l : List (Int × Int)) : Prop :=
  ((65536 < l.length ∨ allMay l = false) ∧ x = 2 ∧ v = .slice none 0 0 ∧ Below w.heap.size w w') ∨ (l.length ≤ 65536 ∧ allMay l = true ∧ x = 0 ∧ StB w w' v (idxB l))

theorem recB_take {l : List (Int × Int)} {i : Nat} (h : i < l.length) : recB (l.take (i + 1)) = recB (l.take i) ++ N.varB (l.getD i (0, 0)).1.toNat ++ N.varB (l.getD i (0, 0)).2.toNat := by
  unfold recB
  rw [List.take_succ_eq_append_getElem h, List.flatMap_append, getD_at h]
  simp

theorem varB_len (V : Nat) (h : V < 9223372036854775808) : 1 ≤ (N.varB V).length ∧ (N.varB V).length ≤ 9 := by
  have hb := N.nb_le V h
  rw [N.varB_length V hb.1]
  exact hb

theorem may_nat {s t : Int} (h : may s t = true) : ∃ S T : Nat, s = (S : Int) ∧ t = (T : Int) ∧ S ≤ 1099511627776 ∧ T ≤ 1099511627776 := by
  unfold may at h
  simp at h
  obtain ⟨h1, h2, h3, h4⟩ := h
  exact ⟨s.toNat, t.toNat, by omega, by omega, by omega, by omega⟩

theorem recB_small (l : List (Int × Int)) : ∀ z ∈ recB l, z < 256 := by
  intro z hz
  unfold recB at hz
  obtain ⟨r, _, h⟩ := List.mem_flatMap.1 hz
  rcases List.mem_append.1 h with h | h
  · exact N.varB_small _ z h
  · exact N.varB_small _ z h

theorem bodyB_small (l : List (Int × Int)) : ∀ z ∈ bodyB l, z < 256 := by
  intro z hz
  unfold bodyB at hz
  rcases List.mem_append.1 hz with h | h
  · rcases List.mem_append.1 h with h | h
    · simp at h; omega
    · exact N.varB_small _ z h
  · exact recB_small l z h

theorem fillB_small (zs : List Nat) (hz : ∀ z ∈ zs, z < 256) : ∀ z ∈ fillB zs, z < 256 := by
  intro z h
  unfold fillB at h
  rcases List.mem_append.1 h with h | h
  · exact hz z h
  · rw [(List.mem_replicate.1 h).2]; omega

theorem crcB_length (zs : List Nat) : (crcB zs).length = 4 := N.lowB_length _ _

theorem fillB_length (zs : List Nat) : (fillB zs).length = zs.length + lack zs.length := by simp [fillB]

/-- a row of one byte of one's own -/
theorem StB.one (w : World) (z : Nat) : StB w (w.alloc (.cells #[bv z] 5)) (.slice (some ⟨w.heap.size, 0, none⟩) 1 1) [z] :=
  StB.block (xs := [z]) ((Below.refl _ _).alloc (Nat.le_refl _) _) (Nat.le_refl _) (by exact heap_alloc_new w _) (by simp)

theorem StB.base {w w1 w2 : World} {v : Value} {xs : List Nat} (h : StB w1 w2 v xs) (hb : Below w.heap.size w w1) : StB w w2 v xs :=
  ⟨own_base h.own hb.size, hb.trans (h.bel.mono hb.size)⟩

theorem recB_le (l : List (Int × Int)) (hm : allMay l = true) : ∀ i, i ≤ l.length → (recB (l.take i)).length ≤ 18 * i
  | 0, _ => by simp [recB]
  | i + 1, h => by
    have ih := recB_le l hm i (by omega)
    obtain ⟨S, T, e1, e2, h1, h2⟩ := may_nat (allMay_at (show i < l.length by omega) hm)
    rw [recB_take (show i < l.length by omega), e1, e2]
    simp only [List.length_append, Int.toNat_natCast]
    have := (varB_len S (by omega)).2
    have := (varB_len T (by omega)).2
    omega

/-- bytes stay where they are, when something is put behind another row -/
theorem reads_kp {w w1 : World} {va va' : Value} {g n cap : Nat} {xs : List Nat} (h : Reads w (.slice (some ⟨g, 0, none⟩) n cap) xs) (hk : Kp w w1 va va') (hg : g < w.heap.size) (hne : va.ownBlock ≠ some g) : Reads w1 (.slice (some ⟨g, 0, none⟩) n cap) xs := by
  obtain ⟨a, c, e, hc⟩ := h
  refine ⟨a, c, e, fun h0 => ?_⟩
  obtain ⟨ad, rfl, h2⟩ := hc h0
  injection e with e1 e2 e3
  injection e1 with e1
  subst e1
  refine ⟨_, rfl, fun j u hj => ?_⟩
  have := h2 j u hj
  rw [← this]
  simp only [World.cell?]
  have hb : ((⟨g, 0, none⟩ : Addr).add j).block = g := by simp [Addr.add]; split <;> rfl
  rw [hb, hk.block g hg hne]

theorem kp_cell {w w1 : World} {va va' u : Value} {b j : Nat} (h : w.cell? ⟨b, j, none⟩ = some u) (hk : Kp w w1 va va') (hg : b < w.heap.size) (hne : va.ownBlock ≠ some b) : w1.cell? ⟨b, j, none⟩ = some u := by
  rw [← h]
  simp only [World.cell?]
  rw [hk.block b hg hne]

set_option maxHeartbeats 2000000 in
theorem index_ok (l : List (Int × Int)) (v : Value) (w : World) (hr : ReadsR w v l) (hl : l.length ≤ 140737488355328) :
    Calls Try.prog 4 #[v] w fun e w' => ∃ v' x, e = .returned (.tuple #[v', .int .i64 x]) ∧ IdxIs w w' v' x l := by
  have HR := hide hr
  obtain ⟨a, cap, rfl, hcap, _⟩ := hr
  have HC := hide (contains_ok l _ w (unhide HR) hl)
  obtain ⟨n, hn⟩ : ∃ n, n = l.length := ⟨_, rfl⟩
  rw [← hn] at hl hcap HR HC ⊢
  have HN := hide hn
  clear hn
  by_cases hbig : 65536 < n
  · have hbi : (65536 : Int) < (n : Int) := by omega
    go_enter Try.func4, Try.ntmps4
    go_wp2_with fail
    go_ret2
    exact ⟨_, 2, rfl, .inl ⟨.inl (by rw [← unhide HN]; omega), rfl, rfl, Below.refl _ _⟩⟩
  have hbi : ¬ (65536 : Int) < (n : Int) := by omega
  cases hm : allMay l with
  | false =>
    rw [hm] at HC
    go_enter Try.func4, Try.ntmps4
    go_wp2_with (go_at_call 11; go_must (refine (unhide HC).mono ?_; rintro e w1 ⟨rfl, h1⟩; have H1 := hide h1; clear h1))
    go_ret2
    exact ⟨_, 2, rfl, .inl ⟨.inr hm, rfl, rfl, unhide H1⟩⟩
  | true =>
    rw [hm] at HC
    have HM := hide hm
    go_enter Try.func4, Try.ntmps4
    go_wp2_with (go_at_call 11; go_must (refine (unhide HC).mono ?_; rintro e w1 ⟨rfl, h1⟩; have H1 := hide h1; clear h1))
    have HO1 := hide (StB.one w1 0)
    refine (long_ok n _ (by omega)).mono ?_
    rintro e w2 ⟨vn, rfl, h2⟩
    have HL := hide (varB_len n (by omega))
    obtain ⟨gn, cn, rfl, hcn, _, _⟩ := h2.made (by have := unhide HL; omega)
    have H2 := hide h2
    have HO2 : Hid (StB w1 w2 (.slice (some ⟨w1.heap.size, 0, none⟩) 1 1) [0]) := hide ((unhide HO1).stays h2.bel)
    clear h2 HC
    go_wp2_with (at_builtin; go_must (refine wp_appB rfl (.tmp 14) (.tmp 17) rfl _ _ [0] (N.varB n) rfl rfl (unhide HO2) (unhide H2).reads (by intro _ _ h; cases h) (by have := unhide HL; simp; omega) ?_; intro v3 w3 h3 hk3; have H3 := hide h3; clear h3 hk3))
    have HW1 := hide (unhide H1).size
    clear H2 HO1 HO2 HL hcn
    go_loopg [4, 21] n (fun gk b c ws => ∃ (i : Nat) (vb : Value), gk = n - i ∧ i ≤ n ∧ b = vb ∧ c = .int .i64 (i : Int) ∧ Hid (StB w1 ws vb ([0] ++ N.varB n ++ recB (l.take i))))
    case atStart => exact ⟨0, _, by omega, by omega, rfl, rfl, hide (by simpa [recB] using unhide H3)⟩
    case round =>
      obtain ⟨i, vb, rfl, hi, rfl, rfl, HS⟩ := hrel
      clear H3
      have HLE := hide (recB_le l (unhide HM) i (by rw [← unhide HN]; omega))
      have HVN := hide (varB_len n (by omega)).2
      have HSL : Hid (([0] ++ N.varB n ++ recB (l.take i)).length ≤ 10 + 18 * i) := hide (by have := unhide HLE; have := unhide HVN; simp only [List.length_append, List.length_singleton]; omega)
      by_cases hlt : i < n
      · obtain ⟨a', cap', e, _, hs⟩ := (unhide HR).stays ((unhide H1).trans ((unhide HS).bel.mono (unhide HW1)))
        injection e with e1 e2 e3
        subst e1 e3
        obtain ⟨b, off, rfl, hbB, hcell⟩ := hs (by rw [← unhide HN]; omega)
        obtain ⟨k1, k2⟩ := hcell i (by rw [← unhide HN]; omega)
        have HT := hide (recB_take (l := l) (i := i) (by rw [← unhide HN]; omega))
        obtain ⟨S, T, es, et, hS, hT⟩ := may_nat (allMay_at (i := i) (by rw [← unhide HN]; omega) (unhide HM))
        rw [es, et] at HT
        rw [es] at k1
        rw [et] at k2
        simp only [Int.toNat_natCast] at HT
        have HLT := hide hlt
        have hki : (i : Int) < (n : Int) := by omega
        obtain ⟨gb, cb, rfl, hcb, hgb1, hgb2⟩ := (unhide HS).made (by simp)
        obtain ⟨LB, hLB⟩ : ∃ LB, LB = ([0] ++ N.varB n ++ recB (l.take i)).length := ⟨_, rfl⟩
        rw [← hLB] at hcb HSL ⊢
        have HLB := hide hLB
        clear hcell hs e2 hlt es et hLB
        have HLS := hide (varB_len S (by omega))
        have HLV := hide (varB_len T (by omega))
        go_upto_region 7 with fail
        obtain ⟨W2, hW2⟩ : ∃ W2, W2 = wr.alloc (.cells #[.int .i64 (S : Int), .int .i64 (T : Int)] 37) := ⟨_, rfl⟩
        have c0 : W2.cell? ⟨wr.heap.size, 0, none⟩ = some (.int .i64 (S : Int)) := by rw [hW2]; simp only [World.cell?, heap_alloc_new]; rfl
        have c1 : W2.cell? ⟨wr.heap.size, 1, none⟩ = some (.int .i64 (T : Int)) := by rw [hW2]; simp only [World.cell?, heap_alloc_new]; rfl
        have HS2 : Hid (StB w1 W2 (.slice (some ⟨gb, 0, none⟩) LB cb) ([0] ++ N.varB n ++ recB (l.take i))) := hide (by rw [hW2, unhide HLB]; exact (unhide HS).stays ((Below.refl _ _).alloc (Nat.le_refl _) _))
        rw [← hW2]
        have hgW : wr.heap.size < W2.heap.size := by rw [hW2]; simp
        obtain ⟨g, hg⟩ : ∃ g, g = wr.heap.size := ⟨_, rfl⟩
        rw [← hg] at c0 c1 hgb2 hgW ⊢
        clear hW2 hg HS k1 k2 hbB
        go_wp2_with fail
        refine (long_ok S W2 (by omega)).mono ?_
        rintro e w2 ⟨va, rfl, h2⟩
        obtain ⟨ga, ca, rfl, hca, _, _⟩ := h2.made (by have := unhide HLS; omega)
        have H2 := hide h2
        have HS3 := hide ((unhide HS2).stays h2.bel)
        have c1' := cell_stays h2.bel c1
        have HG1 : Hid (g < w2.heap.size) := hide (Nat.lt_of_lt_of_le hgW h2.bel.size)
        have HG2 : Hid ((Value.slice (some ⟨gb, 0, none⟩) LB cb).ownBlock ≠ some g) := hide (by intro h; have h2 : some gb = some g := h; have := Option.some.inj h2; omega)
        clear h2 HS2 c0 c1
        go_wp2_with (at_builtin; go_must (refine wp_appB rfl (.tmp 25) (.tmp 28) rfl (.slice (some ⟨gb, 0, none⟩) LB cb) _ ([0] ++ N.varB n ++ recB (l.take i)) (N.varB S) rfl rfl (unhide HS3) (unhide H2).reads (by intro _ _ h; cases h) (by have := unhide HLS; have := unhide HSL; rw [← unhide HLB]; omega) ?_; intro v3 w3 h3 hk3; have H3 := hide h3; have c3 := kp_cell c1' hk3 (unhide HG1) (unhide HG2); clear h3 hk3))
        obtain ⟨gd, cd, rfl, hcd, _, _⟩ := (unhide H3).made (by simp)
        have HW3 := hide (Below.refl w3.heap.size w3)
        refine (long_ok T w3 (by omega)).mono ?_
        rintro e w4 ⟨vc, rfl, h4⟩
        obtain ⟨gc, cc, rfl, hcc, _, _⟩ := h4.made (by have := unhide HLV; omega)
        have H4 := hide h4
        have HS4 := hide ((unhide H3).stays h4.bel)
        clear h4 c3 c1' H3 H2 hcd hcc hca
        obtain ⟨LD, hLD⟩ : ∃ LD, LD = ([0] ++ N.varB n ++ recB (l.take i) ++ N.varB S).length := ⟨_, rfl⟩
        rw [← hLD] at HS4 ⊢
        have HLD := hide hLD
        clear hLD
        go_wp2_with (at_builtin; go_must (refine wp_appB rfl (.tmp 30) (.tmp 33) rfl (.slice (some ⟨gd, 0, none⟩) LD cd) _ ([0] ++ N.varB n ++ recB (l.take i) ++ N.varB S) (N.varB T) rfl rfl (unhide HS4) (unhide H4).reads (by intro _ _ h; cases h) (by have := unhide HLV; have := unhide HLS; have := unhide HSL; rw [List.length_append, ← unhide HLB]; omega) ?_; intro v5 w5 h5 hk5; have H5 := hide h5; clear h5 hk5))
        go_roundg (n - (i + 1))
        case measure => have := unhide HLT; omega
        case rel => exact ⟨i + 1, _, rfl, unhide HLT, rfl, by go_num, hide (by rw [unhide HT]; simpa [List.append_assoc] using unhide H5)⟩
      · obtain rfl : i = n := by omega
        have HT : Hid (l.take i = l) := hide (List.take_of_length_le (by rw [← unhide HN]; exact Nat.le_refl _))
        rw [unhide HT] at HS HSL
        have HBD : Hid ([0] ++ N.varB i ++ recB l = bodyB l) := hide (by unfold bodyB; rw [unhide HN])
        rw [unhide HBD] at HS HSL
        have HFL := hide (filled_ok w1 _ (bodyB l) wr (unhide HS) (by unfold bodyB; simp) (by have := unhide HSL; omega))
        go_wp2_with fail
        refine (unhide HFL).mono ?_
        rintro e w2 ⟨vf, rfl, h2⟩
        have HFLN := hide (fillB_length (bodyB l))
        have HLK := hide (lack_lt (bodyB l).length)
        have H2 := hide h2
        have HSM := hide (fillB_small _ (bodyB_small l))
        clear h2 HFL
        obtain ⟨gf, cf, rfl, hcf, _, _⟩ := (unhide H2).made (by rw [unhide HFLN]; unfold bodyB; simp; omega)
        go_wp2_with fail
        refine (sumOf_ok _ (fillB (bodyB l)) w2 (unhide H2).reads (unhide HSM) (by have := unhide HSL; have := unhide HFLN; have := unhide HLK; omega)).mono ?_
        rintro e w3 ⟨vs, rfl, h3⟩
        obtain ⟨gs, cs, rfl, hcs, _, _⟩ := h3.made (by rw [crcB_length]; omega)
        have H3 := hide h3
        have HS3 := hide ((unhide H2).stays h3.bel)
        clear h3 H2
        obtain ⟨LD, hLD⟩ : ∃ LD, LD = (fillB (bodyB l)).length := ⟨_, rfl⟩
        rw [← hLD] at HS3 HFLN hcf ⊢
        have HLD := hide hLD
        clear hLD
        go_wp2_with (at_builtin; go_must (refine wp_appB rfl (.tmp 38) (.tmp 40) rfl (.slice (some ⟨gf, 0, none⟩) LD cf) _ (fillB (bodyB l)) (crcB (fillB (bodyB l))) rfl rfl (unhide HS3) (unhide H3).reads (by intro _ _ h; cases h) (by have := unhide HSL; have := unhide HFLN; have := unhide HLK; rw [crcB_length, ← unhide HLD]; omega) ?_; intro v5 w5 h5 hk5; have H5 := hide h5; clear h5 hk5))
        go_ret2
        exact ⟨_, 0, rfl, .inr ⟨by rw [← unhide HN]; omega, unhide HM, rfl, (unhide H5).base (unhide H1)⟩⟩
end Go.Proofs.Ytcppnkbfndhioaa
