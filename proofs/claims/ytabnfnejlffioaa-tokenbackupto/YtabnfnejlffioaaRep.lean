/- repeat: a piece behind what was made. -/
import Derived.Test.YtabnfnejlffioaaMeas
namespace Go.Proofs.Ytabnfnejlffioaa
open Go.RowKit
set_option linter.unusedVariables false

attribute [local go_sem ↓] Go.wp_at_zero Go.wp_at_succ

theorem own_cells {w : World} {base : Nat} {v : Value} {m : List Nat} (h : w.ownsRow base 5 1 v m.length (m.map bv)) (h0 : 0 < m.length) : ∃ g cap, v = .slice (some ⟨g, 0, none⟩) m.length cap ∧ m.length ≤ cap ∧ base ≤ g ∧ ∀ j, j < m.length → w.cell? ⟨g, j, none⟩ = some (.int .u8 (m.getD j 0 : Int)) := by
  obtain ⟨hl, hr⟩ := h
  rcases hr with ⟨_, e⟩ | ⟨g, cap, cur, e, hb, hh, hle, hc, hs, ht⟩
  · omega
  · refine ⟨g, cap, e, hle, hb, fun j hj => ?_⟩
    have h2 : (cur.toList.take (m.length * 1))[j]? = (m.map bv)[j]? := by rw [ht]
    rw [List.getElem?_take, if_pos (by omega)] at h2
    simp only [World.cell?, hh]
    rw [← Array.getElem?_toList, h2]
    simp [bv, hj]

theorem piece_news {w : World} {g off n f k : Nat} {zs : List Nat} (hc : ∀ j, j < n → w.cell? ⟨g, off + j, none⟩ = some (.int .u8 (zs.getD j 0 : Int))) (hf : f + k ≤ n) :
    ∀ (j : Nat) u, (((zs.drop f).take k).map bv)[j]? = some u → w.cell? ((⟨g, off + f, none⟩ : Addr).add j) = some u := by
  intro j u hj
  have hl : j < k ∧ f + j < zs.length := by
    have : j < (((zs.drop f).take k).map bv).length := by
      rcases Nat.lt_or_ge j (((zs.drop f).take k).map bv).length with h | h
      · exact h
      · rw [List.getElem?_eq_none h] at hj; cases hj
    simp at this
    omega
  have e : (⟨g, off + f, none⟩ : Addr).add j = ⟨g, off + (f + j), none⟩ := by by_cases hq : j = 0 <;> simp [Addr.add, hq, Nat.add_assoc]
  rw [e, hc (f + j) (by omega)]
  rw [List.getElem?_map, List.getElem?_take, if_pos hl.1, List.getElem?_drop, List.getElem?_eq_getElem hl.2] at hj
  simp only [Option.map_some, Option.some.injEq] at hj
  rw [← hj]
  simp [bv, hl.2]

theorem run_min_nat {a b x : Nat} {A B : Int} (hA : A = (a : Int)) (hB : B = (b : Int)) (h : x = min a b) (w : World) : (Builtin.min_ #[3, 3] 3 #[.int .i64 A, .int .i64 B]).run Try.prog w = .ok (.int .i64 (x : Int)) w := by
  rw [run_min_int2, hA, hB]
  congr 2
  split <;> omega

theorem one_cells (l : List Nat) : ∀ u ∈ l.map bv, u.oneCell' = true := by
  intro u hu
  simp at hu
  obtain ⟨z, _, rfl⟩ := hu
  rfl

/-- behind so many bytes of the piece -/
structure RepAt (bs made1 : List Nat) (n1 d base : Nat) (w ws : World) (v : Value) (left j : Nat) (m : List Nat) : Prop where
  sum : left + j = n1
  cpd : cp d j (bs ++ made1) = bs ++ m
  own : ws.ownsRow base 5 1 v m.length (m.map bv)
  bel : Below base w ws
  per : 0 < left → j % d = 0

theorem RepAt.len {bs made1 : List Nat} {n1 d base : Nat} {w ws : World} {v : Value} {left j : Nat} {m : List Nat} (h : RepAt bs made1 n1 d base w ws v left j m) : m.length = made1.length + j := by
  have := congrArg List.length h.cpd
  rw [cp_length, List.length_append, List.length_append] at this
  omega

theorem RepAt.next {bs made1 : List Nat} {n1 d base : Nat} {w ws ws' : World} {v v' : Value} {left j k F : Nat} {m : List Nat} (h : RepAt bs made1 n1 d base w ws v left j m) (hd : 1 ≤ d) (hF : F + d = made1.length) (h0 : 0 < left) (hk : k = min left (d + j))
    (ho : ws'.ownsRow base 5 1 v' (m.length + k) (m.map bv ++ ((m.drop F).take k).map bv)) (hg : ws.grownBy ws' v.ownBlock) (hbase : base ≤ w.heap.size) : RepAt bs made1 n1 d base w ws' v' (left - k) (j + k) (m ++ (m.drop F).take k) := by
  have hl := h.len
  have hs := h.sum
  have hj := h.per h0
  have hkl : ((m.drop F).take k).length = k := by simp; omega
  refine ⟨by omega, ?_, ?_, ?_, fun hlt => ?_⟩
  · rw [cp_long hd (by simp; omega) hj (by omega), h.cpd]
    have e : (bs ++ m).drop ((bs ++ made1).length - d) = m.drop F := by
      rw [List.length_append, show bs.length + made1.length - d = bs.length + F by omega, ← List.drop_drop, List.drop_left]
    rw [e, List.append_assoc]
  · rw [List.length_append, hkl, List.map_append]
    exact ho
  · exact h.bel.grown hg (Nat.le_trans hbase h.bel.size) (fun x e => (h.own.lt x e).1)
  · have e : k = d + j := by omega
    rw [e]
    exact Nat.mod_eq_zero_of_dvd (Nat.dvd_add (Nat.dvd_of_mod_eq_zero hj) (Nat.dvd_add (Nat.dvd_refl d) (Nat.dvd_of_mod_eq_zero hj)))

set_option maxRecDepth 100000 in
set_option maxHeartbeats 1000000 in
theorem repeat_loop (bs made : List Nat) (n d base cb : Nat) (ab : Option Addr) (v : Value) (w : World) (hb : ReadsU base w (.slice ab bs.length cb) bs) (ho : w.ownsRow base 5 1 v made.length (made.map bv)) (hbase : base ≤ w.heap.size)
    (hn : 1 ≤ n) (hd : 1 ≤ d) (hdl : d ≤ bs.length + made.length) (hsz : bs.length + made.length + n ≤ 1099511627776) :
    Calls Try.prog 25 #[.slice ab bs.length cb, v, .int .i64 (n : Int), .int .i64 (d : Int)] w fun e w' => ∃ v' m', e = .returned v' ∧ cp d n (bs ++ made) = bs ++ m' ∧ w'.ownsRow base 5 1 v' m'.length (m'.map bv) ∧ Below base w w' := by
  obtain ⟨i0, hi, hz0, hz1, hz2⟩ := info_parts info5
  obtain ⟨av, cv, rfl⟩ : ∃ a c, v = .slice a made.length c := by
    rcases ho.2 with ⟨e, e'⟩ | ⟨g, cap, _, e, _⟩
    · exact ⟨none, 0, by rw [e, e']⟩
    · exact ⟨_, cap, e⟩
  have HO := hide ho
  have HB := hide hb
  clear ho hb
  obtain ⟨L, hL⟩ : ∃ L, L = made.length := ⟨_, rfl⟩
  obtain ⟨N, hN⟩ : ∃ N, N = bs.length := ⟨_, rfl⟩
  rw [← hL] at HO hdl hsz ⊢
  rw [← hN] at HB hdl hsz ⊢
  have HL := hide hL
  have HN := hide hN
  clear hL hN
  by_cases hby : L < d
  · obtain ⟨Y, hY⟩ : ∃ Y : Nat, (d : Int) - (L : Int) = (Y : Int) := ⟨d - L, by omega⟩
    have hY0 : 0 < Y := by omega
    obtain ⟨p, hp⟩ : ∃ p, p = min Y n := ⟨_, rfl⟩
    have hmn := run_min_nat (A := (Y : Int)) (B := (n : Int)) rfl rfl hp
    obtain ⟨f, hf⟩ : ∃ f : Nat, (N : Int) - (Y : Int) = (f : Int) := ⟨N - Y, by omega⟩
    obtain ⟨a', cap', e, hcb, hs⟩ := unhide HB
    injection e with e1 e2 e3
    subst e1 e3
    obtain ⟨b, off, rfl, hbB, hcell⟩ := hs (by rw [← unhide HN]; omega)
    rw [← unhide HN] at hcb
    have HNEWS := hide (piece_news (f := f) (k := p) hcell (by rw [← unhide HN]; omega))
    have hpl : ((bs.drop f).take p).length = p := by have := unhide HN; simp; omega
    have HPL := hide hpl
    have hp1 : p ≤ n := by omega
    have hp2 : f + p ≤ cb := by omega
    obtain ⟨L1, hL1⟩ : ∃ L1, L1 = L + p := ⟨_, rfl⟩
    obtain ⟨n1, hn1⟩ : ∃ n1 : Nat, (n : Int) - (p : Int) = (n1 : Int) := ⟨n - p, by omega⟩
    obtain ⟨made1, hmade1⟩ : ∃ made1, made1 = made ++ (bs.drop f).take p := ⟨_, rfl⟩
    have HL1 : Hid (L1 = made1.length) := hide (by rw [hmade1, List.length_append, hpl, ← unhide HL, hL1])
    have HGE : Hid (0 < n1 → d ≤ L1) := hide (by omega)
    have HCP : Hid (cp d p (bs ++ made) = bs ++ made1) := hide (by
      have h1 := unhide HN
      have h2 := unhide HL
      rw [cp_short hd (by simp; omega) (by omega), hmade1, List.append_assoc]
      congr 2
      rw [show (bs ++ made).length - d = f by simp; omega, List.drop_append_of_le_length (by omega), List.take_append_of_le_length (by simp; omega)])
    have HEND : Hid (∀ (v' : Value) (w' : World) (j : Nat) (m' : List Nat), j = n1 → RepAt bs made1 n1 d base w w' v' 0 j m' → ∃ v'' m'', Ending.returned v' = .returned v'' ∧ cp d n (bs ++ made) = bs ++ m'' ∧ w'.ownsRow base 5 1 v'' m''.length (m''.map bv) ∧ Below base w w') := hide fun v' w' j m' hj h => ⟨v', m', rfl, by rw [show n = p + n1 by omega, cp_add, unhide HCP, ← hj]; exact h.cpd, h.own, h.bel⟩
    have hpn : n1 ≤ n := by omega
    have hnl : L1 + n1 = L + n := by omega
    have HP := hide hp
    have HM1 := hide hmade1
    have HL1P := hide hL1
    clear hp hcell hs e2 hpl hmade1 hL1
    go_enter Try.func25, Try.ntmps25
    go_upto_region 6 with (at_builtin; go_must (refine wpList_append_own _ rfl (.tmp 27) (.tmp 33) 22 rfl base 5 i0 (.int .u8 0) 1 1 Try.underlying22 hi hz0 hz1 hz2 rfl (by decide) _ L (made.map bv) (by rfl) (unhide HO) ⟨b, off + f, none⟩ p (cb - f) (((bs.drop f).take p).map bv) (by show Value.slice _ (f + p - f) _ = _; rw [Nat.add_sub_cancel_left]) (by rw [List.length_map, unhide HPL, Nat.mul_one]) (unhide HNEWS) (one_cells _) (by unfold maxLen; omega) (by omega) hbase ?_; intro v1 w1 ho1 hg1 _; have HO1 : Hid (w1.ownsRow base 5 1 v1 L1 (made1.map bv)) := hide (by rw [unhide HL1P, unhide HM1, List.map_append]; exact ho1); have HB1 : Hid (Below base w w1) := hide ((Below.refl base w).grown hg1 hbase (fun x e => ((unhide HO).lt x e).1)); clear ho1 hg1))
    obtain ⟨a1, c1, rfl⟩ : ∃ a c, v1 = .slice a L1 c := by
      rcases (unhide HO1).2 with ⟨e, e'⟩ | ⟨g, cap, _, e, _⟩
      · exact ⟨none, 0, by rw [e, e']⟩
      · exact ⟨_, cap, e⟩

    have HST : Hid (RepAt bs made1 n1 d base w w1 (.slice a1 L1 c1) n1 0 made1) := hide ⟨by omega, rfl, by have := unhide HO1; rw [unhide HL1] at this ⊢; exact this, unhide HB1, fun _ => Nat.zero_mod d⟩
    obtain ⟨G, hG⟩ : ∃ G : Int, (L1 : Int) - (d : Int) = G := ⟨_, rfl⟩
    have HG := hide hG
    go_wp2_with fail
    clear hG
    go_loopg [1, 2] n1 (fun gk c e ws => ∃ (left j : Nat) (m : List Nat) (v : Value), left = gk ∧ v = c ∧ e = .int .i64 (left : Int) ∧ left ≤ n1 ∧ Hid (RepAt bs made1 n1 d base w ws v left j m))
    case atStart => exact ⟨n1, 0, made1, _, rfl, rfl, by first | rfl | go_num, Nat.le_refl _, HST⟩
    case round =>
      obtain ⟨left, j, m, v, rfl, rfl, rfl, hle, hat⟩ := hrel
      by_cases h0 : 0 < left
      · obtain ⟨F, hF⟩ : ∃ F : Nat, F + d = L1 := ⟨L1 - d, by have := unhide HGE (by omega); omega⟩
        obtain rfl : G = (F : Int) := by have := unhide HG; omega
        have hml := (unhide hat).len
        have hsum := (unhide hat).sum
        rw [← unhide HL1] at hml
        obtain ⟨g, cg, rfl, hcg, hbg, hcell⟩ := own_cells (unhide hat).own (by omega)
        have HOW := hide (unhide hat).own
        obtain ⟨K, hK⟩ : ∃ K, K = m.length := ⟨_, rfl⟩
        rw [← hK] at hml hcg hcell HOW ⊢
        have HK := hide hK
        have HCELL := hide hcell
        have h0i : (0 : Int) < (left : Int) := by omega
        have hKF : (K : Int) - (F : Int) = ((d + j : Nat) : Int) := by omega
        obtain ⟨D, hD⟩ : ∃ D, D = d + j := ⟨_, rfl⟩
        rw [← hD] at hKF
        obtain ⟨k, hk⟩ : ∃ k, k = min left D := ⟨_, rfl⟩
        have hmn := run_min_nat (A := (left : Int)) (B := (D : Int)) rfl rfl hk
        have hk1 : k ≤ left := by omega
        have hk2 : 0 < k := by omega
        have hk3 : F + k ≤ K := by omega
        have hk4 : K + k ≤ 1099511627776 := by omega
        have HKK : Hid (k = min left (d + j)) := hide (by rw [hk, hD])
        have hbw := (unhide hat).bel.size
        have HNEXT : Hid (∀ v' w', w'.ownsRow base 5 1 v' (K + k) (m.map bv ++ ((m.drop F).take k).map bv) → wr.grownBy w' (some g) → RepAt bs made1 n1 d base w w' v' (left - k) (j + k) (m ++ (m.drop F).take k)) := hide fun v' w' ho hg => (unhide hat).next hd (by rw [← unhide HL1]; exact hF) h0 (unhide HKK) (by rw [← unhide HK]; exact ho) hg hbase
        have hkl : ((m.drop F).take k).length = k := by simp; omega
        have HKL := hide hkl
        clear hcell hK hD hk hat hml hF hkl hsum
        go_wp2_with (at_builtin; go_must (refine wpList_append_own _ rfl (.tmp 50) (.tmp 56) 22 rfl base 5 i0 (.int .u8 0) 1 1 Try.underlying22 hi hz0 hz1 hz2 rfl (by decide) _ K (m.map bv) (by rfl) (unhide HOW) ⟨g, F, none⟩ k (cg - F) (((m.drop F).take k).map bv) (by show Value.slice _ (F + k - F) _ = _; rw [Nat.add_sub_cancel_left]; first | done | rfl | simp) (by rw [List.length_map, unhide HKL, Nat.mul_one]) (by have := piece_news (off := 0) (f := F) (k := k) (zs := m) (n := K) (by simpa using unhide HCELL) hk3; simpa using this) (one_cells _) (by unfold maxLen; omega) (by omega) (by omega) ?_; intro v2 w2 ho2 hg2 _; have HN2 := hide (unhide HNEXT v2 w2 ho2 hg2); clear ho2 hg2))
        go_roundg (left - k)
        case measure => omega
        case rel => exact ⟨left - k, j + k, _, _, rfl, rfl, by go_num, by omega, HN2⟩
      · obtain rfl : left = 0 := by omega
        have HFIN := hide (unhide HEND v wr j m (by have := (unhide hat).sum; omega) (unhide hat))
        clear hat
        go_wp2_with fail
        go_ret
        exact unhide HFIN
  · obtain ⟨Y, hY⟩ : ∃ Y : Nat, (L : Int) - (d : Int) = (Y : Int) := ⟨L - d, by omega⟩
    have hby2 : ¬ (0 : Int) < (d : Int) - (L : Int) := by omega
    obtain ⟨L1, hL1⟩ : ∃ L1, L1 = L := ⟨_, rfl⟩
    obtain ⟨n1, hn1⟩ : ∃ n1, n1 = n := ⟨_, rfl⟩
    subst hL1 hn1
    obtain ⟨made1, hmade1⟩ : ∃ made1, made1 = made := ⟨_, rfl⟩
    subst hmade1
    have HL1 := HL
    have HGE : Hid (0 < n1 → d ≤ L1) := hide (by omega)
    have HEND : Hid (∀ (v' : Value) (w' : World) (j : Nat) (m' : List Nat), j = n1 → RepAt bs made1 n1 d base w w' v' 0 j m' → ∃ v'' m'', Ending.returned v' = .returned v'' ∧ cp d n1 (bs ++ made1) = bs ++ m'' ∧ w'.ownsRow base 5 1 v'' m''.length (m''.map bv) ∧ Below base w w') := hide fun v' w' j m' hj h => ⟨v', m', rfl, by rw [← hj]; exact h.cpd, h.own, h.bel⟩
    obtain ⟨w1, hw1⟩ : ∃ w1, w1 = w := ⟨_, rfl⟩
    have HO1 : Hid (w1.ownsRow base 5 1 (.slice av L1 cv) L1 (made1.map bv)) := hide (by rw [hw1]; exact unhide HO)
    have HB1 : Hid (Below base w w1) := hide (by rw [hw1]; exact Below.refl _ _)
    obtain ⟨a1, ha1⟩ : ∃ a1, a1 = av := ⟨_, rfl⟩
    obtain ⟨c1, hc1⟩ : ∃ c1, c1 = cv := ⟨_, rfl⟩
    subst ha1 hc1
    go_enter Try.func25, Try.ntmps25
    go_upto_region 7 with fail
    rw [← hw1]
    have HW1 := hide hw1
    clear hw1 hY

    have HST : Hid (RepAt bs made1 n1 d base w w1 (.slice a1 L1 c1) n1 0 made1) := hide ⟨by omega, rfl, by have := unhide HO1; rw [unhide HL1] at this ⊢; exact this, unhide HB1, fun _ => Nat.zero_mod d⟩
    obtain ⟨G, hG⟩ : ∃ G : Int, (L1 : Int) - (d : Int) = G := ⟨_, rfl⟩
    have HG := hide hG
    go_wp2_with fail
    clear hG
    go_loopg [1, 2] n1 (fun gk c e ws => ∃ (left j : Nat) (m : List Nat) (v : Value), left = gk ∧ v = c ∧ e = .int .i64 (left : Int) ∧ left ≤ n1 ∧ Hid (RepAt bs made1 n1 d base w ws v left j m))
    case atStart => exact ⟨n1, 0, made1, _, rfl, rfl, by first | rfl | go_num, Nat.le_refl _, HST⟩
    case round =>
      obtain ⟨left, j, m, v, rfl, rfl, rfl, hle, hat⟩ := hrel
      by_cases h0 : 0 < left
      · obtain ⟨F, hF⟩ : ∃ F : Nat, F + d = L1 := ⟨L1 - d, by have := unhide HGE (by omega); omega⟩
        obtain rfl : G = (F : Int) := by have := unhide HG; omega
        have hml := (unhide hat).len
        have hsum := (unhide hat).sum
        rw [← unhide HL1] at hml
        obtain ⟨g, cg, rfl, hcg, hbg, hcell⟩ := own_cells (unhide hat).own (by omega)
        have HOW := hide (unhide hat).own
        obtain ⟨K, hK⟩ : ∃ K, K = m.length := ⟨_, rfl⟩
        rw [← hK] at hml hcg hcell HOW ⊢
        have HK := hide hK
        have HCELL := hide hcell
        have h0i : (0 : Int) < (left : Int) := by omega
        have hKF : (K : Int) - (F : Int) = ((d + j : Nat) : Int) := by omega
        obtain ⟨D, hD⟩ : ∃ D, D = d + j := ⟨_, rfl⟩
        rw [← hD] at hKF
        obtain ⟨k, hk⟩ : ∃ k, k = min left D := ⟨_, rfl⟩
        have hmn := run_min_nat (A := (left : Int)) (B := (D : Int)) rfl rfl hk
        have hk1 : k ≤ left := by omega
        have hk2 : 0 < k := by omega
        have hk3 : F + k ≤ K := by omega
        have hk4 : K + k ≤ 1099511627776 := by omega
        have HKK : Hid (k = min left (d + j)) := hide (by rw [hk, hD])
        have hbw := (unhide hat).bel.size
        have HNEXT : Hid (∀ v' w', w'.ownsRow base 5 1 v' (K + k) (m.map bv ++ ((m.drop F).take k).map bv) → wr.grownBy w' (some g) → RepAt bs made1 n1 d base w w' v' (left - k) (j + k) (m ++ (m.drop F).take k)) := hide fun v' w' ho hg => (unhide hat).next hd (by rw [← unhide HL1]; exact hF) h0 (unhide HKK) (by rw [← unhide HK]; exact ho) hg hbase
        have hkl : ((m.drop F).take k).length = k := by simp; omega
        have HKL := hide hkl
        clear hcell hK hD hk hat hml hF hkl hsum
        go_wp2_with (at_builtin; go_must (refine wpList_append_own _ rfl (.tmp 50) (.tmp 56) 22 rfl base 5 i0 (.int .u8 0) 1 1 Try.underlying22 hi hz0 hz1 hz2 rfl (by decide) _ K (m.map bv) (by rfl) (unhide HOW) ⟨g, F, none⟩ k (cg - F) (((m.drop F).take k).map bv) (by show Value.slice _ (F + k - F) _ = _; rw [Nat.add_sub_cancel_left]; first | done | rfl | simp) (by rw [List.length_map, unhide HKL, Nat.mul_one]) (by have := piece_news (off := 0) (f := F) (k := k) (zs := m) (n := K) (by simpa using unhide HCELL) hk3; simpa using this) (one_cells _) (by unfold maxLen; omega) (by omega) (by omega) ?_; intro v2 w2 ho2 hg2 _; have HN2 := hide (unhide HNEXT v2 w2 ho2 hg2); clear ho2 hg2))
        go_roundg (left - k)
        case measure => omega
        case rel => exact ⟨left - k, j + k, _, _, rfl, rfl, by go_num, by omega, HN2⟩
      · obtain rfl : left = 0 := by omega
        have HFIN := hide (unhide HEND v wr j m (by have := (unhide hat).sum; omega) (unhide hat))
        clear hat
        go_wp2_with fail
        go_ret
        exact unhide HFIN

end Go.Proofs.Ytabnfnejlffioaa
