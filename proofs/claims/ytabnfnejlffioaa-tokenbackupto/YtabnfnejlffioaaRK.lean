/- bytes.LastIndex at a piece of two bytes or more: hashes from the end. -/
import Derived.Test.YtabnfnejlffioaaLast
namespace Go.Proofs.Ytabnfnejlffioaa
open Go.RowKit Go.Lib
set_option linter.unusedVariables false

attribute [local go_sem ↓] Go.wp_at_zero Go.wp_at_succ

theorem conv_sb {B : Nat} {w : World} {v : Value} {zs : List Nat} (h : ReadsU B w v zs) (hs : ∀ z ∈ zs, z < 256) (q : Nat) : (convert 22 9 v).run Try.prog (w.drewN q) = .ok (.string (sb zs)) (w.drewN q) := conv_reads (h.reads.stays ⟨rfl, rfl, rfl, Nat.le_refl _, fun _ _ => rfl⟩) hs

set_option maxRecDepth 100000 in
set_option maxHeartbeats 4000000 in
theorem lastrk_ok (zs ys : List Nat) (b off c b2 off2 c2 B : Nat) (w : World) (hr : ReadsU B w (.slice (some ⟨b, off, none⟩) zs.length c) zs) (hr2 : ReadsU B w (.slice (some ⟨b2, off2, none⟩) ys.length c2) ys) (hz : ∀ z ∈ zs, z < 256) (hy : ∀ z ∈ ys, z < 256)
    (h1 : 1 ≤ ys.length) (h2 : ys.length < zs.length) (hl : zs.length ≤ 140737488355328) (hcap : zs.length ≤ c) :
    Calls Try.prog 41 #[.slice (some ⟨b, off, none⟩) zs.length c, .slice (some ⟨b2, off2, none⟩) ys.length c2] w fun e w' => ∃ r : Int, e = .returned (.int .i64 r) ∧ LastIs zs ys (zs.length - ys.length + 1) r ∧ ∃ q, w' = w.drewN q := by
  obtain ⟨_, _, e1, hB1⟩ := sb_bytes hr hz (by omega)
  injection e1 with e1
  injection e1 with e1 e1'
  subst e1 e1'
  obtain ⟨_, _, e2, hB2⟩ := sb_bytes hr2 hy (by omega)
  injection e2 with e2
  injection e2 with e2 e2'
  subst e2 e2'
  have HC := hide (hashrev_ok b2 off2 c2 (sb ys) (by rw [sb_size]; omega) w hB2)
  rw [sb_size] at HC
  obtain ⟨hh, Hh⟩ : ∃ hh : Int, hh = RK.H (sb ys).data.toList.reverse % 4294967296 := ⟨_, rfl⟩
  obtain ⟨pw, Hp⟩ : ∃ pw : Int, pw = 16777619 ^ ys.length % 4294967296 := ⟨_, rfl⟩
  rw [← Hh, ← Hp] at HC
  have HH := hide Hh
  have HP := hide Hp
  have HBY := hide hB1
  have hcy := conv_sb hr2 hy
  have HRS := hide hr
  have HZ := hide hz
  have HY := hide hy
  have HSB := hide (sb_size zs)
  obtain ⟨n, hn⟩ : ∃ n, n = zs.length := ⟨_, rfl⟩
  obtain ⟨m, hm⟩ : ∃ m, m = ys.length := ⟨_, rfl⟩
  rw [← hn] at h2 hl hcap HRS HSB ⊢
  rw [← hm] at h1 h2 HC HP hcy ⊢
  have HN := hide hn
  have HM := hide hm
  obtain ⟨last, hlast⟩ : ∃ last : Nat, (n : Int) - (m : Int) = (last : Int) := ⟨n - m, by omega⟩
  have hlm : last + m = n := by omega
  have HLM := hide hlm
  rw [show n - m + 1 = last + 1 by omega]
  have hlast0 : 0 < last := by omega
  clear hn hm hB1 hB2 hr hr2 hz hy Hh Hp hlm
  -- at a place: the strings are one just where the piece stands
  have HEQ : Hid (∀ j, j ≤ last → (Stands zs ys j ∧ ((sb ((zs.drop j).take m)).toList == (sb ys).toList) = true) ∨ (¬ Stands zs ys j ∧ ((sb ((zs.drop j).take m)).toList == (sb ys).toList) = false)) := hide fun j hj => by
    have hjl : j + ys.length ≤ zs.length := by rw [← unhide HM, ← unhide HN]; have := unhide HLM; omega
    have hs := stands_sub (ys := ys) hjl
    by_cases h : Stands zs ys j
    · refine .inl ⟨h, ?_⟩
      rw [unhide HM, hs.1 h]
      simp
    · refine .inr ⟨h, ?_⟩
      have : (sb ((zs.drop j).take m)).toList ≠ (sb ys).toList := fun e => h (hs.2 (by
        rw [← unhide HM]
        refine sb_inj (fun z hz => unhide HZ z (List.mem_of_mem_drop (List.mem_of_mem_take hz))) (unhide HY) ?_
        rw [ByteArray.toList_eq, ByteArray.toList_eq] at e
        apply ByteArray.ext
        exact Array.toList_inj.1 e))
      simpa using this
  have HCV : Hid (∀ j, j ≤ last → 0 < m → ∀ cc, m ≤ cc → ∀ q, (convert 22 9 (.slice (some ⟨b, off + j, none⟩) m cc)).run Try.prog (w.drewN q) = .ok (.string (sb ((zs.drop j).take m))) (w.drewN q)) := hide fun j hj h0 cc hcc q => by
    have h3 := unhide HRS
    rw [unhide HN] at h3
    exact conv_sb (h3.sub rfl j m cc (by rw [← unhide HN]; have := unhide HLM; omega) hcc) (fun z hz => unhide HZ z (List.mem_of_mem_drop (List.mem_of_mem_take hz))) q
  have HNOH : Hid (∀ j g, j ≤ last → g = RK.H (RK.win (sb zs).data.toList j m).reverse % 4294967296 → ¬ g = hh → ¬ Stands zs ys j) := hide fun j g hj hg hne hs => hne (by
    have := stands_hash (ys := ys) (by rw [← unhide HM, ← unhide HN]; have := unhide HLM; omega) hs
    rw [unhide HM] at hg
    rw [hg, unhide HH, this])
  go_enter Try.func41, Try.ntmps41
  go_upto_region 2 with (go_at_call 49; go_must (refine (unhide HC).mono ?_; rintro e w' ⟨rfl, hww⟩; replace hww := hww.symm; subst hww))
  clear HC
  go_wp2_with fail
  go_loopg [9, 10] n (fun gk vh vi ws => ∃ (k : Nat) (h : Int), k = gk ∧ last ≤ k ∧ k ≤ n ∧ vi = .int .i64 ((k : Int) - 1) ∧ vh = .int .u32 h ∧ Hid (h = RK.H ((sb zs).data.toList.drop k).reverse % 4294967296) ∧ w = ws)
  case atStart => exact ⟨n, 0, rfl, by omega, Nat.le_refl _, rfl, rfl, hide (by rw [List.drop_of_length_le (by rw [← unhide HSB]; simp)]; rfl), rfl⟩
  case round =>
    obtain ⟨k, h, rfl, hk1, hk, rfl, rfl, hk2, rfl⟩ := hrel
    by_cases hgo : last < k
    · obtain ⟨K, hK⟩ : ∃ K : Nat, (k : Int) - 1 = (K : Int) := ⟨k - 1, by omega⟩
      have hK0 : K < (sb zs).size := by rw [unhide HSB]; omega
      have c1 := unhide HBY K hK0
      have HST := hide (rev_step (sb zs) K hK0 (h := h) (by have := unhide hk2; rw [show k = K + 1 by omega] at this; exact this))
      have hKn : K < n := by omega
      have hlK : (last : Int) ≤ (K : Int) := by omega
      have hlK2 : last ≤ K := by omega
      have hKk : K < k := by omega
      clear hk2
      go_wp2_with fail
      go_roundg K
      case measure => omega
      case rel => exact ⟨K, _, rfl, by omega, by omega, rfl, rfl, HST, rfl⟩
    · have hkl : k = last := by omega
      have hni : ¬ (last : Int) ≤ (k : Int) - 1 := by omega
      have HW : Hid (h = RK.H (RK.win (sb zs).data.toList last m).reverse % 4294967296) := hide (by
        have := unhide hk2
        rw [hkl] at this
        rwa [show (sb zs).data.toList.drop last = RK.win (sb zs).data.toList last m from (List.take_of_length_le (by rw [List.length_drop, sb_list, List.length_map, ← unhide HN]; have := unhide HLM; omega)).symm] at this)
      clear hk2
      have hcl := unhide HCV last (Nat.le_refl _) (by omega) (c - last) (by have := unhide HLM; omega)
      have HEL := unhide HEQ last (Nat.le_refl _)
      have hnl : n - last = m := by have := unhide HLM; omega
      have hlc : ¬ c - last = 0 := by have := unhide HLM; omega
      have hlc2 : last ≤ n := by have := unhide HLM; omega
      rcases HEL with ⟨hst, hbe⟩ | ⟨hst, hbe⟩
      · have ehh : h = hh := by
          refine Classical.byContradiction fun hne => ?_
          exact unhide HNOH last h (Nat.le_refl _) (unhide HW) hne hst
        have ehb : (h == hh) = true := by simp [ehh]
        have HE := hide (LastIs.hit hst)
        clear hst HW ehh
        go_wp2_with fail
        go_quiet (fail)
        go_wp2_with fail
        go_ret
        exact ⟨_, rfl, unhide HE, nq, rfl⟩
      · have HNS := hide hst
        by_cases ehh : h = hh
        · have ehb : (h == hh) = true := by simp [ehh]
          clear hst ehh
          go_wp2_with fail
          go_quiet (fail)
          go_wp2_with fail
          go_loopg [9, 11] last (fun gk vh vi ws => ∃ (j q : Nat) (g : Int), j = gk ∧ j ≤ last ∧ vi = .int .i64 ((j : Int) - 1) ∧ vh = .int .u32 g ∧ Hid (g = RK.H (RK.win (sb zs).data.toList j m).reverse % 4294967296) ∧ Hid (∀ i, j ≤ i → i ≤ last → ¬ Stands zs ys i) ∧ ws = w.drewN q)
          case atStart => exact ⟨last, _, _, rfl, Nat.le_refl _, rfl, rfl, HW, hide fun i a b => by (obtain rfl : i = last := by omega); exact unhide HNS, rfl⟩
          case round =>
            obtain ⟨j, q, g, rfl, hj, rfl, rfl, hg, hno, rfl⟩ := hrel
            by_cases hj1 : 1 ≤ j
            · obtain ⟨J, hJ⟩ : ∃ J : Nat, (j : Int) - 1 = (J : Int) := ⟨j - 1, by omega⟩
              obtain ⟨JM, hJM⟩ : ∃ JM : Nat, (J : Int) + (m : Int) = (JM : Int) := ⟨J + m, by omega⟩
              have hJn : J < n := by have := unhide HLM; omega
              have hJMn : JM < n := by have := unhide HLM; omega
              have hJ0 : J < (sb zs).size := by rw [unhide HSB]; omega
              have hJM0 : J + m < (sb zs).size := by rw [unhide HSB]; omega
              have c1 := unhide HBY J hJ0
              have d2 := unhide HBY (J + m) hJM0
              have HROLL := hide (LastIndex.rollrev_step (sb zs) m J h1 (by rw [unhide HSB]; omega) (h := g) (by have := unhide hg; rw [show j = J + 1 by omega] at this; exact this) (unhide HP))
              obtain ⟨x1, hx1⟩ : ∃ x, x = ((sb zs)[J]).toNat := ⟨_, rfl⟩
              obtain ⟨x2, hx2⟩ : ∃ x, x = ((sb zs)[J + m]).toNat := ⟨_, rfl⟩
              rw [← hx1] at c1 HROLL
              rw [← hx2] at d2 HROLL
              rw [show off + (J + m) = off + JM by omega] at d2
              have hjJ : j = J + 1 := by omega
              have HJJ := hide hjJ
              have hJj : J < j := by omega
              have hJl : J ≤ last := by omega
              have hcJ := unhide HCV J hJl (by omega) (c - J) (by have := unhide HLM; omega)
              have HEJ := hide (unhide HEQ J hJl)
              have hJc : ¬ c - J = 0 := by have := unhide HLM; omega
              have hJM1 : JM ≤ c := by omega
              have hJMJ : JM - J = m := by omega
              clear hg hx1 hx2 hjJ
              go_upto_region 17 with fail
              obtain ⟨g2, hg2⟩ : ∃ g2 : Int, g2 = (((g * 16777619 + (x1 : Int)) % 4294967296 - pw * ((x2 : Int) % 4294967296) % 4294967296) % 4294967296) := ⟨_, rfl⟩
              rw [← hg2]
              have HW2 : Hid (g2 = RK.H (RK.win (sb zs).data.toList J m).reverse % 4294967296) := hide (by rw [hg2, ← Int.sub_emod]; exact unhide HROLL)
              clear hg2 HROLL c1 d2
              rcases unhide HEJ with ⟨hstJ, hbJ⟩ | ⟨hstJ, hbJ⟩
              · have ehh2 : g2 = hh := by
                  refine Classical.byContradiction fun hne => ?_
                  exact unhide HNOH J g2 hJl (unhide HW2) hne hstJ
                have ehb2 : (g2 == hh) = true := by simp [ehh2]
                have HE : Hid (LastIs zs ys (last + 1) (J : Int)) := hide ((LastIs.hit hstJ).up (by omega) (fun i a b => unhide hno i (by have := unhide HJJ; omega) (by omega)))
                clear hstJ HW2 ehh2 hno
                go_quiet (fail)
                go_wp2_with fail
                go_ret
                exact ⟨_, rfl, by rw [hJ]; exact unhide HE, q + nq, by first | rfl | (rw [World.drewN_drewN])⟩
              · have HNO2 : Hid (∀ i, J ≤ i → i ≤ last → ¬ Stands zs ys i) := hide fun i a b => by
                  by_cases e : i = J
                  · subst e; exact hstJ
                  · exact unhide hno i (by have := unhide HJJ; omega) b
                by_cases ehh2 : g2 = hh
                · have ehb2 : (g2 == hh) = true := by simp [ehh2]
                  clear hstJ ehh2 hno
                  go_quiet (fail)
                  go_wp2_with fail
                  go_roundg J
                  case measure => omega
                  case rel => exact ⟨J, q + nq, _, rfl, by omega, rfl, rfl, HW2, HNO2, by first | rfl | (rw [World.drewN_drewN])⟩
                · have ehb2 : (g2 == hh) = false := by simp [ehh2]
                  clear hstJ ehh2 hno
                  go_quiet (fail)
                  go_wp2_with fail
                  go_roundg J
                  case measure => omega
                  case rel => exact ⟨J, q + nq, _, rfl, by omega, rfl, rfl, HW2, HNO2, by first | rfl | (rw [World.drewN_drewN])⟩
            · obtain rfl : j = 0 := by omega
              have HE : Hid (LastIs zs ys (last + 1) (-1)) := hide (.inl ⟨rfl, fun i hi => unhide hno i (Nat.zero_le _) (by omega)⟩)
              clear hno hg
              go_wp2_with fail
              go_ret
              exact ⟨_, rfl, unhide HE, q, rfl⟩
        · have ehb : (h == hh) = false := by simp [ehh]
          clear hst ehh
          go_wp2_with fail
          go_quiet (fail)
          go_wp2_with fail
          go_loopg [9, 11] last (fun gk vh vi ws => ∃ (j q : Nat) (g : Int), j = gk ∧ j ≤ last ∧ vi = .int .i64 ((j : Int) - 1) ∧ vh = .int .u32 g ∧ Hid (g = RK.H (RK.win (sb zs).data.toList j m).reverse % 4294967296) ∧ Hid (∀ i, j ≤ i → i ≤ last → ¬ Stands zs ys i) ∧ ws = w.drewN q)
          case atStart => exact ⟨last, _, _, rfl, Nat.le_refl _, rfl, rfl, HW, hide fun i a b => by (obtain rfl : i = last := by omega); exact unhide HNS, rfl⟩
          case round =>
            obtain ⟨j, q, g, rfl, hj, rfl, rfl, hg, hno, rfl⟩ := hrel
            by_cases hj1 : 1 ≤ j
            · obtain ⟨J, hJ⟩ : ∃ J : Nat, (j : Int) - 1 = (J : Int) := ⟨j - 1, by omega⟩
              obtain ⟨JM, hJM⟩ : ∃ JM : Nat, (J : Int) + (m : Int) = (JM : Int) := ⟨J + m, by omega⟩
              have hJn : J < n := by have := unhide HLM; omega
              have hJMn : JM < n := by have := unhide HLM; omega
              have hJ0 : J < (sb zs).size := by rw [unhide HSB]; omega
              have hJM0 : J + m < (sb zs).size := by rw [unhide HSB]; omega
              have c1 := unhide HBY J hJ0
              have d2 := unhide HBY (J + m) hJM0
              have HROLL := hide (LastIndex.rollrev_step (sb zs) m J h1 (by rw [unhide HSB]; omega) (h := g) (by have := unhide hg; rw [show j = J + 1 by omega] at this; exact this) (unhide HP))
              obtain ⟨x1, hx1⟩ : ∃ x, x = ((sb zs)[J]).toNat := ⟨_, rfl⟩
              obtain ⟨x2, hx2⟩ : ∃ x, x = ((sb zs)[J + m]).toNat := ⟨_, rfl⟩
              rw [← hx1] at c1 HROLL
              rw [← hx2] at d2 HROLL
              rw [show off + (J + m) = off + JM by omega] at d2
              have hjJ : j = J + 1 := by omega
              have HJJ := hide hjJ
              have hJj : J < j := by omega
              have hJl : J ≤ last := by omega
              have hcJ := unhide HCV J hJl (by omega) (c - J) (by have := unhide HLM; omega)
              have HEJ := hide (unhide HEQ J hJl)
              have hJc : ¬ c - J = 0 := by have := unhide HLM; omega
              have hJM1 : JM ≤ c := by omega
              have hJMJ : JM - J = m := by omega
              clear hg hx1 hx2 hjJ
              go_upto_region 17 with fail
              obtain ⟨g2, hg2⟩ : ∃ g2 : Int, g2 = (((g * 16777619 + (x1 : Int)) % 4294967296 - pw * ((x2 : Int) % 4294967296) % 4294967296) % 4294967296) := ⟨_, rfl⟩
              rw [← hg2]
              have HW2 : Hid (g2 = RK.H (RK.win (sb zs).data.toList J m).reverse % 4294967296) := hide (by rw [hg2, ← Int.sub_emod]; exact unhide HROLL)
              clear hg2 HROLL c1 d2
              rcases unhide HEJ with ⟨hstJ, hbJ⟩ | ⟨hstJ, hbJ⟩
              · have ehh2 : g2 = hh := by
                  refine Classical.byContradiction fun hne => ?_
                  exact unhide HNOH J g2 hJl (unhide HW2) hne hstJ
                have ehb2 : (g2 == hh) = true := by simp [ehh2]
                have HE : Hid (LastIs zs ys (last + 1) (J : Int)) := hide ((LastIs.hit hstJ).up (by omega) (fun i a b => unhide hno i (by have := unhide HJJ; omega) (by omega)))
                clear hstJ HW2 ehh2 hno
                go_quiet (fail)
                go_wp2_with fail
                go_ret
                exact ⟨_, rfl, by rw [hJ]; exact unhide HE, q + nq, by first | rfl | (rw [World.drewN_drewN])⟩
              · have HNO2 : Hid (∀ i, J ≤ i → i ≤ last → ¬ Stands zs ys i) := hide fun i a b => by
                  by_cases e : i = J
                  · subst e; exact hstJ
                  · exact unhide hno i (by have := unhide HJJ; omega) b
                by_cases ehh2 : g2 = hh
                · have ehb2 : (g2 == hh) = true := by simp [ehh2]
                  clear hstJ ehh2 hno
                  go_quiet (fail)
                  go_wp2_with fail
                  go_roundg J
                  case measure => omega
                  case rel => exact ⟨J, q + nq, _, rfl, by omega, rfl, rfl, HW2, HNO2, by first | rfl | (rw [World.drewN_drewN])⟩
                · have ehb2 : (g2 == hh) = false := by simp [ehh2]
                  clear hstJ ehh2 hno
                  go_quiet (fail)
                  go_wp2_with fail
                  go_roundg J
                  case measure => omega
                  case rel => exact ⟨J, q + nq, _, rfl, by omega, rfl, rfl, HW2, HNO2, by first | rfl | (rw [World.drewN_drewN])⟩
            · obtain rfl : j = 0 := by omega
              have HE : Hid (LastIs zs ys (last + 1) (-1)) := hide (.inl ⟨rfl, fun i hi => unhide hno i (Nat.zero_le _) (by omega)⟩)
              clear hno hg
              go_wp2_with fail
              go_ret
              exact ⟨_, rfl, unhide HE, q, rfl⟩

end Go.Proofs.Ytabnfnejlffioaa
