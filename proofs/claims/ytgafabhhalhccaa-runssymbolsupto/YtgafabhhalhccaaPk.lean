/- Pack: runs written shorter. -/
import Derived.Test.YtgafabhhalhccaaBa
namespace Go.Proofs.Ytgafabhhalhccaa
open Go.RowKit Runs
set_option maxRecDepth 100000
set_option linter.unusedVariables false
attribute [local go_sem ↓] Go.wp_at_zero Go.wp_at_succ

theorem drop_cons {b : List Nat} {i : Nat} (h : i < b.length) : b.drop i = b.getD i 0 :: b.drop (i + 1) := by
  rw [List.drop_eq_getElem_cons h, List.getD_eq_getElem?_getD, List.getElem?_eq_getElem h]
  rfl

theorem drop_getD (b : List Nat) (i j : Nat) : (b.drop i).getD j 0 = b.getD (i + j) 0 := by
  rw [List.getD_eq_getElem?_getD, List.getElem?_drop, List.getD_eq_getElem?_getD]

/-- how long the run is -/
theorem run_is {b : List Nat} {at_ m : Nat} (h1 : at_ + m ≤ b.length) (h0 : 1 ≤ m) (hm : m ≤ 259) (he : ∀ j, j < m → b.getD (at_ + j) 0 = b.getD at_ 0) (hs : at_ + m = b.length ∨ m = 259 ∨ b.getD (at_ + m) 0 ≠ b.getD at_ 0) : lead (b.getD at_ 0) 258 (b.drop (at_ + 1)) + 1 = m := by
  have := lead_is (b.getD at_ 0) 258 (b.drop (at_ + 1)) (m - 1) (by omega) (by simp; omega) (fun j hj => by
    rw [drop_getD, show at_ + 1 + j = at_ + (j + 1) by omega]
    exact he (j + 1) (by omega)) (by
    rcases hs with h | h | h
    · exact .inr (.inl (by simp; omega))
    · exact .inl (by omega)
    · refine .inr (.inr ?_)
      rw [drop_getD, show at_ + 1 + (m - 1) = at_ + m by omega]
      exact h)
  omega

theorem pack_step {b : List Nat} {at_ m : Nat} (h : at_ < b.length) (hm : lead (b.getD at_ 0) 258 (b.drop (at_ + 1)) + 1 = m) : packF (b.drop at_) = piece (b.getD at_ 0) m ++ packF (b.drop (at_ + m)) := by
  rw [drop_cons h, packF_cons, hm, List.drop_drop]
  congr 3
  omega

set_option maxHeartbeats 8000000 in
theorem pack_ok (b : List Nat) (a0 : Option Addr) (cap : Nat) (w : World) (hc : BytesIn w a0 b) (hb : ∀ z ∈ b, z < 256) (hn : b.length ≤ 1048576) :
    Calls Try.prog 10 #[.slice a0 b.length cap] w fun e w' => ∃ v, e = .returned v ∧ StB w w' v (packF b) := by
  have HC := hide hc
  have HBB := hide hb
  have HTL := hide (packF_len b.length b (Nat.le_refl _))
  obtain ⟨n, hN⟩ : ∃ n, n = b.length := ⟨_, rfl⟩
  have HN := hide hN
  rw [← hN] at hn HTL ⊢
  clear hN hc hb
  go_enter Try.func10, Try.ntmps10
  go_wp2_with fail
  go_loopg [3, 4] n (fun gk o av ws => ∃ (at_ : Nat) (xs : List Nat), gk = n - at_ ∧ at_ ≤ n ∧ av = .int .i64 (at_ : Int) ∧ Hid (StB w ws o xs) ∧ Hid (xs ++ packF (b.drop at_) = packF b))
  case atStart => exact ⟨0, [], by omega, by omega, rfl, hide (StB.nil w), hide rfl⟩
  case round =>
    obtain ⟨at_, xs, rfl, hat, rfl, HS, HX⟩ := hrel
    rename World => wo
    by_cases hlt : at_ < n
    · have tl : (at_ : Int) < (n : Int) := by omega
      have hab : at_ < b.length := by rw [← unhide HN]; exact hlt
      go_upto_block 2 with fail
      go_cut [5] from 11 to 35 (fun v5 wc => ∃ m q : Nat, v5 = .int .i64 (m : Int) ∧ (1 ≤ m ∧ m ≤ 259 ∧ at_ + m ≤ n ∧ Hid (lead (b.getD at_ 0) 258 (b.drop (at_ + 1)) + 1 = m)) ∧ wc = wo.drewN q)
      case first =>
        go_wp2_with fail
        go_loopg [5] 259 (fun gk mv ws => ∃ m q : Nat, gk = 259 - m ∧ m ≤ 259 ∧ at_ + m ≤ n ∧ mv = .int .i64 (m : Int) ∧ Hid (∀ j, j < m → b.getD (at_ + j) 0 = b.getD at_ 0) ∧ ws = wo.drewN q)
        case atStart => exact ⟨0, 0, by omega, by omega, by omega, rfl, hide (fun j hj => by omega), rfl⟩
        case round =>
          obtain ⟨m, q0, rfl, hm, ham, rfl, HE, rfl⟩ := hrel
          by_cases h1 : at_ + m < n
          · have t1 : (at_ : Int) + (m : Int) < (n : Int) := by omega
            obtain ⟨g, off, rfl, c1⟩ := unhide HC at_ hab
            obtain ⟨g', off', e1, c2⟩ := unhide HC (at_ + m) (by rw [← unhide HN]; exact h1)
            injection e1 with e1
            injection e1 with e1 e2
            subst e1 e2
            have d1 : ∀ q, ((wo.drewN q0).drewN q).cell? ⟨g, off + at_, none⟩ = some (.int .u8 ((b.getD at_ 0 : Nat) : Int)) := fun q => by
              show wo.cell? _ = _
              rw [(unhide HS).bel.cell (cell_lt c1)]; exact c1
            have d2 : ∀ q, ((wo.drewN q0).drewN q).cell? ⟨g, off + (at_ + m), none⟩ = some (.int .u8 ((b.getD (at_ + m) 0 : Nat) : Int)) := fun q => by
              show wo.cell? _ = _
              rw [(unhide HS).bel.cell (cell_lt c2)]; exact c2
            clear c1 c2
            by_cases h2 : m < 259
            · have t2 : (m : Int) < 259 := by omega
              have HXY : Hid (b.getD (at_ + m) 0 = b.getD (at_ + m) 0 ∧ b.getD at_ 0 = b.getD at_ 0) := hide ⟨rfl, rfl⟩
              obtain ⟨u, hu⟩ : ∃ u, u = b.getD (at_ + m) 0 := ⟨_, rfl⟩
              obtain ⟨v, hv⟩ : ∃ v, v = b.getD at_ 0 := ⟨_, rfl⟩
              rw [← hu] at d2
              rw [← hv] at d1
              have HU := hide hu
              have HV := hide hv
              clear hu hv HXY
              obtain ⟨W6, hW6⟩ : ∃ W6, W6 = wo.drewN q0 := ⟨_, rfl⟩
              have HW6 := hide hW6
              rw [← hW6] at d1 d2 ⊢
              clear hW6
              by_cases huv : u = v
              · have f1 : ((u : Int) == (v : Int)) = true := by rw [beq_iff_eq]; omega
                have f2 : (u : Int) = (v : Int) := by omega
                subst huv
                go_upto_region 5 with fail
                go_quiet (fail)
                go_wp2_with fail
                go_roundg (259 - (m + 1))
                case measure => omega
                case rel =>
                  refine ⟨m + 1, q0 + nq, rfl, by omega, by omega, by go_num, hide fun j hj => ?_, by rw [unhide HW6, World.drewN_drewN]⟩
                  by_cases e : j = m
                  · rw [e, ← unhide HU, ← unhide HV]
                  · exact unhide HE j (by omega)
              · have f1 : ((u : Int) == (v : Int)) = false := by rw [beq_eq_false_iff_ne]; omega
                have f2 : ¬ (u : Int) = (v : Int) := by omega
                have hm1 : 1 ≤ m := by
                  rcases Nat.eq_zero_or_pos m with e | e
                  · exact absurd (by rw [unhide HU, unhide HV, e]; rfl) huv
                  · exact e
                go_upto_region 5 with fail
                go_quiet (fail)
                go_wp2_with fail
                go_meet
                exact ⟨m, q0 + nq, rfl, ⟨hm1, by omega, by omega, hide (run_is (by rw [← unhide HN]; omega) hm1 (by omega) (unhide HE) (.inr (.inr (by rw [← unhide HU, ← unhide HV]; exact huv))))⟩, by rw [unhide HW6, World.drewN_drewN]⟩
            · have t2 : ¬ (m : Int) < 259 := by omega
              obtain ⟨W6, hW6⟩ : ∃ W6, W6 = wo.drewN q0 := ⟨_, rfl⟩
              have HW6 := hide hW6
              rw [← hW6]
              clear hW6 d1 d2
              go_upto_region 5 with fail
              go_quiet (fail)
              go_wp2_with fail
              go_meet
              exact ⟨m, q0 + nq, rfl, ⟨by omega, by omega, by omega, hide (run_is (by rw [← unhide HN]; omega) (by omega) (by omega) (unhide HE) (.inr (.inl (by omega))))⟩, by rw [unhide HW6, World.drewN_drewN]⟩
          · have t1 : ¬ (at_ : Int) + (m : Int) < (n : Int) := by omega
            obtain ⟨W6, hW6⟩ : ∃ W6, W6 = wo.drewN q0 := ⟨_, rfl⟩
            have HW6 := hide hW6
            rw [← hW6]
            clear hW6
            go_upto_region 5 with fail
            go_quiet (fail)
            go_wp2_with fail
            go_meet
            exact ⟨m, q0 + nq, rfl, ⟨by omega, by omega, by omega, hide (run_is (by rw [← unhide HN]; omega) (by omega) (by omega) (unhide HE) (.inl (by rw [← unhide HN]; omega)))⟩, by rw [unhide HW6, World.drewN_drewN]⟩
      case rest =>
        obtain ⟨m, q, rfl, ⟨hm1, hm2, ham, HLD⟩, rfl⟩ := hcut
        have HST := hide (pack_step hab (unhide HLD))
        have HZ := hide (unhide HBB _ (getD_mem hab))
        obtain ⟨g, off, rfl, c1⟩ := unhide HC at_ hab
        obtain ⟨z, hz⟩ : ∃ z, z = b.getD at_ 0 := ⟨_, rfl⟩
        rw [← hz] at c1 HST HZ
        have HS1 : Hid (StB w (wo.drewN q) u3 (xs ++ List.replicate 0 z)) := hide (by simpa using (unhide HS).drewN q)
        have hai : (at_ : Int) < (n : Int) := by omega
        have HLL : Hid (xs.length ≤ 2000000) := hide (by
          have h1 := congrArg List.length (unhide HX)
          rw [List.length_append] at h1
          have := unhide HTL
          omega)
        clear hz HS
        go_wp2_with fail
        go_loopg [3, 6] 4 (fun gk o iv' ws => ∃ i : Nat, gk = 4 - i ∧ i ≤ 4 ∧ i ≤ m ∧ iv' = .int .i64 (i : Int) ∧ Hid (StB w ws o (xs ++ List.replicate i z)))
        case atStart => exact ⟨0, by omega, by omega, by omega, rfl, HS1⟩
        case round =>
          clear HS1
          obtain ⟨i, rfl, hi4, him, rfl, HI⟩ := hrel
          rename World => wi
          by_cases h1 : i < m
          · have t1 : (i : Int) < (m : Int) := by omega
            by_cases h2 : i < 4
            · have t2 : (i : Int) < 4 := by omega
              have d1 : wi.cell? ⟨g, off + at_, none⟩ = some (.int .u8 ((z : Nat) : Int)) := by rw [(unhide HI).bel.cell (cell_lt c1)]; exact c1
              go_wp2_with (at_builtin; refine wp_oneB rfl _ _ rfl _ _ z (by rfl) (by rfl) (unhide HI) (by have := unhide HLL; rw [List.length_append, List.length_replicate]; omega) ?_; intro v3 w3 h3 _ _ _; have H3 := hide h3; clear h3)
              go_roundg (4 - (i + 1))
              case measure => omega
              case rel => exact ⟨i + 1, rfl, by omega, by omega, by go_num, hide (by rw [List.replicate_succ', ← List.append_assoc]; exact unhide H3)⟩
            · have t2 : ¬ (i : Int) < 4 := by omega
              obtain rfl : i = 4 := by omega
              have f1 : ¬ (m : Int) < 4 := by omega
              have f2 : (4 : Int) ≤ (m : Int) := by omega
              have f3 : IntKind.u8.wrap ((m : Int) - 4) = ((m - 4 : Nat) : Int) := by rw [IntKind.wrap_u8']; omega
              have f4 : ((m : Int) - 4) % 256 = ((m - 4 : Nat) : Int) := by omega
              go_wp2_with (at_builtin; refine wp_oneB rfl _ _ rfl _ _ (m - 4) (by rfl) (by rfl) (unhide HI) (by have := unhide HLL; rw [List.length_append, List.length_replicate]; omega) ?_; intro v3 w3 h3 _ _ _; have H3 := hide h3; clear h3)
              go_roundg (n - (at_ + m))
              case measure => omega
              case rel => exact ⟨at_ + m, _, rfl, by omega, by go_num, H3, hide (by rw [← unhide HX, unhide HST]; unfold piece; rw [if_neg (by omega)]; simp)⟩
          · have t1 : ¬ (i : Int) < (m : Int) := by omega
            obtain rfl : i = m := by omega
            by_cases h4 : i = 4
            · subst h4
              have f3 : IntKind.u8.wrap (0 : Int) = 0 := by rw [IntKind.wrap_u8']; omega
              go_wp2_with (at_builtin; refine wp_oneB rfl _ _ rfl _ _ 0 (by rfl) (by rfl) (unhide HI) (by have := unhide HLL; rw [List.length_append, List.length_replicate]; omega) ?_; intro v3 w3 h3 _ _ _; have H3 := hide h3; clear h3)
              go_roundg (n - (at_ + 4))
              case measure => omega
              case rel => exact ⟨at_ + 4, _, rfl, by omega, by go_num, H3, hide (by rw [← unhide HX, unhide HST]; unfold piece; rw [if_neg (by omega)]; simp)⟩
            · have f1 : (i : Int) < 4 := by omega
              have f2 : ¬ (4 : Int) ≤ (i : Int) := by omega
              go_wp2_with fail
              go_roundg (n - (at_ + i))
              case measure => omega
              case rel => exact ⟨at_ + i, _, rfl, by omega, by go_num, HI, hide (by rw [← unhide HX, unhide HST]; unfold piece; rw [if_pos (by omega)]; simp)⟩
    · obtain rfl : at_ = n := by omega
      have tl : ¬ (at_ : Int) < (at_ : Int) := by omega
      go_wp2_with fail
      go_ret
      refine ⟨_, rfl, ?_⟩
      have h1 := unhide HX
      rw [unhide HN, List.drop_length, show packF [] = [] from rfl, List.append_nil] at h1
      rw [← h1]
      exact unhide HS
end Go.Proofs.Ytgafabhhalhccaa
