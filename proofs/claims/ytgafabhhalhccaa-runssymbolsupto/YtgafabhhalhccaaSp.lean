/- The program's Symbols: runs of places 0 by the symbols 0 and 1. -/
import Derived.Test.YtgafabhhalhccaaCt
namespace Go.Proofs.Ytgafabhhalhccaa
open Go.RowKit Runs
set_option maxRecDepth 100000
set_option linter.unusedVariables false
attribute [local go_sem ↓] Go.wp_at_zero Go.wp_at_succ

set_option maxHeartbeats 1000000 in
theorem mayBe_ok (n : Int) (w : World) : Calls Try.prog 35 #[.int .i64 n] w fun e w' => e = .returned (.bool (decide (1 ≤ n) && decide (n ≤ 256))) ∧ w' = w := by
  by_cases h1 : 1 ≤ n
  · have d1 : decide (1 ≤ n) = true := decide_eq_true h1
    rw [d1, Bool.true_and]
    obtain ⟨r, hr⟩ : ∃ r, r = decide (n ≤ 256) := ⟨_, rfl⟩
    rw [← hr]
    go_enter Try.func35, Try.ntmps35
    go_wp2_with fail
    go_ret
    rw [hr]
    exact ⟨rfl, rfl⟩
  · have d1 : decide (1 ≤ n) = false := decide_eq_false h1
    rw [d1, Bool.false_and]
    go_enter Try.func35, Try.ntmps35
    go_wp2_with fail
    go_ret
    exact ⟨rfl, rfl⟩

set_option maxHeartbeats 2000000 in
theorem noughts_ok (w0 w : World) (va : Value) (xs : List Value) (k : Nat) (hA : St w0 w va xs) (hk : k ≤ 1048576) (hx : xs.length ≤ 100000000) :
    Calls Try.prog 36 #[va, .int .i64 (k : Int)] w fun e w' => ∃ v, e = .returned v ∧ St w0 w' v (xs ++ (digitsI k).map iv) := by
  have HA := hide hA
  clear hA
  go_enter Try.func36, Try.ntmps36
  go_wp2_with fail
  go_loopg [0, 1] k (fun gk o d ws => ∃ (j : Nat) (ys : List Value), gk = j ∧ j ≤ k ∧ d = .int .i64 (j : Int) ∧ Hid (St w0 ws o ys) ∧ Hid (ys ++ (digitsI j).map iv = xs ++ (digitsI k).map iv) ∧ Hid (ys.length + j ≤ xs.length + k))
  case atStart => exact ⟨k, xs, rfl, Nat.le_refl _, rfl, HA, hide rfl, hide (Nat.le_refl _)⟩
  case round =>
    clear HA
    obtain ⟨j, ys, rfl, hj, rfl, HS, HX, HL⟩ := hrel
    by_cases h0 : 0 < gk
    · have t0 : (0 : Int) < (gk : Int) := by omega
      obtain ⟨h, hh⟩ : ∃ h, gk = 2 * h + 1 ∨ gk = 2 * h + 2 := ⟨(gk - 1) / 2, by omega⟩
      rcases hh with hh | hh
      · have hX := unhide HX
        rw [hh, digitsI_odd] at hX
        have hm : (gk : Int).tmod 2 = 1 := by
          rw [show (2 : Int) = ((2 : Nat) : Int) from rfl, tmod_nat, hh]; omega
        have hd : ((gk : Int) - 1).tdiv 2 = (h : Int) := by
          rw [show (gk : Int) - 1 = ((2 * h : Nat) : Int) by omega, show (2 : Int) = ((2 : Nat) : Int) from rfl]
          show ((2 * h / 2 : Nat) : Int) = _
          omega
        have hh2 : h < gk := by omega
        have HX2 := hide hX
        have HLL : Hid (ys.length + 1 + h ≤ xs.length + k ∧ ys.length ≤ 200000000) := hide (by have := unhide HL; omega)
        clear hX HX HL hh
        go_wp2_with (at_builtin; refine wp_one rfl _ _ rfl _ _ 0 (by rfl) (by rfl) (unhide HS) (by have := (unhide HLL).2; omega) ?_; intro v3 w3 h3; have H3 := hide h3; clear h3)
        go_roundg h
        case measure => exact hh2
        case rel => exact ⟨h, _, rfl, by omega, rfl, H3, hide (by rw [← unhide HX2]; simp), hide (by have := (unhide HLL).1; simp; omega)⟩
      · have hX := unhide HX
        rw [hh, digitsI_even] at hX
        have hm : (gk : Int).tmod 2 = 0 := by
          rw [show (2 : Int) = ((2 : Nat) : Int) from rfl, tmod_nat, hh]; omega
        have hd : ((gk : Int) - 1 - 1).tdiv 2 = (h : Int) := by
          rw [show (gk : Int) - 1 - 1 = ((2 * h : Nat) : Int) by omega, show (2 : Int) = ((2 : Nat) : Int) from rfl]
          show ((2 * h / 2 : Nat) : Int) = _
          omega
        have hh2 : h < gk := by omega
        have h1 : 1 ≤ gk - 1 := by omega
        have HX2 := hide hX
        have HLL : Hid (ys.length + 1 + h ≤ xs.length + k ∧ ys.length ≤ 200000000) := hide (by have := unhide HL; omega)
        clear hX HX HL hh
        go_wp2_with (at_builtin; refine wp_one rfl _ _ rfl _ _ 1 (by rfl) (by rfl) (unhide HS) (by have := (unhide HLL).2; omega) ?_; intro v3 w3 h3; have H3 := hide h3; clear h3)
        go_roundg h
        case measure => exact hh2
        case rel => exact ⟨h, _, rfl, by omega, rfl, H3, hide (by rw [← unhide HX2]; simp), hide (by have := (unhide HLL).1; simp; omega)⟩
    · obtain rfl : gk = 0 := by omega
      go_wp2_with fail
      go_ret
      refine ⟨_, rfl, ?_⟩
      have h1 := unhide HX
      rw [digitsI_zero, List.map_nil, List.append_nil] at h1
      rw [← h1]
      exact unhide HS

theorem symI_bad (n : Int) : ∀ (ps : List Int) (run : Nat) (out : List Int), ¬ (∀ p ∈ ps, 0 ≤ p ∧ p < n) → symI n ps run out = ([], 2)
  | [], run, out, h => absurd (fun p hp => by simp at hp) h
  | p :: r, run, out, h => by
    rw [symI]
    by_cases h1 : p < 0 ∨ n ≤ p
    · rw [if_pos h1]
    · rw [if_neg h1]
      have h2 : ¬ (∀ p ∈ r, 0 ≤ p ∧ p < n) := fun q => h fun x hx => by
        rcases List.mem_cons.1 hx with rfl | hx
        · omega
        · exact q x hx
      by_cases h3 : p = 0
      · rw [if_pos h3]; exact symI_bad n r _ _ h2
      · rw [if_neg h3]; exact symI_bad n r _ _ h2

set_option maxHeartbeats 8000000 in
theorem psymbols_ok (ps : List Int) (a0 : Option Addr) (cap : Nat) (n : Int) (w : World) (hc : IntsIn w a0 ps) (hN : ps.length ≤ 1048576) :
    Calls Try.prog 19 #[.slice a0 ps.length cap, .int .i64 n] w fun e w' => ToldI w (symOut ps n) e w' := by
  have HC := hide hc
  have HWI := hide (within_ok ps a0 cap n w hc hN)
  obtain ⟨N, hNN⟩ : ∃ N, N = ps.length := ⟨_, rfl⟩
  have HN := hide hNN
  rw [← hNN] at hN HWI ⊢
  clear hNN hc
  by_cases hn : 1 ≤ n ∧ n ≤ 256
  case neg =>
    have hb : (decide (1 ≤ n) && decide (n ≤ 256)) = false := by
      rw [Bool.and_eq_false_iff, decide_eq_false_iff_not, decide_eq_false_iff_not]; omega
    have HMB := hide (mayBe_ok n w)
    rw [hb] at HMB
    have E1 : Hid (symOut ps n = ([], 2)) := hide (by unfold symOut; rw [if_pos (by omega)])
    clear hb HWI hn
    go_enter Try.func19, Try.ntmps19
    go_wp2_with fail
    refine (unhide HMB).mono ?_
    rintro e w1 ⟨rfl, rfl⟩
    go_wp2_with fail
    go_ret2
    rw [unhide E1]
    exact ⟨_, rfl, St.none _ _ (Below.refl _ _)⟩
  have hb : (decide (1 ≤ n) && decide (n ≤ 256)) = true := by
    rw [Bool.and_eq_true, decide_eq_true_iff, decide_eq_true_iff]; exact hn
  have HMB := hide (mayBe_ok n w)
  rw [hb] at HMB
  have E1 : Hid (symOut ps n = symI n ps 0 []) := hide (by unfold symOut; rw [if_neg (by omega)])
  clear hb
  go_enter Try.func19, Try.ntmps19
  go_wp2_with fail
  refine (unhide HMB).mono ?_
  rintro e w1 ⟨rfl, rfl⟩
  go_wp2_with fail
  refine (unhide HWI).mono ?_
  rintro e w2 ⟨r, q, rfl, hr, rfl⟩
  by_cases hin : ∀ p ∈ ps, 0 ≤ p ∧ p < n
  case neg =>
    obtain rfl : r = false := by cases r; rfl; exact absurd (hr.1 rfl) hin
    have E2 := hide (symI_bad n ps 0 [] hin)
    clear hr hin
    go_wp2_with fail
    go_ret2
    rw [unhide E1, unhide E2]
    exact ⟨_, rfl, St.none _ _ (drewN_below (Below.refl _ _) q)⟩
  obtain rfl : r = true := hr.2 hin
  have HIN := hide hin
  have HS0 : Hid (St w1 (w1.drewN q) (.slice none 0 0) []) := hide (St.none _ _ (drewN_below (Below.refl _ _) q))
  clear hr hin HMB HWI
  go_wp2_with fail
  go_loopg [6, 7, 21] N (fun gk o nv d ws => ∃ (i run : Nat) (out : List Int), gk = N - i ∧ i ≤ N ∧ run ≤ i ∧ nv = .int .i64 (run : Int) ∧ d = .int .i64 (i : Int) ∧ Hid (St w1 ws o (out.map iv)) ∧ Hid (symI n (ps.drop i) run out = symOut ps n) ∧ Hid (out.length + run ≤ i))
  case atStart => exact ⟨0, 0, [], by omega, by omega, by omega, rfl, rfl, HS0, hide (unhide E1).symm, hide (by simp)⟩
  case round =>
    clear HS0
    obtain ⟨i, run, out, rfl, hi, hrun, rfl, rfl, HS, HX, HL⟩ := hrel
    rename World => wi
    by_cases hlt : i < N
    · have tl : (i : Int) < (N : Int) := by omega
      have hil : i < ps.length := by rw [← unhide HN]; exact hlt
      obtain ⟨g, off, rfl, c1⟩ := unhide HC i hil
      have c1 : wi.cell? ⟨g, off + i, none⟩ = some (.int .i64 (ps.getD i 0)) := by rw [(unhide HS).bel.cell (cell_lt c1)]; exact c1
      have hmem : ps.getD i 0 ∈ ps := by
        rw [List.getD_eq_getElem?_getD, List.getElem?_eq_getElem hil]
        exact List.getElem_mem hil
      have hp := unhide HIN _ hmem
      have hX := unhide HX
      rw [dropI_cons hil, symI, if_neg (by omega)] at hX
      generalize ps.getD i 0 = x at *
      by_cases h0 : x = 0
      · rw [if_pos h0] at hX
        have f1 : (x == 0) = true := by rw [beq_iff_eq]; exact h0
        have HX2 := hide hX
        clear hX h0 hmem
        go_wp2_with fail
        go_roundg (N - (i + 1))
        case measure => omega
        case rel => exact ⟨i + 1, run + 1, out, rfl, by omega, by omega, by go_num, by go_num, HS, HX2, hide (by have := unhide HL; omega)⟩
      · rw [if_neg h0] at hX
        have f1 : (x == 0) = false := by rw [beq_eq_false_iff_ne]; exact h0
        have HX2 := hide hX
        have hll := unhide HL
        have fw : IntKind.i64.wrap (x + 1) = x + 1 := by rw [IntKind.wrap_i64]; omega
        have HLD := hide (digitsI_len run)
        clear hX hmem
        go_wp2_with fail
        refine (noughts_ok w1 wi _ _ run (unhide HS) (by omega) (by rw [List.length_map]; omega)).mono ?_
        rintro e w3 ⟨v3, rfl, h3⟩
        have H3 := hide h3
        clear h3
        go_wp2_with (at_builtin; refine wp_one rfl _ _ rfl _ _ (x + 1) (by rfl) (by rfl) (unhide H3) (by have := unhide HLD; simp; omega) ?_; intro v4 w4 h4; have H4 := hide h4; clear h4)
        go_roundg (N - (i + 1))
        case measure => omega
        case rel => exact ⟨i + 1, 0, out ++ digitsI run ++ [x + 1], rfl, by omega, by omega, rfl, by go_num, hide (by rw [List.map_append, List.map_append]; exact unhide H4), HX2, hide (by have := unhide HLD; simp; omega)⟩
    · obtain rfl : N = i := by omega
      have tl : ¬ (N : Int) < (N : Int) := by omega
      have hX := unhide HX
      rw [unhide HN, List.drop_length, symI] at hX
      have HX2 := hide hX
      have hll := unhide HL
      have fw : IntKind.i64.wrap (n + 1) = n + 1 := by rw [IntKind.wrap_i64]; omega
      have HLD := hide (digitsI_len run)
      clear hX
      go_wp2_with fail
      refine (noughts_ok w1 wi _ _ run (unhide HS) (by omega) (by rw [List.length_map]; omega)).mono ?_
      rintro e w3 ⟨v3, rfl, h3⟩
      have H3 := hide h3
      clear h3
      go_wp2_with (at_builtin; refine wp_one rfl _ _ rfl _ _ (n + 1) (by rfl) (by rfl) (unhide H3) (by have := unhide HLD; simp; omega) ?_; intro v4 w4 h4; have H4 := hide h4; clear h4)
      go_ret2
      rw [← unhide HX2]
      exact ⟨_, rfl, by rw [List.map_append, List.map_append]; exact unhide H4⟩
end Go.Proofs.Ytgafabhhalhccaa
