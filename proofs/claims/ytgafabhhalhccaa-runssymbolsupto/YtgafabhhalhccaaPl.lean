/- Places: symbols are read. -/
import Derived.Test.YtgafabhhalhccaaSy
namespace Go.Proofs.Ytgafabhhalhccaa
open Go.RowKit Runs
set_option maxRecDepth 100000
set_option linter.unusedVariables false
attribute [local go_sem ↓] Go.wp_at_zero Go.wp_at_succ

/-- symbols, one by one: the run so far, its symbols, what has come out -/
def plcI (n most : Int) : List Int → Nat → Nat → List Int → List Int × Nat
  | [], run, k, out => if most - (out.length : Int) < (run : Int) then ([], 3) else ([], 10)
  | s :: r, run, k, out =>
    if s = 0 ∨ s = 1 then (if k = 20 then ([], 11) else plcI n most r (run + (s.toNat + 1) * 2 ^ k) (k + 1) out)
    else if most - (out.length : Int) < (run : Int) then ([], 3)
    else if s < 0 ∨ n + 1 < s then ([], 11)
    else if s = n + 1 then (if r = [] then (out ++ List.replicate run 0, 0) else ([], 15))
    else if ((out.length + run : Nat) : Int) = most then ([], 3)
    else plcI n most r 0 0 (out ++ List.replicate run 0 ++ [s - 1])

def placesOut (ss : List Int) (n most : Int) : List Int × Nat := if n < 1 ∨ 256 < n ∨ most < 0 then ([], 2) else plcI n most ss 0 0 []

theorem plcI_plc (n most : Int) : ∀ (ss : List Int) (run k : Nat) (out : List Nat), plcI n most ss run k (out.map fun d : Nat => (d : Int)) = ((plc n most ss run k out).1.map (fun d : Nat => (d : Int)), (plc n most ss run k out).2)
  | [], run, k, out => by
    rw [plcI, plc, List.length_map]
    split <;> rfl
  | s :: r, run, k, out => by
    rw [plcI, plc, List.length_map]
    by_cases h1 : s = 0 ∨ s = 1
    · rw [if_pos h1, if_pos h1]
      by_cases h2 : k = 20
      · rw [if_pos h2, if_pos h2]; rfl
      · rw [if_neg h2, if_neg h2, plcI_plc n most r]
    · rw [if_neg h1, if_neg h1]
      by_cases h2 : most - (out.length : Int) < (run : Int)
      · rw [if_pos h2, if_pos h2]; rfl
      · rw [if_neg h2, if_neg h2]
        by_cases h3 : s < 0 ∨ n + 1 < s
        · rw [if_pos h3, if_pos h3]; rfl
        · rw [if_neg h3, if_neg h3]
          by_cases h4 : s = n + 1
          · rw [if_pos h4, if_pos h4]
            by_cases h5 : r = []
            · rw [if_pos h5, if_pos h5]; simp
            · rw [if_neg h5, if_neg h5]; rfl
          · rw [if_neg h4, if_neg h4]
            by_cases h5 : ((out.length + run : Nat) : Int) = most
            · rw [if_pos h5, if_pos h5]; rfl
            · rw [if_neg h5, if_neg h5, ← plcI_plc n most r]
              congr 1
              simp
              omega

theorem shift_ok (s : Int) (k : Nat) (hs : s = 0 ∨ s = 1) (hk : k < 20) : (s + 1) * 2 ^ k = (((s.toNat + 1) * 2 ^ k : Nat) : Int) ∧ (s.toNat + 1) * 2 ^ k ≤ 1048576 := by
  have h1 : 2 ^ k ≤ 2 ^ 19 := Nat.pow_le_pow_right (by omega) (by omega)
  rcases hs with rfl | rfl
  · simp; omega
  · simp; omega

set_option maxHeartbeats 8000000 in
theorem places_ok (ss : List Int) (a0 : Option Addr) (cap : Nat) (n most : Int) (w : World) (hc : IntsIn w a0 ss) (hN : ss.length ≤ 1048576) (hm2 : most ≤ 9223372036854775807) (hm1 : -9223372036854775808 ≤ most) :
    Calls Try.prog 22 #[.slice a0 ss.length cap, .int .i64 n, .int .i64 most] w fun e w' => ToldI w (placesOut ss n most) e w' := by
  have HC := hide hc
  obtain ⟨N, hNN⟩ : ∃ N, N = ss.length := ⟨_, rfl⟩
  have HN := hide hNN
  rw [← hNN] at hN ⊢
  clear hNN hc
  by_cases hbad : n < 1 ∨ 256 < n ∨ most < 0
  · have e1 : placesOut ss n most = ([], 2) := by unfold placesOut; rw [if_pos hbad]
    rw [e1]
    by_cases h1 : n < 1
    · have d1 : decide (n < 1) = true := decide_eq_true h1
      go_enter Try.func22, Try.ntmps22
      go_wp2_with fail
      go_ret2
      exact ⟨_, rfl, St.nil w⟩
    · have d1 : decide (n < 1) = false := decide_eq_false h1
      by_cases h2 : 256 < n
      · have d2 : decide (256 < n) = true := decide_eq_true h2
        go_enter Try.func22, Try.ntmps22
        go_wp2_with fail
        go_ret2
        exact ⟨_, rfl, St.nil w⟩
      · have d2 : decide (256 < n) = false := decide_eq_false h2
        have h3 : most < 0 := by omega
        have d3 : decide (most < 0) = true := decide_eq_true h3
        go_enter Try.func22, Try.ntmps22
        go_wp2_with fail
        go_ret2
        exact ⟨_, rfl, St.nil w⟩
  · have d1 : decide (n < 1) = false := decide_eq_false (by omega)
    have d2 : decide (256 < n) = false := decide_eq_false (by omega)
    have d3 : decide (most < 0) = false := decide_eq_false (by omega)
    have d4 : ¬ n < 1 := by omega
    have d5 : ¬ 256 < n := by omega
    have d6 : ¬ most < 0 := by omega
    have HU : Hid (placesOut ss n most = plcI n most ss 0 0 []) := hide (by unfold placesOut; rw [if_neg hbad])
    clear hbad
    go_enter Try.func22, Try.ntmps22
    go_wp2_with fail
    go_loopg [8, 9] (N + 1) (fun gk o av ws => ∃ (at_ : Nat) (out : List Int), gk = N + 1 - at_ ∧ at_ ≤ N ∧ av = .int .i64 (at_ : Int) ∧ Hid (St w ws o (out.map iv)) ∧ Hid (plcI n most (ss.drop at_) 0 0 out = plcI n most ss 0 0 []) ∧ Hid (out.length ≤ 1048576 * at_ ∧ (out.length : Int) ≤ most))
    case atStart => exact ⟨0, [], by omega, by omega, rfl, hide (St.nil w), hide rfl, hide ⟨by simp, by simp; omega⟩⟩
    case round =>
      obtain ⟨at_, out, rfl, hat, rfl, HS, HX, HO⟩ := hrel
      rename World => wo
      obtain ⟨hol, hom⟩ := unhide HO
      obtain ⟨oa, oc, rfl⟩ := (unhide HS).len
      rw [List.length_map] at HS ⊢
      have fw0 : IntKind.i64.wrap (most - (out.length : Int)) = most - (out.length : Int) := by rw [IntKind.wrap_i64]; omega
      go_wp2_with fail
      go_loopg [9, 10, 11] (N - at_) (fun gk av rv kv ws => ∃ (a run k : Nat), gk = N - a ∧ at_ ≤ a ∧ a ≤ N ∧ k ≤ 20 ∧ av = .int .i64 (a : Int) ∧ rv = .int .i64 (run : Int) ∧ kv = .int .i64 (k : Int) ∧ Hid (plcI n most (ss.drop a) run k out = plcI n most ss 0 0 []) ∧ Hid (out.length + run ≤ 1048576 * a ∧ run ≤ 1048576 * k) ∧ ws = wo)
      case atStart => exact ⟨at_, 0, 0, rfl, by omega, by omega, by omega, rfl, rfl, rfl, HX, hide ⟨by omega, by omega⟩, rfl⟩
      case round =>
        obtain ⟨a, run, k, rfl, haa, haN, hk20, rfl, rfl, rfl, HX1, HR, rfl⟩ := hrel
        obtain ⟨hr1, hr2⟩ := unhide HR
        by_cases hlt : a < N
        · have tlt : (a : Int) < (N : Int) := by omega
          have hib : a < ss.length := by rw [← unhide HN]; exact hlt
          have hX := unhide HX1
          rw [dropI_cons hib, plcI] at hX
          obtain ⟨g, off, rfl, c1⟩ := unhide HC a hib
          have c2 : wr.cell? ⟨g, off + a, none⟩ = some (.int .i64 (ss.getD a 0)) := by rw [(unhide HS).bel.cell (cell_lt c1)]; exact c1
          obtain ⟨s, hs⟩ : ∃ s, s = ss.getD a 0 := ⟨_, rfl⟩
          rw [← hs] at hX c2 c1
          clear hs
          by_cases hdig : s = 0 ∨ s = 1
          · rw [if_pos hdig] at hX
            by_cases hk : k = 20
            · rw [if_pos hk] at hX
              subst hk
              rcases hdig with rfl | rfl
              · go_wp2_with fail
                go_ret2
                rw [unhide HU, ← hX]
                exact ⟨_, rfl, St.none w _ (unhide HS).bel⟩
              · go_wp2_with fail
                go_ret2
                rw [unhide HU, ← hX]
                exact ⟨_, rfl, St.none w _ (unhide HS).bel⟩
            · rw [if_neg hk] at hX
              have f20 : ((k : Int) == 20) = false := by rw [beq_eq_false_iff_ne]; omega
              have f20' : ¬ (k : Int) = 20 := by omega
              obtain ⟨hsh, hsb⟩ := shift_ok s k hdig (by omega)
              have HX2 := hide hX
              clear hX
              rcases hdig with rfl | rfl
              · go_wp2_with fail
                go_roundg (N - (a + 1))
                case measure => omega
                case rel => exact ⟨a + 1, run + ((0 : Int).toNat + 1) * 2 ^ k, k + 1, rfl, by omega, by omega, by omega, by go_num, by first | (simp; done) | (simp; omega) | go_num, by go_num, HX2, hide ⟨by simp at hsb ⊢; omega, by simp at hsb ⊢; omega⟩, rfl⟩
              · go_wp2_with fail
                go_roundg (N - (a + 1))
                case measure => omega
                case rel => exact ⟨a + 1, run + ((1 : Int).toNat + 1) * 2 ^ k, k + 1, rfl, by omega, by omega, by omega, by go_num, by first | (simp; done) | (simp; omega) | go_num, by go_num, HX2, hide ⟨by simp at hsb ⊢; omega, by simp at hsb ⊢; omega⟩, rfl⟩
          · rw [if_neg hdig] at hX
            have fd0 : (s == 0) = false := by rw [beq_eq_false_iff_ne]; omega
            have fd1 : (s == 1) = false := by rw [beq_eq_false_iff_ne]; omega
            have fd0' : ¬ s = 0 := by omega
            have fd1' : ¬ s = 1 := by omega
            clear hdig
            by_cases hbg : most - (out.length : Int) < (run : Int)
            · rw [if_pos hbg] at hX
              have hbd : decide (most - (out.length : Int) < (run : Int)) = true := decide_eq_true hbg
              go_wp2_with fail
              go_ret2
              rw [unhide HU, ← hX]
              exact ⟨_, rfl, St.none w _ (unhide HS).bel⟩
            · rw [if_neg hbg] at hX
              have hbd : decide (most - (out.length : Int) < (run : Int)) = false := decide_eq_false hbg
              have HX2 := hide hX
              have HS1 : Hid (St w wr (.slice oa out.length oc) ((out ++ List.replicate 0 0).map iv)) := hide (by simpa using unhide HS)
              clear hX
              go_wp2_with fail
              go_loopg [8, 12] run (fun gk o jv ws => ∃ j : Nat, gk = run - j ∧ j ≤ run ∧ jv = .int .i64 (j : Int) ∧ Hid (St w ws o ((out ++ List.replicate j 0).map iv)))
              case atStart => exact ⟨0, by omega, by omega, rfl, HS1⟩
              case round =>
                clear HS1
                obtain ⟨j, rfl, hjr, rfl, HI⟩ := hrel
                rename World => wj
                by_cases hj : j < run
                · have tj : (j : Int) < (run : Int) := by omega
                  go_wp2_with (at_builtin; refine wp_one rfl _ _ rfl _ _ 0 (by rfl) (by rfl) (unhide HI) (by rw [List.length_map, List.length_append, List.length_replicate]; omega) ?_; intro v3 w3 h3; have H3 := hide h3; clear h3)
                  go_roundg (run - (j + 1))
                  case measure => omega
                  case rel => exact ⟨j + 1, rfl, by omega, by go_num, hide (by rw [List.replicate_succ', ← List.append_assoc, List.map_append]; exact unhide H3)⟩
                · obtain rfl : j = run := by omega
                  have tj : ¬ (j : Int) < (j : Int) := by omega
                  have hrun := hbg
                  have faN : ((a : Int) == (N : Int)) = false := by rw [beq_eq_false_iff_ne]; omega
                  have faN' : ¬ (a : Int) = (N : Int) := by omega
                  have c3 : wj.cell? ⟨g, off + a, none⟩ = some (.int .i64 s) := by rw [(unhide HI).bel.cell (cell_lt c1)]; exact c1
                  obtain ⟨oa2, oc2, rfl⟩ := (unhide HI).len
                  rw [List.length_map, List.length_append, List.length_replicate] at HI ⊢
                  have fn1 : IntKind.i64.wrap (n + 1) = n + 1 := by rw [IntKind.wrap_i64]; omega
                  have hX := unhide HX2
                  clear HX2
                  by_cases hs0 : s < 0
                  · have fs0 : decide (s < 0) = true := decide_eq_true hs0
                    rw [if_pos (.inl hs0)] at hX
                    go_wp2_with fail
                    go_ret2
                    rw [unhide HU, ← hX]
                    exact ⟨_, rfl, St.none w _ (unhide HI).bel⟩
                  · have fs0 : decide (s < 0) = false := decide_eq_false hs0
                    by_cases hs1 : n + 1 < s
                    · have fs1 : decide (n + 1 < s) = true := decide_eq_true hs1
                      rw [if_pos (.inr hs1)] at hX
                      go_wp2_with fail
                      go_ret2
                      rw [unhide HU, ← hX]
                      exact ⟨_, rfl, St.none w _ (unhide HI).bel⟩
                    · have fs1 : decide (n + 1 < s) = false := decide_eq_false hs1
                      rw [if_neg (by omega)] at hX
                      by_cases hs2 : s = n + 1
                      · have fs2 : (s == n + 1) = true := by rw [beq_iff_eq]; exact hs2
                        rw [if_pos hs2] at hX
                        by_cases hend : a + 1 = N
                        · have fe : ¬ (a : Int) + 1 < (N : Int) := by omega
                          rw [if_pos (by apply List.eq_nil_of_length_eq_zero; rw [List.length_drop, ← unhide HN]; omega)] at hX
                          go_wp2_with fail
                          go_ret2
                          rw [unhide HU, ← hX]
                          exact ⟨_, rfl, unhide HI⟩
                        · have fe : (a : Int) + 1 < (N : Int) := by omega
                          rw [if_neg (by intro e; have := congrArg List.length e; rw [List.length_drop, ← unhide HN] at this; simp at this; omega)] at hX
                          go_wp2_with fail
                          go_ret2
                          rw [unhide HU, ← hX]
                          exact ⟨_, rfl, St.none w _ (unhide HI).bel⟩
                      · have fs2 : (s == n + 1) = false := by rw [beq_eq_false_iff_ne]; exact hs2
                        rw [if_neg hs2] at hX
                        by_cases hfull : ((out.length + j : Nat) : Int) = most
                        · have ff : (((out.length + j : Nat) : Int) == most) = true := by rw [beq_iff_eq]; exact hfull
                          have ff2 : ((out.length : Int) + (j : Int) == most) = true := by rw [beq_iff_eq]; omega
                          have ff3 : (out.length : Int) + (j : Int) = most := by omega
                          rw [if_pos hfull] at hX
                          clear hfull
                          go_wp2_with fail
                          go_ret2
                          rw [unhide HU, ← hX]
                          exact ⟨_, rfl, St.none w _ (unhide HI).bel⟩
                        · have ff : (((out.length + j : Nat) : Int) == most) = false := by rw [beq_eq_false_iff_ne]; exact hfull
                          have ff2 : ((out.length : Int) + (j : Int) == most) = false := by rw [beq_eq_false_iff_ne]; omega
                          have ff3 : ¬ (out.length : Int) + (j : Int) = most := by omega
                          have fw9 : IntKind.i64.wrap (s - 1) = s - 1 := by rw [IntKind.wrap_i64]; omega
                          rw [if_neg hfull] at hX
                          have HX3 := hide hX
                          clear hX hfull
                          go_wp2_with (at_builtin; refine wp_one rfl _ _ rfl _ _ (s - 1) (by rfl) (by rfl) (unhide HI) (by rw [List.length_map, List.length_append, List.length_replicate]; omega) ?_; intro v3 w3 h3; have H3 := hide h3; clear h3)
                          go_roundg (N + 1 - (a + 1))
                          case measure => omega
                          case rel => exact ⟨a + 1, out ++ List.replicate j 0 ++ [s - 1], rfl, by omega, by go_num, hide (by rw [List.map_append (l₂ := [s - 1])]; exact unhide H3), HX3, hide ⟨by simp; omega, by simp; omega⟩⟩
        · obtain rfl : a = N := by omega
          have tlt : ¬ (a : Int) < (a : Int) := by omega
          have hX := unhide HX1
          rw [unhide HN, List.drop_length, plcI] at hX
          by_cases hbg : most - (out.length : Int) < (run : Int)
          · rw [if_pos hbg] at hX
            have hbd : decide (most - (out.length : Int) < (run : Int)) = true := decide_eq_true hbg
            go_wp2_with fail
            go_ret2
            rw [unhide HU, ← hX]
            exact ⟨_, rfl, St.none w _ (unhide HS).bel⟩
          · rw [if_neg hbg] at hX
            have hbd : decide (most - (out.length : Int) < (run : Int)) = false := decide_eq_false hbg
            have HX2 := hide hX
            have HS1 : Hid (St w wr (.slice oa out.length oc) ((out ++ List.replicate 0 0).map iv)) := hide (by simpa using unhide HS)
            clear hX
            go_wp2_with fail
            go_loopg [8, 12] run (fun gk o jv ws => ∃ j : Nat, gk = run - j ∧ j ≤ run ∧ jv = .int .i64 (j : Int) ∧ Hid (St w ws o ((out ++ List.replicate j 0).map iv)))
            case atStart => exact ⟨0, by omega, by omega, rfl, HS1⟩
            case round =>
              clear HS1
              obtain ⟨j, rfl, hjr, rfl, HI⟩ := hrel
              rename World => wj
              by_cases hj : j < run
              · have tj : (j : Int) < (run : Int) := by omega
                go_wp2_with (at_builtin; refine wp_one rfl _ _ rfl _ _ 0 (by rfl) (by rfl) (unhide HI) (by rw [List.length_map, List.length_append, List.length_replicate]; omega) ?_; intro v3 w3 h3; have H3 := hide h3; clear h3)
                go_roundg (run - (j + 1))
                case measure => omega
                case rel => exact ⟨j + 1, rfl, by omega, by go_num, hide (by rw [List.replicate_succ', ← List.append_assoc, List.map_append]; exact unhide H3)⟩
              · obtain rfl : j = run := by omega
                have tj : ¬ (j : Int) < (j : Int) := by omega
                have hrun := hbg
                have hX := unhide HX2
                clear HX2
                go_wp2_with fail
                go_ret2
                rw [unhide HU, ← hX]
                exact ⟨_, rfl, St.none w _ (unhide HI).bel⟩
end Go.Proofs.Ytgafabhhalhccaa
