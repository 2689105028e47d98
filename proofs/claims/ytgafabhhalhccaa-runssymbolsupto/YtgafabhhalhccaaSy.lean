/- Symbols: runs of places 0 by the symbols 0 and 1. -/
import Derived.Test.YtgafabhhalhccaaUn
namespace Go.Proofs.Ytgafabhhalhccaa
open Go.RowKit Runs
set_option maxRecDepth 100000
set_option linter.unusedVariables false
attribute [local go_sem ↓] Go.wp_at_zero Go.wp_at_succ

def digitsI (k : Nat) : List Int := (digits k).map fun d : Nat => (d : Int)

theorem digitsI_zero : digitsI 0 = [] := by simp [digitsI, digits]
theorem digitsI_odd (k : Nat) : digitsI (2 * k + 1) = 0 :: digitsI k := by
  unfold digitsI
  rw [digits, show 2 * k % 2 = 0 by omega, show 2 * k / 2 = k by omega]
  rfl
theorem digitsI_even (k : Nat) : digitsI (2 * k + 2) = 1 :: digitsI k := by
  unfold digitsI
  rw [show 2 * k + 2 = (2 * k + 1) + 1 by omega, digits, show (2 * k + 1) % 2 = 1 by omega, show (2 * k + 1) / 2 = k by omega]
  rfl
theorem digitsI_len : ∀ k, (digitsI k).length ≤ k := by
  intro k
  induction k using Nat.strongRecOn with
  | ind k ih =>
    cases k with
    | zero => simp [digitsI_zero]
    | succ k =>
      unfold digitsI
      rw [digits]
      have := ih (k / 2) (by omega)
      unfold digitsI at this
      simp at this ⊢
      omega

/-- places, one by one: the run so far, what has come out -/
def symI (n : Int) : List Int → Nat → List Int → List Int × Nat
  | [], run, out => (out ++ digitsI run ++ [n + 1], 0)
  | p :: r, run, out => if p < 0 ∨ n ≤ p then ([], 2) else if p = 0 then symI n r (run + 1) out else symI n r 0 (out ++ digitsI run ++ [p + 1])

def symOut (ps : List Int) (n : Int) : List Int × Nat := if n < 1 ∨ 256 < n then ([], 2) else symI n ps 0 []

theorem symI_sym (n : Nat) : ∀ (ps : List Nat) (run : Nat) (out : List Int), (∀ p ∈ ps, p < n) → symI n (ps.map fun p : Nat => (p : Int)) run out = (out ++ (symG n ps run).map (fun d : Nat => (d : Int)), 0)
  | [], run, out, _ => by simp [symI, symG, digitsI]
  | p :: r, run, out, h => by
    have hp := h p (List.mem_cons_self ..)
    rw [List.map_cons, symI, if_neg (by omega), symG]
    by_cases e : p = 0
    · rw [if_pos (by omega), if_pos e, symI_sym n r (run + 1) out fun x hx => h x (List.mem_cons_of_mem _ hx)]
    · rw [if_neg (by omega), if_neg e, symI_sym n r 0 _ fun x hx => h x (List.mem_cons_of_mem _ hx)]
      simp [digitsI]

def IntsIn (w : World) (a0 : Option Addr) (l : List Int) : Prop := ∀ j, j < l.length → ∃ g off, a0 = some ⟨g, off, none⟩ ∧ w.cell? ⟨g, off + j, none⟩ = some (.int .i64 (l.getD j 0))

theorem dropI_cons {b : List Int} {i : Nat} (h : i < b.length) : b.drop i = b.getD i 0 :: b.drop (i + 1) := by
  rw [List.drop_eq_getElem_cons h, List.getD_eq_getElem?_getD, List.getElem?_eq_getElem h]
  rfl

def ToldI (w : World) (out : List Int × Nat) (e : Ending) (w' : World) : Prop := ∃ v, e = .returned (.tuple #[v, .int .i64 (out.2 : Int)]) ∧ St w w' v (out.1.map iv)

theorem St.none (w w' : World) (h : Below w.heap.size w w') : St w w' (.slice none 0 0) [] := ⟨World.ownsRow_nil _ _ _ _, h⟩

set_option maxHeartbeats 8000000 in
theorem symbols_ok (ps : List Int) (a0 : Option Addr) (cap : Nat) (n : Int) (w : World) (hc : IntsIn w a0 ps) (hN : ps.length ≤ 1048576) :
    Calls Try.prog 20 #[.slice a0 ps.length cap, .int .i64 n] w fun e w' => ToldI w (symOut ps n) e w' := by
  have HC := hide hc
  obtain ⟨N, hNN⟩ : ∃ N, N = ps.length := ⟨_, rfl⟩
  have HN := hide hNN
  rw [← hNN] at hN ⊢
  clear hNN hc
  by_cases hn1 : n < 1
  · have e1 : symOut ps n = ([], 2) := by unfold symOut; rw [if_pos (.inl hn1)]
    have d1 : decide (n < 1) = true := decide_eq_true hn1
    rw [e1]
    go_enter Try.func20, Try.ntmps20
    go_wp2_with fail
    go_ret2
    exact ⟨_, rfl, St.nil w⟩
  · have d1 : decide (n < 1) = false := decide_eq_false hn1
    by_cases hn2 : 256 < n
    · have e1 : symOut ps n = ([], 2) := by unfold symOut; rw [if_pos (.inr hn2)]
      have d2 : decide (256 < n) = true := decide_eq_true hn2
      rw [e1]
      go_enter Try.func20, Try.ntmps20
      go_wp2_with fail
      go_ret2
      exact ⟨_, rfl, St.nil w⟩
    · have d2 : decide (256 < n) = false := decide_eq_false hn2
      have HU : Hid (symOut ps n = symI n ps 0 []) := hide (by unfold symOut; rw [if_neg (by omega)])
      go_enter Try.func20, Try.ntmps20
      go_wp2_with fail
      go_loopg [6, 7, 8] (N + 1) (fun gk o rv iv' ws => ∃ (i run : Nat) (out : List Int), gk = N + 1 - i ∧ i ≤ N + 1 ∧ rv = .int .i64 (run : Int) ∧ iv' = .int .i64 (i : Int) ∧ Hid (St w ws o (out.map iv)) ∧ Hid ((i ≤ N ∧ symI n (ps.drop i) run out = symI n ps 0 []) ∨ (i = N + 1 ∧ (out ++ [n + 1], 0) = symI n ps 0 [])) ∧ Hid (out.length + run ≤ 2 * i))
      case atStart => exact ⟨0, 0, [], by omega, by omega, rfl, rfl, hide (St.nil w), hide (.inl ⟨by omega, rfl⟩), hide (by simp)⟩
      case round =>
        obtain ⟨i, run, out, rfl, hi1, rfl, rfl, HS, HX, HO⟩ := hrel
        rename World => wi
        by_cases hle : i ≤ N
        · have tl : (i : Int) ≤ (N : Int) := by omega
          have hX : symI n (ps.drop i) run out = symI n ps 0 [] := by
            rcases unhide HX with h | h
            · exact h.2
            · omega
          have hob := unhide HO
          by_cases hlt : i < N
          · have tlt : (i : Int) < (N : Int) := by omega
            have hib : i < ps.length := by rw [← unhide HN]; exact hlt
            obtain ⟨g, off, rfl, c1⟩ := unhide HC i hib
            have c2 : wi.cell? ⟨g, off + i, none⟩ = some (.int .i64 (ps.getD i 0)) := by rw [(unhide HS).bel.cell (cell_lt c1)]; exact c1
            rw [dropI_cons hib, symI] at hX
            generalize ps.getD i 0 = p at *
            by_cases hp0 : p < 0
            · have f1 : decide (p < 0) = true := decide_eq_true hp0
              rw [if_pos (.inl hp0)] at hX
              clear c1
              go_wp2_with fail
              go_ret2
              rw [unhide HU, ← hX]
              exact ⟨_, rfl, St.none w wi (unhide HS).bel⟩
            · have f1 : decide (p < 0) = false := decide_eq_false hp0
              by_cases hpn : n ≤ p
              · have f2 : decide (n ≤ p) = true := decide_eq_true hpn
                rw [if_pos (.inr hpn)] at hX
                clear c1
                go_wp2_with fail
                go_ret2
                rw [unhide HU, ← hX]
                exact ⟨_, rfl, St.none w wi (unhide HS).bel⟩
              · have f2 : decide (n ≤ p) = false := decide_eq_false hpn
                rw [if_neg (by omega)] at hX
                by_cases hpz : p = 0
                · rw [if_pos hpz] at hX
                  subst hpz
                  have HX2 := hide hX
                  clear hX c1
                  go_wp2_with fail
                  go_roundg (N + 1 - (i + 1))
                  case measure => omega
                  case rel => exact ⟨i + 1, run + 1, out, rfl, by omega, by go_num, by go_num, HS, hide (.inl ⟨by omega, unhide HX2⟩), hide (by omega)⟩
                · rw [if_neg hpz] at hX
                  have f3 : (p == 0) = false := by simp; omega
                  have HX2 := hide hX
                  have HD : Hid (out ++ digitsI run = out ++ digitsI run) := hide rfl
                  clear hX
                  go_wp2_with fail
                  go_loopg [6, 7] run (fun gk o rv ws => ∃ (r : Nat) (o2 : List Int), gk = r ∧ rv = .int .i64 (r : Int) ∧ Hid (St w ws o (o2.map iv)) ∧ Hid (o2 ++ digitsI r = out ++ digitsI run) ∧ Hid (r ≤ run))
                  case atStart => exact ⟨run, out, rfl, rfl, HS, hide rfl, hide (Nat.le_refl _)⟩
                  case round =>
                    obtain ⟨r, o2, rfl, rfl, HI, HE, HRR⟩ := hrel
                    rename World => wr
                    have hlen : o2.length ≤ 4200000 := by
                      have h1 := congrArg List.length (unhide HE)
                      have h2 := digitsI_len run
                      rw [List.length_append, List.length_append] at h1
                      omega
                    have hrr := unhide HRR
                    by_cases h0 : gk = 0
                    · subst h0
                      have hE := unhide HE
                      rw [digitsI_zero, List.append_nil] at hE
                      have d3 : wr.cell? ⟨g, off + i, none⟩ = some (.int .i64 p) := by rw [(unhide HI).bel.cell (cell_lt c1)]; exact c1
                      have fw : IntKind.i64.wrap (p + 1) = p + 1 := by rw [IntKind.wrap_i64]; omega
                      have HE2 := hide hE
                      clear hE
                      go_wp2_with (at_builtin; refine wp_one rfl _ _ rfl _ _ (p + 1) (by rfl) (by rfl) (unhide HI) (by rw [List.length_map]; omega) ?_; intro v3 w3 h3; have H3 := hide h3; clear h3)
                      go_roundg (N + 1 - (i + 1))
                      case measure => omega
                      case rel => exact ⟨i + 1, 0, out ++ digitsI run ++ [p + 1], rfl, by omega, rfl, by go_num, hide (by rw [← unhide HE2, List.map_append]; exact unhide H3), hide (.inl ⟨by omega, unhide HX2⟩), hide (by have h2 := digitsI_len run; simp; omega)⟩
                    · by_cases hodd : gk % 2 = 1
                      · obtain ⟨k, rfl⟩ : ∃ k, gk = 2 * k + 1 := ⟨(gk - 1) / 2, by omega⟩
                        have hE := unhide HE
                        rw [digitsI_odd] at hE
                        have HE2 := hide hE
                        clear hE
                        obtain ⟨r, hr⟩ : ∃ r, r = 2 * k + 1 := ⟨_, rfl⟩
                        have g0 : (0 : Int) < (r : Int) := by omega
                        have g1 : (r : Int).tmod 2 = 1 := by rw [show (r : Int).tmod 2 = ((r % 2 : Nat) : Int) from rfl]; omega
                        have g2 : IntKind.i64.wrap ((r : Int) - 1) = (r : Int) - 1 := by rw [IntKind.wrap_i64]; omega
                        have g3 : ((r : Int) - 1).tdiv 2 = (k : Int) := by
                          rw [show (r : Int) - 1 = ((2 * k : Nat) : Int) by omega, show ((2 * k : Nat) : Int).tdiv 2 = ((2 * k / 2 : Nat) : Int) from rfl]
                          omega
                        have hkr : k < r := by omega
                        rw [← hr] at hrr ⊢
                        clear hr
                        go_wp2_with (at_builtin; refine wp_one rfl _ _ rfl _ _ 0 (by rfl) (by rfl) (unhide HI) (by rw [List.length_map]; omega) ?_; intro v3 w3 h3; have H3 := hide h3; clear h3)
                        go_roundg k
                        case measure => omega
                        case rel => exact ⟨k, o2 ++ [0], rfl, rfl, hide (by rw [List.map_append]; exact unhide H3), hide (by rw [List.append_assoc]; exact unhide HE2), hide (by omega)⟩
                      · obtain ⟨k, rfl⟩ : ∃ k, gk = 2 * k + 2 := ⟨(gk - 1) / 2, by omega⟩
                        have hE := unhide HE
                        rw [digitsI_even] at hE
                        have HE2 := hide hE
                        clear hE
                        obtain ⟨r, hr⟩ : ∃ r, r = 2 * k + 2 := ⟨_, rfl⟩
                        have g0 : (0 : Int) < (r : Int) := by omega
                        have g1 : (r : Int).tmod 2 = 0 := by rw [show (r : Int).tmod 2 = ((r % 2 : Nat) : Int) from rfl]; omega
                        have g2 : IntKind.i64.wrap ((r : Int) - 2) = (r : Int) - 2 := by rw [IntKind.wrap_i64]; omega
                        have g3 : ((r : Int) - 2).tdiv 2 = (k : Int) := by
                          rw [show (r : Int) - 2 = ((2 * k : Nat) : Int) by omega, show ((2 * k : Nat) : Int).tdiv 2 = ((2 * k / 2 : Nat) : Int) from rfl]
                          omega
                        have hkr : k < r := by omega
                        rw [← hr] at hrr ⊢
                        clear hr
                        go_wp2_with (at_builtin; refine wp_one rfl _ _ rfl _ _ 1 (by rfl) (by rfl) (unhide HI) (by rw [List.length_map]; omega) ?_; intro v3 w3 h3; have H3 := hide h3; clear h3)
                        go_roundg k
                        case measure => omega
                        case rel => exact ⟨k, o2 ++ [1], rfl, rfl, hide (by rw [List.map_append]; exact unhide H3), hide (by rw [List.append_assoc]; exact unhide HE2), hide (by omega)⟩
          · obtain rfl : i = N := by omega
            have tlt : ¬ (i : Int) < (i : Int) := by omega
            rw [unhide HN, List.drop_length, symI] at hX
            have HX2 := hide hX
            clear hX
            go_wp2_with fail
            go_loopg [6, 7] run (fun gk o rv ws => ∃ (r : Nat) (o2 : List Int), gk = r ∧ rv = .int .i64 (r : Int) ∧ Hid (St w ws o (o2.map iv)) ∧ Hid (o2 ++ digitsI r = out ++ digitsI run) ∧ Hid (r ≤ run))
            case atStart => exact ⟨run, out, rfl, rfl, HS, hide rfl, hide (Nat.le_refl _)⟩
            case round =>
              obtain ⟨r, o2, rfl, rfl, HI, HE, HRR⟩ := hrel
              rename World => wr
              have hlen : o2.length ≤ 4200000 := by
                have h1 := congrArg List.length (unhide HE)
                have h2 := digitsI_len run
                rw [List.length_append, List.length_append] at h1
                omega
              have hrr := unhide HRR
              by_cases h0 : gk = 0
              · subst h0
                have hE := unhide HE
                rw [digitsI_zero, List.append_nil] at hE
                have HE2 := hide hE
                clear hE
                go_wp2_with fail
                go_roundg (i + 1 - (i + 1))
                case measure => omega
                case rel => exact ⟨i + 1, 0, o2, by omega, by omega, rfl, by go_num, HI, hide (.inr ⟨rfl, by rw [unhide HE2]; exact unhide HX2⟩), hide (by have h1 := congrArg List.length (unhide HE2); have h2 := digitsI_len run; rw [List.length_append] at h1; omega)⟩
              · by_cases hodd : gk % 2 = 1
                · obtain ⟨k, rfl⟩ : ∃ k, gk = 2 * k + 1 := ⟨(gk - 1) / 2, by omega⟩
                  have hE := unhide HE
                  rw [digitsI_odd] at hE
                  have HE2 := hide hE
                  clear hE
                  obtain ⟨r, hr⟩ : ∃ r, r = 2 * k + 1 := ⟨_, rfl⟩
                  have g0 : (0 : Int) < (r : Int) := by omega
                  have g1 : (r : Int).tmod 2 = 1 := by rw [show (r : Int).tmod 2 = ((r % 2 : Nat) : Int) from rfl]; omega
                  have g2 : IntKind.i64.wrap ((r : Int) - 1) = (r : Int) - 1 := by rw [IntKind.wrap_i64]; omega
                  have g3 : ((r : Int) - 1).tdiv 2 = (k : Int) := by
                    rw [show (r : Int) - 1 = ((2 * k : Nat) : Int) by omega, show ((2 * k : Nat) : Int).tdiv 2 = ((2 * k / 2 : Nat) : Int) from rfl]
                    omega
                  have hkr : k < r := by omega
                  rw [← hr] at hrr ⊢
                  clear hr
                  go_wp2_with (at_builtin; refine wp_one rfl _ _ rfl _ _ 0 (by rfl) (by rfl) (unhide HI) (by rw [List.length_map]; omega) ?_; intro v3 w3 h3; have H3 := hide h3; clear h3)
                  go_roundg k
                  case measure => omega
                  case rel => exact ⟨k, o2 ++ [0], rfl, rfl, hide (by rw [List.map_append]; exact unhide H3), hide (by rw [List.append_assoc]; exact unhide HE2), hide (by omega)⟩
                · obtain ⟨k, rfl⟩ : ∃ k, gk = 2 * k + 2 := ⟨(gk - 1) / 2, by omega⟩
                  have hE := unhide HE
                  rw [digitsI_even] at hE
                  have HE2 := hide hE
                  clear hE
                  obtain ⟨r, hr⟩ : ∃ r, r = 2 * k + 2 := ⟨_, rfl⟩
                  have g0 : (0 : Int) < (r : Int) := by omega
                  have g1 : (r : Int).tmod 2 = 0 := by rw [show (r : Int).tmod 2 = ((r % 2 : Nat) : Int) from rfl]; omega
                  have g2 : IntKind.i64.wrap ((r : Int) - 2) = (r : Int) - 2 := by rw [IntKind.wrap_i64]; omega
                  have g3 : ((r : Int) - 2).tdiv 2 = (k : Int) := by
                    rw [show (r : Int) - 2 = ((2 * k : Nat) : Int) by omega, show ((2 * k : Nat) : Int).tdiv 2 = ((2 * k / 2 : Nat) : Int) from rfl]
                    omega
                  have hkr : k < r := by omega
                  rw [← hr] at hrr ⊢
                  clear hr
                  go_wp2_with (at_builtin; refine wp_one rfl _ _ rfl _ _ 1 (by rfl) (by rfl) (unhide HI) (by rw [List.length_map]; omega) ?_; intro v3 w3 h3; have H3 := hide h3; clear h3)
                  go_roundg k
                  case measure => omega
                  case rel => exact ⟨k, o2 ++ [1], rfl, rfl, hide (by rw [List.map_append]; exact unhide H3), hide (by rw [List.append_assoc]; exact unhide HE2), hide (by omega)⟩
        · obtain rfl : i = N + 1 := by omega
          have tl : ¬ (N : Int) + 1 ≤ (N : Int) := by omega
          have hX : (out ++ [n + 1], 0) = symI n ps 0 [] := by
            rcases unhide HX with h | h
            · omega
            · exact h.2
          have hob := unhide HO
          have fw : IntKind.i64.wrap (n + 1) = n + 1 := by rw [IntKind.wrap_i64]; omega
          have HX2 := hide hX
          clear hX
          go_wp2_with (at_builtin; refine wp_one rfl _ _ rfl _ _ (n + 1) (by rfl) (by rfl) (unhide HS) (by rw [List.length_map]; omega) ?_; intro v3 w3 h3; have H3 := hide h3; clear h3)
          go_ret2
          rw [unhide HU, ← unhide HX2]
          exact ⟨_, rfl, by rw [List.map_append]; exact unhide H3⟩
end Go.Proofs.Ytgafabhhalhccaa
