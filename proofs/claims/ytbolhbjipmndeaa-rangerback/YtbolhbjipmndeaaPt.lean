/- isNoChance, ContainsFunc, setEach, Set (the program's). -/
import Derived.Test.YtbolhbjipmndeaaPc
import Derived.Test.YtbolhbjipmndeaaDDe
namespace Go.Proofs.Ytbolhbjipmndeaa.D
open Go.RowKit Rang
set_option maxRecDepth 100000
set_option linter.unusedVariables false
attribute [local go_sem ↓] Go.wp_at_zero Go.wp_at_succ

def Fit1 (p : Int) : Prop := 31 ≤ p ∧ p ≤ 2017

set_option maxHeartbeats 1000000 in
theorem noch_no (p : Int) (w : World) (h : Fit1 p) : Calls Try.prog 77 #[.int .i64 p] w fun e w' => e = .returned (.bool false) ∧ w' = w := by
  have t1 : ¬ p < 31 := by have := h.1; omega
  have t2 : ¬ 2017 < p := by have := h.2; omega
  have d1 : decide (p < 31) = false := decide_eq_false t1
  have d2 : decide (2017 < p) = false := decide_eq_false t2
  clear h
  go_enter Try.func77, Try.ntmps77
  go_wp2_with fail
  go_ret
  exact ⟨rfl, rfl⟩

set_option maxHeartbeats 1000000 in
theorem noch_yes (p : Int) (w : World) (h : ¬ Fit1 p) : Calls Try.prog 77 #[.int .i64 p] w fun e w' => e = .returned (.bool true) ∧ w' = w := by
  by_cases t1 : p < 31
  · have d1 : decide (p < 31) = true := decide_eq_true t1
    clear h
    go_enter Try.func77, Try.ntmps77
    go_wp2_with fail
    go_ret
    exact ⟨rfl, rfl⟩
  · have t2 : 2017 < p := by
      rcases Int.lt_or_le 2017 p with h1 | h1
      · exact h1
      · exact absurd ⟨by omega, h1⟩ h
    have d1 : decide (p < 31) = false := decide_eq_false t1
    have d2 : decide (2017 < p) = true := decide_eq_true t2
    clear h
    go_enter Try.func77, Try.ntmps77
    go_wp2_with fail
    go_ret
    exact ⟨rfl, rfl⟩

def IdxIs (l : List Int) (w : World) (e : Ending) (w' : World) : Prop := ∃ r : Int, e = .returned (.int .i64 r) ∧ (0 ≤ r ↔ ¬ ∀ p ∈ l, Fit1 p) ∧ w' = w

theorem fit_split {l : List Int} {i : Nat} (hi : i < l.length) (h : ∀ p ∈ l.take i, Fit1 p) (h1 : Fit1 (l.getD i 0)) : ∀ p ∈ l.take (i + 1), Fit1 p := by
  intro p hp
  rw [List.take_add_one, List.getElem?_eq_getElem hi] at hp
  rcases List.mem_append.1 hp with h2 | h2
  · exact h p h2
  · simp only [Option.toList, List.mem_singleton] at h2
    rw [h2]
    rw [List.getD_eq_getElem?_getD, List.getElem?_eq_getElem hi] at h1
    exact h1

theorem getDi_mem {l : List Int} {r : Nat} (h : r < l.length) : l.getD r 0 ∈ l := by
  rw [List.getD_eq_getElem?_getD, List.getElem?_eq_getElem h]
  exact List.getElem_mem h

set_option maxHeartbeats 2000000 in
theorem index_ok (l : List Int) (a0 : Option Addr) (cap : Nat) (w : World) (hc : IntsIn w a0 l) (hl : l.length ≤ 17592186044416) :
    Calls Try.prog 79 #[.slice a0 l.length cap, .func (.func 77) #[] #[]] w fun e w' => IdxIs l w e w' := by
  have HC := hide hc
  obtain ⟨n, hn⟩ : ∃ n, n = l.length := ⟨_, rfl⟩
  have HN := hide hn
  rw [← hn] at hl ⊢
  clear hn hc
  go_enter Try.func79, Try.ntmps79
  go_wp2_with fail
  go_loopg [8] n (fun gk d ws => ∃ (i : Nat), gk = n - i ∧ i ≤ n ∧ d = .int .i64 (i : Int) ∧ w = ws ∧ Hid (∀ p ∈ l.take i, Fit1 p))
  case atStart => exact ⟨0, by omega, by omega, rfl, rfl, hide (by simp)⟩
  case round =>
    obtain ⟨i, rfl, hi, rfl, rfl, HF⟩ := hrel
    by_cases hlt : i < n
    · have tl : (i : Int) < (n : Int) := by omega
      have hil : i < l.length := by rw [← unhide HN]; exact hlt
      obtain ⟨g, off, rfl, c1⟩ := unhide HC i hil
      by_cases hf : Fit1 (l.getD i 0)
      · have H1 := hide (noch_no (l.getD i 0) w hf)
        have HF2 := hide (fit_split hil (unhide HF) hf)
        clear hf HF hil
        generalize l.getD i 0 = z at c1 H1
        go_wp2_with (first | (go_at_call 77; refine (unhide H1).mono ?_; rintro e w1 ⟨rfl, rfl⟩))
        go_roundg (n - (i + 1))
        case measure => omega
        case rel => exact ⟨i + 1, rfl, by omega, by go_num, rfl, HF2⟩
      · have H1 := hide (noch_yes (l.getD i 0) w hf)
        have HF2 : Hid (¬ ∀ p ∈ l, Fit1 p) := hide (fun h => hf (h _ (getDi_mem hil)))
        clear hf HF hil
        generalize l.getD i 0 = z at c1 H1
        go_wp2_with (first | (go_at_call 77; refine (unhide H1).mono ?_; rintro e w1 ⟨rfl, rfl⟩))
        go_ret
        exact ⟨(i : Int), rfl, ⟨fun _ => unhide HF2, fun _ => by omega⟩, rfl⟩
    · obtain rfl : n = i := by omega
      have tl : ¬ (n : Int) < (n : Int) := by omega
      go_wp2_with fail
      go_ret
      refine ⟨-1, rfl, ⟨fun h => absurd h (by decide), fun h => absurd ?_ h⟩, rfl⟩
      have := unhide HF
      rw [unhide HN, List.take_length] at this
      exact this

set_option maxHeartbeats 2000000 in
theorem contains_ok (l : List Int) (a0 : Option Addr) (cap : Nat) (w : World) (b : Bool) (hc : IntsIn w a0 l) (hl : l.length ≤ 17592186044416) (hb : b = true ↔ ¬ ∀ p ∈ l, Fit1 p) :
    Calls Try.prog 76 #[.slice a0 l.length cap, .func (.func 77) #[] #[]] w fun e w' => e = .returned (.bool b) ∧ w' = w := by
  have HI := hide (index_ok l a0 cap w hc hl)
  have HB := hide hb
  generalize l.length = n at HI ⊢
  clear hc hb
  go_enter Try.func76, Try.ntmps76
  go_wp2_with fail
  refine (unhide HI).mono ?_
  rintro e w1 ⟨r, rfl, h1, rfl⟩
  have d1 : decide (0 ≤ r) = b := by
    cases b
    · exact decide_eq_false (fun h => by have := (unhide HB).2 (h1.1 h); cases this)
    · exact decide_eq_true (h1.2 ((unhide HB).1 rfl))
  clear h1
  go_wp2_with fail
  go_ret
  exact ⟨rfl, rfl⟩
end Go.Proofs.Ytbolhbjipmndeaa.D
