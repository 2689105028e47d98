/- Back, and Next, whatever they are asked: the program's and the document's. -/
import Derived.Test.YtpemgjcgcmleiaaOw
namespace Go.Proofs.Ytpemgjcgcmleiaa
open Go.RowKit Suf
set_option maxRecDepth 100000
set_option linter.unusedVariables false

/-- what Next tells -/
def nextOut (b : List Nat) : List Nat × Nat := if 1048576 < b.length then ([], 3) else (nextF b 256, 0)

/-- what Back tells -/
def backOut (b : List Nat) (row : Int) : List Nat × Nat := if 1048576 < b.length then ([], 3) else if row < 0 ∨ (0 < row ∧ (b.length : Int) ≤ row) then ([], 2) else (back b (nextF b 256) row.toNat, 0)

theorem nextF_len {b : List Nat} (hb : ∀ z ∈ b, z < 256) : (nextF b 256).length = b.length := (nextF_is hb).len

theorem back_len (b nx : List Nat) (row : Nat) : (back b nx row).length = b.length := by simp [back]

theorem back_small {b : List Nat} (hb : ∀ z ∈ b, z < 256) (nx : List Nat) (row : Nat) : ∀ z ∈ back b nx row, z < 256 := by
  intro z hz
  unfold back at hz
  obtain ⟨k, hk, rfl⟩ := List.mem_map.1 hz
  rcases Nat.lt_or_ge (steps nx row (k + 1)) b.length with h | h
  · exact hb _ (getD_mem h)
  · rw [List.getD_eq_getElem?_getD, List.getElem?_eq_none h]
    exact Nat.zero_lt_succ _

theorem nextOut_len {b : List Nat} (hb : ∀ z ∈ b, z < 256) : (nextOut b).1.length ≤ 1048576 := by
  unfold nextOut
  split
  · simp
  · rw [nextF_len hb]; omega

theorem backOut_len (b : List Nat) (row : Int) : (backOut b row).1.length ≤ 1048576 := by
  unfold backOut
  split
  · simp
  · split
    · simp
    · rw [back_len]; omega

theorem backOut_small {b : List Nat} (hb : ∀ z ∈ b, z < 256) (row : Int) : ∀ z ∈ (backOut b row).1, z < 256 := by
  unfold backOut
  split
  · simp
  · split
    · simp
    · exact back_small hb _ _

/-- what a call of Next or Back hands out -/
def Told (k : IntKind) (t : TypeId) (out : List Nat × Nat) (w : World) (e : Ending) (w' : World) : Prop := ∃ v, e = .returned (.tuple #[v, .int .i64 (out.2 : Int)]) ∧ Row w.heap.size w'.heap.size w' v k t out.1 ∧ Below w.heap.size w w'

theorem next_told (b : List Nat) (a0 : Option Addr) (cap : Nat) (w : World) (hc : BytesIn w a0 b) (hb : ∀ z ∈ b, z < 256) :
    Calls Try.prog 16 #[.slice a0 b.length cap] w fun e w' => Told .i64 3 (nextOut b) w e w' := by
  unfold nextOut
  by_cases h : 1048576 < b.length
  · rw [if_pos h]
    refine (next_big a0 b.length cap w h).mono ?_
    rintro e w' ⟨rfl, h1⟩
    exact ⟨_, rfl, Row.nil _ _ _ _ _, h1⟩
  · rw [if_neg h]
    refine (next_p b a0 cap w hc hb (by omega)).mono ?_
    rintro e w' ⟨g, rfl, h1, h2, h3⟩
    exact ⟨_, rfl, row_ints (nextF_len hb) h2 h1, h3⟩

set_option maxHeartbeats 1000000 in
theorem rnext_big (a0 : Option Addr) (n cap : Nat) (w : World) (hn : 1048576 < n) :
    Calls Try.prog 17 #[.slice a0 n cap] w fun e w' => e = .returned (.tuple #[.slice none 0 0, .int .i64 3]) ∧ w' = w := by
  have hd : 1048576 < (n : Int) := by omega
  have hd2 : decide (1048576 < (n : Int)) = true := by simp; omega
  go_enter Try.func17, Try.ntmps17
  go_wp2_with fail
  go_ret2
  exact ⟨rfl, rfl⟩

theorem rnext_told (b : List Nat) (a0 : Option Addr) (cap : Nat) (w : World) (hc : BytesIn w a0 b) (hb : ∀ z ∈ b, z < 256) :
    Calls Try.prog 17 #[.slice a0 b.length cap] w fun e w' => Told .i64 3 (nextOut b) w e w' := by
  unfold nextOut
  by_cases h : 1048576 < b.length
  · rw [if_pos h]
    refine (rnext_big a0 b.length cap w h).mono ?_
    rintro e w' ⟨rfl, rfl⟩
    exact ⟨_, rfl, Row.nil _ _ _ _ _, Below.refl _ _⟩
  · rw [if_neg h]
    refine (next_ok b a0 cap w hc hb (by omega)).mono ?_
    rintro e w' ⟨v, rfl, h1⟩
    exact ⟨_, rfl, row_own (n := 0) rfl (by have := h1.own; rw [List.length_map] at this; exact this), h1.bel⟩

set_option maxHeartbeats 1000000 in
theorem back_big (a0 : Option Addr) (n cap : Nat) (row : Int) (w : World) (hn : 1048576 < n) :
    Calls Try.prog 14 #[.slice a0 n cap, .int .i64 row] w fun e w' => e = .returned (.tuple #[.slice none 0 0, .int .i64 3]) ∧ Below w.heap.size w w' := by
  have HN := hide (next_big a0 n cap w hn)
  clear hn
  go_enter Try.func14, Try.ntmps14
  go_wp2_with fail
  refine (unhide HN).mono ?_
  rintro e w1 ⟨rfl, h1⟩
  have H1 := hide h1
  clear h1
  go_wp2_with fail
  go_ret2
  exact ⟨rfl, unhide H1⟩

set_option maxHeartbeats 1000000 in
theorem rback_big (a0 : Option Addr) (n cap : Nat) (row : Int) (w : World) (hn : 1048576 < n) :
    Calls Try.prog 15 #[.slice a0 n cap, .int .i64 row] w fun e w' => e = .returned (.tuple #[.slice none 0 0, .int .i64 3]) ∧ Below w.heap.size w w' := by
  have HN := hide (rnext_big a0 n cap w hn)
  clear hn
  go_enter Try.func15, Try.ntmps15
  go_wp2_with fail
  refine (unhide HN).mono ?_
  rintro e w1 ⟨rfl, rfl⟩
  go_wp2_with fail
  go_ret2
  exact ⟨rfl, Below.refl _ _⟩

set_option maxHeartbeats 1000000 in
theorem back_arg (b : List Nat) (a0 : Option Addr) (cap : Nat) (row : Int) (w : World) (hc : BytesIn w a0 b) (hb : ∀ z ∈ b, z < 256) (hn : b.length ≤ 1048576) (hr : row < 0 ∨ (0 < row ∧ (b.length : Int) ≤ row)) :
    Calls Try.prog 14 #[.slice a0 b.length cap, .int .i64 row] w fun e w' => e = .returned (.tuple #[.slice none 0 0, .int .i64 2]) ∧ Below w.heap.size w w' := by
  have HN := hide (next_p b a0 cap w hc hb hn)
  generalize b.length = n at *
  have f1 : ¬ row = 0 := by omega
  have f2 : (row == 0) = false := by simp; omega
  clear hn
  by_cases h0 : row < 0
  · have f3 : decide (row < 0) = true := by simp; omega
    go_enter Try.func14, Try.ntmps14
    go_wp2_with fail
    refine (unhide HN).mono ?_
    rintro e w1 ⟨g, rfl, _, _, h1⟩
    have H1 := hide h1
    clear h1
    go_wp2_with fail
    go_ret2
    exact ⟨rfl, unhide H1⟩
  · have f3 : decide (row < 0) = false := by simp; omega
    have f4 : (n : Int) ≤ row := by omega
    have f5 : decide ((n : Int) ≤ row) = true := by simp; omega
    go_enter Try.func14, Try.ntmps14
    go_wp2_with fail
    refine (unhide HN).mono ?_
    rintro e w1 ⟨g, rfl, _, _, h1⟩
    have H1 := hide h1
    clear h1
    go_wp2_with fail
    go_ret2
    exact ⟨rfl, unhide H1⟩

set_option maxHeartbeats 1000000 in
theorem rback_arg (b : List Nat) (a0 : Option Addr) (cap : Nat) (row : Int) (w : World) (hc : BytesIn w a0 b) (hb : ∀ z ∈ b, z < 256) (hn : b.length ≤ 1048576) (hr : row < 0 ∨ (0 < row ∧ (b.length : Int) ≤ row)) :
    Calls Try.prog 15 #[.slice a0 b.length cap, .int .i64 row] w fun e w' => e = .returned (.tuple #[.slice none 0 0, .int .i64 2]) ∧ Below w.heap.size w w' := by
  have HN := hide (next_ok b a0 cap w hc hb hn)
  generalize b.length = n at *
  clear hn
  by_cases h0 : row < 0
  · have f3 : decide (row < 0) = true := by simp; omega
    go_enter Try.func15, Try.ntmps15
    go_wp2_with fail
    refine (unhide HN).mono ?_
    rintro e w1 ⟨g, rfl, h1⟩
    have H1 := hide h1.bel
    clear h1
    go_wp2_with fail
    go_ret2
    exact ⟨rfl, unhide H1⟩
  · have f3 : decide (row < 0) = false := by simp; omega
    have f4 : (n : Int) ≤ row := by omega
    have f5 : decide ((n : Int) ≤ row) = true := by simp; omega
    have f6 : 0 < row := by omega
    have f7 : decide (0 < row) = true := by simp; omega
    go_enter Try.func15, Try.ntmps15
    go_wp2_with fail
    refine (unhide HN).mono ?_
    rintro e w1 ⟨g, rfl, h1⟩
    have H1 := hide h1.bel
    clear h1
    go_wp2_with fail
    go_ret2
    exact ⟨rfl, unhide H1⟩

set_option maxHeartbeats 1000000 in
theorem back_none (a0 : Option Addr) (cap : Nat) (w : World) :
    Calls Try.prog 14 #[.slice a0 0 cap, .int .i64 0] w fun e w' => e = .returned (.tuple #[.slice none 0 0, .int .i64 0]) ∧ Below w.heap.size w w' := by
  have HN := hide (next_p [] a0 cap w (fun j hj => by simp at hj) (by simp) (by simp))
  go_enter Try.func14, Try.ntmps14
  go_wp2_with fail
  refine (unhide HN).mono ?_
  rintro e w1 ⟨g, rfl, _, _, h1⟩
  have H1 := hide h1
  clear h1
  go_wp2_with fail
  go_ret2
  exact ⟨rfl, unhide H1⟩

theorem back_told (b : List Nat) (a0 : Option Addr) (cap : Nat) (row : Int) (w : World) (hc : BytesIn w a0 b) (hb : ∀ z ∈ b, z < 256) :
    Calls Try.prog 14 #[.slice a0 b.length cap, .int .i64 row] w fun e w' => Told .u8 5 (backOut b row) w e w' := by
  unfold backOut
  by_cases h : 1048576 < b.length
  · rw [if_pos h]
    refine (back_big a0 b.length cap row w h).mono ?_
    rintro e w' ⟨rfl, h1⟩
    exact ⟨_, rfl, Row.nil _ _ _ _ _, h1⟩
  · rw [if_neg h]
    by_cases hr : row < 0 ∨ (0 < row ∧ (b.length : Int) ≤ row)
    · rw [if_pos hr]
      refine (back_arg b a0 cap row w hc hb (by omega) hr).mono ?_
      rintro e w' ⟨rfl, h1⟩
      exact ⟨_, rfl, Row.nil _ _ _ _ _, h1⟩
    · rw [if_neg hr]
      obtain ⟨r, rfl⟩ : ∃ r : Nat, row = (r : Int) := ⟨row.toNat, by omega⟩
      rw [Int.toNat_natCast]
      by_cases h0 : r < b.length
      · refine (back_p b a0 cap r w hc hb (by omega) h0).mono ?_
        rintro e w' ⟨g, rfl, h1, h2, h3⟩
        exact ⟨_, rfl, row_ints (back_len _ _ _) h2 h1, h3⟩
      · obtain rfl : r = 0 := by omega
        obtain rfl : b = [] := List.eq_nil_of_length_eq_zero (by omega)
        refine (back_none a0 cap w).mono ?_
        rintro e w' ⟨rfl, h1⟩
        exact ⟨_, rfl, Row.nil _ _ _ _ _, h1⟩

theorem rback_told (b : List Nat) (a0 : Option Addr) (cap : Nat) (row : Int) (w : World) (hc : BytesIn w a0 b) (hb : ∀ z ∈ b, z < 256) :
    Calls Try.prog 15 #[.slice a0 b.length cap, .int .i64 row] w fun e w' => Told .u8 5 (backOut b row) w e w' := by
  unfold backOut
  by_cases h : 1048576 < b.length
  · rw [if_pos h]
    refine (rback_big a0 b.length cap row w h).mono ?_
    rintro e w' ⟨rfl, h1⟩
    exact ⟨_, rfl, Row.nil _ _ _ _ _, h1⟩
  · rw [if_neg h]
    by_cases hr : row < 0 ∨ (0 < row ∧ (b.length : Int) ≤ row)
    · rw [if_pos hr]
      refine (rback_arg b a0 cap row w hc hb (by omega) hr).mono ?_
      rintro e w' ⟨rfl, h1⟩
      exact ⟨_, rfl, Row.nil _ _ _ _ _, h1⟩
    · rw [if_neg hr]
      obtain ⟨r, rfl⟩ : ∃ r : Nat, row = (r : Int) := ⟨row.toNat, by omega⟩
      rw [Int.toNat_natCast]
      refine (back_ok b a0 cap r w hc hb (by omega) (by omega)).mono ?_
      rintro e w' ⟨v, rfl, h1⟩
      exact ⟨_, rfl, row_own (n := 0) rfl h1.own, h1.bel⟩

end Go.Proofs.Ytpemgjcgcmleiaa
