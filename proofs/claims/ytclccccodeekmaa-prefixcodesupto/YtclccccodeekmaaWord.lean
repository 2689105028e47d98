/- What a code's calls tell: Word, Symbols, Cost. -/
import Derived.Test.YtclccccodeekmaaNew
import Derived.BigQuiet
import Derived.Deep.QuietTactic
namespace Go.Proofs.Ytclccccodeekmaa
open Go.RowKit
set_option linter.unusedVariables false

section
variable {ls : List Nat} {w : World} {cp lo hi wg g cap N base : Nat} {A B S : Nat → Nat} {H : Nat → Bool} {ix ky : Nat → Nat}
theorem CodeAt.c0 (h : CodeAt ls w cp lo hi wg g cap N base A B S H ix ky) : w.cell? ⟨cp, 0, none⟩ = some (.bool true) := by simp [World.cell?, h.blk]
theorem CodeAt.c1 (h : CodeAt ls w cp lo hi wg g cap N base A B S H ix ky) : w.cell? ⟨cp, 1, none⟩ = some (.slice (some ⟨wg, 0, none⟩) ls.length ls.length) := by simp [World.cell?, h.blk]
theorem CodeAt.c2 (h : CodeAt ls w cp lo hi wg g cap N base A B S H ix ky) : w.cell? ⟨cp, 2, none⟩ = some (.slice (some ⟨g, 0, none⟩) N cap) := by simp [World.cell?, h.blk]
end

set_option maxHeartbeats 400000 in
theorem cgood_yes (cp : Nat) (w : World) (h : w.cell? ⟨cp, 0, none⟩ = some (.bool true)) : Calls Try.prog 34 #[.pointer (some ⟨cp, 0, none⟩)] w fun e w' => e = .returned (.bool true) ∧ w' = w := by
  go_enter Try.func34, Try.ntmps34
  go_wp2
  go_ret
  exact ⟨rfl, rfl⟩

theorem below_drewN {B : Nat} {a w : World} (h : Below B a w) (n : Nat) : Below B a (w.drewN n) := ⟨h.os, h.tape, h.output, h.size, h.block⟩

/-- The symbol has a word. -/
def HasW (ls : List Nat) (s : Int) : Prop := 0 ≤ s ∧ s < (ls.length : Int) ∧ 0 < Canon.ln ls s.toNat

set_option maxHeartbeats 1000000 in
theorem symbols_ok (ls : List Nat) (cp lo hi : Nat) (w : World) (h : Code ls w cp lo hi) : Calls Try.prog 13 #[.pointer (some ⟨cp, 0, none⟩)] w fun e w' => e = .returned (.int .i64 (ls.length : Int)) ∧ w' = w := by
  obtain ⟨wg, g, cap, N, base, A, B, S, H, ix, ky, h⟩ := h
  have c0 := h.c0
  have c1 := h.c1
  clear h
  go_enter Try.func13, Try.ntmps13
  go_wp2_with (go_at_call 34; refine (cgood_yes _ _ (by assumption)).mono ?_; rintro e w' ⟨rfl, rfl⟩)
  go_ret
  exact ⟨rfl, rfl⟩

set_option maxHeartbeats 1000000 in
theorem word_ok (ls : List Nat) (cp lo hi s : Nat) (w : World) (h : Code ls w cp lo hi) (hs : s < ls.length) (h0 : 0 < Canon.ln ls s) :
    Calls Try.prog 14 #[.pointer (some ⟨cp, 0, none⟩), .int .i64 (s : Int)] w fun e w' => e = .returned (.tuple #[.int .u32 (Canon.wd ls s : Int), .int .i64 (Canon.ln ls s : Int), .int .i64 0]) ∧ Below w.heap.size w w' := by
  obtain ⟨wg, g, cap, N, base, A, B, S, H, ix, ky, h⟩ := h
  have c0 := h.c0
  have c1 := h.c1
  have k1 := h.words.word s hs
  have k2 := h.words.len s hs
  rw [show wdz ls s = Canon.wd ls s from if_neg (by omega)] at k1
  obtain ⟨n, hn⟩ : ∃ n, n = ls.length := ⟨_, rfl⟩
  obtain ⟨W, hW⟩ : ∃ W, W = Canon.wd ls s := ⟨_, rfl⟩
  obtain ⟨L, hL⟩ : ∃ L, L = Canon.ln ls s := ⟨_, rfl⟩
  rw [← hn] at c1 hs
  rw [← hW] at k1 ⊢
  rw [← hL] at k2 h0 ⊢
  clear h hn hW hL
  have hsn : (s : Int) < (n : Int) := by omega
  have hs0 : ¬ (s : Int) < 0 := by omega
  have hL0 : ((L : Int) == 0) = false := by simp; omega
  go_enter Try.func14, Try.ntmps14
  go_wp2_with (go_at_call 34; refine (cgood_yes _ _ (by assumption)).mono ?_; rintro e w' ⟨rfl, rfl⟩)
  go_quiet (fail)
  go_wp2
  go_ret3
  exact ⟨rfl, below_drewN ((Below.refl _ _).alloc (Nat.le_refl _) _) _⟩

set_option maxHeartbeats 1000000 in
theorem word_none (ls : List Nat) (cp lo hi : Nat) (s : Int) (w : World) (h : Code ls w cp lo hi) (hs : ¬ HasW ls s) :
    Calls Try.prog 14 #[.pointer (some ⟨cp, 0, none⟩), .int .i64 s] w fun e w' => e = .returned (.tuple #[.int .u32 0, .int .i64 0, .int .i64 2]) ∧ w' = w := by
  obtain ⟨wg, g, cap, N, base, A, B, S, H, ix, ky, h⟩ := h
  have c0 := h.c0
  have c1 := h.c1
  have HW := hide h.words
  clear h
  by_cases h1 : s < 0
  · clear hs
    go_enter Try.func14, Try.ntmps14
    go_wp2_with (go_at_call 34; refine (cgood_yes _ _ (by assumption)).mono ?_; rintro e w' ⟨rfl, rfl⟩)
    go_ret3
    exact ⟨rfl, rfl⟩
  · obtain ⟨s, rfl⟩ := Int.eq_ofNat_of_zero_le (show 0 ≤ s by omega)
    by_cases h2 : (ls.length : Int) ≤ (s : Int)
    · clear hs
      go_enter Try.func14, Try.ntmps14
      go_wp2_with (go_at_call 34; refine (cgood_yes _ _ (by assumption)).mono ?_; rintro e w' ⟨rfl, rfl⟩)
      go_ret3
      exact ⟨rfl, rfl⟩
    · have h3 : Canon.ln ls s = 0 := by
        unfold HasW at hs
        simp only [Int.toNat_natCast] at hs
        omega
      have k2 := (unhide HW).len s (by omega)
      rw [h3] at k2
      have hsn : (s : Int) < (ls.length : Int) := by omega
      clear hs
      go_enter Try.func14, Try.ntmps14
      go_wp2_with (go_at_call 34; refine (cgood_yes _ _ (by assumption)).mono ?_; rintro e w' ⟨rfl, rfl⟩)
      go_ret3
      exact ⟨rfl, rfl⟩

end Go.Proofs.Ytclccccodeekmaa
