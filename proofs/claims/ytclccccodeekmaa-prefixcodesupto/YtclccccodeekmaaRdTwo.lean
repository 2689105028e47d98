/-
  What the calls of a reader of bits do besides: Get that is refused, Align, Bytes.
-/
import Derived.Test.YtclccccodeekmaaRd
namespace Go.Proofs.Ytclccccodeekmaa
open Go.RowKit Mth

set_option maxHeartbeats 1000000 in
theorem get_arg (rp g p : Nat) (high : Bool) (zs : List Nat) (n : Int) (w : World) (h : ROk w rp high g zs p) (hn : n < 0 ∨ 64 < n) :
    Calls Try.prog 40 #[.pointer (some ⟨rp, 0, none⟩), .int .i64 n] w fun e w' => e = .returned (.tuple #[.int .u64 0, .int .i64 2]) ∧ w' = w := by
  have c0 := h.c0
  clear h
  by_cases h0 : n < 0
  · have hd : decide (n < 0) = true := by simp; omega
    clear hn
    go_enter Try.func40, Try.ntmps40
    go_wp2_with (go_at_call 41; refine (rgood_yes _ _ (by assumption)).mono ?_; rintro e w' ⟨rfl, rfl⟩)
    go_ret2
    exact ⟨rfl, rfl⟩
  · have hd : decide (n < 0) = false := by simp; omega
    have hd1 : decide (64 < n) = true := by simp; omega
    clear hn
    go_enter Try.func40, Try.ntmps40
    go_wp2_with (go_at_call 41; refine (rgood_yes _ _ (by assumption)).mono ?_; rintro e w' ⟨rfl, rfl⟩)
    go_ret2
    exact ⟨rfl, rfl⟩

set_option maxHeartbeats 1000000 in
theorem get_end (rp g p : Nat) (high : Bool) (zs : List Nat) (n : Int) (w : World) (h : ROk w rp high g zs p) (hn : zs.length ≤ 140737488355328) (h0 : 0 ≤ n) (h1 : n ≤ 64) (h2 : 8 * (zs.length : Int) - p < n) :
    Calls Try.prog 40 #[.pointer (some ⟨rp, 0, none⟩), .int .i64 n] w fun e w' => e = .returned (.tuple #[.int .u64 0, .int .i64 10]) ∧ ∃ k, w' = w.drewN k := by
  have c0 := h.c0
  have H := hide h
  have hN0 : decide (n < 0) = false := by simp; omega
  have hN1 : decide (64 < n) = false := by simp; omega
  clear h
  go_enter Try.func40, Try.ntmps40
  go_wp2_with (first | (go_at_call 41; refine (rgood_yes _ _ (by assumption)).mono ?_; rintro e w' ⟨rfl, rfl⟩) | (go_at_call 42; refine (rleft_ok rp g p high zs _ (unhide H) hn).mono ?_; rintro e w1 ⟨rfl, nq, rfl⟩))
  go_ret2
  exact ⟨rfl, nq, rfl⟩

end Go.Proofs.Ytclccccodeekmaa
