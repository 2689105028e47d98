/-
  What the calls of a reader of bits do besides: Get that is refused, Align, Bytes.
-/
import Derived.Test.YtcplockmnabccaaRd
namespace Go.Proofs.Ytcplockmnabccaa
open Go.RowKit Mth

set_option maxHeartbeats 1000000 in
theorem get_arg (rp g p : Nat) (high : Bool) (zs : List Nat) (n : Int) (w : World) (h : ROk w rp high g zs p) (hn : n < 0 ∨ 64 < n) :
    Calls Try.prog 22 #[.pointer (some ⟨rp, 0, none⟩), .int .i64 n] w fun e w' => e = .returned (.tuple #[.int .u64 0, .int .i64 2]) ∧ w' = w := by
  have c0 := h.c0
  clear h
  by_cases h0 : n < 0
  · have hd : decide (n < 0) = true := by simp; omega
    clear hn
    go_enter Try.func22, Try.ntmps22
    go_wp2_with (go_at_call 29; refine (rgood_yes _ _ (by assumption)).mono ?_; rintro e w' ⟨rfl, rfl⟩)
    go_ret2
    exact ⟨rfl, rfl⟩
  · have hd : decide (n < 0) = false := by simp; omega
    have hd1 : decide (64 < n) = true := by simp; omega
    clear hn
    go_enter Try.func22, Try.ntmps22
    go_wp2_with (go_at_call 29; refine (rgood_yes _ _ (by assumption)).mono ?_; rintro e w' ⟨rfl, rfl⟩)
    go_ret2
    exact ⟨rfl, rfl⟩

set_option maxHeartbeats 1000000 in
theorem get_end (rp g p : Nat) (high : Bool) (zs : List Nat) (n : Int) (w : World) (h : ROk w rp high g zs p) (hn : zs.length ≤ 140737488355328) (h0 : 0 ≤ n) (h1 : n ≤ 64) (h2 : 8 * (zs.length : Int) - p < n) :
    Calls Try.prog 22 #[.pointer (some ⟨rp, 0, none⟩), .int .i64 n] w fun e w' => e = .returned (.tuple #[.int .u64 0, .int .i64 10]) ∧ ∃ k, w' = w.drewN k := by
  have c0 := h.c0
  have H := hide h
  have hN0 : decide (n < 0) = false := by simp; omega
  have hN1 : decide (64 < n) = false := by simp; omega
  clear h
  go_enter Try.func22, Try.ntmps22
  go_wp2_with (first | (go_at_call 29; refine (rgood_yes _ _ (by assumption)).mono ?_; rintro e w' ⟨rfl, rfl⟩) | (go_at_call 30; refine (rleft_ok rp g p high zs _ (unhide H) hn).mono ?_; rintro e w1 ⟨rfl, nq, rfl⟩))
  go_ret2
  exact ⟨rfl, nq, rfl⟩

theorem tmod8 (p : Nat) : Int.tmod (p : Int) 8 = ((p % 8 : Nat) : Int) := rfl
theorem tdiv8 (p : Nat) : Int.tdiv (p : Int) 8 = ((p / 8 : Nat) : Int) := rfl

set_option maxHeartbeats 1000000 in
theorem whole_ok (rp g p : Nat) (high : Bool) (zs : List Nat) (w : World) (h : ROk w rp high g zs p) :
    Calls Try.prog 32 #[.pointer (some ⟨rp, 0, none⟩)] w fun e w' => e = .returned (.bool (p % 8 == 0)) ∧ w' = w := by
  have c3 := h.c3
  clear h
  go_enter Try.func32, Try.ntmps32
  go_wp2
  go_ret
  refine ⟨?_, rfl⟩
  congr 2
  simp
  rw [Bool.eq_iff_iff]
  simp
  omega

set_option maxHeartbeats 1000000 in
theorem ralign_ok (rp g p : Nat) (high : Bool) (zs : List Nat) (w : World) (h : ROk w rp high g zs p) (hn : zs.length ≤ 140737488355328) :
    Calls Try.prog 24 #[.pointer (some ⟨rp, 0, none⟩)] w fun e w' => e = .returned (.int .i64 0) ∧ ROk w' rp high g zs ((p + 7) / 8 * 8) ∧ w'.heap.size = w.heap.size ∧ w'.os = w.os ∧ w'.tape = w.tape ∧ w'.output = w.output ∧ ∀ x, x ≠ rp → w'.heap[x]? = w.heap[x]? := by
  have c0 := h.c0
  have c3 := h.c3
  have f3 := h.fz 3
  have hle := h.le
  have H := hide h
  clear h
  by_cases h0 : p % 8 = 0
  · have hb : (p % 8 == 0) = true := by simp; omega
    go_enter Try.func24, Try.ntmps24
    go_wp2_with (first | (go_at_call 29; refine (rgood_yes _ _ (by assumption)).mono ?_; rintro e w' ⟨rfl, rfl⟩) | (go_at_call 32; refine (whole_ok rp g p high zs _ (unhide H)).mono ?_; rintro e w1 ⟨rfl, rfl⟩))
    go_ret
    rw [show (p + 7) / 8 * 8 = p by omega]
    exact ⟨rfl, unhide H, rfl, rfl, rfl, rfl, fun _ _ => rfl⟩
  · have hb : (p % 8 == 0) = false := by simp; omega
    obtain ⟨r8, hr8⟩ : ∃ r8, r8 = p % 8 := ⟨_, rfl⟩
    have hrd : Int.tmod (p : Int) 8 = (r8 : Int) := by rw [hr8]; rfl
    have hr1 : 0 < r8 := by omega
    have hr2 : r8 < 8 := by omega
    have hw1 : IntKind.i64.wrap (8 - (r8 : Int)) = 8 - (r8 : Int) := IntWalk.i64_in _ (by omega)
    have hw2 : IntKind.i64.wrap ((p : Int) + (8 - (r8 : Int))) = ((p + 8 - r8 : Nat) : Int) := by rw [IntWalk.i64_in _ (by omega)]; omega
    have HR := hide hr8
    clear hr8
    go_enter Try.func24, Try.ntmps24
    go_wp2_with (first | (go_at_call 29; refine (rgood_yes _ _ (by assumption)).mono ?_; rintro e w' ⟨rfl, rfl⟩) | (go_at_call 32; refine (whole_ok rp g p high zs _ (unhide H)).mono ?_; rintro e w1 ⟨rfl, rfl⟩))
    refine wp_tail 13 (by kernel_rfl) (by kernel_rfl) ?_
    simp only [List.take_succ_cons, List.take_zero, List.drop_succ_cons, List.drop_zero]
    repeat still_step
    try refine wpStill_nil ?_
    go_wp2
    go_ret
    have e : (p + 7) / 8 * 8 = p + 8 - r8 := by have := unhide HR; omega
    rw [e]
    have ok := (unhide H).set (p + 8 - r8) (by omega)
    refine ⟨rfl, ⟨ok.blk, ok.row, ok.ne, ok.le, ok.small⟩, by simp, rfl, rfl, rfl, fun x hx => ?_⟩
    exact heap_setCell_other _ _ _ _ (by exact hx)

end Go.Proofs.Ytcplockmnabccaa
