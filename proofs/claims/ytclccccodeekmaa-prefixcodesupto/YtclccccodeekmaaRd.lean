/-
  What the calls of a reader of bits do: NewReader, At, Left, Get.
-/
import Derived.Test.YtclccccodeekmaaPut
namespace Go.Proofs.Ytclccccodeekmaa
open Go.RowKit Mth

structure ROk (w : World) (rp : Nat) (high : Bool) (g : Nat) (zs : List Nat) (p : Nat) : Prop where
  blk : w.heap[rp]? = some (.cells #[.bool true, .bool high, .slice (some ⟨g, 0, none⟩) zs.length zs.length, .int .i64 (p : Int)] 82 (0, 0))
  row : w.heap[g]? = some (.cells (zs.map bv).toArray 5 (0, 0))
  ne : g ≠ rp
  le : p ≤ 8 * zs.length
  small : ∀ z ∈ zs, z < 256

section
variable {w : World} {rp : Nat} {high : Bool} {g : Nat} {zs : List Nat} {p : Nat}
theorem ROk.c0 (h : ROk w rp high g zs p) : w.cell? ⟨rp, 0, none⟩ = some (.bool true) := by simp [World.cell?, h.blk]
theorem ROk.c1 (h : ROk w rp high g zs p) : w.cell? ⟨rp, 1, none⟩ = some (.bool high) := by simp [World.cell?, h.blk]
theorem ROk.c2 (h : ROk w rp high g zs p) : w.cell? ⟨rp, 2, none⟩ = some (.slice (some ⟨g, 0, none⟩) zs.length zs.length) := by simp [World.cell?, h.blk]
theorem ROk.c3 (h : ROk w rp high g zs p) : w.cell? ⟨rp, 3, none⟩ = some (.int .i64 (p : Int)) := by simp [World.cell?, h.blk]
theorem ROk.fz (h : ROk w rp high g zs p) (o : Nat) : w.frozen? ⟨rp, o, none⟩ = false := by simp [World.frozen?, h.blk]
theorem ROk.lt (h : ROk w rp high g zs p) : rp < w.heap.size := by
  rcases Nat.lt_or_ge rp w.heap.size with h' | h'
  · exact h'
  · have := h.blk; rw [Array.getElem?_eq_none h'] at this; cases this
theorem ROk.byte (h : ROk w rp high g zs p) (i : Nat) (hi : i < zs.length) : w.cell? ⟨g, i, none⟩ = some (.int .u8 (zs.getD i 0 : Int)) := by simp [World.cell?, h.row, hi, bv]
theorem ROk.keep {w' : World} (h : ROk w rp high g zs p) (h1 : w'.heap[rp]? = w.heap[rp]?) (h2 : w'.heap[g]? = w.heap[g]?) : ROk w' rp high g zs p :=
  ⟨by rw [h1]; exact h.blk, by rw [h2]; exact h.row, h.ne, h.le, h.small⟩
theorem ROk.drewN (h : ROk w rp high g zs p) (n : Nat) : ROk (w.drewN n) rp high g zs p := ⟨h.blk, h.row, h.ne, h.le, h.small⟩
theorem ROk.set (h : ROk w rp high g zs p) (q : Nat) (hq : q ≤ 8 * zs.length) : ROk (w.setCell ⟨rp, 3, none⟩ (.int .i64 (q : Int))) rp high g zs q :=
  ⟨by rw [heap_setCell_same _ rp 3 _ _ _ h.blk]; simp, by rw [heap_setCell_other _ _ _ _ (by exact h.ne)]; exact h.row, h.ne, hq, h.small⟩
end

set_option maxHeartbeats 400000 in
theorem rgood_yes (pb : Nat) (w : World) (h : w.cell? ⟨pb, 0, none⟩ = some (.bool true)) :
    Calls Try.prog 41 #[.pointer (some ⟨pb, 0, none⟩)] w fun e w' => e = .returned (.bool true) ∧ w' = w := by
  go_enter Try.func41, Try.ntmps41
  go_wp2
  go_ret
  exact ⟨rfl, rfl⟩

set_option maxHeartbeats 1000000 in
theorem newReader_ok (v : Value) (zs : List Nat) (high : Bool) (w : World) (hr : Reads w v zs) (hn : zs.length ≤ 140737488355328) (hs : ∀ z ∈ zs, z < 256) :
    Calls Try.prog 21 #[v, .bool high] w fun e w' => ∃ rp, e = .returned (.pointer (some ⟨rp, 0, none⟩)) ∧ w.heap.size ≤ rp ∧ ROk w' rp high w.heap.size zs 0 ∧ Below w.heap.size w w' := by
  have HR := hide hr
  clear hr
  go_enter Try.func21, Try.ntmps21
  go_wp2_with (go_at_call 39; go_must (refine (fresh_any _ zs _ (unhide HR) hn).mono ?_; rintro e w1 ⟨rfl, h1, h2⟩; have H1 := hide h1; have H2 := hide h2; clear h1 h2))
  go_ret
  have hlt := heap_lt (unhide H1)
  have hsz := (unhide H2).size
  refine ⟨w1.heap.size, rfl, hsz, ⟨?_, ?_, by omega, by omega, hs⟩, (unhide H2).alloc hsz _⟩
  · rw [heap_alloc_new]; rfl
  · rw [Below.heap_alloc _ _ _ hlt]; exact unhide H1

set_option maxHeartbeats 1000000 in
theorem at_ok (rp g p : Nat) (high : Bool) (zs : List Nat) (w : World) (h : ROk w rp high g zs p) :
    Calls Try.prog 25 #[.pointer (some ⟨rp, 0, none⟩)] w fun e w' => e = .returned (.int .i64 (p : Int)) ∧ w' = w := by
  have c0 := h.c0
  have c3 := h.c3
  clear h
  go_enter Try.func25, Try.ntmps25
  go_wp2_with (go_at_call 41; refine (rgood_yes _ _ (by assumption)).mono ?_; rintro e w' ⟨rfl, rfl⟩)
  go_ret
  exact ⟨rfl, rfl⟩

set_option maxHeartbeats 1000000 in
theorem rleft_ok (rp g p : Nat) (high : Bool) (zs : List Nat) (w : World) (h : ROk w rp high g zs p) (hn : zs.length ≤ 140737488355328) :
    Calls Try.prog 42 #[.pointer (some ⟨rp, 0, none⟩)] w fun e w' => e = .returned (.int .i64 (8 * (zs.length : Int) - p)) ∧ ∃ n, w' = w.drewN n := by
  have c2 := h.c2
  have c3 := h.c3
  have hle := h.le
  clear h
  go_enter Try.func42, Try.ntmps42
  go_wp2_with fail
  go_quiet (fail)
  go_wp2
  go_ret
  exact ⟨rfl, nq, rfl⟩

set_option maxHeartbeats 1000000 in
theorem left_ok (rp g p : Nat) (high : Bool) (zs : List Nat) (w : World) (h : ROk w rp high g zs p) (hn : zs.length ≤ 140737488355328) :
    Calls Try.prog 27 #[.pointer (some ⟨rp, 0, none⟩)] w fun e w' => e = .returned (.int .i64 (8 * (zs.length : Int) - p)) ∧ ∃ n, w' = w.drewN n := by
  have c0 := h.c0
  have H := hide h
  clear h
  go_enter Try.func27, Try.ntmps27
  go_wp2_with (first | (go_at_call 41; refine (rgood_yes _ _ (by assumption)).mono ?_; rintro e w' ⟨rfl, rfl⟩) | (go_at_call 42; refine (rleft_ok rp g p high zs _ (unhide H) hn).mono ?_; rintro e w1 ⟨rfl, nq, rfl⟩))
  go_ret
  exact ⟨rfl, nq, rfl⟩

theorem get_step (A B r R : Nat) (hr : r < 8) (hR : R < 64) (hA : A < 2 ^ 64) (hB : B < 256) :
    bits .or .u64 (A : Int) (IntKind.u64.wrap (IntKind.u64.wrap (bits .and .u8 ((B : Int) / 2 ^ min r 8) 1) * 2 ^ min R 64)) = ((A ||| ((B.testBit r).toNat <<< R) : Nat) : Int) := by
  have hd : B / 2 ^ r < 256 := Nat.lt_of_le_of_lt (Nat.div_le_self _ _) hB
  have h1 : bits .and .u8 ((B : Int) / 2 ^ min r 8) 1 = ((B.testBit r).toNat : Int) := by
    rw [Nat.min_eq_left (by omega), show ((B : Int) / 2 ^ r) = ((B / 2 ^ r : Nat) : Int) by simp]
    have h := u8_and_nat (B / 2 ^ r) 1 hd (by decide)
    rw [Nat.and_one_is_mod, ← Nat.shiftRight_eq_div_pow, shift_one] at h
    rw [← Nat.shiftRight_eq_div_pow]
    exact h
  have h2 : (B.testBit r).toNat ≤ 1 := Bool.toNat_le _
  have h3 : 2 ^ R ≤ 2 ^ 63 := Nat.pow_le_pow_right (by decide) (by omega)
  have h4 := Nat.mul_le_mul h2 h3
  rw [h1, IntWalk.u64_in ((B.testBit r).toNat : Int) (by omega), Nat.min_eq_left (by omega), show (((B.testBit r).toNat : Int) * 2 ^ R) = (((B.testBit r).toNat * 2 ^ R : Nat) : Int) by simp, IntWalk.u64_in _ (by omega), u64_or_nat A _ (by omega) (by omega), Nat.shiftLeft_eq]

set_option maxHeartbeats 1000000 in
theorem get_ok (rp g p : Nat) (high : Bool) (zs : List Nat) (n : Int) (w : World) (h : ROk w rp high g zs p) (hn : zs.length ≤ 140737488355328) (h0 : 0 ≤ n) (h1 : n ≤ 64) (h2 : p + n.toNat ≤ 8 * zs.length) :
    Calls Try.prog 40 #[.pointer (some ⟨rp, 0, none⟩), .int .i64 n] w fun e w' => e = .returned (.tuple #[.int .u64 (numAt high n.toNat (fun i => bitIn high zs (p + i)) : Int), .int .i64 0]) ∧ ∃ k, w' = (w.drewN k).setCell ⟨rp, 3, none⟩ (.int .i64 ((p + n.toNat : Nat) : Int)) := by
  obtain ⟨N, rfl⟩ := Int.eq_ofNat_of_zero_le h0
  simp only [Int.toNat_natCast] at *
  have c0 := h.c0
  have H := hide h
  have hN0 : decide ((N : Int) < 0) = false := by simp
  have hN1 : decide (64 < (N : Int)) = false := by simp; omega
  have hlf : ¬ (8 * (zs.length : Int) - p < N) := by omega
  clear h
  go_enter Try.func40, Try.ntmps40
  go_wp2_with (first | (go_at_call 41; refine (rgood_yes _ _ (by assumption)).mono ?_; rintro e w' ⟨rfl, rfl⟩) | (go_at_call 42; refine (rleft_ok rp g p high zs _ (unhide H) hn).mono ?_; rintro e w1 ⟨rfl, nq, rfl⟩))
  go_loopg [6, 24] N (fun gk v c ws => ∃ i k, gk = N - i ∧ i ≤ N ∧ v = .int .u64 (acc high N (fun i => bitIn high zs (p + i)) i : Int) ∧ c = .int .i64 (i : Int) ∧ ws = w'.drewN k)
  case atStart => exact ⟨0, nq, by omega, by omega, rfl, rfl, rfl⟩
  case round =>
    obtain ⟨i, k, rfl, hi, rfl, rfl, rfl⟩ := hrel
    by_cases hlt : i < N
    · have ok := unhide H
      have c1 := ok.c1
      have c2 := ok.c2
      have c3 := ok.c3
      have hb := ok.byte ((p + i) / 8) (by omega)
      have hz : zs.getD ((p + i) / 8) 0 < 256 := by
        have := (unhide H).small (zs.getD ((p + i) / 8) 0) (by rw [List.getD_eq_getElem?_getD, List.getElem?_eq_getElem (by omega)]; exact List.getElem_mem _)
        exact this
      clear ok
      go_wp2_with fail
      obtain ⟨P, hP⟩ : ∃ P, P = p + i := ⟨_, rfl⟩
      rw [show ((p : Int) + (i : Int)) = (P : Int) by omega]
      rw [← hP] at hb hz
      have HP := hide hP
      have hPz : P / 8 < zs.length := by omega
      have hPb : P ≤ 2000000000000000 := by omega
      clear hP
      generalize hB : zs.getD (P / 8) 0 = B at hb hz
      have HB := hide hB
      clear hB
      obtain ⟨q8, hq8⟩ : ∃ q8, q8 = P / 8 := ⟨_, rfl⟩
      obtain ⟨r8, hr8⟩ : ∃ r8, r8 = P % 8 := ⟨_, rfl⟩
      have hqd : Int.tdiv (P : Int) 8 = (q8 : Int) := by rw [hq8]; rfl
      have hrd : Int.tmod (P : Int) 8 = (r8 : Int) := by rw [hr8]; rfl
      rw [← hq8] at hb hPz
      have hq0 : (q8 : Int) < (zs.length : Int) := by omega
      have hr8' : r8 < 8 := by omega
      have hqw : IntKind.i64.wrap (q8 : Int) = (q8 : Int) := IntWalk.i64_in _ (by omega)
      have hrw : IntKind.i64.wrap (r8 : Int) = (r8 : Int) := IntWalk.i64_in _ (by omega)
      have HQ := hide hq8
      have HR := hide hr8
      clear hq8 hr8
      refine wp_tail 17 (by kernel_rfl) (by kernel_rfl) ?_
      simp only [List.take_succ_cons, List.take_zero, List.drop_succ_cons, List.drop_zero]
      repeat (first | still_call (rank_any _ _ _ _ (by omega) (by omega) (by omega)) | still_step)
      try refine wpStill_nil ?_
      go_wp2_with (go_at_call 47; refine (rank_any _ _ _ _ (by omega) (by omega) (by omega)).mono ?_; rintro e w' ⟨rfl, rfl⟩)
      have hacc := acc_lt high N (fun i => bitIn high zs (p + i)) i hi
      have hpow : 2 ^ N ≤ 2 ^ 64 := Nat.pow_le_pow_right (by decide) (by omega)
      rw [get_step _ B (rk high 8 r8) (rk high N i) (rk_lt hr8') (by have := rk_lt (high := high) hlt; omega) (by omega) hz]
      go_roundg (N - (i + 1))
      case measure => omega
      case rel =>
        refine ⟨i + 1, k + 1, rfl, by omega, ?_, by go_num, rfl⟩
        rw [acc, bitIn, ← unhide HP, unhide HB, ← unhide HR]
    · have hiN : i = N := by omega
      subst hiN
      have c3 := (unhide H).c3
      have f3 := (unhide H).fz 3
      have hle := (unhide H).le
      go_wp2
      go_ret2
      exact ⟨rfl, k, rfl⟩

end Go.Proofs.Ytclccccodeekmaa
