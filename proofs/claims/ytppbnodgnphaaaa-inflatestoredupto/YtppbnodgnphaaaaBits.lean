/-
  What the calls of a reader of bits do: NewReader, At, Get, Align, Bytes.
-/
import Derived.Test.YtppbnodgnphaaaaBase
import Derived.Test.YtppbnodgnphaaaaMath
import Derived.WalkMore
import Derived.Deep.RegionHeld3
import Derived.StillTailTactics
namespace Go.Proofs.Ytppbnodgnphaaaa
open Go.RowKit Mth
set_option linter.unusedVariables false
set_option maxRecDepth 100000


set_option maxHeartbeats 400000 in
theorem rank_any (i n : Int) (high : Bool) (w : World) (h0 : 0 ≤ i) (h1 : i < n) (h2 : n ≤ 64) :
    Calls Try.prog 36 #[.int .i64 i, .int .i64 n, .bool high] w fun e w' => e = .returned (.int .i64 ((rk high n.toNat i.toNat : Nat) : Int)) ∧ w' = w := by
  obtain ⟨a, rfl⟩ := Int.eq_ofNat_of_zero_le h0
  obtain ⟨b, rfl⟩ := Int.eq_ofNat_of_zero_le (show 0 ≤ n by omega)
  cases high
  · go_enter Try.func36, Try.ntmps36
    go_wp2
    go_ret
    exact ⟨rfl, rfl⟩
  · go_enter Try.func36, Try.ntmps36
    go_wp2
    go_ret
    refine ⟨?_, rfl⟩
    have : ((rk true (b : Int).toNat (a : Int).toNat : Nat) : Int) = (b : Int) - 1 - a := by simp [rk]; omega
    rw [this]
    rfl

set_option maxHeartbeats 1000000 in
theorem fresh_any (v : Value) (zs : List Nat) (w : World) (hr : Reads w v zs) (hn : zs.length ≤ 140737488355328) :
    Calls Try.prog 33 #[v] w fun e w' => e = .returned (.slice (some ⟨w.heap.size, 0, none⟩) zs.length zs.length) ∧ w'.heap[w.heap.size]? = some (.cells (zs.map bv).toArray 5 (0, 0)) ∧ Below w.heap.size w w' := by
  obtain ⟨a, cap, rfl, hsrc⟩ := hr
  obtain ⟨i0, hi, hz0, hz1, hz2⟩ := info_parts info5
  have HS := hide hsrc
  clear hsrc
  go_enter Try.func33, Try.ntmps33
  go_wp2_with (first | (at_make; go_must (refine wpList_make_full _ rfl _ _ 22 rfl w.heap.size 5 i0 (.int .u8 0) 1 Try.underlying22 hi hz0 hz1 _ _ _ _ zs.length rfl rfl (by omega) (by omega) (by rw [hz2]; omega) (by unfold maxLen; omega) (Nat.le_refl _) ?_; intro w1 hown hgrow; have HO := hide (ownsRow_heap hown rfl).1; have HB := hide ((Below.refl w.heap.size w).grown hgrow (Nat.le_refl _) (by intro k h; cases h)); clear hown hgrow)) | (refine wpList_copy_splice rfl (.tmp 7) (.tmp 8) 22 22 rfl 5 Try.underlying22 size5 _ _ _ _ _ _ (by rfl) (by rfl) w.heap.size 0 _ 5 (unhide HO) (zs.map bv) (by simp) (fun h0 => ⟨rfl, by obtain ⟨ad, e, h2⟩ := unhide HS (by simpa using h0); exact ⟨ad, e, fun j u hj => cell_stays (unhide HB) (h2 j u hj)⟩⟩) (by simp [madeCells]) (by intro u hu; simp at hu; obtain ⟨z, _, rfl⟩ := hu; rfl) w.heap.size w (unhide HB) (Nat.le_refl _) ?_; intro w2 H2 hb2))
  go_ret
  refine ⟨rfl, ?_, hb2⟩
  rw [unhide H2, splice_all _ _ (by simp [madeCells])]

structure ROk (w : World) (rp : Nat) (high : Bool) (g : Nat) (zs : List Nat) (p : Nat) : Prop where
  blk : w.heap[rp]? = some (.cells #[.bool true, .bool high, .slice (some ⟨g, 0, none⟩) zs.length zs.length, .int .i64 (p : Int)] 71 (0, 0))
  row : w.heap[g]? = some (.cells (zs.map bv).toArray 5 (0, 0))
  ne : g ≠ rp
  le : p ≤ 8 * zs.length
  small : ∀ z ∈ zs, z < 256

section
variable {w : World} {rp : Nat} {high : Bool} {g : Nat} {zs : List Nat} {p : Nat}
theorem ROk.c0 (h : ROk w rp high g zs p) : w.cell? ⟨rp, 0, none⟩ = some (.bool true) := by simp [World.cell?, h.blk]
theorem ROk.c1 (h : ROk w rp high g zs p) : w.cell? ⟨rp, 1, none⟩ = some (.bool high) := by simp [World.cell?, h.blk]
theorem ROk.c2 (h : ROk w rp high g zs p) : w.cell? ⟨rp, 2, none⟩ = some (.slice (some ⟨g, 0, none⟩) zs.length zs.length) := by simp [World.cell?, h.blk]
theorem ROk.c3 (h : ROk w rp high g zs p) : w.cell? ⟨rp, 3, none⟩ = some (.int .i64 (p : Int)) := by simp [World.cell?, h.blk]
theorem ROk.fz (h : ROk w rp high g zs p) (o : Nat) : w.frozen? ⟨rp, o, none⟩ = false := by simp [World.frozen?, h.blk]
theorem ROk.lt (h : ROk w rp high g zs p) : rp < w.heap.size := by
  rcases Nat.lt_or_ge rp w.heap.size with h' | h'
  · exact h'
  · have := h.blk; rw [Array.getElem?_eq_none h'] at this; cases this
theorem ROk.byte (h : ROk w rp high g zs p) (i : Nat) (hi : i < zs.length) : w.cell? ⟨g, i, none⟩ = some (.int .u8 (zs.getD i 0 : Int)) := by simp [World.cell?, h.row, hi, bv]
theorem ROk.keep {w' : World} (h : ROk w rp high g zs p) (h1 : w'.heap[rp]? = w.heap[rp]?) (h2 : w'.heap[g]? = w.heap[g]?) : ROk w' rp high g zs p :=
  ⟨by rw [h1]; exact h.blk, by rw [h2]; exact h.row, h.ne, h.le, h.small⟩
theorem ROk.drewN (h : ROk w rp high g zs p) (n : Nat) : ROk (w.drewN n) rp high g zs p := ⟨h.blk, h.row, h.ne, h.le, h.small⟩
theorem ROk.set (h : ROk w rp high g zs p) (q : Nat) (hq : q ≤ 8 * zs.length) : ROk (w.setCell ⟨rp, 3, none⟩ (.int .i64 (q : Int))) rp high g zs q :=
  ⟨by rw [heap_setCell_same _ rp 3 _ _ _ h.blk]; simp, by rw [heap_setCell_other _ _ _ _ (by exact h.ne)]; exact h.row, h.ne, hq, h.small⟩
end

set_option maxHeartbeats 400000 in
theorem rgood_yes (pb : Nat) (w : World) (h : w.cell? ⟨pb, 0, none⟩ = some (.bool true)) :
    Calls Try.prog 34 #[.pointer (some ⟨pb, 0, none⟩)] w fun e w' => e = .returned (.bool true) ∧ w' = w := by
  go_enter Try.func34, Try.ntmps34
  go_wp2
  go_ret
  exact ⟨rfl, rfl⟩

set_option maxHeartbeats 1000000 in
theorem newReader_ok (v : Value) (zs : List Nat) (high : Bool) (w : World) (hr : Reads w v zs) (hn : zs.length ≤ 140737488355328) (hs : ∀ z ∈ zs, z < 256) :
    Calls Try.prog 26 #[v, .bool high] w fun e w' => ∃ rp, e = .returned (.pointer (some ⟨rp, 0, none⟩)) ∧ w.heap.size ≤ rp ∧ ROk w' rp high w.heap.size zs 0 ∧ Below w.heap.size w w' := by
  have HR := hide hr
  clear hr
  go_enter Try.func26, Try.ntmps26
  go_wp2_with (go_at_call 33; go_must (refine (fresh_any _ zs _ (unhide HR) hn).mono ?_; rintro e w1 ⟨rfl, h1, h2⟩; have H1 := hide h1; have H2 := hide h2; clear h1 h2))
  go_ret
  have hlt := heap_lt (unhide H1)
  have hsz := (unhide H2).size
  refine ⟨w1.heap.size, rfl, hsz, ⟨?_, ?_, by omega, by omega, hs⟩, (unhide H2).alloc hsz _⟩
  · rw [heap_alloc_new]; rfl
  · rw [Below.heap_alloc _ _ _ hlt]; exact unhide H1

set_option maxHeartbeats 1000000 in
theorem at_ok (rp g p : Nat) (high : Bool) (zs : List Nat) (w : World) (h : ROk w rp high g zs p) :
    Calls Try.prog 29 #[.pointer (some ⟨rp, 0, none⟩)] w fun e w' => e = .returned (.int .i64 (p : Int)) ∧ w' = w := by
  have c0 := h.c0
  have c3 := h.c3
  clear h
  go_enter Try.func29, Try.ntmps29
  go_wp2_with (go_at_call 34; refine (rgood_yes _ _ (by assumption)).mono ?_; rintro e w' ⟨rfl, rfl⟩)
  go_ret
  exact ⟨rfl, rfl⟩

set_option maxHeartbeats 1000000 in
theorem rleft_ok (rp g p : Nat) (high : Bool) (zs : List Nat) (w : World) (h : ROk w rp high g zs p) (hn : zs.length ≤ 140737488355328) :
    Calls Try.prog 35 #[.pointer (some ⟨rp, 0, none⟩)] w fun e w' => e = .returned (.int .i64 (8 * (zs.length : Int) - p)) ∧ ∃ n, w' = w.drewN n := by
  have c2 := h.c2
  have c3 := h.c3
  have hle := h.le
  clear h
  go_enter Try.func35, Try.ntmps35
  go_wp2_with fail
  go_quiet (fail)
  go_wp2
  go_ret
  exact ⟨rfl, nq, rfl⟩

theorem get_step (A B r R : Nat) (hr : r < 8) (hR : R < 64) (hA : A < 2 ^ 64) (hB : B < 256) :
    bits .or .u64 (A : Int) (IntKind.u64.wrap (IntKind.u64.wrap (bits .and .u8 ((B : Int) / 2 ^ min r 8) 1) * 2 ^ min R 64)) = ((A ||| ((B.testBit r).toNat <<< R) : Nat) : Int) := by
  have hd : B / 2 ^ r < 256 := Nat.lt_of_le_of_lt (Nat.div_le_self _ _) hB
  have h1 : bits .and .u8 ((B : Int) / 2 ^ min r 8) 1 = ((B.testBit r).toNat : Int) := by
    rw [Nat.min_eq_left (by omega), show ((B : Int) / 2 ^ r) = ((B / 2 ^ r : Nat) : Int) by simp]
    have h := u8_and_nat (B / 2 ^ r) 1 hd (by decide)
    rw [Nat.and_one_is_mod, ← Nat.shiftRight_eq_div_pow, shift_one] at h
    rw [← Nat.shiftRight_eq_div_pow]
    exact h
  have h2 : (B.testBit r).toNat ≤ 1 := Bool.toNat_le _
  have h3 : 2 ^ R ≤ 2 ^ 63 := Nat.pow_le_pow_right (by decide) (by omega)
  have h4 := Nat.mul_le_mul h2 h3
  rw [h1, IntWalk.u64_in ((B.testBit r).toNat : Int) (by omega), Nat.min_eq_left (by omega), show (((B.testBit r).toNat : Int) * 2 ^ R) = (((B.testBit r).toNat * 2 ^ R : Nat) : Int) by simp, IntWalk.u64_in _ (by omega), u64_or_nat A _ (by omega) (by omega), Nat.shiftLeft_eq]

set_option maxHeartbeats 1000000 in
theorem get_ok (rp g p : Nat) (high : Bool) (zs : List Nat) (n : Int) (w : World) (h : ROk w rp high g zs p) (hn : zs.length ≤ 140737488355328) (h0 : 0 ≤ n) (h1 : n ≤ 64) (h2 : p + n.toNat ≤ 8 * zs.length) :
    Calls Try.prog 27 #[.pointer (some ⟨rp, 0, none⟩), .int .i64 n] w fun e w' => e = .returned (.tuple #[.int .u64 (numAt high n.toNat (fun i => bitIn high zs (p + i)) : Int), .int .i64 0]) ∧ ∃ k, w' = (w.drewN k).setCell ⟨rp, 3, none⟩ (.int .i64 ((p + n.toNat : Nat) : Int)) := by
  obtain ⟨N, rfl⟩ := Int.eq_ofNat_of_zero_le h0
  simp only [Int.toNat_natCast] at *
  have c0 := h.c0
  have H := hide h
  have hN0 : decide ((N : Int) < 0) = false := by simp
  have hN1 : decide (64 < (N : Int)) = false := by simp; omega
  have hlf : ¬ (8 * (zs.length : Int) - p < N) := by omega
  clear h
  go_enter Try.func27, Try.ntmps27
  go_wp2_with (first | (go_at_call 34; refine (rgood_yes _ _ (by assumption)).mono ?_; rintro e w' ⟨rfl, rfl⟩) | (go_at_call 35; refine (rleft_ok rp g p high zs _ (unhide H) hn).mono ?_; rintro e w1 ⟨rfl, nq, rfl⟩))
  go_loopg [6, 24] N (fun gk v c ws => ∃ i k, gk = N - i ∧ i ≤ N ∧ v = .int .u64 (acc high N (fun i => bitIn high zs (p + i)) i : Int) ∧ c = .int .i64 (i : Int) ∧ ws = w'.drewN k)
  case atStart => exact ⟨0, nq, by omega, by omega, rfl, rfl, rfl⟩
  case round =>
    obtain ⟨i, k, rfl, hi, rfl, rfl, rfl⟩ := hrel
    by_cases hlt : i < N
    · have ok := unhide H
      have c1 := ok.c1
      have c2 := ok.c2
      have c3 := ok.c3
      have hb := ok.byte ((p + i) / 8) (by omega)
      have hz : zs.getD ((p + i) / 8) 0 < 256 := by
        have := (unhide H).small (zs.getD ((p + i) / 8) 0) (by rw [List.getD_eq_getElem?_getD, List.getElem?_eq_getElem (by omega)]; exact List.getElem_mem _)
        exact this
      clear ok
      go_wp2_with fail
      obtain ⟨P, hP⟩ : ∃ P, P = p + i := ⟨_, rfl⟩
      rw [show ((p : Int) + (i : Int)) = (P : Int) by omega]
      rw [← hP] at hb hz
      have HP := hide hP
      have hPz : P / 8 < zs.length := by omega
      have hPb : P ≤ 2000000000000000 := by omega
      clear hP
      generalize hB : zs.getD (P / 8) 0 = B at hb hz
      have HB := hide hB
      clear hB
      obtain ⟨q8, hq8⟩ : ∃ q8, q8 = P / 8 := ⟨_, rfl⟩
      obtain ⟨r8, hr8⟩ : ∃ r8, r8 = P % 8 := ⟨_, rfl⟩
      have hqd : Int.tdiv (P : Int) 8 = (q8 : Int) := by rw [hq8]; rfl
      have hrd : Int.tmod (P : Int) 8 = (r8 : Int) := by rw [hr8]; rfl
      rw [← hq8] at hb hPz
      have hq0 : (q8 : Int) < (zs.length : Int) := by omega
      have hr8' : r8 < 8 := by omega
      have hqw : IntKind.i64.wrap (q8 : Int) = (q8 : Int) := IntWalk.i64_in _ (by omega)
      have hrw : IntKind.i64.wrap (r8 : Int) = (r8 : Int) := IntWalk.i64_in _ (by omega)
      have HQ := hide hq8
      have HR := hide hr8
      clear hq8 hr8
      refine wp_tail 17 (by kernel_rfl) (by kernel_rfl) ?_
      simp only [List.take_succ_cons, List.take_zero, List.drop_succ_cons, List.drop_zero]
      repeat (first | still_call (rank_any _ _ _ _ (by omega) (by omega) (by omega)) | still_step)
      try refine wpStill_nil ?_
      go_wp2_with (go_at_call 36; refine (rank_any _ _ _ _ (by omega) (by omega) (by omega)).mono ?_; rintro e w' ⟨rfl, rfl⟩)
      have hacc := acc_lt high N (fun i => bitIn high zs (p + i)) i hi
      have hpow : 2 ^ N ≤ 2 ^ 64 := Nat.pow_le_pow_right (by decide) (by omega)
      rw [get_step _ B (rk high 8 r8) (rk high N i) (rk_lt hr8') (by have := rk_lt (high := high) hlt; omega) (by omega) hz]
      go_roundg (N - (i + 1))
      case measure => omega
      case rel =>
        refine ⟨i + 1, k + 1, rfl, by omega, ?_, by go_num, rfl⟩
        rw [acc, bitIn, ← unhide HP, unhide HB, ← unhide HR]
    · have hiN : i = N := by omega
      subst hiN
      have c3 := (unhide H).c3
      have f3 := (unhide H).fz 3
      have hle := (unhide H).le
      go_wp2
      go_ret2
      exact ⟨rfl, k, rfl⟩

set_option maxHeartbeats 1000000 in
theorem get_end (rp g p : Nat) (high : Bool) (zs : List Nat) (n : Int) (w : World) (h : ROk w rp high g zs p) (hn : zs.length ≤ 140737488355328) (h0 : 0 ≤ n) (h1 : n ≤ 64) (h2 : 8 * (zs.length : Int) - p < n) :
    Calls Try.prog 27 #[.pointer (some ⟨rp, 0, none⟩), .int .i64 n] w fun e w' => e = .returned (.tuple #[.int .u64 0, .int .i64 10]) ∧ ∃ k, w' = w.drewN k := by
  have c0 := h.c0
  have H := hide h
  have hN0 : decide (n < 0) = false := by simp; omega
  have hN1 : decide (64 < n) = false := by simp; omega
  clear h
  go_enter Try.func27, Try.ntmps27
  go_wp2_with (first | (go_at_call 34; refine (rgood_yes _ _ (by assumption)).mono ?_; rintro e w' ⟨rfl, rfl⟩) | (go_at_call 35; refine (rleft_ok rp g p high zs _ (unhide H) hn).mono ?_; rintro e w1 ⟨rfl, nq, rfl⟩))
  go_ret2
  exact ⟨rfl, nq, rfl⟩

theorem tmod8 (p : Nat) : Int.tmod (p : Int) 8 = ((p % 8 : Nat) : Int) := rfl

theorem tdiv8 (p : Nat) : Int.tdiv (p : Int) 8 = ((p / 8 : Nat) : Int) := rfl

set_option maxHeartbeats 1000000 in
theorem whole_ok (rp g p : Nat) (high : Bool) (zs : List Nat) (w : World) (h : ROk w rp high g zs p) :
    Calls Try.prog 48 #[.pointer (some ⟨rp, 0, none⟩)] w fun e w' => e = .returned (.bool (p % 8 == 0)) ∧ w' = w := by
  have c3 := h.c3
  clear h
  go_enter Try.func48, Try.ntmps48
  go_wp2
  go_ret
  refine ⟨?_, rfl⟩
  congr 2
  simp
  rw [Bool.eq_iff_iff]
  simp
  omega

set_option maxHeartbeats 1000000 in
theorem ralign_ok (rp g p : Nat) (high : Bool) (zs : List Nat) (w : World) (h : ROk w rp high g zs p) (hn : zs.length ≤ 140737488355328) :
    Calls Try.prog 41 #[.pointer (some ⟨rp, 0, none⟩)] w fun e w' => e = .returned (.int .i64 0) ∧ ROk w' rp high g zs ((p + 7) / 8 * 8) ∧ w'.heap.size = w.heap.size ∧ w'.os = w.os ∧ w'.tape = w.tape ∧ w'.output = w.output ∧ ∀ x, x ≠ rp → w'.heap[x]? = w.heap[x]? := by
  have c0 := h.c0
  have c3 := h.c3
  have f3 := h.fz 3
  have hle := h.le
  have H := hide h
  clear h
  by_cases h0 : p % 8 = 0
  · have hb : (p % 8 == 0) = true := by simp; omega
    go_enter Try.func41, Try.ntmps41
    go_wp2_with (first | (go_at_call 34; refine (rgood_yes _ _ (by assumption)).mono ?_; rintro e w' ⟨rfl, rfl⟩) | (go_at_call 48; refine (whole_ok rp g p high zs _ (unhide H)).mono ?_; rintro e w1 ⟨rfl, rfl⟩))
    go_ret
    rw [show (p + 7) / 8 * 8 = p by omega]
    exact ⟨rfl, unhide H, rfl, rfl, rfl, rfl, fun _ _ => rfl⟩
  · have hb : (p % 8 == 0) = false := by simp; omega
    obtain ⟨r8, hr8⟩ : ∃ r8, r8 = p % 8 := ⟨_, rfl⟩
    have hrd : Int.tmod (p : Int) 8 = (r8 : Int) := by rw [hr8]; rfl
    have hr1 : 0 < r8 := by omega
    have hr2 : r8 < 8 := by omega
    have hw1 : IntKind.i64.wrap (8 - (r8 : Int)) = 8 - (r8 : Int) := IntWalk.i64_in _ (by omega)
    have hw2 : IntKind.i64.wrap ((p : Int) + (8 - (r8 : Int))) = ((p + 8 - r8 : Nat) : Int) := by rw [IntWalk.i64_in _ (by omega)]; omega
    have HR := hide hr8
    clear hr8
    go_enter Try.func41, Try.ntmps41
    go_wp2_with (first | (go_at_call 34; refine (rgood_yes _ _ (by assumption)).mono ?_; rintro e w' ⟨rfl, rfl⟩) | (go_at_call 48; refine (whole_ok rp g p high zs _ (unhide H)).mono ?_; rintro e w1 ⟨rfl, rfl⟩))
    refine wp_tail 13 (by kernel_rfl) (by kernel_rfl) ?_
    simp only [List.take_succ_cons, List.take_zero, List.drop_succ_cons, List.drop_zero]
    repeat still_step
    try refine wpStill_nil ?_
    go_wp2
    go_ret
    have e : (p + 7) / 8 * 8 = p + 8 - r8 := by have := unhide HR; omega
    rw [e]
    have ok := (unhide H).set (p + 8 - r8) (by omega)
    refine ⟨rfl, ⟨ok.blk, ok.row, ok.ne, ok.le, ok.small⟩, by simp, rfl, rfl, rfl, fun x hx => ?_⟩
    exact heap_setCell_other _ _ _ _ (by exact hx)

set_option maxHeartbeats 1000000 in
theorem rbytes_end (rp g p : Nat) (high : Bool) (zs : List Nat) (n : Int) (w : World) (h : ROk w rp high g zs p) (hz : zs.length ≤ 140737488355328) (h0 : 0 ≤ n) (h8 : p % 8 = 0) (h2 : (zs.length : Int) - (p / 8 : Nat) < n) :
    Calls Try.prog 43 #[.pointer (some ⟨rp, 0, none⟩), .int .i64 n] w fun e w' => e = .returned (.tuple #[.slice none 0 0, .int .i64 10]) ∧ w' = w.drew := by
  have c0 := h.c0
  have c2 := h.c2
  have c3 := h.c3
  have hle := h.le
  have H := hide h
  clear h
  have hd : decide (n < 0) = false := by simp; omega
  have hb : (p % 8 == 0) = true := by simp; omega
  obtain ⟨q8, hq8⟩ : ∃ q8, q8 = p / 8 := ⟨_, rfl⟩
  have hqd : Int.tdiv (p : Int) 8 = (q8 : Int) := by rw [hq8]; rfl
  have hqw : IntKind.i64.wrap (q8 : Int) = (q8 : Int) := IntWalk.i64_in _ (by omega)
  rw [← hq8] at h2
  have hq0 : (q8 : Int) ≤ (zs.length : Int) := by omega
  have hq1 : (0 : Int) ≤ (q8 : Int) := by omega
  clear hq8 h8 hle
  go_enter Try.func43, Try.ntmps43
  go_wp2_with (first | (go_at_call 34; refine (rgood_yes _ _ (by assumption)).mono ?_; rintro e w' ⟨rfl, rfl⟩) | (go_at_call 48; refine (whole_ok rp g p high zs _ (unhide H)).mono ?_; rintro e w1 ⟨rfl, rfl⟩))
  refine wp_tail 10 (by kernel_rfl) (by kernel_rfl) ?_
  simp only [List.take_succ_cons, List.take_zero, List.drop_succ_cons, List.drop_zero]
  repeat still_step
  try refine wpStill_nil ?_
  go_wp2
  all_goals go_ret2
  all_goals exact ⟨rfl, rfl⟩

theorem rbytes_reads {w : World} {g : Nat} {zs : List Nat} (hr : w.heap[g]? = some (.cells (zs.map bv).toArray 5 (0, 0))) (q N cap : Nat) (h : q + N ≤ zs.length) (a : Addr) (ha : 0 < N → a = ⟨g, q, none⟩) :
    Reads w (.slice (some a) N cap) ((zs.drop q).take N) := by
  have hl : ((zs.drop q).take N).length = N := by simp; omega
  refine ⟨some a, cap, by rw [hl], fun h0 => ⟨a, rfl, fun j u hj => ?_⟩⟩
  rw [hl] at h0
  have hjN : j < N := by
    have := (List.getElem?_eq_some_iff.1 hj).1
    simp at this; omega
  have e : a.add j = ⟨g, q + j, none⟩ := by rw [ha h0]; by_cases hq : j = 0 <;> simp [Addr.add, hq]
  rw [e]
  simp only [List.getElem?_map, List.getElem?_take, List.getElem?_drop, hjN, if_true] at hj
  simpa [World.cell?, hr] using hj

theorem rbytes_post {w w2 : World} {rp g q : Nat} {high : Bool} {zs ys : List Nat} {x : Value} (hrp : rp < w.heap.size) (hg : g < w.heap.size) (ok : ROk (w.setCell ⟨rp, 3, none⟩ x) rp high g zs q)
    (h1 : w2.heap[((w.setCell ⟨rp, 3, none⟩ x).drew).heap.size]? = some (.cells (ys.map bv).toArray 5 (0, 0))) (hb : Below ((w.setCell ⟨rp, 3, none⟩ x).drew).heap.size ((w.setCell ⟨rp, 3, none⟩ x).drew) w2) :
    w2.heap[w.heap.size]? = some (.cells (ys.map bv).toArray 5 (0, 0)) ∧ ROk w2 rp high g zs q ∧ Only rp w w2 := by
  have hs : ((w.setCell ⟨rp, 3, none⟩ x).drew).heap.size = w.heap.size := by simp
  rw [hs] at h1 hb
  refine ⟨h1, ok.keep (hb.block _ hrp) (hb.block _ hg), ⟨hb.os, hb.tape, hb.output, by have := hb.size; rw [hs] at this; exact this, fun k hk hne => ?_⟩⟩
  rw [hb.block k hk]
  exact heap_setCell_other _ _ _ _ (by exact hne)

set_option maxHeartbeats 1000000 in
theorem rbytes_ok (rp g p : Nat) (high : Bool) (zs : List Nat) (n : Int) (w : World) (h : ROk w rp high g zs p) (hz : zs.length ≤ 140737488355328) (h0 : 0 ≤ n) (h8 : p % 8 = 0) (h2 : p / 8 + n.toNat ≤ zs.length) (hgs : g < w.heap.size) :
    Calls Try.prog 43 #[.pointer (some ⟨rp, 0, none⟩), .int .i64 n] w fun e w' => e = .returned (.tuple #[.slice (some ⟨w.heap.size, 0, none⟩) n.toNat n.toNat, .int .i64 0]) ∧ w'.heap[w.heap.size]? = some (.cells (((zs.drop (p / 8)).take n.toNat).map bv).toArray 5 (0, 0)) ∧ ROk w' rp high g zs (p + 8 * n.toNat) ∧ Only rp w w' := by
  obtain ⟨N, rfl⟩ := Int.eq_ofNat_of_zero_le h0
  simp only [Int.toNat_natCast] at *
  have c0 := h.c0
  have c2 := h.c2
  have c3 := h.c3
  have f3 := h.fz 3
  have hle := h.le
  have hlt := h.lt
  have H := hide h
  clear h
  have hd : decide ((N : Int) < 0) = false := by simp
  have hb : (p % 8 == 0) = true := by simp; omega
  obtain ⟨q8, hq8⟩ : ∃ q8, q8 = p / 8 := ⟨_, rfl⟩
  have hqd : Int.tdiv (p : Int) 8 = (q8 : Int) := by rw [hq8]; rfl
  have hqw : IntKind.i64.wrap (q8 : Int) = (q8 : Int) := IntWalk.i64_in _ (by omega)
  rw [← hq8] at h2 ⊢
  have hq0 : (q8 : Int) ≤ (zs.length : Int) := by omega
  have hq1 : (0 : Int) ≤ (q8 : Int) := by omega
  have hp8 : 8 * q8 = p := by omega
  have hns : ¬ (((zs.length - q8 : Nat) : Int) < (N : Int)) := by omega
  have hN1 : (N : Int) ≤ ((zs.length - q8 : Nat) : Int) := by omega
  have HP := hide hp8
  have HS := hide ((unhide H).set (p + 8 * N) (by omega))
  have hlen : ((zs.drop q8).take N).length = N := by simp; omega
  clear hq8 h8 hp8
  by_cases hcut : zs.length = q8
  · obtain rfl : N = 0 := by omega
    simp only [Nat.mul_zero, Nat.add_zero] at HS ⊢
    have HR := hide (rbytes_reads (unhide HS).row q8 0 0 (by omega) ⟨g, 0, none⟩ (by omega))
    go_enter Try.func43, Try.ntmps43
    go_wp2_with (first | (go_at_call 34; refine (rgood_yes _ _ (by assumption)).mono ?_; rintro e w' ⟨rfl, rfl⟩) | (go_at_call 48; refine (whole_ok rp g p high zs _ (unhide H)).mono ?_; rintro e w1 ⟨rfl, rfl⟩))
    refine wp_tail 10 (by kernel_rfl) (by kernel_rfl) ?_
    simp only [List.take_succ_cons, List.take_zero, List.drop_succ_cons, List.drop_zero]
    repeat still_step
    try refine wpStill_nil ?_
    go_wp2_with fail
    refine (fresh_any _ ((zs.drop q8).take 0) _ (unhide HR).drew (by omega)).mono ?_
    rintro e w2 ⟨rfl, h1, hb2⟩
    have R := rbytes_post hlt hgs (unhide HS) h1 hb2
    rw [hlen]
    clear h1 hb2
    have HR2 := hide R
    clear R
    go_wp2
    go_ret2
    exact ⟨rfl, unhide HR2⟩
  · have HR := hide (rbytes_reads (unhide HS).row q8 N (zs.length - q8) (by omega) ⟨g, q8, none⟩ (fun _ => rfl))
    go_enter Try.func43, Try.ntmps43
    go_wp2_with (first | (go_at_call 34; refine (rgood_yes _ _ (by assumption)).mono ?_; rintro e w' ⟨rfl, rfl⟩) | (go_at_call 48; refine (whole_ok rp g p high zs _ (unhide H)).mono ?_; rintro e w1 ⟨rfl, rfl⟩))
    refine wp_tail 10 (by kernel_rfl) (by kernel_rfl) ?_
    simp only [List.take_succ_cons, List.take_zero, List.drop_succ_cons, List.drop_zero]
    repeat still_step
    try refine wpStill_nil ?_
    go_wp2_with fail
    rw [show ((p : Int) + 8 * (N : Int)) = ((p + 8 * N : Nat) : Int) by omega]
    refine (fresh_any _ ((zs.drop q8).take N) _ (unhide HR).drew (by omega)).mono ?_
    rintro e w2 ⟨rfl, h1, hb2⟩
    have R := rbytes_post hlt hgs (unhide HS) h1 hb2
    rw [hlen]
    clear h1 hb2
    have HR2 := hide R
    clear R
    go_wp2
    go_ret2
    exact ⟨rfl, unhide HR2⟩

theorem or_u64 (A R : Nat) (bt : Bool) (hR : R < 64) (hA : A < 2 ^ 64) :
    bits .or .u64 (A : Int) (IntKind.u64.wrap ((bt.toNat : Int) * 2 ^ R)) = ((A ||| (bt.toNat <<< R) : Nat) : Int) := by
  have h2 : bt.toNat ≤ 1 := Bool.toNat_le _
  have h3 : 2 ^ R ≤ 2 ^ 63 := Nat.pow_le_pow_right (by decide) (by omega)
  have h4 := Nat.mul_le_mul h2 h3
  rw [show ((bt.toNat : Int) * 2 ^ R) = ((bt.toNat * 2 ^ R : Nat) : Int) by simp, IntWalk.u64_in _ (by omega), u64_or_nat A _ (by omega) (by omega), Nat.shiftLeft_eq]

theorem ROk.only {w w' : World} {rp : Nat} {high : Bool} {g : Nat} {zs : List Nat} {p x : Nat} (h : ROk w rp high g zs p) (ho : Only x w w') (h1 : rp ≠ x) (h2 : g ≠ x) : ROk w' rp high g zs p :=
  h.keep (ho.keep rp h.lt h1) (ho.keep g (heap_lt h.row) h2)

theorem ROk.alloc {w : World} {rp : Nat} {high : Bool} {g : Nat} {zs : List Nat} {p : Nat} (h : ROk w rp high g zs p) (o : Obj) : ROk (w.alloc o) rp high g zs p :=
  h.keep (Below.heap_alloc _ _ _ h.lt) (Below.heap_alloc _ _ _ (heap_lt h.row))

theorem get_only {w : World} {rp k q : Nat} {high : Bool} {g : Nat} {zs : List Nat} {p : Nat} (h : ROk w rp high g zs p) (hq : q ≤ 8 * zs.length) : ROk ((w.drewN k).setCell ⟨rp, 3, none⟩ (.int .i64 (q : Int))) rp high g zs q ∧ Only rp w ((w.drewN k).setCell ⟨rp, 3, none⟩ (.int .i64 (q : Int))) :=
  ⟨(h.drewN k).set q hq, (Only.drewN rp w k).set 3 _⟩

theorem align_int (p : Nat) : ((p : Int) + 7) / 8 * 8 = (((p + 7) / 8 * 8 : Nat) : Int) := by omega


end Go.Proofs.Ytppbnodgnphaaaa
