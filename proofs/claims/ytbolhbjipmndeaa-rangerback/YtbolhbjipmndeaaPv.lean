/- The closures that tell bits, Direct, putTree, Tree, Reverse (the program's). -/
import Derived.Test.YtbolhbjipmndeaaPn
namespace Go.Proofs.Ytbolhbjipmndeaa.D
open Go.RowKit Rang
set_option maxRecDepth 100000
set_option linter.unusedVariables false
attribute [local go_sem ↓] Go.wp_at_zero Go.wp_at_succ

theorem i64_and1 (n : Int) : bits .and .i64 n 1 = n % 2 := by
  have h1 : (BitVec.ofInt 64 1).toNat = 2 ^ 1 - 1 := by decide
  have key : (BitVec.ofInt 64 n &&& BitVec.ofInt 64 1).toNat = (n % ((2 ^ 64 : Nat) : Int)).toNat % 2 ^ 1 := by
    rw [BitVec.toNat_and, BitVec.toNat_ofInt, h1, Nat.and_two_pow_sub_one_eq_mod]
  show IntKind.i64.wrap ((BitVec.ofInt 64 n &&& BitVec.ofInt 64 1).toNat : Nat) = n % 2
  rw [key, IntKind.wrap_i64]
  omega

theorem bit_and (v i : Nat) : bits .and .i64 ((v : Int) / 2 ^ i) 1 = ((v.testBit i).toNat : Int) := by
  rw [i64_and1, show ((v : Int) / 2 ^ i) = ((v / 2 ^ i : Nat) : Int) by simp, ← bit_mod]
  omega

/-- a captured number in a block of its own -/
def Cap (w : World) (a : Nat) (x : Int) : Prop := w.heap[a]? = some (.cells #[.int .i64 x] 3 (0, 0))

theorem Cap.cell {w : World} {a : Nat} {x : Int} (h : Cap w a x) : w.cell? ⟨a, 0, none⟩ = some (.int .i64 x) := by simp [World.cell?, show w.heap[a]? = _ from h]
theorem Cap.lt {w : World} {a : Nat} {x : Int} (h : Cap w a x) : a < w.heap.size := heap_lt h

theorem Cap.keep {B : Nat} {w w' : World} {pb gc : Nat} {ov ov' : Value} {c : Enc} {ch : List Nat} {a : Nat} {x : Int} (h : Cap w a x) (he : PC B w pb gc ov c ch) (ht : Tch w w' pb gc 0 ov ov') : Cap w' a x := by
  unfold Cap
  rw [ht.keep a h.lt ?_ ?_ ?_]
  · exact h
  · rintro rfl
    have := he.enc.cells
    rw [show w.heap[a]? = _ from h] at this
    injection this with this
    injection this with _ h2
    cases h2
  · rintro rfl
    have := he.chs
    rw [PCh, show w.heap[a]? = _ from h] at this
    injection this with this
    injection this with _ h2
    cases h2
  · intro e
    rcases he.enc.row.2 with ⟨e1, e2⟩ | ⟨g, cap, cur, e1, hb, hh, _⟩
    · rw [e1] at e; cases e
    · rw [e1] at e
      obtain rfl : g = a := Option.some.inj e
      rw [show w.heap[g]? = _ from h] at hh
      injection hh with hh
      injection hh with _ h2
      cases h2

set_option maxHeartbeats 1000000 in
theorem high_ok (v n : Int) (w : World) : Calls Try.prog 50 #[.int .i64 v, .int .i64 n] w fun e w' => e = .returned (.func (.func 73) #[] #[.pointer (some ⟨w.heap.size, 0, none⟩), .pointer (some ⟨w.heap.size + 1, 0, none⟩)]) ∧ w' = (w.alloc (.cells #[.int .i64 v] 3)).alloc (.cells #[.int .i64 n] 3) := by
  go_enter Try.func50, Try.ntmps50
  go_wp2_with fail
  go_ret
  exact ⟨by simp, rfl⟩

set_option maxHeartbeats 1000000 in
theorem low_ok (v : Int) (w : World) : Calls Try.prog 55 #[.int .i64 v] w fun e w' => e = .returned (.func (.func 75) #[] #[.pointer (some ⟨w.heap.size, 0, none⟩)]) ∧ w' = w.alloc (.cells #[.int .i64 v] 3) := by
  go_enter Try.func55, Try.ntmps55
  go_wp2_with fail
  go_ret
  exact ⟨by simp, rfl⟩

theorem caps_high (v n : Int) (w : World) : Cap ((w.alloc (.cells #[.int .i64 v] 3)).alloc (.cells #[.int .i64 n] 3)) w.heap.size v ∧ Cap ((w.alloc (.cells #[.int .i64 v] 3)).alloc (.cells #[.int .i64 n] 3)) (w.heap.size + 1) n := by
  constructor
  · unfold Cap
    rw [Below.heap_alloc _ _ _ (by simp), heap_alloc_new]
  · unfold Cap
    have := heap_alloc_new (w.alloc (.cells #[.int .i64 v] 3)) (.cells #[.int .i64 n] 3)
    simpa using this

theorem caps_low (v : Int) (w : World) : Cap (w.alloc (.cells #[.int .i64 v] 3)) w.heap.size v := by
  unfold Cap
  rw [heap_alloc_new]

set_option maxHeartbeats 1000000 in
theorem tell_high (a b v n t : Nat) (w : World) (h1 : Cap w a v) (h2 : Cap w b n) (ht : t < n) (hn : n ≤ 31) : Calls Try.prog 73 #[.int .i64 (t : Int), .pointer (some ⟨a, 0, none⟩), .pointer (some ⟨b, 0, none⟩)] w fun e w' => e = .returned (.int .i64 ((v.testBit (n - 1 - t)).toNat : Int)) ∧ w' = w := by
  have c1 := h1.cell
  have c2 := h2.cell
  obtain ⟨m, hm⟩ : ∃ m, m = n - 1 - t := ⟨_, rfl⟩
  have hb := bit_and v m
  rw [← hm]
  generalize (v.testBit m).toNat = y at hb ⊢
  have f1 : wrap64 ((n : Int) - 1) = (n : Int) - 1 := IntWalk.wrap64_in _ (by omega)
  have f2 : (n : Int) - 1 - (t : Int) = (m : Int) := by omega
  have f3 : wrap64 (m : Int) = (m : Int) := IntWalk.wrap64_in _ (by omega)
  have hm2 : m < 64 := by omega
  have f4 : min m 64 = m := by omega
  have f5 : ¬ (m : Int) < 0 := by omega
  clear hm h1 h2
  go_enter Try.func73, Try.ntmps73
  go_wp2_with fail
  go_ret
  exact ⟨rfl, rfl⟩

set_option maxHeartbeats 1000000 in
theorem tell_low (a v t : Nat) (w : World) (h1 : Cap w a v) (ht : t ≤ 31) : Calls Try.prog 75 #[.int .i64 (t : Int), .pointer (some ⟨a, 0, none⟩)] w fun e w' => e = .returned (.int .i64 ((v.testBit t).toNat : Int)) ∧ w' = w := by
  have c1 := h1.cell
  have hb := bit_and v t
  generalize (v.testBit t).toNat = y at hb ⊢
  have hm2 : t < 64 := by omega
  have f4 : min t 64 = t := by omega
  have f5 : ¬ (t : Int) < 0 := by omega
  clear h1
  go_enter Try.func75, Try.ntmps75
  go_wp2_with fail
  go_ret
  exact ⟨rfl, rfl⟩

theorem PC.alloc {B : Nat} {w : World} {pb gc : Nat} {ov : Value} {c : Enc} {ch : List Nat} (h : PC B w pb gc ov c ch) (O : Obj) : PC B (w.alloc O) pb gc ov c ch :=
  ⟨⟨by rw [Below.heap_alloc _ _ _ (heap_lt h.enc.cells)]; exact h.enc.cells, h.enc.row.alloc _, h.enc.lo⟩, h.chs.of (Below.heap_alloc _ _ _ h.chs.lt), h.lo⟩

theorem PS.alloc {B : Nat} {w : World} {pb gc : Nat} {ov : Value} {c : Enc} {ch : List Nat} {k : Nat} (h : PS B w pb gc ov c ch k) (O : Obj) : PS B (w.alloc O) pb gc ov c ch k := ⟨h.pc.alloc O, h.wide, h.chs, by have := h.base; simp; omega⟩

theorem Tch.alloc {w w1 : World} {pb gc : Nat} {v v1 : Value} (h : Tch w w1 pb gc 0 v v1) (O : Obj) : Tch w (w1.alloc O) pb gc 0 v v1 := ⟨h.os, h.tape, h.output, by have := h.size; simp; omega, fun k hk h1 h2 h3 => by rw [Below.heap_alloc _ _ _ (Nat.lt_of_lt_of_le hk h.size)]; exact h.keep k hk h1 h2 h3, h.lies⟩

set_option maxHeartbeats 4000000 in
theorem pdirect_ok (B pb gc : Nat) (w : World) (ov : Value) (c : Enc) (ch : List Nat) (k v n : Nat) (h : PS B w pb gc ov c ch k) (hn : n ≤ 31) (hv : v < 2 ^ n) (hk : k ≤ 80000000000000) :
    Calls Try.prog 18 #[.pointer (some ⟨pb, 0, none⟩), .int .i64 (v : Int), .int .i64 (n : Int)] w fun e w' => e = .returned (.int .i64 0) ∧ ∃ ov' k', PS B w' pb gc ov' (dirsE v n c) ch k' ∧ k' ≤ k + n ∧ Tch w w' pb gc 0 ov ov' := by
  have HE := hide h
  have HG := hide (good_ok pb w true h.pc.enc.made)
  have H1 := hide (isDirect_yes n w hn)
  have H2 := hide (hasBits_yes v n w hn hv)
  have H3 := hide (high_ok v n w)
  clear h hv
  go_enter Try.func18, Try.ntmps18
  go_wp2_with (first | (go_at_call 41; refine (unhide HG).mono ?_; rintro e w1 ⟨rfl, rfl⟩) | (go_at_call 48; refine (unhide H1).mono ?_; rintro e w1 ⟨rfl, rfl⟩) | (go_at_call 49; refine (unhide H2).mono ?_; rintro e w1 ⟨rfl, rfl⟩) | (go_at_call 50; refine (unhide H3).mono ?_; rintro e w2 ⟨rfl, hw2⟩; have hc := caps_high (v : Int) (n : Int) w1; rw [← hw2] at hc; have HC := hide hc; have HE2 : Hid (PS B w2 pb gc ov c ch k) := hide (by rw [hw2]; exact ((unhide HE).alloc _).alloc _); have HT2 : Hid (Tch w1 w2 pb gc 0 ov ov) := hide (by rw [hw2]; exact ((Tch.refl w1 pb gc 0 ov).alloc _).alloc _); clear hw2 hc))
  clear HG H1 H2 H3 HE
  obtain ⟨a, ha⟩ : ∃ a, a = w1.heap.size := ⟨_, rfl⟩
  rw [← ha] at HC ⊢
  clear ha
  generalize a + 1 = b at HC ⊢
  go_loopg [25] n (fun gk d ws => ∃ (i : Nat) (c' : Enc) (ov' : Value) (k' : Nat), i + gk = n ∧ d = .int .i64 (i : Int) ∧ Hid (PS B ws pb gc ov' c' ch k') ∧ Hid (dirsE v gk c' = dirsE v n c) ∧ Hid (k' + gk ≤ k + n) ∧ Hid (Tch w1 ws pb gc 0 ov ov') ∧ Hid (Cap ws a v ∧ Cap ws b n))
  case atStart => exact ⟨0, c, ov, k, by omega, rfl, HE2, hide rfl, hide (Nat.le_refl _), HT2, HC⟩
  case round =>
    clear HE2 HT2 HC
    obtain ⟨i, c', ov', k', hi, rfl, HE, HX, HK, HT, HC⟩ := hrel
    by_cases hlt : i < n
    · have tl : (i : Int) < (n : Int) := by omega
      obtain ⟨m, rfl⟩ : ∃ m, gk = m + 1 := ⟨gk - 1, by omega⟩
      have hnm : n - 1 - i = m := by omega
      have HB := hide (tell_high a b v n i wr (unhide HC).1 (unhide HC).2 hlt hn)
      rw [hnm] at HB
      have HP := hide (pdir_ps B pb gc wr ov' c' ch k' (v.testBit m) (unhide HE) (by have := unhide HK; omega))
      clear hnm
      obtain ⟨y, hy⟩ : ∃ y, y = (v.testBit m).toNat := ⟨_, rfl⟩
      rw [← hy] at HB HP
      clear hy
      go_wp2_with (first | (go_at_call 73; refine (unhide HB).mono ?_; rintro e w3 ⟨rfl, rfl⟩) | (go_at_call 51; refine (unhide HP).mono ?_; rintro e w4 ⟨rfl, ov4, k4, h1, h2, h3⟩; have H1 := hide h1; have H2 := hide h2; have H3 := hide h3; clear h1 h2 h3))
      go_roundg m
      case measure => omega
      case rel => exact ⟨i + 1, _, ov4, k4, by omega, by go_num, H1, hide ((unhide HX)), hide (by have := unhide HK; have := unhide H2; omega), hide ((unhide HT).trans (unhide H3)), hide ⟨(unhide HC).1.keep (unhide HE).pc (unhide H3), (unhide HC).2.keep (unhide HE).pc (unhide H3)⟩⟩
    · obtain rfl : n = i := by omega
      obtain rfl : gk = 0 := by omega
      have tl : ¬ (n : Int) < (n : Int) := by omega
      go_wp2_with fail
      go_ret
      have := unhide HX
      exact ⟨rfl, ov', k', by rw [← this]; exact unhide HE, by have := unhide HK; omega, unhide HT⟩

theorem dirOk_nat {v n : Int} (h : DirOk v n) : ∃ V M : Nat, v = V ∧ n = M ∧ M ≤ 31 ∧ V < 2 ^ M := by
  obtain ⟨M, rfl⟩ := Int.eq_ofNat_of_zero_le h.1
  obtain ⟨V, rfl⟩ := Int.eq_ofNat_of_zero_le h.2.2.1
  refine ⟨V, M, rfl, rfl, by have := h.2.1; omega, ?_⟩
  have := h.2.2.2
  rw [show (M : Int).toNat = M from rfl] at this
  exact_mod_cast this

set_option maxHeartbeats 2000000 in
theorem pdirect_bad (B pb gc : Nat) (w : World) (ov : Value) (c : Enc) (ch : List Nat) (v n : Int) (h : PC B w pb gc ov c ch) (hb : ¬ DirOk v n) : Calls Try.prog 18 #[.pointer (some ⟨pb, 0, none⟩), .int .i64 v, .int .i64 n] w fun e w' => e = .returned (.int .i64 2) ∧ w = w' := by
  have HG := hide (good_ok pb w true h.enc.made)
  clear h
  by_cases h1 : 0 ≤ n ∧ n ≤ 31
  · obtain ⟨m, rfl⟩ := Int.eq_ofNat_of_zero_le h1.1
    have hm : m ≤ 31 := by omega
    have h2 : ¬ (0 ≤ v ∧ v < 2 ^ m) := fun h => hb ⟨h1.1, h1.2, h.1, h.2⟩
    have H1 := hide (isDirect_yes m w hm)
    have H2 := hide (hasBits_no v m w hm h2)
    clear hb h1 h2
    go_enter Try.func18, Try.ntmps18
    go_wp2_with (first | (go_at_call 41; refine (unhide HG).mono ?_; rintro e w1 ⟨rfl, rfl⟩) | (go_at_call 48; refine (unhide H1).mono ?_; rintro e w1 ⟨rfl, rfl⟩) | (go_at_call 49; refine (unhide H2).mono ?_; rintro e w1 ⟨rfl, rfl⟩))
    go_ret
    exact ⟨rfl, rfl⟩
  · have H1 := hide (isDirect_no n w h1)
    clear hb h1
    go_enter Try.func18, Try.ntmps18
    go_wp2_with (first | (go_at_call 41; refine (unhide HG).mono ?_; rintro e w1 ⟨rfl, rfl⟩) | (go_at_call 48; refine (unhide H1).mono ?_; rintro e w1 ⟨rfl, rfl⟩))
    go_ret
    exact ⟨rfl, rfl⟩
end Go.Proofs.Ytbolhbjipmndeaa.D
