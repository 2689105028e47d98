/- evenChances, New, Bit, the closures, Direct (the program's). -/
import Derived.Test.YtbolhbjipmndeaaPg
import Derived.Test.YtbolhbjipmndeaaPp
import Derived.Test.YtbolhbjipmndeaaDTr
import Derived.Test.YtbolhbjipmndeaaDNw
namespace Go.Proofs.Ytbolhbjipmndeaa.D
open Go.RowKit Rang
set_option maxRecDepth 100000
set_option linter.unusedVariables false
attribute [local go_sem ↓] Go.wp_at_zero Go.wp_at_succ

theorem info91 : (Try.prog.info? 91).map (fun i => (i.zero, i.size, i.bytes)) = some (some (.int .u16 0), 1, 2) := by kernel_rfl

theorem u16s_made (w : World) (n : Nat) (hn : n ≤ 2000000) : (Instr.makeSlice 65 (.int .i64 (n : Int)) (.int .i64 (n : Int))).run Try.prog w = .ok (.slice (some ⟨w.heap.size, 0, none⟩) n n) (w.alloc (.cells ((List.replicate n 0).map fun p : Nat => Value.int .u16 (p : Int)).toArray 91)) := by
  obtain ⟨i0, hi, hz0, hz1, hz2⟩ := info_parts info91
  have := run_make (P := Try.prog) w 65 91 i0 (.int .u16 0) Try.underlying65 hi hz0 .i64 .i64 (n : Int) (n : Int) (by omega) (by omega) (by rw [hz2]; omega) (by omega)
  rw [hz1] at this
  rw [this]
  congr 3
  apply Array.ext (by simp [madeCells])
  intro k k1 k2
  simp [madeCells, Value.cells, Nat.mod_one]

theorem has_yes (a0 : Option Addr) (n c : Nat) (i : Int) (w : World) (h : 0 ≤ i ∧ i < (n : Int)) : Calls Try.prog 45 #[.slice a0 n c, .int .i64 i] w fun e w' => e = .returned (.bool true) ∧ w' = w := has_ok a0 n c i true w ⟨fun _ => h, fun _ => rfl⟩
theorem has_no (a0 : Option Addr) (n c : Nat) (i : Int) (w : World) (h : ¬ (0 ≤ i ∧ i < (n : Int))) : Calls Try.prog 45 #[.slice a0 n c, .int .i64 i] w fun e w' => e = .returned (.bool false) ∧ w' = w := has_ok a0 n c i false w ⟨fun e => (by cases e), fun e => absurd e h⟩

set_option maxHeartbeats 2000000 in
theorem peven_ok (n : Nat) (w : World) (hn : n ≤ 65536) :
    Calls Try.prog 39 #[.int .i64 (n : Int)] w fun e w' => e = .returned (.slice (some ⟨w.heap.size, 0, none⟩) n n) ∧ PCh w' w.heap.size (List.replicate n 1024) ∧ Below w.heap.size w w' := by
  have hmk := u16s_made w n (by omega)
  have H0 : Hid (PCh (w.alloc (.cells ((List.replicate n 0).map fun p : Nat => Value.int .u16 (p : Int)).toArray 91)) w.heap.size (evenTo n 0)) := hide (by
    unfold PCh evenTo
    rw [heap_alloc_new]
    simp)
  have HB : Hid (Below w.heap.size w (w.alloc (.cells ((List.replicate n 0).map fun p : Nat => Value.int .u16 (p : Int)).toArray 91))) := hide ((Below.refl _ _).alloc (Nat.le_refl _) _)
  obtain ⟨CS, hCS⟩ : ∃ CS, CS = ((List.replicate n 0).map fun p : Nat => Value.int .u16 (p : Int)).toArray := ⟨_, rfl⟩
  rw [← hCS] at hmk H0 HB
  clear hCS
  go_enter Try.func39, Try.ntmps39
  go_wp2_with fail
  clear hmk
  go_loopg [8] n (fun gk d ws => ∃ (i : Nat), gk = n - i ∧ i ≤ n ∧ d = .int .i64 (i : Int) ∧ Hid (PCh ws w.heap.size (evenTo n i)) ∧ Hid (Below w.heap.size w ws))
  case atStart => exact ⟨0, by omega, by omega, rfl, H0, HB⟩
  case round =>
    clear H0 HB
    obtain ⟨i, rfl, hi, rfl, H0, HB⟩ := hrel
    by_cases hlt : i < n
    · have tl : (i : Int) < (n : Int) := by omega
      have c1 := (unhide H0).cell i (by rw [evenTo_len n i hi]; exact hlt)
      have c2 := (unhide H0).free i
      have HS := hide ((unhide H0).set i 1024)
      rw [evenTo_set n i hlt] at HS
      generalize (evenTo n i).getD i 0 = x at c1
      go_wp2_with fail
      go_roundg (n - (i + 1))
      case measure => omega
      case rel => exact ⟨i + 1, rfl, by omega, by go_num, hide (unhide HS), hide ((unhide HB).setCell (Nat.le_refl _) _)⟩
    · obtain rfl : n = i := by omega
      have tl : ¬ (n : Int) < (n : Int) := by omega
      go_wp2_with fail
      go_ret
      refine ⟨rfl, ?_, unhide HB⟩
      have := unhide H0
      unfold evenTo at this
      simpa using this

/-- an encoder of the program's as its calls leave it -/
structure PS (B : Nat) (w : World) (pb gc : Nat) (ov : Value) (c : Enc) (ch : List Nat) (k : Nat) : Prop where
  pc : PC B w pb gc ov c ch
  wide : ∃ T, Wide c T k
  chs : Chs ch
  base : B ≤ w.heap.size

set_option maxHeartbeats 2000000 in
theorem pnew_ok (n : Nat) (w : World) (hn : n ≤ 65536) :
    Calls Try.prog 8 #[.int .i64 (n : Int)] w fun e w' => ∃ pb, e = .returned (.tuple #[.pointer (some ⟨pb, 0, none⟩), .int .i64 0]) ∧ PS w.heap.size w' pb w.heap.size (.slice none 0 0) enc0 (List.replicate n 1024) 0 ∧ Below w.heap.size w w' := by
  have HC := hide (peven_ok n w hn)
  go_enter Try.func8, Try.ntmps8
  go_wp2_with (first | (go_at_call 38; refine (isCount_yes n _ hn).mono ?_; rintro e w1 ⟨rfl, rfl⟩) | (go_at_call 39; refine (unhide HC).mono ?_; rintro e w1 ⟨rfl, h1, h2⟩; have H1 := hide h1; have H2 := hide h2; clear h1 h2 HC))
  go_ret2
  have hs := (unhide H2).size
  refine ⟨w1.heap.size, rfl, ⟨⟨⟨?_, World.ownsRow_nil _ _ _ _, hs⟩, ?_, Nat.le_refl _⟩, ⟨0, wide0⟩, ?_, ?_⟩, (unhide H2).alloc hs _⟩
  · rw [heap_alloc_new, List.length_replicate]
    rfl
  · exact (unhide H1).of (Below.heap_alloc _ _ _ (unhide H1).lt)
  · intro p hp
    rw [List.mem_replicate] at hp
    omega
  · simp; omega

set_option maxHeartbeats 2000000 in
theorem pnew_bad (n : Int) (w : World) (hn : n < 0 ∨ 65536 < n) : Calls Try.prog 8 #[.int .i64 n] w fun e w' => e = .returned (.tuple #[.pointer none, .int .i64 2]) ∧ w = w' := by
  go_enter Try.func8, Try.ntmps8
  go_wp2_with (first | (go_at_call 38; refine (isCount_no n _ hn).mono ?_; rintro e w1 ⟨rfl, rfl⟩))
  go_ret2
  exact ⟨rfl, rfl⟩

theorem wide_ptame {c : Enc} {T k : Nat} (h : Wide c T k) (hk : k ≤ 100000000000000) : PTame c ∧ c.low + c.rng ≤ 8589934592 := by
  have h1 := h.st.lo
  have h2 := h.st.len
  have h3 := h.lo
  have h4 := h.st.wait
  exact ⟨⟨by omega, h.st.kept, by omega⟩, h1⟩

theorem pput_ps (B pb gc : Nat) (w : World) (ov : Value) (c : Enc) (ch : List Nat) (k i : Nat) (bit : Bool) (h : PS B w pb gc ov c ch k) (hi : i < ch.length) (hk : k ≤ 90000000000000) :
    Calls Try.prog 46 #[.pointer (some ⟨pb, 0, none⟩), .int .i64 (i : Int), .int .i64 (bit.toNat : Int)] w fun e w' => e = .returned (.tuple #[]) ∧ ∃ ov' k', PS B w' pb gc ov' (putE c (ch.getD i 0) bit) (ch.set i (after (ch.getD i 0) bit)) k' ∧ k' ≤ k + 1 ∧ Tch w w' pb gc 0 ov ov' := by
  obtain ⟨T, hw⟩ := h.wide
  have h1 := wide_ptame hw (by omega)
  refine (pput_ok B pb gc w ov c ch i bit h.pc hi (h.chs.at hi) h1.1 h1.2 hw.lo hw.hi h.base).mono ?_
  rintro e w' ⟨rfl, ov', h2, h3⟩
  have h4 := (put_wide hw (h.chs.at hi) bit).1
  exact ⟨rfl, ov', _, ⟨h2, ⟨_, h4⟩, h.chs.set hi bit, Nat.le_trans h.base h3.size⟩, stepK_le _ _, h3⟩

theorem pdir_ps (B pb gc : Nat) (w : World) (ov : Value) (c : Enc) (ch : List Nat) (k : Nat) (bit : Bool) (h : PS B w pb gc ov c ch k) (hk : k ≤ 90000000000000) :
    Calls Try.prog 51 #[.pointer (some ⟨pb, 0, none⟩), .int .i64 (bit.toNat : Int)] w fun e w' => e = .returned (.tuple #[]) ∧ ∃ ov' k', PS B w' pb gc ov' (dirE c bit) ch k' ∧ k' ≤ k + 1 ∧ Tch w w' pb gc 0 ov ov' := by
  obtain ⟨T, hw⟩ := h.wide
  have h1 := wide_ptame hw (by omega)
  refine (pdir_ok B pb gc w ov c ch bit h.pc h1.1 h1.2 hw.lo hw.hi h.base).mono ?_
  rintro e w' ⟨rfl, ov', h2, h3⟩
  have h4 := (dir_wide hw bit).1
  exact ⟨rfl, ov', _, ⟨h2, ⟨_, h4⟩, h.chs, Nat.le_trans h.base h3.size⟩, stepK_le _ _, h3⟩

set_option maxHeartbeats 2000000 in
theorem pbit_ok (B pb gc : Nat) (w : World) (ov : Value) (c : Enc) (ch : List Nat) (k : Nat) (i : Nat) (bit : Bool) (h : PS B w pb gc ov c ch k) (hi : i < ch.length) (hk : k ≤ 90000000000000) :
    Calls Try.prog 16 #[.pointer (some ⟨pb, 0, none⟩), .int .i64 (i : Int), .int .i64 (bit.toNat : Int)] w fun e w' => e = .returned (.int .i64 0) ∧ ∃ ov' k', PS B w' pb gc ov' (putE c (ch.getD i 0) bit) (ch.set i (after (ch.getD i 0) bit)) k' ∧ k' ≤ k + 1 ∧ Tch w w' pb gc 0 ov ov' := by
  have HP := hide (pput_ps B pb gc w ov c ch k i bit h hi hk)
  have HG := hide (good_ok pb w true h.pc.enc.made)
  have c1 := h.pc.enc.chs
  obtain ⟨n, hn⟩ : ∃ n, n = ch.length := ⟨_, rfl⟩
  rw [← hn] at c1 hi
  have HI : Hid (0 ≤ (i : Int) ∧ (i : Int) < (n : Int)) := hide ⟨by omega, by omega⟩
  have tb : bit.toNat = 0 ∨ bit.toNat = 1 := by cases bit <;> simp
  clear h hn
  obtain ⟨y, hy⟩ : ∃ y, y = bit.toNat := ⟨_, rfl⟩
  rw [← hy] at HP tb ⊢
  clear hy
  rcases tb with rfl | rfl
  · go_enter Try.func16, Try.ntmps16
    go_wp2_with (first | (go_at_call 41; refine (unhide HG).mono ?_; rintro e w1 ⟨rfl, rfl⟩) | (go_at_call 45; refine (has_yes _ n n (i : Int) _ (unhide HI)).mono ?_; rintro e w1 ⟨rfl, rfl⟩) | (go_at_call 46; refine (unhide HP).mono ?_; rintro e w1 ⟨rfl, ov', k', h1, h2, h3⟩))
    go_ret
    exact ⟨rfl, ov', k', h1, h2, h3⟩
  · go_enter Try.func16, Try.ntmps16
    go_wp2_with (first | (go_at_call 41; refine (unhide HG).mono ?_; rintro e w1 ⟨rfl, rfl⟩) | (go_at_call 45; refine (has_yes _ n n (i : Int) _ (unhide HI)).mono ?_; rintro e w1 ⟨rfl, rfl⟩) | (go_at_call 46; refine (unhide HP).mono ?_; rintro e w1 ⟨rfl, ov', k', h1, h2, h3⟩))
    go_ret
    exact ⟨rfl, ov', k', h1, h2, h3⟩

set_option maxHeartbeats 2000000 in
theorem pbit_bad (B pb gc : Nat) (w : World) (ov : Value) (c : Enc) (ch : List Nat) (i bit : Int) (h : PC B w pb gc ov c ch) (hb : ¬ (0 ≤ i ∧ i < (ch.length : Int) ∧ 0 ≤ bit ∧ bit ≤ 1)) :
    Calls Try.prog 16 #[.pointer (some ⟨pb, 0, none⟩), .int .i64 i, .int .i64 bit] w fun e w' => e = .returned (.int .i64 2) ∧ w = w' := by
  have HG := hide (good_ok pb w true h.enc.made)
  have c1 := h.enc.chs
  obtain ⟨n, hn⟩ : ∃ n, n = ch.length := ⟨_, rfl⟩
  rw [← hn] at c1 hb
  clear h hn
  by_cases hi : 0 ≤ i ∧ i < (n : Int)
  · have HI : Hid (0 ≤ i ∧ i < (n : Int)) := hide hi
    have t1 : ¬ bit = 0 := by omega
    have t2 : ¬ bit = 1 := by omega
    have t3 : (bit != 0) = true := by simp [t1]
    have t4 : (bit != 1) = true := by simp [t2]
    clear hb hi
    go_enter Try.func16, Try.ntmps16
    go_wp2_with (first | (go_at_call 41; refine (unhide HG).mono ?_; rintro e w1 ⟨rfl, rfl⟩) | (go_at_call 45; refine (has_yes _ n n i _ (unhide HI)).mono ?_; rintro e w1 ⟨rfl, rfl⟩))
    go_ret
    exact ⟨rfl, rfl⟩
  · have HI : Hid (¬ (0 ≤ i ∧ i < (n : Int))) := hide hi
    clear hb hi
    go_enter Try.func16, Try.ntmps16
    go_wp2_with (first | (go_at_call 41; refine (unhide HG).mono ?_; rintro e w1 ⟨rfl, rfl⟩) | (go_at_call 45; refine (has_no _ n n i _ (unhide HI)).mono ?_; rintro e w1 ⟨rfl, rfl⟩))
    go_ret
    exact ⟨rfl, rfl⟩
end Go.Proofs.Ytbolhbjipmndeaa.D
