/- What a code's Put does. -/
import Derived.Test.YtclccccodeekmaaWord
import Derived.Test.YtclccccodeekmaaWays
import Derived.Test.YtclccccodeekmaaNobody
namespace Go.Proofs.Ytclccccodeekmaa
open Go.RowKit Mth
set_option linter.unusedVariables false

theorem WOk.below {w w' : World} {pb : Nat} {high : Bool} {v : Value} {m : Nat} {L : List Bool} {f : Nat} (h : WOk w pb high v m L f) (hb : Below w.heap.size w w') : WOk w' pb high v m L f :=
  h.keep (hb.block _ h.lt) (fun g hg => hb.block _ (h.row.lt g hg).2)

theorem Chg.of_below {w w' : World} {pb : Nat} {v : Value} (hb : Below w.heap.size w w') : Chg pb v w v w' :=
  ⟨hb.os, hb.tape, hb.output, hb.size, fun k hk _ _ => hb.block k hk, .inl rfl⟩

theorem bits_one (high : Bool) (W i : Nat) : bitsOf high (W / 2 ^ i % 2) 1 = [W.testBit i] := by
  have h1 : (W / 2 ^ i % 2).testBit 0 = W.testBit i := by
    rw [Nat.testBit_zero, Nat.testBit_eq_decide_div_mod_eq]
    simp
  have h2 : rk high 1 0 = 0 := by cases high <;> rfl
  have := bitsOf_take_succ high (W / 2 ^ i % 2) 1 0 (by omega)
  rw [List.take_of_length_le (by rw [bitsOf_length]; omega), h2, h1] at this
  simpa using this

set_option maxRecDepth 100000 in
set_option maxHeartbeats 1000000 in
theorem cput_ok (ls : List Nat) (cp lo hi s pb m f : Nat) (high : Bool) (v0 : Value) (L : List Bool) (w : World) (h : Code ls w cp lo hi) (hs : s < ls.length) (h0 : 0 < Canon.ln ls s) (hw : WOk w pb high v0 m L f) (hf : f ≤ 7) (hb : L.length + 20 ≤ 1000000000000000) :
    Calls Try.prog 17 #[.pointer (some ⟨cp, 0, none⟩), .pointer (some ⟨pb, 0, none⟩), .int .i64 (s : Int)] w fun e w' => e = .returned (.int .i64 0) ∧ ∃ v' m' f', WOk w' pb high v' m' (L ++ bitsOf true (Canon.wd ls s) (Canon.ln ls s)) f' ∧ f' ≤ 7 ∧ Chg pb v0 w v' w' := by
  have hgood : Good ls := by obtain ⟨_, _, _, _, _, _, _, _, _, _, _, hc⟩ := h; exact hc.good
  have hhas := hgood.has hs h0
  have hl20 := hhas.2.2
  have hwd := Canon.wd_lt hhas hgood.sum
  have HW := hide (word_ok ls cp lo hi s w h hs h0)
  have c0 := hw.c0
  have HOK := hide hw
  obtain ⟨W, hW⟩ : ∃ W, W = Canon.wd ls s := ⟨_, rfl⟩
  obtain ⟨N, hN⟩ : ∃ N, N = Canon.ln ls s := ⟨_, rfl⟩
  rw [← hW, ← hN] at HW hwd ⊢
  rw [← hN] at h0 hl20
  have hW32 : W < 4294967296 := by
    have : 2 ^ N ≤ 2 ^ 20 := Nat.pow_le_pow_right (by decide) hl20
    omega
  clear h hw hgood hhas hW hN hwd hs
  go_enter Try.func17, Try.ntmps17
  go_wp2_with (first | (go_at_call 36; go_must (refine (Nobody.put_zero pb _ (by assumption)).mono ?_; rintro e w' ⟨rfl, rfl⟩)) | (go_at_call 14; go_must (refine (unhide HW).mono ?_; rintro e w1 ⟨rfl, h1⟩; have HOK1 := hide ((unhide HOK).below h1); have HCH1 := hide (Chg.of_below (pb := pb) (v := v0) h1); clear h1)))
  go_loopg [11] N (fun gk d ws => ∃ (l : Nat) (v : Value) (m f : Nat), gk = N - l ∧ l ≤ N ∧ d = .int .i64 ((N : Int) - 1 - (l : Int)) ∧ WOk ws pb high v m (L ++ (bitsOf true W N).take l) f ∧ f ≤ 7 ∧ Chg pb v0 w' v ws)
  case atStart => exact ⟨0, v0, m, f, by omega, by omega, by simp, by simpa using unhide HOK1, hf, unhide HCH1⟩
  case round =>
    obtain ⟨l, v, m, f, rfl, hl, rfl, hok, hf7, hch⟩ := hrel
    by_cases hll : l < N
    · obtain ⟨i, hi⟩ : ∃ i, i + 1 + l = N := ⟨N - 1 - l, by omega⟩
      rw [show (N : Int) - 1 - (l : Int) = (i : Int) by omega]
      have hi0 : (0 : Int) ≤ (i : Int) := by omega
      have hi20 : i < 20 := by omega
      have hbit := bit_u32 W i hW32
      obtain ⟨b, hbb⟩ : ∃ b, b = W / 2 ^ i % 2 := ⟨_, rfl⟩
      rw [← hbb] at hbit
      have hb1 : b ≤ 1 := by omega
      have HBB := hide hbb
      have HOK2 := hide hok
      have HCH2 := hide hch
      have HI := hide hi
      have HLB : Hid ((L ++ (bitsOf true W N).take l).length + 1 ≤ 1000000000000000) := hide (by simp [bitsOf_length]; omega)
      clear hok hch hi hbb
      go_wp2_with (go_at_call 36; go_must (refine (put_ok pb m f high v _ (b : Int) 1 _ (unhide HOK2) hf7 (by omega) (by omega) (by omega) (by simp; omega) (unhide HLB)).mono ?_; rintro e w2 ⟨rfl, v2, m2, f2, h1, h2, h3⟩; have HOK3 := hide h1; have HF3 := hide h2; have HCH3 := hide ((unhide HCH2).trans h3); clear h1 h2 h3))
      go_roundg (N - (l + 1))
      case measure => have := unhide HI; omega
      case rel =>
        have hI := unhide HI
        refine ⟨l + 1, v2, m2, f2, rfl, by omega, by rw [show (N : Int) - 1 - ((l + 1 : Nat) : Int) = (i : Int) - 1 by omega], ?_, unhide HF3, unhide HCH3⟩
        have h1 := unhide HOK3
        rw [Int.toNat_natCast, unhide HBB, show (1 : Int).toNat = 1 from rfl, bits_one, List.append_assoc] at h1
        rw [bitsOf_take_succ true W N l (by omega), show rk true N l = i by simp [rk]; omega]
        exact h1
    · obtain rfl : l = N := by omega
      rw [show (l : Int) - 1 - (l : Int) = -1 by omega]
      have HOK2 := hide hok
      have HCH2 := hide hch
      clear hok hch
      go_wp2_with fail
      go_ret
      refine ⟨rfl, v, m, f, ?_, hf7, unhide HCH2⟩
      have h1 := unhide HOK2
      rw [List.take_of_length_le (by rw [bitsOf_length]; omega)] at h1
      exact h1

set_option maxHeartbeats 1000000 in
theorem cput_none (ls : List Nat) (cp lo hi pb : Nat) (s : Int) (w : World) (h : Code ls w cp lo hi) (hs : ¬ HasW ls s) (c0 : w.cell? ⟨pb, 0, none⟩ = some (.bool true)) :
    Calls Try.prog 17 #[.pointer (some ⟨cp, 0, none⟩), .pointer (some ⟨pb, 0, none⟩), .int .i64 s] w fun e w' => e = .returned (.int .i64 2) ∧ w' = w := by
  have HW := hide (word_none ls cp lo hi s w h hs)
  clear h hs
  go_enter Try.func17, Try.ntmps17
  go_wp2_with (first | (go_at_call 36; go_must (refine (Nobody.put_zero pb _ (by assumption)).mono ?_; rintro e w' ⟨rfl, rfl⟩)) | (go_at_call 14; go_must (refine (unhide HW).mono ?_; rintro e w' ⟨rfl, rfl⟩)))
  go_ret
  exact ⟨rfl, rfl⟩

set_option maxHeartbeats 1000000 in
theorem cput_nil (cv : Value) (s : Int) (w : World) : Calls Try.prog 17 #[cv, .pointer none, .int .i64 s] w fun e w' => e = .returned (.int .i64 1) ∧ w' = w := by
  go_enter Try.func17, Try.ntmps17
  go_wp2
  go_ret
  exact ⟨rfl, rfl⟩

end Go.Proofs.Ytclccccodeekmaa
