/- The document's sums, bit by bit. -/
import Derived.Test.YtcppnkbfndhioaaSLow
namespace Go.Proofs.Ytcppnkbfndhioaa.S
open Go.RowKit
set_option maxRecDepth 100000

theorem and1_8 (r m : Nat) (hr : r < 256) (hm : r % 2 = m) : bits .and .u8 (r : Int) 1 = (m : Int) := by
  have := u8_and_nat r 1 hr (by omega)
  rw [Nat.and_one_is_mod, hm] at this
  simpa using this

theorem btl_walk (c i : Nat) (w : World) (hc : c < 256) (hi : i < 8) :
    Calls Try.prog 39 #[.int .u8 (c : Int), .int .i64 (i : Int), .bool false] w fun e w' => e = .returned (.int .u64 (btl c i : Int)) ∧ w' = w := by
  obtain ⟨y, hy⟩ : ∃ y, btl c i = y := ⟨_, rfl⟩
  rw [hy]
  have hw : IntKind.u64.wrap (y : Int) = (y : Int) := by
    have : y < 2 := by rw [← hy]; simp only [btl]; omega
    rw [IntKind.wrap_u64]; omega
  have h8 : i = 0 ∨ i = 1 ∨ i = 2 ∨ i = 3 ∨ i = 4 ∨ i = 5 ∨ i = 6 ∨ i = 7 := by omega
  clear hi
  rcases h8 with rfl | rfl | rfl | rfl | rfl | rfl | rfl | rfl
  · have ha := and1_8 c y hc (by rw [← hy]; simp [btl])
    clear hy hc
    go_enter Try.func39, Try.ntmps39
    go_wp2_with fail
    go_ret
    exact ⟨rfl, rfl⟩
  · obtain ⟨q, hq⟩ : ∃ q, q = c / 2 := ⟨_, rfl⟩
    have hd : (c : Int) / 2 = (q : Int) := by omega
    have ha := and1_8 q y (by omega) (by rw [← hy, hq]; simp [btl])
    clear hq
    clear hy hc
    go_enter Try.func39, Try.ntmps39
    go_wp2_with fail
    go_ret
    exact ⟨rfl, rfl⟩
  · obtain ⟨q, hq⟩ : ∃ q, q = c / 4 := ⟨_, rfl⟩
    have hd : (c : Int) / 4 = (q : Int) := by omega
    have ha := and1_8 q y (by omega) (by rw [← hy, hq]; simp [btl])
    clear hq
    clear hy hc
    go_enter Try.func39, Try.ntmps39
    go_wp2_with fail
    go_ret
    exact ⟨rfl, rfl⟩
  · obtain ⟨q, hq⟩ : ∃ q, q = c / 8 := ⟨_, rfl⟩
    have hd : (c : Int) / 8 = (q : Int) := by omega
    have ha := and1_8 q y (by omega) (by rw [← hy, hq]; simp [btl])
    clear hq
    clear hy hc
    go_enter Try.func39, Try.ntmps39
    go_wp2_with fail
    go_ret
    exact ⟨rfl, rfl⟩
  · obtain ⟨q, hq⟩ : ∃ q, q = c / 16 := ⟨_, rfl⟩
    have hd : (c : Int) / 16 = (q : Int) := by omega
    have ha := and1_8 q y (by omega) (by rw [← hy, hq]; simp [btl])
    clear hq
    clear hy hc
    go_enter Try.func39, Try.ntmps39
    go_wp2_with fail
    go_ret
    exact ⟨rfl, rfl⟩
  · obtain ⟨q, hq⟩ : ∃ q, q = c / 32 := ⟨_, rfl⟩
    have hd : (c : Int) / 32 = (q : Int) := by omega
    have ha := and1_8 q y (by omega) (by rw [← hy, hq]; simp [btl])
    clear hq
    clear hy hc
    go_enter Try.func39, Try.ntmps39
    go_wp2_with fail
    go_ret
    exact ⟨rfl, rfl⟩
  · obtain ⟨q, hq⟩ : ∃ q, q = c / 64 := ⟨_, rfl⟩
    have hd : (c : Int) / 64 = (q : Int) := by omega
    have ha := and1_8 q y (by omega) (by rw [← hy, hq]; simp [btl])
    clear hq
    clear hy hc
    go_enter Try.func39, Try.ntmps39
    go_wp2_with fail
    go_ret
    exact ⟨rfl, rfl⟩
  · obtain ⟨q, hq⟩ : ∃ q, q = c / 128 := ⟨_, rfl⟩
    have hd : (c : Int) / 128 = (q : Int) := by omega
    have ha := and1_8 q y (by omega) (by rw [← hy, hq]; simp [btl])
    clear hq
    clear hy hc
    go_enter Try.func39, Try.ntmps39
    go_wp2_with fail
    go_ret
    exact ⟨rfl, rfl⟩

theorem bth_walk (c i : Nat) (w : World) (hc : c < 256) (hi : i < 8) :
    Calls Try.prog 39 #[.int .u8 (c : Int), .int .i64 (i : Int), .bool true] w fun e w' => e = .returned (.int .u64 (bth c i : Int)) ∧ w' = w := by
  obtain ⟨y, hy⟩ : ∃ y, bth c i = y := ⟨_, rfl⟩
  rw [hy]
  have hw : IntKind.u64.wrap (y : Int) = (y : Int) := by
    have : y < 2 := by rw [← hy]; simp only [bth]; omega
    rw [IntKind.wrap_u64]; omega
  have h8 : i = 0 ∨ i = 1 ∨ i = 2 ∨ i = 3 ∨ i = 4 ∨ i = 5 ∨ i = 6 ∨ i = 7 := by omega
  clear hi
  rcases h8 with rfl | rfl | rfl | rfl | rfl | rfl | rfl | rfl
  · obtain ⟨q, hq⟩ : ∃ q, q = c / 128 := ⟨_, rfl⟩
    have hd : (c : Int) / 128 = (q : Int) := by omega
    have ha := and1_8 q y (by omega) (by rw [← hy, hq]; simp [bth])
    clear hq
    clear hy hc
    go_enter Try.func39, Try.ntmps39
    go_wp2_with fail
    go_ret
    exact ⟨rfl, rfl⟩
  · obtain ⟨q, hq⟩ : ∃ q, q = c / 64 := ⟨_, rfl⟩
    have hd : (c : Int) / 64 = (q : Int) := by omega
    have ha := and1_8 q y (by omega) (by rw [← hy, hq]; simp [bth])
    clear hq
    clear hy hc
    go_enter Try.func39, Try.ntmps39
    go_wp2_with fail
    go_ret
    exact ⟨rfl, rfl⟩
  · obtain ⟨q, hq⟩ : ∃ q, q = c / 32 := ⟨_, rfl⟩
    have hd : (c : Int) / 32 = (q : Int) := by omega
    have ha := and1_8 q y (by omega) (by rw [← hy, hq]; simp [bth])
    clear hq
    clear hy hc
    go_enter Try.func39, Try.ntmps39
    go_wp2_with fail
    go_ret
    exact ⟨rfl, rfl⟩
  · obtain ⟨q, hq⟩ : ∃ q, q = c / 16 := ⟨_, rfl⟩
    have hd : (c : Int) / 16 = (q : Int) := by omega
    have ha := and1_8 q y (by omega) (by rw [← hy, hq]; simp [bth])
    clear hq
    clear hy hc
    go_enter Try.func39, Try.ntmps39
    go_wp2_with fail
    go_ret
    exact ⟨rfl, rfl⟩
  · obtain ⟨q, hq⟩ : ∃ q, q = c / 8 := ⟨_, rfl⟩
    have hd : (c : Int) / 8 = (q : Int) := by omega
    have ha := and1_8 q y (by omega) (by rw [← hy, hq]; simp [bth])
    clear hq
    clear hy hc
    go_enter Try.func39, Try.ntmps39
    go_wp2_with fail
    go_ret
    exact ⟨rfl, rfl⟩
  · obtain ⟨q, hq⟩ : ∃ q, q = c / 4 := ⟨_, rfl⟩
    have hd : (c : Int) / 4 = (q : Int) := by omega
    have ha := and1_8 q y (by omega) (by rw [← hy, hq]; simp [bth])
    clear hq
    clear hy hc
    go_enter Try.func39, Try.ntmps39
    go_wp2_with fail
    go_ret
    exact ⟨rfl, rfl⟩
  · obtain ⟨q, hq⟩ : ∃ q, q = c / 2 := ⟨_, rfl⟩
    have hd : (c : Int) / 2 = (q : Int) := by omega
    have ha := and1_8 q y (by omega) (by rw [← hy, hq]; simp [bth])
    clear hq
    clear hy hc
    go_enter Try.func39, Try.ntmps39
    go_wp2_with fail
    go_ret
    exact ⟨rfl, rfl⟩
  · have ha := and1_8 c y hc (by rw [← hy]; simp [bth])
    clear hy hc
    go_enter Try.func39, Try.ntmps39
    go_wp2_with fail
    go_ret
    exact ⟨rfl, rfl⟩


theorem btl_two (c i : Nat) : btl c i = 0 ∨ btl c i = 1 := by unfold btl; omega
theorem bth_two (c i : Nat) : bth c i = 0 ∨ bth c i = 1 := by unfold bth; omega

theorem rrun_lt {f : Nat → Nat} {e0 B k : Nat} {bt : Nat → Nat → Nat} (hB : B = 2 ^ k) (hf : ∀ r, r < B → f r < B) (he : e0 < B) (hb : ∀ c j, bt c j = 0 ∨ bt c j = 1) (zs : List Nat) (r : Nat) (hr : r < B) : ∀ i, rrun f e0 bt zs r i < B
  | 0 => hr
  | i + 1 => by
    have ih := rrun_lt hB hf he hb zs r hr i
    rw [rrun]
    apply hf
    subst hB
    refine Nat.xor_lt_two_pow ih ?_
    rcases hb (zs.getD (i / 8) 0) (i % 8) with h | h <;> rw [h] <;> omega

/-- one step, as the document words it -/
theorem lstep_word (p r b : Nat) (hb : b = 0 ∨ b = 1) : lstep p (r ^^^ b * 1) = if (r % 2 ^^^ b) = 1 then r / 2 ^^^ p else r / 2 := by
  have h1 : (r ^^^ b) / 2 = r / 2 := by
    rw [Nat.xor_div_two]
    rcases hb with rfl | rfl <;> simp
  have h2 : (r ^^^ b) % 2 = r % 2 ^^^ b := by
    rcases hb with rfl | rfl
    · simp
    · have := @Nat.xor_mod_two_eq_one r 1
      rcases Nat.mod_two_eq_zero_or_one r with h | h <;> rw [h] <;> simp <;> omega
  rw [Nat.mul_one, lstep, h1, h2]

theorem hstep_word (p r b : Nat) (hr : r < 4294967296) (hb : b = 0 ∨ b = 1) : hstep p (r ^^^ b * 2147483648) = if (r / 2147483648 ^^^ b) = 1 then 2 * r % 4294967296 ^^^ p else 2 * r % 4294967296 := by
  have e := hstep_lin p r (b * 2147483648)
  rw [e]
  rcases hb with rfl | rfl
  · rw [Nat.zero_mul, (hstep_lin p).zero, Nat.xor_zero, Nat.xor_zero, hstep]
    have : r / 2147483648 % 2 = r / 2147483648 := by omega
    rw [this]
    split <;> simp
  · have h1 : hstep p (1 * 2147483648) = p := by simp [hstep]
    rw [h1, hstep]
    have : r / 2147483648 = 0 ∨ r / 2147483648 = 1 := by omega
    rcases this with h | h <;> rw [h] <;> simp
    rw [Nat.xor_assoc, Nat.xor_self, Nat.xor_zero]

set_option maxHeartbeats 2000000 in
theorem refcrc_walk (sum : Nat) (v : Value) (zs : List Nat) (w : World) (hs : sum < 4294967296) (hv : Reads w v zs) (hz : ∀ z ∈ zs, z < 256) (hn : zs.length ≤ 140737488355328) :
    Calls Try.prog 30 #[.int .u32 (sum : Int), v] w fun e w' => e = .returned (.int .u32 (sum32 (lstep pl) 1 sum zs : Int)) ∧ w' = w := by
  obtain ⟨a, cap, rfl, hsp⟩ := hv.spot
  have HZ := hide hz
  have HSP := hide hsp
  obtain ⟨r0, hr0⟩ : ∃ r0, 4294967295 ^^^ sum = r0 := ⟨_, rfl⟩
  have hx0 := not_32 hs hr0
  have HR0 : Hid (r0 < 4294967296) := hide (by rw [← hr0]; exact Nat.xor_lt_two_pow (n := 32) (by omega) hs)
  have HANS : Hid (sum32 (lstep pl) 1 sum zs = 4294967295 ^^^ rrun (lstep pl) 1 btl zs r0 (8 * zs.length)) := hide (by rw [crc_low_bits pl zs hz, sum32, hr0])
  obtain ⟨L, hL⟩ : ∃ L, L = zs.length := ⟨_, rfl⟩
  rw [← hL] at hn HSP HANS ⊢
  obtain ⟨M, hM⟩ : ∃ M, M = 8 * L := ⟨_, rfl⟩
  have hMi : 8 * (L : Int) = (M : Int) := by omega
  have hMb : (M : Int) ≤ 1125899906842624 := by omega
  rw [← hM] at HANS
  have HM := hide hM
  have HL := hide hL
  have HN := hide hn
  clear hz hsp hv hs hr0 hL hM hn
  go_enter Try.func30, Try.ntmps30
  go_wp2_with fail
  go_loopg [5, 6] M (fun gk r c ws => ∃ i : Nat, gk = M - i ∧ i ≤ M ∧ r = .int .u32 (rrun (lstep pl) 1 btl zs r0 i : Int) ∧ c = .int .i64 (i : Int) ∧ ws = w)
  case atStart => exact ⟨0, by omega, by omega, rfl, rfl, rfl⟩
  case round =>
    obtain ⟨i, rfl, hi, rfl, rfl, rfl⟩ := hrel
    have hrb : rrun (lstep pl) 1 btl zs r0 i < 4294967296 := rrun_lt (k := 32) rfl (fun r hr => lstep_lt (w := 32) (by decide) hr) (by omega) btl_two zs r0 (unhide HR0) i
    by_cases hlt : i < M
    · have hk : i / 8 < L := by have := unhide HM; omega
      obtain ⟨b, off, rfl, hcell⟩ := unhide HSP (by omega)
      have hlz : i / 8 < zs.length := by rw [← unhide HL]; exact hk
      obtain ⟨c, hc⟩ : ∃ c, c = zs.getD (i / 8) 0 := ⟨_, rfl⟩
      have hc256 : c < 256 := by rw [hc]; exact unhide HZ _ (getD_mem zs _ hlz)
      have hcc := hcell (i / 8) (by first | exact hlz | omega)
      rw [← hc] at hcc
      have HNEXT : Hid (rrun (lstep pl) 1 btl zs r0 (i + 1) = if (rrun (lstep pl) 1 btl zs r0 i % 2 ^^^ btl c (i % 8)) = 1 then rrun (lstep pl) 1 btl zs r0 i / 2 ^^^ pl else rrun (lstep pl) 1 btl zs r0 i / 2) := hide (by rw [rrun, ← hc, lstep_word _ _ _ (btl_two _ _)])
      generalize rrun (lstep pl) 1 btl zs r0 i = r at *
      obtain ⟨k, hkk⟩ : ∃ k, k = i / 8 := ⟨_, rfl⟩
      obtain ⟨m, hm⟩ : ∃ m, m = i % 8 := ⟨_, rfl⟩
      rw [← hkk] at hcc hk
      rw [← hm] at HNEXT
      have hki : (i : Int) / 8 = (k : Int) := by omega
      have hmi : (i : Int) % 8 = (m : Int) := by omega
      obtain ⟨h, hh⟩ : ∃ h, h = r / 2 := ⟨_, rfl⟩
      have hd : (r : Int) / 2 = (h : Int) := by omega
      have ha := and1_32 r hrb
      obtain ⟨lo, hlo⟩ : ∃ lo, lo = r % 2 := ⟨_, rfl⟩
      rw [← hlo] at ha HNEXT
      have hbw := btl_walk c m wr hc256 (by omega)
      obtain ⟨bt, hbt⟩ : ∃ bt, bt = btl c m := ⟨_, rfl⟩
      rw [← hbt] at hbw HNEXT
      have hbt2 : bt < 2 := by rw [hbt]; unfold btl; omega
      have hwr : IntKind.u32.wrap (bt : Int) = (bt : Int) := by rw [IntKind.wrap_u32']; omega
      obtain ⟨x, hx⟩ : ∃ x, lo ^^^ bt = x := ⟨_, rfl⟩
      have hx1 := xor_32 (by omega) (by omega) hx
      obtain ⟨y, hy⟩ : ∃ y, h ^^^ pl = y := ⟨_, rfl⟩
      have hx2 := xor_32 (a := h) (b := pl) (by omega) (by decide) hy
      have hx2' : bits .xor .u32 (h : Int) 3988292384 = (y : Int) := hx2
      rw [hx, ← hh, hy] at HNEXT
      have hiM : (i : Int) < (M : Int) := by omega
      have hkL : (k : Int) < (L : Int) := by omega
      have HLT := hide hlt
      have HBW := hide hbw
      clear hcell hlz hc hc256 hh hlo hbt hbt2 hx hy hx2 hrb hi hlt hk hkk hm hbw
      go_wp2_with fail
      refine (unhide HBW).mono ?_
      rintro e ws ⟨rfl, rfl⟩
      by_cases hxx : x = 1
      · have HN2 : Hid (rrun (lstep pl) 1 btl zs r0 (i + 1) = y) := hide (by rw [unhide HNEXT, if_pos hxx])
        have hxi : (x : Int) = 1 := by omega
        clear hxx
        go_wp2_with fail
        go_roundg (M - (i + 1))
        case measure => have := unhide HLT; omega
        case rel => exact ⟨i + 1, rfl, unhide HLT, by rw [unhide HN2], by go_num, rfl⟩
      · have HN2 : Hid (rrun (lstep pl) 1 btl zs r0 (i + 1) = h) := hide (by rw [unhide HNEXT, if_neg hxx])
        have hxi : ((x : Int) == 1) = false := by simp; omega
        clear hxx
        go_wp2_with fail
        go_roundg (M - (i + 1))
        case measure => have := unhide HLT; omega
        case rel => exact ⟨i + 1, rfl, unhide HLT, by rw [unhide HN2], by go_num, rfl⟩
    · obtain rfl : i = M := by omega
      obtain ⟨y, hy⟩ : ∃ y, 4294967295 ^^^ rrun (lstep pl) 1 btl zs r0 i = y := ⟨_, rfl⟩
      have hx := not_32 hrb hy
      have HY := hide hy
      clear hy hrb hi hlt
      go_wp2_with fail
      go_ret
      exact ⟨by rw [unhide HANS, unhide HY]; rfl, rfl⟩

end Go.Proofs.Ytcppnkbfndhioaa.S
