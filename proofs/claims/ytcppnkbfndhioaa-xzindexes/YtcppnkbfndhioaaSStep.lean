/- One step of a register. -/
import Derived.Test.YtcppnkbfndhioaaBase
import Derived.Test.YtcppnkbfndhioaaSMath
namespace Go.Proofs.Ytcppnkbfndhioaa.S
open Go.RowKit
set_option maxRecDepth 100000

theorem and1_32 (r : Nat) (hr : r < 4294967296) : bits .and .u32 (r : Int) 1 = ((r % 2 : Nat) : Int) := by
  have := u32_and_nat r 1 hr (by omega)
  rw [Nat.and_one_is_mod] at this
  simpa using this

theorem and1_64 (r : Nat) (hr : r < 18446744073709551616) : bits .and .u64 (r : Int) 1 = ((r % 2 : Nat) : Int) := by
  have := u64_and_nat r 1 hr (by omega)
  rw [Nat.and_one_is_mod] at this
  simpa using this

theorem xor_32 {a b c : Nat} (ha : a < 4294967296) (hb : b < 4294967296) (hc : a ^^^ b = c) : bits .xor .u32 (a : Int) (b : Int) = (c : Int) := by
  rw [u32_xor_nat a b ha hb, hc]

theorem xor_64 {a b c : Nat} (ha : a < 18446744073709551616) (hb : b < 18446744073709551616) (hc : a ^^^ b = c) : bits .xor .u64 (a : Int) (b : Int) = (c : Int) := by
  rw [u64_xor_nat a b ha hb, hc]

theorem lstep_walk32 (r p : Nat) (w : World) (hr : r < 4294967296) (hp : p < 4294967296) :
    Calls Try.prog 48 #[.int .u32 (r : Int), .int .u32 (p : Int)] w fun e w' => e = .returned (.int .u32 (lstep p r : Int)) ∧ w' = w := by
  have ha := and1_32 r hr
  obtain ⟨h, hh⟩ : ∃ h, h = r / 2 := ⟨_, rfl⟩
  have hd : (r : Int) / 2 = (h : Int) := by omega
  have hx := xor_32 (a := h) (b := p) (by omega) hp rfl
  by_cases ho : r % 2 = 1
  · have hl : lstep p r = h ^^^ p := by rw [lstep, if_pos ho, hh]
    rw [ho] at ha
    rw [hl]
    clear ho hl hh hr hp
    go_enter Try.func48, Try.ntmps48
    go_wp2_with fail
    go_ret
    exact ⟨rfl, rfl⟩
  · have hl : lstep p r = h := by rw [lstep, if_neg ho, hh]
    have ho : r % 2 = 0 := by omega
    rw [ho] at ha
    rw [hl]
    clear ho hl hh hr hp
    go_enter Try.func48, Try.ntmps48
    go_wp2_with fail
    go_ret
    exact ⟨rfl, rfl⟩

end Go.Proofs.Ytcppnkbfndhioaa.S
