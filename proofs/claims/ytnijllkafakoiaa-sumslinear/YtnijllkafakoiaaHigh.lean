/- Bytes behind a register whose highest bit falls out, by a table. -/
import Derived.Test.YtnijllkafakoiaaTabTwo
import Derived.Test.YtnijllkafakoiaaLow
namespace Go.Proofs.Ytnijllkafakoiaa
open Go.RowKit

set_option maxHeartbeats 2000000 in
set_option maxRecDepth 100000 in
theorem high_walk (sum : Nat) (v : Value) (zs : List Nat) (w : World) (hs : sum < 4294967296) (hv : Reads w v zs) (hz : ∀ z ∈ zs, z < 256) (hn : zs.length ≤ 140737488355328) :
    Calls Try.prog 11 #[.int .u32 (sum : Int), v] w fun e w' => e = .returned (.int .u32 (sum32 (hstep ph) 16777216 sum zs : Int)) ∧ Below w.heap.size w w' := by
  obtain ⟨a, cap, rfl, hsp⟩ := hv.spot
  have HZ := hide hz
  have HSP := hide hsp
  have hzv := (zero_of_info info42).1
  obtain ⟨p, hpp⟩ : ∃ p, p = ph := ⟨_, rfl⟩
  have HTW : Hid (∀ w, Calls Try.prog 22 #[.int .u32 79764919] w fun e w' => e = .returned (.agg (tabv .u32 (fun i => it (hstep p) 8 (i * 16777216)))) ∧ Below w.heap.size w w') := hide (by rw [hpp]; exact fun w => htab_walk ph (by decide) w)
  rw [← hpp]
  have HP : Hid (p < 4294967296) := hide (by rw [hpp]; decide)
  obtain ⟨r0, hr0⟩ : ∃ r0, 4294967295 ^^^ sum = r0 := ⟨_, rfl⟩
  have hx0 := not_32 hs hr0
  have HR0 : Hid (r0 < 4294967296) := hide (by rw [← hr0]; exact Nat.xor_lt_two_pow (n := 32) (by omega) hs)
  have HANS : Hid (sum32 (hstep p) 16777216 sum zs = 4294967295 ^^^ crc (hstep p) 16777216 r0 zs) := hide (by rw [sum32, hr0])
  obtain ⟨L, hL⟩ : ∃ L, L = zs.length := ⟨_, rfl⟩
  rw [← hL] at hn HSP ⊢
  have HL := hide hL
  clear hz hsp hpp hv hs hr0 hL
  go_enter Try.func11, Try.ntmps11
  go_wp2_with fail
  refine (unhide HTW w).mono ?_
  rintro e w1 ⟨rfl, hb1⟩
  have HB1 := hide hb1
  obtain ⟨G, hG⟩ : ∃ G : Nat → Nat, G = fun i => it (hstep p) 8 (i * 16777216) := ⟨_, rfl⟩
  rw [← hG]
  have HG := hide hG
  have hsc := run_storeCells_new (P := Try.prog) w1 42 (Array.replicate 256 (.int .u32 0)) (tabv .u32 G) (by rw [tabv_size]; exact (zero_of_info info42).2) (by simp [tabv_size]) (tabv_one _ _)
  have hsz := tabv_size .u32 G
  clear hb1 hG
  go_wp2_with fail
  have HTAB : Hid (TabAt 42 .u32 (w1.alloc (.cells (tabv .u32 G) 42)) w1.heap.size G) := hide (heap_alloc_last w1 _)
  have HBEL : Hid (Below w.heap.size w (w1.alloc (.cells (tabv .u32 G) 42))) := hide ((unhide HB1).alloc (unhide HB1).size _)
  clear hsc hsz hzv HB1
  generalize w1.heap.size = g at *
  generalize (w1.alloc (.cells (tabv .u32 G) 42)) = w2 at *
  go_loopg [6, 14] L (fun gk r c ws => ∃ i : Nat, gk = L - i ∧ i ≤ L ∧ r = .int .u32 (crc (hstep p) 16777216 r0 (zs.take i) : Int) ∧ c = .int .i64 (i : Int) ∧ ws = w2)
  case atStart => exact ⟨0, by omega, by omega, rfl, rfl, rfl⟩
  case round =>
    obtain ⟨i, rfl, hi, rfl, rfl, rfl⟩ := hrel
    have hrb : crc (hstep p) 16777216 r0 (zs.take i) < 4294967296 := crc_lt (k := 32) rfl (fun r _ => hstep_lt (unhide HP)) _ (fun z hz => by have := unhide HZ z (List.mem_of_mem_take hz); omega) r0 (unhide HR0)
    by_cases hlt : i < L
    · obtain ⟨b, off, rfl, hcell⟩ := unhide HSP (by omega)
      have hlz : i < zs.length := by rw [← unhide HL]; exact hlt
      obtain ⟨c, hc⟩ : ∃ c, c = zs.getD i 0 := ⟨_, rfl⟩
      have hc256 : c < 256 := by rw [hc]; exact unhide HZ _ (getD_mem zs i hlz)
      have hcc := cell_stays (unhide HBEL) (hcell i (by first | exact hlz | omega))
      rw [← hc] at hcc
      have HNEXT : Hid (crc (hstep p) 16777216 r0 (zs.take (i + 1)) = it (hstep p) 8 (crc (hstep p) 16777216 r0 (zs.take i) ^^^ c * 16777216)) := hide (by rw [crc_snoc _ _ _ _ _ hlz, hc])
      generalize crc (hstep p) 16777216 r0 (zs.take i) = r at *
      obtain ⟨q, hq⟩ : ∃ q, q = r * 256 % 4294967296 := ⟨_, rfl⟩
      obtain ⟨m, hm⟩ : ∃ m, m = r / 16777216 := ⟨_, rfl⟩
      obtain ⟨j, hj⟩ : ∃ j, m ^^^ c = j := ⟨_, rfl⟩
      obtain ⟨t, ht⟩ : ∃ t, t = G j := ⟨_, rfl⟩
      obtain ⟨y, hy⟩ : ∃ y, q ^^^ t = y := ⟨_, rfl⟩
      have hj256 : j < 256 := by rw [← hj]; exact Nat.xor_lt_two_pow (n := 8) (by omega) (by omega)
      have htb : t < 4294967296 := by rw [ht, unhide HG]; exact it_lt (fun r _ => hstep_lt (unhide HP)) 8 _ (by omega)
      have hqi : (r : Int) * 256 % 4294967296 = (q : Int) := by omega
      have hmi : (r : Int) / 16777216 = (m : Int) := by omega
      have hm256 : (m : Int) % 256 = (m : Int) := by omega
      have hx1 : bits .xor .u8 (m : Int) (c : Int) = (j : Int) := by rw [u8_xor_nat m c (by omega) hc256, hj]
      have hx2 := xor_32 (by omega) htb hy
      have hct := (unhide HTAB).cell j hj256
      rw [← ht] at hct
      have hji : (j : Int) < 256 := by omega
      have hil : (i : Int) < (L : Int) := by omega
      have HY : Hid (crc (hstep p) 16777216 r0 (zs.take (i + 1)) = y) := hide (by rw [unhide HNEXT, high_row, ← hy, hq, ht, unhide HG, ← hj, hm])
      have HLT := hide hlt
      clear hcell hlz hc hc256 hq hm hj ht hy hj256 htb hrb hi hlt
      go_wp2_with fail
      go_roundg (L - (i + 1))
      case measure => have := unhide HLT; omega
      case rel => exact ⟨i + 1, rfl, unhide HLT, by rw [unhide HY], by go_num, rfl⟩
    · obtain rfl : i = L := by omega
      have HT : Hid (zs.take i = zs) := hide (List.take_of_length_le (by rw [← unhide HL]; exact Nat.le_refl _))
      rw [unhide HT] at hrb ⊢
      obtain ⟨y, hy⟩ : ∃ y, 4294967295 ^^^ crc (hstep p) 16777216 r0 zs = y := ⟨_, rfl⟩
      have hx := not_32 hrb hy
      have HY := hide hy
      clear hy hrb hi hlt
      go_wp2_with fail
      go_ret
      exact ⟨by rw [unhide HANS, unhide HY]; rfl, unhide HBEL⟩
end Go.Proofs.Ytnijllkafakoiaa
