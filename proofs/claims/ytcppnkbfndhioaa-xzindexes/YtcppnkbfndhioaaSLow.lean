/- Bytes behind a register, by a table. -/
import Derived.Test.YtcppnkbfndhioaaSTab
namespace Go.Proofs.Ytcppnkbfndhioaa.S
open Go.RowKit
set_option maxRecDepth 100000

/-- a sum of 32 bits: f is a step, s where a byte is laid -/
def sum32 (f : Nat → Nat) (s sum : Nat) (zs : List Nat) : Nat := 4294967295 ^^^ crc f s (4294967295 ^^^ sum) zs
/-- a sum of 95 bits -/
def sum64 (f : Nat → Nat) (s sum : Nat) (zs : List Nat) : Nat := 18446744073709551615 ^^^ crc f s (18446744073709551615 ^^^ sum) zs

theorem crc_snoc (f : Nat → Nat) (s r : Nat) (zs : List Nat) (i : Nat) (h : i < zs.length) : crc f s r (zs.take (i + 1)) = it f 8 (crc f s r (zs.take i) ^^^ zs.getD i 0 * s) := by
  rw [List.take_succ_eq_append_getElem h, crc, crc, List.foldl_append]
  simp [h]

/-- a table of its own, behind what was there -/
theorem tab_new {ty : TypeId} {kd : IntKind} (w : World) (T : Nat → Nat) : TabAt ty kd ((w.alloc (.cells (Array.replicate 256 (.int kd 0)) ty)).setRow w.heap.size (tabv kd T)) w.heap.size T :=
  setRow_heap _ _ _ _ _ _ (heap_alloc_last w _)

theorem not_32 {a c : Nat} (ha : a < 4294967296) (hc : 4294967295 ^^^ a = c) : bits .xor .u32 IntKind.u32.max (a : Int) = (c : Int) := by
  rw [show IntKind.u32.max = ((4294967295 : Nat) : Int) from rfl]
  exact xor_32 (by omega) ha hc

theorem not_64 {a c : Nat} (ha : a < 18446744073709551616) (hc : 18446744073709551615 ^^^ a = c) : bits .xor .u64 IntKind.u64.max (a : Int) = (c : Int) := by
  rw [show IntKind.u64.max = ((18446744073709551615 : Nat) : Int) from rfl]
  exact xor_64 (by omega) ha hc

/-- a byte string -/
def bs (zs : List Nat) : ByteArray := ⟨(zs.map UInt8.ofNat).toArray⟩

theorem bs_size (a : List Nat) : (bs a).size = a.length := by simp [bs, ByteArray.size]

set_option maxHeartbeats 2000000 in
set_option maxRecDepth 100000 in
theorem low_walk32 (sum p : Nat) (v : Value) (zs : List Nat) (w : World) (hs : sum < 4294967296) (hp : p < 4294967296) (hv : Reads w v zs) (hz : ∀ z ∈ zs, z < 256) (hn : zs.length ≤ 140737488355328) :
    Calls Try.prog 37 #[.int .u32 (sum : Int), v, .int .u32 (p : Int)] w fun e w' => e = .returned (.int .u32 (sum32 (lstep p) 1 sum zs : Int)) ∧ Below w.heap.size w w' := by
  obtain ⟨a, cap, rfl, hsp⟩ := hv.spot
  have HZ := hide hz
  have HSP := hide hsp
  have HP := hide hp
  have hzv := (zero_of_info info42).1
  obtain ⟨r0, hr0⟩ : ∃ r0, 4294967295 ^^^ sum = r0 := ⟨_, rfl⟩
  have hx0 := not_32 hs hr0
  have HR0 : Hid (r0 < 4294967296) := hide (by rw [← hr0]; exact Nat.xor_lt_two_pow (n := 32) (by omega) hs)
  have HANS : Hid (sum32 (lstep p) 1 sum zs = 4294967295 ^^^ crc (lstep p) 1 r0 zs) := hide (by rw [sum32, hr0])
  obtain ⟨L, hL⟩ : ∃ L, L = zs.length := ⟨_, rfl⟩
  rw [← hL] at hn HSP ⊢
  have HL := hide hL
  clear hz hsp hp hv hs hr0 hL
  go_enter Try.func37, Try.ntmps37
  go_wp2_with fail
  refine (ltab_walk32 p (unhide HP) w).mono ?_
  rintro e w1 ⟨rfl, hb1⟩
  have HB1 := hide hb1
  obtain ⟨G, hG⟩ : ∃ G, G = it (lstep p) 8 := ⟨_, rfl⟩
  rw [← hG]
  have HG := hide hG
  have hsc := run_storeCells_new (P := Try.prog) w1 78 (Array.replicate 256 (.int .u32 0)) (tabv .u32 G) (by rw [tabv_size]; exact (zero_of_info info42).2) (by simp [tabv_size]) (tabv_one _ _)
  have hsz := tabv_size .u32 G
  clear hb1 hG
  go_wp2_with fail
  have HTAB : Hid (TabAt 78 .u32 (w1.alloc (.cells (tabv .u32 G) 78)) w1.heap.size G) := hide (heap_alloc_last w1 _)
  have HBEL : Hid (Below w.heap.size w (w1.alloc (.cells (tabv .u32 G) 78))) := hide ((unhide HB1).alloc (unhide HB1).size _)
  clear hsc hsz hzv HB1
  generalize w1.heap.size = g at *
  generalize (w1.alloc (.cells (tabv .u32 G) 78)) = w2 at *
  go_loopg [8, 16] L (fun gk r c ws => ∃ i : Nat, gk = L - i ∧ i ≤ L ∧ r = .int .u32 (crc (lstep p) 1 r0 (zs.take i) : Int) ∧ c = .int .i64 (i : Int) ∧ ws = w2)
  case atStart => exact ⟨0, by omega, by omega, rfl, rfl, rfl⟩
  case round =>
    obtain ⟨i, rfl, hi, rfl, rfl, rfl⟩ := hrel
    have hrb : crc (lstep p) 1 r0 (zs.take i) < 4294967296 := crc_lt (k := 32) rfl (fun r hr => lstep_lt (w := 32) (unhide HP) hr) _ (fun z hz => by have := unhide HZ z (List.mem_of_mem_take hz); omega) r0 (unhide HR0)
    by_cases hlt : i < L
    · obtain ⟨b, off, rfl, hcell⟩ := unhide HSP (by omega)
      have hlz : i < zs.length := by rw [← unhide HL]; exact hlt
      obtain ⟨c, hc⟩ : ∃ c, c = zs.getD i 0 := ⟨_, rfl⟩
      have hc256 : c < 256 := by rw [hc]; exact unhide HZ _ (getD_mem zs i hlz)
      have hcc := cell_stays (unhide HBEL) (hcell i (by first | exact hlz | omega))
      rw [← hc] at hcc
      have HNEXT : Hid (crc (lstep p) 1 r0 (zs.take (i + 1)) = it (lstep p) 8 (crc (lstep p) 1 r0 (zs.take i) ^^^ c * 1)) := hide (by rw [crc_snoc _ _ _ _ _ hlz, hc])
      generalize crc (lstep p) 1 r0 (zs.take i) = r at *
      obtain ⟨q, hq⟩ : ∃ q, q = r / 256 := ⟨_, rfl⟩
      obtain ⟨m, hm⟩ : ∃ m, m = r % 256 := ⟨_, rfl⟩
      obtain ⟨j, hj⟩ : ∃ j, m ^^^ c = j := ⟨_, rfl⟩
      obtain ⟨t, ht⟩ : ∃ t, t = G j := ⟨_, rfl⟩
      obtain ⟨y, hy⟩ : ∃ y, q ^^^ t = y := ⟨_, rfl⟩
      have hj256 : j < 256 := by rw [← hj]; exact Nat.xor_lt_two_pow (n := 8) (by omega) (by omega)
      have htb : t < 4294967296 := by rw [ht, unhide HG]; exact it_lt (fun r hr => lstep_lt (w := 32) (unhide HP) hr) 8 _ (by omega)
      have hqi : (r : Int) / 256 = (q : Int) := by omega
      have hmi : (r : Int) % 256 = (m : Int) := by omega
      have hx1 : bits .xor .u8 (m : Int) (c : Int) = (j : Int) := by rw [u8_xor_nat m c (by omega) hc256, hj]
      have hx2 := xor_32 (by omega) htb hy
      have hct := (unhide HTAB).cell j hj256
      rw [← ht] at hct
      have hji : (j : Int) < 256 := by omega
      have hil : (i : Int) < (L : Int) := by omega
      have HY : Hid (crc (lstep p) 1 r0 (zs.take (i + 1)) = y) := hide (by rw [unhide HNEXT, low_row, ← hy, hq, ht, unhide HG, ← hj, hm])
      have HLT := hide hlt
      clear hcell hlz hc hc256 hq hm hj ht hy hj256 htb hrb hi hlt
      go_wp2_with fail
      go_roundg (L - (i + 1))
      case measure => have := unhide HLT; omega
      case rel => exact ⟨i + 1, rfl, unhide HLT, by rw [unhide HY], by go_num, rfl⟩
    · obtain rfl : i = L := by omega
      have HT : Hid (zs.take i = zs) := hide (List.take_of_length_le (by rw [← unhide HL]; exact Nat.le_refl _))
      rw [unhide HT] at hrb ⊢
      obtain ⟨y, hy⟩ : ∃ y, 4294967295 ^^^ crc (lstep p) 1 r0 zs = y := ⟨_, rfl⟩
      have hx := not_32 hrb hy
      have HY := hide hy
      clear hy hrb hi hlt
      go_wp2_with fail
      go_ret
      exact ⟨by rw [unhide HANS, unhide HY]; rfl, unhide HBEL⟩

/-- Crc32's polynomial -/
abbrev pl : Nat := 3988292384
/-- CrcHigh's -/
abbrev ph : Nat := 79764919
/-- Crc64's -/
abbrev pw : Nat := 14514072000185962306

theorem crc32_walk (sum : Nat) (v : Value) (zs : List Nat) (w : World) (hs : sum < 4294967296) (hv : Reads w v zs) (hz : ∀ z ∈ zs, z < 256) (hn : zs.length ≤ 140737488355328) :
    Calls Try.prog 28 #[.int .u32 (sum : Int), v] w fun e w' => e = .returned (.int .u32 (sum32 (lstep pl) 1 sum zs : Int)) ∧ Below w.heap.size w w' := by
  have hc := low_walk32 sum pl v zs w hs (by decide) hv hz hn
  clear hs hv hz hn
  go_enter Try.func28, Try.ntmps28
  go_wp2_with fail
  refine hc.mono ?_
  rintro e w1 ⟨rfl, hb1⟩
  go_wp2_with fail
  go_ret
  exact ⟨rfl, hb1⟩

end Go.Proofs.Ytcppnkbfndhioaa.S
