/- Adler-32: the document's sum, and by pieces. -/
import Derived.Test.YtnijllkafakoiaaLow
namespace Go.Proofs.Ytnijllkafakoiaa
open Go.RowKit

def adlStep (s : Nat × Nat) (c : Nat) : Nat × Nat := ((s.1 + c) % 65521, (s.2 + (s.1 + c) % 65521) % 65521)
def rawStep (s : Nat × Nat) (c : Nat) : Nat × Nat := (s.1 + c, s.2 + (s.1 + c))
def adl (s : Nat × Nat) (zs : List Nat) : Nat × Nat := zs.foldl adlStep s
def raw (s : Nat × Nat) (zs : List Nat) : Nat × Nat := zs.foldl rawStep s
def adler (sum : Nat) (zs : List Nat) : Nat := (adl (sum % 65536, sum / 65536) zs).2 * 65536 + (adl (sum % 65536, sum / 65536) zs).1

theorem foldl_take {α β : Type} (f : α → β → α) (s : α) (zs : List β) (d : β) (i : Nat) (h : i < zs.length) : (zs.take (i + 1)).foldl f s = f ((zs.take i).foldl f s) (zs.getD i d) := by
  rw [List.take_succ_eq_append_getElem h, List.foldl_append]
  simp [h]

theorem adl_raw (s : Nat × Nat) (zs : List Nat) : ∀ k, k ≤ zs.length → 0 < k → adl s (zs.take k) = ((raw s (zs.take k)).1 % 65521, (raw s (zs.take k)).2 % 65521)
  | 0, _, h => by omega
  | k + 1, h, _ => by
    rw [adl, raw, foldl_take _ _ _ 0 _ (by omega), foldl_take _ _ _ 0 _ (by omega)]
    by_cases hk : k = 0
    · subst hk
      simp only [List.take_zero, List.foldl_nil, adlStep, rawStep]
      ext
      · rfl
      · show (s.2 + (s.1 + _) % 65521) % 65521 = (s.2 + (s.1 + _)) % 65521
        omega
    · have ih := adl_raw s zs k (by omega) (by omega)
      rw [adl, raw] at ih
      rw [ih]
      simp only [adlStep, rawStep]
      generalize List.foldl rawStep s (zs.take k) = q
      generalize zs.getD k 0 = c
      ext
      · show (q.1 % 65521 + c) % 65521 = (q.1 + c) % 65521
        omega
      · show (q.2 % 65521 + (q.1 % 65521 + c) % 65521) % 65521 = (q.2 + (q.1 + c)) % 65521
        omega

def tri : Nat → Nat
  | 0 => 0
  | j + 1 => tri j + (j + 1)

theorem tri_two (j : Nat) : 2 * tri j = j * (j + 1) := by
  induction j with
  | zero => rfl
  | succ j ih => rw [tri, Nat.mul_add, ih, ← Nat.add_mul, Nat.mul_comm (j + 1 + 1)]

theorem tri_le {j : Nat} (h : j ≤ 4096) : tri j ≤ 8390656 := by
  have h1 := tri_two j
  have h2 : j * (j + 1) ≤ 4096 * 4097 := Nat.mul_le_mul h (by omega)
  omega

theorem raw_le (s : Nat × Nat) (h1 : s.1 < 65536) (h2 : s.2 < 65536) (zs : List Nat) (hz : ∀ z ∈ zs, z < 256) : ∀ k, k ≤ zs.length → (raw s (zs.take k)).1 ≤ 65535 + 255 * k ∧ (raw s (zs.take k)).2 ≤ 65535 + 65535 * k + 255 * tri k
  | 0, _ => by simp [raw, tri]; omega
  | k + 1, h => by
    obtain ⟨i1, i2⟩ := raw_le s h1 h2 zs hz k (by omega)
    rw [raw, foldl_take _ _ _ 0 _ (by omega)]
    rw [raw] at i1 i2
    have hc := hz _ (getD_mem zs k (by omega))
    simp only [rawStep, tri]
    omega

theorem adl_lt (s : Nat × Nat) (h1 : s.1 < 65536) (h2 : s.2 < 65536) (zs : List Nat) : (adl s zs).1 < 65536 ∧ (adl s zs).2 < 65536 := by
  induction zs generalizing s with
  | nil => exact ⟨h1, h2⟩
  | cons z zs ih => exact ih _ (by simp only [adlStep]; omega) (by simp only [adlStep]; omega)

set_option maxHeartbeats 2000000 in
theorem refadler_walk (sum : Nat) (v : Value) (zs : List Nat) (w : World) (hs : sum < 4294967296) (hv : Reads w v zs) (hz : ∀ z ∈ zs, z < 256) (hn : zs.length ≤ 140737488355328) :
    Calls Try.prog 16 #[.int .u32 (sum : Int), v] w fun e w' => e = .returned (.int .u32 (adler sum zs : Int)) ∧ w' = w := by
  obtain ⟨a, cap, rfl, hsp⟩ := hv.spot
  have HZ := hide hz
  have HSP := hide hsp
  obtain ⟨x0, hx0⟩ : ∃ x0, x0 = sum % 65536 := ⟨_, rfl⟩
  obtain ⟨y0, hy0⟩ : ∃ y0, y0 = sum / 65536 := ⟨_, rfl⟩
  have hxi : (sum : Int) % 65536 = (x0 : Int) := by omega
  have hyi : (sum : Int) / 65536 = (y0 : Int) := by omega
  have hyw : (y0 : Int) % 4294967296 = (y0 : Int) := by omega
  have HXY : Hid (x0 < 65536 ∧ y0 < 65536) := hide (by omega)
  have HANS : Hid (adler sum zs = (adl (x0, y0) zs).2 * 65536 + (adl (x0, y0) zs).1) := hide (by rw [hx0, hy0]; rfl)
  obtain ⟨L, hL⟩ : ∃ L, L = zs.length := ⟨_, rfl⟩
  rw [← hL] at hn HSP ⊢
  have HL := hide hL
  clear hz hsp hv hs hL hx0 hy0
  go_enter Try.func16, Try.ntmps16
  go_wp2_with fail
  go_loopg [5, 6, 7] L (fun gk x y c ws => ∃ i : Nat, gk = L - i ∧ i ≤ L ∧ x = .int .u32 ((adl (x0, y0) (zs.take i)).1 : Int) ∧ y = .int .u32 ((adl (x0, y0) (zs.take i)).2 : Int) ∧ c = .int .i64 (i : Int) ∧ ws = w)
  case atStart => exact ⟨0, by omega, by omega, by first | rfl | (rw [hxi]; rfl), by first | rfl | (rw [hyw]; rfl), rfl, rfl⟩
  case round =>
    obtain ⟨i, rfl, hi, rfl, rfl, rfl, rfl⟩ := hrel
    obtain ⟨hb1, hb2⟩ := adl_lt (x0, y0) (unhide HXY).1 (unhide HXY).2 (zs.take i)
    by_cases hlt : i < L
    · obtain ⟨b, off, rfl, hcell⟩ := unhide HSP (by omega)
      have hlz : i < zs.length := by rw [← unhide HL]; exact hlt
      obtain ⟨c, hc⟩ : ∃ c, c = zs.getD i 0 := ⟨_, rfl⟩
      have hc256 : c < 256 := by rw [hc]; exact unhide HZ _ (getD_mem zs i hlz)
      have hcc := hcell i (by first | exact hlz | omega)
      rw [← hc] at hcc
      have HNEXT : Hid (adl (x0, y0) (zs.take (i + 1)) = adlStep (adl (x0, y0) (zs.take i)) c) := hide (by rw [adl, foldl_take _ _ _ 0 _ hlz, hc]; rfl)
      obtain ⟨x, hx⟩ : ∃ x, x = (adl (x0, y0) (zs.take i)).1 := ⟨_, rfl⟩
      obtain ⟨y, hy⟩ : ∃ y, y = (adl (x0, y0) (zs.take i)).2 := ⟨_, rfl⟩
      rw [← hx] at hb1 ⊢
      rw [← hy] at hb2 ⊢
      obtain ⟨x', hx'⟩ : ∃ x', x' = (x + c) % 65521 := ⟨_, rfl⟩
      obtain ⟨y', hy'⟩ : ∃ y', y' = (y + x') % 65521 := ⟨_, rfl⟩
      have HN : Hid (adl (x0, y0) (zs.take (i + 1)) = (x', y')) := hide (by rw [unhide HNEXT, adlStep, ← hx, ← hy, ← hx', ← hy'])
      obtain ⟨xs, hxs⟩ : ∃ xs, xs = x + c := ⟨_, rfl⟩
      obtain ⟨ys, hys⟩ : ∃ ys, ys = y + x' := ⟨_, rfl⟩
      have e1 : (x : Int) + (c : Int) = (xs : Int) := by omega
      have e2 : (xs : Int) % 65521 = (x' : Int) := by omega
      have e3 : (y : Int) + (x' : Int) = (ys : Int) := by omega
      have e4 : (ys : Int) % 65521 = (y' : Int) := by omega
      have e5 : (xs : Int) < 4294967296 := by omega
      have e6 : (ys : Int) < 4294967296 := by omega
      have hwr : IntKind.u32.wrap (c : Int) = (c : Int) := by rw [IntKind.wrap_u32']; omega
      have hil : (i : Int) < (L : Int) := by omega
      have HLT := hide hlt
      clear hcell hlz hc hc256 hx hy hx' hy' hxs hys hb1 hb2 hi hlt
      go_wp2_with fail
      go_roundg (L - (i + 1))
      case measure => have := unhide HLT; omega
      case rel => exact ⟨i + 1, rfl, unhide HLT, by rw [unhide HN, e2], by rw [unhide HN, e4], by go_num, rfl⟩
    · obtain rfl : i = L := by omega
      have HT : Hid (zs.take i = zs) := hide (List.take_of_length_le (by rw [← unhide HL]; exact Nat.le_refl _))
      rw [unhide HT] at hb1 hb2 ⊢
      obtain ⟨x, hx⟩ : ∃ x, x = (adl (x0, y0) zs).1 := ⟨_, rfl⟩
      obtain ⟨y, hy⟩ : ∃ y, y = (adl (x0, y0) zs).2 := ⟨_, rfl⟩
      rw [← hx] at hb1 HANS ⊢
      rw [← hy] at hb2 HANS ⊢
      obtain ⟨z, hz⟩ : ∃ z, z = y * 65536 := ⟨_, rfl⟩
      obtain ⟨u, hu⟩ : ∃ u, u = z + x := ⟨_, rfl⟩
      have e1 : (y : Int) * 65536 = (z : Int) := by omega
      have e2 : (z : Int) + (x : Int) = (u : Int) := by omega
      have e3 : (z : Int) < 4294967296 := by omega
      have e4 : (u : Int) < 4294967296 := by omega
      have HU : Hid (adler sum zs = u) := hide (by rw [unhide HANS, hu, hz])
      clear hx hy hz hu hb1 hb2 hi hlt
      go_wp2_with fail
      go_ret
      exact ⟨by rw [unhide HU]; rfl, rfl⟩
end Go.Proofs.Ytnijllkafakoiaa
