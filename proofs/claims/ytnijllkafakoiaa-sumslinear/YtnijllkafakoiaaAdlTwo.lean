/- sums.Adler takes its modulo once a piece. -/
import Derived.Test.YtnijllkafakoiaaAdl
namespace Go.Proofs.Ytnijllkafakoiaa
open Go.RowKit

theorem and16_32 (r m : Nat) (hr : r < 4294967296) (hm : r % 65536 = m) : bits .and .u32 (r : Int) 65535 = (m : Int) := by
  have := u32_and_nat r 65535 hr (by omega)
  rw [show (65535 : Nat) = 2 ^ 16 - 1 from rfl, Nat.and_two_pow_sub_one_eq_mod, show (2 : Nat) ^ 16 = 65536 from rfl, hm] at this
  exact this

theorem or16_32 (y x : Nat) (hy : y < 65536) (hx : x < 65536) (u : Nat) (hu : u = y * 65536 + x) (z : Nat) (hz : z = y * 65536) : bits .or .u32 (z : Int) (x : Int) = (u : Int) := by
  rw [u32_or_nat z x (by omega) (by omega), hu, hz]
  have := Nat.two_pow_add_eq_or_of_lt (i := 16) (b := x) (by omega) y
  rw [show (2 : Nat) ^ 16 = 65536 from rfl, Nat.mul_comm] at this
  rw [← this]

theorem adl_more (s : Nat × Nat) (zs : List Nat) (o N : Nat) : adl s (zs.take (o + N)) = adl (adl s (zs.take o)) ((zs.drop o).take N) := by
  rw [List.take_add, adl, List.foldl_append]
  rfl

set_option maxHeartbeats 2000000 in
theorem adler_walk (sum : Nat) (a : Option Addr) (cap : Nat) (zs : List Nat) (w : World) (hs : sum < 4294967296) (hv : Reads w (.slice a zs.length cap) zs) (hcap : zs.length ≤ cap) (hz : ∀ z ∈ zs, z < 256) (hn : zs.length ≤ 140737488355328) :
    Calls Try.prog 15 #[.int .u32 (sum : Int), .slice a zs.length cap] w fun e w' => e = .returned (.int .u32 (adler sum zs : Int)) ∧ w' = w := by
  obtain ⟨a', cap', he, hsp⟩ := hv.spot
  obtain ⟨rfl, rfl⟩ : a' = a ∧ cap' = cap := by injection he with e1 e2 e3; exact ⟨e1.symm, e3.symm⟩
  have HZ := hide hz
  obtain ⟨x0, hx0⟩ : ∃ x0, x0 = sum % 65536 := ⟨_, rfl⟩
  obtain ⟨y0, hy0⟩ : ∃ y0, y0 = sum / 65536 := ⟨_, rfl⟩
  have hxi := and16_32 sum x0 hs hx0.symm
  have hyi : (sum : Int) / 65536 = (y0 : Int) := by omega
  have hyw : (y0 : Int) % 4294967296 = (y0 : Int) := by omega
  have HXY : Hid (x0 < 65536 ∧ y0 < 65536) := hide (by omega)
  have HANS : Hid (adler sum zs = (adl (x0, y0) zs).2 * 65536 + (adl (x0, y0) zs).1) := hide (by rw [hx0, hy0]; rfl)
  obtain ⟨L, hL⟩ : ∃ L, L = zs.length := ⟨_, rfl⟩
  rw [← hL] at hn hcap hsp ⊢
  have HSP := hide hsp
  have HL := hide hL
  have HCAP := hide hcap
  clear hz hsp hv hs hL hx0 hy0 he hcap
  go_enter Try.func15, Try.ntmps15
  go_wp2_with fail
  go_loopg [1, 5, 6] L (fun gk vb x y ws => ∃ (o M : Nat) (a1 : Option Addr) (cap1 : Nat), gk = M ∧ o + M = L ∧ vb = .slice a1 M cap1 ∧ M ≤ cap1 ∧ (0 < M → ∃ b off, a1 = some ⟨b, off, none⟩ ∧ ∀ j, j < M → w.cell? ⟨b, off + j, none⟩ = some (.int .u8 (zs.getD (o + j) 0 : Int))) ∧
    x = .int .u32 ((adl (x0, y0) (zs.take o)).1 : Int) ∧ y = .int .u32 ((adl (x0, y0) (zs.take o)).2 : Int) ∧ ws = w)
  case atStart => exact ⟨0, L, _, _, rfl, by omega, rfl, unhide HCAP, fun h => by
    obtain ⟨b, off, h1, h2⟩ := unhide HSP h
    exact ⟨b, off, h1, fun j hj => by rw [Nat.zero_add]; exact h2 j hj⟩, by first | rfl | (rw [hxi]; rfl), by first | rfl | (rw [hyw]; rfl), rfl⟩
  case round =>
    obtain ⟨o, M, a1, cap1, rfl, hoM, rfl, hc1, hcell, rfl, rfl, rfl⟩ := hrel
    obtain ⟨hb1, hb2⟩ := adl_lt (x0, y0) (unhide HXY).1 (unhide HXY).2 (zs.take o)
    by_cases hM : 0 < gk
    · obtain ⟨b, off, rfl, hcl⟩ := hcell hM
      have hMi : (0 : Int) < (gk : Int) := by omega
      rcases (by omega : gk ≤ 4096 ∨ 4096 < gk) with h4 | h4
      · have hN0 : 0 < gk := by omega
        have hNM : gk ≤ gk := by omega
        have hNc : ((gk : Int) : Int) ≤ (cap1 : Int) := by omega
        have hN4 : gk ≤ 4096 := by omega
        have h4i : (gk : Int) ≤ 4096 := by omega
        have h4j : ¬ (4096 : Int) < (gk : Int) := by omega
        have hps : ∀ z ∈ zs.drop o, z < 256 := fun z hz => unhide HZ z (List.mem_of_mem_drop hz)
        have hpl : (zs.drop o).length = gk := by rw [List.length_drop, ← unhide HL]; omega
        obtain ⟨s1, hs1⟩ : ∃ s1, s1 = adl (x0, y0) (zs.take o) := ⟨_, rfl⟩
        have HRAW : Hid (∀ k, k ≤ gk → (raw s1 ((zs.drop o).take k)).1 ≤ 65535 + 255 * k ∧ (raw s1 ((zs.drop o).take k)).2 ≤ 65535 + 65535 * k + 255 * tri k) := hide fun k hk => raw_le s1 (by rw [hs1]; exact hb1) (by rw [hs1]; exact hb2) _ hps k (by omega)
        have HEND : Hid (adl (x0, y0) (zs.take (o + gk)) = ((raw s1 ((zs.drop o).take gk)).1 % 65521, (raw s1 ((zs.drop o).take gk)).2 % 65521)) := hide (by rw [adl_more, ← hs1, adl_raw s1 _ gk (by omega) hN0])
        have HCELL : Hid (∀ j, j < gk → wr.cell? ⟨b, off + j, none⟩ = some (.int .u8 ((zs.drop o).getD j 0 : Int)) ∧ (zs.drop o).getD j 0 < 256) := hide fun j hj => ⟨by rw [hcl j (by omega)]; simp, hps _ (getD_mem _ _ (by omega))⟩
        have HREST : Hid (∀ j, j < gk - gk → wr.cell? ⟨b, off + gk + j, none⟩ = some (.int .u8 (zs.getD (o + gk + j) 0 : Int))) := hide fun j hj => by have := hcl (gk + j) (by omega); rw [← Nat.add_assoc, ← Nat.add_assoc] at this; exact this
        have HRAW0 : Hid ((raw s1 ((zs.drop o).take 0)).1 = s1.1 ∧ (raw s1 ((zs.drop o).take 0)).2 = s1.2) := hide ⟨rfl, rfl⟩
        rw [← hs1]
        have HRS : Hid (∀ k, k < gk → raw s1 ((zs.drop o).take (k + 1)) = rawStep (raw s1 ((zs.drop o).take k)) ((zs.drop o).getD k 0)) := hide fun k hk => by rw [raw, foldl_take _ _ _ 0 _ (by omega)]; rfl
        have HF : Hid (0 < gk ∧ gk ≤ gk ∧ gk ≤ 4096 ∧ gk ≤ cap1 ∧ o + gk = L) := hide (by omega)
        generalize zs.drop o = ps at *
        clear hcell hcl hs1 hps hpl hb1 hb2 hN0 hNM hN4 hc1 hoM hM
        go_wp2_with fail
        go_loopg [5, 6, 24] gk (fun gj x y c ws => ∃ j : Nat, gj = gk - j ∧ j ≤ gk ∧ x = .int .u32 ((raw s1 (ps.take j)).1 : Int) ∧ y = .int .u32 ((raw s1 (ps.take j)).2 : Int) ∧ c = .int .i64 (j : Int) ∧ ws = wr)
        case atStart => exact ⟨0, by omega, by omega, by rw [(unhide HRAW0).1], by rw [(unhide HRAW0).2], rfl, rfl⟩
        case round =>
          obtain ⟨j, rfl, hj, rfl, rfl, rfl, rfl⟩ := hrel
          by_cases hlt : j < gk
          · obtain ⟨hcc, hc256⟩ := unhide HCELL j hlt
            have HNEXT := hide (unhide HRS j hlt)
            obtain ⟨r1, r2⟩ := unhide HRAW (j + 1) hlt
            have ht := tri_le (j := j + 1) (by have := unhide HF; omega)
            rw [unhide HNEXT] at r1 r2
            simp only [rawStep] at r1 r2
            obtain ⟨c, hc⟩ : ∃ c, c = ps.getD j 0 := ⟨_, rfl⟩
            rw [← hc] at hcc hc256 HNEXT r1 r2
            obtain ⟨x, hx⟩ : ∃ x, x = (raw s1 (ps.take j)).1 := ⟨_, rfl⟩
            obtain ⟨y, hy⟩ : ∃ y, y = (raw s1 (ps.take j)).2 := ⟨_, rfl⟩
            rw [← hx] at r1 r2 ⊢
            rw [← hy] at r2 ⊢
            obtain ⟨xs, hxs⟩ : ∃ xs, xs = x + c := ⟨_, rfl⟩
            obtain ⟨ys, hys⟩ : ∃ ys, ys = y + xs := ⟨_, rfl⟩
            have HN : Hid (raw s1 (ps.take (j + 1)) = (xs, ys)) := hide (by rw [unhide HNEXT, rawStep, ← hx, ← hy, hys, hxs])
            have hj4 := (unhide HF).2.2.1
            have e1 : (x : Int) + (c : Int) = (xs : Int) := by omega
            have e3 : (y : Int) + (xs : Int) = (ys : Int) := by omega
            have e5 : (xs : Int) < 4294967296 := by omega
            have e6 : (ys : Int) < 4294967296 := by omega
            have e7 : (xs : Int) % 4294967296 = (xs : Int) := by omega
            have e8 : (ys : Int) % 4294967296 = (ys : Int) := by omega
            have hwr : IntKind.u32.wrap (c : Int) = (c : Int) := by rw [IntKind.wrap_u32']; omega
            have hil : (j : Int) < ((gk : Int) : Int) := by omega
            have HLT := hide hlt
            clear hc hc256 hx hy hxs hys r1 r2 ht hlt hj hj4
            go_wp2_with fail
            go_roundg (gk - (j + 1))
            case measure => have := unhide HLT; omega
            case rel => exact ⟨j + 1, rfl, unhide HLT, by rw [unhide HN], by rw [unhide HN], by go_num, rfl⟩
          · obtain rfl : gk = j := by omega
            obtain ⟨x, hx⟩ : ∃ x, x = (raw s1 (ps.take gk)).1 := ⟨_, rfl⟩
            obtain ⟨y, hy⟩ : ∃ y, y = (raw s1 (ps.take gk)).2 := ⟨_, rfl⟩
            rw [← hx, ← hy] at HEND ⊢
            clear hx hy hlt hj
            obtain ⟨f1, f2, f3, f4, f6⟩ := unhide HF
            by_cases hcn : cap1 = gk
            · go_wp2_with fail
              go_roundg (gk - gk)
              case measure => omega
              case rel => exact ⟨o + gk, gk - gk, some ⟨b, off, none⟩, 0, rfl, by omega, by simp, by omega, fun h => absurd h (by omega), by rw [unhide HEND]; simp, by rw [unhide HEND]; simp, rfl⟩
            · go_wp2_with fail
              go_roundg (gk - gk)
              case measure => omega
              case rel => exact ⟨o + gk, gk - gk, some ⟨b, off + gk, none⟩, cap1 - gk, rfl, by omega, by simp, by omega, fun h => ⟨b, off + gk, rfl, unhide HREST⟩, by rw [unhide HEND]; simp, by rw [unhide HEND]; simp, rfl⟩
      · have hN0 : 0 < 4096 := by omega
        have hNM : 4096 ≤ gk := by omega
        have hNc : (4096 : Int) ≤ (cap1 : Int) := by omega
        have hN4 : 4096 ≤ 4096 := by omega
        have h4i : ¬ (gk : Int) ≤ 4096 := by omega
        have h4j : (4096 : Int) < (gk : Int) := by omega
        have hps : ∀ z ∈ zs.drop o, z < 256 := fun z hz => unhide HZ z (List.mem_of_mem_drop hz)
        have hpl : (zs.drop o).length = gk := by rw [List.length_drop, ← unhide HL]; omega
        obtain ⟨s1, hs1⟩ : ∃ s1, s1 = adl (x0, y0) (zs.take o) := ⟨_, rfl⟩
        have HRAW : Hid (∀ k, k ≤ 4096 → (raw s1 ((zs.drop o).take k)).1 ≤ 65535 + 255 * k ∧ (raw s1 ((zs.drop o).take k)).2 ≤ 65535 + 65535 * k + 255 * tri k) := hide fun k hk => raw_le s1 (by rw [hs1]; exact hb1) (by rw [hs1]; exact hb2) _ hps k (by omega)
        have HEND : Hid (adl (x0, y0) (zs.take (o + 4096)) = ((raw s1 ((zs.drop o).take 4096)).1 % 65521, (raw s1 ((zs.drop o).take 4096)).2 % 65521)) := hide (by rw [adl_more, ← hs1, adl_raw s1 _ 4096 (by omega) hN0])
        have HCELL : Hid (∀ j, j < 4096 → wr.cell? ⟨b, off + j, none⟩ = some (.int .u8 ((zs.drop o).getD j 0 : Int)) ∧ (zs.drop o).getD j 0 < 256) := hide fun j hj => ⟨by rw [hcl j (by omega)]; simp, hps _ (getD_mem _ _ (by omega))⟩
        have HREST : Hid (∀ j, j < gk - 4096 → wr.cell? ⟨b, off + 4096 + j, none⟩ = some (.int .u8 (zs.getD (o + 4096 + j) 0 : Int))) := hide fun j hj => by have := hcl (4096 + j) (by omega); rw [← Nat.add_assoc, ← Nat.add_assoc] at this; exact this
        have HRAW0 : Hid ((raw s1 ((zs.drop o).take 0)).1 = s1.1 ∧ (raw s1 ((zs.drop o).take 0)).2 = s1.2) := hide ⟨rfl, rfl⟩
        rw [← hs1]
        have HRS : Hid (∀ k, k < 4096 → raw s1 ((zs.drop o).take (k + 1)) = rawStep (raw s1 ((zs.drop o).take k)) ((zs.drop o).getD k 0)) := hide fun k hk => by rw [raw, foldl_take _ _ _ 0 _ (by omega)]; rfl
        have HF : Hid (0 < 4096 ∧ 4096 ≤ gk ∧ 4096 ≤ 4096 ∧ gk ≤ cap1 ∧ o + gk = L) := hide (by omega)
        generalize zs.drop o = ps at *
        clear hcell hcl hs1 hps hpl hb1 hb2 hN0 hNM hN4 hc1 hoM hM
        go_wp2_with fail
        go_loopg [5, 6, 24] 4096 (fun gj x y c ws => ∃ j : Nat, gj = 4096 - j ∧ j ≤ 4096 ∧ x = .int .u32 ((raw s1 (ps.take j)).1 : Int) ∧ y = .int .u32 ((raw s1 (ps.take j)).2 : Int) ∧ c = .int .i64 (j : Int) ∧ ws = wr)
        case atStart => exact ⟨0, by omega, by omega, by rw [(unhide HRAW0).1], by rw [(unhide HRAW0).2], rfl, rfl⟩
        case round =>
          obtain ⟨j, rfl, hj, rfl, rfl, rfl, rfl⟩ := hrel
          by_cases hlt : j < 4096
          · obtain ⟨hcc, hc256⟩ := unhide HCELL j hlt
            have HNEXT := hide (unhide HRS j hlt)
            obtain ⟨r1, r2⟩ := unhide HRAW (j + 1) hlt
            have ht := tri_le (j := j + 1) (by have := unhide HF; omega)
            rw [unhide HNEXT] at r1 r2
            simp only [rawStep] at r1 r2
            obtain ⟨c, hc⟩ : ∃ c, c = ps.getD j 0 := ⟨_, rfl⟩
            rw [← hc] at hcc hc256 HNEXT r1 r2
            obtain ⟨x, hx⟩ : ∃ x, x = (raw s1 (ps.take j)).1 := ⟨_, rfl⟩
            obtain ⟨y, hy⟩ : ∃ y, y = (raw s1 (ps.take j)).2 := ⟨_, rfl⟩
            rw [← hx] at r1 r2 ⊢
            rw [← hy] at r2 ⊢
            obtain ⟨xs, hxs⟩ : ∃ xs, xs = x + c := ⟨_, rfl⟩
            obtain ⟨ys, hys⟩ : ∃ ys, ys = y + xs := ⟨_, rfl⟩
            have HN : Hid (raw s1 (ps.take (j + 1)) = (xs, ys)) := hide (by rw [unhide HNEXT, rawStep, ← hx, ← hy, hys, hxs])
            have hj4 := (unhide HF).2.2.1
            have e1 : (x : Int) + (c : Int) = (xs : Int) := by omega
            have e3 : (y : Int) + (xs : Int) = (ys : Int) := by omega
            have e5 : (xs : Int) < 4294967296 := by omega
            have e6 : (ys : Int) < 4294967296 := by omega
            have e7 : (xs : Int) % 4294967296 = (xs : Int) := by omega
            have e8 : (ys : Int) % 4294967296 = (ys : Int) := by omega
            have hwr : IntKind.u32.wrap (c : Int) = (c : Int) := by rw [IntKind.wrap_u32']; omega
            have hil : (j : Int) < (4096 : Int) := by omega
            have HLT := hide hlt
            clear hc hc256 hx hy hxs hys r1 r2 ht hlt hj hj4
            go_wp2_with fail
            go_roundg (4096 - (j + 1))
            case measure => have := unhide HLT; omega
            case rel => exact ⟨j + 1, rfl, unhide HLT, by rw [unhide HN], by rw [unhide HN], by go_num, rfl⟩
          · obtain rfl : j = 4096 := by omega
            obtain ⟨x, hx⟩ : ∃ x, x = (raw s1 (ps.take 4096)).1 := ⟨_, rfl⟩
            obtain ⟨y, hy⟩ : ∃ y, y = (raw s1 (ps.take 4096)).2 := ⟨_, rfl⟩
            rw [← hx, ← hy] at HEND ⊢
            clear hx hy hlt hj
            obtain ⟨f1, f2, f3, f4, f6⟩ := unhide HF
            by_cases hcn : cap1 = 4096
            · go_wp2_with fail
              go_roundg (gk - 4096)
              case measure => omega
              case rel => exact ⟨o + 4096, gk - 4096, _, _, rfl, by omega, by first | rfl | (simp; done), by omega, fun h => absurd h (by omega), by rw [unhide HEND]; simp, by rw [unhide HEND]; simp, rfl⟩
            · go_wp2_with fail
              go_roundg (gk - 4096)
              case measure => omega
              case rel => exact ⟨o + 4096, gk - 4096, _, _, rfl, by omega, by first | rfl | (simp; done), by omega, fun h => ⟨b, off + 4096, rfl, unhide HREST⟩, by rw [unhide HEND]; simp, by rw [unhide HEND]; simp, rfl⟩
    · obtain rfl : gk = 0 := by omega
      have HT : Hid (zs.take o = zs) := hide (List.take_of_length_le (by rw [← unhide HL]; omega))
      rw [unhide HT] at hb1 hb2 ⊢
      obtain ⟨x, hx⟩ : ∃ x, x = (adl (x0, y0) zs).1 := ⟨_, rfl⟩
      obtain ⟨y, hy⟩ : ∃ y, y = (adl (x0, y0) zs).2 := ⟨_, rfl⟩
      rw [← hx] at hb1 HANS ⊢
      rw [← hy] at hb2 HANS ⊢
      obtain ⟨z, hz⟩ : ∃ z, z = y * 65536 := ⟨_, rfl⟩
      obtain ⟨u, hu⟩ : ∃ u, u = y * 65536 + x := ⟨_, rfl⟩
      have e1 : (y : Int) * 65536 = (z : Int) := by omega
      have e3 : (z : Int) % 4294967296 = (z : Int) := by omega
      have e4 := or16_32 y x hb2 hb1 u hu z hz
      have HU : Hid (adler sum zs = u) := hide (by rw [unhide HANS, hu])
      clear hx hy hz hu hM hcell hc1 hoM hb1 hb2
      go_wp2_with fail
      go_ret
      exact ⟨by rw [unhide HU]; rfl, rfl⟩
end Go.Proofs.Ytnijllkafakoiaa
