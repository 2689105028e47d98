/- The document's Join. -/
import Derived.Test.YtnijllkafakoiaaTwice
namespace Go.Proofs.Ytnijllkafakoiaa
open Go.RowKit

/-- where the single bits go behind m steps -/
def mm (m : Nat) : Nat → Nat := fun i => it (lstep pl) m (2 ^ i % 4294967296)

theorem mm_lt (m i : Nat) : mm m i < 4294967296 := it_lt (fun r hr => lstep_lt (w := 32) (p := pl) (by decide) hr) m _ (Nat.mod_lt _ (by omega))

theorem mm_osum (m r : Nat) (hr : r < 4294967296) : osum (mm m) r.testBit 32 = it (lstep pl) m r := by
  rw [← span ((lstep_lin pl).it m) 32 r hr]
  refine osum_congr 32 (fun i hi => ?_) (fun _ _ => rfl)
  have : 2 ^ i < 2 ^ 32 := Nat.pow_lt_pow_right (by omega) hi
  rw [mm, Nat.mod_eq_of_lt this]

theorem mm_twice (m : Nat) : matv (fun i => osum (mm m) (mm m i).testBit 32) = matv (mm (2 * m)) :=
  matv_congr fun i _ => by rw [mm_osum m _ (mm_lt m i), mm, mm, ← it_add, Nat.two_mul]

theorem mtwice_walk (m : Nat) (w : World) : Calls Try.prog 26 #[.agg (matv (mm m))] w fun e w' => e = .returned (.agg (matv (mm (2 * m)))) ∧ Below w.heap.size w w' := by
  have := twice_walk (mm m) w (mm_lt m)
  rw [mm_twice] at this
  exact this

theorem mof_walk (m r : Nat) (w : World) (hr : r < 4294967296) : Calls Try.prog 27 #[.agg (matv (mm m)), .int .u32 (r : Int)] w fun e w' => e = .returned (.int .u32 (it (lstep pl) m r : Int)) ∧ Below w.heap.size w w' := by
  have := of_walk (mm m) r w hr (mm_lt m)
  rw [mm_osum m r hr] at this
  exact this

set_option maxHeartbeats 2000000 in
theorem refjoin_bad (a b : Nat) (n : Int) (w : World) (hn : n < 0) :
    Calls Try.prog 18 #[.int .u32 (a : Int), .int .u32 (b : Int), .int .i64 n] w fun e w' => e = .returned (.tuple #[.int .u32 0, .int .i64 2]) ∧ w' = w := by
  go_enter Try.func18, Try.ntmps18
  go_wp2_with fail
  go_ret2
  exact ⟨rfl, rfl⟩

set_option maxHeartbeats 2000000 in
set_option maxRecDepth 100000 in
theorem refjoin_walk (a b n : Nat) (w : World) (ha : a < 4294967296) (hb : b < 4294967296) (hn : n < 9223372036854775808) :
    Calls Try.prog 18 #[.int .u32 (a : Int), .int .u32 (b : Int), .int .i64 (n : Int)] w fun e w' => e = .returned (.tuple #[.int .u32 (joined a b n : Int), .int .i64 0]) ∧ Below w.heap.size w w' := by
  have HA := hide ha
  have HB := hide hb
  have HN := hide hn
  have hn0 : ¬ (n : Int) < 0 := by omega
  have hz := (zero_of_info info46).1
  clear ha hb hn
  go_enter Try.func18, Try.ntmps18
  go_wp2_with fail
  rw [← matv_zero]
  have HM : Hid (MatAt (w.alloc (Obj.cells (matv fun _ => 0) 46)) w.heap.size (fun _ => 0)) := hide (heap_alloc_last w _)
  have HBE : Hid (Below w.heap.size w (w.alloc (Obj.cells (matv fun _ => 0) 46))) := hide ((Below.refl _ _).alloc (Nat.le_refl _) _)
  generalize w.alloc (Obj.cells (matv fun _ => 0) 46) = w0 at *
  obtain ⟨g, hg⟩ : ∃ g, g = w.heap.size := ⟨_, rfl⟩
  rw [← hg] at HM HBE ⊢
  have HG := hide hg
  clear hg hz
  go_loopg [9] 32 (fun gk c ws => ∃ (i : Nat) (U : Nat → Nat), gk = 32 - i ∧ i ≤ 32 ∧ c = .int .i64 (i : Int) ∧ MatAt ws g U ∧ Below g w ws ∧ (∀ x, x < i → U x = mm 1 x))
  case atStart => exact ⟨0, _, by omega, by omega, rfl, unhide HM, unhide HBE, by omega⟩
  case round =>
    obtain ⟨i, U, rfl, hi, rfl, ht, hbel, hU⟩ := hrel
    by_cases hlt : i < 32
    · have hil : (i : Int) < 32 := by omega
      have HT := hide ht
      have HBEL := hide hbel
      have HU := hide hU
      have HLT := hide hlt
      obtain ⟨q, hq⟩ : ∃ q, q = 2 ^ i % 4294967296 := ⟨_, rfl⟩
      have hqi : (2 : Int) ^ i % 4294967296 = (q : Int) := by rw [hq]; simp
      have hqb : q < 4294967296 := by rw [hq]; exact Nat.mod_lt _ (by omega)
      have HY : Hid (lstep pl q = mm 1 i) := hide (by rw [hq]; rfl)
      have HC := hide (rzero_walk q wr hqb)
      have hcs := ht.cell i hlt
      have hfs := ht.free i
      obtain ⟨y, hy⟩ : ∃ y, y = lstep pl q := ⟨_, rfl⟩
      rw [← hy] at HC HY
      clear ht hbel hU hlt hi hq hqb hy
      go_wp2_with fail
      refine (unhide HC).mono ?_
      rintro e ws ⟨rfl, rfl⟩
      go_wp2_with fail
      go_roundg (32 - (i + 1))
      case measure => have := unhide HLT; omega
      case rel =>
        refine ⟨i + 1, upd U i y, rfl, unhide HLT, by go_num, (unhide HT).set _ _, (unhide HBEL).setCell (by exact Nat.le_refl _) _, fun x hx => ?_⟩
        unfold upd
        split
        · rename_i e; rw [e]; exact unhide HY
        · exact unhide HU x (by omega)
    · obtain rfl : i = 32 := by omega
      have HM1 : Hid (MatAt wr g (mm 1)) := hide (by unfold MatAt; rw [← matv_congr (T := U) (U := mm 1) hU]; exact ht)
      have HB1 := hide hbel
      clear ht hbel hU hlt hi HM HBE
      go_wp2_with fail
      go_loopg [10] 3 (fun gk c ws => ∃ (k : Nat), gk = 3 - k ∧ k ≤ 3 ∧ c = .int .i64 (k : Int) ∧ MatAt ws g (mm (2 ^ k)) ∧ Below g w ws)
      case atStart => exact ⟨0, by omega, by omega, rfl, unhide HM1, unhide HB1⟩
      case round =>
        obtain ⟨k, rfl, hk, rfl, ht, hbel⟩ := hrel
        by_cases hlt : k < 3
        · have hkl : (k : Int) < 3 := by omega
          have HT := hide ht
          have HBEL := hide hbel
          have HLT := hide hlt
          clear ht hbel hlt hk
          go_upto_region 11 with fail
          refine wp_region_lit ?_
          refine wpList_plain rfl fun K hK => wp_load_whole 46 (.tmp 8) (by rfl) g (.agg (matv (mm (2 ^ k)))) (by rfl) (unhide HT).load (hK _ _ ?_)
          clear hK
          go_wp2_with fail
          refine (mtwice_walk (2 ^ k) _).mono ?_
          rintro e w1 ⟨rfl, hb1⟩
          have ht1 := (unhide HT).stays hb1 (heap_lt (unhide HT))
          have hsc := ht1.storeFrom (mm (2 * 2 ^ k))
          have hsz := matv_size (mm (2 * 2 ^ k))
          have HT1 : Hid (MatAt (w1.setRow g (matv (mm (2 * 2 ^ k)))) g (mm (2 ^ (k + 1)))) := hide (by
            rw [show 2 ^ (k + 1) = 2 * 2 ^ k by rw [Nat.pow_succ, Nat.mul_comm]]
            exact setRow_heap w1 g _ _ 46 _ ht1)
          have HB2 : Hid (Below g w (w1.setRow g (matv (mm (2 * 2 ^ k))))) := hide (Below.setRow' ((unhide HBEL).trans (hb1.mono (by have := heap_lt (unhide HT); omega))) _ (Nat.le_refl _) _)
          clear hb1 ht1
          generalize 2 * 2 ^ k = m at *
          go_wp2_with fail
          go_roundg (3 - (k + 1))
          case measure => have := unhide HLT; omega
          case rel => exact ⟨k + 1, rfl, unhide HLT, by go_num, unhide HT1, unhide HB2⟩
        · obtain rfl : k = 3 := by omega
          have HM8 : Hid (MatAt wr g (mm 8)) := hide ht
          have HB8 := hide hbel
          clear ht hbel hlt hk HM1 HB1
          go_wp2_with fail
          go_loopg [0, 2] n (fun gk x y ws => ∃ (A N m : Nat), gk = N ∧ N ≤ n ∧ A < 4294967296 ∧ x = .int .u32 (A : Int) ∧ y = .int .i64 (N : Int) ∧ MatAt ws g (mm m) ∧ Below g w ws ∧ it (lstep pl) (m * N) A = it (lstep pl) (8 * n) a)
          case atStart => exact ⟨a, n, 8, rfl, by omega, unhide HA, rfl, rfl, unhide HM8, unhide HB8, rfl⟩
          case round =>
            obtain ⟨A, N, m, hgk, hNn, hA, rfl, rfl, ht, hbel, hfin⟩ := hrel
            have HFIN := hide hfin
            have HAA := hide hA
            have HGK := hide hgk
            have HT := hide ht
            have HBEL := hide hbel
            clear hfin hgk ht hbel HM8 HB8
            by_cases hN : 0 < N
            · obtain ⟨H, hH⟩ : ∃ H, H = N / 2 := ⟨_, rfl⟩
              have hHi : (N : Int) / 2 = (H : Int) := by omega
              have hNi : (0 : Int) < (N : Int) := by omega
              have HHB : Hid (H < 4611686018427387904) := hide (by have := unhide HN; omega)
              have HH : Hid (H < N ∧ H ≤ n ∧ 0 < N) := hide (by omega)
              by_cases ho : N % 2 = 1
              · have hoi : (N : Int) % 2 = 1 := by omega
                have HF2 : Hid (it (lstep pl) (2 * m * H) (it (lstep pl) m A) = it (lstep pl) (8 * n) a) := hide (by
                  rw [← it_add, ← unhide HFIN]
                  congr 1
                  have e : N = 2 * H + 1 := by omega
                  rw [e, Nat.mul_add, Nat.mul_one, ← Nat.mul_assoc, Nat.mul_comm m 2])
                have HAB : Hid (it (lstep pl) m A < 4294967296) := hide (it_lt (fun r hr => lstep_lt (w := 32) (p := pl) (by decide) hr) m _ hA)
                clear hH hN ho hA hNn
                go_upto_region 14 with fail
                refine wp_region_lit ?_
                refine wpList_plain rfl fun K hK => wp_load_whole 46 (.tmp 8) (by rfl) g (.agg (matv (mm m))) (by rfl) (unhide HT).load (hK _ _ ?_)
                clear hK
                go_wp2_with fail
                refine (mof_walk m A _ (unhide HAA)).mono ?_
                rintro e w1 ⟨rfl, hb1⟩
                have HT2 := hide ((unhide HT).stays hb1 (heap_lt (unhide HT)))
                have HB2 : Hid (Below g w w1) := hide ((unhide HBEL).trans (hb1.mono (by have := heap_lt (unhide HT); omega)))
                clear hb1
                go_upto_region 15 with fail
                refine wp_region_lit ?_
                refine wpList_plain rfl fun K hK => wp_load_whole 46 (.tmp 8) (by rfl) g (.agg (matv (mm m))) (by rfl) (unhide HT2).load (hK _ _ ?_)
                clear hK
                go_wp2_with fail
                refine (mtwice_walk m _).mono ?_
                rintro e w2 ⟨rfl, hb2⟩
                have ht2 := (unhide HT2).stays hb2 (heap_lt (unhide HT2))
                have hsc := ht2.storeFrom (mm (2 * m))
                have hsz := matv_size (mm (2 * m))
                have HT3 : Hid (MatAt (w2.setRow g (matv (mm (2 * m)))) g (mm (2 * m))) := hide (setRow_heap w2 g _ _ 46 _ ht2)
                have HB3 : Hid (Below g w (w2.setRow g (matv (mm (2 * m))))) := hide (Below.setRow' ((unhide HB2).trans (hb2.mono (by have := heap_lt (unhide HT2); omega))) _ (Nat.le_refl _) _)
                clear hb2 ht2
                go_wp2_with fail
                go_roundg H
                case measure => have := unhide HH; have := unhide HGK; omega
                case rel => exact ⟨_, H, 2 * m, rfl, (unhide HH).2.1, unhide HAB, rfl, by rw [wrap64_eq _ (unhide HHB)], unhide HT3, unhide HB3, unhide HF2⟩
              · have hoi : (N : Int) % 2 = 0 := by omega
                have HF2 : Hid (it (lstep pl) (2 * m * H) A = it (lstep pl) (8 * n) a) := hide (by
                  rw [← unhide HFIN]
                  congr 1
                  have e : N = 2 * H := by omega
                  rw [e, ← Nat.mul_assoc, Nat.mul_comm m 2])
                have HT2 := HT
                have HB2 := HBEL
                clear hH hN ho hA hNn
                go_upto_region 15 with fail
                refine wp_region_lit ?_
                refine wpList_plain rfl fun K hK => wp_load_whole 46 (.tmp 8) (by rfl) g (.agg (matv (mm m))) (by rfl) (unhide HT2).load (hK _ _ ?_)
                clear hK
                go_wp2_with fail
                refine (mtwice_walk m _).mono ?_
                rintro e w2 ⟨rfl, hb2⟩
                have ht2 := (unhide HT2).stays hb2 (heap_lt (unhide HT2))
                have hsc := ht2.storeFrom (mm (2 * m))
                have hsz := matv_size (mm (2 * m))
                have HT3 : Hid (MatAt (w2.setRow g (matv (mm (2 * m)))) g (mm (2 * m))) := hide (setRow_heap w2 g _ _ 46 _ ht2)
                have HB3 : Hid (Below g w (w2.setRow g (matv (mm (2 * m))))) := hide (Below.setRow' ((unhide HB2).trans (hb2.mono (by have := heap_lt (unhide HT2); omega))) _ (Nat.le_refl _) _)
                clear hb2 ht2
                go_wp2_with fail
                go_roundg H
                case measure => have := unhide HH; have := unhide HGK; omega
                case rel => exact ⟨_, H, 2 * m, rfl, (unhide HH).2.1, unhide HAA, rfl, by rw [wrap64_eq _ (unhide HHB)], unhide HT3, unhide HB3, unhide HF2⟩
            · obtain rfl : N = 0 := by omega
              have HE : Hid (joined a b n = A ^^^ b) := hide (by rw [joined, ← unhide HFIN]; rfl)
              obtain ⟨y, hy⟩ : ∃ y, A ^^^ b = y := ⟨_, rfl⟩
              have hx := xor_32 hA (unhide HB) hy
              rw [hy] at HE
              clear hN hA hNn hy
              go_wp2_with fail
              go_ret2
              exact ⟨by rw [unhide HE]; rfl, by rw [← unhide HG]; exact unhide HBEL⟩
end Go.Proofs.Ytnijllkafakoiaa
