/- The law RunsShort, walked. -/
import Derived.Test.YtkmpbmeanaedmaaCt
import Derived.Test.YtkmpbmeanaedmaaPp
import Derived.Test.YtkmpbmeanaedmaaBk
namespace Go.Proofs.Ytkmpbmeanaedmaa
open Go.RowKit Runs
set_option maxRecDepth 100000
set_option linter.unusedVariables false
attribute [local go_sem ↓] Go.wp_at_zero Go.wp_at_succ

def sixA : List Nat := [97, 97, 97, 97, 97, 97]
def sixC : Array Value := #[.int .u8 97, .int .u8 97, .int .u8 97, .int .u8 97, .int .u8 97, .int .u8 97]

theorem conv_six (w : World) : (convert 22 22 (.slice (some ⟨w.heap.size, 0, none⟩) 6 6)).run Try.prog (w.alloc (.cells #[.int .u8 97, .int .u8 97, .int .u8 97, .int .u8 97, .int .u8 97, .int .u8 97] 5)) = .ok (.slice (some ⟨w.heap.size, 0, none⟩) 6 6) (w.alloc (.cells sixC 5 (6, 7))) :=
  Lib.run_convert_bytes_const w 22 5 #[.int .u8 97, .int .u8 97, .int .u8 97, .int .u8 97, .int .u8 97, .int .u8 97] 6 6 Try.underlying22 Try.underlying5

theorem six_in (w : World) : BytesIn (w.alloc (.cells sixC 5 (6, 7))) (some ⟨w.heap.size, 0, none⟩) sixA := by
  intro j hj
  refine ⟨w.heap.size, 0, rfl, ?_⟩
  rw [Nat.zero_add]
  simp only [World.cell?, heap_alloc_new]
  have hj6 : j < 6 := hj
  obtain rfl | rfl | rfl | rfl | rfl | rfl : j = 0 ∨ j = 1 ∨ j = 2 ∨ j = 3 ∨ j = 4 ∨ j = 5 := by omega
  all_goals rfl

theorem six_pack : packF sixA = [97, 97, 97, 97, 2] := by decide

set_option maxHeartbeats 8000000 in
theorem short_law (a0 : Option Addr) (c0 : Nat) (zs : List Nat) (w : World) (hr0 : SrcB w a0 c0 zs) (hs0 : ∀ z ∈ zs, z < 256) (hl0 : zs.length ≤ 1048576) (hc0 : zs.length ≤ c0) :
    Calls Try.prog 6 #[.slice a0 zs.length c0] w fun e w' => e = .returned (.bool true) ∧ Below w.heap.size w w' := by
  have HPK := hide (ppack_ok zs a0 c0 w hr0.bytes hl0 hc0)
  have HPL := hide (packF_len zs.length zs (Nat.le_refl _))
  have HPF := hide (fun W (h : Below w.heap.size w W) => pfront_ok zs a0 c0 W (hr0.bytes.stays h) hs0 hl0)
  have HBI := hide hr0.bytes
  have HSM := hide hs0
  have HUS := hide (used_up zs)
  have HFL := hide (front_lt zs (usedF zs) (all_used hs0))
  have HFZ := hide (front_zero zs (usedF zs) (all_used hs0))
  have HFN : Hid ((frontF zs).length = zs.length) := hide (front_len zs (usedF zs))
  obtain ⟨n, hn⟩ : ∃ n, n = zs.length := ⟨_, rfl⟩
  have HN := hide hn
  rw [← hn] at HPK HPF HPL hl0 hc0 HFN ⊢
  clear hn hr0 hs0
  go_enter Try.func6, Try.ntmps6
  go_wp2_with fail
  refine (unhide HPK).mono ?_
  rintro e w1 ⟨x, rfl, hst⟩
  have hcv := conv_six w1
  have HSI := hide (six_in w1)
  have hb1 := hst.bel
  have HB2 : Hid (Below w.heap.size w (w1.alloc (.cells sixC 5 (6, 7)))) := hide (hb1.alloc hb1.size _)
  obtain ⟨xa, xc, rfl, -, -, -⟩ := hst.lies
  obtain ⟨xl, hxl⟩ : ∃ xl, xl = (packF zs).length := ⟨_, rfl⟩
  rw [← hxl] at HPL ⊢
  have hxx := unhide HPL
  clear hst hb1 hxl HPK HPL
  have hdv : Int.tdiv (n : Int) 4 = ((n / 4 : Nat) : Int) := rfl
  obtain ⟨n4, hn4⟩ : ∃ n4, n4 = n / 4 := ⟨_, rfl⟩
  rw [← hn4] at hxx hdv
  have hn42 : n4 ≤ n := by omega
  have t1 : ¬ (n : Int) + (n4 : Int) < (xl : Int) := by omega
  have t2 : decide ((n : Int) + (n4 : Int) < (xl : Int)) = false := decide_eq_false t1
  clear hn4 hxx
  go_wp2_with fail
  refine (ppack_ok sixA (some ⟨w1.heap.size, 0, none⟩) 6 _ (unhide HSI) (by decide) (by decide)).mono ?_
  rintro e w2 ⟨p6, rfl, hst⟩
  rw [six_pack] at hst
  have HB3 := hide ((unhide HB2).trans (hst.bel.mono (unhide HB2).size))
  have hc6 := conv_reads hst.toRow.reads (by decide)
  clear hst hcv HSI HB2
  have hbs : bs [97, 97, 97, 97, 2] = (⟨#[97, 97, 97, 97, 2]⟩ : ByteArray) := by decide
  rw [hbs] at hc6
  clear hbs
  go_wp2_with fail
  refine (unhide HPF w2 (unhide HB3)).mono ?_
  rintro e w3 ⟨u, g, rfl, hu, hg, hp, hbl⟩
  have HB4 := hide ((unhide HB3).trans (hbl.mono (unhide HB3).size))
  have HP := hide hp
  have hrd := hu.reads
  obtain ⟨ua, uc, e1, hur⟩ := hu
  rw [e1] at hrd
  have HUB := hide hrd.bytes
  obtain ⟨m, hm⟩ : ∃ m, m = (usedF zs).length := ⟨_, rfl⟩
  have hm256 := used_len zs
  rw [← hm] at e1 hm256
  subst e1
  have HM := hide hm
  clear hrd hur hp hbl hm hc6 HPF HB3 t1 t2 hdv hg
  go_wp2_with fail
  go_loopg [6, 7] m (fun gk lv d ws => ∃ (i : Nat) (last : Int), gk = m - i ∧ i ≤ m ∧ lv = .int .i64 last ∧ d = .int .i64 (i : Int) ∧ Hid (i < m → last < (((usedF zs).getD i 0 : Nat) : Int)) ∧ ws = w3)
  case atStart => exact ⟨0, -1, by omega, by omega, rfl, rfl, hide (fun _ => by omega), rfl⟩
  case round =>
    obtain ⟨i, last, rfl, hi, rfl, rfl, HLS, rfl⟩ := hrel
    by_cases hlt : i < m
    · have tl : (i : Int) < (m : Int) := by omega
      obtain ⟨g2, off, rfl, c1⟩ := unhide HUB i (by rw [← unhide HM]; exact hlt)
      have hls := unhide HLS hlt
      have HNX : Hid (i + 1 < m → (((usedF zs).getD i 0 : Nat) : Int) < (((usedF zs).getD (i + 1) 0 : Nat) : Int)) := hide fun h => by
        have := unhide HUS i (by rw [← unhide HM]; exact h)
        omega
      have hsm : (usedF zs).getD i 0 < 256 := (mem_used.1 (getD_mem (l := usedF zs) (r := i) (by rw [← unhide HM]; exact hlt))).1
      generalize (usedF zs).getD i 0 = x at *
      have t1 : ¬ (x : Int) ≤ last := by omega
      have t2 : decide ((x : Int) ≤ last) = false := decide_eq_false t1
      have f5 : IntKind.i64.wrap (x : Int) = (x : Int) := by rw [IntKind.wrap_i64]; omega
      go_wp2_with fail
      go_roundg (m - (i + 1))
      case measure => omega
      case rel => exact ⟨i + 1, (x : Int), rfl, by omega, rfl, by go_num, HNX, rfl⟩
    · obtain rfl : m = i := by omega
      have tl : ¬ (m : Int) < (m : Int) := by omega
      clear HLS
      go_wp2_with fail
      go_loopg [8] n (fun gk d ws => ∃ (j q : Nat), gk = n - j ∧ j ≤ n ∧ d = .int .i64 (j : Int) ∧ ws = wr.drewN q)
      case atStart => exact ⟨0, 0, by omega, by omega, rfl, rfl⟩
      case round =>
        obtain ⟨j, q0, rfl, hj, rfl, rfl⟩ := hrel
        by_cases hjl : j < n
        · have tj : (j : Int) < (n : Int) := by omega
          have hjf : j < (frontF zs).length := by rw [unhide HFN]; exact hjl
          have hk := unhide HFL _ (getD_mem (l := frontF zs) hjf)
          rw [← unhide HM] at hk
          have c1 := (unhide HP).cell j hjl
          have HZ0 := hide (fun j' => unhide HFZ j')
          obtain ⟨k, hkk⟩ : ∃ k, k = (frontF zs).getD j 0 := ⟨_, rfl⟩
          rw [← hkk] at c1 hk
          have d1 : ∀ q, ((wr.drewN q0).drewN q).cell? ⟨g, j, none⟩ = some (.int .i64 (k : Int)) := fun q => c1
          have t1 : decide ((k : Int) < 0) = false := decide_eq_false (by omega)
          have t2 : decide ((m : Int) ≤ (k : Int)) = false := decide_eq_false (by omega)
          have t3 : ¬ (k : Int) < 0 := by omega
          have t4 : ¬ (m : Int) ≤ (k : Int) := by omega
          have HKK := hide hkk
          clear c1 hkk hjf
          by_cases hj0 : j = 0
          · subst hj0
            obtain ⟨W6, hW6⟩ : ∃ W6, W6 = wr.drewN q0 := ⟨_, rfl⟩
            have HW6 := hide hW6
            rw [← hW6] at d1 ⊢
            clear hW6
            go_upto_region 15 with fail
            go_quiet (fail)
            go_wp2_with fail
            go_roundg (n - (0 + 1))
            case measure => omega
            case rel => exact ⟨0 + 1, q0 + nq, rfl, by omega, by go_num, by rw [unhide HW6, World.drewN_drewN]⟩
          · obtain ⟨j1, rfl⟩ : ∃ j1, j = j1 + 1 := ⟨j - 1, by omega⟩
            have hz := unhide HFZ j1 (by rw [← unhide HN]; exact hjl)
            rw [show (frontG (usedF zs) zs).getD (j1 + 1) 0 = k from (unhide HKK).symm] at hz
            obtain ⟨gb, ob, rfl, b1⟩ := ((unhide HBI).stays (unhide HB4)) j1 (by rw [← unhide HN]; omega)
            obtain ⟨gb', ob', eb, b2⟩ := ((unhide HBI).stays (unhide HB4)) (j1 + 1) (by rw [← unhide HN]; exact hjl)
            cases eb
            obtain ⟨y, hy⟩ : ∃ y, y = zs.getD j1 0 := ⟨_, rfl⟩
            obtain ⟨x, hx⟩ : ∃ x, x = zs.getD (j1 + 1) 0 := ⟨_, rfl⟩
            rw [← hy] at b1 hz
            rw [← hx] at b2 hz
            have d2 : ∀ q, ((wr.drewN q0).drewN q).cell? ⟨gb, ob + j1, none⟩ = some (.int .u8 (y : Int)) := fun q => b1
            have d3 : ∀ q, ((wr.drewN q0).drewN q).cell? ⟨gb, ob + (j1 + 1), none⟩ = some (.int .u8 (x : Int)) := fun q => b2
            have fw : IntKind.i64.wrap (j1 : Int) = (j1 : Int) := by rw [IntKind.wrap_i64]; omega
            have tj1 : (j1 : Int) < (n : Int) := by omega
            obtain ⟨W6, hW6⟩ : ∃ W6, W6 = wr.drewN q0 := ⟨_, rfl⟩
            have HW6 := hide hW6
            rw [← hW6] at d1 d2 d3 ⊢
            clear hW6 hy hx b1 b2
            by_cases hk0 : k = 0
            · have hxy := hz.1 hk0
              subst hxy
              have f1 : ((x : Int) == (x : Int)) = true := by rw [beq_iff_eq]
              have f2 : ((k : Int) == 0) = true := by rw [beq_iff_eq]; omega
              clear hz hk0
              go_upto_region 15 with fail
              go_quiet (fail)
              go_wp2_with fail
              go_roundg (n - (j1 + 1 + 1))
              case measure => omega
              case rel => exact ⟨j1 + 1 + 1, q0 + nq, rfl, by omega, by go_num, by rw [unhide HW6, World.drewN_drewN]⟩
            · have hxy : x ≠ y := fun h => hk0 (hz.2 h)
              have f1 : ((x : Int) == (y : Int)) = false := by rw [beq_eq_false_iff_ne]; omega
              have f2 : ((k : Int) == 0) = false := by rw [beq_eq_false_iff_ne]; omega
              have f3 : ¬ (x : Int) = (y : Int) := by omega
              have f4 : ¬ (k : Int) = 0 := by omega
              clear hz hxy
              go_upto_region 15 with fail
              go_quiet (fail)
              go_wp2_with fail
              go_roundg (n - (j1 + 1 + 1))
              case measure => omega
              case rel => exact ⟨j1 + 1 + 1, q0 + nq, rfl, by omega, by go_num, by rw [unhide HW6, World.drewN_drewN]⟩
        · obtain rfl : n = j := by omega
          have tj : ¬ (n : Int) < (n : Int) := by omega
          go_wp2_with fail
          go_ret
          exact ⟨by simp, drewN_below (unhide HB4) q0⟩
end Go.Proofs.Ytkmpbmeanaedmaa
