/- layWords itself. -/
import Derived.Test.YtppbnodgnphaaaaLay
namespace Go.Proofs.Ytppbnodgnphaaaa
open Go.RowKit
set_option maxRecDepth 100000
set_option linter.unusedVariables false

set_option maxRecDepth 100000 in
set_option maxHeartbeats 2000000 in
theorem lay_ok (v : Value) (zs : List Int) (M g : Nat) (w0 w : World) (hr : ReadsI w0 v zs) (hb : Below w0.heap.size w0 w) (hn : zs.length ≤ 65536) (hz : ∀ z ∈ zs, okLen (M : Int) z) (hM : M ≤ 20) (hsum : Canon.sum (nat zs) ≤ 1048576)
    (hrow : IntsAt w .i64 3 g (M + 1) (Canon.cn (nat zs))) :
    Calls Try.prog 60 #[v, .slice (some ⟨g, 0, none⟩) (M + 1) (M + 1)] w fun e w' => ∃ wg, e = .returned (.slice (some ⟨wg, 0, none⟩) zs.length zs.length) ∧ w.heap.size ≤ wg ∧ WordsAt w' 110 wg zs.length (wdz (nat zs)) (Canon.ln (nat zs)) ∧ Below w.heap.size w w' := by
  have hmk := u32s_made w (M + 1) (by omega)
  rw [show ((M + 1 : Nat) : Int) = (M : Int) + 1 by omega] at hmk
  obtain ⟨a, cap, hv, hsp⟩ := id hr
  subst hv
  have HRD := hide (hr.stays hb)
  have HROW := hide hrow
  have HF := hide (fun l hl => fst_le (ls := nat zs) hsum l hl)
  clear hsp hrow hr
  go_enter Try.func60, Try.ntmps60
  go_wp2_with fail
  obtain ⟨ng, hng⟩ : ∃ ng, ng = w.heap.size := ⟨_, rfl⟩
  rw [← hng]
  have HST : Hid (NextAt w ((w.alloc (.cells (icells .u32 (M + 1) fun _ => 0) 64)).alloc (.cells #[.slice (some ⟨ng, 0, none⟩) (M + 1) (M + 1)] 108)) ng M (nat zs) 1) := by
    rw [hng]
    exact NextAt.start w M (nat zs)
  generalize (w.alloc (.cells (icells .u32 (M + 1) fun _ => 0) 64)).alloc (.cells #[.slice (some ⟨ng, 0, none⟩) (M + 1) (M + 1)] 108) = w1 at HST ⊢
  clear hmk hng
  go_loopg [6] M (fun gk d ws => ∃ (k : Nat), gk = M + 1 - k ∧ 1 ≤ k ∧ k ≤ M + 1 ∧ d = .int .i64 (k : Int) ∧ NextAt w ws ng M (nat zs) k)
  case atStart => exact ⟨1, by omega, by omega, by omega, rfl, unhide HST⟩
  case round =>
    obtain ⟨k, rfl, hk1, hk, rfl, hst⟩ := hrel
    clear HST
    by_cases hlt : k < M + 1
    · have hki : (k : Int) < (M : Int) + 1 := by omega
      obtain ⟨m, rfl⟩ : ∃ m, k = m + 1 := ⟨k - 1, by omega⟩
      have c1 := hst.var
      have k1 := hst.nx.cell m (by omega)
      rw [if_pos (by omega)] at k1
      have k2 := hst.nx.cell (m + 1) (by omega)
      have k3 := hst.nx.free (m + 1)
      have k4 := ((unhide HROW).stays hst.bel (unhide HROW).lt).cell m (by omega)
      have hf := unhide HF m (by omega)
      have HST := hide (hst.step (by omega))
      obtain ⟨x, hx⟩ : ∃ x, x = Canon.fst (nat zs) m := ⟨_, rfl⟩
      obtain ⟨c, hc⟩ : ∃ c, c = Canon.cn (nat zs) m := ⟨_, rfl⟩
      rw [← hx] at k1 hf HST
      rw [← hc] at k4 hf HST
      have hmi : (m : Int) < (M : Int) + 1 := by omega
      have hmi2 : (m : Int) + 1 < (M : Int) + 1 := by omega
      have HMB : Hid (m + 1 + 1 ≤ M + 1 ∧ m + 1 < M + 1) := hide (by omega)
      have hmM : m < M := by omega
      have hm0 : (0 : Int) ≤ (m : Int) + 1 := by omega
      have hmMi : (m : Int) < (M : Int) := by omega
      have hw1 : IntKind.i64.wrap (m : Int) = (m : Int) := IntWalk.i64_in _ (by omega)
      have hw2 : IntKind.u32.wrap (c : Int) = (c : Int) := IntWalk.u32_in _ (by omega)
      have hw3 : IntKind.u32.wrap ((x : Int) + (c : Int)) = (x : Int) + (c : Int) := IntWalk.u32_in _ (by omega)
      have hw4 : IntKind.u32.wrap (2 * ((x : Int) + (c : Int))) = 2 * ((x : Int) + (c : Int)) := IntWalk.u32_in _ (by omega)
      clear hst hx hc
      go_wp2_with fail
      refine wp_tail 16 (by kernel_rfl) (by kernel_rfl) ?_
      simp only [List.take_succ_cons, List.take_zero, List.drop_succ_cons, List.drop_zero]
      repeat still_step
      try refine wpStill_nil ?_
      go_wp2_with fail
      go_roundg (M + 1 - (m + 1 + 1))
      case measure => have := unhide HMB; omega
      case rel =>
        refine ⟨m + 1 + 1, rfl, by omega, (unhide HMB).1, by go_num, ?_⟩
        have := unhide HST
        rw [show 2 * ((x : Int) + (c : Int)) = (((x + c) * 2 : Nat) : Int) by omega]
        exact this
    · obtain rfl : k = M + 1 := by omega
      have hki : ¬ ((M + 1 : Nat) : Int) < (M : Int) + 1 := by omega
      have hmk := pwords_made wr zs.length hn
      have HST := hide hst
      clear hst
      go_wp2_with fail
      have hgs : w.heap.size ≤ wr.heap.size := (unhide HST).bel.size
      refine (each_lay w (.slice a zs.length cap) zs (ng + 1) (wr.heap.size + 1) ng wr.heap.size M _ (unhide HRD) hn hz hM hsum (unhide HST).lay).mono ?_
      rintro e w' ⟨rfl, X, hq⟩
      have c2 := hq.cw
      have HQ := hide hq
      clear hq
      go_wp2_with fail
      go_ret
      exact ⟨wr.heap.size, rfl, hgs, (unhide HQ).wd, (unhide HQ).bel⟩

end Go.Proofs.Ytppbnodgnphaaaa
