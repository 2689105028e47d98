/- Match: the longest piece at a place that stands ahead of it, too. -/
import Derived.Test.YtabnfnejlffioaaSeek
namespace Go.Proofs.Ytabnfnejlffioaa
open Go.RowKit Go.Lib
set_option linter.unusedVariables false

attribute [local go_sem ↓] Go.wp_at_zero Go.wp_at_succ

theorem best_none (z : Nat → Nat) (p w : Nat) : IsBest z p w 0 0 0 := ⟨Nat.le_refl _, .inl ⟨rfl, rfl⟩, fun h => by omega⟩

set_option maxRecDepth 100000 in
set_option maxHeartbeats 1000000 in
/-- at the end of the text -/
theorem seek_end (a : Option Addr) (p : Nat) (w : World) (hp : p ≤ 140737488355328) (ha : a = none → p = 0) :
    Calls Try.prog 18 #[.slice a p p, .int .i64 (p : Int)] w fun e w' => e = .returned (.tuple #[.int .i64 0, .int .i64 0]) ∧ w' = w := by
  cases a with
  | none =>
    obtain rfl := ha rfl
    go_enter Try.func18, Try.ntmps18
    go_wp2_with fail
    go_loopg [4, 7] 0 (fun gk vn vp ws => gk = 0 ∧ vn = .int .i64 0 ∧ vp = .int .i64 0 ∧ w = ws)
    case atStart => exact ⟨rfl, rfl, rfl, rfl⟩
    case round =>
      obtain ⟨-, rfl, rfl, rfl⟩ := hrel
      go_wp2_with fail
      go_ret2
      exact ⟨rfl, rfl⟩
  | some x =>
    go_enter Try.func18, Try.ntmps18
    go_wp2_with fail
    go_loopg [4, 7] 0 (fun gk vn vp ws => gk = 0 ∧ vn = .int .i64 0 ∧ vp = .int .i64 0 ∧ w = ws)
    case atStart => exact ⟨rfl, rfl, rfl, rfl⟩
    case round =>
      obtain ⟨-, rfl, rfl, rfl⟩ := hrel
      go_wp2_with fail
      go_ret2
      exact ⟨rfl, rfl⟩

/-- seek, of a text whose spare room is cut off -/
theorem seek_ok (zs : List Nat) (a : Option Addr) (B p : Nat) (w : World) (hr : ReadsU B w (.slice a zs.length zs.length) zs) (hz : ∀ z ∈ zs, z < 256) (hp : p ≤ zs.length) (hl : zs.length < 4294967281) (hm : ML w) :
    Calls Try.prog 18 #[.slice a zs.length zs.length, .int .i64 (p : Int)] w fun e w' => ∃ n d : Nat, e = .returned (.tuple #[.int .i64 (n : Int), .int .i64 (d : Int)]) ∧ IsBest (fun i => zs.getD i 0) p p (zs.length - p) n d ∧ ∃ q, w' = w.drewN q := by
  obtain ⟨a', c', e, _, hs⟩ := id hr
  injection e with e1 e2 e3
  subst e1
  by_cases h : p < zs.length
  · obtain ⟨b, off, rfl, _⟩ := hs (by omega)
    exact seek_loop zs b off zs.length B p w hr hz h hl (Nat.le_refl _) hm
  · have e : zs.length = p := by omega
    rw [e] at hs ⊢
    refine (seek_end a p w (by omega) (fun h => ?_)).mono ?_
    · rcases Nat.eq_zero_or_pos p with h0 | h0
      · exact h0
      · obtain ⟨b, off, e, _⟩ := hs h0
        rw [h] at e
        cases e
    · rintro e w' ⟨rfl, rfl⟩
      exact ⟨0, 0, rfl, by rw [Nat.sub_self]; exact best_none _ _ _, 0, rfl⟩

/-- what Match tells -/
def MatchIs (zs : List Nat) (p W M : Int) (n d e : Int) : Prop :=
  (¬ (0 ≤ p ∧ p ≤ zs.length ∧ 1 ≤ W ∧ 1 ≤ M) ∧ n = 0 ∧ d = 0 ∧ e = 2) ∨
  ((0 ≤ p ∧ p ≤ zs.length ∧ 1 ≤ W ∧ 1 ≤ M) ∧ e = 0 ∧ ∃ n' d' : Nat, n = (n' : Int) ∧ d = (d' : Int) ∧ IsBest (fun i => zs.getD i 0) p.toNat (min p.toNat W.toNat) (min M.toNat (zs.length - p.toNat)) n' d')

theorem bad_args (zl : Nat) (p W M : Int) (h : ¬ (0 ≤ p ∧ p ≤ zl ∧ 1 ≤ W ∧ 1 ≤ M)) : (p < 0) ∨ (¬ p < 0 ∧ (zl : Int) < p) ∨ (¬ p < 0 ∧ ¬ (zl : Int) < p ∧ W < 1) ∨ (¬ p < 0 ∧ ¬ (zl : Int) < p ∧ ¬ W < 1 ∧ M < 1) := by omega

set_option maxRecDepth 100000 in
set_option maxHeartbeats 1000000 in
theorem match_ok (zs : List Nat) (a : Option Addr) (cap B : Nat) (p W M : Int) (w : World) (hr : ReadsU B w (.slice a zs.length cap) zs) (hcap : zs.length ≤ cap) (hz : ∀ z ∈ zs, z < 256) (hl : zs.length < 4294967281) (hW : W ≤ 9223372036854775807) (hM : M ≤ 9223372036854775807) (hm : ML w) :
    Calls Try.prog 8 #[.slice a zs.length cap, .int .i64 p, .int .i64 W, .int .i64 M] w fun e w' => ∃ n d x : Int, e = .returned (.tuple #[.int .i64 n, .int .i64 d, .int .i64 x]) ∧ MatchIs zs p W M n d x ∧ ∃ q, w' = w.drewN q := by
  by_cases hok : 0 ≤ p ∧ p ≤ zs.length ∧ 1 ≤ W ∧ 1 ≤ M
  · obtain ⟨h1, h2, h3, h4⟩ := hok
    obtain ⟨P, rfl⟩ := Int.eq_ofNat_of_zero_le h1
    obtain ⟨V, rfl⟩ := Int.eq_ofNat_of_zero_le (show 0 ≤ W by omega)
    obtain ⟨K, rfl⟩ := Int.eq_ofNat_of_zero_le (show 0 ≤ M by omega)
    have HLK := hide (look_ok zs a cap B P V K w hr hcap (by omega) (by omega) (by omega) (by omega))
    have HSK : Hid (∀ a', ReadsU B w (.slice a' (min P V + min K (zs.length - P)) (min P V + min K (zs.length - P))) ((zs.drop (P - min P V)).take (min P V + min K (zs.length - P))) → Calls Try.prog 18 #[.slice a' (min P V + min K (zs.length - P)) (min P V + min K (zs.length - P)), .int .i64 ((min P V : Nat) : Int)] w fun e w' => ∃ n d : Nat, e = .returned (.tuple #[.int .i64 (n : Int), .int .i64 (d : Int)]) ∧ IsBest (fun i => zs.getD i 0) P (min P V) (min K (zs.length - P)) n d ∧ ∃ q, w' = w.drewN q) := hide fun a' ha => by
      have hln : ((zs.drop (P - min P V)).take (min P V + min K (zs.length - P))).length = min P V + min K (zs.length - P) := by simp; omega
      have := seek_ok ((zs.drop (P - min P V)).take (min P V + min K (zs.length - P))) a' B (min P V) w (by rw [hln]; exact ha) (fun z h => hz z (List.mem_of_mem_drop (List.mem_of_mem_take h))) (by rw [hln]; omega) (by rw [hln]; omega) hm
      rw [hln] at this
      refine this.mono ?_
      rintro e w' ⟨n, d, rfl, hb, hq⟩
      refine ⟨n, d, rfl, ?_, hq⟩
      rw [show min P V + min K (zs.length - P) - min P V = min K (zs.length - P) by omega] at hb
      have h5 := hb.shift (z := fun i => zs.getD i 0) (f := P - min P V) (Nat.le_refl _) (fun i hi => slice_get _ _ _ _ hi)
      rw [show P - min P V + min P V = P by omega] at h5
      exact h5
    have HIS : Hid (∀ n' d' : Nat, IsBest (fun i => zs.getD i 0) P (min P V) (min K (zs.length - P)) n' d' → MatchIs zs (P : Int) (V : Int) (K : Int) (n' : Int) (d' : Int) 0) := hide fun n' d' h => .inr ⟨⟨h1, h2, h3, h4⟩, rfl, n', d', rfl, rfl, by simpa using h⟩
    have t1 : ¬ (P : Int) < 0 := by omega
    have t2 : ¬ (zs.length : Int) < (P : Int) := by omega
    have t3 : ¬ (V : Int) < 1 := by omega
    have t4 : ¬ (K : Int) < 1 := by omega
    obtain ⟨n0, hn0⟩ : ∃ n0, n0 = zs.length := ⟨_, rfl⟩
    rw [← hn0] at t2 HLK HSK HIS ⊢
    obtain ⟨u, hu⟩ : ∃ u, u = min P V := ⟨_, rfl⟩
    obtain ⟨T, hT⟩ : ∃ T, T = u + min K (n0 - P) := ⟨_, rfl⟩
    rw [← hu, ← hT] at HLK HSK
    rw [← hu] at HIS
    clear hr hz hm h1 h2 h3 h4 hT hu hn0
    go_enter Try.func8, Try.ntmps8
    go_wp2_with fail
    refine (unhide HLK).mono ?_
    rintro e w' ⟨a', rfl, ha, hww⟩
    replace hww := hww.symm
    subst hww
    have HS2 := hide (unhide HSK a' ha)
    clear ha HLK HSK
    go_wp2_with fail
    refine (unhide HS2).mono ?_
    rintro e w' ⟨n, d, rfl, hb, q, rfl⟩
    have HF := hide (unhide HIS n d hb)
    clear hb HS2 HIS
    go_wp2_with fail
    go_ret3
    exact ⟨n, d, 0, rfl, unhide HF, q, rfl⟩
  · have HF : Hid (MatchIs zs p W M 0 0 2) := hide (.inl ⟨hok, rfl, rfl, rfl⟩)
    have hb := bad_args zs.length p W M hok
    obtain ⟨n0, hn0⟩ : ∃ n0, n0 = zs.length := ⟨_, rfl⟩
    rw [← hn0] at hb ⊢
    clear hr hz hm hok hn0
    rcases hb with t1 | ⟨t1, t2⟩ | ⟨t1, t2, t3⟩ | ⟨t1, t2, t3, t4⟩
    all_goals go_enter Try.func8, Try.ntmps8
    all_goals go_wp2_with fail
    all_goals go_ret3
    all_goals exact ⟨0, 0, 2, rfl, unhide HF, 0, rfl⟩

end Go.Proofs.Ytabnfnejlffioaa
