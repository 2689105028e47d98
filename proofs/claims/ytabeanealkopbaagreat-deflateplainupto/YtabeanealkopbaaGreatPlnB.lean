/- Texts of one proof, one behind the other: LayTwo, CountTwo, New, Word, W4Word, W4Own, W4Fill, W4Put, W4Rd, W4Nobody, W4CPut, W4WriteMath, W4WrTwo, Merge, Best. -/
import Derived.Test.YtabeanealkopbaaGreatPlnA
import Derived.BigQuiet
import Derived.Deep.QuietTactic
import Derived.Test.YtabeanealkopbaaGreatRows
import Derived.WalkKit
import Derived.WalkSpells
import Derived.Handy
import Derived.Laws.Rows
import Derived.Laws.BitsAllLaws
import Derived.WalkMore
import Derived.Deep.LoopGhost
import Derived.Deep.RegionHeld3
import Derived.Deep.AppendLies
import Derived.Deep.DrawnRows
import Derived.Deep.DeepMust
import Derived.StillTailTactics
import Derived.Laws.CopyOwn
import Derived.Laws.IdiomStrings
import Derived.ProofKit
import Derived.OpenShut
import Derived.ChangeOld
import Derived.Lib.SmallJoins
import Derived.Laws.AppendOwnNone
import Derived.Maps.AppendAt
import Derived.KernelRfl

section
namespace Go.Proofs.YtabeanealkopbaaGreat
open Go.RowKit
set_option maxRecDepth 100000
set_option linter.unusedVariables false

set_option maxRecDepth 100000 in
set_option maxHeartbeats 2000000 in
theorem lay_ok (v : Value) (zs : List Int) (M g : Nat) (w0 w : World) (hr : ReadsI w0 v zs) (hb : Below w0.heap.size w0 w) (hn : zs.length ≤ 65536) (hz : ∀ z ∈ zs, okLen (M : Int) z) (hM : M ≤ 20) (hsum : Canon.sum (nat zs) ≤ 1048576)
    (hrow : IntsAt w .i64 3 g (M + 1) (Canon.cn (nat zs))) :
    Calls Tryz.prog 91 #[v, .slice (some ⟨g, 0, none⟩) (M + 1) (M + 1)] w fun e w' => ∃ wg, e = .returned (.slice (some ⟨wg, 0, none⟩) zs.length zs.length) ∧ w.heap.size ≤ wg ∧ WordsAt w' 188 wg zs.length (wdz (nat zs)) (Canon.ln (nat zs)) ∧ Below w.heap.size w w' := by
  have hmk := u32s_made w (M + 1) (by omega)
  rw [show ((M + 1 : Nat) : Int) = (M : Int) + 1 by omega] at hmk
  obtain ⟨a, cap, hv, hsp⟩ := id hr
  subst hv
  have HRD := hide (hr.stays hb)
  have HROW := hide hrow
  have HF := hide (fun l hl => fst_le (ls := nat zs) hsum l hl)
  clear hsp hrow hr
  go_enter Tryz.func91, Tryz.ntmps91
  go_wp2_with fail
  obtain ⟨ng, hng⟩ : ∃ ng, ng = w.heap.size := ⟨_, rfl⟩
  rw [← hng]
  have HST : Hid (NextAt w ((w.alloc (.cells (icells .u32 (M + 1) fun _ => 0) 128)).alloc (.cells #[.slice (some ⟨ng, 0, none⟩) (M + 1) (M + 1)] 186)) ng M (nat zs) 1) := by
    rw [hng]
    exact NextAt.start w M (nat zs)
  generalize (w.alloc (.cells (icells .u32 (M + 1) fun _ => 0) 128)).alloc (.cells #[.slice (some ⟨ng, 0, none⟩) (M + 1) (M + 1)] 186) = w1 at HST ⊢
  clear hmk hng
  go_loopg [6] M (fun gk d ws => ∃ (k : Nat), gk = M + 1 - k ∧ 1 ≤ k ∧ k ≤ M + 1 ∧ d = .int .i64 (k : Int) ∧ NextAt w ws ng M (nat zs) k)
  case atStart => exact ⟨1, by omega, by omega, by omega, rfl, unhide HST⟩
  case round =>
    obtain ⟨k, rfl, hk1, hk, rfl, hst⟩ := hrel
    clear HST
    by_cases hlt : k < M + 1
    · have hki : (k : Int) < (M : Int) + 1 := by omega
      obtain ⟨m, rfl⟩ : ∃ m, k = m + 1 := ⟨k - 1, by omega⟩
      have c1 := hst.var
      have k1 := hst.nx.cell m (by omega)
      rw [if_pos (by omega)] at k1
      have k2 := hst.nx.cell (m + 1) (by omega)
      have k3 := hst.nx.free (m + 1)
      have k4 := ((unhide HROW).stays hst.bel (unhide HROW).lt).cell m (by omega)
      have hf := unhide HF m (by omega)
      have HST := hide (hst.step (by omega))
      obtain ⟨x, hx⟩ : ∃ x, x = Canon.fst (nat zs) m := ⟨_, rfl⟩
      obtain ⟨c, hc⟩ : ∃ c, c = Canon.cn (nat zs) m := ⟨_, rfl⟩
      rw [← hx] at k1 hf HST
      rw [← hc] at k4 hf HST
      have hmi : (m : Int) < (M : Int) + 1 := by omega
      have hmi2 : (m : Int) + 1 < (M : Int) + 1 := by omega
      have HMB : Hid (m + 1 + 1 ≤ M + 1 ∧ m + 1 < M + 1) := hide (by omega)
      have hmM : m < M := by omega
      have hm0 : (0 : Int) ≤ (m : Int) + 1 := by omega
      have hmMi : (m : Int) < (M : Int) := by omega
      have hw1 : IntKind.i64.wrap (m : Int) = (m : Int) := IntWalk.i64_in _ (by omega)
      have hw2 : IntKind.u32.wrap (c : Int) = (c : Int) := IntWalk.u32_in _ (by omega)
      have hw3 : IntKind.u32.wrap ((x : Int) + (c : Int)) = (x : Int) + (c : Int) := IntWalk.u32_in _ (by omega)
      have hw4 : IntKind.u32.wrap (2 * ((x : Int) + (c : Int))) = 2 * ((x : Int) + (c : Int)) := IntWalk.u32_in _ (by omega)
      clear hst hx hc
      go_wp2_with fail
      refine wp_tail 16 (by kernel_rfl) (by kernel_rfl) ?_
      simp only [List.take_succ_cons, List.take_zero, List.drop_succ_cons, List.drop_zero]
      repeat still_step
      try refine wpStill_nil ?_
      go_wp2_with fail
      go_roundg (M + 1 - (m + 1 + 1))
      case measure => have := unhide HMB; omega
      case rel =>
        refine ⟨m + 1 + 1, rfl, by omega, (unhide HMB).1, by go_num, ?_⟩
        have := unhide HST
        rw [show 2 * ((x : Int) + (c : Int)) = (((x + c) * 2 : Nat) : Int) by omega]
        exact this
    · obtain rfl : k = M + 1 := by omega
      have hki : ¬ ((M + 1 : Nat) : Int) < (M : Int) + 1 := by omega
      have hmk := pwords_made wr zs.length hn
      have HST := hide hst
      clear hst
      go_wp2_with fail
      have hgs : w.heap.size ≤ wr.heap.size := (unhide HST).bel.size
      refine (each_lay w (.slice a zs.length cap) zs (ng + 1) (wr.heap.size + 1) ng wr.heap.size M _ (unhide HRD) hn hz hM hsum (unhide HST).lay).mono ?_
      rintro e w' ⟨rfl, X, hq⟩
      have c2 := hq.cw
      have HQ := hide hq
      clear hq
      go_wp2_with fail
      go_ret
      exact ⟨wr.heap.size, rfl, hgs, (unhide HQ).wd, (unhide HQ).bel⟩

end Go.Proofs.YtabeanealkopbaaGreat
end

section
namespace Go.Proofs.YtabeanealkopbaaGreat
open Go.RowKit
set_option maxRecDepth 100000
set_option linter.unusedVariables false

set_option maxRecDepth 100000 in
set_option maxHeartbeats 1000000 in
theorem counts_ok (v : Value) (zs : List Int) (M : Nat) (w : World) (hr : ReadsI w v zs) (hn : zs.length ≤ 65536) (hz : ∀ z ∈ zs, okLen (M : Int) z) (hM : M ≤ 20) :
    Calls Tryz.prog 88 #[v, .int .i64 (M : Int)] w fun e w' => ∃ g, e = .returned (.slice (some ⟨g, 0, none⟩) (M + 1) (M + 1)) ∧ w.heap.size ≤ g ∧ IntsAt w' .i64 3 g (M + 1) (Canon.cn (nat zs)) ∧ Below w.heap.size w w' := by
  have hmk := ints_made w (M + 1) (by omega)
  rw [show ((M + 1 : Nat) : Int) = (M : Int) + 1 by omega] at hmk
  have HR := hide hr
  clear hr
  go_enter Tryz.func88, Tryz.ntmps88
  go_wp2_with fail
  refine (each_count w v zs M _ w.heap.size (M + 1) _ (unhide HR) hn hz hM ?_ ?_ (Nat.le_refl _) ?_ ?_ ?_).mono ?_
  · exact (((Below.refl _ _).alloc (Nat.le_refl _) _).alloc (by simp) _)
  · simp
  · simp
  · have h1 : ((w.alloc (.cells (icells .i64 (M + 1) fun _ => 0) 3)).alloc (.cells #[.slice (some ⟨w.heap.size, 0, none⟩) (M + 1) (M + 1)] 45)).heap[w.heap.size + 1]? = some (.cells #[.slice (some ⟨w.heap.size, 0, none⟩) (M + 1) (M + 1)] 45 (0, 0)) := by
      rw [show w.heap.size + 1 = (w.alloc (.cells (icells .i64 (M + 1) fun _ => 0) 3)).heap.size by simp]
      exact heap_alloc_new _ _
    simp only [World.cell?, h1]
    rfl
  · exact IntsAt.alloc (show IntsAt _ _ _ _ _ _ from heap_alloc_new w _) _
  · rintro e w' ⟨rfl, h1, h2, h3⟩
    have H1 := hide h1
    have H3 := hide h3
    clear h1 h3
    go_wp2_with fail
    go_ret
    exact ⟨w.heap.size, rfl, Nat.le_refl _, unhide H1, unhide H3⟩

def fullB (ls : List Nat) (M : Nat) : Bool := decide (Canon.fst ls M + Canon.cn ls M = 2 ^ M)

/-- how much room is left of 2^l words -/
theorem fst_bound (ls : List Nat) (h : ∀ l ∈ ls, l ≤ 20) (hn : ls.length ≤ 65536) (l : Nat) (hl : l ≤ 20) : Canon.fst ls l + Canon.cn ls l ≤ 34359738368 := by
  have h1 := Canon.fst_kr ls l hl
  have h2 := Canon.kr_mono ls (show l + 1 ≤ 21 by omega)
  rw [Canon.kr, ← h1, ← Nat.add_mul] at h2
  have hp : 0 < 2 ^ (20 - l) := Nat.two_pow_pos _
  have h3 : Canon.fst ls l + Canon.cn ls l ≤ (Canon.fst ls l + Canon.cn ls l) * 2 ^ (20 - l) := Nat.le_mul_of_pos_right _ hp
  have h4 := sum_words ls h ls.length (Nat.le_refl _)
  rw [List.take_length] at h4
  have h5 : words ls ≤ ls.length := by unfold words; exact List.length_filter_le _ _
  unfold Canon.sum at h4
  have h6 : words ls * 524288 ≤ 65536 * 524288 := Nat.mul_le_mul_right _ (by omega)
  omega

set_option maxRecDepth 100000 in
set_option maxHeartbeats 1000000 in
theorem full_ok (ls : List Nat) (M g : Nat) (w : World) (h20 : ∀ l ∈ ls, l ≤ 20) (hn : ls.length ≤ 65536) (hM : M ≤ 20) (hM0 : ¬ M = 0) (hrow : IntsAt w .i64 3 g (M + 1) (Canon.cn ls)) :
    Calls Tryz.prog 89 #[.slice (some ⟨g, 0, none⟩) (M + 1) (M + 1)] w fun e w' => e = .returned (.bool (fullB ls M)) ∧ w' = w := by
  have HF := hide (fst_bound ls h20 hn)
  have HROW := hide hrow
  clear hrow
  go_enter Tryz.func89, Tryz.ntmps89
  go_wp2_with fail
  go_loopg [3, 9] M (fun gk r d ws => ∃ (k : Nat), gk = M - k ∧ k ≤ M ∧ r = .int .i64 (((2 ^ k : Nat) : Int) - ((Canon.fst ls k + Canon.cn ls k : Nat) : Int)) ∧ d = .int .i64 (k : Int) ∧ ws = w)
  case atStart => exact ⟨0, by omega, by omega, by simp [Canon.fst, Canon.cn], rfl, rfl⟩
  case round =>
    obtain ⟨k, rfl, hk, rfl, rfl, rfl⟩ := hrel
    by_cases hlt : k < M
    · have k1 := (unhide HROW).cell (1 + k) (by omega)
      have f1 := unhide HF k (by omega)
      have f2 := unhide HF (k + 1) (by omega)
      have p1 : 2 ^ k ≤ 2 ^ 20 := Nat.pow_le_pow_right (by decide) (by omega)
      have p2 : 2 ^ (k + 1) = 2 * 2 ^ k := by rw [Nat.pow_succ]; omega
      have e1 : Canon.fst ls (k + 1) = (Canon.fst ls k + Canon.cn ls k) * 2 := rfl
      obtain ⟨P, hP⟩ : ∃ P, P = 2 ^ k := ⟨_, rfl⟩
      obtain ⟨P', hP'⟩ : ∃ P', P' = 2 ^ (k + 1) := ⟨_, rfl⟩
      obtain ⟨X, hX⟩ : ∃ X, X = Canon.fst ls k + Canon.cn ls k := ⟨_, rfl⟩
      obtain ⟨X', hX'⟩ : ∃ X', X' = Canon.fst ls (k + 1) + Canon.cn ls (k + 1) := ⟨_, rfl⟩
      obtain ⟨c, hc⟩ : ∃ c, c = Canon.cn ls (k + 1) := ⟨_, rfl⟩
      rw [show 1 + k = k + 1 by omega, ← hc] at k1
      rw [show k + 1 = 1 + k by omega] at k1
      rw [← hP] at p1 p2 ⊢
      rw [← hP'] at p2
      rw [← hX] at f1 e1 ⊢
      have hc2 : X' = X * 2 + c := by rw [hX', e1, hc]
      rw [← hX'] at f2
      have hki : (k : Int) < (M : Int) := by omega
      have HP := hide hP'
      have HX := hide hX'
      clear hP hP' hX hX' hc e1
      have hr : 2 * ((P : Int) - (X : Int)) - (c : Int) = (P' : Int) - (X' : Int) := by omega
      have HP20 := hide p1
      go_wp2_with fail
      go_roundg (M - (k + 1))
      case measure => omega
      case rel => exact ⟨k + 1, rfl, by omega, by rw [← unhide HP, ← unhide HX]; congr 1; omega, by go_num, rfl⟩
    · obtain rfl : k = M := by omega
      have f1 := unhide HF k (by omega)
      have p1 : 2 ^ k ≤ 2 ^ 20 := Nat.pow_le_pow_right (by decide) (by omega)
      obtain ⟨P, hP⟩ : ∃ P, P = 2 ^ k := ⟨_, rfl⟩
      obtain ⟨X, hX⟩ : ∃ X, X = Canon.fst ls k + Canon.cn ls k := ⟨_, rfl⟩
      have HE : Hid (X = P ↔ Canon.fst ls k + Canon.cn ls k = 2 ^ k) := hide (by rw [hP, hX])
      rw [← hP, ← hX]
      clear hP hX
      by_cases e : X = P
      · have e1 : (((P : Int) - (X : Int)) == 0) = true := by simp; omega
        go_wp2_with fail
        go_ret
        exact ⟨by rw [show fullB ls k = true from decide_eq_true ((unhide HE).1 e)]; rfl, rfl⟩
      · have e1 : (((P : Int) - (X : Int)) == 0) = false := by simp; omega
        go_wp2_with fail
        go_ret
        exact ⟨by rw [show fullB ls k = false from decide_eq_false (fun h => e ((unhide HE).2 h))]; rfl, rfl⟩

/-- full, by the room that is left and by the sum -/
theorem full_iff (ls : List Nat) (M : Nat) (h : ∀ l ∈ ls, l ≤ M) (hM : M ≤ 20) : Canon.fst ls M + Canon.cn ls M = 2 ^ M ↔ Canon.sum ls = 1048576 := by
  have hk : ∀ d, M + 1 + d ≤ 21 → Canon.kr ls (M + 1 + d) = Canon.kr ls (M + 1) := by
    intro d
    induction d with
    | zero => intro _; rfl
    | succ d ih =>
      intro h2
      rw [show M + 1 + (d + 1) = (M + 1 + d) + 1 by omega, Canon.kr, ih (by omega)]
      have : Canon.cn ls (M + 1 + d) = 0 := by
        unfold Canon.cn
        rw [if_neg (by omega)]
        refine List.count_eq_zero.2 fun hm => ?_
        have := h _ hm
        omega
      rw [this]; omega
  have e : Canon.sum ls = (Canon.fst ls M + Canon.cn ls M) * 2 ^ (20 - M) := by
    have h21 := hk (20 - M) (by omega)
    rw [show M + 1 + (20 - M) = 21 by omega] at h21
    rw [Canon.sum, h21, Canon.kr, ← Canon.fst_kr ls M hM, Nat.add_mul]
  have hp : 0 < 2 ^ (20 - M) := Nat.two_pow_pos _
  rw [e, show 1048576 = 2 ^ M * 2 ^ (20 - M) by rw [← Nat.pow_add, show M + (20 - M) = 20 by omega]]
  exact ⟨fun h => by rw [h], fun h => Nat.eq_of_mul_eq_mul_right hp h⟩

def bareB (ls : List Nat) : Bool := decide (words ls = 0 ∨ words ls = 1 ∧ ls.count 1 = 1)
theorem bareB_yes {ls : List Nat} (h : words ls = 0 ∨ words ls = 1 ∧ ls.count 1 = 1) : bareB ls = true := decide_eq_true h
theorem bareB_no {ls : List Nat} (h : ¬ (words ls = 0 ∨ words ls = 1 ∧ ls.count 1 = 1)) : bareB ls = false := decide_eq_false h

def tot (ls : List Nat) : Nat → Nat
  | 0 => 0
  | m + 1 => tot ls m + Canon.cn ls m

theorem tot_cons (x : Nat) (ls : List Nat) : ∀ m, tot (x :: ls) m = tot ls m + (if 0 < x ∧ x < m then 1 else 0)
  | 0 => by simp [tot]
  | m + 1 => by
    rw [tot, tot, tot_cons x ls m]
    have hc : Canon.cn (x :: ls) m = Canon.cn ls m + (if 0 < x ∧ x = m then 1 else 0) := by
      unfold Canon.cn
      by_cases h0 : m = 0
      · rw [if_pos h0, if_pos h0, if_neg (by omega)]
      · rw [if_neg h0, if_neg h0, List.count_cons]
        by_cases e : x = m
        · subst e; simp [show 0 < x by omega]
        · simp [e]
    rw [hc]
    by_cases e : x = m
    · by_cases h0 : 0 < x
      · rw [if_neg (by omega), if_pos (by omega), if_pos (by omega)]; omega
      · rw [if_neg (by omega), if_neg (by omega), if_neg (by omega)]; omega
    · by_cases h1 : 0 < x ∧ x < m
      · rw [if_pos h1, if_neg (by omega), if_pos (by omega)]; omega
      · rw [if_neg h1, if_neg (by omega), if_neg (by omega)]; omega

theorem tot_nil : ∀ m, tot [] m = 0
  | 0 => rfl
  | m + 1 => by rw [tot, tot_nil m]; simp [Canon.cn]

theorem tot_words : ∀ (ls : List Nat) (M : Nat), (∀ l ∈ ls, l ≤ M) → tot ls (M + 1) = words ls
  | [], M, _ => by rw [tot_nil]; rfl
  | x :: ls, M, h => by
    rw [tot_cons, tot_words ls M (fun l hl => h l (List.mem_cons_of_mem _ hl))]
    have := h x (by simp)
    unfold words
    by_cases h0 : 0 < x
    · rw [if_pos (by omega), List.filter_cons_of_pos (by simpa using h0)]; simp
    · rw [if_neg (by omega), List.filter_cons_of_neg (by simpa using h0)]; omega

theorem tot_le (ls : List Nat) (hn : ls.length ≤ 65536) : ∀ m, m ≤ 21 → tot ls m ≤ m * 65536
  | 0, _ => by simp [tot]
  | m + 1, h => by
    have := tot_le ls hn m (by omega)
    have h2 := cn_take_le ls ls.length m
    rw [List.take_length] at h2
    rw [tot]; omega

set_option maxRecDepth 100000 in
set_option maxHeartbeats 1000000 in
theorem bare_ok (ls : List Nat) (M g : Nat) (w : World) (hm : ∀ l ∈ ls, l ≤ M) (hn : ls.length ≤ 65536) (hM : M ≤ 20) (hM0 : ¬ M = 0) (hrow : IntsAt w .i64 3 g (M + 1) (Canon.cn ls)) :
    Calls Tryz.prog 90 #[.slice (some ⟨g, 0, none⟩) (M + 1) (M + 1)] w fun e w' => e = .returned (.bool (bareB ls)) ∧ w' = w := by
  have HROW := hide hrow
  have HT := hide (tot_le ls hn)
  have HW := hide (tot_words ls M hm)
  clear hrow hm
  go_enter Tryz.func90, Tryz.ntmps90
  go_wp2_with fail
  go_loopg [3, 8] (M + 1) (fun gk r d ws => ∃ (k : Nat), gk = M + 1 - k ∧ k ≤ M + 1 ∧ r = .int .i64 (tot ls k : Int) ∧ d = .int .i64 (k : Int) ∧ ws = w)
  case atStart => exact ⟨0, by omega, by omega, rfl, rfl, rfl⟩
  case round =>
    obtain ⟨k, rfl, hk, rfl, rfl, rfl⟩ := hrel
    by_cases hlt : k < M + 1
    · have k1 := (unhide HROW).cell k hlt
      have t1 := unhide HT (k + 1) (by omega)
      have t2 : tot ls (k + 1) = tot ls k + Canon.cn ls k := rfl
      obtain ⟨x, hx⟩ : ∃ x, x = tot ls k := ⟨_, rfl⟩
      obtain ⟨x', hx'⟩ : ∃ x', x' = tot ls (k + 1) := ⟨_, rfl⟩
      obtain ⟨c, hc⟩ : ∃ c, c = Canon.cn ls k := ⟨_, rfl⟩
      rw [← hx, ← hx', ← hc] at t2
      rw [← hx'] at t1
      replace t1 : x' ≤ 2000000 := by omega
      rw [← hc] at k1
      rw [← hx]
      have HX := hide hx'
      have HRR : Hid ((x : Int) + (c : Int) = (x' : Int)) := hide (by omega)
      have bx : x ≤ 2000000 := by omega
      have bc : c ≤ 2000000 := by omega
      have hki : (k : Int) < (M : Int) + 1 := by omega
      clear hx hx' hc t1 t2
      go_wp2_with fail
      go_roundg (M + 1 - (k + 1))
      case measure => omega
      case rel => exact ⟨k + 1, rfl, by omega, by rw [← unhide HX, ← unhide HRR], by go_num, rfl⟩
    · obtain rfl : k = M + 1 := by omega
      have k1 := (unhide HROW).cell 1 (by omega)
      have HC1 : Canon.cn ls 1 = ls.count 1 := by simp [Canon.cn]
      rw [HC1] at k1
      rw [unhide HW]
      have hki : ¬ ((M + 1 : Nat) : Int) < (M : Int) + 1 := by omega
      obtain ⟨x, hx⟩ : ∃ x, x = words ls := ⟨_, rfl⟩
      obtain ⟨c, hc⟩ : ∃ c, c = ls.count 1 := ⟨_, rfl⟩
      rw [← hc] at k1
      rw [← hx]
      have HE : Hid ((x = 0 ∨ x = 1 ∧ c = 1) ↔ (words ls = 0 ∨ words ls = 1 ∧ ls.count 1 = 1)) := hide (by rw [hx, hc])
      clear hx hc HC1
      by_cases c1 : x = 0
      · have f1 : ((x : Int) == 0) = true := by simp; omega
        have HR := hide (bareB_yes ((unhide HE).1 (.inl c1)))
        clear c1
        go_wp2_with fail
        go_ret
        exact ⟨by rw [unhide HR]; rfl, rfl⟩
      · have f1 : ((x : Int) == 0) = false := by simp; omega
        by_cases c2 : x = 1
        · have f2 : ((x : Int) == 1) = true := by simp; omega
          by_cases c3 : c = 1
          · have f3 : ((c : Int) == 1) = true := by simp; omega
            have HR := hide (bareB_yes ((unhide HE).1 (.inr ⟨c2, c3⟩)))
            clear c1 c2 c3
            go_wp2_with fail
            go_ret
            exact ⟨by rw [unhide HR]; rfl, rfl⟩
          · have f3 : ((c : Int) == 1) = false := by simp; omega
            have HR := hide (bareB_no (fun h => absurd ((unhide HE).2 h) (by omega)))
            clear c1 c2 c3
            go_wp2_with fail
            go_ret
            exact ⟨by rw [unhide HR]; rfl, rfl⟩
        · have f2 : ((x : Int) == 1) = false := by simp; omega
          have HR := hide (bareB_no (fun h => absurd ((unhide HE).2 h) (by omega)))
          clear c1 c2
          go_wp2_with fail
          go_ret
          exact ⟨by rw [unhide HR]; rfl, rfl⟩

def fitB (most : Int) (zs : List Int) : Bool := decide (∀ z ∈ zs, 0 ≤ z ∧ z ≤ most)

set_option maxHeartbeats 4000000 in
theorem fit_args (a : Option Addr) (n cap : Nat) (most : Int) (w : World) (h : ¬ okArgs n most) :
    Calls Tryz.prog 87 #[.slice a n cap, .int .i64 most] w fun e w' => e = .returned (.bool false) ∧ w' = w := by
  by_cases h1 : most < 1
  · clear h
    go_enter Tryz.func87, Tryz.ntmps87
    go_wp2_with fail
    go_ret
    exact ⟨rfl, rfl⟩
  · by_cases h2 : 20 < most
    · clear h
      go_enter Tryz.func87, Tryz.ntmps87
      go_wp2_with fail
      go_ret
      exact ⟨rfl, rfl⟩
    · by_cases h3 : (n : Int) < 1
      · clear h
        go_enter Tryz.func87, Tryz.ntmps87
        go_wp2_with fail
        go_ret
        exact ⟨rfl, rfl⟩
      · have h4 : (65536 : Int) < (n : Int) := by unfold okArgs at h; omega
        clear h
        go_enter Tryz.func87, Tryz.ntmps87
        go_wp2_with fail
        go_ret
        exact ⟨rfl, rfl⟩

set_option maxRecDepth 100000 in
set_option maxHeartbeats 1000000 in
theorem fit_good (v : Value) (zs : List Int) (most : Int) (w : World) (hr : ReadsI w v zs) (hok : okArgs zs.length most) :
    Calls Tryz.prog 87 #[v, .int .i64 most] w fun e w' => e = .returned (.bool (fitB most zs)) ∧ w' = w := by
  obtain ⟨a, cap, rfl, hsp⟩ := hr
  obtain ⟨h1, h2, h3, h4⟩ := hok
  obtain ⟨n, hn⟩ : ∃ n, n = zs.length := ⟨_, rfl⟩
  have HSP := hide hsp
  rw [← hn] at h3 h4 HSP ⊢
  have HN := hide hn
  clear hsp hn
  have g1 : ¬ most < 1 := by omega
  have g2 : ¬ 20 < most := by omega
  have g3 : ¬ (n : Int) < 1 := by omega
  have g4 : ¬ (65536 : Int) < (n : Int) := by omega
  go_enter Tryz.func87, Tryz.ntmps87
  go_wp2_with fail
  go_loopg [25] n (fun gk d ws => ∃ (k : Nat), gk = n - k ∧ k ≤ n ∧ (∀ j, j < k → okLen most (zs.getD j 0)) ∧ d = .int .i64 (k : Int) ∧ ws = w)
  case atStart => exact ⟨0, by omega, by omega, fun j h => by omega, rfl, rfl⟩
  case round =>
    obtain ⟨k, rfl, hk, hgood, rfl, rfl⟩ := hrel
    by_cases hlt : k < n
    · obtain ⟨b, off, rfl, hcell⟩ := unhide HSP (by omega)
      have hlz : k < zs.length := by rw [← unhide HN]; exact hlt
      obtain ⟨z, hz⟩ : ∃ z, z = zs.getD k 0 := ⟨_, rfl⟩
      have hcc := hcell k (by first | exact hlz | omega)
      rw [← hz] at hcc
      have hki : (k : Int) < (n : Int) := by omega
      by_cases hbad : okLen most z
      · obtain ⟨hz0, hzm⟩ := hbad
        have HGOOD : Hid (∀ j, j < k + 1 → okLen most (zs.getD j 0)) := hide fun j hj => by
          by_cases e : j = k
          · rw [e, ← hz]; exact ⟨hz0, hzm⟩
          · exact hgood j (by omega)
        have e0 : ¬ z < 0 := by omega
        have e1 : ¬ most < z := by omega
        clear hcell hz hlz hgood
        go_wp2_with fail
        go_roundg (n - (k + 1))
        case measure => omega
        case rel => exact ⟨k + 1, rfl, by omega, unhide HGOOD, by go_num, rfl⟩
      · have HBAD : Hid (fitB most zs = false) := hide (decide_eq_false fun h => hbad (by
          rw [hz]
          have : zs.getD k 0 ∈ zs := by rw [List.getD_eq_getElem?_getD, List.getElem?_eq_getElem hlz]; exact List.getElem_mem _
          exact h _ this))
        by_cases e0 : z < 0
        · clear hcell hz hlz hgood hbad hlt hk
          go_wp2_with fail
          go_ret
          exact ⟨by rw [unhide HBAD]; rfl, rfl⟩
        · have e1 : most < z := by unfold okLen at hbad; omega
          clear hcell hz hlz hgood hbad hlt hk
          go_wp2_with fail
          go_ret
          exact ⟨by rw [unhide HBAD]; rfl, rfl⟩
    · obtain rfl : k = n := by omega
      have HALL : Hid (fitB most zs = true) := hide (decide_eq_true fun z hz => by
        obtain ⟨j, hj, rfl⟩ := List.getElem_of_mem hz
        have := hgood j (by rw [unhide HN]; exact hj)
        rw [List.getD_eq_getElem?_getD, List.getElem?_eq_getElem hj] at this
        exact this)
      clear hgood
      go_wp2_with fail
      go_ret
      exact ⟨by rw [unhide HALL]; rfl, rfl⟩

end Go.Proofs.YtabeanealkopbaaGreat
end

section
namespace Go.Proofs.YtabeanealkopbaaGreat
open Go.RowKit
set_option maxRecDepth 100000
set_option linter.unusedVariables false

/-- A code in memory: its blocks lie from lo on, ahead of hi. -/
structure CodeAt (ls : List Nat) (w : World) (cp lo hi wg g cap N base : Nat) (A B S : Nat → Nat) (H : Nat → Bool) (ix ky : Nat → Nat) : Prop where
  blk : w.heap[cp]? = some (.cells #[.bool true, .slice (some ⟨wg, 0, none⟩) ls.length ls.length, .slice (some ⟨g, 0, none⟩) N cap] 155 (0, 0))
  words : WordsAt w 188 wg ls.length (wdz ls) (Canon.ln ls)
  nodes : NodesAt w base g cap N A B S H
  tr : Trie N A B S H (Beg ls ls.length) (Wrd ls ls.length) ix ky
  good : Good ls
  small : ls.length ≤ 65536
  b1 : lo ≤ cp ∧ cp < hi
  b2 : lo ≤ wg ∧ wg < hi
  b3 : lo ≤ g ∧ g < hi

def Code (ls : List Nat) (w : World) (cp lo hi : Nat) : Prop := ∃ wg g cap N base A B S H ix ky, CodeAt ls w cp lo hi wg g cap N base A B S H ix ky

theorem Code.keep {ls : List Nat} {w w' : World} {cp lo hi : Nat} (h : Code ls w cp lo hi) (hk : ∀ k, lo ≤ k → k < hi → w'.heap[k]? = w.heap[k]?) : Code ls w' cp lo hi := by
  obtain ⟨wg, g, cap, N, base, A, B, S, H, ix, ky, h⟩ := h
  exact ⟨wg, g, cap, N, base, A, B, S, H, ix, ky, by rw [hk _ h.b1.1 h.b1.2]; exact h.blk, by unfold WordsAt; rw [hk _ h.b2.1 h.b2.2]; exact h.words, h.nodes.keep (hk _ h.b3.1 h.b3.2), h.tr, h.good, h.small, h.b1, h.b2, h.b3⟩

theorem Code.below {ls : List Nat} {w w' : World} {cp lo hi B : Nat} (h : Code ls w cp lo hi) (hb : Below B w w') (hB : hi ≤ B) : Code ls w' cp lo hi := h.keep fun k _ h2 => hb.block k (by omega)

def pnewPost (zs : List Int) (most : Int) (loose : Bool) (w : World) (e : Ending) (w' : World) : Prop :=
  (¬ (okArgs zs.length most ∧ ∀ z ∈ zs, okLen most z) → e = .returned (.tuple #[.pointer none, .int .i64 2])) ∧
  ((okArgs zs.length most ∧ ∀ z ∈ zs, okLen most z) → ¬ okSum (nat zs) loose → e = .returned (.tuple #[.pointer none, .int .i64 13])) ∧
  ((okArgs zs.length most ∧ ∀ z ∈ zs, okLen most z) → okSum (nat zs) loose → ∃ cp, e = .returned (.tuple #[.pointer (some ⟨cp, 0, none⟩), .int .i64 0]) ∧ Code (nat zs) w' cp w.heap.size w'.heap.size) ∧
  Below w.heap.size w w'

theorem pnewPost.bad {zs : List Int} {most : Int} {loose : Bool} {w : World} (h : ¬ (okArgs zs.length most ∧ ∀ z ∈ zs, okLen most z)) : pnewPost zs most loose w (.returned (.tuple #[.pointer none, .int .i64 2])) w :=
  ⟨fun _ => rfl, fun h' => absurd h' h, fun h' => absurd h' h, Below.refl _ _⟩

theorem okSum_iff {ls : List Nat} {M : Nat} {loose : Bool} (h : ∀ l ∈ ls, l ≤ M) (hM : M ≤ 20) : okSum ls loose ↔ fullB ls M = true ∨ loose = true ∧ bareB ls = true := by
  unfold okSum
  rw [← full_iff ls M h hM]
  simp only [fullB, bareB, decide_eq_true_eq]

set_option maxHeartbeats 1000000 in
theorem pnew_args (a : Option Addr) (n cap : Nat) (most : Int) (loose : Bool) (w : World) (h : ¬ okArgs n most) :
    Calls Tryz.prog 60 #[.slice a n cap, .int .i64 most, .bool loose] w fun e w' => e = .returned (.tuple #[.pointer none, .int .i64 2]) ∧ w' = w := by
  have H := hide h
  clear h
  go_enter Tryz.func60, Tryz.ntmps60
  go_wp2_with (go_at_call 87; refine (fit_args _ _ _ _ _ (unhide H)).mono ?_; rintro e w' ⟨rfl, rfl⟩)
  go_ret2
  exact ⟨rfl, rfl⟩

set_option maxHeartbeats 1000000 in
theorem pnew_lens (v : Value) (zs : List Int) (most : Int) (loose : Bool) (w : World) (hr : ReadsI w v zs) (hok : okArgs zs.length most) (hb : fitB most zs = false) :
    Calls Tryz.prog 60 #[v, .int .i64 most, .bool loose] w fun e w' => e = .returned (.tuple #[.pointer none, .int .i64 2]) ∧ w' = w := by
  have HR := hide hr
  have HOK := hide hok
  clear hr hok
  go_enter Tryz.func60, Tryz.ntmps60
  go_wp2_with (go_at_call 87; refine (fit_good _ zs _ _ (unhide HR) (unhide HOK)).mono ?_; rintro e w' ⟨rfl, rfl⟩)
  go_ret2
  exact ⟨rfl, rfl⟩

/-- The code that is laid of words and nodes. -/
theorem code_made {ls : List Nat} {w wc ww w3 : World} {wg g cap N : Nat} {A B S : Nat → Nat} {H : Nat → Bool} {ix ky : Nat → Nat} (hg : Good ls) (hn : ls.length ≤ 65536) (b1 : Below w.heap.size w wc) (h1 : wc.heap.size ≤ wg) (hw : WordsAt ww 188 wg ls.length (wdz ls) (Canon.ln ls)) (b2 : Below wc.heap.size wc ww)
    (h3 : WayAt ww w3 g cap N A B S H (Beg ls ls.length) (Wrd ls ls.length) ix ky) :
    Code ls (w3.alloc (.cells #[.bool true, .slice (some ⟨wg, 0, none⟩) ls.length ls.length, .slice (some ⟨g, 0, none⟩) N cap] 155)) w3.heap.size w.heap.size (w3.alloc (.cells #[.bool true, .slice (some ⟨wg, 0, none⟩) ls.length ls.length, .slice (some ⟨g, 0, none⟩) N cap] 155)).heap.size ∧ Below w.heap.size w (w3.alloc (.cells #[.bool true, .slice (some ⟨wg, 0, none⟩) ls.length ls.length, .slice (some ⟨g, 0, none⟩) N cap] 155)) := by
  have s1 := b1.size
  have s2 := b2.size
  have s3 := h3.bel.size
  have hl := h3.row.lt
  have hwl := hw.lt
  have hw3 := hw.stays h3.bel hwl
  refine ⟨⟨wg, g, cap, N, _, A, B, S, H, ix, ky, heap_alloc_new _ _, hw3.alloc _, h3.row.keep (Below.heap_alloc _ _ _ hl.2), h3.tr, hg, hn, ?_, ?_, ?_⟩, ?_⟩
  · simp; omega
  · simp; omega
  · simp; omega
  · exact ((b1.trans (b2.mono (by omega))).trans (h3.bel.mono (by omega))).alloc (by omega) _

theorem lens_le {zs : List Int} {M : Nat} (hz : ∀ z ∈ zs, okLen (M : Int) z) : ∀ l ∈ nat zs, l ≤ M := fun l hl => by
  obtain ⟨z, hz', rfl⟩ := List.mem_map.1 hl
  have := hz z hz'
  unfold okLen at this
  omega

set_option maxRecDepth 100000 in
set_option maxHeartbeats 2000000 in
theorem pnew_no1 (v : Value) (zs : List Int) (M : Nat) (loose : Bool) (w : World) (hr : ReadsI w v zs) (hok : okArgs zs.length (M : Int)) (hz : ∀ z ∈ zs, okLen (M : Int) z) (hF : fullB (nat zs) M = false) (hl : loose = false) :
    Calls Tryz.prog 60 #[v, .int .i64 (M : Int), .bool loose] w fun e w' => e = .returned (.tuple #[.pointer none, .int .i64 13]) ∧ Below w.heap.size w w' := by
  obtain ⟨q1, q2, q3, q4⟩ := id hok
  have hM20 : M ≤ 20 := by omega
  have hM0 : ¬ M = 0 := by omega
  have hlM := lens_le hz
  have hl20 : ∀ l ∈ nat zs, l ≤ 20 := fun l hl => by have := hlM l hl; omega
  have hlen : (nat zs).length = zs.length := by simp [nat]
  have HFIT : Hid (fitB (M : Int) zs = true) := hide (decide_eq_true hz)
  have HR := hide hr
  have HOK := hide hok
  have HZ := hide hz
  have HM := hide hlM
  have H20 := hide hl20
  have HLEN := hide hlen
  clear hr hok hz hlM hl20 hlen q1 q2 q3
  subst hl
  have HF := hide hF
  clear hF
  go_enter Tryz.func60, Tryz.ntmps60
  go_wp2_with (first | (go_at_call 87; refine (fit_good _ zs _ _ (unhide HR) (unhide HOK)).mono ?_; rintro e w' ⟨rfl, rfl⟩; rw [unhide HFIT]) | (go_at_call 88; go_must (refine (counts_ok _ zs M _ (unhide HR) q4 (unhide HZ) hM20).mono ?_; rintro e wc ⟨cg, rfl, h1, h2, h3⟩; have H1 := hide h1; have H2 := hide h2; have H3 := hide h3; clear h1 h2 h3)) | (go_at_call 89; go_must (refine (full_ok (nat zs) M cg _ (unhide H20) (by rw [unhide HLEN]; exact q4) hM20 hM0 (unhide H2)).mono ?_; rintro e w' ⟨rfl, rfl⟩; rw [unhide HF])))
  go_ret2
  exact ⟨rfl, unhide H3⟩

set_option maxRecDepth 100000 in
set_option maxHeartbeats 2000000 in
theorem pnew_no2 (v : Value) (zs : List Int) (M : Nat) (loose : Bool) (w : World) (hr : ReadsI w v zs) (hok : okArgs zs.length (M : Int)) (hz : ∀ z ∈ zs, okLen (M : Int) z) (hF : fullB (nat zs) M = false) (hl : loose = true) (hB : bareB (nat zs) = false) :
    Calls Tryz.prog 60 #[v, .int .i64 (M : Int), .bool loose] w fun e w' => e = .returned (.tuple #[.pointer none, .int .i64 13]) ∧ Below w.heap.size w w' := by
  obtain ⟨q1, q2, q3, q4⟩ := id hok
  have hM20 : M ≤ 20 := by omega
  have hM0 : ¬ M = 0 := by omega
  have hlM := lens_le hz
  have hl20 : ∀ l ∈ nat zs, l ≤ 20 := fun l hl => by have := hlM l hl; omega
  have hlen : (nat zs).length = zs.length := by simp [nat]
  have HFIT : Hid (fitB (M : Int) zs = true) := hide (decide_eq_true hz)
  have HR := hide hr
  have HOK := hide hok
  have HZ := hide hz
  have HM := hide hlM
  have H20 := hide hl20
  have HLEN := hide hlen
  clear hr hok hz hlM hl20 hlen q1 q2 q3
  subst hl
  have HF := hide hF
  have HB := hide hB
  clear hF hB
  go_enter Tryz.func60, Tryz.ntmps60
  go_wp2_with (first | (go_at_call 87; refine (fit_good _ zs _ _ (unhide HR) (unhide HOK)).mono ?_; rintro e w' ⟨rfl, rfl⟩; rw [unhide HFIT]) | (go_at_call 88; go_must (refine (counts_ok _ zs M _ (unhide HR) q4 (unhide HZ) hM20).mono ?_; rintro e wc ⟨cg, rfl, h1, h2, h3⟩; have H1 := hide h1; have H2 := hide h2; have H3 := hide h3; clear h1 h2 h3)) | (go_at_call 89; go_must (refine (full_ok (nat zs) M cg _ (unhide H20) (by rw [unhide HLEN]; exact q4) hM20 hM0 (unhide H2)).mono ?_; rintro e w' ⟨rfl, rfl⟩; rw [unhide HF])) | (go_at_call 90; go_must (refine (bare_ok (nat zs) M cg _ (unhide HM) (by rw [unhide HLEN]; exact q4) hM20 hM0 (unhide H2)).mono ?_; rintro e w' ⟨rfl, rfl⟩; rw [unhide HB])))
  go_ret2
  exact ⟨rfl, unhide H3⟩

set_option maxRecDepth 100000 in
set_option maxHeartbeats 2000000 in
theorem pnew_yes1 (v : Value) (zs : List Int) (M : Nat) (loose : Bool) (w : World) (hr : ReadsI w v zs) (hok : okArgs zs.length (M : Int)) (hz : ∀ z ∈ zs, okLen (M : Int) z) (hg : Good (nat zs)) (hF : fullB (nat zs) M = true) :
    Calls Tryz.prog 60 #[v, .int .i64 (M : Int), .bool loose] w fun e w' => ∃ cp, e = .returned (.tuple #[.pointer (some ⟨cp, 0, none⟩), .int .i64 0]) ∧ Code (nat zs) w' cp w.heap.size w'.heap.size ∧ Below w.heap.size w w' := by
  obtain ⟨q1, q2, q3, q4⟩ := id hok
  have hM20 : M ≤ 20 := by omega
  have hM0 : ¬ M = 0 := by omega
  have hlM := lens_le hz
  have hl20 : ∀ l ∈ nat zs, l ≤ 20 := fun l hl => by have := hlM l hl; omega
  have hlen : (nat zs).length = zs.length := by simp [nat]
  have HFIT : Hid (fitB (M : Int) zs = true) := hide (decide_eq_true hz)
  have HR := hide hr
  have HOK := hide hok
  have HZ := hide hz
  have HM := hide hlM
  have H20 := hide hl20
  have HLEN := hide hlen
  clear hr hok hz hlM hl20 hlen q1 q2 q3
  have HG := hide hg
  clear hg
  have HF := hide hF
  clear hF
  go_enter Tryz.func60, Tryz.ntmps60
  go_wp2_with (first | (go_at_call 87; refine (fit_good _ zs _ _ (unhide HR) (unhide HOK)).mono ?_; rintro e w' ⟨rfl, rfl⟩; rw [unhide HFIT]) | (go_at_call 88; go_must (refine (counts_ok _ zs M _ (unhide HR) q4 (unhide HZ) hM20).mono ?_; rintro e wc ⟨cg, rfl, h1, h2, h3⟩; have H1 := hide h1; have H2 := hide h2; have H3 := hide h3; clear h1 h2 h3)) | (go_at_call 89; go_must (refine (full_ok (nat zs) M cg _ (unhide H20) (by rw [unhide HLEN]; exact q4) hM20 hM0 (unhide H2)).mono ?_; rintro e w' ⟨rfl, rfl⟩; rw [unhide HF])) | (go_at_call 91; go_must (refine (lay_ok _ zs M cg _ _ (unhide HR) (unhide H3) q4 (unhide HZ) hM20 (unhide HG).sum (unhide H2)).mono ?_; rintro e ww ⟨wg, rfl, h4, h5, h6⟩; rw [← unhide HLEN] at h5; have H4 := hide h4; have H5 := hide h5; have H6 := hide h6; clear h4 h5 h6; rw [← unhide HLEN])) | (go_at_call 92; go_must (refine (ways_ok (nat zs) wg (nat zs).length _ (unhide HG) rfl (by rw [unhide HLEN]; exact q4) (unhide H5)).mono ?_; rintro e w3 ⟨g, cap, N, A, B, S, H, ix, ky, rfl, h7⟩; have H7 := hide h7; clear h7)))
  go_ret2
  have hh := code_made (unhide HG) (by rw [unhide HLEN]; exact q4) (unhide H3) (unhide H4) (unhide H5) (unhide H6) (unhide H7)
  exact ⟨_, rfl, hh.1, hh.2⟩

set_option maxRecDepth 100000 in
set_option maxHeartbeats 2000000 in
theorem pnew_yes2 (v : Value) (zs : List Int) (M : Nat) (loose : Bool) (w : World) (hr : ReadsI w v zs) (hok : okArgs zs.length (M : Int)) (hz : ∀ z ∈ zs, okLen (M : Int) z) (hg : Good (nat zs)) (hF : fullB (nat zs) M = false) (hl : loose = true) (hB : bareB (nat zs) = true) :
    Calls Tryz.prog 60 #[v, .int .i64 (M : Int), .bool loose] w fun e w' => ∃ cp, e = .returned (.tuple #[.pointer (some ⟨cp, 0, none⟩), .int .i64 0]) ∧ Code (nat zs) w' cp w.heap.size w'.heap.size ∧ Below w.heap.size w w' := by
  obtain ⟨q1, q2, q3, q4⟩ := id hok
  have hM20 : M ≤ 20 := by omega
  have hM0 : ¬ M = 0 := by omega
  have hlM := lens_le hz
  have hl20 : ∀ l ∈ nat zs, l ≤ 20 := fun l hl => by have := hlM l hl; omega
  have hlen : (nat zs).length = zs.length := by simp [nat]
  have HFIT : Hid (fitB (M : Int) zs = true) := hide (decide_eq_true hz)
  have HR := hide hr
  have HOK := hide hok
  have HZ := hide hz
  have HM := hide hlM
  have H20 := hide hl20
  have HLEN := hide hlen
  clear hr hok hz hlM hl20 hlen q1 q2 q3
  have HG := hide hg
  clear hg
  subst hl
  have HF := hide hF
  have HB := hide hB
  clear hF hB
  go_enter Tryz.func60, Tryz.ntmps60
  go_wp2_with (first | (go_at_call 87; refine (fit_good _ zs _ _ (unhide HR) (unhide HOK)).mono ?_; rintro e w' ⟨rfl, rfl⟩; rw [unhide HFIT]) | (go_at_call 88; go_must (refine (counts_ok _ zs M _ (unhide HR) q4 (unhide HZ) hM20).mono ?_; rintro e wc ⟨cg, rfl, h1, h2, h3⟩; have H1 := hide h1; have H2 := hide h2; have H3 := hide h3; clear h1 h2 h3)) | (go_at_call 89; go_must (refine (full_ok (nat zs) M cg _ (unhide H20) (by rw [unhide HLEN]; exact q4) hM20 hM0 (unhide H2)).mono ?_; rintro e w' ⟨rfl, rfl⟩; rw [unhide HF])) | (go_at_call 90; go_must (refine (bare_ok (nat zs) M cg _ (unhide HM) (by rw [unhide HLEN]; exact q4) hM20 hM0 (unhide H2)).mono ?_; rintro e w' ⟨rfl, rfl⟩; rw [unhide HB])) | (go_at_call 91; go_must (refine (lay_ok _ zs M cg _ _ (unhide HR) (unhide H3) q4 (unhide HZ) hM20 (unhide HG).sum (unhide H2)).mono ?_; rintro e ww ⟨wg, rfl, h4, h5, h6⟩; rw [← unhide HLEN] at h5; have H4 := hide h4; have H5 := hide h5; have H6 := hide h6; clear h4 h5 h6; rw [← unhide HLEN])) | (go_at_call 92; go_must (refine (ways_ok (nat zs) wg (nat zs).length _ (unhide HG) rfl (by rw [unhide HLEN]; exact q4) (unhide H5)).mono ?_; rintro e w3 ⟨g, cap, N, A, B, S, H, ix, ky, rfl, h7⟩; have H7 := hide h7; clear h7)))
  go_ret2
  have hh := code_made (unhide HG) (by rw [unhide HLEN]; exact q4) (unhide H3) (unhide H4) (unhide H5) (unhide H6) (unhide H7)
  exact ⟨_, rfl, hh.1, hh.2⟩

theorem pnew_ok (v : Value) (zs : List Int) (most : Int) (loose : Bool) (w : World) (hr : ReadsI w v zs) :
    Calls Tryz.prog 60 #[v, .int .i64 most, .bool loose] w fun e w' => pnewPost zs most loose w e w' := by
  by_cases hok : okArgs zs.length most
  · by_cases hz : ∀ z ∈ zs, okLen most z
    · obtain ⟨M, rfl⟩ := Int.eq_ofNat_of_zero_le (show 0 ≤ most by have := hok.1; omega)
      have hM : M ≤ 20 := by have := hok.2.1; omega
      have hiff := okSum_iff (loose := loose) (lens_le hz) hM
      have ho : okArgs zs.length (M : Int) ∧ ∀ z ∈ zs, okLen (M : Int) z := ⟨hok, hz⟩
      have l20 : ∀ l ∈ nat zs, l ≤ 20 := fun l hl => by have := lens_le hz l hl; omega
      by_cases hs : okSum (nat zs) loose
      · have hg : Good (nat zs) := ⟨l20, okSum.le l20 hs⟩
        cases hF : fullB (nat zs) M with
        | true => exact (pnew_yes1 v zs M loose w hr hok hz hg hF).mono fun e w' ⟨cp, he, hc, hb⟩ => ⟨fun h => absurd ho h, fun _ h => absurd hs h, fun _ _ => ⟨cp, he, hc⟩, hb⟩
        | false =>
          have h2 := (hiff.1 hs).resolve_left (by rw [hF]; simp)
          exact (pnew_yes2 v zs M loose w hr hok hz hg hF h2.1 h2.2).mono fun e w' ⟨cp, he, hc, hb⟩ => ⟨fun h => absurd ho h, fun _ h => absurd hs h, fun _ _ => ⟨cp, he, hc⟩, hb⟩
      · have hF : fullB (nat zs) M = false := by
          cases hF : fullB (nat zs) M with
          | true => exact absurd (hiff.2 (.inl hF)) hs
          | false => rfl
        cases hl : loose with
        | false =>
          rw [hl] at hs
          exact (pnew_no1 v zs M false w hr hok hz hF rfl).mono fun e w' ⟨he, hb⟩ => ⟨fun h => absurd ho h, fun _ _ => he, fun _ h => absurd h hs, hb⟩
        | true =>
          have hB : bareB (nat zs) = false := by
            cases hB : bareB (nat zs) with
            | true => exact absurd (hiff.2 (.inr ⟨hl, hB⟩)) hs
            | false => rfl
          rw [hl] at hs
          exact (pnew_no2 v zs M true w hr hok hz hF rfl hB).mono fun e w' ⟨he, hb⟩ => ⟨fun h => absurd ho h, fun _ _ => he, fun _ h => absurd h hs, hb⟩
    · exact (pnew_lens v zs most loose w hr hok (decide_eq_false hz)).mono fun e w' ⟨he, hw⟩ => by subst he hw; exact pnewPost.bad (fun h => hz h.2)
  · obtain ⟨a, cap, rfl, _⟩ := hr
    exact (pnew_args a zs.length cap most loose w hok).mono fun e w' ⟨he, hw⟩ => by subst he hw; exact pnewPost.bad (fun h => hok h.1)

end Go.Proofs.YtabeanealkopbaaGreat
end

section
namespace Go.Proofs.YtabeanealkopbaaGreat
open Go.RowKit
set_option maxRecDepth 100000
set_option linter.unusedVariables false

section
variable {ls : List Nat} {w : World} {cp lo hi wg g cap N base : Nat} {A B S : Nat → Nat} {H : Nat → Bool} {ix ky : Nat → Nat}
theorem CodeAt.c0 (h : CodeAt ls w cp lo hi wg g cap N base A B S H ix ky) : w.cell? ⟨cp, 0, none⟩ = some (.bool true) := by simp [World.cell?, h.blk]
theorem CodeAt.c1 (h : CodeAt ls w cp lo hi wg g cap N base A B S H ix ky) : w.cell? ⟨cp, 1, none⟩ = some (.slice (some ⟨wg, 0, none⟩) ls.length ls.length) := by simp [World.cell?, h.blk]
theorem CodeAt.c2 (h : CodeAt ls w cp lo hi wg g cap N base A B S H ix ky) : w.cell? ⟨cp, 2, none⟩ = some (.slice (some ⟨g, 0, none⟩) N cap) := by simp [World.cell?, h.blk]
end

set_option maxHeartbeats 400000 in
theorem cgood_yes (cp : Nat) (w : World) (h : w.cell? ⟨cp, 0, none⟩ = some (.bool true)) : Calls Tryz.prog 140 #[.pointer (some ⟨cp, 0, none⟩)] w fun e w' => e = .returned (.bool true) ∧ w' = w := by
  go_enter Tryz.func140, Tryz.ntmps140
  go_wp2
  go_ret
  exact ⟨rfl, rfl⟩

theorem below_drewN {B : Nat} {a w : World} (h : Below B a w) (n : Nat) : Below B a (w.drewN n) := ⟨h.os, h.tape, h.output, h.size, h.block⟩

/-- The symbol has a word. -/
def HasW (ls : List Nat) (s : Int) : Prop := 0 ≤ s ∧ s < (ls.length : Int) ∧ 0 < Canon.ln ls s.toNat

end Go.Proofs.YtabeanealkopbaaGreat
end

section
namespace Go.Proofs.YtabeanealkopbaaGreat.W4
open Go.RowKit
set_option maxRecDepth 100000
set_option linter.unusedVariables false

set_option maxHeartbeats 400000 in
theorem cgood_yes (cp : Nat) (w : World) (h : w.cell? ⟨cp, 0, none⟩ = some (.bool true)) : Calls Tryz.prog 140 #[.pointer (some ⟨cp, 0, none⟩)] w fun e w' => e = .returned (.bool true) ∧ w' = w := by
  go_enter Tryz.func140, Tryz.ntmps140
  go_wp2
  go_ret
  exact ⟨rfl, rfl⟩

theorem below_drewN {B : Nat} {a w : World} (h : Below B a w) (n : Nat) : Below B a (w.drewN n) := ⟨h.os, h.tape, h.output, h.size, h.block⟩

/-- The symbol has a word. -/
def HasW (ls : List Nat) (s : Int) : Prop := 0 ≤ s ∧ s < (ls.length : Int) ∧ 0 < Canon.ln ls s.toNat

set_option maxHeartbeats 1000000 in
theorem word_ok (ls : List Nat) (cp lo hi s : Nat) (w : World) (h : Code ls w cp lo hi) (hs : s < ls.length) (h0 : 0 < Canon.ln ls s) :
    Calls Tryz.prog 109 #[.pointer (some ⟨cp, 0, none⟩), .int .i64 (s : Int)] w fun e w' => e = .returned (.tuple #[.int .u32 (Canon.wd ls s : Int), .int .i64 (Canon.ln ls s : Int), .int .i64 0]) ∧ Below w.heap.size w w' := by
  obtain ⟨wg, g, cap, N, base, A, B, S, H, ix, ky, h⟩ := h
  have c0 := h.c0
  have c1 := h.c1
  have k1 := h.words.word s hs
  have k2 := h.words.len s hs
  rw [show wdz ls s = Canon.wd ls s from if_neg (by omega)] at k1
  obtain ⟨n, hn⟩ : ∃ n, n = ls.length := ⟨_, rfl⟩
  obtain ⟨W, hW⟩ : ∃ W, W = Canon.wd ls s := ⟨_, rfl⟩
  obtain ⟨L, hL⟩ : ∃ L, L = Canon.ln ls s := ⟨_, rfl⟩
  rw [← hn] at c1 hs
  rw [← hW] at k1 ⊢
  rw [← hL] at k2 h0 ⊢
  clear h hn hW hL
  have hsn : (s : Int) < (n : Int) := by omega
  have hs0 : ¬ (s : Int) < 0 := by omega
  have hL0 : ((L : Int) == 0) = false := by simp; omega
  go_enter Tryz.func109, Tryz.ntmps109
  go_wp2_with (go_at_call 140; refine (cgood_yes _ _ (by assumption)).mono ?_; rintro e w' ⟨rfl, rfl⟩)
  go_quiet (fail)
  go_wp2
  go_ret3
  exact ⟨rfl, below_drewN ((Below.refl _ _).alloc (Nat.le_refl _) _) _⟩

set_option maxHeartbeats 1000000 in
theorem word_none (ls : List Nat) (cp lo hi : Nat) (s : Int) (w : World) (h : Code ls w cp lo hi) (hs : ¬ HasW ls s) :
    Calls Tryz.prog 109 #[.pointer (some ⟨cp, 0, none⟩), .int .i64 s] w fun e w' => e = .returned (.tuple #[.int .u32 0, .int .i64 0, .int .i64 2]) ∧ w' = w := by
  obtain ⟨wg, g, cap, N, base, A, B, S, H, ix, ky, h⟩ := h
  have c0 := h.c0
  have c1 := h.c1
  have HW := hide h.words
  clear h
  by_cases h1 : s < 0
  · clear hs
    go_enter Tryz.func109, Tryz.ntmps109
    go_wp2_with (go_at_call 140; refine (cgood_yes _ _ (by assumption)).mono ?_; rintro e w' ⟨rfl, rfl⟩)
    go_ret3
    exact ⟨rfl, rfl⟩
  · obtain ⟨s, rfl⟩ := Int.eq_ofNat_of_zero_le (show 0 ≤ s by omega)
    by_cases h2 : (ls.length : Int) ≤ (s : Int)
    · clear hs
      go_enter Tryz.func109, Tryz.ntmps109
      go_wp2_with (go_at_call 140; refine (cgood_yes _ _ (by assumption)).mono ?_; rintro e w' ⟨rfl, rfl⟩)
      go_ret3
      exact ⟨rfl, rfl⟩
    · have h3 : Canon.ln ls s = 0 := by
        unfold HasW at hs
        simp only [Int.toNat_natCast] at hs
        omega
      have k2 := (unhide HW).len s (by omega)
      rw [h3] at k2
      have hsn : (s : Int) < (ls.length : Int) := by omega
      clear hs
      go_enter Tryz.func109, Tryz.ntmps109
      go_wp2_with (go_at_call 140; refine (cgood_yes _ _ (by assumption)).mono ?_; rintro e w' ⟨rfl, rfl⟩)
      go_ret3
      exact ⟨rfl, rfl⟩

end Go.Proofs.YtabeanealkopbaaGreat.W4
end

section
namespace Go.Proofs.YtabeanealkopbaaGreat.W4
open Go.RowKit Mth

theorem hide {p : Prop} (h : p) : Hid p := h
theorem unhide {p : Prop} (h : Hid p) : p := h

def bv (z : Nat) : Value := .int .u8 (z : Int)

structure WOk (w : World) (pb : Nat) (high : Bool) (v : Value) (m : Nat) (L : List Bool) (f : Nat) : Prop where
  blk : w.heap[pb]? = some (.cells #[.bool true, .bool high, v, .int .i64 (f : Int)] 52 (0, 0))
  row : w.ownsRow (pb + 1) 5 1 v m ((pk high m L).map bv)
  len : L.length + f = 8 * m

structure Chg (pb : Nat) (v0 : Value) (w0 : World) (v : Value) (w : World) : Prop where
  os : w.os = w0.os
  tape : w.tape = w0.tape
  output : w.output = w0.output
  size : w0.heap.size ≤ w.heap.size
  keep : ∀ k, k < w0.heap.size → k ≠ pb → v0.ownBlock ≠ some k → w.heap[k]? = w0.heap[k]?
  lies : v.ownBlock = v0.ownBlock ∨ ∃ g, v.ownBlock = some g ∧ w0.heap.size ≤ g

theorem Chg.refl (pb : Nat) (v : Value) (w : World) : Chg pb v w v w := ⟨rfl, rfl, rfl, Nat.le_refl _, fun _ _ _ _ => rfl, .inl rfl⟩

theorem Chg.trans {pb : Nat} {v0 v1 v2 : Value} {w0 w1 w2 : World} (h : Chg pb v0 w0 v1 w1) (k : Chg pb v1 w1 v2 w2) : Chg pb v0 w0 v2 w2 where
  os := k.os.trans h.os
  tape := k.tape.trans h.tape
  output := k.output.trans h.output
  size := Nat.le_trans h.size k.size
  keep := fun b hb hne hv => by
    have hs := h.size
    rw [k.keep b (by omega) hne (by
      rcases h.lies with e | ⟨g, e, hg⟩
      · rw [e]; exact hv
      · rw [e]; intro c; injection c with c; omega), h.keep b hb hne hv]
  lies := by
    have hs := h.size
    rcases k.lies with e | ⟨g, e, hg⟩
    · rw [e]; exact h.lies
    · exact .inr ⟨g, e, by omega⟩

theorem WOk.c0 {w : World} {pb : Nat} {high : Bool} {v : Value} {m : Nat} {L : List Bool} {f : Nat} (h : WOk w pb high v m L f) : w.cell? ⟨pb, 0, none⟩ = some (.bool true) := by simp [World.cell?, h.blk]
theorem WOk.c1 {w : World} {pb : Nat} {high : Bool} {v : Value} {m : Nat} {L : List Bool} {f : Nat} (h : WOk w pb high v m L f) : w.cell? ⟨pb, 1, none⟩ = some (.bool high) := by simp [World.cell?, h.blk]
theorem WOk.c2 {w : World} {pb : Nat} {high : Bool} {v : Value} {m : Nat} {L : List Bool} {f : Nat} (h : WOk w pb high v m L f) : w.cell? ⟨pb, 2, none⟩ = some v := by simp [World.cell?, h.blk]
theorem WOk.c3 {w : World} {pb : Nat} {high : Bool} {v : Value} {m : Nat} {L : List Bool} {f : Nat} (h : WOk w pb high v m L f) : w.cell? ⟨pb, 3, none⟩ = some (.int .i64 (f : Int)) := by simp [World.cell?, h.blk]
theorem WOk.fz {w : World} {pb : Nat} {high : Bool} {v : Value} {m : Nat} {L : List Bool} {f : Nat} (h : WOk w pb high v m L f) (o : Nat) : w.frozen? ⟨pb, o, none⟩ = false := by simp [World.frozen?, h.blk]
theorem WOk.lt {w : World} {pb : Nat} {high : Bool} {v : Value} {m : Nat} {L : List Bool} {f : Nat} (h : WOk w pb high v m L f) : pb < w.heap.size := by
  rcases Nat.lt_or_ge pb w.heap.size with h' | h'
  · exact h'
  · have := h.blk; rw [Array.getElem?_eq_none h'] at this; cases this


theorem bv_set (l : List Nat) (i x : Nat) : (l.map bv).set i (bv x) = (l.set i x).map bv := by rw [List.map_set]

/-- The struct's cells, where the row has grown and the struct is not yet told so. -/
theorem WOk.grown {wr w1 : World} {pb : Nat} {high : Bool} {v : Value} {m : Nat} {L : List Bool} {f : Nat} {o : Obj} (h : WOk wr pb high v m L f) (hg : (wr.alloc o).grownBy w1 v.ownBlock) :
    w1.cell? ⟨pb, 1, none⟩ = some (.bool high) ∧ w1.cell? ⟨pb, 2, none⟩ = some v ∧ w1.cell? ⟨pb, 3, none⟩ = some (.int .i64 (f : Int)) ∧ w1.frozen? ⟨pb, 2, none⟩ = false ∧ w1.frozen? ⟨pb, 3, none⟩ = false := by
  have hlt := h.lt
  have hvb : v.ownBlock ≠ some pb := fun e => by have := (h.row.lt pb e).1; omega
  have hbk : w1.heap[pb]? = some (.cells #[.bool true, .bool high, v, .int .i64 (f : Int)] 52 (0, 0)) := by
    rw [hg.block pb (by simp; omega) (fun e => hvb e.symm), Below.heap_alloc _ _ _ hlt]; exact h.blk
  simp [World.cell?, World.frozen?, hbk]

/-- A byte 0 is laid behind, and eight places are free. -/
theorem WOk.grow {wr w1 : World} {pb : Nat} {high : Bool} {v : Value} {m g cap : Nat} {L : List Bool} (h : WOk wr pb high v m L 0) (o : Obj)
    (hown : w1.ownsRow (pb + 1) 5 1 (.slice (some ⟨g, 0, none⟩) (m + 1) cap) (m + 1) ((pk high m L).map bv ++ [.int .u8 0])) (hg : (wr.alloc o).grownBy w1 v.ownBlock) (hat : v.ownBlock = some g ∨ g = wr.heap.size + 1) :
    WOk ((w1.setCell ⟨pb, 2, none⟩ (.slice (some ⟨g, 0, none⟩) (m + 1) cap)).setCell ⟨pb, 3, none⟩ (.int .i64 8)) pb high (.slice (some ⟨g, 0, none⟩) (m + 1) cap) (m + 1) L 8 ∧
    Chg pb v wr (.slice (some ⟨g, 0, none⟩) (m + 1) cap) ((w1.setCell ⟨pb, 2, none⟩ (.slice (some ⟨g, 0, none⟩) (m + 1) cap)).setCell ⟨pb, 3, none⟩ (.int .i64 8)) := by
  have hlt := h.lt
  have hvb : v.ownBlock ≠ some pb := fun e => by have := (h.row.lt pb e).1; omega
  have hgp : g ≠ pb := by
    rcases hat with e | e
    · have := (h.row.lt g e).1; omega
    · omega
  have hbk : w1.heap[pb]? = some (.cells #[.bool true, .bool high, v, .int .i64 0] 52 (0, 0)) := by
    rw [hg.block pb (by simp; omega) (fun e => hvb e.symm), Below.heap_alloc _ _ _ hlt]; exact h.blk
  refine ⟨⟨?_, ?_, ?_⟩, ?_⟩
  · have h2 := heap_setCell_same w1 pb 2 _ _ (.slice (some ⟨g, 0, none⟩) (m + 1) cap) hbk
    rw [heap_setCell_same _ pb 3 _ _ _ h2]
    simp
  · obtain ⟨hl, hr⟩ := hown
    refine ⟨by simp [pk_length], ?_⟩
    rcases hr with ⟨e, _⟩ | ⟨g', cap', cur, e, hb, hh, hn, hc, hs, ht⟩
    · cases e
    · injection e with e1 e2 e3
      injection e1 with e1
      injection e1 with e1
      subst e1 e3
      refine .inr ⟨g, cap, cur, rfl, hb, ?_, hn, hc, hs, ?_⟩
      · rw [heap_setCell_other _ _ _ _ (by exact hgp), heap_setCell_other _ _ _ _ (by exact hgp)]; exact hh
      · rw [ht, pk_succ_beyond high L m (by have := h.len; omega)]; simp [bv]
  · have := h.len; omega
  · refine ⟨hg.os, hg.tape, hg.output, ?_, ?_, ?_⟩
    · have := hg.size; simp at this ⊢; omega
    · intro k hk hne hv
      rw [heap_setCell_other _ _ _ _ (by exact hne), heap_setCell_other _ _ _ _ (by exact hne), hg.block k (by simp; omega) (fun e => hv e.symm), Below.heap_alloc _ _ _ hk]
    · rcases hat with e | e
      · exact .inl e.symm
      · exact .inr ⟨g, rfl, by omega⟩

/-- One bit is laid into the last byte. -/
theorem WOk.bit {wr : World} {pb : Nat} {high : Bool} {q g cap f : Nat} {L : List Bool} (h : WOk wr pb high (.slice (some ⟨g, 0, none⟩) (q + 1) cap) (q + 1) L (f + 1)) (hf : f ≤ 7) (b : Bool) :
    WOk ((wr.setCell ⟨g, q, none⟩ (bv (octet high L q ||| (b.toNat <<< rk high 8 (7 - f))))).setCell ⟨pb, 3, none⟩ (.int .i64 (f : Int))) pb high (.slice (some ⟨g, 0, none⟩) (q + 1) cap) (q + 1) (L ++ [b]) f ∧
    Chg pb (.slice (some ⟨g, 0, none⟩) (q + 1) cap) wr (.slice (some ⟨g, 0, none⟩) (q + 1) cap) ((wr.setCell ⟨g, q, none⟩ (bv (octet high L q ||| (b.toNat <<< rk high 8 (7 - f))))).setCell ⟨pb, 3, none⟩ (.int .i64 (f : Int))) := by
  have hlt := h.lt
  have hgp : g ≠ pb := by have := (h.row.lt g rfl).1; omega
  have hll := h.len
  refine ⟨⟨?_, ?_, ?_⟩, ?_⟩
  · rw [heap_setCell_same _ pb 3 #[.bool true, .bool high, .slice (some ⟨g, 0, none⟩) (q + 1) cap, .int .i64 ((f + 1 : Nat) : Int)] 52 _ (by rw [heap_setCell_other _ _ _ _ (by exact hgp.symm)]; exact h.blk)]
    simp
  · obtain ⟨hl, hr⟩ := h.row
    refine ⟨by simp [pk_length], ?_⟩
    rcases hr with ⟨e, _⟩ | ⟨g', cap', cur, e, hb, hh, hn, hc, hs, ht⟩
    · cases e
    · injection e with e1 e2 e3
      injection e1 with e1
      injection e1 with e1
      subst e1 e3
      refine .inr ⟨g, cap, cur.setIfInBounds q (bv (octet high L q ||| (b.toNat <<< rk high 8 (7 - f)))), rfl, hb, ?_, hn, hc, ?_, ?_⟩
      · rw [heap_setCell_other _ _ _ _ (by exact hgp), heap_setCell_same _ g q cur 5 _ hh]
      · simpa using hs
      · rw [pk_append_one high L b q (7 - f) (by omega) (by omega), ← bv_set, ← ht]
        simp [List.take_set]
  · simp; omega
  · refine ⟨rfl, rfl, rfl, ?_, ?_, .inl rfl⟩
    · simp
    · intro k hk hne hv
      have hv' : k ≠ g := fun e => hv (by rw [e]; rfl)
      rw [heap_setCell_other _ _ _ _ (by exact hne), heap_setCell_other _ _ _ _ (by exact hv')]

/-- The last byte, in its cell. -/
theorem WOk.last {wr : World} {pb : Nat} {high : Bool} {q g cap f : Nat} {L : List Bool} (h : WOk wr pb high (.slice (some ⟨g, 0, none⟩) (q + 1) cap) (q + 1) L f) :
    wr.cell? ⟨g, q, none⟩ = some (.int .u8 (octet high L q : Int)) := by
  have := h.row.cells (g := g) rfl q (bv (octet high L q)) (by rw [List.getElem?_map, pk_get high (q + 1) L q (by omega)]; rfl)
  have e : (⟨g, 0, none⟩ : Addr).add q = ⟨g, q, none⟩ := by by_cases hq : q = 0 <;> simp [Addr.add, hq]
  rw [e] at this
  exact this

theorem WOk.lastfz {wr : World} {pb : Nat} {high : Bool} {q g cap f : Nat} {L : List Bool} (h : WOk wr pb high (.slice (some ⟨g, 0, none⟩) (q + 1) cap) (q + 1) L f) :
    wr.frozen? ⟨g, q, none⟩ = false ∧ g ≠ pb ∧ g < wr.heap.size ∧ (q : Int) + 1 ≤ cap ∧ (cap : Int) ≤ 9223372036854775807 := by
  have hb := (h.row.lt g rfl)
  obtain ⟨hl, hr⟩ := h.row
  rcases hr with ⟨e, _⟩ | ⟨g', cap', cur, e, hb', hh, hn, hc, hs, ht⟩
  · cases e
  · injection e with e1 e2 e3
    injection e1 with e1
    injection e1 with e1
    subst e1 e3
    unfold maxLen at hc
    exact ⟨by simp [World.frozen?, hh], by omega, by omega, by omega, by omega⟩

/-- A bit of a number, as the walk spells it. -/
theorem bit_val (V r : Nat) (hr : r < 64) : bits .and .u8 ((V : Int) / 2 ^ min r 64 % 256) 1 = ((V.testBit r).toNat : Int) := by
  rw [Nat.min_eq_left (by omega), show ((V : Int) / 2 ^ r % 256) = ((V / 2 ^ r % 256 : Nat) : Int) by simp]
  have h := u8_and_nat (V / 2 ^ r % 256) 1 (Nat.mod_lt _ (by decide)) (by decide)
  rw [Nat.and_one_is_mod, ← Nat.shiftRight_eq_div_pow, shift_and_one] at h
  rw [← Nat.shiftRight_eq_div_pow]
  exact h

theorem or_val (B r : Nat) (bt : Bool) (hB : B < 256) (hr : r < 8) : bits .or .u8 (B : Int) ((bt.toNat : Int) * 2 ^ min r 8 % 256) = ((B ||| (bt.toNat <<< r) : Nat) : Int) := by
  have h2 : bt.toNat * 2 ^ r < 256 := by
    have h3 : bt.toNat ≤ 1 := Bool.toNat_le bt
    have h4 : 2 ^ r ≤ 2 ^ 7 := Nat.pow_le_pow_right (by decide) (by omega)
    have h5 := Nat.mul_le_mul h3 h4
    omega
  rw [Nat.min_eq_left (by omega), show (bt.toNat : Int) * 2 ^ r % 256 = ((bt.toNat * 2 ^ r % 256 : Nat) : Int) by simp, Nat.mod_eq_of_lt h2, u8_or_nat B _ hB h2, Nat.shiftLeft_eq]

theorem WOk.drew {w : World} {pb : Nat} {high : Bool} {v : Value} {m : Nat} {L : List Bool} {f : Nat} (h : WOk w pb high v m L f) : WOk w.drew pb high v m L f := ⟨h.blk, h.row.drew, h.len⟩
theorem Chg.drew {pb : Nat} {v0 v : Value} {w0 w : World} (h : Chg pb v0 w0 v w) : Chg pb v0 w0 v w.drew := ⟨h.os, h.tape, h.output, h.size, h.keep, h.lies⟩

/-- One bit of a number is laid into the last byte: as the walk spells it. -/
theorem WOk.bitAt {wr : World} {pb : Nat} {high : Bool} {q g cap f V N k : Nat} {L : List Bool} (h : WOk wr pb high (.slice (some ⟨g, 0, none⟩) (q + 1) cap) (q + 1) (L ++ (bitsOf high V N).take k) (f + 1)) (hf : f ≤ 7) (hk : k < N) (x : Int)
    (hx : x = bits .or .u8 (octet high (L ++ (bitsOf high V N).take k) q : Int) (((V.testBit (rk high N k)).toNat : Int) * 2 ^ min (rk high 8 (7 - f)) 8 % 256)) :
    WOk ((wr.setCell ⟨g, q, none⟩ (.int .u8 x)).setCell ⟨pb, 3, none⟩ (.int .i64 (f : Int))).drew pb high (.slice (some ⟨g, 0, none⟩) (q + 1) cap) (q + 1) (L ++ (bitsOf high V N).take (k + 1)) f ∧
    Chg pb (.slice (some ⟨g, 0, none⟩) (q + 1) cap) wr (.slice (some ⟨g, 0, none⟩) (q + 1) cap) ((wr.setCell ⟨g, q, none⟩ (.int .u8 x)).setCell ⟨pb, 3, none⟩ (.int .i64 (f : Int))).drew := by
  have h2 := h.bit hf (V.testBit (rk high N k))
  rw [hx, or_val _ _ _ (octet_lt _ _ _) (rk_lt (by omega)), bitsOf_take_succ high V N k hk, ← List.append_assoc]
  exact ⟨h2.1.drew, h2.2.drew⟩

end Go.Proofs.YtabeanealkopbaaGreat.W4
end

section
namespace Go.Proofs.YtabeanealkopbaaGreat.W4
open Go.RowKit Mth
set_option maxRecDepth 100000

attribute [local go_sem ↓] Go.wp_at_zero Go.wp_at_succ


set_option maxHeartbeats 400000 in
theorem rank_any (i n : Int) (high : Bool) (w : World) (h0 : 0 ≤ i) (h1 : i < n) (h2 : n ≤ 64) :
    Calls Tryz.prog 74 #[.int .i64 i, .int .i64 n, .bool high] w fun e w' => e = .returned (.int .i64 ((rk high n.toNat i.toNat : Nat) : Int)) ∧ w' = w := by
  obtain ⟨a, rfl⟩ := Int.eq_ofNat_of_zero_le h0
  obtain ⟨b, rfl⟩ := Int.eq_ofNat_of_zero_le (show 0 ≤ n by omega)
  cases high
  · go_enter Tryz.func74, Tryz.ntmps74
    go_wp2
    go_ret
    exact ⟨rfl, rfl⟩
  · go_enter Tryz.func74, Tryz.ntmps74
    go_wp2
    go_ret
    refine ⟨?_, rfl⟩
    have : ((rk true (b : Int).toNat (a : Int).toNat : Nat) : Int) = (b : Int) - 1 - a := by simp [rk]; omega
    rw [this]
    rfl

theorem info5 : (Tryz.prog.info? 5).map (fun i => (i.zero, i.size, i.bytes)) = some (some (.int .u8 0), 1, 1) := by kernel_rfl

set_option maxRecDepth 100000 in
set_option maxHeartbeats 1000000 in
theorem fill_any (pb m f : Nat) (high : Bool) (v0 : Value) (L : List Bool) (V N : Nat) (w : World) (hw : WOk w pb high v0 m L f) (hf : f ≤ 7) (hN : N ≤ 64) (hb : L.length + N ≤ 1000000000000000) :
    Calls Tryz.prog 78 #[.pointer (some ⟨pb, 0, none⟩), .int .u64 (V : Int), .int .i64 (N : Int)] w fun e w' => e = .returned (.tuple #[]) ∧ ∃ v' m' f', WOk w' pb high v' m' (L ++ bitsOf high V N) f' ∧ f' ≤ 7 ∧ Chg pb v0 w v' w' := by
  obtain ⟨i0, hi, hz0, hz1, hz2⟩ := info_parts info5
  go_enter Tryz.func78, Tryz.ntmps78
  go_wp2
  go_step3
  go_wp2
  go_step3
  go_wp2
  go_loopg [6] N (fun gk d wr => ∃ k v m f, gk = N - k ∧ k ≤ N ∧ d = .int .i64 (k : Int) ∧ WOk wr pb high v m (L ++ (bitsOf high V N).take k) f ∧ f ≤ 7 ∧ Chg pb v0 w v wr)
  case atStart => exact ⟨0, v0, m, f, by omega, by omega, rfl, by simpa using hw, hf, Chg.refl _ _ _⟩
  case round =>
    obtain ⟨k, v, m, f, rfl, hk, rfl, hok, hf7, hch⟩ := hrel
    by_cases hlt : k < N
    · have c0 := hok.c0
      have c1 := hok.c1
      have c2 := hok.c2
      have c3 := hok.c3
      have f2 := hok.fz 2
      have f3 := hok.fz 3
      by_cases h0 : f = 0
      · subst h0
        have HOK : Hid (WOk wr pb high v m (L ++ (bitsOf high V N).take k) 0) := hok
        have HCH : Hid (Chg pb v0 w v wr) := hch
        clear hok hch hw
        have hrow := hide (HOK.out.row.alloc (.cells #[.int .u8 0] 5))
        have hnews : Hid (∀ j u, [Value.int .u8 0][j]? = some u → (wr.alloc (.cells #[.int .u8 0] 5)).cell? ((⟨wr.heap.size, 0, none⟩ : Addr).add j) = some u) := by
          intro j u hj
          match j, hj with
          | 0, hj => simp at hj; subst hj; simp [Addr.add]
        have hlen := hide HOK.out.len
        have hlt' := HOK.out.lt
        have hm63 : (m : Int) ≤ 1000000000000000 := by have := HOK.out.len; simp [bitsOf_length] at this; omega
        go_wp2_with (at_builtin; go_must (refine wpList_append_lies _ rfl (.tmp 21) (.tmp 22) 22 rfl (pb + 1) 5 i0 (.int .u8 0) 1 1 Tryz.underlying22 hi hz0 hz1 hz2 rfl (by decide) v m _ (by rfl) (unhide hrow) ⟨wr.heap.size, 0, none⟩ 1 1 [.int .u8 0] (by rfl) rfl (unhide hnews) (by intro u hu; simp at hu; subst hu; rfl) (by omega) (by have := unhide hlen; simp [bitsOf_length] at this; unfold maxLen; omega) (by have := unhide hlen; simp [bitsOf_length] at this; omega) (by simp; omega) (wr.heap.size + 1) (by simp) ?_; intro g cap w1 hown hgrow hat hglt; obtain ⟨d1, d2, d3, e2, e3⟩ := HOK.out.grown hgrow; have HG := hide (HOK.out.grow _ hown hgrow hat); clear hown hgrow hat hglt c0 c1 c2 c3 f2 f3))
        obtain ⟨hok2, hch2⟩ := unhide HG
        have hch3 := (unhide HCH).trans hch2
        have hq63 := hok2.lastfz.2.2.2
        clear HG hch2 HOK HCH hrow hnews
        generalize hW2 : (w1.setCell ⟨pb, 2, none⟩ (.slice (some ⟨g, 0, none⟩) (m + 1) cap)).setCell ⟨pb, 3, none⟩ (.int .i64 8) = W2 at hok2 hch3
        clear hW2 d1 d2 d3 e2 e3
        have HOK := hide hok2
        have HCH := hide hch3
        clear hok2 hch3
        go_loopg [6, 39] 8 (fun gj d c ws => ∃ j, gj = 8 - j ∧ j ≤ 8 ∧ k + j < N ∧ d = .int .i64 ((k + j : Nat) : Int) ∧ c = .int .i64 (j : Int) ∧ WOk ws pb high (.slice (some ⟨g, 0, none⟩) (m + 1) cap) (m + 1) (L ++ (bitsOf high V N).take (k + j)) (8 - j) ∧ Chg pb v0 w (.slice (some ⟨g, 0, none⟩) (m + 1) cap) ws)
        case atStart => exact ⟨0, by omega, by omega, by omega, rfl, rfl, HOK.out, HCH.out⟩
        case round =>
          obtain ⟨j, rfl, hj, hkj, rfl, rfl, ok, ch⟩ := hrel
          clear HOK HCH
          by_cases hjf : j < 8
          · obtain ⟨f', hf'⟩ : ∃ f', 8 - j = f' + 1 := ⟨8 - j - 1, by omega⟩
            have hf'' := hide hf'
            have hf8 : f' ≤ 7 := by omega
            rw [hf'] at ok
            clear hf'
            have hrl := rk_lt (high := high) hkj
            have c1 := ok.c1
            have c2 := ok.c2
            have c3 := ok.c3
            have cl := ok.last
            have hoc := octet_lt high (L ++ (bitsOf high V N).take (k + j)) m
            obtain ⟨fl, hgp, hgs, hqc, hcap⟩ := ok.lastfz
            have f3 := ok.fz 3
            go_wp2_with (go_at_call 74; go_must (refine (rank_any _ _ _ _ (by omega) (by omega) (by omega)).mono ?_; rintro e w' ⟨rfl, rfl⟩))
            rw [bit_val V (rk high N (k + j)) (by omega)]
            have HF := hide (fun x hx => ok.bitAt hf8 hkj x hx)
            have HCH := hide ch
            clear ok ch
            generalize hB : octet high (L ++ (bitsOf high V N).take (k + j)) m = B at cl hoc HF
            generalize hbt : V.testBit (rk high N (k + j)) = bt at HF
            clear hB hbt
            have hwr : IntKind.i64.wrap (8 - ((f' : Int) + 1)) = ((7 - f' : Nat) : Int) := by rw [IntWalk.i64_in _ (by omega)]; omega
            have hq1 : (m : Int) < (m : Int) + 1 := by omega
            refine wp_tail 21 (by kernel_rfl) (by kernel_rfl) ?_
            simp only [List.take_succ_cons, List.take_zero, List.drop_succ_cons, List.drop_zero]
            repeat (first | still_call (rank_any _ _ _ _ (by omega) (by omega) (by omega)) | still_step)
            try refine wpStill_nil ?_
            go_wp2
            · have hne : ((k : Int) + j + 1 == N) = true := by assumption
              have hne' : N = k + j + 1 := by simp at hne; omega
              have R := unhide HF _ rfl
              rw [Exit.noGoto_normal]
              go_end0
              refine ⟨rfl, _, m + 1, f', ?_, ?_, (unhide HCH).trans R.2⟩
              · have R1 := R.1
                rw [← hne', List.take_of_length_le (by rw [bitsOf_length]; omega)] at R1
                exact R1
              · have := unhide hf''; omega
            · have hne : ((k : Int) + j + 1 == N) = false := by assumption
              have hne' : k + j + 1 ≠ N := by simp at hne; omega
              go_roundg (8 - (j + 1))
              case measure => omega
              case rel => 
                have R := unhide HF _ rfl
                exact ⟨j + 1, by have := unhide hf''; omega, by omega, by omega, by go_num, by go_num, by rw [show 8 - (j + 1) = f' by have := unhide hf''; omega]; exact R.1, (unhide HCH).trans R.2⟩
          · have hjf' : j = 8 := by omega
            subst hjf'
            go_wp2
            go_roundg (N - (k + 8))
            case measure => omega
            case rel => exact ⟨k + 8, _, m + 1, 0, rfl, by omega, by go_num, by simpa using ok, by omega, ch⟩
      · obtain ⟨q, rfl⟩ : ∃ q, m = q + 1 := ⟨m - 1, by have := hok.len; omega⟩
        obtain ⟨g, cap, rfl⟩ : ∃ g cap, v = .slice (some ⟨g, 0, none⟩) (q + 1) cap := by
          rcases hok.row.2 with ⟨_, e⟩ | ⟨g, cap, _, e, _⟩
          · omega
          · exact ⟨g, cap, e⟩
        have h0' : ((f : Int) == 0) = false := by simp; omega
        have hq63 := hok.lastfz.2.2.2
        have HOK : Hid (WOk wr pb high (.slice (some ⟨g, 0, none⟩) (q + 1) cap) (q + 1) (L ++ (bitsOf high V N).take k) f) := hok
        have HCH : Hid (Chg pb v0 w (.slice (some ⟨g, 0, none⟩) (q + 1) cap) wr) := hch
        clear hok hch hw
        go_wp2
        go_loopg [6, 39] f (fun gj d c ws => ∃ j, gj = f - j ∧ j ≤ f ∧ k + j < N ∧ d = .int .i64 ((k + j : Nat) : Int) ∧ c = .int .i64 (j : Int) ∧ WOk ws pb high (.slice (some ⟨g, 0, none⟩) (q + 1) cap) (q + 1) (L ++ (bitsOf high V N).take (k + j)) (f - j) ∧ Chg pb v0 w (.slice (some ⟨g, 0, none⟩) (q + 1) cap) ws)
        case atStart => exact ⟨0, by omega, by omega, by omega, rfl, rfl, HOK.out, HCH.out⟩
        case round =>
          obtain ⟨j, rfl, hj, hkj, rfl, rfl, ok, ch⟩ := hrel
          clear HOK HCH c0 c1 c2 c3 f2 f3
          by_cases hjf : j < f
          · obtain ⟨f', hf'⟩ : ∃ f', f - j = f' + 1 := ⟨f - j - 1, by omega⟩
            have hf'' := hide hf'
            have hf8 : f' ≤ 7 := by omega
            rw [hf'] at ok
            clear hf'
            have hrl := rk_lt (high := high) hkj
            have c1 := ok.c1
            have c2 := ok.c2
            have c3 := ok.c3
            have cl := ok.last
            have hoc := octet_lt high (L ++ (bitsOf high V N).take (k + j)) q
            obtain ⟨fl, hgp, hgs, hqc, hcap⟩ := ok.lastfz
            have f3 := ok.fz 3
            go_wp2_with (go_at_call 74; go_must (refine (rank_any _ _ _ _ (by omega) (by omega) (by omega)).mono ?_; rintro e w' ⟨rfl, rfl⟩))
            rw [bit_val V (rk high N (k + j)) (by omega)]
            have HF := hide (fun x hx => ok.bitAt hf8 hkj x hx)
            have HCH := hide ch
            clear ok ch
            generalize hB : octet high (L ++ (bitsOf high V N).take (k + j)) q = B at cl hoc HF
            generalize hbt : V.testBit (rk high N (k + j)) = bt at HF
            clear hB hbt
            have hwr : IntKind.i64.wrap (8 - ((f' : Int) + 1)) = ((7 - f' : Nat) : Int) := by rw [IntWalk.i64_in _ (by omega)]; omega
            have hq1 : (q : Int) < (q : Int) + 1 := by omega
            refine wp_tail 21 (by kernel_rfl) (by kernel_rfl) ?_
            simp only [List.take_succ_cons, List.take_zero, List.drop_succ_cons, List.drop_zero]
            repeat (first | still_call (rank_any _ _ _ _ (by omega) (by omega) (by omega)) | still_step)
            try refine wpStill_nil ?_
            go_wp2
            · have hne : ((k : Int) + j + 1 == N) = true := by assumption
              have hne' : N = k + j + 1 := by simp at hne; omega
              have R := unhide HF _ rfl
              rw [Exit.noGoto_normal]
              go_end0
              refine ⟨rfl, _, q + 1, f', ?_, ?_, (unhide HCH).trans R.2⟩
              · have R1 := R.1
                rw [← hne', List.take_of_length_le (by rw [bitsOf_length]; omega)] at R1
                exact R1
              · have := unhide hf''; omega
            · have hne : ((k : Int) + j + 1 == N) = false := by assumption
              have hne' : k + j + 1 ≠ N := by simp at hne; omega
              go_roundg (f - (j + 1))
              case measure => omega
              case rel => 
                have R := unhide HF _ rfl
                exact ⟨j + 1, by have := unhide hf''; omega, by omega, by omega, by go_num, by go_num, by rw [show f - (j + 1) = f' by have := unhide hf''; omega]; exact R.1, (unhide HCH).trans R.2⟩
          · have hjf' : j = f := by omega
            subst hjf'
            go_wp2
            go_roundg (N - (k + j))
            case measure => omega
            case rel => exact ⟨k + j, _, q + 1, 0, rfl, by omega, by go_num, by simpa using ok, by omega, ch⟩
    · go_wp2
      rw [Exit.noGoto_normal]
      go_end0
      refine ⟨rfl, v, m, f, ?_, hf7, hch⟩
      have R1 := hok
      rw [List.take_of_length_le (by rw [bitsOf_length]; omega)] at R1
      exact R1

end Go.Proofs.YtabeanealkopbaaGreat.W4
end

section
namespace Go.Proofs.YtabeanealkopbaaGreat.W4
open Go.RowKit Mth
set_option maxRecDepth 100000

set_option maxHeartbeats 400000 in
theorem good_yes (pb : Nat) (w : World) (h : w.cell? ⟨pb, 0, none⟩ = some (.bool true)) :
    Calls Tryz.prog 31 #[.pointer (some ⟨pb, 0, none⟩)] w fun e w' => e = .returned (.bool true) ∧ w' = w := by
  go_enter Tryz.func31, Tryz.ntmps31
  go_wp2
  go_ret
  exact ⟨rfl, rfl⟩

set_option maxHeartbeats 400000 in
theorem new_any (high : Bool) (w : World) :
    Calls Tryz.prog 9 #[.bool high] w fun e w' => e = .returned (.pointer (some ⟨w.heap.size, 0, none⟩)) ∧ w' = w.alloc (.cells #[.bool true, .bool high, .slice none 0 0, .int .i64 0] 52) := by
  go_enter Tryz.func9, Tryz.ntmps9
  go_wp2
  go_ret
  exact ⟨rfl, rfl⟩

theorem new_ok (high : Bool) (w : World) : WOk (w.alloc (.cells #[.bool true, .bool high, .slice none 0 0, .int .i64 0] 52)) w.heap.size high (.slice none 0 0) 0 [] 0 :=
  ⟨heap_alloc_new w _, by simpa [pk] using World.ownsRow_nil _ _ _ _, rfl⟩

theorem shr_zero (V N : Nat) (h : V < 2 ^ N) : ((V : Int) / 2 ^ N != 0) = false := by
  rw [show ((V : Int) / 2 ^ N) = ((V / 2 ^ N : Nat) : Int) by simp, Nat.div_eq_of_lt h]
  rfl

set_option maxHeartbeats 1000000 in
theorem put_ok (pb m f : Nat) (high : Bool) (v0 : Value) (L : List Bool) (V n : Int) (w : World) (hw : WOk w pb high v0 m L f) (hf : f ≤ 7) (hn0 : 0 ≤ n) (hn : n ≤ 64) (hV0 : 0 ≤ V) (hV : V.toNat < 2 ^ n.toNat) (hb : L.length + n.toNat ≤ 1000000000000000) :
    Calls Tryz.prog 53 #[.pointer (some ⟨pb, 0, none⟩), .int .u64 V, .int .i64 n] w fun e w' => e = .returned (.int .i64 0) ∧ ∃ v' m' f', WOk w' pb high v' m' (L ++ bitsOf high V.toNat n.toNat) f' ∧ f' ≤ 7 ∧ Chg pb v0 w v' w' := by
  obtain ⟨V, rfl⟩ := Int.eq_ofNat_of_zero_le hV0
  obtain ⟨N, rfl⟩ := Int.eq_ofNat_of_zero_le hn0
  simp only [Int.toNat_natCast] at *
  have hsh := shr_zero V N hV
  have hN0 : decide ((N : Int) < 0) = false := by simp
  have hN1 : decide (64 < (N : Int)) = false := by simp; omega
  have c0 := hw.c0
  have HW := hide hw
  clear hw hV
  go_enter Tryz.func53, Tryz.ntmps53
  go_wp2_with (first | (go_at_call 31; refine (good_yes _ _ (by assumption)).mono ?_; rintro e w' ⟨rfl, rfl⟩) | (go_at_call 78; go_must (refine (fill_any pb m f high v0 L V N _ (unhide HW) hf (by omega) hb).mono ?_; rintro e w' ⟨rfl, hq⟩; have HQ := hide hq; clear hq)))
  go_ret
  exact ⟨rfl, unhide HQ⟩

set_option maxHeartbeats 1000000 in
theorem len_ok (pb m f : Nat) (high : Bool) (v0 : Value) (L : List Bool) (w : World) (hw : WOk w pb high v0 m L f) (hb : L.length ≤ 1000000000000000) (hf : f ≤ 7) :
    Calls Tryz.prog 66 #[.pointer (some ⟨pb, 0, none⟩)] w fun e w' => e = .returned (.int .i64 (L.length : Int)) ∧ ∃ n, w' = w.drewN n := by
  have c0 := hw.c0
  have c2 := hw.c2
  have c3 := hw.c3
  have hl := hw.len
  obtain ⟨a, c, e⟩ : ∃ a c, v0 = .slice a m c := by
    rcases hw.row.2 with ⟨e, e'⟩ | ⟨g, cap, _, e, _⟩
    · exact ⟨_, 0, by rw [e, e']⟩
    · exact ⟨_, _, e⟩
  have hlz : (L.length : Int) = 8 * (m : Int) - f := by omega
  rw [hlz]
  clear hlz
  subst e
  have hm : (m : Int) ≤ 1000000000000000 := by omega
  clear hl hw
  go_enter Tryz.func66, Tryz.ntmps66
  go_wp2_with (first | (go_at_call 31; refine (good_yes _ _ (by assumption)).mono ?_; rintro e w' ⟨rfl, rfl⟩))
  go_quiet (fail)
  go_wp2
  go_ret
  exact ⟨rfl, nq, rfl⟩

/-- A slice value that reads as the bytes zs. -/
def Reads (w : World) (v : Value) (zs : List Nat) : Prop :=
  ∃ a cap, v = .slice a zs.length cap ∧ (0 < zs.length → ∃ ad, a = some ad ∧ ∀ (j : Nat) u, (zs.map bv)[j]? = some u → w.cell? (ad.add j) = some u)

theorem size5 : (Tryz.prog.info? 5).map (·.size) = some 1 := by kernel_rfl

theorem ownsRow_heap {w : World} {base e n g cap : Nat} {xs : List Value} (h : w.ownsRow base e 1 (.slice (some ⟨g, 0, none⟩) n cap) n xs) (hc : cap = n) : w.heap[g]? = some (.cells xs.toArray e (0, 0)) ∧ base ≤ g := by
  obtain ⟨hl, hr⟩ := h
  rcases hr with ⟨e, _⟩ | ⟨g', cap', cur, e, hb, hh, hn, hcc, hs, ht⟩
  · cases e
  · injection e with e1 e2 e3
    injection e1 with e1
    injection e1 with e1
    subst e1 e3 hc
    rw [hh, ← ht, List.take_of_length_le (by simp [hs])]
    exact ⟨rfl, hb⟩

theorem cell_lt {w : World} {p : Addr} {u : Value} (h : w.cell? p = some u) : p.block < w.heap.size := by
  rcases Nat.lt_or_ge p.block w.heap.size with h' | h'
  · exact h'
  · simp [World.cell?, Array.getElem?_eq_none h'] at h

theorem cell_stays {w w1 : World} (hb : Below w.heap.size w w1) {p : Addr} {u : Value} (h : w.cell? p = some u) : w1.cell? p = some u := by
  rw [hb.cell (cell_lt h)]; exact h

theorem Reads.stays {w w1 : World} (hb : Below w.heap.size w w1) {v : Value} {zs : List Nat} (h : Reads w v zs) : Reads w1 v zs := by
  obtain ⟨a, cap, rfl, hs⟩ := h
  refine ⟨a, cap, rfl, fun h0 => ?_⟩
  obtain ⟨ad, rfl, h2⟩ := hs h0
  exact ⟨ad, rfl, fun j u hj => cell_stays hb (h2 j u hj)⟩

theorem splice_all (xs zs : List Value) (h : xs.length = zs.length) : splice xs 0 zs = zs := by
  simp [splice, h]

set_option maxHeartbeats 1000000 in
theorem fresh_any (v : Value) (zs : List Nat) (w : World) (hr : Reads w v zs) (hn : zs.length ≤ 140737488355328) :
    Calls Tryz.prog 32 #[v] w fun e w' => e = .returned (.slice (some ⟨w.heap.size, 0, none⟩) zs.length zs.length) ∧ w'.heap[w.heap.size]? = some (.cells (zs.map bv).toArray 5 (0, 0)) ∧ Below w.heap.size w w' := by
  obtain ⟨a, cap, rfl, hsrc⟩ := hr
  obtain ⟨i0, hi, hz0, hz1, hz2⟩ := info_parts info5
  have HS := hide hsrc
  clear hsrc
  go_enter Tryz.func32, Tryz.ntmps32
  go_wp2_with (first | (at_make; go_must (refine wpList_make_full _ rfl _ _ 22 rfl w.heap.size 5 i0 (.int .u8 0) 1 Tryz.underlying22 hi hz0 hz1 _ _ _ _ zs.length rfl rfl (by omega) (by omega) (by rw [hz2]; omega) (by unfold maxLen; omega) (Nat.le_refl _) ?_; intro w1 hown hgrow; have HO := hide (ownsRow_heap hown rfl).1; have HB := hide ((Below.refl w.heap.size w).grown hgrow (Nat.le_refl _) (by intro k h; cases h)); clear hown hgrow)) | (refine wpList_copy_splice rfl (.tmp 7) (.tmp 8) 22 22 rfl 5 Tryz.underlying22 size5 _ _ _ _ _ _ (by rfl) (by rfl) w.heap.size 0 _ 5 (unhide HO) (zs.map bv) (by simp) (fun h0 => ⟨rfl, by obtain ⟨ad, e, h2⟩ := unhide HS (by simpa using h0); exact ⟨ad, e, fun j u hj => cell_stays (unhide HB) (h2 j u hj)⟩⟩) (by simp [madeCells]) (by intro u hu; simp at hu; obtain ⟨z, _, rfl⟩ := hu; rfl) w.heap.size w (unhide HB) (Nat.le_refl _) ?_; intro w2 H2 hb2))
  go_ret
  refine ⟨rfl, ?_, hb2⟩
  rw [unhide H2, splice_all _ _ (by simp [madeCells])]

theorem WOk.reads {w : World} {pb : Nat} {high : Bool} {v : Value} {m : Nat} {L : List Bool} {f : Nat} (h : WOk w pb high v m L f) : Reads w v (pk high m L) := by
  have hr := h.row
  rcases hr.2 with ⟨e, e'⟩ | ⟨g, cap, cur, e, _⟩
  · refine ⟨none, 0, ?_, fun h0 => ?_⟩
    · rw [e, pk_length, e']
    · rw [pk_length, e'] at h0; omega
  · refine ⟨some ⟨g, 0, none⟩, cap, by rw [e, pk_length], fun _ => ⟨_, rfl, ?_⟩⟩
    exact hr.cells (by rw [e]; rfl)

set_option maxHeartbeats 1000000 in
theorem bytes_ok (pb m f : Nat) (high : Bool) (v0 : Value) (L : List Bool) (w : World) (hw : WOk w pb high v0 m L f) (hb : m ≤ 140737488355328) :
    Calls Tryz.prog 13 #[.pointer (some ⟨pb, 0, none⟩)] w fun e w' => e = .returned (.slice (some ⟨w.heap.size, 0, none⟩) m m) ∧ w'.heap[w.heap.size]? = some (.cells ((pk high m L).map bv).toArray 5 (0, 0)) ∧ Below w.heap.size w w' := by
  have c0 := hw.c0
  have c2 := hw.c2
  have HR := hide hw.reads
  have hl := pk_length high m L
  generalize pk high m L = zs at HR hl
  subst hl
  clear hw
  go_enter Tryz.func13, Tryz.ntmps13
  go_wp2_with (first | (go_at_call 31; refine (good_yes _ _ (by assumption)).mono ?_; rintro e w' ⟨rfl, rfl⟩) | (go_at_call 32; go_must (refine (fresh_any _ zs _ (unhide HR) hb).mono ?_; rintro e w1 ⟨rfl, h1, h2⟩; have H1 := hide h1; have H2 := hide h2; clear h1 h2)))
  go_ret
  exact ⟨rfl, unhide H1, unhide H2⟩

theorem WOk.alloc {w : World} {pb : Nat} {high : Bool} {v : Value} {m : Nat} {L : List Bool} {f : Nat} (h : WOk w pb high v m L f) (o : Obj) : WOk (w.alloc o) pb high v m L f :=
  ⟨by rw [Below.heap_alloc _ _ _ h.lt]; exact h.blk, h.row.alloc o, h.len⟩

/-- A writer stands as it was, where blocks of others alone were written. -/
theorem WOk.keep {w w' : World} {pb : Nat} {high : Bool} {v : Value} {m : Nat} {L : List Bool} {f : Nat} (h : WOk w pb high v m L f) (h1 : w'.heap[pb]? = w.heap[pb]?) (h2 : ∀ g, v.ownBlock = some g → w'.heap[g]? = w.heap[g]?) : WOk w' pb high v m L f := by
  refine ⟨by rw [h1]; exact h.blk, ?_, h.len⟩
  obtain ⟨hl, hr⟩ := h.row
  refine ⟨hl, ?_⟩
  rcases hr with e | ⟨g, cap, cur, e, hb, hh, r⟩
  · exact .inl e
  · exact .inr ⟨g, cap, cur, e, hb, by rw [h2 g (by rw [e]; rfl)]; exact hh, r⟩

theorem Chg.below {pb B : Nat} {v0 v : Value} {w0 w : World} (h : Chg pb v0 w0 v w) (hl : pb < w0.heap.size) (hB : B ≤ pb) (hv : ∀ g, v0.ownBlock = some g → B ≤ g) : Below B w0 w :=
  ⟨h.os, h.tape, h.output, h.size, fun k hk => h.keep k (by omega) (by omega) (fun e => by have := hv k e; omega)⟩

theorem conv_run (w : World) (g cap : Nat) (zs : List Nat) (hz : ∀ z ∈ zs, z < 256) (h : w.heap[g]? = some (.cells (zs.map bv).toArray 5 (0, 0))) :
    (convert 22 9 (.slice (some ⟨g, 0, none⟩) zs.length cap)).run Tryz.prog w = .ok (.string ⟨(zs.map UInt8.ofNat).toArray⟩) w := by
  have := run_convert_bytes_back w 22 9 5 ⟨g, 0, none⟩ cap (zs.map UInt8.ofNat) Tryz.underlying22 Tryz.underlying5 Tryz.underlying9 (by
    intro j hj
    simp at hj
    have hzj := hz zs[j] (List.getElem_mem hj)
    have e : (⟨g, 0, none⟩ : Addr).add j = ⟨g, j, none⟩ := by by_cases hq : j = 0 <;> simp [Addr.add, hq]
    rw [e]
    simp [World.cell?, h, hj, bv, Nat.mod_eq_of_lt hzj])
  simpa using this

theorem heap_lt {w : World} {k : Nat} {o : Obj} (h : w.heap[k]? = some o) : k < w.heap.size := by
  rcases Nat.lt_or_ge k w.heap.size with h' | h'
  · exact h'
  · rw [Array.getElem?_eq_none h'] at h; cases h

theorem pk_lt (high : Bool) (m : Nat) (L : List Bool) : ∀ z ∈ pk high m L, z < 256 := by
  intro z hz
  simp [pk] at hz
  obtain ⟨i, _, rfl⟩ := hz
  exact octet_lt _ _ _

end Go.Proofs.YtabeanealkopbaaGreat.W4
end

section
namespace Go.Proofs.YtabeanealkopbaaGreat.W4
open Go.RowKit Mth
set_option maxRecDepth 100000

structure ROk (w : World) (rp : Nat) (high : Bool) (g : Nat) (zs : List Nat) (p : Nat) : Prop where
  blk : w.heap[rp]? = some (.cells #[.bool true, .bool high, .slice (some ⟨g, 0, none⟩) zs.length zs.length, .int .i64 (p : Int)] 136 (0, 0))
  row : w.heap[g]? = some (.cells (zs.map bv).toArray 5 (0, 0))
  ne : g ≠ rp
  le : p ≤ 8 * zs.length
  small : ∀ z ∈ zs, z < 256

section
variable {w : World} {rp : Nat} {high : Bool} {g : Nat} {zs : List Nat} {p : Nat}
theorem ROk.c0 (h : ROk w rp high g zs p) : w.cell? ⟨rp, 0, none⟩ = some (.bool true) := by simp [World.cell?, h.blk]
theorem ROk.c1 (h : ROk w rp high g zs p) : w.cell? ⟨rp, 1, none⟩ = some (.bool high) := by simp [World.cell?, h.blk]
theorem ROk.c2 (h : ROk w rp high g zs p) : w.cell? ⟨rp, 2, none⟩ = some (.slice (some ⟨g, 0, none⟩) zs.length zs.length) := by simp [World.cell?, h.blk]
theorem ROk.c3 (h : ROk w rp high g zs p) : w.cell? ⟨rp, 3, none⟩ = some (.int .i64 (p : Int)) := by simp [World.cell?, h.blk]
theorem ROk.fz (h : ROk w rp high g zs p) (o : Nat) : w.frozen? ⟨rp, o, none⟩ = false := by simp [World.frozen?, h.blk]
theorem ROk.lt (h : ROk w rp high g zs p) : rp < w.heap.size := by
  rcases Nat.lt_or_ge rp w.heap.size with h' | h'
  · exact h'
  · have := h.blk; rw [Array.getElem?_eq_none h'] at this; cases this
theorem ROk.byte (h : ROk w rp high g zs p) (i : Nat) (hi : i < zs.length) : w.cell? ⟨g, i, none⟩ = some (.int .u8 (zs.getD i 0 : Int)) := by simp [World.cell?, h.row, hi, bv]
theorem ROk.keep {w' : World} (h : ROk w rp high g zs p) (h1 : w'.heap[rp]? = w.heap[rp]?) (h2 : w'.heap[g]? = w.heap[g]?) : ROk w' rp high g zs p :=
  ⟨by rw [h1]; exact h.blk, by rw [h2]; exact h.row, h.ne, h.le, h.small⟩
theorem ROk.drewN (h : ROk w rp high g zs p) (n : Nat) : ROk (w.drewN n) rp high g zs p := ⟨h.blk, h.row, h.ne, h.le, h.small⟩
theorem ROk.set (h : ROk w rp high g zs p) (q : Nat) (hq : q ≤ 8 * zs.length) : ROk (w.setCell ⟨rp, 3, none⟩ (.int .i64 (q : Int))) rp high g zs q :=
  ⟨by rw [heap_setCell_same _ rp 3 _ _ _ h.blk]; simp, by rw [heap_setCell_other _ _ _ _ (by exact h.ne)]; exact h.row, h.ne, hq, h.small⟩
end

set_option maxHeartbeats 400000 in
theorem rgood_yes (pb : Nat) (w : World) (h : w.cell? ⟨pb, 0, none⟩ = some (.bool true)) :
    Calls Tryz.prog 72 #[.pointer (some ⟨pb, 0, none⟩)] w fun e w' => e = .returned (.bool true) ∧ w' = w := by
  go_enter Tryz.func72, Tryz.ntmps72
  go_wp2
  go_ret
  exact ⟨rfl, rfl⟩

set_option maxHeartbeats 1000000 in
theorem newReader_ok (v : Value) (zs : List Nat) (high : Bool) (w : World) (hr : Reads w v zs) (hn : zs.length ≤ 140737488355328) (hs : ∀ z ∈ zs, z < 256) :
    Calls Tryz.prog 47 #[v, .bool high] w fun e w' => ∃ rp, e = .returned (.pointer (some ⟨rp, 0, none⟩)) ∧ w.heap.size ≤ rp ∧ ROk w' rp high w.heap.size zs 0 ∧ Below w.heap.size w w' := by
  have HR := hide hr
  clear hr
  go_enter Tryz.func47, Tryz.ntmps47
  go_wp2_with (go_at_call 32; go_must (refine (fresh_any _ zs _ (unhide HR) hn).mono ?_; rintro e w1 ⟨rfl, h1, h2⟩; have H1 := hide h1; have H2 := hide h2; clear h1 h2))
  go_ret
  have hlt := heap_lt (unhide H1)
  have hsz := (unhide H2).size
  refine ⟨w1.heap.size, rfl, hsz, ⟨?_, ?_, by omega, by omega, hs⟩, (unhide H2).alloc hsz _⟩
  · rw [heap_alloc_new]; rfl
  · rw [Below.heap_alloc _ _ _ hlt]; exact unhide H1

set_option maxHeartbeats 1000000 in
theorem at_ok (rp g p : Nat) (high : Bool) (zs : List Nat) (w : World) (h : ROk w rp high g zs p) :
    Calls Tryz.prog 50 #[.pointer (some ⟨rp, 0, none⟩)] w fun e w' => e = .returned (.int .i64 (p : Int)) ∧ w' = w := by
  have c0 := h.c0
  have c3 := h.c3
  clear h
  go_enter Tryz.func50, Tryz.ntmps50
  go_wp2_with (go_at_call 72; refine (rgood_yes _ _ (by assumption)).mono ?_; rintro e w' ⟨rfl, rfl⟩)
  go_ret
  exact ⟨rfl, rfl⟩

set_option maxHeartbeats 1000000 in
theorem rleft_ok (rp g p : Nat) (high : Bool) (zs : List Nat) (w : World) (h : ROk w rp high g zs p) (hn : zs.length ≤ 140737488355328) :
    Calls Tryz.prog 73 #[.pointer (some ⟨rp, 0, none⟩)] w fun e w' => e = .returned (.int .i64 (8 * (zs.length : Int) - p)) ∧ ∃ n, w' = w.drewN n := by
  have c2 := h.c2
  have c3 := h.c3
  have hle := h.le
  clear h
  go_enter Tryz.func73, Tryz.ntmps73
  go_wp2_with fail
  go_quiet (fail)
  go_wp2
  go_ret
  exact ⟨rfl, nq, rfl⟩

theorem get_step (A B r R : Nat) (hr : r < 8) (hR : R < 64) (hA : A < 2 ^ 64) (hB : B < 256) :
    bits .or .u64 (A : Int) (IntKind.u64.wrap (IntKind.u64.wrap (bits .and .u8 ((B : Int) / 2 ^ min r 8) 1) * 2 ^ min R 64)) = ((A ||| ((B.testBit r).toNat <<< R) : Nat) : Int) := by
  have hd : B / 2 ^ r < 256 := Nat.lt_of_le_of_lt (Nat.div_le_self _ _) hB
  have h1 : bits .and .u8 ((B : Int) / 2 ^ min r 8) 1 = ((B.testBit r).toNat : Int) := by
    rw [Nat.min_eq_left (by omega), show ((B : Int) / 2 ^ r) = ((B / 2 ^ r : Nat) : Int) by simp]
    have h := u8_and_nat (B / 2 ^ r) 1 hd (by decide)
    rw [Nat.and_one_is_mod, ← Nat.shiftRight_eq_div_pow, shift_one] at h
    rw [← Nat.shiftRight_eq_div_pow]
    exact h
  have h2 : (B.testBit r).toNat ≤ 1 := Bool.toNat_le _
  have h3 : 2 ^ R ≤ 2 ^ 63 := Nat.pow_le_pow_right (by decide) (by omega)
  have h4 := Nat.mul_le_mul h2 h3
  rw [h1, IntWalk.u64_in ((B.testBit r).toNat : Int) (by omega), Nat.min_eq_left (by omega), show (((B.testBit r).toNat : Int) * 2 ^ R) = (((B.testBit r).toNat * 2 ^ R : Nat) : Int) by simp, IntWalk.u64_in _ (by omega), u64_or_nat A _ (by omega) (by omega), Nat.shiftLeft_eq]

set_option maxHeartbeats 1000000 in
theorem get_ok (rp g p : Nat) (high : Bool) (zs : List Nat) (n : Int) (w : World) (h : ROk w rp high g zs p) (hn : zs.length ≤ 140737488355328) (h0 : 0 ≤ n) (h1 : n ≤ 64) (h2 : p + n.toNat ≤ 8 * zs.length) :
    Calls Tryz.prog 48 #[.pointer (some ⟨rp, 0, none⟩), .int .i64 n] w fun e w' => e = .returned (.tuple #[.int .u64 (numAt high n.toNat (fun i => bitIn high zs (p + i)) : Int), .int .i64 0]) ∧ ∃ k, w' = (w.drewN k).setCell ⟨rp, 3, none⟩ (.int .i64 ((p + n.toNat : Nat) : Int)) := by
  obtain ⟨N, rfl⟩ := Int.eq_ofNat_of_zero_le h0
  simp only [Int.toNat_natCast] at *
  have c0 := h.c0
  have H := hide h
  have hN0 : decide ((N : Int) < 0) = false := by simp
  have hN1 : decide (64 < (N : Int)) = false := by simp; omega
  have hlf : ¬ (8 * (zs.length : Int) - p < N) := by omega
  clear h
  go_enter Tryz.func48, Tryz.ntmps48
  go_wp2_with (first | (go_at_call 72; refine (rgood_yes _ _ (by assumption)).mono ?_; rintro e w' ⟨rfl, rfl⟩) | (go_at_call 73; refine (rleft_ok rp g p high zs _ (unhide H) hn).mono ?_; rintro e w1 ⟨rfl, nq, rfl⟩))
  go_loopg [6, 24] N (fun gk v c ws => ∃ i k, gk = N - i ∧ i ≤ N ∧ v = .int .u64 (acc high N (fun i => bitIn high zs (p + i)) i : Int) ∧ c = .int .i64 (i : Int) ∧ ws = w'.drewN k)
  case atStart => exact ⟨0, nq, by omega, by omega, rfl, rfl, rfl⟩
  case round =>
    obtain ⟨i, k, rfl, hi, rfl, rfl, rfl⟩ := hrel
    by_cases hlt : i < N
    · have ok := unhide H
      have c1 := ok.c1
      have c2 := ok.c2
      have c3 := ok.c3
      have hb := ok.byte ((p + i) / 8) (by omega)
      have hz : zs.getD ((p + i) / 8) 0 < 256 := by
        have := (unhide H).small (zs.getD ((p + i) / 8) 0) (by rw [List.getD_eq_getElem?_getD, List.getElem?_eq_getElem (by omega)]; exact List.getElem_mem _)
        exact this
      clear ok
      go_wp2_with fail
      obtain ⟨P, hP⟩ : ∃ P, P = p + i := ⟨_, rfl⟩
      rw [show ((p : Int) + (i : Int)) = (P : Int) by omega]
      rw [← hP] at hb hz
      have HP := hide hP
      have hPz : P / 8 < zs.length := by omega
      have hPb : P ≤ 2000000000000000 := by omega
      clear hP
      generalize hB : zs.getD (P / 8) 0 = B at hb hz
      have HB := hide hB
      clear hB
      obtain ⟨q8, hq8⟩ : ∃ q8, q8 = P / 8 := ⟨_, rfl⟩
      obtain ⟨r8, hr8⟩ : ∃ r8, r8 = P % 8 := ⟨_, rfl⟩
      have hqd : Int.tdiv (P : Int) 8 = (q8 : Int) := by rw [hq8]; rfl
      have hrd : Int.tmod (P : Int) 8 = (r8 : Int) := by rw [hr8]; rfl
      rw [← hq8] at hb hPz
      have hq0 : (q8 : Int) < (zs.length : Int) := by omega
      have hr8' : r8 < 8 := by omega
      have hqw : IntKind.i64.wrap (q8 : Int) = (q8 : Int) := IntWalk.i64_in _ (by omega)
      have hrw : IntKind.i64.wrap (r8 : Int) = (r8 : Int) := IntWalk.i64_in _ (by omega)
      have HQ := hide hq8
      have HR := hide hr8
      clear hq8 hr8
      refine wp_tail 17 (by kernel_rfl) (by kernel_rfl) ?_
      simp only [List.take_succ_cons, List.take_zero, List.drop_succ_cons, List.drop_zero]
      repeat (first | still_call (rank_any _ _ _ _ (by omega) (by omega) (by omega)) | still_step)
      try refine wpStill_nil ?_
      go_wp2_with (go_at_call 74; refine (rank_any _ _ _ _ (by omega) (by omega) (by omega)).mono ?_; rintro e w' ⟨rfl, rfl⟩)
      have hacc := acc_lt high N (fun i => bitIn high zs (p + i)) i hi
      have hpow : 2 ^ N ≤ 2 ^ 64 := Nat.pow_le_pow_right (by decide) (by omega)
      rw [get_step _ B (rk high 8 r8) (rk high N i) (rk_lt hr8') (by have := rk_lt (high := high) hlt; omega) (by omega) hz]
      go_roundg (N - (i + 1))
      case measure => omega
      case rel =>
        refine ⟨i + 1, k + 1, rfl, by omega, ?_, by go_num, rfl⟩
        rw [acc, bitIn, ← unhide HP, unhide HB, ← unhide HR]
    · have hiN : i = N := by omega
      subst hiN
      have c3 := (unhide H).c3
      have f3 := (unhide H).fz 3
      have hle := (unhide H).le
      go_wp2
      go_ret2
      exact ⟨rfl, k, rfl⟩

end Go.Proofs.YtabeanealkopbaaGreat.W4
end

section
namespace Go.Proofs.YtabeanealkopbaaGreat.W4.Nobody
open Go.ChangeShapes Go.WideShapes Go.ChangeAt Go.RowKit Go.Joins Mth
set_option maxRecDepth 100000

theorem own : ownKnob Tryz.prog.godebug = none := by kernel_rfl
theorem laidOut : laidOutB Tryz.prog = true := by kernel_rfl

/-- A code that no call made. -/
def Bad (w : World) (cv : Value) : Prop := cv = .pointer none ∨ ∃ cb, cv = .pointer (some ⟨cb, 0, none⟩) ∧ w.cell? ⟨cb, 0, none⟩ = some (.bool false)

set_option maxHeartbeats 400000 in
theorem good_no (cv : Value) (w : World) (h : Bad w cv) : Calls Tryz.prog 140 #[cv] w fun e w' => e = .returned (.bool false) ∧ w' = w := by
  rcases h with rfl | ⟨cb, rfl, hc⟩
  · go_enter Tryz.func140, Tryz.ntmps140
    go_wp2
    go_ret
    exact ⟨rfl, rfl⟩
  · go_enter Tryz.func140, Tryz.ntmps140
    go_wp2
    go_ret
    exact ⟨rfl, rfl⟩

set_option maxHeartbeats 400000 in
theorem word_no (cv : Value) (s : Int) (w : World) (h : Bad w cv) : Calls Tryz.prog 109 #[cv, .int .i64 s] w fun e w' => e = .returned (.tuple #[.int .u32 0, .int .i64 0, .int .i64 1]) ∧ w' = w := by
  have H := hide h
  clear h
  go_enter Tryz.func109, Tryz.ntmps109
  go_wp2_with (go_at_call 140; refine (good_no cv _ (unhide H)).mono ?_; rintro e w' ⟨rfl, rfl⟩)
  go_ret3
  exact ⟨rfl, rfl⟩

set_option maxHeartbeats 400000 in
theorem get_no (cv r : Value) (w : World) (h : Bad w cv) : Calls Tryz.prog 131 #[cv, r] w fun e w' => e = .returned (.tuple #[.int .i64 0, .int .i64 1]) ∧ w' = w := by
  have H := hide h
  clear h
  go_enter Tryz.func131, Tryz.ntmps131
  go_wp2_with (go_at_call 140; refine (good_no cv _ (unhide H)).mono ?_; rintro e w' ⟨rfl, rfl⟩)
  go_ret2
  exact ⟨rfl, rfl⟩

set_option maxHeartbeats 1000000 in
theorem fill_zero (pb : Nat) (w : World) : Calls Tryz.prog 78 #[.pointer (some ⟨pb, 0, none⟩), .int .u64 0, .int .i64 0] w fun e w' => e = .returned (.tuple #[]) ∧ w' = w := by
  go_enter Tryz.func78, Tryz.ntmps78
  go_wp2
  go_step3
  go_wp2
  go_step3
  go_wp2
  go_rounds 1
  rw [Exit.noGoto_normal]
  go_end0
  exact ⟨rfl, rfl⟩

set_option maxHeartbeats 1000000 in
theorem put_zero (pb : Nat) (w : World) (h : w.cell? ⟨pb, 0, none⟩ = some (.bool true)) : Calls Tryz.prog 53 #[.pointer (some ⟨pb, 0, none⟩), .int .u64 0, .int .i64 0] w fun e w' => e = .returned (.int .i64 0) ∧ w' = w := by
  go_enter Tryz.func53, Tryz.ntmps53
  go_wp2_with (first | (go_at_call 31; refine (good_yes _ _ (by assumption)).mono ?_; rintro e w' ⟨rfl, rfl⟩) | (go_at_call 78; refine (fill_zero pb _).mono ?_; rintro e w' ⟨rfl, rfl⟩))
  go_ret
  exact ⟨rfl, rfl⟩

end Go.Proofs.YtabeanealkopbaaGreat.W4.Nobody
end

section
namespace Go.Proofs.YtabeanealkopbaaGreat.W4
open Go.RowKit Mth
set_option maxRecDepth 100000
set_option linter.unusedVariables false

theorem WOk.below {w w' : World} {pb : Nat} {high : Bool} {v : Value} {m : Nat} {L : List Bool} {f : Nat} (h : WOk w pb high v m L f) (hb : Below w.heap.size w w') : WOk w' pb high v m L f :=
  h.keep (hb.block _ h.lt) (fun g hg => hb.block _ (h.row.lt g hg).2)

theorem Chg.of_below {w w' : World} {pb : Nat} {v : Value} (hb : Below w.heap.size w w') : Chg pb v w v w' :=
  ⟨hb.os, hb.tape, hb.output, hb.size, fun k hk _ _ => hb.block k hk, .inl rfl⟩

theorem bits_one (high : Bool) (W i : Nat) : bitsOf high (W / 2 ^ i % 2) 1 = [W.testBit i] := by
  have h1 : (W / 2 ^ i % 2).testBit 0 = W.testBit i := by
    rw [Nat.testBit_zero, Nat.testBit_eq_decide_div_mod_eq]
    simp
  have h2 : rk high 1 0 = 0 := by cases high <;> rfl
  have := bitsOf_take_succ high (W / 2 ^ i % 2) 1 0 (by omega)
  rw [List.take_of_length_le (by rw [bitsOf_length]; omega), h2, h1] at this
  simpa using this

set_option maxRecDepth 100000 in
set_option maxHeartbeats 1000000 in
theorem cput_ok (ls : List Nat) (cp lo hi s pb m f : Nat) (high : Bool) (v0 : Value) (L : List Bool) (w : World) (h : Code ls w cp lo hi) (hs : s < ls.length) (h0 : 0 < Canon.ln ls s) (hw : WOk w pb high v0 m L f) (hf : f ≤ 7) (hb : L.length + 20 ≤ 1000000000000000) :
    Calls Tryz.prog 110 #[.pointer (some ⟨cp, 0, none⟩), .pointer (some ⟨pb, 0, none⟩), .int .i64 (s : Int)] w fun e w' => e = .returned (.int .i64 0) ∧ ∃ v' m' f', WOk w' pb high v' m' (L ++ bitsOf true (Canon.wd ls s) (Canon.ln ls s)) f' ∧ f' ≤ 7 ∧ Chg pb v0 w v' w' := by
  have hgood : Good ls := by obtain ⟨_, _, _, _, _, _, _, _, _, _, _, hc⟩ := h; exact hc.good
  have hhas := hgood.has hs h0
  have hl20 := hhas.2.2
  have hwd := Canon.wd_lt hhas hgood.sum
  have HW := hide (word_ok ls cp lo hi s w h hs h0)
  have c0 := hw.c0
  have HOK := hide hw
  obtain ⟨W, hW⟩ : ∃ W, W = Canon.wd ls s := ⟨_, rfl⟩
  obtain ⟨N, hN⟩ : ∃ N, N = Canon.ln ls s := ⟨_, rfl⟩
  rw [← hW, ← hN] at HW hwd ⊢
  rw [← hN] at h0 hl20
  have hW32 : W < 4294967296 := by
    have : 2 ^ N ≤ 2 ^ 20 := Nat.pow_le_pow_right (by decide) hl20
    omega
  clear h hw hgood hhas hW hN hwd hs
  go_enter Tryz.func110, Tryz.ntmps110
  go_wp2_with (first | (go_at_call 53; go_must (refine (Nobody.put_zero pb _ (by assumption)).mono ?_; rintro e w' ⟨rfl, rfl⟩)) | (go_at_call 109; go_must (refine (unhide HW).mono ?_; rintro e w1 ⟨rfl, h1⟩; have HOK1 := hide ((unhide HOK).below h1); have HCH1 := hide (Chg.of_below (pb := pb) (v := v0) h1); clear h1)))
  go_loopg [11] N (fun gk d ws => ∃ (l : Nat) (v : Value) (m f : Nat), gk = N - l ∧ l ≤ N ∧ d = .int .i64 ((N : Int) - 1 - (l : Int)) ∧ WOk ws pb high v m (L ++ (bitsOf true W N).take l) f ∧ f ≤ 7 ∧ Chg pb v0 w' v ws)
  case atStart => exact ⟨0, v0, m, f, by omega, by omega, by simp, by simpa using unhide HOK1, hf, unhide HCH1⟩
  case round =>
    obtain ⟨l, v, m, f, rfl, hl, rfl, hok, hf7, hch⟩ := hrel
    by_cases hll : l < N
    · obtain ⟨i, hi⟩ : ∃ i, i + 1 + l = N := ⟨N - 1 - l, by omega⟩
      rw [show (N : Int) - 1 - (l : Int) = (i : Int) by omega]
      have hi0 : (0 : Int) ≤ (i : Int) := by omega
      have hi20 : i < 20 := by omega
      have hbit := bit_u32 W i hW32
      obtain ⟨b, hbb⟩ : ∃ b, b = W / 2 ^ i % 2 := ⟨_, rfl⟩
      rw [← hbb] at hbit
      have hb1 : b ≤ 1 := by omega
      have HBB := hide hbb
      have HOK2 := hide hok
      have HCH2 := hide hch
      have HI := hide hi
      have HLB : Hid ((L ++ (bitsOf true W N).take l).length + 1 ≤ 1000000000000000) := hide (by simp [bitsOf_length]; omega)
      clear hok hch hi hbb
      go_wp2_with (go_at_call 53; go_must (refine (put_ok pb m f high v _ (b : Int) 1 _ (unhide HOK2) hf7 (by omega) (by omega) (by omega) (by simp; omega) (unhide HLB)).mono ?_; rintro e w2 ⟨rfl, v2, m2, f2, h1, h2, h3⟩; have HOK3 := hide h1; have HF3 := hide h2; have HCH3 := hide ((unhide HCH2).trans h3); clear h1 h2 h3))
      go_roundg (N - (l + 1))
      case measure => have := unhide HI; omega
      case rel =>
        have hI := unhide HI
        refine ⟨l + 1, v2, m2, f2, rfl, by omega, by rw [show (N : Int) - 1 - ((l + 1 : Nat) : Int) = (i : Int) - 1 by omega], ?_, unhide HF3, unhide HCH3⟩
        have h1 := unhide HOK3
        rw [Int.toNat_natCast, unhide HBB, show (1 : Int).toNat = 1 from rfl, bits_one, List.append_assoc] at h1
        rw [bitsOf_take_succ true W N l (by omega), show rk true N l = i by simp [rk]; omega]
        exact h1
    · obtain rfl : l = N := by omega
      rw [show (l : Int) - 1 - (l : Int) = -1 by omega]
      have HOK2 := hide hok
      have HCH2 := hide hch
      clear hok hch
      go_wp2_with fail
      go_ret
      refine ⟨rfl, v, m, f, ?_, hf7, unhide HCH2⟩
      have h1 := unhide HOK2
      rw [List.take_of_length_le (by rw [bitsOf_length]; omega)] at h1
      exact h1

set_option maxHeartbeats 1000000 in
theorem cput_none (ls : List Nat) (cp lo hi pb : Nat) (s : Int) (w : World) (h : Code ls w cp lo hi) (hs : ¬ HasW ls s) (c0 : w.cell? ⟨pb, 0, none⟩ = some (.bool true)) :
    Calls Tryz.prog 110 #[.pointer (some ⟨cp, 0, none⟩), .pointer (some ⟨pb, 0, none⟩), .int .i64 s] w fun e w' => e = .returned (.int .i64 2) ∧ w' = w := by
  have HW := hide (word_none ls cp lo hi s w h hs)
  clear h hs
  go_enter Tryz.func110, Tryz.ntmps110
  go_wp2_with (first | (go_at_call 53; go_must (refine (Nobody.put_zero pb _ (by assumption)).mono ?_; rintro e w' ⟨rfl, rfl⟩)) | (go_at_call 109; go_must (refine (unhide HW).mono ?_; rintro e w' ⟨rfl, rfl⟩)))
  go_ret
  exact ⟨rfl, rfl⟩

set_option maxHeartbeats 1000000 in
theorem cput_nil (cv : Value) (s : Int) (w : World) : Calls Tryz.prog 110 #[cv, .pointer none, .int .i64 s] w fun e w' => e = .returned (.int .i64 1) ∧ w' = w := by
  go_enter Tryz.func110, Tryz.ntmps110
  go_wp2
  go_ret
  exact ⟨rfl, rfl⟩

end Go.Proofs.YtabeanealkopbaaGreat.W4
end

section
namespace Go.Proofs.YtabeanealkopbaaGreat.Mth

theorem getD_append_false (L : List Bool) (k j : Nat) : (L ++ List.replicate k false).getD j false = L.getD j false := by
  simp only [List.getD_eq_getElem?_getD]
  by_cases h : j < L.length
  · rw [List.getElem?_append_left h]
  · rw [List.getElem?_append_right (by omega), List.getElem?_eq_none (l := L) (by omega), List.getElem?_replicate]
    split <;> rfl

theorem octet_pad (high : Bool) (L : List Bool) (k i : Nat) : octet high (L ++ List.replicate k false) i = octet high L i := by
  unfold octet
  congr 1
  funext r
  exact getD_append_false _ _ _

theorem pk_pad (high : Bool) (m : Nat) (L : List Bool) (k : Nat) : pk high m (L ++ List.replicate k false) = pk high m L := by
  unfold pk
  congr 1
  funext i
  exact octet_pad _ _ _ _

/-- The bits of bytes. -/
def ofBytes (high : Bool) (zs : List Nat) : List Bool := (List.range (8 * zs.length)).map (bitIn high zs)

theorem ofBytes_length (high : Bool) (zs : List Nat) : (ofBytes high zs).length = 8 * zs.length := by simp [ofBytes]
theorem ofBytes_getD (high : Bool) (zs : List Nat) (i : Nat) (h : i < 8 * zs.length) : (ofBytes high zs).getD i false = bitIn high zs i := by
  simp [ofBytes, h]

theorem octet_append_ge (high : Bool) (L : List Bool) (m : Nat) (zs : List Nat) (hL : L.length = 8 * m) (hz : ∀ z ∈ zs, z < 256) (i : Nat) (hi : i < zs.length) :
    octet high (L ++ ofBytes high zs) (m + i) = zs.getD i 0 := by
  apply Nat.eq_of_testBit_eq
  intro r
  rw [octet_testBit]
  have hzi : zs.getD i 0 < 256 := hz _ (by rw [List.getD_eq_getElem?_getD, List.getElem?_eq_getElem hi]; exact List.getElem_mem _)
  by_cases h8 : r < 8
  · have h1 := rk_lt (high := high) h8
    have e : (L ++ ofBytes high zs).getD (8 * (m + i) + rk high 8 r) false = bitIn high zs (8 * i + rk high 8 r) := by
      rw [List.getD_eq_getElem?_getD, List.getElem?_append_right (by omega), show 8 * (m + i) + rk high 8 r - L.length = 8 * i + rk high 8 r by omega, ← List.getD_eq_getElem?_getD]
      exact ofBytes_getD _ _ _ (by omega)
    rw [e]
    unfold bitIn
    rw [show (8 * i + rk high 8 r) / 8 = i by omega, show (8 * i + rk high 8 r) % 8 = rk high 8 r by omega, rk_rk h8]
    simp [h8]
  · have : (zs.getD i 0).testBit r = false := Nat.testBit_lt_two_pow (Nat.lt_of_lt_of_le hzi (by
      have : 2 ^ 8 ≤ 2 ^ r := Nat.pow_le_pow_right (by decide) (by omega)
      omega))
    simp [h8] at this ⊢
    exact this

theorem octet_append_lt (high : Bool) (L M : List Bool) (i : Nat) (h : 8 * i + 8 ≤ L.length) : octet high (L ++ M) i = octet high L i := by
  apply Nat.eq_of_testBit_eq
  intro r
  rw [octet_testBit, octet_testBit]
  by_cases h8 : r < 8
  · have := rk_lt (high := high) h8
    simp only [List.getD_eq_getElem?_getD]
    rw [List.getElem?_append_left (by omega)]
  · simp [h8]

theorem pk_append_bytes (high : Bool) (L : List Bool) (m : Nat) (zs : List Nat) (hL : L.length = 8 * m) (hz : ∀ z ∈ zs, z < 256) :
    pk high (m + zs.length) (L ++ ofBytes high zs) = pk high m L ++ zs := by
  apply List.ext_getElem?
  intro i
  by_cases h : i < m
  · rw [pk_get _ _ _ _ (by omega), List.getElem?_append_left (by rw [pk_length]; exact h), pk_get _ _ _ _ h, octet_append_lt _ _ _ _ (by omega)]
  · by_cases h2 : i < m + zs.length
    · obtain ⟨j, rfl⟩ : ∃ j, i = m + j := ⟨i - m, by omega⟩
      rw [pk_get _ _ _ _ h2, octet_append_ge high L m zs hL hz j (by omega), List.getElem?_append_right (by rw [pk_length]; omega), pk_length, show m + j - m = j by omega, List.getElem?_eq_getElem (by omega)]
      simp [show j < zs.length by omega]
    · rw [List.getElem?_eq_none (by rw [pk_length]; omega), List.getElem?_eq_none (by rw [List.length_append, pk_length]; omega)]

theorem pk_append_any (high : Bool) (L : List Bool) (b : Bool) (M : Nat) :
    pk high M (L ++ [b]) = (pk high M L).set (L.length / 8) (octet high L (L.length / 8) ||| (b.toNat <<< rk high 8 (L.length % 8))) := by
  apply List.ext_getElem?
  intro j
  by_cases hj : j < M
  · by_cases e : j = L.length / 8
    · subst e
      rw [pk_get _ _ _ _ hj, octet_append_at high L b (L.length / 8) (L.length % 8) (by omega) (by omega), List.getElem?_set_self (by rw [pk_length]; exact hj)]
    · rw [pk_get _ _ _ _ hj, List.getElem?_set_ne (by omega), pk_get _ _ _ _ hj, octet_append_other high L b j (by omega)]
  · rw [List.getElem?_eq_none (by rw [pk_length]; omega), List.getElem?_eq_none (by rw [List.length_set, pk_length]; omega)]

end Go.Proofs.YtabeanealkopbaaGreat.Mth
end

section
namespace Go.Proofs.YtabeanealkopbaaGreat.W4
open Go.RowKit Mth
set_option maxRecDepth 100000

theorem WOk.pad {w : World} {pb : Nat} {high : Bool} {v : Value} {m f : Nat} {L : List Bool} (h : WOk w pb high v m L f) :
    WOk (w.setCell ⟨pb, 3, none⟩ (.int .i64 0)) pb high v m (L ++ List.replicate f false) 0 ∧ Chg pb v w v (w.setCell ⟨pb, 3, none⟩ (.int .i64 0)) := by
  have hl := h.len
  refine ⟨⟨?_, ?_, by simp; omega⟩, ⟨rfl, rfl, rfl, by simp, fun k _ hne _ => heap_setCell_other _ _ _ _ (by exact hne), .inl rfl⟩⟩
  · rw [heap_setCell_same _ pb 3 _ _ _ h.blk]; simp
  · rw [pk_pad]
    exact own_keep h.row (fun g e => heap_setCell_other _ _ _ _ (by show g ≠ pb; have := (h.row.lt g e).1; omega))

set_option maxHeartbeats 1000000 in
theorem walign_ok (pb m f : Nat) (high : Bool) (v0 : Value) (L : List Bool) (w : World) (hw : WOk w pb high v0 m L f) :
    Calls Tryz.prog 52 #[.pointer (some ⟨pb, 0, none⟩)] w fun e w' => e = .returned (.int .i64 0) ∧ WOk w' pb high v0 m (L ++ List.replicate f false) 0 ∧ Chg pb v0 w v0 w' := by
  have c0 := hw.c0
  have c3 := hw.c3
  have f3 := hw.fz 3
  have H := hide hw.pad
  clear hw
  go_enter Tryz.func52, Tryz.ntmps52
  go_wp2_with (go_at_call 31; refine (good_yes _ _ (by assumption)).mono ?_; rintro e w' ⟨rfl, rfl⟩)
  go_ret
  exact ⟨rfl, unhide H⟩

set_option maxHeartbeats 1000000 in
theorem putBytes_no (pb m f : Nat) (high : Bool) (v0 : Value) (L : List Bool) (bval : Value) (w : World) (hw : WOk w pb high v0 m L f) (hf : f ≠ 0) :
    Calls Tryz.prog 54 #[.pointer (some ⟨pb, 0, none⟩), bval] w fun e w' => e = .returned (.int .i64 2) ∧ w' = w := by
  have c0 := hw.c0
  have c3 := hw.c3
  have hb : ((f : Int) != 0) = true := by simp; omega
  clear hw
  go_enter Tryz.func54, Tryz.ntmps54
  go_wp2_with (go_at_call 31; refine (good_yes _ _ (by assumption)).mono ?_; rintro e w' ⟨rfl, rfl⟩)
  go_ret
  exact ⟨rfl, rfl⟩

/-- The row has grown by bytes, and the struct is told so. -/
theorem WOk.growBytes {wr w1 : World} {pb : Nat} {high : Bool} {v v' : Value} {m : Nat} {L : List Bool} {zs : List Nat} (h : WOk wr pb high v m L 0) (hz : ∀ z ∈ zs, z < 256)
    (hown : w1.ownsRow (pb + 1) 5 1 v' (m + zs.length) ((pk high m L).map bv ++ zs.map bv)) (hg : wr.grownBy w1 v.ownBlock) (hat : v'.ownBlock = v.ownBlock ∨ v'.ownBlock = some wr.heap.size) :
    WOk (w1.setCell ⟨pb, 2, none⟩ v') pb high v' (m + zs.length) (L ++ ofBytes high zs) 0 ∧ Chg pb v wr v' (w1.setCell ⟨pb, 2, none⟩ v') := by
  have hlt := h.lt
  have hll := h.len
  have hvb : v.ownBlock ≠ some pb := fun e => by have := (h.row.lt pb e).1; omega
  have hbk : w1.heap[pb]? = some (.cells #[.bool true, .bool high, v, .int .i64 0] 52 (0, 0)) := by
    rw [hg.block pb hlt (fun e => hvb e.symm)]; exact h.blk
  refine ⟨⟨?_, ?_, by rw [List.length_append, ofBytes_length]; omega⟩, ⟨hg.os, hg.tape, hg.output, by simpa using hg.size, fun k hk hne hv => ?_, ?_⟩⟩
  · rw [heap_setCell_same _ pb 2 _ _ _ hbk]; simp
  · rw [pk_append_bytes high L m zs (by omega) hz, List.map_append]
    exact own_keep hown (fun g e => heap_setCell_other _ _ _ _ (by show g ≠ pb; have := (hown.lt g e).1; omega))
  · rw [heap_setCell_other _ _ _ _ (by exact hne), hg.block k hk (fun e => hv e.symm)]
  · rcases hat with e | e
    · exact .inl e
    · exact .inr ⟨_, e, Nat.le_refl _⟩

theorem WOk.grownAt {wr w1 : World} {pb : Nat} {high : Bool} {v : Value} {m : Nat} {L : List Bool} {f : Nat} (h : WOk wr pb high v m L f) (hg : wr.grownBy w1 v.ownBlock) :
    w1.cell? ⟨pb, 2, none⟩ = some v ∧ w1.frozen? ⟨pb, 2, none⟩ = false := by
  have hvb : v.ownBlock ≠ some pb := fun e => by have := (h.row.lt pb e).1; omega
  have hbk : w1.heap[pb]? = some (.cells #[.bool true, .bool high, v, .int .i64 (f : Int)] 52 (0, 0)) := by
    rw [hg.block pb h.lt (fun e => hvb e.symm)]; exact h.blk
  simp [World.cell?, World.frozen?, hbk]

theorem own_form {w : World} {base e size n : Nat} {v : Value} {xs : List Value} (h : w.ownsRow base e size v n xs) : ∃ a l c, v = .slice a l c := by
  rcases h.2 with ⟨e, _⟩ | ⟨g, c, _, e, _⟩
  · exact ⟨_, _, _, e⟩
  · exact ⟨_, _, _, e⟩

set_option maxHeartbeats 1000000 in
theorem putBytes_ok (pb m : Nat) (high : Bool) (v0 : Value) (L : List Bool) (ad : Addr) (c : Nat) (zs : List Nat) (w : World) (hw : WOk w pb high v0 m L 0) (hz : ∀ z ∈ zs, z < 256)
    (hc : ∀ (j : Nat) u, (zs.map bv)[j]? = some u → w.cell? (ad.add j) = some u) (hb : m + zs.length ≤ 140737488355328) :
    Calls Tryz.prog 54 #[.pointer (some ⟨pb, 0, none⟩), .slice (some ad) zs.length c] w fun e w' => e = .returned (.int .i64 0) ∧ ∃ v', WOk w' pb high v' (m + zs.length) (L ++ ofBytes high zs) 0 ∧ Chg pb v0 w v' w' := by
  obtain ⟨i0, hi, hz0, hz1, hz2⟩ := info_parts info5
  have c0 := hw.c0
  have c2 := hw.c2
  have c3 := hw.c3
  have hlt := hw.lt
  have H := hide hw
  have HC := hide hc
  have HZ := hide hz
  clear hw hc hz
  go_enter Tryz.func54, Tryz.ntmps54
  go_wp2_with (first
    | (go_at_call 31; refine (good_yes _ _ (by assumption)).mono ?_; rintro e w' ⟨rfl, rfl⟩)
    | (at_builtin; go_must (refine wpList_append_own_at _ rfl (.tmp 17) (.tmp 18) 22 rfl (pb + 1) 5 i0 (.int .u8 0) 1 1 Tryz.underlying22 hi hz0 hz1 hz2 rfl (by decide) v0 m _ (by rfl) (unhide H).row ad zs.length c (zs.map bv) (by rfl) (by simp) (unhide HC) (by intro u hu; simp at hu; obtain ⟨z, _, rfl⟩ := hu; rfl) (by unfold maxLen; omega) (by omega) (by omega) ?_; intro v' w1 hown hgrow _ hat; obtain ⟨va, vn, vc, rfl⟩ := own_form hown; obtain ⟨d2, e2⟩ := (unhide H).grownAt hgrow; have HG := hide ((unhide H).growBytes (unhide HZ) hown hgrow hat); clear hown hgrow hat)))
  go_ret
  exact ⟨rfl, _, unhide HG⟩

end Go.Proofs.YtabeanealkopbaaGreat.W4
end

section
namespace Go.Proofs.YtabeanealkopbaaGreat.Merge

abbrev Coin := Nat × List Nat

def pack : List Coin → List Coin
  | a :: b :: r => (a.1 + b.1, a.2 ++ b.2) :: pack r
  | _ => []

/-- merged by what they are worth: of equal worth the first list's first -/
def mrg : List Coin → List Coin → List Coin
  | [], ps => ps
  | bs, [] => bs
  | b :: bs, p :: ps => if p.1 < b.1 then p :: mrg (b :: bs) ps else b :: mrg bs (p :: ps)
termination_by a b => a.length + b.length

/-- the coins of round k + 1 -/
def rounds (base : List Coin) : Nat → List Coin
  | 0 => base
  | k + 1 => mrg base (pack (rounds base k))

def worth (l : List Coin) : Nat := (l.map Prod.fst).sum
/-- what the first m are worth -/
def pre (l : List Coin) (m : Nat) : Nat := worth (l.take m)
def Sorted (l : List Coin) : Prop := l.Pairwise fun a b => a.1 ≤ b.1

theorem worth_nil : worth [] = 0 := rfl
theorem worth_cons (a : Coin) (l : List Coin) : worth (a :: l) = a.1 + worth l := by simp [worth]
theorem worth_append (a b : List Coin) : worth (a ++ b) = worth a + worth b := by simp [worth]

theorem pre_zero (l : List Coin) : pre l 0 = 0 := by simp [pre, worth]
theorem pre_cons (a : Coin) (l : List Coin) (m : Nat) : pre (a :: l) (m + 1) = a.1 + pre l m := by simp [pre, worth]
theorem pre_nil (m : Nat) : pre [] m = 0 := by simp [pre, worth]

theorem pre_mono (l : List Coin) : ∀ {a b : Nat}, a ≤ b → pre l a ≤ pre l b := by
  induction l with
  | nil => intro a b _; simp [pre_nil]
  | cons x r ih =>
    intro a b h
    rcases a with _ | a
    · rw [pre_zero]; omega
    · rcases b with _ | b
      · omega
      · rw [pre_cons, pre_cons]
        have := ih (show a ≤ b by omega)
        omega

/-- one more of a sorted list is worth at least what its first is -/
theorem pre_step {x : Coin} {l : List Coin} (hs : Sorted (x :: l)) : ∀ {m : Nat}, m < l.length + 1 → pre (x :: l) m + x.1 ≤ pre (x :: l) (m + 1) := by
  induction l generalizing x with
  | nil => intro m h; obtain rfl : m = 0 := by simp at h; omega
           rw [pre_zero, pre_cons, pre_zero]; omega
  | cons y r ih =>
    intro m h
    rcases m with _ | m
    · rw [pre_zero, pre_cons, pre_zero]; omega
    · rw [pre_cons, pre_cons]
      have hs' : Sorted (y :: r) := (List.pairwise_cons.1 hs).2
      have hxy : x.1 ≤ y.1 := (List.pairwise_cons.1 hs).1 y (by simp)
      have := ih hs' (m := m) (by simp at h ⊢; omega)
      omega

theorem mrg_nil_left (ps : List Coin) : mrg [] ps = ps := by unfold mrg; rfl
theorem mrg_nil_right (bs : List Coin) : mrg bs [] = bs := by
  cases bs <;> simp [mrg]

theorem mrg_length : ∀ (a b : List Coin), (mrg a b).length = a.length + b.length
  | [], ps => by rw [mrg_nil_left]; simp
  | b :: bs, [] => by rw [mrg_nil_right]; simp
  | b :: bs, p :: ps => by
    rw [mrg]
    split
    · rw [List.length_cons, mrg_length (b :: bs) ps]; simp only [List.length_cons]; omega
    · rw [List.length_cons, mrg_length bs (p :: ps)]; simp only [List.length_cons]; omega
termination_by a b => a.length + b.length

/-- the first of merged lists are worth no more than any firsts of both -/
theorem mrg_pre : ∀ (A B : List Coin), Sorted A → Sorted B → ∀ a b, a ≤ A.length → b ≤ B.length → pre (mrg A B) (a + b) ≤ pre A a + pre B b
  | [], B, _, _, a, b, ha, _ => by
    obtain rfl : a = 0 := by simpa using ha
    rw [mrg_nil_left, pre_nil, Nat.zero_add, Nat.zero_add]; exact Nat.le_refl _
  | x :: A, [], _, _, a, b, _, hb => by
    obtain rfl : b = 0 := by simpa using hb
    rw [mrg_nil_right, pre_nil, Nat.add_zero, Nat.add_zero]; exact Nat.le_refl _
  | x :: A, y :: B, hA, hB, a, b, ha, hb => by
    have hA' : Sorted A := (List.pairwise_cons.1 hA).2
    have hB' : Sorted B := (List.pairwise_cons.1 hB).2
    rw [mrg]
    split
    · rename_i hlt
      rcases b with _ | b
      · rcases a with _ | a
        · rw [Nat.add_zero, pre_zero]; omega
        · have ih := mrg_pre (x :: A) B hA hB' a 0 (by omega) (by omega)
          have st := pre_step hA (m := a) (by simp at ha ⊢; omega)
          rw [Nat.add_zero, pre_cons, pre_zero]
          rw [Nat.add_zero, pre_zero] at ih
          omega
      · have ih := mrg_pre (x :: A) B hA hB' a b ha (by simp at hb; omega)
        rw [← Nat.add_assoc, pre_cons, pre_cons]
        omega
    · rename_i hge
      rcases a with _ | a
      · rcases b with _ | b
        · rw [Nat.add_zero, pre_zero]; omega
        · have ih := mrg_pre A (y :: B) hA' hB 0 b (by omega) (by omega)
          have st := pre_step hB (m := b) (by simp at hb ⊢; omega)
          rw [Nat.zero_add, pre_cons, pre_zero]
          rw [Nat.zero_add, pre_zero] at ih
          omega
      · have ih := mrg_pre A (y :: B) hA' hB a b (by simp at ha; omega) hb
        rw [show a + 1 + b = (a + b) + 1 by omega, pre_cons, pre_cons]
        omega
termination_by A B => A.length + B.length

theorem pack_length : ∀ l : List Coin, (pack l).length = l.length / 2
  | [] => by simp [pack]
  | [_] => by simp [pack]
  | a :: b :: r => by rw [pack, List.length_cons, pack_length r]; simp only [List.length_cons]; omega

theorem pack_pre : ∀ (l : List Coin) (p : Nat), 2 * p ≤ l.length → pre (pack l) p = pre l (2 * p)
  | _, 0, _ => by rw [pre_zero, Nat.mul_zero, pre_zero]
  | [], p + 1, h => by simp at h
  | [_], p + 1, h => by simp at h; omega
  | a :: b :: r, p + 1, h => by
    rw [pack, pre_cons, show 2 * (p + 1) = (2 * p + 1) + 1 by omega, pre_cons, pre_cons, pack_pre r p (by simp at h; omega)]
    omega

theorem mem_mrg {x : Coin} : ∀ (A B : List Coin), x ∈ mrg A B → x ∈ A ∨ x ∈ B
  | [], B, h => by rw [mrg_nil_left] at h; exact .inr h
  | a :: A, [], h => by rw [mrg_nil_right] at h; exact .inl h
  | a :: A, b :: B, h => by
    rw [mrg] at h
    split at h
    · rcases List.mem_cons.1 h with rfl | h
      · exact .inr (by simp)
      · rcases mem_mrg (a :: A) B h with h | h
        · exact .inl h
        · exact .inr (List.mem_cons_of_mem _ h)
    · rcases List.mem_cons.1 h with rfl | h
      · exact .inl (by simp)
      · rcases mem_mrg A (b :: B) h with h | h
        · exact .inl (List.mem_cons_of_mem _ h)
        · exact .inr h
termination_by A B => A.length + B.length

theorem mrg_sorted : ∀ (A B : List Coin), Sorted A → Sorted B → Sorted (mrg A B)
  | [], B, _, h => by rw [mrg_nil_left]; exact h
  | a :: A, [], h, _ => by rw [mrg_nil_right]; exact h
  | a :: A, b :: B, hA, hB => by
    have hA' := List.pairwise_cons.1 hA
    have hB' := List.pairwise_cons.1 hB
    rw [mrg]
    split
    · rename_i hlt
      refine List.pairwise_cons.2 ⟨fun x hx => ?_, mrg_sorted (a :: A) B hA hB'.2⟩
      rcases mem_mrg _ _ hx with h | h
      · rcases List.mem_cons.1 h with rfl | h
        · omega
        · have := hA'.1 x h; omega
      · exact hB'.1 x h
    · rename_i hge
      refine List.pairwise_cons.2 ⟨fun x hx => ?_, mrg_sorted A (b :: B) hA'.2 hB⟩
      rcases mem_mrg _ _ hx with h | h
      · exact hA'.1 x h
      · rcases List.mem_cons.1 h with rfl | h
        · omega
        · have := hB'.1 x h; omega
termination_by A B => A.length + B.length

theorem pack_ge {m : Nat} : ∀ (l : List Coin), (∀ x ∈ l, m ≤ x.1) → ∀ x ∈ pack l, m + m ≤ x.1
  | [], _, x, h => by simp [pack] at h
  | [_], _, x, h => by simp [pack] at h
  | a :: b :: r, hl, x, h => by
    rw [pack] at h
    rcases List.mem_cons.1 h with rfl | h
    · have h1 := hl a (by simp)
      have h2 := hl b (by simp)
      show m + m ≤ a.1 + b.1
      omega
    · exact pack_ge r (fun y hy => hl y (by simp [hy])) x h

theorem pack_sorted : ∀ (l : List Coin), Sorted l → Sorted (pack l)
  | [], _ => by simp [pack, Sorted]
  | [_], _ => by simp [pack, Sorted]
  | a :: b :: r, h => by
    rw [pack]
    have h1 := List.pairwise_cons.1 h
    have h2 := List.pairwise_cons.1 h1.2
    refine List.pairwise_cons.2 ⟨fun x hx => ?_, pack_sorted r h2.2⟩
    have h3 := pack_ge (m := b.1) r (fun y hy => h2.1 y hy) x hx
    have h4 := h1.1 b (by simp)
    show a.1 + b.1 ≤ x.1
    omega

theorem rounds_sorted {base : List Coin} (h : Sorted base) : ∀ k, Sorted (rounds base k)
  | 0 => h
  | k + 1 => mrg_sorted _ _ h (pack_sorted _ (rounds_sorted h k))

/-! ### No choice of coins is worth less -/

/-- how wide the coins are, counted in those of the first round -/
def wide (c : Nat → Nat) : Nat → Nat
  | 0 => c 0
  | k + 1 => wide c k + c (k + 1) * 2 ^ (k + 1)

/-- what the cheapest of so many are worth -/
def price (base : List Coin) (c : Nat → Nat) : Nat → Nat
  | 0 => pre base (c 0)
  | k + 1 => price base c k + pre base (c (k + 1))

theorem wide_lt (base : List Coin) (c : Nat → Nat) (hc : ∀ j, c j ≤ base.length) : ∀ k, wide c k < ((rounds base k).length + 1) * 2 ^ k
  | 0 => by have := hc 0; simp [wide, rounds]; omega
  | k + 1 => by
    have ih := wide_lt base c hc k
    have h1 := hc (k + 1)
    rw [wide, rounds, mrg_length, pack_length, Nat.pow_succ]
    generalize (rounds base k).length = n at ih ⊢
    have h2 : (n + 1) * 2 ^ k ≤ (n / 2 + 1) * (2 ^ k * 2) := by
      rw [show (n / 2 + 1) * (2 ^ k * 2) = (2 * (n / 2) + 2) * 2 ^ k by rw [Nat.mul_comm (2 ^ k) 2, ← Nat.mul_assoc]; congr 1; omega]
      exact Nat.mul_le_mul_right _ (by omega)
    have h3 : c (k + 1) * (2 ^ k * 2) ≤ base.length * (2 ^ k * 2) := Nat.mul_le_mul_right _ h1
    rw [show (base.length + n / 2 + 1) * (2 ^ k * 2) = base.length * (2 ^ k * 2) + (n / 2 + 1) * (2 ^ k * 2) by rw [← Nat.add_mul, Nat.add_assoc]]
    omega

theorem best {base : List Coin} (hs : Sorted base) (c : Nat → Nat) (hc : ∀ j, c j ≤ base.length) : ∀ k m, m * 2 ^ k ≤ wide c k → pre (rounds base k) m ≤ price base c k
  | 0, m, h => by
    simp only [wide, Nat.pow_zero, Nat.mul_one] at h
    exact pre_mono _ h
  | k + 1, m, h => by
    have hw := wide_lt base c hc k
    have hp : 0 < 2 ^ k := Nat.two_pow_pos _
    obtain ⟨p, hpd⟩ : ∃ p, p = wide c k / (2 ^ k * 2) := ⟨_, rfl⟩
    have hd := Nat.div_add_mod (wide c k) (2 ^ k * 2)
    have hr := Nat.mod_lt (wide c k) (show 0 < 2 ^ k * 2 by omega)
    rw [← hpd] at hd
    have h1 : (2 * p) * 2 ^ k ≤ wide c k := by
      rw [show 2 * p * 2 ^ k = 2 ^ k * 2 * p by rw [Nat.mul_comm 2 p, Nat.mul_assoc, Nat.mul_comm p, Nat.mul_comm 2]]
      omega
    have h2 : 2 * p ≤ (rounds base k).length := by
      have : 2 * p * 2 ^ k < ((rounds base k).length + 1) * 2 ^ k := Nat.lt_of_le_of_lt h1 hw
      have := Nat.lt_of_mul_lt_mul_right this
      omega
    have h3 : m ≤ c (k + 1) + p := by
      rw [wide, Nat.pow_succ] at h
      have h4 : m * (2 ^ k * 2) < (c (k + 1) + p + 1) * (2 ^ k * 2) := by
        rw [show (c (k + 1) + p + 1) * (2 ^ k * 2) = c (k + 1) * (2 ^ k * 2) + 2 ^ k * 2 * p + 2 ^ k * 2 by rw [Nat.add_mul, Nat.add_mul, Nat.one_mul, Nat.mul_comm p]]
        omega
      have := Nat.lt_of_mul_lt_mul_right h4
      omega
    have ih := best hs c hc k (2 * p) h1
    rw [← pack_pre _ p h2] at ih
    have hm := mrg_pre base (pack (rounds base k)) hs (pack_sorted _ (rounds_sorted hs k)) (c (k + 1)) p (hc _) (by rw [pack_length]; omega)
    have hmo := pre_mono (mrg base (pack (rounds base k))) h3
    rw [rounds, price]
    omega

/-! ### What is chosen -/

/-- all symbols of coins -/
def syms (l : List Coin) : List Nat := l.flatMap Prod.snd

theorem syms_append (a b : List Coin) : syms (a ++ b) = syms a ++ syms b := by simp [syms]
theorem syms_cons (a : Coin) (l : List Coin) : syms (a :: l) = a.2 ++ syms l := by simp [syms]

theorem pack_syms : ∀ (l : List Coin) (p : Nat), 2 * p ≤ l.length → syms ((pack l).take p) = syms (l.take (2 * p))
  | _, 0, _ => by simp [syms]
  | [], p + 1, h => by simp at h
  | [_], p + 1, h => by simp at h; omega
  | a :: b :: r, p + 1, h => by
    rw [pack, List.take_succ_cons, show 2 * (p + 1) = (2 * p + 1) + 1 by omega, List.take_succ_cons, List.take_succ_cons, syms_cons, syms_cons, syms_cons, pack_syms r p (by simp at h; omega), List.append_assoc]

/-- the first m of merged lists are firsts of both -/
theorem mrg_take : ∀ (A B : List Coin) (m : Nat), m ≤ A.length + B.length → ∃ a b, a + b = m ∧ a ≤ A.length ∧ b ≤ B.length ∧ ((mrg A B).take m).Perm (A.take a ++ B.take b)
  | A, B, 0, _ => ⟨0, 0, rfl, by omega, by omega, by simp⟩
  | [], B, m + 1, h => ⟨0, m + 1, by omega, by omega, by simpa using h, by rw [mrg_nil_left]; simp⟩
  | x :: A, [], m + 1, h => ⟨m + 1, 0, by omega, by simpa using h, by omega, by rw [mrg_nil_right]; simp⟩
  | x :: A, y :: B, m + 1, h => by
    rw [mrg]
    split
    · obtain ⟨a, b, h1, h2, h3, h4⟩ := mrg_take (x :: A) B m (by simp at h ⊢; omega)
      refine ⟨a, b + 1, by omega, h2, by simpa using h3, ?_⟩
      rw [List.take_succ_cons, List.take_succ_cons]
      exact (h4.cons y).trans List.perm_middle.symm
    · obtain ⟨a, b, h1, h2, h3, h4⟩ := mrg_take A (y :: B) m (by simp at h ⊢; omega)
      refine ⟨a + 1, b, by omega, by simpa using h2, h3, ?_⟩
      rw [List.take_succ_cons, List.take_succ_cons, List.cons_append]
      exact h4.cons x
termination_by A B => A.length + B.length

/-- the symbols of what is chosen, round by round -/
def chosen (base : List Coin) (c : Nat → Nat) : Nat → List Nat
  | 0 => syms (base.take (c 0))
  | k + 1 => chosen base c k ++ syms (base.take (c (k + 1)))

theorem chosen_congr {base : List Coin} {c d : Nat → Nat} : ∀ k, (∀ j, j ≤ k → c j = d j) → chosen base c k = chosen base d k
  | 0, h => by rw [chosen, chosen, h 0 (Nat.le_refl _)]
  | k + 1, h => by rw [chosen, chosen, chosen_congr k (fun j hj => h j (by omega)), h (k + 1) (Nat.le_refl _)]

theorem wide_congr {c d : Nat → Nat} : ∀ k, (∀ j, j ≤ k → c j = d j) → wide c k = wide d k
  | 0, h => by rw [wide, wide, h 0 (Nat.le_refl _)]
  | k + 1, h => by rw [wide, wide, wide_congr k (fun j hj => h j (by omega)), h (k + 1) (Nat.le_refl _)]

theorem pieces (base : List Coin) : ∀ k m, m ≤ (rounds base k).length → ∃ c : Nat → Nat, (∀ j, c j ≤ base.length) ∧ wide c k = m * 2 ^ k ∧ (syms ((rounds base k).take m)).Perm (chosen base c k)
  | 0, m, h => ⟨fun j => if j = 0 then m else 0, fun j => by
      by_cases e : j = 0
      · simp only [if_pos e]; exact h
      · simp only [if_neg e]; omega, by simp [wide], by simp [chosen, rounds]⟩
  | k + 1, m, h => by
    rw [rounds] at h ⊢
    rw [mrg_length] at h
    obtain ⟨a, b, h1, h2, h3, h4⟩ := mrg_take base (pack (rounds base k)) m h
    rw [pack_length] at h3
    obtain ⟨c, c1, c2, c3⟩ := pieces base k (2 * b) (by omega)
    refine ⟨fun j => if j = k + 1 then a else c j, fun j => ?_, ?_, ?_⟩
    · by_cases e : j = k + 1
      · simp only [if_pos e]; exact h2
      · simp only [if_neg e]; exact c1 j
    · rw [wide, wide_congr (d := c) k (fun j hj => if_neg (by omega)), c2, if_pos rfl, ← h1, Nat.pow_succ, Nat.add_mul, Nat.add_comm (a * _)]
      congr 1
      rw [Nat.mul_comm 2 b, Nat.mul_assoc, Nat.mul_comm 2]
    · rw [chosen, chosen_congr (d := c) k (fun j hj => if_neg (by omega)), if_pos rfl]
      have hp : (syms ((mrg base (pack (rounds base k))).take m)).Perm (syms (base.take a ++ (pack (rounds base k)).take b)) := List.Perm.flatMap_right _ h4
      rw [syms_append, pack_syms _ b (by omega)] at hp
      exact hp.trans (List.perm_append_comm.trans (c3.append_right _))

/-! ### Worth by symbols -/

/-- each coin is worth its symbols -/
def Fair (w : Nat → Nat) (l : List Coin) : Prop := ∀ x ∈ l, x.1 = (x.2.map w).sum

theorem fair_worth {w : Nat → Nat} {l : List Coin} (h : Fair w l) : worth l = ((syms l).map w).sum := by
  induction l with
  | nil => rfl
  | cons x r ih =>
    rw [worth_cons, syms_cons, List.map_append, List.sum_append, ← ih (fun y hy => h y (by simp [hy])), h x (by simp)]

theorem fair_pack {w : Nat → Nat} : ∀ {l : List Coin}, Fair w l → Fair w (pack l)
  | [], _ => by simp [pack, Fair]
  | [_], _ => by simp [pack, Fair]
  | a :: b :: r, h => by
    rw [pack]
    intro x hx
    rcases List.mem_cons.1 hx with rfl | hx
    · show a.1 + b.1 = ((a.2 ++ b.2).map w).sum
      rw [h a (by simp), h b (by simp), List.map_append, List.sum_append]
    · exact fair_pack (l := r) (fun y hy => h y (by simp [hy])) x hx

theorem fair_rounds {w : Nat → Nat} {base : List Coin} (h : Fair w base) : ∀ k, Fair w (rounds base k)
  | 0 => h
  | k + 1 => fun x hx => by
    rcases mem_mrg _ _ hx with hx | hx
    · exact h x hx
    · exact fair_pack (fair_rounds h k) x hx

theorem fair_pre {w : Nat → Nat} {l : List Coin} (h : Fair w l) (m : Nat) : pre l m = ((syms (l.take m)).map w).sum :=
  fair_worth (fun x hx => h x (List.mem_of_mem_take hx))

end Go.Proofs.YtabeanealkopbaaGreat.Merge
end

section
namespace Go.Proofs.YtabeanealkopbaaGreat.Merge

def lsum (f : Nat → Nat) (L : List Nat) : Nat := (L.map f).sum

theorem lsum_nil (f : Nat → Nat) : lsum f [] = 0 := rfl
theorem lsum_cons (f : Nat → Nat) (x : Nat) (L : List Nat) : lsum f (x :: L) = f x + lsum f L := by simp [lsum]
theorem lsum_add (f g : Nat → Nat) (L : List Nat) : lsum (fun i => f i + g i) L = lsum f L + lsum g L := by
  induction L with
  | nil => rfl
  | cons x r ih => rw [lsum_cons, lsum_cons, lsum_cons, ih]; omega
theorem lsum_le {f g : Nat → Nat} {L : List Nat} (h : ∀ i ∈ L, f i ≤ g i) : lsum f L ≤ lsum g L := by
  induction L with
  | nil => exact Nat.le_refl _
  | cons x r ih =>
    have h1 := h x (by simp)
    have h2 := ih (fun i hi => h i (by simp [hi]))
    rw [lsum_cons, lsum_cons]; omega
theorem lsum_congr {f g : Nat → Nat} {L : List Nat} (h : ∀ i ∈ L, f i = g i) : lsum f L = lsum g L :=
  Nat.le_antisymm (lsum_le fun i hi => Nat.le_of_eq (h i hi)) (lsum_le fun i hi => Nat.le_of_eq (h i hi).symm)
theorem lsum_const (c : Nat) (L : List Nat) : lsum (fun _ => c) L = L.length * c := by
  induction L with
  | nil => simp [lsum]
  | cons x r ih => rw [lsum_cons, ih, List.length_cons, Nat.add_mul]; omega
theorem lsum_zero (L : List Nat) : lsum (fun _ => 0) L = 0 := by rw [lsum_const]; omega

def jsum (f : Nat → Nat) : Nat → Nat
  | 0 => f 0
  | k + 1 => jsum f k + f (k + 1)

theorem jsum_congr {f g : Nat → Nat} : ∀ k, (∀ j, j ≤ k → f j = g j) → jsum f k = jsum g k
  | 0, h => h 0 (Nat.le_refl _)
  | k + 1, h => by rw [jsum, jsum, jsum_congr k (fun j hj => h j (by omega)), h (k + 1) (Nat.le_refl _)]

theorem jsum_le {f g : Nat → Nat} : ∀ k, (∀ j, j ≤ k → f j ≤ g j) → jsum f k ≤ jsum g k
  | 0, h => h 0 (Nat.le_refl _)
  | k + 1, h => Nat.add_le_add (jsum_le k (fun j hj => h j (by omega))) (h (k + 1) (Nat.le_refl _))

theorem jsum_lsum (g : Nat → Nat → Nat) (L : List Nat) : ∀ k, jsum (fun j => lsum (fun i => g i j) L) k = lsum (fun i => jsum (g i) k) L
  | 0 => rfl
  | k + 1 => by
    rw [jsum, jsum_lsum g L k]
    show _ = lsum (fun i => jsum (g i) k + g i (k + 1)) L
    rw [lsum_add]

theorem wide_jsum (c : Nat → Nat) : ∀ k, wide c k = jsum (fun j => c j * 2 ^ j) k
  | 0 => by simp [wide, jsum]
  | k + 1 => by rw [wide, jsum, wide_jsum c k]

theorem price_jsum (base : List Coin) (c : Nat → Nat) : ∀ k, price base c k = jsum (fun j => pre base (c j)) k
  | 0 => rfl
  | k + 1 => by rw [price, jsum, price_jsum base c k]

/-- one of a kind each -/
def baseOf (w : Nat → Nat) (order : List Nat) : List Coin := order.map fun i => (w i, [i])

theorem base_syms (w : Nat → Nat) (order : List Nat) : syms (baseOf w order) = order := by
  induction order with
  | nil => rfl
  | cons x r ih => rw [baseOf, List.map_cons, syms_cons]; show [x] ++ syms (baseOf w r) = _; rw [ih]; rfl

theorem base_take (w : Nat → Nat) (order : List Nat) (m : Nat) : (baseOf w order).take m = baseOf w (order.take m) := by simp [baseOf]
theorem base_length (w : Nat → Nat) (order : List Nat) : (baseOf w order).length = order.length := by simp [baseOf]
theorem base_fair (w : Nat → Nat) (order : List Nat) : Fair w (baseOf w order) := fun x hx => by
  obtain ⟨i, _, rfl⟩ := List.mem_map.1 hx
  simp

/-- a list whose members are of order, counted -/
theorem count_sum {order : List Nat} (hd : order.Nodup) (w : Nat → Nat) : ∀ (s : List Nat), (∀ i ∈ s, i ∈ order) → (s.map w).sum = lsum (fun i => s.count i * w i) order
  | [], _ => by simp [lsum_zero]
  | x :: s, h => by
    have ih := count_sum hd w s (fun i hi => h i (by simp [hi]))
    have hx := h x (by simp)
    rw [List.map_cons, List.sum_cons, ih]
    have e : lsum (fun i => (x :: s).count i * w i) order = lsum (fun i => (if x = i then w i else 0) + s.count i * w i) order := lsum_congr fun i _ => by
      rw [List.count_cons]
      by_cases e : x = i
      · subst e; simp [Nat.add_mul]; omega
      · simp [e]
    rw [e, lsum_add]
    congr 1
    clear e ih h
    induction order with
    | nil => simp at hx
    | cons y r ih2 =>
      rw [lsum_cons]
      have hd' := List.nodup_cons.1 hd
      by_cases e : x = y
      · subst e
        rw [if_pos rfl, lsum_congr (g := fun _ => 0) (fun i hi => if_neg (fun e : x = i => hd'.1 (by rw [e]; exact hi))), lsum_zero]; omega
      · rw [if_neg e, ← ih2 hd'.2 (by simpa [e] using hx)]; omega

theorem chosen_mem {w : Nat → Nat} {order : List Nat} {c : Nat → Nat} : ∀ k i, i ∈ chosen (baseOf w order) c k → i ∈ order
  | 0, i, h => by rw [chosen, base_take, base_syms] at h; exact List.mem_of_mem_take h
  | k + 1, i, h => by
    rw [chosen] at h
    rcases List.mem_append.1 h with h | h
    · exact chosen_mem k i h
    · rw [base_take, base_syms] at h; exact List.mem_of_mem_take h

theorem chosen_count {w : Nat → Nat} {order : List Nat} (c : Nat → Nat) (i : Nat) : ∀ k, (chosen (baseOf w order) c k).count i = jsum (fun j => (order.take (c j)).count i) k
  | 0 => by rw [chosen, base_take, base_syms]; rfl
  | k + 1 => by rw [chosen, List.count_append, chosen_count c i k, base_take, base_syms]; rfl

theorem take_count {order : List Nat} (hd : order.Nodup) (m i : Nat) : (order.take m).count i ≤ 1 :=
  List.nodup_iff_count.1 ((List.take_sublist m order).nodup hd) i

/-- the widest that so many different rounds can be -/
theorem powers (q : Nat → Nat) (hq : ∀ j, q j ≤ 1) : ∀ k, jsum (fun j => q j * 2 ^ j) k + 2 ^ (k + 1 - jsum q k) ≤ 2 ^ (k + 1) ∧ jsum q k ≤ k + 1
  | 0 => by
    have h0 := hq 0
    simp only [jsum]
    have : q 0 = 0 ∨ q 0 = 1 := by omega
    rcases this with e | e <;> rw [e] <;> simp
  | k + 1 => by
    obtain ⟨ih, ih2⟩ := powers q hq k
    have h0 := hq (k + 1)
    simp only [jsum]
    have : q (k + 1) = 0 ∨ q (k + 1) = 1 := by omega
    have hp : 2 ^ (k + 1 + 1) = 2 * 2 ^ (k + 1) := by rw [Nat.pow_succ]; omega
    rcases this with e | e
    · rw [e]
      refine ⟨?_, by omega⟩
      simp only [Nat.zero_mul, Nat.add_zero]
      rw [hp, show k + 1 + 1 - jsum q k = (k + 1 - jsum q k) + 1 by omega, Nat.pow_succ]
      omega
    · rw [e]
      refine ⟨?_, by omega⟩
      rw [hp, Nat.one_mul, show k + 1 + 1 - (jsum q k + 1) = k + 1 - jsum q k by omega]
      omega

/-! ### The lengths -/

/-- how often a symbol is in the coins that are taken -/
def out (w : Nat → Nat) (order : List Nat) (M : Nat) (i : Nat) : Nat := (syms ((rounds (baseOf w order) (M - 1)).take (2 * order.length - 2))).count i

theorem enough (w : Nat → Nat) (order : List Nat) (M : Nat) (hM : 1 ≤ M) (hn : order.length ≤ 2 ^ M) : 2 * order.length - 2 ≤ (rounds (baseOf w order) (M - 1)).length := by
  obtain ⟨k, rfl⟩ : ∃ k, M = k + 1 := ⟨M - 1, by omega⟩
  have h := wide_lt (baseOf w order) (fun _ => order.length) (fun _ => by rw [base_length]; exact Nat.le_refl _) k
  have e : ∀ k, wide (fun _ => order.length) k + order.length = order.length * 2 ^ (k + 1) := by
    intro k
    induction k with
    | zero => simp [wide]; omega
    | succ k ih => rw [wide, Nat.pow_succ 2 (k + 1), ← Nat.mul_assoc]; omega
  have e1 := e k
  rw [Nat.add_sub_cancel]
  have hp : 2 ^ (k + 1) = 2 * 2 ^ k := by rw [Nat.pow_succ]; omega
  by_cases h1 : order.length ≤ 1
  · omega
  · have h2 : (2 * order.length - 2) * 2 ^ k < ((rounds (baseOf w order) k).length + 1) * 2 ^ k := by
      refine Nat.lt_of_le_of_lt ?_ h
      rw [Nat.sub_mul]
      rw [hp] at e1 hn
      rw [show order.length * (2 * 2 ^ k) = 2 * order.length * 2 ^ k by rw [Nat.mul_comm 2 order.length, Nat.mul_assoc]] at e1
      omega
    have := Nat.lt_of_mul_lt_mul_right h2
    omega

section
variable {w : Nat → Nat} {order : List Nat} {M : Nat}

/-- the counts of the rounds -/
theorem out_counts (hM : 1 ≤ M) (hn : order.length ≤ 2 ^ M) : ∃ c : Nat → Nat, (∀ j, c j ≤ order.length) ∧ wide c (M - 1) = (2 * order.length - 2) * 2 ^ (M - 1) ∧ (∀ i, out w order M i = jsum (fun j => (order.take (c j)).count i) (M - 1)) ∧
    (∀ i ∈ syms ((rounds (baseOf w order) (M - 1)).take (2 * order.length - 2)), i ∈ order) := by
  obtain ⟨c, c1, c2, c3⟩ := pieces (baseOf w order) (M - 1) (2 * order.length - 2) (enough w order M hM hn)
  rw [base_length] at c1
  exact ⟨c, c1, c2, fun i => by rw [out, c3.count_eq, chosen_count], fun i hi => chosen_mem _ i (c3.mem_iff.1 hi)⟩

theorem out_le (hd : order.Nodup) (hM : 1 ≤ M) (hn : order.length ≤ 2 ^ M) (i : Nat) : out w order M i ≤ M := by
  obtain ⟨c, _, _, c3, _⟩ := out_counts (w := w) hM hn
  rw [c3]
  have := (powers _ (fun j => take_count hd (c j) i) (M - 1)).2
  omega

/-- they are not over-full -/
theorem out_kraft (hd : order.Nodup) (hM : 1 ≤ M) (hn : order.length ≤ 2 ^ M) (h2 : 2 ≤ order.length) : lsum (fun i => 2 ^ (M - out w order M i)) order ≤ 2 ^ M := by
  obtain ⟨c, c1, c2, c3, _⟩ := out_counts (w := w) hM hn
  have e1 : wide c (M - 1) = lsum (fun i => jsum (fun j => (order.take (c j)).count i * 2 ^ j) (M - 1)) order := by
    rw [wide_jsum, ← jsum_lsum]
    refine jsum_congr _ (fun j _ => ?_)
    have := count_sum hd (fun _ => 2 ^ j) (order.take (c j)) (fun i hi => List.mem_of_mem_take hi)
    rw [← this]
    have hl : (order.take (c j)).length = c j := by rw [List.length_take]; have := c1 j; omega
    have := lsum_const (2 ^ j) (order.take (c j))
    rw [hl] at this
    exact this.symm
  have e2 : lsum (fun i => jsum (fun j => (order.take (c j)).count i * 2 ^ j) (M - 1) + 2 ^ (M - out w order M i)) order ≤ lsum (fun _ => 2 ^ M) order := lsum_le fun i _ => by
    have := (powers _ (fun j => take_count hd (c j) i) (M - 1)).1
    rw [show M - 1 + 1 = M by omega] at this
    rw [c3]
    exact this
  rw [lsum_add, ← e1, c2, lsum_const] at e2
  obtain ⟨k, rfl⟩ : ∃ k, M = k + 1 := ⟨M - 1, by omega⟩
  rw [Nat.add_sub_cancel] at e2
  have hp : 2 ^ (k + 1) = 2 * 2 ^ k := by rw [Nat.pow_succ]; omega
  rw [Nat.sub_mul, hp, show order.length * (2 * 2 ^ k) = 2 * order.length * 2 ^ k by rw [Nat.mul_comm 2 order.length, Nat.mul_assoc]] at e2
  have h3 : 2 * 2 ^ k ≤ 2 * order.length * 2 ^ k := Nat.mul_le_mul_right _ (by omega)
  rw [hp]
  omega

theorem out_cost (hd : order.Nodup) (hM : 1 ≤ M) (hn : order.length ≤ 2 ^ M) : lsum (fun i => out w order M i * w i) order = pre (rounds (baseOf w order) (M - 1)) (2 * order.length - 2) := by
  obtain ⟨c, _, _, _, c4⟩ := out_counts (w := w) hM hn
  rw [fair_pre (fair_rounds (base_fair w order) _), count_sum hd w _ c4]
  rfl

/-! ### No others cost less -/

theorem pre_tail {x : Coin} {l : List Coin} (hs : Sorted (x :: l)) {m : Nat} (h : m ≤ l.length) : pre (x :: l) m ≤ pre l m := by
  rcases m with _ | m
  · rw [pre_zero, pre_zero]; exact Nat.le_refl _
  · rw [pre_cons]
    have hl : Sorted l := (List.pairwise_cons.1 hs).2
    cases l with
    | nil => simp at h
    | cons y r =>
      have h1 := (List.pairwise_cons.1 hs).1 y (by simp)
      have h2 := pre_step hl (m := m) (by simp at h ⊢; omega)
      omega

/-- the first are worth no more than as many others -/
theorem pre_sub {l s : List Coin} (h : s.Sublist l) : Sorted l → pre l s.length ≤ worth s := by
  induction h with
  | slnil => intro _; simp [pre_zero, worth_nil]
  | cons x h ih =>
    intro hs
    have := ih (List.pairwise_cons.1 hs).2
    exact Nat.le_trans (pre_tail hs h.length_le) this
  | cons_cons x h ih =>
    intro hs
    have := ih (List.pairwise_cons.1 hs).2
    rw [List.length_cons, pre_cons, worth_cons]
    omega

/-- how many of the last rounds' powers make so long a word -/
theorem top_powers (l : Nat) : ∀ k, l ≤ k + 1 → jsum (fun j => (if k + 1 - j ≤ l then 1 else 0) * 2 ^ j) k + 2 ^ (k + 1 - l) = 2 ^ (k + 1) := by
  have gen : ∀ K k, k ≤ K → l ≤ K + 1 → jsum (fun j => (if K + 1 - j ≤ l then 1 else 0) * 2 ^ j) k + (if K + 1 - k ≤ l then 2 ^ (K + 1 - l) else 2 ^ (k + 1)) = 2 ^ (k + 1) := by
    intro K k
    induction k with
    | zero =>
      intro _ hl
      simp only [jsum]
      by_cases e : K + 1 - 0 ≤ l
      · rw [if_pos e, if_pos e, show K + 1 - l = 0 by omega]
      · rw [if_neg e, if_neg e]
    | succ k ih =>
      intro hk hl
      have ih' := ih (by omega) hl
      have hp : 2 ^ (k + 1 + 1) = 2 * 2 ^ (k + 1) := by rw [Nat.pow_succ]; omega
      rw [jsum]
      by_cases e : K + 1 - (k + 1) ≤ l
      · rw [if_pos e, if_pos e, Nat.one_mul, hp]
        by_cases e2 : K + 1 - k ≤ l
        · rw [if_pos e2] at ih'; omega
        · rw [if_neg e2] at ih'
          rw [show K + 1 - l = k + 1 by omega]
          omega
      · rw [if_neg e, if_neg e, Nat.zero_mul, hp]
        rw [if_neg (by omega)] at ih'
        omega
  intro k hl
  have := gen k k (Nat.le_refl _) hl
  by_cases e : k + 1 - k ≤ l
  · rw [if_pos e] at this; exact this
  · rw [if_neg e] at this
    obtain rfl : l = 0 := by omega
    exact this

theorem top_count (l : Nat) : ∀ k, l ≤ k + 1 → jsum (fun j => if k + 1 - j ≤ l then 1 else 0) k = l := by
  have gen : ∀ K k, k ≤ K → jsum (fun j => if K + 1 - j ≤ l then 1 else 0) k = k + 1 - (K + 1 - l) := by
    intro K k
    induction k with
    | zero =>
      intro _
      simp only [jsum]
      by_cases e : K + 1 - 0 ≤ l
      · rw [if_pos e]; omega
      · rw [if_neg e]; omega
    | succ k ih =>
      intro hk
      rw [jsum, ih (by omega)]
      by_cases e : K + 1 - (k + 1) ≤ l
      · rw [if_pos e]; omega
      · rw [if_neg e]; omega
  intro k hl
  rw [gen k k (Nat.le_refl _)]; omega

theorem lsum_mul (f : Nat → Nat) (c : Nat) (L : List Nat) : lsum (fun i => f i * c) L = lsum f L * c := by
  induction L with
  | nil => simp [lsum_nil]
  | cons x r ih => rw [lsum_cons, lsum_cons, ih, Nat.add_mul]

theorem jsum_mul (f : Nat → Nat) (c : Nat) : ∀ k, jsum (fun j => f j * c) k = jsum f k * c
  | 0 => rfl
  | k + 1 => by rw [jsum, jsum, jsum_mul f c k, Nat.add_mul]

theorem filter_lsum (p : Nat → Bool) (w : Nat → Nat) (L : List Nat) : ((L.filter p).map w).sum = lsum (fun i => (if p i = true then 1 else 0) * w i) L := by
  induction L with
  | nil => rfl
  | cons x r ih =>
    rw [lsum_cons]
    by_cases e : p x = true
    · rw [List.filter_cons_of_pos e, List.map_cons, List.sum_cons, ih, if_pos e]; omega
    · rw [List.filter_cons_of_neg e, ih, if_neg e]; omega

/-- any lengths that are not over-full cost at least as much -/
theorem other_cost (hs : Sorted (baseOf w order)) (hM : 1 ≤ M) (l : Nat → Nat) (hl : ∀ i ∈ order, l i ≤ M) (hk : lsum (fun i => 2 ^ (M - l i)) order ≤ 2 ^ M) :
    pre (rounds (baseOf w order) (M - 1)) (2 * order.length - 2) ≤ lsum (fun i => l i * w i) order := by
  obtain ⟨k, rfl⟩ : ∃ k, M = k + 1 := ⟨M - 1, by omega⟩
  rw [Nat.add_sub_cancel]
  have hc : ∀ j, (order.filter (fun i => decide (k + 1 - j ≤ l i))).length ≤ (baseOf w order).length := fun j => by rw [base_length]; exact List.length_filter_le _ _
  have hwide : wide (fun j => (order.filter (fun i => decide (k + 1 - j ≤ l i))).length) k = lsum (fun i => jsum (fun j => (if k + 1 - j ≤ l i then 1 else 0) * 2 ^ j) k) order := by
    rw [wide_jsum, ← jsum_lsum]
    refine jsum_congr _ (fun j _ => ?_)
    have := filter_lsum (fun i => decide (k + 1 - j ≤ l i)) (fun _ => 2 ^ j) order
    simp only [decide_eq_true_eq] at this
    rw [← this]
    have h3 := lsum_const (2 ^ j) (order.filter (fun i => decide (k + 1 - j ≤ l i)))
    exact h3.symm
  have hw2 : (2 * order.length - 2) * 2 ^ k ≤ wide (fun j => (order.filter (fun i => decide (k + 1 - j ≤ l i))).length) k := by
    have e : lsum (fun i => jsum (fun j => (if k + 1 - j ≤ l i then 1 else 0) * 2 ^ j) k + 2 ^ (k + 1 - l i)) order = lsum (fun _ => 2 ^ (k + 1)) order := lsum_congr fun i hi => top_powers (l i) k (hl i hi)
    rw [lsum_add, ← hwide, lsum_const] at e
    have hp : 2 ^ (k + 1) = 2 * 2 ^ k := by rw [Nat.pow_succ]; omega
    rw [hp, show order.length * (2 * 2 ^ k) = 2 * order.length * 2 ^ k by rw [Nat.mul_comm 2 order.length, Nat.mul_assoc]] at e
    rw [hp] at hk
    rw [Nat.sub_mul]
    omega
  refine Nat.le_trans (best hs _ hc k _ hw2) ?_
  rw [price_jsum]
  have e : lsum (fun i => l i * w i) order = jsum (fun j => lsum (fun i => (if k + 1 - j ≤ l i then 1 else 0) * w i) order) k := by
    rw [jsum_lsum]
    refine lsum_congr fun i hi => ?_
    rw [jsum_mul, top_count (l i) k (hl i hi)]
  rw [e]
  refine jsum_le _ (fun j _ => ?_)
  have hf := filter_lsum (fun i => decide (k + 1 - j ≤ l i)) w order
  simp only [decide_eq_true_eq] at hf
  rw [← hf]
  have hsub : (baseOf w (order.filter (fun i => decide (k + 1 - j ≤ l i)))).Sublist (baseOf w order) := (List.filter_sublist).map _
  have := pre_sub hsub hs
  rw [base_length] at this
  refine Nat.le_trans this (Nat.le_of_eq ?_)
  simp [worth, baseOf, List.map_map, Function.comp_def]

/-! ### They are full -/

theorem lsum_change {f g : Nat → Nat} {i : Nat} : ∀ {L : List Nat}, L.Nodup → i ∈ L → lsum (fun x => if x = i then g x else f x) L + f i = lsum f L + g i
  | [], _, h => by simp at h
  | y :: r, hd, h => by
    have hd' := List.nodup_cons.1 hd
    rw [lsum_cons, lsum_cons]
    by_cases e : y = i
    · subst e
      rw [if_pos rfl, lsum_congr (f := fun x => if x = y then g x else f x) (g := f) (fun x hx => if_neg (fun e : x = y => hd'.1 (by rw [← e]; exact hx)))]
      omega
    · rw [if_neg e]
      have := lsum_change (f := f) (g := g) hd'.2 (show i ∈ r by rcases List.mem_cons.1 h with h | h; exact absurd h.symm e; exact h)
      omega

theorem lsum_more {f : Nat → Nat} (hf : ∀ x, 1 ≤ f x) {i : Nat} : ∀ {L : List Nat}, i ∈ L → f i + (L.length - 1) ≤ lsum f L
  | [], h => by simp at h
  | y :: r, h => by
    rw [lsum_cons, List.length_cons, Nat.add_sub_cancel]
    have hr : r.length ≤ lsum f r := by
      have := lsum_le (L := r) (f := fun _ => 1) (g := f) (fun x _ => hf x)
      rw [lsum_const] at this
      omega
    rcases List.mem_cons.1 h with rfl | h
    · omega
    · have := lsum_more hf h
      have h1 := hf y
      have h3 : 0 < r.length := List.length_pos_of_mem h
      omega

theorem greatest (f : Nat → Nat) : ∀ {L : List Nat}, L ≠ [] → ∃ i, i ∈ L ∧ ∀ x ∈ L, f x ≤ f i
  | [], h => absurd rfl h
  | [y], _ => ⟨y, by simp, fun x hx => by simp at hx; subst hx; exact Nat.le_refl _⟩
  | y :: z :: r, _ => by
    obtain ⟨i, h1, h2⟩ := greatest f (L := z :: r) (by simp)
    by_cases e : f y ≤ f i
    · exact ⟨i, List.mem_cons_of_mem _ h1, fun x hx => by rcases List.mem_cons.1 hx with rfl | hx; exact e; exact h2 x hx⟩
    · exact ⟨y, by simp, fun x hx => by rcases List.mem_cons.1 hx with rfl | hx; exact Nat.le_refl _; have := h2 x hx; omega⟩

theorem lsum_dvd {f : Nat → Nat} {d : Nat} : ∀ {L : List Nat}, (∀ x ∈ L, d ∣ f x) → d ∣ lsum f L
  | [], _ => by rw [lsum_nil]; exact Nat.dvd_zero d
  | y :: r, h => by rw [lsum_cons]; exact Nat.dvd_add (h y (by simp)) (lsum_dvd fun x hx => h x (by simp [hx]))

theorem out_pos (hd : order.Nodup) (hM : 1 ≤ M) (hn : order.length ≤ 2 ^ M) (h2 : 2 ≤ order.length) {i : Nat} (hi : i ∈ order) : 1 ≤ out w order M i := by
  have hk := out_kraft (w := w) hd hM hn h2
  rcases Nat.eq_zero_or_pos (out w order M i) with e | e
  · have := lsum_more (f := fun i => 2 ^ (M - out w order M i)) (fun x => Nat.two_pow_pos _) hi
    simp only [e, Nat.sub_zero] at this
    omega
  · exact e

theorem out_full (hs : Sorted (baseOf w order)) (hd : order.Nodup) (hw : ∀ i ∈ order, 0 < w i) (hM : 1 ≤ M) (hn : order.length ≤ 2 ^ M) (h2 : 2 ≤ order.length) : lsum (fun i => 2 ^ (M - out w order M i)) order = 2 ^ M := by
  have hk := out_kraft (w := w) hd hM hn h2
  rcases Nat.lt_or_ge (lsum (fun i => 2 ^ (M - out w order M i)) order) (2 ^ M) with hlt | hge
  · exfalso
    obtain ⟨i, hi, hmax⟩ := greatest (out w order M) (L := order) (by intro e; rw [e] at h2; simp at h2)
    have hp := out_pos (w := w) hd hM hn h2 hi
    have hle := out_le (w := w) hd hM hn i
    obtain ⟨T, hT⟩ : ∃ T, T = out w order M i := ⟨_, rfl⟩
    -- all are multiples of the least one
    have hdv : 2 ^ (M - T) ∣ lsum (fun i => 2 ^ (M - out w order M i)) order := lsum_dvd fun x hx => Nat.pow_dvd_pow 2 (by have := hmax x hx; omega)
    have hdv2 : 2 ^ (M - T) ∣ 2 ^ M := Nat.pow_dvd_pow 2 (by omega)
    have hroom : lsum (fun i => 2 ^ (M - out w order M i)) order + 2 ^ (M - T) ≤ 2 ^ M := by
      obtain ⟨a, ha⟩ := hdv
      obtain ⟨b, hb⟩ := hdv2
      rw [ha, hb] at hlt ⊢
      have hab : a < b := Nat.lt_of_mul_lt_mul_left hlt
      have := Nat.mul_le_mul_left (2 ^ (M - T)) (show a + 1 ≤ b from hab)
      rw [Nat.mul_add, Nat.mul_one] at this
      exact this
    -- a shorter word there
    have hch := lsum_change (f := fun x => 2 ^ (M - out w order M x)) (g := fun x => 2 ^ (M - (out w order M x - 1))) hd hi
    have hk2 : lsum (fun x => 2 ^ (M - (if x = i then out w order M x - 1 else out w order M x))) order ≤ 2 ^ M := by
      have e : lsum (fun x => 2 ^ (M - (if x = i then out w order M x - 1 else out w order M x))) order = lsum (fun x => if x = i then 2 ^ (M - (out w order M x - 1)) else 2 ^ (M - out w order M x)) order := lsum_congr fun x _ => by
        by_cases e : x = i
        · rw [if_pos e, if_pos e]
        · rw [if_neg e, if_neg e]
      rw [e]
      simp only [← hT] at hch hp hle
      have hpw : 2 ^ (M - (T - 1)) = 2 * 2 ^ (M - T) := by rw [show M - (T - 1) = (M - T) + 1 by omega, Nat.pow_succ]; omega
      rw [hpw] at hch
      omega
    have hco := other_cost hs hM (fun x => if x = i then out w order M x - 1 else out w order M x) (fun x hx => by
      have := out_le (w := w) hd hM hn x
      by_cases e : x = i
      · simp only [if_pos e]; omega
      · simp only [if_neg e]; exact this) hk2
    rw [← out_cost hd hM hn] at hco
    have hch2 := lsum_change (f := fun x => out w order M x * w x) (g := fun x => (out w order M x - 1) * w x) hd hi
    have e2 : lsum (fun x => (if x = i then out w order M x - 1 else out w order M x) * w x) order = lsum (fun x => if x = i then (out w order M x - 1) * w x else out w order M x * w x) order := lsum_congr fun x _ => by
      by_cases e : x = i
      · rw [if_pos e, if_pos e]
      · rw [if_neg e, if_neg e]
    rw [e2] at hco
    have hwi := hw i hi
    have hmul : out w order M i * w i = (out w order M i - 1) * w i + w i := by
      have : out w order M i = (out w order M i - 1) + 1 := by omega
      rw [this, Nat.add_mul, Nat.one_mul, Nat.add_sub_cancel]
    omega
  · omega

/-- none that is not over-full costs less -/
theorem out_best (hs : Sorted (baseOf w order)) (hd : order.Nodup) (hM : 1 ≤ M) (hn : order.length ≤ 2 ^ M) (l : Nat → Nat) (hl : ∀ i ∈ order, l i ≤ M) (hk : lsum (fun i => 2 ^ (M - l i)) order ≤ 2 ^ M) :
    lsum (fun i => out w order M i * w i) order ≤ lsum (fun i => l i * w i) order := by
  rw [out_cost hd hM hn]
  exact other_cost hs hM l hl hk

theorem kraft_more {l : Nat → Nat} {L : List Nat} (hl : ∀ i ∈ L, l i ≤ M) (d : Nat) : lsum (fun i => 2 ^ (M + d - l i)) L = lsum (fun i => 2 ^ (M - l i)) L * 2 ^ d := by
  rw [← lsum_mul]
  refine lsum_congr fun i hi => ?_
  have := hl i hi
  rw [← Nat.pow_add]
  congr 1
  omega

/-- longer words that may be never make a code that costs more -/
theorem out_more (hs : Sorted (baseOf w order)) (hd : order.Nodup) (hM : 1 ≤ M) (hn : order.length ≤ 2 ^ M) (h2 : 2 ≤ order.length) :
    lsum (fun i => out w order (M + 1) i * w i) order ≤ lsum (fun i => out w order M i * w i) order := by
  have hp : 2 ^ (M + 1) = 2 ^ M * 2 := Nat.pow_succ 2 M
  refine out_best hs hd (by omega) (by omega) _ (fun i _ => Nat.le_succ_of_le (out_le hd hM hn i)) ?_
  rw [kraft_more (fun i _ => out_le hd hM hn i) 1, hp]
  have := out_kraft (w := w) hd hM hn h2
  omega

/-- by 2^20, as the sums are told -/
theorem kraft_twenty {l : Nat → Nat} {L : List Nat} (hM : M ≤ 20) (hl : ∀ i ∈ L, l i ≤ M) (h : lsum (fun i => 2 ^ (20 - l i)) L ≤ 1048576) : lsum (fun i => 2 ^ (M - l i)) L ≤ 2 ^ M := by
  have e := kraft_more hl (20 - M)
  rw [show M + (20 - M) = 20 by omega] at e
  rw [e, show 1048576 = 2 ^ M * 2 ^ (20 - M) by rw [← Nat.pow_add, show M + (20 - M) = 20 by omega]] at h
  exact Nat.le_of_mul_le_mul_right h (Nat.two_pow_pos _)

end

end Go.Proofs.YtabeanealkopbaaGreat.Merge
end
