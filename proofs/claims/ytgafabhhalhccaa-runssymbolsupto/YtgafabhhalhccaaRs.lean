/- runOf, readSymbols and Places of the program. -/
import Derived.Test.YtgafabhhalhccaaPm
namespace Go.Proofs.Ytgafabhhalhccaa
open Go.RowKit Runs
set_option maxRecDepth 100000
set_option linter.unusedVariables false
attribute [local go_sem ↓] Go.wp_at_zero Go.wp_at_succ

/-- what is told of the run with which symbols begin -/
def RunIs (ss : List Int) (a0 : Option Addr) (e : Ending) : Prop :=
  (∃ j, j ≤ 20 ∧ j ≤ ss.length ∧ (∀ i, i < j → ss.getD i 0 = 0 ∨ ss.getD i 0 = 1) ∧ (j < ss.length → ¬ (ss.getD j 0 = 0 ∨ ss.getD j 0 = 1)) ∧ e = .returned (.tuple #[.slice a0 j j, .int .i64 0])) ∨
  (21 ≤ ss.length ∧ (∀ i, i < 21 → ss.getD i 0 = 0 ∨ ss.getD i 0 = 1) ∧ e = .returned (.tuple #[.slice none 0 0, .int .i64 11]))

set_option maxHeartbeats 4000000 in
theorem runOf_ok (ss : List Int) (a0 : Option Addr) (cap : Nat) (w : World) (hc : IntsIn w a0 ss) (hcap : ss.length ≤ cap) (hN : ss.length ≤ 2000000) :
    Calls Try.prog 45 #[.slice a0 ss.length cap] w fun e w' => RunIs ss a0 e ∧ w' = w := by
  have HC := hide hc
  obtain ⟨N, hNN⟩ : ∃ N, N = ss.length := ⟨_, rfl⟩
  have HN := hide hNN
  rw [← hNN] at hN hcap ⊢
  clear hNN hc
  go_enter Try.func45, Try.ntmps45
  go_wp2_with fail
  go_loopg [4] (N + 1) (fun gk d ws => ∃ (j : Nat), gk = N + 1 - j ∧ j ≤ N ∧ j ≤ 20 ∧ d = .int .i64 (j : Int) ∧ Hid (∀ i, i < j → ss.getD i 0 = 0 ∨ ss.getD i 0 = 1) ∧ ws = w)
  case atStart => exact ⟨0, by omega, by omega, by omega, rfl, hide (fun i hi => by omega), rfl⟩
  case round =>
    obtain ⟨j, rfl, hj, hj20, rfl, HD, rfl⟩ := hrel
    by_cases hlt : j < N
    · have tl : (j : Int) < (N : Int) := by omega
      have hjl : j < ss.length := by rw [← unhide HN]; exact hlt
      obtain ⟨g, off, rfl, c1⟩ := unhide HC j hjl
      obtain ⟨x, hx⟩ : ∃ x, x = ss.getD j 0 := ⟨_, rfl⟩
      rw [← hx] at c1
      have HX := hide hx
      clear hx hjl
      by_cases hdig : x = 0 ∨ x = 1
      · have HDJ : Hid (∀ i, i < j + 1 → ss.getD i 0 = 0 ∨ ss.getD i 0 = 1) := hide fun i hi => by
          rcases Nat.lt_or_ge i j with h | h
          · exact unhide HD i h
          · obtain rfl : i = j := by omega
            rw [← unhide HX]; exact hdig
        clear HX HD
        by_cases hk : j = 20
        · subst hk
          rcases hdig with rfl | rfl
          · go_wp2_with fail
            go_ret2
            exact ⟨.inr ⟨by rw [← unhide HN]; omega, unhide HDJ, rfl⟩, rfl⟩
          · go_wp2_with fail
            go_ret2
            exact ⟨.inr ⟨by rw [← unhide HN]; omega, unhide HDJ, rfl⟩, rfl⟩
        · have f20 : ((j : Int) == 20) = false := by rw [beq_eq_false_iff_ne]; omega
          have f20' : ¬ (j : Int) = 20 := by omega
          rcases hdig with rfl | rfl
          · go_wp2_with fail
            go_roundg (N + 1 - (j + 1))
            case measure => omega
            case rel => exact ⟨j + 1, rfl, by omega, by omega, by go_num, HDJ, rfl⟩
          · go_wp2_with fail
            go_roundg (N + 1 - (j + 1))
            case measure => omega
            case rel => exact ⟨j + 1, rfl, by omega, by omega, by go_num, HDJ, rfl⟩
      · have fd0 : (x == 0) = false := by rw [beq_eq_false_iff_ne]; omega
        have fd1 : (x == 1) = false := by rw [beq_eq_false_iff_ne]; omega
        have fd0' : ¬ x = 0 := by omega
        have fd1' : ¬ x = 1 := by omega
        have HND := hide hdig
        clear hdig
        go_wp2_with fail
        go_ret2
        exact ⟨.inl ⟨j, hj20, by rw [← unhide HN]; omega, unhide HD, fun _ => by rw [← unhide HX]; exact unhide HND, rfl⟩, rfl⟩
    · obtain rfl : j = N := by omega
      have tl : ¬ (j : Int) < (j : Int) := by omega
      go_wp2_with fail
      go_ret2
      exact ⟨.inl ⟨j, hj20, by rw [← unhide HN]; omega, unhide HD, fun h => by rw [← unhide HN] at h; omega, rfl⟩, rfl⟩

/-- what lies behind some of the ints -/
theorem ints_rest (ss : List Int) (a0 : Option Addr) (cap n : Nat) (hn : n ≤ ss.length) (hc : ss.length ≤ cap) :
    ∃ a1, (∀ w', (Instr.slice 32 (.slice a0 ss.length cap) (some (.int .i64 (n : Int))) none none).run Try.prog w' = .ok (.slice a1 (ss.length - n) (cap - n)) w') ∧ ∀ W, IntsIn W a0 ss → IntsIn W a1 (ss.drop n) := by
  refine ⟨if cap = n then a0 else a0.map (·.add (n * 1)), fun w' => ?_, fun W h j hj => ?_⟩
  · obtain ⟨i0, hi, hz0, hz1, hz2⟩ := info_parts info3'
    rw [run_slice_l w' 32 a0 ss.length cap Try.underlying32 .i64 (n : Int) (by omega) (by omega)]
    simp [sizeOf, typeInfo, sliced, Result.andThen, show Try.prog.elem 32 = 3 from by kernel_rfl, hi, hz1]
  · rw [List.length_drop] at hj
    obtain ⟨g, off, rfl, hcell⟩ := h (n + j) (by omega)
    rw [if_neg (by omega)]
    refine ⟨g, off + n, ?_, ?_⟩
    · by_cases hn0 : n = 0 <;> simp [Addr.add, hn0]
    · rw [show off + n + j = off + (n + j) by omega, hcell]
      congr 2
      rw [List.getD_eq_getElem?_getD, List.getD_eq_getElem?_getD, List.getElem?_drop]

theorem ints_take {W : World} {a1 : Option Addr} {l : List Int} (h : IntsIn W a1 l) (j : Nat) (hj : j ≤ l.length) : IntsIn W a1 (l.take j) := fun i hi => by
  rw [List.length_take] at hi
  obtain ⟨g, off, e, hc⟩ := h i (by omega)
  refine ⟨g, off, e, ?_⟩
  rw [hc]
  congr 2
  rw [List.getD_eq_getElem?_getD, List.getD_eq_getElem?_getD, List.getElem?_take, if_pos (by omega)]

theorem worth_run (l : List Int) (a1 : Option Addr) (j : Nat) (w : World) (h : IntsIn w a1 l) (hj : j ≤ l.length) (h20 : j ≤ 20) (hd : ∀ i, i < j → l.getD i 0 = 0 ∨ l.getD i 0 = 1) :
    Calls Try.prog 46 #[.slice a1 j j] w fun e w' => e = .returned (.int .i64 ((runW l j : Nat) : Int)) ∧ w' = w := by
  have hl : (l.take j).length = j := by rw [List.length_take]; omega
  have := worth_ok (l.take j) a1 j w (ints_take h j hj) (fun s hs => by
    obtain ⟨i, hi, rfl⟩ := List.getElem_of_mem hs
    rw [hl] at hi
    have := hd i hi
    rw [List.getD_eq_getElem?_getD, List.getElem?_eq_getElem (by omega)] at this
    simpa using this) (by omega) (fun i => runW (l.take j) i) rfl (fun i _ => rfl)
  rw [hl] at this
  rw [runW_take l j hj j (Nat.le_refl _)] at this
  exact this

theorem plcI_stop (n m : Int) (run k : Nat) (out : List Int) : plcI n m [] run k out = if m - (out.length : Int) < (run : Int) then ([], 3) else ([], 10) := by rw [plcI]

theorem plcI_next (n m : Int) (s : Int) (r : List Int) (run k : Nat) (out : List Int) (hs : ¬ (s = 0 ∨ s = 1)) : plcI n m (s :: r) run k out = if m - (out.length : Int) < (run : Int) then ([], 3)
    else if s < 0 ∨ n + 1 < s then ([], 11)
    else if s = n + 1 then (if r = [] then (out ++ List.replicate run 0, 0) else ([], 15))
    else if ((out.length + run : Nat) : Int) = m then ([], 3)
    else plcI n m r 0 0 (out ++ List.replicate run 0 ++ [s - 1]) := by
  rw [plcI, if_neg hs]

/-- behind a run it is looked at first whether there is room for it -/
theorem plcI_big (n m : Int) (l : List Int) (run k : Nat) (out : List Int) (hl : ∀ s r, l = s :: r → ¬ (s = 0 ∨ s = 1)) (h : m - (out.length : Int) < (run : Int)) : plcI n m l run k out = ([], 3) := by
  cases l with
  | nil => rw [plcI_stop, if_pos h]
  | cons s r => rw [plcI_next n m s r run k out (hl s r rfl), if_pos h]

set_option maxHeartbeats 8000000 in
theorem rs_ok (ss : List Int) (a0 : Option Addr) (cap : Nat) (n : Int) (w : World) (fn : Nat) (cb : Array Value) (m : Int) (B : Prop) (I : List Int → World → Prop) (K : World → Prop) (hT : TellerI fn cb m B I K) (hI : I [] w) (hm : 0 ≤ m)
    (hc : ∀ out W, I out W → IntsIn W a0 ss) (hcap : ss.length ≤ cap) (hn1 : 1 ≤ n) (hn2 : n ≤ 256) (hN : ss.length ≤ 2000000) (hB : B ∨ ∃ r, plcI n m ss 0 0 [] = (r, 0)) :
    Calls Try.prog 39 #[.slice a0 ss.length cap, .int .i64 n, .func (.func fn) #[] cb] w fun e w' => RsIs (plcI n m ss 0 0 []) I K e w' := by
  have hE := hT.enter
  have HT := hide hT
  have HI := hide hI
  have HC := hide hc
  have HRST := hide (fun k hk => ints_rest ss a0 cap k hk hcap)
  obtain ⟨N, hNN⟩ : ∃ N, N = ss.length := ⟨_, rfl⟩
  have HN := hide hNN
  obtain ⟨U, hU⟩ : ∃ U, U = plcI n m ss 0 0 [] := ⟨_, rfl⟩
  rw [← hNN] at hN hcap HRST ⊢
  rw [← hU] at hB ⊢
  have HU := hide hU
  have HB := hide hB
  have fn1 : IntKind.i64.wrap (n + 1) = n + 1 := by rw [IntKind.wrap_i64]; omega
  clear hNN hc hT hI hU hB
  go_enter Try.func39, Try.ntmps39
  go_wp2_with fail
  go_step3
  go_wp2_with fail
  go_step3
  go_wp2_with fail
  go_loopg [7] (N + 1) (fun gk av ws => ∃ (at_ : Nat) (out : List Int), gk = N + 1 - at_ ∧ at_ ≤ N ∧ av = .int .i64 (at_ : Int) ∧ Hid (I out ws) ∧ Hid ((out.length : Int) ≤ m) ∧ Hid (plcI n m (ss.drop at_) 0 0 out = U))
  case atStart => exact ⟨0, [], by omega, by omega, rfl, HI, hide (by simpa using hm), hide (by rw [unhide HU]; rfl)⟩
  case round =>
    clear HI
    obtain ⟨at_, out, rfl, hat, rfl, HI, HO, HX⟩ := hrel
    rename World => wo
    obtain ⟨a1, hsl, hin⟩ := unhide HRST at_ hat
    have HIN := hide (hin wo (unhide HC out wo (unhide HI)))
    have HRUN := hide (runOf_ok (ss.drop at_) a1 (cap - at_) wo (unhide HIN) (by rw [List.length_drop, ← unhide HN]; omega) (by rw [List.length_drop, ← unhide HN]; omega))
    have hDL : (ss.drop at_).length = N - at_ := by rw [List.length_drop, ← unhide HN]
    rw [hDL] at HRUN
    have HDL := hide hDL
    clear hDL hin
    go_wp2_with fail
    refine (unhide HRUN).mono ?_
    rintro e w1 ⟨hrun, rfl⟩
    clear HRUN hsl
    rcases hrun with ⟨j, hj20, hjl, hd, hnd, rfl⟩ | ⟨h21, hd, rfl⟩
    case inr =>
      have HX2 := hide (plcI_21 n m (ss.drop at_) out h21 hd)
      clear h21 hd
      go_wp2_with fail
      rw [Exit.noGoto_ret]
      go_ret
      rw [← unhide HX, unhide HX2]
      exact ⟨rfl, fun h => by simp at h, (unhide HT).keep _ _ (unhide HI)⟩
    have HW := hide (worth_run (ss.drop at_) a1 j w1 (unhide HIN) hjl hj20 hd)
    have hX := unhide HX
    rw [plcI_run n m (ss.drop at_) out j hjl hj20 hd, List.drop_drop] at hX
    have hsm := runW_small (ss.drop at_) j hj20 hd
    rw [unhide HDL] at hjl hnd
    obtain ⟨R, hR⟩ : ∃ R, R = runW (ss.drop at_) j := ⟨_, rfl⟩
    obtain ⟨p, hp⟩ : ∃ p, p = at_ + j := ⟨_, rfl⟩
    have hpc : ((at_ + j : Nat) : Int) = (p : Int) := by omega
    have hpc2 : (at_ : Int) + (j : Int) = (p : Int) := by omega
    have hpn : p ≤ N := by omega
    have hpa : at_ ≤ p := by omega
    have HND : Hid (∀ s r, ss.drop p = s :: r → ¬ (s = 0 ∨ s = 1)) := hide fun s r e => by
      have h1 : p < N := by
        rcases Nat.lt_or_ge p N with h | h
        · exact h
        · rw [List.drop_eq_nil_of_le (by rw [← unhide HN]; exact h)] at e; cases e
      have h2 := hnd (by omega)
      have h3 : (ss.drop at_).getD j 0 = s := by
        rw [List.getD_eq_getElem?_getD, List.getElem?_drop, ← hp]
        have := congrArg List.head? e
        rw [List.head?_drop] at this
        rw [this]; rfl
      rw [h3] at h2
      exact h2
    rw [← hR] at HW hX hsm
    rw [← hp] at hX
    have HX2 := hide hX
    have HP := hide hp
    clear hX HX hnd hd hR hp
    have hfit : (((out.length : Int) + (R : Int) ≤ m) ∨ B) := by
      rcases unhide HB with h | ⟨r, h⟩
      · exact .inr h
      · refine .inl ?_
        have h1 := unhide HX2
        by_cases h3 : m - (out.length : Int) < (R : Int)
        · rw [plcI_big n m _ R j out (unhide HND) h3, h] at h1; cases h1
        · omega
    have HFIT := hide hfit
    clear hfit
    go_wp2_with fail
    refine (unhide HW).mono ?_
    rintro e w2 ⟨rfl, rfl⟩
    clear HW
    go_wp2_with fail
    refine ((unhide HT).call out w2 0 R (unhide HI) hsm (unhide HFIT)).mono ?_
    rintro e w3 (⟨hle, rfl, hI1⟩ | ⟨hgt, rfl, hK1⟩)
    case inr =>
      have HK1 := hide hK1
      have HGT := hide hgt
      clear hK1 hgt
      go_wp2_with fail
      rw [Exit.noGoto_ret]
      go_ret
      have h1 := unhide HX2
      have h2 := unhide HGT
      rw [plcI_big n m _ R j out (unhide HND) (by omega)] at h1
      rw [← h1]
      exact ⟨rfl, fun h => by simp at h, unhide HK1⟩
    have HI1 := hide hI1
    have HLE := hide hle
    clear hI1 hle HFIT
    by_cases hend : p = N
    · subst hend
      have tp1 : ((p : Int) == (p : Int)) = true := by rw [beq_iff_eq]
      go_wp2_with fail
      rw [Exit.noGoto_ret]
      go_ret
      have h1 := unhide HX2
      have h2 := unhide HLE
      rw [unhide HN, List.drop_length, plcI_stop, if_neg (by omega)] at h1
      rw [← h1]
      exact ⟨rfl, fun h => by simp at h, (unhide HT).keep _ _ (unhide HI1)⟩
    have tp1 : ((p : Int) == (N : Int)) = false := by rw [beq_eq_false_iff_ne]; omega
    have tp2 : ¬ (p : Int) = (N : Int) := by omega
    have tp3 : (p : Int) < (N : Int) := by omega
    have hps : p < ss.length := by rw [← unhide HN]; omega
    obtain ⟨g, off, rfl, c1⟩ := unhide HC _ w3 (unhide HI1) p hps
    have hcons := dropI_cons hps
    obtain ⟨s, hs⟩ : ∃ s, s = ss.getD p 0 := ⟨_, rfl⟩
    rw [← hs] at hcons c1
    have hX := unhide HX2
    have hle := unhide HLE
    rw [hcons, plcI_next n m s _ R j out (unhide HND _ _ hcons), if_neg (by omega)] at hX
    clear hs hcons hps HX2 hle
    by_cases hs0 : s < 0
    · have fs0 : decide (s < 0) = true := decide_eq_true hs0
      rw [if_pos (.inl hs0)] at hX
      have HX3 := hide hX
      clear hX
      go_wp2_with fail
      rw [Exit.noGoto_ret]
      go_ret
      rw [← unhide HX3]
      exact ⟨rfl, fun h => by simp at h, (unhide HT).keep _ _ (unhide HI1)⟩
    have fs0 : decide (s < 0) = false := decide_eq_false hs0
    by_cases hs1 : n + 1 < s
    · have fs1 : decide (n + 1 < s) = true := decide_eq_true hs1
      rw [if_pos (.inr hs1)] at hX
      have HX3 := hide hX
      clear hX
      go_wp2_with fail
      rw [Exit.noGoto_ret]
      go_ret
      rw [← unhide HX3]
      exact ⟨rfl, fun h => by simp at h, (unhide HT).keep _ _ (unhide HI1)⟩
    have fs1 : decide (n + 1 < s) = false := decide_eq_false hs1
    rw [if_neg (by omega)] at hX
    by_cases hs2 : s = n + 1
    · have fs2 : (s == n + 1) = true := by rw [beq_iff_eq]; exact hs2
      rw [if_pos hs2] at hX
      clear hs2
      by_cases hlast : p + 1 = N
      · have fe : ¬ (p : Int) + 1 < (N : Int) := by omega
        rw [if_pos (by apply List.eq_nil_of_length_eq_zero; rw [List.length_drop, ← unhide HN]; omega)] at hX
        have HX3 := hide hX
        clear hX hlast
        go_wp2_with fail
        rw [Exit.noGoto_ret]
        go_ret
        rw [← unhide HX3]
        exact ⟨rfl, fun _ => unhide HI1, (unhide HT).keep _ _ (unhide HI1)⟩
      · have fe : (p : Int) + 1 < (N : Int) := by omega
        rw [if_neg (by intro e; have := congrArg List.length e; rw [List.length_drop, ← unhide HN] at this; simp at this; omega)] at hX
        have HX3 := hide hX
        clear hX
        go_wp2_with fail
        rw [Exit.noGoto_ret]
        go_ret
        rw [← unhide HX3]
        exact ⟨rfl, fun h => by simp at h, (unhide HT).keep _ _ (unhide HI1)⟩
    · have fs2 : (s == n + 1) = false := by rw [beq_eq_false_iff_ne]; exact hs2
      rw [if_neg hs2] at hX
      have fw9 : IntKind.i64.wrap (s - 1) = s - 1 := by rw [IntKind.wrap_i64]; omega
      have hfit : ((((out ++ List.replicate R 0).length : Int) + ((1 : Nat) : Int) ≤ m) ∨ B) := by
        rcases unhide HB with h | ⟨r, h⟩
        · exact .inr h
        · refine .inl ?_
          by_cases h3 : ((out.length + R : Nat) : Int) = m
          · rw [if_pos h3, h] at hX; cases hX
          · have := unhide HLE
            rw [List.length_append, List.length_replicate]; omega
      have HX3 := hide hX
      have HFIT := hide hfit
      clear hX hfit
      go_wp2_with fail
      refine ((unhide HT).call (out ++ List.replicate R 0) w3 (s - 1) 1 (unhide HI1) (by omega) (unhide HFIT)).mono ?_
      rintro e w4 (⟨hle2, rfl, hI2⟩ | ⟨hgt2, rfl, hK2⟩)
      · have HI2 := hide hI2
        have HLE2 := hide hle2
        clear hI2 hle2
        go_wp2_with fail
        go_roundg (N + 1 - (p + 1))
        case measure => omega
        case rel =>
          have h1 := unhide HX3
          have h2 := unhide HLE2
          rw [List.length_append, List.length_replicate] at h2
          rw [if_neg (by omega)] at h1
          exact ⟨p + 1, _, rfl, by omega, by go_num, HI2, hide (by simp; omega), hide h1⟩
      · have HK2 := hide hK2
        have HGT2 := hide hgt2
        clear hK2 hgt2
        go_wp2_with fail
        rw [Exit.noGoto_ret]
        go_ret
        have h1 := unhide HX3
        have h2 := unhide HGT2
        have h3 := unhide HLE
        rw [List.length_append, List.length_replicate] at h2
        rw [if_pos (by omega)] at h1
        rw [← h1]
        exact ⟨rfl, fun h => by simp at h, unhide HK2⟩

end Go.Proofs.Ytgafabhhalhccaa
