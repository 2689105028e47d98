/- The program's alike and firstRun. -/
import Derived.Test.YtabeanealkopbaaRu
import Derived.Test.YtabeanealkopbaaFind
namespace Go.Proofs.Ytabeanealkopbaa
open Go.RowKit Infl Defl
set_option maxRecDepth 100000
set_option linter.unusedVariables false

attribute [local go_sem ↓] Go.wp_at_zero Go.wp_at_succ

theorem cnt_zero (l : List Int) (h : 0 < l.length) : Cnt l 0 1 (l.getD 0 0) := by
  have h0 : Cnt l 0 0 (l.getD 0 0) := by unfold Cnt; simp
  exact h0.next (by simpa using h) rfl

set_option maxHeartbeats 1000000 in
/-- how many are like the first one, at most so many -/
theorem alike_ok (l : List Int) (most b off cap : Nat) (w : World) (hl : 0 < l.length) (hl2 : l.length ≤ 100000000000000) (hm : 1 ≤ most) (hm2 : most ≤ 1000) (hc : ∀ j, j < l.length → w.cell? ⟨b, off + j, none⟩ = some (.int .i64 (l.getD j 0))) :
    Calls Try.prog 23 #[.slice (some ⟨b, off, none⟩) l.length cap, .int .i64 (most : Int)] w fun e w' => e = .returned (.int .i64 ((min most (cntRun (l.getD 0 0) l) : Nat) : Int)) ∧ ∃ q, w' = w.drewN q := by
  have c0 := hc 0 hl
  have HC := hide hc
  have HN := hide (cnt_zero l hl)
  obtain ⟨n, hn⟩ : ∃ n, n = l.length := ⟨_, rfl⟩
  have HLN := hide hn
  rw [← hn] at hl hl2 ⊢
  obtain ⟨v, hv⟩ : ∃ v, v = l.getD 0 0 := ⟨_, rfl⟩
  rw [← hv] at c0 HN ⊢
  have HV := hide hv
  simp only [Nat.add_zero] at c0
  obtain ⟨r, hr⟩ : ∃ r, r = min most (cntRun v l) := ⟨_, rfl⟩
  have HR := hide hr
  rw [← hr]
  obtain ⟨mn, hmn⟩ : ∃ mn, mn = min most n := ⟨_, rfl⟩
  have HMN := hide hmn
  have hmin : ∀ w : World, (Builtin.min_ #[3, 3] 3 #[.int .i64 (most : Int), .int .i64 (n : Int)]).run Try.prog w = .ok (.int .i64 (mn : Int)) w := fun w => by
    rw [run_min_int2]
    congr 2
    split <;> omega
  clear hc hn hv hr hmn
  go_enter Try.func23, Try.ntmps23
  go_wp2_with fail
  go_loopg [5] (mn - 1) (fun gk d ws => ∃ (k q : Nat), gk = mn - k ∧ 1 ≤ k ∧ k ≤ mn ∧ d = .int .i64 (k : Int) ∧ ws = w.drewN q ∧ Hid (Cnt l 0 k v))
  case atStart => exact ⟨1, 0, rfl, by omega, by have := unhide HMN; omega, rfl, rfl, HN⟩
  case round =>
    clear HN
    obtain ⟨k, q, rfl, hk1, hk2, rfl, rfl, hcnt⟩ := hrel
    have hmnn : mn ≤ n := by have := unhide HMN; omega
    by_cases hlt : k < mn
    · have e1 : (k : Int) < (mn : Int) := by omega
      have c1 : w.cell? ⟨b, off + k, none⟩ = some (.int .i64 (l.getD k 0)) := unhide HC k (by have := unhide HLN; omega)
      have e3 : (k : Int) < (n : Int) := by omega
      obtain ⟨y, hy⟩ : ∃ y, y = l.getD k 0 := ⟨_, rfl⟩
      rw [← hy] at c1
      have HY := hide hy
      clear hy
      by_cases hyv : y = v
      · subst hyv
        have HNX := hide ((unhide hcnt).next (by have := unhide HLN; omega) (by rw [Nat.zero_add]; exact (unhide HY).symm))
        go_wp2_with fail
        go_quiet (fail)
        go_wp2_with fail
        go_roundg (mn - (k + 1))
        case measure => omega
        case rel => exact ⟨k + 1, q + nq, rfl, by omega, by omega, by go_num, by simp, HNX⟩
      · have t1 : (y == v) = false := by simpa using hyv
        have HE : Hid (cntRun v l = k) := hide (by
          have := (unhide hcnt).stop (by have := unhide HLN; omega) (by rw [Nat.zero_add, ← unhide HY]; exact hyv)
          simpa using this)
        go_wp2_with fail
        go_quiet (fail)
        go_wp2_with fail
        go_ret
        exact ⟨by rw [unhide HR, unhide HE, Nat.min_eq_right (by have := unhide HMN; omega)]; rfl, _, by simp; rfl⟩
    · have e1 : ¬ (k : Int) < (mn : Int) := by omega
      obtain rfl : k = mn := by omega
      have HE : Hid (r = k) := hide (by
        rw [unhide HR]
        have h1 := unhide HMN
        rcases Nat.lt_or_ge most n with e | e
        · have : k = most := by omega
          have := unhide hcnt
          unfold Cnt at this
          simp only [List.drop_zero] at this
          omega
        · have : k = n := by omega
          have := (unhide hcnt).fin (by have := unhide HLN; omega)
          simp only [List.drop_zero] at this
          omega)
      go_wp2_with fail
      go_quiet (fail)
      go_wp2_with fail
      go_ret
      exact ⟨by rw [unhide HE]; rfl, _, by simp; rfl⟩

def wordI (s : Int) (m x : Nat) : Value := .agg #[.int .i64 s, .int .i64 (m : Int), .int .i64 (x : Int)]

/-- a step: the symbol, what goes with it and in how many bits, how many it stands for -/
def stepW (l : List Int) (again : Bool) : Int × Nat × Nat × Nat :=
  if l.getD 0 0 = 0 ∧ 11 ≤ cntRun (l.getD 0 0) l then (18, min (cntRun (l.getD 0 0) l) 138 - 11, 7, min (cntRun (l.getD 0 0) l) 138)
  else if l.getD 0 0 = 0 ∧ 3 ≤ cntRun (l.getD 0 0) l then (17, cntRun (l.getD 0 0) l - 3, 3, cntRun (l.getD 0 0) l)
  else if 0 < l.getD 0 0 ∧ again = true ∧ 3 ≤ cntRun (l.getD 0 0) l then (16, min (cntRun (l.getD 0 0) l) 6 - 3, 2, min (cntRun (l.getD 0 0) l) 6)
  else (l.getD 0 0, 0, 0, 1)

theorem below_q {B : Nat} {a w : World} (h : Below B a w) (n : Nat) : Below B a (w.drewN n) := ⟨h.os, h.tape, h.output, h.size, h.block⟩

theorem results_ct {fn : Func} {a b : Tmp} {ty : TypeId} (h : fn.results = #[.cell a ty, .tmp b]) (tmps : Array Value) (P : Program) (w : World) :
    (results fn tmps).run P w = ((asAddr (tmps.getD a undef)).run P w).andThen fun ad w₁ => ((loadVar ty ad).run P w₁).andThen fun v w₂ => .ok (.tuple #[v, tmps.getD b undef]) w₂ := by
  simp only [results, h]
  simp [Sem.run_bind, Result.andThen]

set_option maxHeartbeats 2000000 in
theorem firstRun_ok (l : List Int) (again : Bool) (b off cap : Nat) (w : World) (hl : 0 < l.length) (hl2 : l.length ≤ 100000000000000) (hc : ∀ j, j < l.length → w.cell? ⟨b, off + j, none⟩ = some (.int .i64 (l.getD j 0))) :
    Calls Try.prog 20 #[.slice (some ⟨b, off, none⟩) l.length cap, .bool again] w fun e w' => e = .returned (.tuple #[wordI (stepW l again).1 (stepW l again).2.1 (stepW l again).2.2.1, .int .i64 ((stepW l again).2.2.2 : Int)]) ∧ Below w.heap.size w w' := by
  have c0 := hc 0 hl
  simp only [Nat.add_zero] at c0
  have c1 : ∀ o : Obj, (w.alloc o).cell? ⟨b, off, none⟩ = some (.int .i64 (l.getD 0 0)) := fun o => cell_stays ((Below.refl _ _).alloc (Nat.le_refl _) o) c0
  have HA : Hid (∀ most W, Below w.heap.size w W → 1 ≤ most → most ≤ 1000 → Calls Try.prog 23 #[.slice (some ⟨b, off, none⟩) l.length cap, .int .i64 ((most : Nat) : Int)] W fun e w' => e = .returned (.int .i64 ((min most (cntRun (l.getD 0 0) l) : Nat) : Int)) ∧ ∃ q', w' = W.drewN q') := hide fun most W hb h1 h2 => alike_ok l most b off cap W hl hl2 h1 h2 (fun j hj => cell_stays hb (hc j hj))
  have h1c : 1 ≤ cntRun (l.getD 0 0) l := by have := cnt_pos l 0 hl; simpa using this
  unfold stepW wordI
  obtain ⟨n, hn⟩ : ∃ n, n = l.length := ⟨_, rfl⟩
  rw [← hn] at hl hl2 HA ⊢
  generalize cntRun (l.getD 0 0) l = c at HA h1c ⊢
  generalize l.getD 0 0 = v at c1 HA ⊢
  clear c0
  clear hn hc
  have HST : Hid (∀ W : World, Below w.heap.size w W → W.heap[w.heap.size]? = some (.cells #[.int .i64 0, .int .i64 0, .int .i64 0] 34 (0, 0)) → W.cell? ⟨w.heap.size, 0, none⟩ = some (.int .i64 0) ∧ W.cell? ⟨w.heap.size, 1, none⟩ = some (.int .i64 0) ∧ W.cell? ⟨w.heap.size, 2, none⟩ = some (.int .i64 0) ∧ ∀ o, W.frozen? ⟨w.heap.size, o, none⟩ = false) := hide fun W _ c3 => ⟨by simp only [World.cell?, c3]; rfl, by simp only [World.cell?, c3]; rfl, by simp only [World.cell?, c3]; rfl, fun o => by simp [World.frozen?, c3]⟩
  obtain ⟨W1, hW1⟩ : ∃ W1, W1 = w.alloc (.cells #[.int .i64 0, .int .i64 0, .int .i64 0] 34) := ⟨_, rfl⟩
  have HB1 : Hid (Below w.heap.size w W1) := hide (by rw [hW1]; exact (Below.refl _ _).alloc (by simp) _)
  have HX1 : Hid (W1.heap[w.heap.size]? = some (.cells #[.int .i64 0, .int .i64 0, .int .i64 0] 34 (0, 0))) := hide (by rw [hW1]; exact heap_alloc_new _ _)
  obtain ⟨d0, d1, d2, f0⟩ := unhide HST W1 (unhide HB1) (unhide HX1)
  have c2 := c1 (.cells #[.int .i64 0, .int .i64 0, .int .i64 0] 34)
  rw [← hW1] at c2
  by_cases hv : v = 0
  · subst hv
    by_cases h11 : 11 ≤ c
    ·
      rw [if_pos ⟨rfl, h11⟩]
      have e1 : ((min 138 c : Nat) : Int) = ((min c 138 : Nat) : Int) := by omega
      have e2 : ((min c 138 - 11 : Nat) : Int) = ((min c 138 : Nat) : Int) - 11 := by omega
      rw [e2]
      obtain ⟨t, ht⟩ : ∃ t, t = min c 138 := ⟨_, rfl⟩
      rw [← ht]
      have t1 : (11 : Int) ≤ (t : Int) := by omega
      have t2 : (t : Int) ≤ 138 := by omega
      have HC := hide (unhide HA 138 W1 (unhide HB1) (by decide) (by decide))
      rw [e1, ← ht] at HC
      clear HA e1 e2 ht h11
      go_enter Try.func20, Try.ntmps20
      go_wp2_with fail
      rw [← hW1]
      clear hW1
      refine (unhide HC).mono ?_
      rintro e W2 ⟨rfl, q, rfl⟩
      go_wp2_with fail
      refine bodyPost_ret (v := .tuple #[.agg #[.int .i64 18, .int .i64 ((t : Int) - 11), .int .i64 7], .int .i64 (t : Int)]) ?_ rfl ⟨rfl, (((below_q (unhide HB1) q).setCell (Nat.le_refl _) _).setCell (Nat.le_refl _) _).setCell (Nat.le_refl _) _⟩
      rw [results_ct rfl]
      go_simp
    · by_cases h3 : 3 ≤ c
      ·
        rw [if_neg (fun h => h11 h.2), if_pos ⟨rfl, h3⟩]
        have e1 : ((min 138 c : Nat) : Int) = (c : Int) := by omega
        have e2 : ((c - 3 : Nat) : Int) = (c : Int) - 3 := by omega
        rw [e2]
        have t1 : ¬ (11 : Int) ≤ (c : Int) := by omega
        have t2 : (3 : Int) ≤ (c : Int) := by omega
        have t3 : (c : Int) ≤ 138 := by omega
        have HC := hide (unhide HA 138 W1 (unhide HB1) (by decide) (by decide))
        rw [e1] at HC
        clear HA e1 e2 h11 h3
        go_enter Try.func20, Try.ntmps20
        go_wp2_with fail
        rw [← hW1]
        clear hW1
        refine (unhide HC).mono ?_
        rintro e W2 ⟨rfl, q, rfl⟩
        go_wp2_with fail
        refine bodyPost_ret (v := .tuple #[.agg #[.int .i64 17, .int .i64 ((c : Int) - 3), .int .i64 3], .int .i64 (c : Int)]) ?_ rfl ⟨rfl, (((below_q (unhide HB1) q).setCell (Nat.le_refl _) _).setCell (Nat.le_refl _) _).setCell (Nat.le_refl _) _⟩
        rw [results_ct rfl]
        go_simp
      ·
        rw [if_neg (fun h => h11 h.2), if_neg (fun h => h3 h.2), if_neg (fun h => by omega)]
        have e1 : ((min 138 c : Nat) : Int) = (c : Int) := by omega
        have t1 : ¬ (11 : Int) ≤ (c : Int) := by omega
        have t2 : ¬ (3 : Int) ≤ (c : Int) := by omega
        have HC := hide (unhide HA 138 W1 (unhide HB1) (by decide) (by decide))
        rw [e1] at HC
        clear HA e1 h11 h3
        go_enter Try.func20, Try.ntmps20
        go_wp2_with fail
        rw [← hW1]
        clear hW1
        refine (unhide HC).mono ?_
        rintro e W2 ⟨rfl, q, rfl⟩
        go_wp2_with fail
        refine bodyPost_ret (v := .tuple #[.agg #[.int .i64 0, .int .i64 0, .int .i64 0], .int .i64 1]) ?_ rfl ⟨rfl, (((below_q (unhide HB1) q).setCell (Nat.le_refl _) _).setCell (Nat.le_refl _) _).setCell (Nat.le_refl _) _⟩
        rw [results_ct rfl]
        go_simp
  · have hv0 : (v == 0) = false := by simpa using hv
    by_cases hp : 0 < v
    · cases again with
      | true =>
        by_cases h3 : 3 ≤ c
        ·
          rw [if_neg (fun h => hv h.1), if_neg (fun h => hv h.1), if_pos ⟨hp, rfl, h3⟩]
          have e1 : ((min 6 c : Nat) : Int) = ((min c 6 : Nat) : Int) := by omega
          have e2 : ((min c 6 - 3 : Nat) : Int) = ((min c 6 : Nat) : Int) - 3 := by omega
          rw [e2]
          obtain ⟨t, ht⟩ : ∃ t, t = min c 6 := ⟨_, rfl⟩
          rw [← ht]
          have t1 : (3 : Int) ≤ (t : Int) := by omega
          have t2 : (t : Int) ≤ 6 := by omega
          have HC := hide (unhide HA 6 W1 (unhide HB1) (by decide) (by decide))
          rw [e1, ← ht] at HC
          clear HA e1 e2 ht h3
          go_enter Try.func20, Try.ntmps20
          go_wp2_with fail
          rw [← hW1]
          clear hW1
          refine (unhide HC).mono ?_
          rintro e W2 ⟨rfl, q, rfl⟩
          go_wp2_with fail
          refine bodyPost_ret (v := .tuple #[.agg #[.int .i64 16, .int .i64 ((t : Int) - 3), .int .i64 2], .int .i64 (t : Int)]) ?_ rfl ⟨rfl, (((below_q (unhide HB1) q).setCell (Nat.le_refl _) _).setCell (Nat.le_refl _) _).setCell (Nat.le_refl _) _⟩
          rw [results_ct rfl]
          go_simp
        ·
          rw [if_neg (fun h => hv h.1), if_neg (fun h => hv h.1), if_neg (fun h => h3 h.2.2)]
          have e1 : ((min 6 c : Nat) : Int) = (c : Int) := by omega
          have t1 : ¬ (3 : Int) ≤ (c : Int) := by omega
          have HC := hide (unhide HA 6 W1 (unhide HB1) (by decide) (by decide))
          rw [e1] at HC
          clear HA e1 h3
          go_enter Try.func20, Try.ntmps20
          go_wp2_with fail
          rw [← hW1]
          clear hW1
          refine (unhide HC).mono ?_
          rintro e W2 ⟨rfl, q, rfl⟩
          go_wp2_with fail
          refine bodyPost_ret (v := .tuple #[.agg #[.int .i64 v, .int .i64 0, .int .i64 0], .int .i64 1]) ?_ rfl ⟨rfl, (((below_q (unhide HB1) q).setCell (Nat.le_refl _) _).setCell (Nat.le_refl _) _).setCell (Nat.le_refl _) _⟩
          rw [results_ct rfl]
          go_simp
      | false =>
        rw [if_neg (fun h => hv h.1), if_neg (fun h => hv h.1), if_neg (fun h => by cases h.2.1)]
        clear HA
        clear hW1
        go_enter Try.func20, Try.ntmps20
        go_wp2_with fail
        refine bodyPost_ret (v := .tuple #[.agg #[.int .i64 v, .int .i64 0, .int .i64 0], .int .i64 1]) ?_ rfl ⟨rfl, (Below.refl _ _).alloc (Nat.le_refl _) _⟩
        rw [results_ct rfl]
        go_simp
    ·
      rw [if_neg (fun h => hv h.1), if_neg (fun h => hv h.1), if_neg (fun h => hp h.1)]
      clear HA
      clear hW1
      go_enter Try.func20, Try.ntmps20
      go_wp2_with fail
      refine bodyPost_ret (v := .tuple #[.agg #[.int .i64 v, .int .i64 0, .int .i64 0], .int .i64 1]) ?_ rfl ⟨rfl, (Below.refl _ _).alloc (Nat.le_refl _) _⟩
      rw [results_ct rfl]
      go_simp

end Go.Proofs.Ytabeanealkopbaa
