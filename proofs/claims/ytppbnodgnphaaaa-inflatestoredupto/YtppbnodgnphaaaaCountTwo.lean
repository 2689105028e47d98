/- What New's first calls tell: countWords, full, bare, fit. -/
import Derived.Test.YtppbnodgnphaaaaCount
namespace Go.Proofs.Ytppbnodgnphaaaa
open Go.RowKit
set_option maxRecDepth 100000
set_option linter.unusedVariables false

set_option maxRecDepth 100000 in
set_option maxHeartbeats 1000000 in
theorem counts_ok (v : Value) (zs : List Int) (M : Nat) (w : World) (hr : ReadsI w v zs) (hn : zs.length ≤ 65536) (hz : ∀ z ∈ zs, okLen (M : Int) z) (hM : M ≤ 20) :
    Calls Try.prog 57 #[v, .int .i64 (M : Int)] w fun e w' => ∃ g, e = .returned (.slice (some ⟨g, 0, none⟩) (M + 1) (M + 1)) ∧ w.heap.size ≤ g ∧ IntsAt w' .i64 3 g (M + 1) (Canon.cn (nat zs)) ∧ Below w.heap.size w w' := by
  have hmk := ints_made w (M + 1) (by omega)
  rw [show ((M + 1 : Nat) : Int) = (M : Int) + 1 by omega] at hmk
  have HR := hide hr
  clear hr
  go_enter Try.func57, Try.ntmps57
  go_wp2_with fail
  refine (each_count w v zs M _ w.heap.size (M + 1) _ (unhide HR) hn hz hM ?_ ?_ (Nat.le_refl _) ?_ ?_ ?_).mono ?_
  · exact (((Below.refl _ _).alloc (Nat.le_refl _) _).alloc (by simp) _)
  · simp
  · simp
  · have h1 : ((w.alloc (.cells (icells .i64 (M + 1) fun _ => 0) 3)).alloc (.cells #[.slice (some ⟨w.heap.size, 0, none⟩) (M + 1) (M + 1)] 35)).heap[w.heap.size + 1]? = some (.cells #[.slice (some ⟨w.heap.size, 0, none⟩) (M + 1) (M + 1)] 35 (0, 0)) := by
      rw [show w.heap.size + 1 = (w.alloc (.cells (icells .i64 (M + 1) fun _ => 0) 3)).heap.size by simp]
      exact heap_alloc_new _ _
    simp only [World.cell?, h1]
    rfl
  · exact IntsAt.alloc (show IntsAt _ _ _ _ _ _ from heap_alloc_new w _) _
  · rintro e w' ⟨rfl, h1, h2, h3⟩
    have H1 := hide h1
    have H3 := hide h3
    clear h1 h3
    go_wp2_with fail
    go_ret
    exact ⟨w.heap.size, rfl, Nat.le_refl _, unhide H1, unhide H3⟩

def fullB (ls : List Nat) (M : Nat) : Bool := decide (Canon.fst ls M + Canon.cn ls M = 2 ^ M)

/-- how much room is left of 2^l words -/
theorem fst_bound (ls : List Nat) (h : ∀ l ∈ ls, l ≤ 20) (hn : ls.length ≤ 65536) (l : Nat) (hl : l ≤ 20) : Canon.fst ls l + Canon.cn ls l ≤ 34359738368 := by
  have h1 := Canon.fst_kr ls l hl
  have h2 := Canon.kr_mono ls (show l + 1 ≤ 21 by omega)
  rw [Canon.kr, ← h1, ← Nat.add_mul] at h2
  have hp : 0 < 2 ^ (20 - l) := Nat.two_pow_pos _
  have h3 : Canon.fst ls l + Canon.cn ls l ≤ (Canon.fst ls l + Canon.cn ls l) * 2 ^ (20 - l) := Nat.le_mul_of_pos_right _ hp
  have h4 := sum_words ls h ls.length (Nat.le_refl _)
  rw [List.take_length] at h4
  have h5 : words ls ≤ ls.length := by unfold words; exact List.length_filter_le _ _
  unfold Canon.sum at h4
  have h6 : words ls * 524288 ≤ 65536 * 524288 := Nat.mul_le_mul_right _ (by omega)
  omega

set_option maxRecDepth 100000 in
set_option maxHeartbeats 1000000 in
theorem full_ok (ls : List Nat) (M g : Nat) (w : World) (h20 : ∀ l ∈ ls, l ≤ 20) (hn : ls.length ≤ 65536) (hM : M ≤ 20) (hM0 : ¬ M = 0) (hrow : IntsAt w .i64 3 g (M + 1) (Canon.cn ls)) :
    Calls Try.prog 58 #[.slice (some ⟨g, 0, none⟩) (M + 1) (M + 1)] w fun e w' => e = .returned (.bool (fullB ls M)) ∧ w' = w := by
  have HF := hide (fst_bound ls h20 hn)
  have HROW := hide hrow
  clear hrow
  go_enter Try.func58, Try.ntmps58
  go_wp2_with fail
  go_loopg [3, 9] M (fun gk r d ws => ∃ (k : Nat), gk = M - k ∧ k ≤ M ∧ r = .int .i64 (((2 ^ k : Nat) : Int) - ((Canon.fst ls k + Canon.cn ls k : Nat) : Int)) ∧ d = .int .i64 (k : Int) ∧ ws = w)
  case atStart => exact ⟨0, by omega, by omega, by simp [Canon.fst, Canon.cn], rfl, rfl⟩
  case round =>
    obtain ⟨k, rfl, hk, rfl, rfl, rfl⟩ := hrel
    by_cases hlt : k < M
    · have k1 := (unhide HROW).cell (1 + k) (by omega)
      have f1 := unhide HF k (by omega)
      have f2 := unhide HF (k + 1) (by omega)
      have p1 : 2 ^ k ≤ 2 ^ 20 := Nat.pow_le_pow_right (by decide) (by omega)
      have p2 : 2 ^ (k + 1) = 2 * 2 ^ k := by rw [Nat.pow_succ]; omega
      have e1 : Canon.fst ls (k + 1) = (Canon.fst ls k + Canon.cn ls k) * 2 := rfl
      obtain ⟨P, hP⟩ : ∃ P, P = 2 ^ k := ⟨_, rfl⟩
      obtain ⟨P', hP'⟩ : ∃ P', P' = 2 ^ (k + 1) := ⟨_, rfl⟩
      obtain ⟨X, hX⟩ : ∃ X, X = Canon.fst ls k + Canon.cn ls k := ⟨_, rfl⟩
      obtain ⟨X', hX'⟩ : ∃ X', X' = Canon.fst ls (k + 1) + Canon.cn ls (k + 1) := ⟨_, rfl⟩
      obtain ⟨c, hc⟩ : ∃ c, c = Canon.cn ls (k + 1) := ⟨_, rfl⟩
      rw [show 1 + k = k + 1 by omega, ← hc] at k1
      rw [show k + 1 = 1 + k by omega] at k1
      rw [← hP] at p1 p2 ⊢
      rw [← hP'] at p2
      rw [← hX] at f1 e1 ⊢
      have hc2 : X' = X * 2 + c := by rw [hX', e1, hc]
      rw [← hX'] at f2
      have hki : (k : Int) < (M : Int) := by omega
      have HP := hide hP'
      have HX := hide hX'
      clear hP hP' hX hX' hc e1
      have hr : 2 * ((P : Int) - (X : Int)) - (c : Int) = (P' : Int) - (X' : Int) := by omega
      have HP20 := hide p1
      go_wp2_with fail
      go_roundg (M - (k + 1))
      case measure => omega
      case rel => exact ⟨k + 1, rfl, by omega, by rw [← unhide HP, ← unhide HX]; congr 1; omega, by go_num, rfl⟩
    · obtain rfl : k = M := by omega
      have f1 := unhide HF k (by omega)
      have p1 : 2 ^ k ≤ 2 ^ 20 := Nat.pow_le_pow_right (by decide) (by omega)
      obtain ⟨P, hP⟩ : ∃ P, P = 2 ^ k := ⟨_, rfl⟩
      obtain ⟨X, hX⟩ : ∃ X, X = Canon.fst ls k + Canon.cn ls k := ⟨_, rfl⟩
      have HE : Hid (X = P ↔ Canon.fst ls k + Canon.cn ls k = 2 ^ k) := hide (by rw [hP, hX])
      rw [← hP, ← hX]
      clear hP hX
      by_cases e : X = P
      · have e1 : (((P : Int) - (X : Int)) == 0) = true := by simp; omega
        go_wp2_with fail
        go_ret
        exact ⟨by rw [show fullB ls k = true from decide_eq_true ((unhide HE).1 e)]; rfl, rfl⟩
      · have e1 : (((P : Int) - (X : Int)) == 0) = false := by simp; omega
        go_wp2_with fail
        go_ret
        exact ⟨by rw [show fullB ls k = false from decide_eq_false (fun h => e ((unhide HE).2 h))]; rfl, rfl⟩

/-- full, by the room that is left and by the sum -/
theorem full_iff (ls : List Nat) (M : Nat) (h : ∀ l ∈ ls, l ≤ M) (hM : M ≤ 20) : Canon.fst ls M + Canon.cn ls M = 2 ^ M ↔ Canon.sum ls = 1048576 := by
  have hk : ∀ d, M + 1 + d ≤ 21 → Canon.kr ls (M + 1 + d) = Canon.kr ls (M + 1) := by
    intro d
    induction d with
    | zero => intro _; rfl
    | succ d ih =>
      intro h2
      rw [show M + 1 + (d + 1) = (M + 1 + d) + 1 by omega, Canon.kr, ih (by omega)]
      have : Canon.cn ls (M + 1 + d) = 0 := by
        unfold Canon.cn
        rw [if_neg (by omega)]
        refine List.count_eq_zero.2 fun hm => ?_
        have := h _ hm
        omega
      rw [this]; omega
  have e : Canon.sum ls = (Canon.fst ls M + Canon.cn ls M) * 2 ^ (20 - M) := by
    have h21 := hk (20 - M) (by omega)
    rw [show M + 1 + (20 - M) = 21 by omega] at h21
    rw [Canon.sum, h21, Canon.kr, ← Canon.fst_kr ls M hM, Nat.add_mul]
  have hp : 0 < 2 ^ (20 - M) := Nat.two_pow_pos _
  rw [e, show 1048576 = 2 ^ M * 2 ^ (20 - M) by rw [← Nat.pow_add, show M + (20 - M) = 20 by omega]]
  exact ⟨fun h => by rw [h], fun h => Nat.eq_of_mul_eq_mul_right hp h⟩

def bareB (ls : List Nat) : Bool := decide (words ls = 0 ∨ words ls = 1 ∧ ls.count 1 = 1)
theorem bareB_yes {ls : List Nat} (h : words ls = 0 ∨ words ls = 1 ∧ ls.count 1 = 1) : bareB ls = true := decide_eq_true h
theorem bareB_no {ls : List Nat} (h : ¬ (words ls = 0 ∨ words ls = 1 ∧ ls.count 1 = 1)) : bareB ls = false := decide_eq_false h

def tot (ls : List Nat) : Nat → Nat
  | 0 => 0
  | m + 1 => tot ls m + Canon.cn ls m

theorem tot_cons (x : Nat) (ls : List Nat) : ∀ m, tot (x :: ls) m = tot ls m + (if 0 < x ∧ x < m then 1 else 0)
  | 0 => by simp [tot]
  | m + 1 => by
    rw [tot, tot, tot_cons x ls m]
    have hc : Canon.cn (x :: ls) m = Canon.cn ls m + (if 0 < x ∧ x = m then 1 else 0) := by
      unfold Canon.cn
      by_cases h0 : m = 0
      · rw [if_pos h0, if_pos h0, if_neg (by omega)]
      · rw [if_neg h0, if_neg h0, List.count_cons]
        by_cases e : x = m
        · subst e; simp [show 0 < x by omega]
        · simp [e]
    rw [hc]
    by_cases e : x = m
    · by_cases h0 : 0 < x
      · rw [if_neg (by omega), if_pos (by omega), if_pos (by omega)]; omega
      · rw [if_neg (by omega), if_neg (by omega), if_neg (by omega)]; omega
    · by_cases h1 : 0 < x ∧ x < m
      · rw [if_pos h1, if_neg (by omega), if_pos (by omega)]; omega
      · rw [if_neg h1, if_neg (by omega), if_neg (by omega)]; omega

theorem tot_nil : ∀ m, tot [] m = 0
  | 0 => rfl
  | m + 1 => by rw [tot, tot_nil m]; simp [Canon.cn]

theorem tot_words : ∀ (ls : List Nat) (M : Nat), (∀ l ∈ ls, l ≤ M) → tot ls (M + 1) = words ls
  | [], M, _ => by rw [tot_nil]; rfl
  | x :: ls, M, h => by
    rw [tot_cons, tot_words ls M (fun l hl => h l (List.mem_cons_of_mem _ hl))]
    have := h x (by simp)
    unfold words
    by_cases h0 : 0 < x
    · rw [if_pos (by omega), List.filter_cons_of_pos (by simpa using h0)]; simp
    · rw [if_neg (by omega), List.filter_cons_of_neg (by simpa using h0)]; omega

theorem tot_le (ls : List Nat) (hn : ls.length ≤ 65536) : ∀ m, m ≤ 21 → tot ls m ≤ m * 65536
  | 0, _ => by simp [tot]
  | m + 1, h => by
    have := tot_le ls hn m (by omega)
    have h2 := cn_take_le ls ls.length m
    rw [List.take_length] at h2
    rw [tot]; omega

set_option maxRecDepth 100000 in
set_option maxHeartbeats 1000000 in
theorem bare_ok (ls : List Nat) (M g : Nat) (w : World) (hm : ∀ l ∈ ls, l ≤ M) (hn : ls.length ≤ 65536) (hM : M ≤ 20) (hM0 : ¬ M = 0) (hrow : IntsAt w .i64 3 g (M + 1) (Canon.cn ls)) :
    Calls Try.prog 59 #[.slice (some ⟨g, 0, none⟩) (M + 1) (M + 1)] w fun e w' => e = .returned (.bool (bareB ls)) ∧ w' = w := by
  have HROW := hide hrow
  have HT := hide (tot_le ls hn)
  have HW := hide (tot_words ls M hm)
  clear hrow hm
  go_enter Try.func59, Try.ntmps59
  go_wp2_with fail
  go_loopg [3, 8] (M + 1) (fun gk r d ws => ∃ (k : Nat), gk = M + 1 - k ∧ k ≤ M + 1 ∧ r = .int .i64 (tot ls k : Int) ∧ d = .int .i64 (k : Int) ∧ ws = w)
  case atStart => exact ⟨0, by omega, by omega, rfl, rfl, rfl⟩
  case round =>
    obtain ⟨k, rfl, hk, rfl, rfl, rfl⟩ := hrel
    by_cases hlt : k < M + 1
    · have k1 := (unhide HROW).cell k hlt
      have t1 := unhide HT (k + 1) (by omega)
      have t2 : tot ls (k + 1) = tot ls k + Canon.cn ls k := rfl
      obtain ⟨x, hx⟩ : ∃ x, x = tot ls k := ⟨_, rfl⟩
      obtain ⟨x', hx'⟩ : ∃ x', x' = tot ls (k + 1) := ⟨_, rfl⟩
      obtain ⟨c, hc⟩ : ∃ c, c = Canon.cn ls k := ⟨_, rfl⟩
      rw [← hx, ← hx', ← hc] at t2
      rw [← hx'] at t1
      replace t1 : x' ≤ 2000000 := by omega
      rw [← hc] at k1
      rw [← hx]
      have HX := hide hx'
      have HRR : Hid ((x : Int) + (c : Int) = (x' : Int)) := hide (by omega)
      have bx : x ≤ 2000000 := by omega
      have bc : c ≤ 2000000 := by omega
      have hki : (k : Int) < (M : Int) + 1 := by omega
      clear hx hx' hc t1 t2
      go_wp2_with fail
      go_roundg (M + 1 - (k + 1))
      case measure => omega
      case rel => exact ⟨k + 1, rfl, by omega, by rw [← unhide HX, ← unhide HRR], by go_num, rfl⟩
    · obtain rfl : k = M + 1 := by omega
      have k1 := (unhide HROW).cell 1 (by omega)
      have HC1 : Canon.cn ls 1 = ls.count 1 := by simp [Canon.cn]
      rw [HC1] at k1
      rw [unhide HW]
      have hki : ¬ ((M + 1 : Nat) : Int) < (M : Int) + 1 := by omega
      obtain ⟨x, hx⟩ : ∃ x, x = words ls := ⟨_, rfl⟩
      obtain ⟨c, hc⟩ : ∃ c, c = ls.count 1 := ⟨_, rfl⟩
      rw [← hc] at k1
      rw [← hx]
      have HE : Hid ((x = 0 ∨ x = 1 ∧ c = 1) ↔ (words ls = 0 ∨ words ls = 1 ∧ ls.count 1 = 1)) := hide (by rw [hx, hc])
      clear hx hc HC1
      by_cases c1 : x = 0
      · have f1 : ((x : Int) == 0) = true := by simp; omega
        have HR := hide (bareB_yes ((unhide HE).1 (.inl c1)))
        clear c1
        go_wp2_with fail
        go_ret
        exact ⟨by rw [unhide HR]; rfl, rfl⟩
      · have f1 : ((x : Int) == 0) = false := by simp; omega
        by_cases c2 : x = 1
        · have f2 : ((x : Int) == 1) = true := by simp; omega
          by_cases c3 : c = 1
          · have f3 : ((c : Int) == 1) = true := by simp; omega
            have HR := hide (bareB_yes ((unhide HE).1 (.inr ⟨c2, c3⟩)))
            clear c1 c2 c3
            go_wp2_with fail
            go_ret
            exact ⟨by rw [unhide HR]; rfl, rfl⟩
          · have f3 : ((c : Int) == 1) = false := by simp; omega
            have HR := hide (bareB_no (fun h => absurd ((unhide HE).2 h) (by omega)))
            clear c1 c2 c3
            go_wp2_with fail
            go_ret
            exact ⟨by rw [unhide HR]; rfl, rfl⟩
        · have f2 : ((x : Int) == 1) = false := by simp; omega
          have HR := hide (bareB_no (fun h => absurd ((unhide HE).2 h) (by omega)))
          clear c1 c2
          go_wp2_with fail
          go_ret
          exact ⟨by rw [unhide HR]; rfl, rfl⟩

def fitB (most : Int) (zs : List Int) : Bool := decide (∀ z ∈ zs, 0 ≤ z ∧ z ≤ most)

set_option maxHeartbeats 4000000 in
theorem fit_args (a : Option Addr) (n cap : Nat) (most : Int) (w : World) (h : ¬ okArgs n most) :
    Calls Try.prog 56 #[.slice a n cap, .int .i64 most] w fun e w' => e = .returned (.bool false) ∧ w' = w := by
  by_cases h1 : most < 1
  · clear h
    go_enter Try.func56, Try.ntmps56
    go_wp2_with fail
    go_ret
    exact ⟨rfl, rfl⟩
  · by_cases h2 : 20 < most
    · clear h
      go_enter Try.func56, Try.ntmps56
      go_wp2_with fail
      go_ret
      exact ⟨rfl, rfl⟩
    · by_cases h3 : (n : Int) < 1
      · clear h
        go_enter Try.func56, Try.ntmps56
        go_wp2_with fail
        go_ret
        exact ⟨rfl, rfl⟩
      · have h4 : (65536 : Int) < (n : Int) := by unfold okArgs at h; omega
        clear h
        go_enter Try.func56, Try.ntmps56
        go_wp2_with fail
        go_ret
        exact ⟨rfl, rfl⟩

set_option maxRecDepth 100000 in
set_option maxHeartbeats 1000000 in
theorem fit_good (v : Value) (zs : List Int) (most : Int) (w : World) (hr : ReadsI w v zs) (hok : okArgs zs.length most) :
    Calls Try.prog 56 #[v, .int .i64 most] w fun e w' => e = .returned (.bool (fitB most zs)) ∧ w' = w := by
  obtain ⟨a, cap, rfl, hsp⟩ := hr
  obtain ⟨h1, h2, h3, h4⟩ := hok
  obtain ⟨n, hn⟩ : ∃ n, n = zs.length := ⟨_, rfl⟩
  have HSP := hide hsp
  rw [← hn] at h3 h4 HSP ⊢
  have HN := hide hn
  clear hsp hn
  have g1 : ¬ most < 1 := by omega
  have g2 : ¬ 20 < most := by omega
  have g3 : ¬ (n : Int) < 1 := by omega
  have g4 : ¬ (65536 : Int) < (n : Int) := by omega
  go_enter Try.func56, Try.ntmps56
  go_wp2_with fail
  go_loopg [25] n (fun gk d ws => ∃ (k : Nat), gk = n - k ∧ k ≤ n ∧ (∀ j, j < k → okLen most (zs.getD j 0)) ∧ d = .int .i64 (k : Int) ∧ ws = w)
  case atStart => exact ⟨0, by omega, by omega, fun j h => by omega, rfl, rfl⟩
  case round =>
    obtain ⟨k, rfl, hk, hgood, rfl, rfl⟩ := hrel
    by_cases hlt : k < n
    · obtain ⟨b, off, rfl, hcell⟩ := unhide HSP (by omega)
      have hlz : k < zs.length := by rw [← unhide HN]; exact hlt
      obtain ⟨z, hz⟩ : ∃ z, z = zs.getD k 0 := ⟨_, rfl⟩
      have hcc := hcell k (by first | exact hlz | omega)
      rw [← hz] at hcc
      have hki : (k : Int) < (n : Int) := by omega
      by_cases hbad : okLen most z
      · obtain ⟨hz0, hzm⟩ := hbad
        have HGOOD : Hid (∀ j, j < k + 1 → okLen most (zs.getD j 0)) := hide fun j hj => by
          by_cases e : j = k
          · rw [e, ← hz]; exact ⟨hz0, hzm⟩
          · exact hgood j (by omega)
        have e0 : ¬ z < 0 := by omega
        have e1 : ¬ most < z := by omega
        clear hcell hz hlz hgood
        go_wp2_with fail
        go_roundg (n - (k + 1))
        case measure => omega
        case rel => exact ⟨k + 1, rfl, by omega, unhide HGOOD, by go_num, rfl⟩
      · have HBAD : Hid (fitB most zs = false) := hide (decide_eq_false fun h => hbad (by
          rw [hz]
          have : zs.getD k 0 ∈ zs := by rw [List.getD_eq_getElem?_getD, List.getElem?_eq_getElem hlz]; exact List.getElem_mem _
          exact h _ this))
        by_cases e0 : z < 0
        · clear hcell hz hlz hgood hbad hlt hk
          go_wp2_with fail
          go_ret
          exact ⟨by rw [unhide HBAD]; rfl, rfl⟩
        · have e1 : most < z := by unfold okLen at hbad; omega
          clear hcell hz hlz hgood hbad hlt hk
          go_wp2_with fail
          go_ret
          exact ⟨by rw [unhide HBAD]; rfl, rfl⟩
    · obtain rfl : k = n := by omega
      have HALL : Hid (fitB most zs = true) := hide (decide_eq_true fun z hz => by
        obtain ⟨j, hj, rfl⟩ := List.getElem_of_mem hz
        have := hgood j (by rw [unhide HN]; exact hj)
        rw [List.getD_eq_getElem?_getD, List.getElem?_eq_getElem hj] at this
        exact this)
      clear hgood
      go_wp2_with fail
      go_ret
      exact ⟨by rw [unhide HALL]; rfl, rfl⟩

end Go.Proofs.Ytppbnodgnphaaaa
