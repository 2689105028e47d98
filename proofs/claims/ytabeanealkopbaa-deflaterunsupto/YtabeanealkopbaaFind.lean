/- sort.Search over the program's looks: find, lengthWord, distanceWord, Symbol, Far. -/
import Derived.Test.YtabeanealkopbaaLooks
import Derived.Test.YtabeanealkopbaaSym
namespace Go.Proofs.Ytabeanealkopbaa
open Go.RowKit Infl
set_option maxRecDepth 100000
set_option linter.unusedVariables false

attribute [local go_sem ↓] Go.wp_at_zero Go.wp_at_succ

theorem heap_alloc_at (w : World) (o : Obj) (k : Nat) : (w.alloc o).heap[k]? = if k = w.heap.size then some o else w.heap[k]? := by
  simp only [World.alloc, Array.getElem?_push]

theorem alloc_size (w : World) (o : Obj) : (w.alloc o).heap.size = w.heap.size + 1 := by simp

theorem results_cell {fn : Func} {p : Tmp} {ty : TypeId} (h : fn.results = #[.cell p ty]) (tmps : Array Value) (P : Program) (w : World) :
    (results fn tmps).run P w = ((asAddr (tmps.getD p undef)).run P w).andThen fun a w₁ => (loadVar ty a).run P w₁ := by
  simp only [results, h]
  simp [Sem.run_bind, Result.andThen]

/-- a look at symbols: a least one and how many bits -/
def LookAt (N first last : Nat) (le ex : Nat → Nat) : Prop := ∀ (s : Nat) (w : World), first ≤ s → s ≤ last → Calls Try.prog N #[.int .i64 (s : Int)] w fun e w' => e = .returned (.tuple #[.int .i64 (le s : Int), .int .i64 (ex s : Int), .int .i64 0]) ∧ w' = w

theorem look_lens : LookAt 18 257 285 (fun s => (lenOf s).1) (fun s => (lenOf s).2) := fun s w h1 h2 => by
  have := len_ok (s : Int) w
  unfold lenAns at this
  rwa [if_neg (by omega)] at this

theorem look_dists : LookAt 19 0 29 (fun s => (distOf s).1) (fun s => (distOf s).2) := fun s w h1 h2 => by
  have := dist_ok (s : Int) w
  unfold distAns at this
  rwa [if_neg (by omega)] at this

/-- the test that is sought by -/
def testB (le : Nat → Nat) (first v i : Nat) : Bool := decide (v < le (first + i))

set_option maxHeartbeats 1000000 in
theorem test_len (i : Nat) (hi : 257 + i ≤ 285) (v pf p1 pv : Nat) (w : World) (h1 : w.cell? ⟨pf, 0, none⟩ = some (.func (.func 18) #[] #[])) (h2 : w.cell? ⟨p1, 0, none⟩ = some (.int .i64 257)) (h3 : w.cell? ⟨pv, 0, none⟩ = some (.int .i64 (v : Int))) :
    Calls Try.prog 22 #[.int .i64 (i : Int), .pointer (some ⟨pf, 0, none⟩), .pointer (some ⟨p1, 0, none⟩), .pointer (some ⟨pv, 0, none⟩)] w fun e w' => e = .returned (.bool (testB (fun s => (lenOf s).1) 257 v i)) ∧ w' = w := by
  have HL := hide (look_lens (257 + i) w (by omega) (by omega))
  have e1 : ((257 + i : Nat) : Int) = 257 + (i : Int) := by omega
  rw [e1] at HL
  clear e1
  obtain ⟨b, hb2⟩ : ∃ b, b = testB (fun s => (lenOf s).1) 257 v i := ⟨_, rfl⟩
  have hb3 : decide (v < (lenOf (257 + i)).1) = b := by rw [hb2]; unfold testB; rfl
  rw [← hb2]
  simp only at HL
  generalize (lenOf (257 + i)).1 = l at HL hb3
  generalize (lenOf (257 + i)).2 = x at HL
  have HB3 := hide hb3
  clear hb2 hb3
  go_enter Try.func22, Try.ntmps22
  go_wp2_with fail
  refine (unhide HL).mono ?_
  rintro e w1 ⟨rfl, rfl⟩
  go_wp2_with fail
  go_ret
  exact ⟨by rw [unhide HB3]; rfl, rfl⟩

set_option maxHeartbeats 1000000 in
theorem test_dist (i : Nat) (hi : 0 + i ≤ 29) (v pf p1 pv : Nat) (w : World) (h1 : w.cell? ⟨pf, 0, none⟩ = some (.func (.func 19) #[] #[])) (h2 : w.cell? ⟨p1, 0, none⟩ = some (.int .i64 0)) (h3 : w.cell? ⟨pv, 0, none⟩ = some (.int .i64 (v : Int))) :
    Calls Try.prog 22 #[.int .i64 (i : Int), .pointer (some ⟨pf, 0, none⟩), .pointer (some ⟨p1, 0, none⟩), .pointer (some ⟨pv, 0, none⟩)] w fun e w' => e = .returned (.bool (testB (fun s => (distOf s).1) 0 v i)) ∧ w' = w := by
  have HL := hide (look_dists (i) w (by omega) (by omega))
  obtain ⟨b, hb2⟩ : ∃ b, b = testB (fun s => (distOf s).1) 0 v i := ⟨_, rfl⟩
  have hb3 : decide (v < (distOf (i)).1) = b := by rw [hb2]; unfold testB; simp
  rw [← hb2]
  simp only at HL
  generalize (distOf (i)).1 = l at HL hb3
  generalize (distOf (i)).2 = x at HL
  have HB3 := hide hb3
  clear hb2 hb3
  go_enter Try.func22, Try.ntmps22
  go_wp2_with fail
  refine (unhide HL).mono ?_
  rintro e w1 ⟨rfl, rfl⟩
  go_wp2_with fail
  go_ret
  exact ⟨by rw [unhide HB3]; rfl, rfl⟩

set_option maxHeartbeats 1000000 in
/-- the first place at which a test that stays true is true -/
theorem search_ok (n : Nat) (hn : n ≤ 1000) (p : Nat → Bool) (caps : Array Value) (w : World) (hf : ∀ i, i < n → Calls Try.prog 22 (#[.int .i64 (i : Int)] ++ caps) w fun e w' => e = .returned (.bool (p i)) ∧ w' = w) (hm : ∀ i j, i ≤ j → j < n → p i = true → p j = true) :
    Calls Try.prog 21 #[.int .i64 (n : Int), .func (.func 22) #[] caps] w fun e w' => (∃ k : Nat, e = .returned (.int .i64 (k : Int)) ∧ k ≤ n ∧ (∀ i, i < k → p i = false) ∧ ∀ i, k ≤ i → i < n → p i = true) ∧ w' = w := by
  have HF := hide hf
  have HM := hide hm
  clear hf hm
  go_enter Try.func21, Try.ntmps21
  go_wp2_with fail
  go_loopg [5, 6] n (fun gk iv jv ws => ∃ i j : Nat, gk = j - i ∧ iv = .int .i64 (i : Int) ∧ jv = .int .i64 (j : Int) ∧ i ≤ j ∧ j ≤ n ∧ ws = w ∧ Hid ((∀ t, t < i → p t = false) ∧ ∀ t, j ≤ t → t < n → p t = true))
  case atStart => exact ⟨0, n, rfl, rfl, rfl, by omega, by omega, rfl, fun t h => by omega, fun t h h2 => by omega⟩
  case round =>
    obtain ⟨i, j, rfl, rfl, rfl, hij, hjn, rfl, hp⟩ := hrel
    by_cases hlt : i < j
    · have e1 : (i : Int) < (j : Int) := by omega
      obtain ⟨h, hh⟩ : ∃ h, h = (i + j) / 2 := ⟨_, rfl⟩
      have e2 : ((i : Int) + (j : Int)) / 2 = (h : Int) := by omega
      have hi1 : i ≤ h := by omega
      have hi2 : h < j := by omega
      have HC := hide (unhide HF h (by omega))
      obtain ⟨b, hb⟩ : ∃ b, b = p h := ⟨_, rfl⟩
      rw [← hb] at HC
      have HBB := hide hb
      clear hh hb
      go_wp2_with fail
      refine (unhide HC).mono ?_
      rintro e w1 ⟨rfl, rfl⟩
      cases b with
      | true =>
        go_wp2_with fail
        go_roundg (h - i)
        case measure => omega
        case rel => exact ⟨i, h, rfl, rfl, rfl, by omega, by omega, rfl, (unhide hp).1, fun t h1 h2 => unhide HM h t h1 h2 (unhide HBB).symm⟩
      | false =>
        go_wp2_with fail
        go_roundg (j - (h + 1))
        case measure => omega
        case rel =>
          refine ⟨h + 1, j, rfl, by go_num, rfl, by omega, by omega, rfl, fun t ht => ?_, (unhide hp).2⟩
          cases hc : p t with
          | false => rfl
          | true => have := unhide HM t h (by omega) (by omega) hc; rw [← unhide HBB] at this; cases this
    · have e1 : ¬ (i : Int) < (j : Int) := by omega
      obtain rfl : i = j := by omega
      go_wp2_with fail
      go_ret
      exact ⟨⟨i, rfl, hjn, (unhide hp).1, (unhide hp).2⟩, rfl⟩

/-- what is found -/
structure Found (f : Nat → Nat) (first last v s : Nat) : Prop where
  lo : first ≤ s
  hi : s ≤ last
  le : f s ≤ v
  next : ∀ t, s < t → t ≤ last → v < f t

theorem Found.eq {f : Nat → Nat} {first last v s s' : Nat} (h : Found f first last v s) (h' : Found f first last v s') : s = s' := by
  rcases Nat.lt_trichotomy s s' with e | e | e
  · have := h.next s' e h'.hi; have := h'.le; omega
  · exact e
  · have := h'.next s e h.hi; have := h.le; omega

def wordV (s m x : Nat) : Value := .agg #[.int .i64 (s : Int), .int .i64 (m : Int), .int .i64 (x : Int)]

theorem found_len (v : Nat) (h1 : 3 ≤ v) : Found (fun s => (lenOf s).1) 257 285 v (symL v) := by
  obtain ⟨a, b, c⟩ := down_is (fun s => (lenOf s).1) v 257 (by show (lenOf 257).1 ≤ v; exact h1) 285 (by omega)
  exact ⟨a, down_le _ _ _, b, c⟩

theorem mono_len : ∀ j, j < 29 → ∀ i, i < j + 1 → (lenOf (257 + i)).1 ≤ (lenOf (257 + j)).1 := by decide

set_option maxHeartbeats 2000000 in
theorem find_len (v : Nat) (w : World) (h1 : 3 ≤ v) (h2 : v ≤ 258) :
    Calls Try.prog 17 #[.int .i64 (v : Int), .int .i64 257, .int .i64 285, .func (.func 18) #[] #[]] w fun e w' => e = .returned (wordV (symL v) (v - (lenOf (symL v)).1) (lenOf (symL v)).2) ∧ Below w.heap.size w w' := by
  have HFD := hide (found_len v h1)
  obtain ⟨s, hs⟩ : ∃ s, s = symL v := ⟨_, rfl⟩
  rw [← hs] at HFD ⊢
  clear hs
  have hle : (lenOf s).1 ≤ v := (unhide HFD).le
  have e2 : ((v - (lenOf s).1 : Nat) : Int) = (v : Int) - ((lenOf s).1 : Int) := by omega
  unfold wordV
  rw [e2]
  clear e2
  obtain ⟨le, hl1⟩ : ∃ le, le = (lenOf s).1 := ⟨_, rfl⟩
  obtain ⟨ex, hl2⟩ : ∃ ex, ex = (lenOf s).2 := ⟨_, rfl⟩
  rw [← hl1] at hle ⊢
  rw [← hl2]
  have HL1 := hide hl1
  have HL2 := hide hl2
  clear hl1 hl2
  go_enter Try.func17, Try.ntmps17
  go_wp2_with fail
  generalize hw4 : World.alloc _ _ = w4
  have HB : Hid (Below w.heap.size w w4) := hide (by
    rw [← hw4]
    exact ((((Below.refl _ _).alloc (by simp) _).alloc (by simp) _).alloc (by simp; omega) _).alloc (by simp; omega) _)
  have c0 : w4.cell? ⟨w.heap.size, 0, none⟩ = some (.int .i64 (v : Int)) := by rw [← hw4]; simp only [World.cell?, heap_alloc_at, alloc_size]; (repeat (first | rw [if_pos (by omega)] | rw [if_neg (by omega)])); rfl
  have c1 : w4.cell? ⟨w.heap.size + 1, 0, none⟩ = some (.int .i64 257) := by rw [← hw4]; simp only [World.cell?, heap_alloc_at, alloc_size]; (repeat (first | rw [if_pos (by omega)] | rw [if_neg (by omega)])); rfl
  have c2 : w4.cell? ⟨w.heap.size + 1 + 1, 0, none⟩ = some (.func (.func 18) #[] #[]) := by rw [← hw4]; simp only [World.cell?, heap_alloc_at, alloc_size]; (repeat (first | rw [if_pos (by omega)] | rw [if_neg (by omega)])); rfl
  have c3 : w4.heap[w.heap.size + 1 + 1 + 1]? = some (.cells #[.int .i64 0, .int .i64 0, .int .i64 0] 34 (0, 0)) := by rw [← hw4]; simp only [heap_alloc_at, alloc_size]; rw [if_pos trivial]
  have d0 : w4.cell? ⟨w.heap.size + 1 + 1 + 1, 0, none⟩ = some (.int .i64 0) := by simp only [World.cell?, c3]; rfl
  have d1 : w4.cell? ⟨w.heap.size + 1 + 1 + 1, 1, none⟩ = some (.int .i64 0) := by simp only [World.cell?, c3]; rfl
  have d2 : w4.cell? ⟨w.heap.size + 1 + 1 + 1, 2, none⟩ = some (.int .i64 0) := by simp only [World.cell?, c3]; rfl
  have f0 : ∀ o, w4.frozen? ⟨w.heap.size + 1 + 1 + 1, o, none⟩ = false := fun o => by simp [World.frozen?, c3]
  clear hw4 c3
  have HS := hide (search_ok 29 (by omega) (testB (fun s => (lenOf s).1) 257 v) #[.pointer (some ⟨w.heap.size + 1 + 1, 0, none⟩), .pointer (some ⟨w.heap.size + 1, 0, none⟩), .pointer (some ⟨w.heap.size, 0, none⟩)] w4 (fun i hi => test_len i (by omega) v _ _ _ w4 c2 c1 c0) (fun i j hij hj h => by
    have := mono_len j hj i (by omega)
    unfold testB at h ⊢
    simp only [decide_eq_true_eq] at h ⊢
    omega))
  refine (unhide HS).mono ?_
  rintro e w5 ⟨⟨k, rfl, hk, hk1, hk2⟩, rfl⟩
  have hks : k + 257 = s + 1 := by
    have h0 : 1 ≤ k := by
      rcases Nat.eq_zero_or_pos k with e | e
      · have := hk2 0 (by omega) (by omega)
        unfold testB at this
        simp only [decide_eq_true_eq] at this
        have : (lenOf (257 + 0)).1 = 3 := by decide
        omega
      · exact e
    have hf : Found (fun s => (lenOf s).1) 257 285 v (257 + (k - 1)) := by
      refine ⟨by omega, by omega, ?_, fun t h1 h2 => ?_⟩
      · have := hk1 (k - 1) (by omega)
        unfold testB at this
        simp only [decide_eq_false_iff_not] at this
        show (lenOf (257 + (k - 1))).1 ≤ v
        omega
      · have := hk2 (t - 257) (by omega) (by omega)
        unfold testB at this
        simp only [decide_eq_true_eq] at this
        rw [show 257 + (t - 257) = t by omega] at this
        exact this
    have := hf.eq (unhide HFD)
    omega
  have e1 : (257 : Int) + (k : Int) - 1 = (s : Int) := by omega
  have hk3 : k ≤ 29 := hk
  have HLK := hide (look_lens s w5 (unhide HFD).lo (unhide HFD).hi)
  simp only at HLK
  rw [← unhide HL1, ← unhide HL2] at HLK
  clear hk hk1 hk2 hks HS HFD HL1 HL2
  go_wp2_with fail
  refine (unhide HLK).mono ?_
  rintro e w6 ⟨rfl, rfl⟩
  go_wp2_with fail
  refine bodyPost_ret (v := .agg #[.int .i64 (s : Int), .int .i64 ((v : Int) - (le : Int)), .int .i64 (ex : Int)]) ?_ rfl ⟨rfl, (((unhide HB).setCell (show w.heap.size ≤ w.heap.size + 1 + 1 + 1 by omega) _).setCell (show w.heap.size ≤ w.heap.size + 1 + 1 + 1 by omega) _).setCell (show w.heap.size ≤ w.heap.size + 1 + 1 + 1 by omega) _⟩
  rw [results_cell rfl]
  go_simp

theorem found_dist (v : Nat) (h1 : 1 ≤ v) : Found (fun s => (distOf s).1) 0 29 v (symD v) := by
  obtain ⟨a, b, c⟩ := down_is (fun s => (distOf s).1) v 0 (by show (distOf 0).1 ≤ v; exact h1) 29 (by omega)
  exact ⟨a, down_le _ _ _, b, c⟩

theorem mono_dist : ∀ j, j < 30 → ∀ i, i < j + 1 → (distOf (0 + i)).1 ≤ (distOf (0 + j)).1 := by decide

set_option maxHeartbeats 2000000 in
theorem find_dist (v : Nat) (w : World) (h1 : 1 ≤ v) (h2 : v ≤ 32768) :
    Calls Try.prog 17 #[.int .i64 (v : Int), .int .i64 0, .int .i64 29, .func (.func 19) #[] #[]] w fun e w' => e = .returned (wordV (symD v) (v - (distOf (symD v)).1) (distOf (symD v)).2) ∧ Below w.heap.size w w' := by
  have HFD := hide (found_dist v h1)
  obtain ⟨s, hs⟩ : ∃ s, s = symD v := ⟨_, rfl⟩
  rw [← hs] at HFD ⊢
  clear hs
  have hle : (distOf s).1 ≤ v := (unhide HFD).le
  have e2 : ((v - (distOf s).1 : Nat) : Int) = (v : Int) - ((distOf s).1 : Int) := by omega
  unfold wordV
  rw [e2]
  clear e2
  obtain ⟨le, hl1⟩ : ∃ le, le = (distOf s).1 := ⟨_, rfl⟩
  obtain ⟨ex, hl2⟩ : ∃ ex, ex = (distOf s).2 := ⟨_, rfl⟩
  rw [← hl1] at hle ⊢
  rw [← hl2]
  have HL1 := hide hl1
  have HL2 := hide hl2
  clear hl1 hl2
  go_enter Try.func17, Try.ntmps17
  go_wp2_with fail
  generalize hw4 : World.alloc _ _ = w4
  have HB : Hid (Below w.heap.size w w4) := hide (by
    rw [← hw4]
    exact ((((Below.refl _ _).alloc (by simp) _).alloc (by simp) _).alloc (by simp; omega) _).alloc (by simp; omega) _)
  have c0 : w4.cell? ⟨w.heap.size, 0, none⟩ = some (.int .i64 (v : Int)) := by rw [← hw4]; simp only [World.cell?, heap_alloc_at, alloc_size]; (repeat (first | rw [if_pos (by omega)] | rw [if_neg (by omega)])); rfl
  have c1 : w4.cell? ⟨w.heap.size + 1, 0, none⟩ = some (.int .i64 0) := by rw [← hw4]; simp only [World.cell?, heap_alloc_at, alloc_size]; (repeat (first | rw [if_pos (by omega)] | rw [if_neg (by omega)])); rfl
  have c2 : w4.cell? ⟨w.heap.size + 1 + 1, 0, none⟩ = some (.func (.func 19) #[] #[]) := by rw [← hw4]; simp only [World.cell?, heap_alloc_at, alloc_size]; (repeat (first | rw [if_pos (by omega)] | rw [if_neg (by omega)])); rfl
  have c3 : w4.heap[w.heap.size + 1 + 1 + 1]? = some (.cells #[.int .i64 0, .int .i64 0, .int .i64 0] 34 (0, 0)) := by rw [← hw4]; simp only [heap_alloc_at, alloc_size]; rw [if_pos trivial]
  have d0 : w4.cell? ⟨w.heap.size + 1 + 1 + 1, 0, none⟩ = some (.int .i64 0) := by simp only [World.cell?, c3]; rfl
  have d1 : w4.cell? ⟨w.heap.size + 1 + 1 + 1, 1, none⟩ = some (.int .i64 0) := by simp only [World.cell?, c3]; rfl
  have d2 : w4.cell? ⟨w.heap.size + 1 + 1 + 1, 2, none⟩ = some (.int .i64 0) := by simp only [World.cell?, c3]; rfl
  have f0 : ∀ o, w4.frozen? ⟨w.heap.size + 1 + 1 + 1, o, none⟩ = false := fun o => by simp [World.frozen?, c3]
  clear hw4 c3
  have HS := hide (search_ok 30 (by omega) (testB (fun s => (distOf s).1) 0 v) #[.pointer (some ⟨w.heap.size + 1 + 1, 0, none⟩), .pointer (some ⟨w.heap.size + 1, 0, none⟩), .pointer (some ⟨w.heap.size, 0, none⟩)] w4 (fun i hi => test_dist i (by omega) v _ _ _ w4 c2 c1 c0) (fun i j hij hj h => by
    have := mono_dist j hj i (by omega)
    unfold testB at h ⊢
    simp only [decide_eq_true_eq] at h ⊢
    omega))
  refine (unhide HS).mono ?_
  rintro e w5 ⟨⟨k, rfl, hk, hk1, hk2⟩, rfl⟩
  have hks : k + 0 = s + 1 := by
    have h0 : 1 ≤ k := by
      rcases Nat.eq_zero_or_pos k with e | e
      · have := hk2 0 (by omega) (by omega)
        unfold testB at this
        simp only [decide_eq_true_eq] at this
        have : (distOf (0 + 0)).1 = 1 := by decide
        omega
      · exact e
    have hf : Found (fun s => (distOf s).1) 0 29 v (0 + (k - 1)) := by
      refine ⟨by omega, by omega, ?_, fun t h1 h2 => ?_⟩
      · have := hk1 (k - 1) (by omega)
        unfold testB at this
        simp only [decide_eq_false_iff_not] at this
        show (distOf (0 + (k - 1))).1 ≤ v
        omega
      · have := hk2 (t - 0) (by omega) (by omega)
        unfold testB at this
        simp only [decide_eq_true_eq] at this
        rw [show 0 + (t - 0) = t by omega] at this
        exact this
    have := hf.eq (unhide HFD)
    omega
  have e1 : (k : Int) - 1 = (s : Int) := by omega
  have hk3 : k ≤ 30 := hk
  have HLK := hide (look_dists s w5 (unhide HFD).lo (unhide HFD).hi)
  simp only at HLK
  rw [← unhide HL1, ← unhide HL2] at HLK
  clear hk hk1 hk2 hks HS HFD HL1 HL2
  go_wp2_with fail
  refine (unhide HLK).mono ?_
  rintro e w6 ⟨rfl, rfl⟩
  go_wp2_with fail
  refine bodyPost_ret (v := .agg #[.int .i64 (s : Int), .int .i64 ((v : Int) - (le : Int)), .int .i64 (ex : Int)]) ?_ rfl ⟨rfl, (((unhide HB).setCell (show w.heap.size ≤ w.heap.size + 1 + 1 + 1 by omega) _).setCell (show w.heap.size ≤ w.heap.size + 1 + 1 + 1 by omega) _).setCell (show w.heap.size ≤ w.heap.size + 1 + 1 + 1 by omega) _⟩
  rw [results_cell rfl]
  go_simp

end Go.Proofs.Ytabeanealkopbaa
