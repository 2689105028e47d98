/- Tree, Reverse, Done, Chances of the program's decoder. -/
import Derived.Test.YtbolhbjipmndeaaQd
import Derived.Test.YtbolhbjipmndeaaPc
namespace Go.Proofs.Ytbolhbjipmndeaa.D
open Go.RowKit Rang
set_option maxRecDepth 100000
set_option linter.unusedVariables false
attribute [local go_sem ↓] Go.wp_at_zero Go.wp_at_succ

theorem QAt.alloc {w : World} {pb gc gr o rc : Nat} {rcs : Array Value} {Bs : List Nat} {d : Dec} {ch : List Nat} (h : QAt w pb gc gr o rc rcs Bs d ch) (O : Obj) : QAt (w.alloc O) pb gc gr o rc rcs Bs d ch :=
  ⟨by rw [Below.heap_alloc _ _ _ (heap_lt h.cells)]; exact h.cells, h.chs.of (Below.heap_alloc _ _ _ h.chs.lt), by rw [Below.heap_alloc _ _ _ (heap_lt h.row)]; exact h.row, h.bytes, h.small, h.cap⟩

theorem QS.alloc {w : World} {pb gc gr : Nat} {rcs : Array Value} {Bs : List Nat} {d : Dec} {ch : List Nat} (h : QS w pb gc gr rcs Bs d ch) (O : Obj) : QS (w.alloc O) pb gc gr rcs Bs d ch := by
  obtain ⟨o, rc, hq⟩ := h.qa
  exact ⟨⟨o, rc, hq.alloc O⟩, h.good, h.chs, h.len⟩

/-- what a decoder's call may change -/
structure QT (w w' : World) (pb gc : Nat) : Prop where
  os : w'.os = w.os
  tape : w'.tape = w.tape
  output : w'.output = w.output
  size : w.heap.size ≤ w'.heap.size
  keep : ∀ k, k < w.heap.size → k ≠ pb → k ≠ gc → w'.heap[k]? = w.heap[k]?

theorem DT.qt {w w' : World} {pb gc cc : Nat} (h : DT w w' pb gc cc) : QT w w' pb gc := ⟨h.os, h.tape, h.output, Nat.le_of_eq h.size.symm, fun k _ a b => h.keep k a b⟩
theorem QT.refl (w : World) (pb gc : Nat) : QT w w pb gc := ⟨rfl, rfl, rfl, Nat.le_refl _, fun _ _ _ _ => rfl⟩
theorem QT.trans {w w1 w2 : World} {pb gc : Nat} (h : QT w w1 pb gc) (h' : QT w1 w2 pb gc) : QT w w2 pb gc := ⟨h'.os.trans h.os, h'.tape.trans h.tape, h'.output.trans h.output, Nat.le_trans h.size h'.size, fun k hk a b => (h'.keep k (Nat.lt_of_lt_of_le hk h.size) a b).trans (h.keep k hk a b)⟩
theorem QT.alloc (w : World) (pb gc : Nat) (O : Obj) : QT w (w.alloc O) pb gc := ⟨rfl, rfl, rfl, by simp, fun k hk _ _ => Below.heap_alloc _ _ _ hk⟩
theorem QT.below {B : Nat} {w0 w w' : World} {pb gc : Nat} (h : QT w w' pb gc) (hb : Below B w0 w) (h1 : B ≤ pb) (h2 : B ≤ gc) (h3 : B ≤ w.heap.size) : Below B w0 w' :=
  ⟨h.os.trans hb.os, h.tape.trans hb.tape, h.output.trans hb.output, Nat.le_trans hb.size h.size, fun k hk => by rw [h.keep k (by omega) (by omega) (by omega)]; exact hb.block k hk⟩

set_option maxHeartbeats 2000000 in
theorem qtree_ok (w : World) (pb gc gr : Nat) (rcs : Array Value) (Bs : List Nat) (d : Dec) (ch : List Nat) (base n : Nat) (h : QS w pb gc gr rcs Bs d ch) (hn : n ≤ 16) (hb : base + 2 ^ n ≤ ch.length) (hN : ch.length ≤ 140737488355328) :
    Calls Try.prog 34 #[.pointer (some ⟨pb, 0, none⟩), .int .i64 (base : Int), .int .i64 (n : Int)] w fun e w' => e = .returned (toldV (getsD Bs base n 0 1 0 (d, ch)).2.1 (treeV n true (getsD Bs base n 0 1 0 (d, ch)).1)) ∧ QS w' pb gc gr rcs Bs (getsD Bs base n 0 1 0 (d, ch)).2.1 (getsD Bs base n 0 1 0 (d, ch)).2.2 ∧ QT w w' pb gc := by
  have HC := caps_low (n : Int) w
  have z0 : (w.alloc (.cells #[.int .i64 (n : Int)] 3)).cell? ⟨w.heap.size, 0, none⟩ = some (.int .i64 (n : Int)) := HC.cell
  have H1 := hide (gettree_high _ pb gc gr rcs Bs d ch base n w.heap.size (h.alloc _) HC hn hb hN)
  have HT := hide (QT.alloc w pb gc (.cells #[.int .i64 (n : Int)] 3))
  obtain ⟨R, hR⟩ : ∃ R, R = getsD Bs base n 0 1 0 (d, ch) := ⟨_, rfl⟩
  rw [← hR] at H1 ⊢
  obtain ⟨V, hV⟩ : ∃ V, V = toldV R.2.1 (treeV n true R.1) := ⟨_, rfl⟩
  have hV2 : ∃ x y : Int, V = .tuple #[.int .i64 x, .int .i64 y] := ⟨_, _, hV⟩
  obtain ⟨x, y, rfl⟩ := hV2
  rw [← hV] at H1 ⊢
  clear HC h hb hR hV
  go_enter Try.func34, Try.ntmps34
  go_wp2_with (first | (go_at_call 66; refine (unhide H1).mono ?_; rintro e w1 ⟨rfl, h1, h2⟩))
  go_ret2
  exact ⟨rfl, h1, (unhide HT).trans h2.qt⟩

set_option maxHeartbeats 2000000 in
theorem qrev_ok (w : World) (pb gc gr : Nat) (rcs : Array Value) (Bs : List Nat) (d : Dec) (ch : List Nat) (base n : Nat) (h : QS w pb gc gr rcs Bs d ch) (hn : n ≤ 16) (hb : base + 2 ^ n ≤ ch.length) (hN : ch.length ≤ 140737488355328) :
    Calls Try.prog 36 #[.pointer (some ⟨pb, 0, none⟩), .int .i64 (base : Int), .int .i64 (n : Int)] w fun e w' => e = .returned (toldV (getsD Bs base n 0 1 0 (d, ch)).2.1 (treeV n false (getsD Bs base n 0 1 0 (d, ch)).1)) ∧ QS w' pb gc gr rcs Bs (getsD Bs base n 0 1 0 (d, ch)).2.1 (getsD Bs base n 0 1 0 (d, ch)).2.2 ∧ QT w w' pb gc := by
  have H1 := hide (gettree_low _ pb gc gr rcs Bs d ch base n h True.intro hn hb hN)
  obtain ⟨R, hR⟩ : ∃ R, R = getsD Bs base n 0 1 0 (d, ch) := ⟨_, rfl⟩
  rw [← hR] at H1 ⊢
  obtain ⟨V, hV⟩ : ∃ V, V = toldV R.2.1 (treeV n false R.1) := ⟨_, rfl⟩
  have hV2 : ∃ x y : Int, V = .tuple #[.int .i64 x, .int .i64 y] := ⟨_, _, hV⟩
  obtain ⟨x, y, rfl⟩ := hV2
  rw [← hV] at H1 ⊢
  clear h hb hR hV
  go_enter Try.func36, Try.ntmps36
  go_wp2_with (first | (go_at_call 66; refine (unhide H1).mono ?_; rintro e w1 ⟨rfl, h1, h2⟩))
  go_ret2
  exact ⟨rfl, h1, h2.qt⟩

set_option maxHeartbeats 2000000 in
theorem gettree_bad (w : World) (pb gc gr : Nat) (rcs : Array Value) (Bs : List Nat) (d : Dec) (ch : List Nat) (base n : Int) (f : Value) (h : QS w pb gc gr rcs Bs d ch) (hN : ch.length ≤ 140737488355328) (hm : ¬ MayB base n ch.length) :
    Calls Try.prog 66 #[.pointer (some ⟨pb, 0, none⟩), .int .i64 base, .int .i64 n, f] w fun e w' => e = .returned (.tuple #[.int .i64 0, .int .i64 2]) ∧ w = w' := by
  have HG := hide (dgood_ok pb w true h.made)
  have HM := hide (hasTree_no (some ⟨gc, 0, none⟩) ch.length ch.length base n w hN hm)
  have c1 := h.chv
  obtain ⟨N, hNN⟩ : ∃ N, N = ch.length := ⟨_, rfl⟩
  rw [← hNN] at HM c1
  clear h hNN hm
  go_enter Try.func66, Try.ntmps66
  go_wp2_with (first | (go_at_call 59; refine (unhide HG).mono ?_; rintro e w1 ⟨rfl, rfl⟩) | (go_at_call 74; refine (unhide HM).mono ?_; rintro e w1 ⟨rfl, rfl⟩))
  go_ret2
  exact ⟨rfl, rfl⟩

set_option maxHeartbeats 2000000 in
theorem qtree_bad (w : World) (pb gc gr : Nat) (rcs : Array Value) (Bs : List Nat) (d : Dec) (ch : List Nat) (base n : Int) (h : QS w pb gc gr rcs Bs d ch) (hN : ch.length ≤ 140737488355328) (hm : ¬ MayB base n ch.length) :
    Calls Try.prog 34 #[.pointer (some ⟨pb, 0, none⟩), .int .i64 base, .int .i64 n] w fun e w' => e = .returned (.tuple #[.int .i64 0, .int .i64 2]) ∧ QS w' pb gc gr rcs Bs d ch ∧ QT w w' pb gc := by
  have z0 : (w.alloc (.cells #[.int .i64 n] 3)).cell? ⟨w.heap.size, 0, none⟩ = some (.int .i64 n) := (caps_low n w).cell
  have HE := hide (h.alloc (.cells #[.int .i64 n] 3))
  have H1 := hide (gettree_bad _ pb gc gr rcs Bs d ch base n (.func (.func 67) #[] #[.pointer (some ⟨w.heap.size, 0, none⟩)]) (h.alloc (.cells #[.int .i64 n] 3)) hN hm)
  have HT := hide (QT.alloc w pb gc (.cells #[.int .i64 n] 3))
  clear h hm
  go_enter Try.func34, Try.ntmps34
  go_wp2_with (first | (go_at_call 66; refine (unhide H1).mono ?_; rintro e w1 ⟨rfl, rfl⟩))
  go_ret2
  exact ⟨rfl, unhide HE, unhide HT⟩

set_option maxHeartbeats 2000000 in
theorem qrev_bad (w : World) (pb gc gr : Nat) (rcs : Array Value) (Bs : List Nat) (d : Dec) (ch : List Nat) (base n : Int) (h : QS w pb gc gr rcs Bs d ch) (hN : ch.length ≤ 140737488355328) (hm : ¬ MayB base n ch.length) :
    Calls Try.prog 36 #[.pointer (some ⟨pb, 0, none⟩), .int .i64 base, .int .i64 n] w fun e w' => e = .returned (.tuple #[.int .i64 0, .int .i64 2]) ∧ w = w' := by
  have H1 := hide (gettree_bad _ pb gc gr rcs Bs d ch base n (.func (.func 68) #[] #[]) h hN hm)
  clear h hm
  go_enter Try.func36, Try.ntmps36
  go_wp2_with (first | (go_at_call 66; refine (unhide H1).mono ?_; rintro e w1 ⟨rfl, rfl⟩))
  go_ret2
  exact ⟨rfl, rfl⟩

/-- is all read, and nothing left? -/
def doneB (Bs : List Nat) (d : Dec) : Bool := decide (d.at_ = Bs.length ∧ d.code = 0 ∧ d.over = false)

set_option maxHeartbeats 2000000 in
theorem qdone_ok (w : World) (pb gc gr : Nat) (rcs : Array Value) (Bs : List Nat) (d : Dec) (ch : List Nat) (h : QS w pb gc gr rcs Bs d ch) :
    Calls Try.prog 27 #[.pointer (some ⟨pb, 0, none⟩)] w fun e w' => e = .returned (.bool (doneB Bs d)) ∧ w' = w := by
  obtain ⟨o, rc, hq⟩ := h.qa
  have HG := hide (dgood_ok pb w true h.made)
  have hat := h.good.at_
  obtain ⟨code, rng, at_, over⟩ := d
  have c2 := hq.code
  have c4 := hq.rest
  have c5 := hq.over
  simp only at c2 c4 c5 hat
  obtain ⟨n, hn⟩ : ∃ n, n = Bs.length - at_ := ⟨_, rfl⟩
  rw [← hn] at c4
  by_cases h0 : at_ = Bs.length
  · obtain rfl : n = 0 := by omega
    by_cases h1 : code = 0
    · subst h1
      have e : doneB Bs ⟨0, rng, at_, over⟩ = !over := by unfold doneB; cases over <;> simp [h0]
      rw [e]
      clear h hq hn h0 hat e
      cases over
      · go_enter Try.func27, Try.ntmps27
        go_wp2_with (first | (go_at_call 59; refine (unhide HG).mono ?_; rintro e w1 ⟨rfl, rfl⟩))
        go_ret
        exact ⟨rfl, rfl⟩
      · go_enter Try.func27, Try.ntmps27
        go_wp2_with (first | (go_at_call 59; refine (unhide HG).mono ?_; rintro e w1 ⟨rfl, rfl⟩))
        go_ret
        exact ⟨rfl, rfl⟩
    · have e : doneB Bs ⟨code, rng, at_, over⟩ = false := decide_eq_false (fun h => h1 h.2.1)
      rw [e]
      have t1 : ¬ (code : Int) = 0 := by omega
      have t2 : ((code : Int) == 0) = false := by simp [h1]
      clear h hq hn h0 hat e
      go_enter Try.func27, Try.ntmps27
      go_wp2_with (first | (go_at_call 59; refine (unhide HG).mono ?_; rintro e w1 ⟨rfl, rfl⟩))
      go_ret
      exact ⟨rfl, rfl⟩
  · have e : doneB Bs ⟨code, rng, at_, over⟩ = false := decide_eq_false (fun h => h0 h.1)
    rw [e]
    have hn0 : ¬ n = 0 := by omega
    have t1 : ¬ (n : Int) = 0 := by omega
    have t2 : ((n : Int) == 0) = false := by simp [hn0]
    clear h hq hn h0 hat e
    go_enter Try.func27, Try.ntmps27
    go_wp2_with (first | (go_at_call 59; refine (unhide HG).mono ?_; rintro e w1 ⟨rfl, rfl⟩))
    go_ret
    exact ⟨rfl, rfl⟩

set_option maxHeartbeats 2000000 in
theorem qchances_ok (w : World) (pb gc gr : Nat) (rcs : Array Value) (Bs : List Nat) (d : Dec) (ch : List Nat) (h : QS w pb gc gr rcs Bs d ch) (hn : ch.length ≤ 65536) :
    Calls Try.prog 29 #[.pointer (some ⟨pb, 0, none⟩)] w fun e w' => e = .returned (.slice (some ⟨w.heap.size, 0, none⟩) ch.length ch.length) ∧ Ints w' w.heap.size ch ∧ Below w.heap.size w w' := by
  have HG := hide (dgood_ok pb w true h.made)
  have HT := hide (ptold_ok gc ch w h.pch hn h.chs.small)
  have c1 := h.chv
  obtain ⟨n, hnn⟩ : ∃ n, n = ch.length := ⟨_, rfl⟩
  rw [← hnn] at c1 HT ⊢
  clear h hnn
  go_enter Try.func29, Try.ntmps29
  go_wp2_with (first | (go_at_call 59; refine (unhide HG).mono ?_; rintro e w1 ⟨rfl, rfl⟩) | (go_at_call 44; refine (unhide HT).mono ?_; rintro e w2 ⟨rfl, h1, h2⟩; have H1 := hide h1; have H2 := hide h2; clear h1 h2))
  go_ret
  exact ⟨rfl, unhide H1, unhide H2⟩
end Go.Proofs.Ytbolhbjipmndeaa.D
