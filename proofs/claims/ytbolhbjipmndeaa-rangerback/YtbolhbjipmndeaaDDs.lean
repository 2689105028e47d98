/- A decoder's Bit and Done. -/
import Derived.Test.YtbolhbjipmndeaaDGe
namespace Go.Proofs.Ytbolhbjipmndeaa.D
open Go.RowKit Rang
set_option maxRecDepth 100000
set_option linter.unusedVariables false
attribute [local go_sem ↓] Go.wp_at_zero Go.wp_at_succ

/-- the numbers of a decoder -/
structure DGood (Bs : List Nat) (d : Dec) : Prop where
  hi : d.rng < 4294967296
  code : d.code < 4294967296
  at_ : d.at_ ≤ Bs.length
  lo : d.over = false → 16777216 ≤ d.rng

theorem settle_good {Bs : List Nat} {d : Dec} (h1 : 65536 ≤ d.rng) (h2 : d.rng < 4294967296) (h3 : d.code < 4294967296) (h4 : d.at_ ≤ Bs.length) (h5 : d.over = false) : DGood Bs (settleD Bs d) := by
  unfold settleD
  by_cases hr : d.rng < 16777216
  · rw [if_pos ⟨hr, h5⟩]
    by_cases ha : d.at_ = Bs.length
    · rw [if_pos ha]
      exact ⟨h2, h3, h4, fun e => by simp at e⟩
    · rw [if_neg ha]
      exact ⟨by simp only; omega, Nat.mod_lt _ (by decide), by simp only; omega, fun _ => by simp only; omega⟩
  · rw [if_neg (by simp [hr])]
    exact ⟨h2, h3, h4, fun _ => by omega⟩

theorem get_good {Bs : List Nat} {d : Dec} {p : Nat} (h : DGood Bs d) (h5 : d.over = false) (hp : 31 ≤ p ∧ p ≤ 2017) : DGood Bs (getD Bs d p).2 := by
  have hs := chance_split (h.lo h5) hp
  have := h.hi
  have := h.code
  unfold getD
  split
  · exact settle_good (by simp only; omega) (by simp only; omega) h.code h.at_ h5
  · exact settle_good (by simp only; omega) (by simp only; omega) (by simp only; omega) h.at_ h5

theorem dir_good {Bs : List Nat} {d : Dec} (h : DGood Bs d) (h5 : d.over = false) : DGood Bs (dirD Bs d).2 := by
  have hs := h.lo h5
  have := h.hi
  have := h.code
  unfold dirD
  split
  · exact settle_good (by simp only; omega) (by simp only; omega) (by simp only; omega) h.at_ h5
  · exact settle_good (by simp only; omega) (by simp only; omega) h.code h.at_ h5

/-- a get of a decoder that may be at its end -/
def gotD (Bs : List Nat) (d : Dec) (p : Nat) : Bool × Dec := if d.over then (false, d) else getD Bs d p

/-- a decoder in memory that is as calls leave it -/
structure DS (w : World) (pb gc cc : Nat) (ba : Option Addr) (bc : Nat) (Bs : List Nat) (d : Dec) (ch : List Nat) : Prop where
  da : DAt w pb gc cc ba bc Bs d ch
  good : DGood Bs d
  chs : Chs ch
  len : Bs.length ≤ 140737488355328

theorem DS.drewN {w : World} {pb gc cc : Nat} {ba : Option Addr} {bc : Nat} {Bs : List Nat} {d : Dec} {ch : List Nat} (h : DS w pb gc cc ba bc Bs d ch) (q : Nat) : DS (w.drewN q) pb gc cc ba bc Bs d ch := ⟨h.da.drewN q, h.good, h.chs, h.len⟩

theorem got_len (ch : List Nat) (i p : Nat) (x : Bool × Dec) : (gotCh ch i p x).length = ch.length := by unfold gotCh; split <;> simp

theorem got_chs {ch : List Nat} (h : Chs ch) {i : Nat} (hi : i < ch.length) (x : Bool × Dec) : Chs (gotCh ch i (ch.getD i 0) x) := by
  unfold gotCh
  split
  · exact h
  · exact h.set hi _

theorem get_ds (w : World) (pb gc cc : Nat) (ba : Option Addr) (bc : Nat) (Bs : List Nat) (d : Dec) (ch : List Nat) (i : Nat) (h : DS w pb gc cc ba bc Bs d ch) (hi : i < ch.length) :
    Calls Try.prog 63 #[.pointer (some ⟨pb, 0, none⟩), .int .i64 (i : Int)] w fun e w' => e = .returned (.int .i64 ((gotD Bs d (ch.getD i 0)).1.toNat : Int)) ∧ DS w' pb gc cc ba bc Bs (gotD Bs d (ch.getD i 0)).2 (gotCh ch i (ch.getD i 0) (gotD Bs d (ch.getD i 0))) ∧ DT w w' pb gc cc := by
  by_cases h5 : d.over = true
  · have e : gotD Bs d (ch.getD i 0) = (false, d) := by unfold gotD; rw [if_pos h5]
    have e2 : gotCh ch i (ch.getD i 0) (false, d) = ch := by unfold gotCh; rw [if_pos h5]
    rw [e, e2]
    refine (get_over w pb gc cc ba bc Bs d ch i h.da h5).mono ?_
    rintro e w' ⟨rfl, rfl⟩
    exact ⟨rfl, h, DT.refl _ _ _ _⟩
  · have h6 : d.over = false := by simpa using h5
    have e : gotD Bs d (ch.getD i 0) = getD Bs d (ch.getD i 0) := by unfold gotD; rw [if_neg h5]
    rw [e]
    refine (get_ok w pb gc cc ba bc Bs d ch i h.da hi (h.chs.at hi) (h.good.lo h6) h.good.hi h.good.code h.good.at_ h6 h.len).mono ?_
    rintro e w' ⟨rfl, h1, h2⟩
    exact ⟨rfl, ⟨h1, get_good h.good h6 (h.chs.at hi), got_chs h.chs hi _, h.len⟩, h2⟩

/-- what is told of a number -/
def toldV (d : Dec) (v : Int) : Value := .tuple #[.int .i64 (if d.over then 0 else v), .int .i64 (if d.over then 10 else 0)]

theorem told_ds (w : World) (pb gc cc : Nat) (ba : Option Addr) (bc : Nat) (Bs : List Nat) (d : Dec) (ch : List Nat) (v : Int) (h : DS w pb gc cc ba bc Bs d ch) :
    Calls Try.prog 62 #[.pointer (some ⟨pb, 0, none⟩), .int .i64 v] w fun e w' => (∃ x y : Int, e = .returned (.tuple #[.int .i64 x, .int .i64 y]) ∧ Hid (Value.tuple #[.int .i64 x, .int .i64 y] = toldV d v)) ∧ w' = w := by
  refine (told_ok w pb gc cc ba bc Bs d ch v h.da).mono ?_
  rintro e w' ⟨rfl, rfl⟩
  exact ⟨⟨_, _, rfl, hide rfl⟩, rfl⟩

set_option maxHeartbeats 2000000 in
theorem dbit_ok (w : World) (pb gc cc : Nat) (ba : Option Addr) (bc : Nat) (Bs : List Nat) (d : Dec) (ch : List Nat) (i : Nat) (h : DS w pb gc cc ba bc Bs d ch) (hi : i < ch.length) :
    Calls Try.prog 31 #[.pointer (some ⟨pb, 0, none⟩), .int .i64 (i : Int)] w fun e w' => e = .returned (toldV (gotD Bs d (ch.getD i 0)).2 ((gotD Bs d (ch.getD i 0)).1.toNat : Int)) ∧ DS w' pb gc cc ba bc Bs (gotD Bs d (ch.getD i 0)).2 (gotCh ch i (ch.getD i 0) (gotD Bs d (ch.getD i 0))) ∧ DT w w' pb gc cc := by
  have HP := hide (get_ds w pb gc cc ba bc Bs d ch i h hi)
  have c0 := h.da.chv
  obtain ⟨n, hn⟩ : ∃ n, n = ch.length := ⟨_, rfl⟩
  rw [← hn] at c0 hi
  have ti : (i : Int) < (n : Int) := by omega
  have ti2 : ¬ (i : Int) < 0 := by omega
  have ti3 : ¬ (n : Int) ≤ (i : Int) := by omega
  obtain ⟨X, hX⟩ : ∃ X, X = gotD Bs d (ch.getD i 0) := ⟨_, rfl⟩
  rw [← hX] at HP ⊢
  obtain ⟨bit, D⟩ := X
  clear hn h hX
  go_enter Try.func31, Try.ntmps31
  go_wp2_with fail
  refine (unhide HP).mono ?_
  rintro e w1 ⟨rfl, h1, h2⟩
  have H1 := hide h1
  have H2 := hide h2
  clear h1 h2 HP
  go_wp2_with fail
  refine (told_ds _ pb gc cc ba bc Bs D _ _ (unhide H1)).mono ?_
  rintro e w2 ⟨⟨x, y, rfl, H3⟩, rfl⟩
  go_wp2_with fail
  go_ret2
  exact ⟨by rw [← unhide H3]; rfl, unhide H1, unhide H2⟩

set_option maxHeartbeats 2000000 in
theorem dbit_bad (w : World) (pb gc cc : Nat) (ba : Option Addr) (bc : Nat) (Bs : List Nat) (d : Dec) (ch : List Nat) (i : Int) (h : DAt w pb gc cc ba bc Bs d ch) (hb : ¬ (0 ≤ i ∧ i < (ch.length : Int))) :
    Calls Try.prog 31 #[.pointer (some ⟨pb, 0, none⟩), .int .i64 i] w fun e w' => e = .returned (.tuple #[.int .i64 0, .int .i64 2]) ∧ w = w' := by
  have c0 := h.chv
  obtain ⟨n, hn⟩ : ∃ n, n = ch.length := ⟨_, rfl⟩
  rw [← hn] at c0 hb
  clear hn h
  by_cases h1 : i < 0
  · clear hb
    go_enter Try.func31, Try.ntmps31
    go_wp2_with fail
    go_ret2
    exact ⟨rfl, rfl⟩
  · have h2 : (n : Int) ≤ i := by omega
    clear hb
    go_enter Try.func31, Try.ntmps31
    go_wp2_with fail
    go_ret2
    exact ⟨rfl, rfl⟩

set_option maxHeartbeats 2000000 in
theorem done_ok (w : World) (pb gc cc : Nat) (ba : Option Addr) (bc : Nat) (Bs : List Nat) (d : Dec) (ch : List Nat) (h : DAt w pb gc cc ba bc Bs d ch) :
    Calls Try.prog 28 #[.pointer (some ⟨pb, 0, none⟩)] w fun e w' => e = .returned (.bool (decide (d.at_ = Bs.length ∧ d.code = 0 ∧ d.over = false))) ∧ DAt w' pb gc cc ba bc Bs d ch ∧ DT w w' pb gc cc := by
  obtain ⟨code, rng, at_, over⟩ := d
  have c2 : ∀ q, (w.drewN q).cell? ⟨pb, 2, none⟩ = some (.int .u64 (code : Int)) := fun q => h.code
  have c3 : ∀ q, (w.drewN q).cell? ⟨pb, 3, none⟩ = some (.slice ba Bs.length bc) := fun q => h.bs
  have c4 : ∀ q, (w.drewN q).cell? ⟨pb, 4, none⟩ = some (.int .i64 (at_ : Int)) := fun q => h.at_
  have c5 : ∀ q, (w.drewN q).cell? ⟨pb, 5, none⟩ = some (.bool over) := fun q => h.over
  have HE := hide h
  obtain ⟨n, hn⟩ : ∃ n, n = Bs.length := ⟨_, rfl⟩
  rw [← hn] at c3 ⊢
  clear h hn
  obtain ⟨ans, hans⟩ : ∃ ans, ans = decide (at_ = n ∧ code = 0 ∧ over = false) := ⟨_, rfl⟩
  simp only
  rw [← hans]
  have HA := hide hans
  clear hans
  by_cases ha : at_ = n
  · have f1 : ((at_ : Int) == (n : Int)) = true := by rw [beq_iff_eq]; omega
    have f1' : (at_ : Int) = (n : Int) := by omega
    by_cases hc : code = 0
    · have e : ans = !over := by rw [unhide HA]; cases over <;> simp [ha, hc]
      subst hc
      clear HA ha f1
      subst e
      rw [f1'] at c4
      clear f1'
      cases over
      · go_enter Try.func28, Try.ntmps28
        go_wp2_with fail
        go_quiet (fail)
        go_wp2_with fail
        go_ret
        exact ⟨rfl, (unhide HE).drewN _, (DT.refl _ _ _ _).drewN _⟩
      · go_enter Try.func28, Try.ntmps28
        go_wp2_with fail
        go_quiet (fail)
        go_wp2_with fail
        go_ret
        exact ⟨rfl, (unhide HE).drewN _, (DT.refl _ _ _ _).drewN _⟩
    · have e : ans = false := by rw [unhide HA]; simp [hc]
      have f2 : ((code : Int) == 0) = false := by rw [beq_eq_false_iff_ne]; omega
      have f2' : ¬ (code : Int) = 0 := by omega
      clear HA ha f1
      subst e
      rw [f1'] at c4
      clear f1' hc
      go_enter Try.func28, Try.ntmps28
      go_wp2_with fail
      go_quiet (fail)
      go_wp2_with fail
      go_ret
      exact ⟨rfl, (unhide HE).drewN _, (DT.refl _ _ _ _).drewN _⟩
  · have e : ans = false := by rw [unhide HA]; simp [ha]
    have f1 : ((at_ : Int) == (n : Int)) = false := by rw [beq_eq_false_iff_ne]; omega
    have f1' : ¬ (at_ : Int) = (n : Int) := by omega
    clear HA ha
    subst e
    go_enter Try.func28, Try.ntmps28
    go_wp2_with fail
    go_quiet (fail)
    go_wp2_with fail
    go_ret
    exact ⟨rfl, (unhide HE).drewN _, (DT.refl _ _ _ _).drewN _⟩
end Go.Proofs.Ytbolhbjipmndeaa.D
