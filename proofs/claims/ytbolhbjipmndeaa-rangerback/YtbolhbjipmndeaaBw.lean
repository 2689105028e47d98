/- RangerBack's walk. -/
import Derived.Test.YtbolhbjipmndeaaBc
import Derived.Test.YtbolhbjipmndeaaWr
namespace Go.Proofs.Ytbolhbjipmndeaa.D
open Go.RowKit Rang
set_option maxRecDepth 100000
set_option linter.unusedVariables false
attribute [local go_sem ↓] Go.wp_at_zero Go.wp_at_succ

def accC (a : ActD) : List Value := [.int .i64 a.kd, .int .i64 a.bs, .int .i64 a.v, .int .i64 a.n, .slice a.lp a.ls.length a.lc]
def key (a : ActD) : Int × Int × Int × Int := (a.kd, a.bs, a.v, a.n)
def accAll (l : List ActD) : List Value := (l.map accC).flatten

theorem accAll_len (l : List ActD) : (accAll l).length = l.length * 5 := by
  induction l with
  | nil => rfl
  | cons a l ih => unfold accAll at ih ⊢; simp [accC, ih]; omega

theorem accAll_snoc (l : List ActD) (a : ActD) : accAll (l ++ [a]) = accAll l ++ accC a := by unfold accAll; simp

theorem accAll_at : ∀ (l : List ActD) (j k : Nat) (hj : j < l.length), k < 5 → (accAll l)[j * 5 + k]? = (accC l[j])[k]?
  | a :: l, 0, k, hj, hk => by
    unfold accAll
    rw [List.map_cons, List.flatten_cons, Nat.zero_mul, Nat.zero_add, List.getElem?_append_left (by simp [accC]; omega)]
    rfl
  | a :: l, j + 1, k, hj, hk => by
    have := accAll_at l j k (by simpa using hj) hk
    unfold accAll at this ⊢
    rw [List.map_cons, List.flatten_cons, List.getElem?_append_right (by simp [accC]; omega), show (j + 1) * 5 + k - (accC a).length = j * 5 + k by simp [accC]; omega]
    exact this

theorem info41 : (Try.prog.info? 41).map (fun i => (i.zero, i.size, i.bytes)) = some (some (.agg #[.int .i64 0, .int .i64 0, .int .i64 0, .int .i64 0, .slice none 0 0]), 5, 56) := by kernel_rfl

theorem wp_oneA {ops : Array Oper} {rest : List Oper} {o : Oper} {a : Act} {Q : Exit → Act → World → Prop} {ws : World} (hgd : o.guard = none) (s x : Operand)
    (ho : o.op = .call { callee := .builtin .append, args := #[s, x], argTypes := #[22, 22] }) (B : Nat) (va : Value) (l : List ActD) (X : ActD) (ll : Nat) (hll : ll = X.ls.length) (hs : a.eval s = va) (hx : a.eval x = .slice (some ⟨ws.heap.size, 0, none⟩) 1 1)
    (hA : ws.ownsRow B 41 5 va l.length (accAll l)) (hB : B ≤ ws.heap.size) (hlen : (l.length + 1) * 56 ≤ 140737488355328)
    (h : ∀ v' w', w'.ownsRow B 41 5 v' (l ++ [X]).length (accAll (l ++ [X])) → (∀ k, k < ws.heap.size → va.ownBlock ≠ some k → w'.heap[k]? = ws.heap[k]?) → ws.heap.size ≤ w'.heap.size → (w'.os = ws.os ∧ w'.tape = ws.tape ∧ w'.output = ws.output) → wpList Try.prog ops Q rest (a.put o.dst v') w') :
    wpList Try.prog ops Q (o :: rest) a (ws.alloc (.cells #[.int .i64 X.kd, .int .i64 X.bs, .int .i64 X.v, .int .i64 X.n, .slice X.lp ll X.lc] 41)) := by
  subst hll
  obtain ⟨i0, hi, hz0, hz1, hz2⟩ := info_parts info41
  refine wpList_append_own_at (ws.alloc (.cells #[.int .i64 X.kd, .int .i64 X.bs, .int .i64 X.v, .int .i64 X.n, .slice X.lp X.ls.length X.lc] 41)) hgd s x 22 ho B 41 i0 _ 5 56 Try.underlying22 hi hz0 hz1 hz2 rfl (by decide) va l.length (accAll l) hs (hA.alloc _) ⟨ws.heap.size, 0, none⟩ 1 1 (accC X) hx rfl ?_ (by intro u hu; unfold accC at hu; simp at hu; rcases hu with rfl | rfl | rfl | rfl | rfl <;> rfl) (by unfold maxLen; omega) (by omega) (by simp; omega) ?_
  · intro j u hj
    have e : (⟨ws.heap.size, 0, none⟩ : Addr).add j = ⟨ws.heap.size, j, none⟩ := by rw [Addr.add_mid, Nat.zero_add]
    rw [e]
    simp only [World.cell?, heap_alloc_new]
    simpa [accC] using hj
  · intro v' w' h2 h3 _ h5
    refine h v' w' (by rw [List.length_append, accAll_snoc]; exact h2) (fun k hk hne => ?_) (by have := h3.size; simp at this; omega) ⟨h3.os, h3.tape, h3.output⟩
    rw [h3.block k (by simp; omega) (fun e => hne e.symm), Below.heap_alloc _ _ _ hk]

theorem own_blk5 {w : World} {B n : Nat} {e : TypeId} {v : Value} {xs : List Value} {g : Nat} (h : w.ownsRow B e 5 v n xs) (hg : v.ownBlock = some g) : ∃ cur, w.heap[g]? = some (.cells cur e (0, 0)) ∧ B ≤ g := by
  rcases h.2 with ⟨e1, _⟩ | ⟨g', cap, cur, e1, hb, hh, _⟩
  · rw [e1] at hg; cases hg
  · rw [e1] at hg
    obtain rfl : g' = g := Option.some.inj hg
    exact ⟨cur, hh, hb⟩

theorem own_shape5 {w : World} {B t n : Nat} {v : Value} {xs : List Value} (h : w.ownsRow B t 5 v n xs) : ∃ a c, v = .slice a n c := by
  rcases h.2 with ⟨e, rfl⟩ | ⟨g, cap, cur, e, _⟩
  · exact ⟨_, _, e⟩
  · exact ⟨_, _, e⟩

/-- where the writing stands -/
structure StandB (w0 w : World) (pb gc n i : Nat) (ov dv : Value) (s : Sta) (l : List ActD) : Prop where
  p : PSta w0.heap.size w pb gc ov s
  row : w.ownsRow w0.heap.size 41 5 dv l.length (accAll l)
  bel : Below w0.heap.size w0 w
  all : s = actsS (l.map key) ⟨enc0, 0, 0, List.replicate n 1024⟩
  may : ∀ a ∈ l, May (key a) n
  len : s.ch.length = n
  few : s.k ≤ 31 * i
  short : l.length ≤ i

theorem StandB.below {w0 w w' : World} {pb gc n i : Nat} {ov dv : Value} {s : Sta} {l : List ActD} (h : StandB w0 w pb gc n i ov dv s l) (hb : Below w.heap.size w w') : StandB w0 w' pb gc n i ov dv s l :=
  ⟨⟨h.p.1.below hb, h.p.2.1, Nat.le_trans h.p.2.2 hb.size⟩, own_keep h.row fun g e => by
    obtain ⟨cur, hh, _⟩ := own_blk5 h.row e
    exact hb.block g (heap_lt hh), h.bel.trans (hb.mono h.bel.size), h.all, h.may, h.len, h.few, h.short⟩

theorem PSta.keep {B : Nat} {w w' : World} {pb gc : Nat} {ov : Value} {s : Sta} (h : PSta B w pb gc ov s) {dv : Value} (hd : ∀ g, dv.ownBlock = some g → ∃ cur, w.heap[g]? = some (.cells cur 41 (0, 0))) (hk : ∀ k, k < w.heap.size → dv.ownBlock ≠ some k → w'.heap[k]? = w.heap[k]?) (hs : w.heap.size ≤ w'.heap.size) : PSta B w' pb gc ov s := by
  have ne : ∀ {g : Nat} {cs : Array Value} {t : TypeId}, w.heap[g]? = some (.cells cs t (0, 0)) → t ≠ 41 → dv.ownBlock ≠ some g := fun hg h1 e => by
    obtain ⟨cur, hh⟩ := hd _ e
    exact blk_ne hg hh h1 rfl
  have a1 := h.1.enc.cells
  have a2 : w.heap[gc]? = _ := h.1.chs
  refine ⟨⟨⟨by rw [hk pb (heap_lt a1) (ne a1 (by decide))]; exact a1, own_keep h.1.enc.row fun g e => ?_, h.1.enc.lo⟩, h.1.chs.of (hk gc (heap_lt a2) (ne a2 (by decide))), h.1.lo⟩, h.2.1, Nat.le_trans h.2.2 hs⟩
  obtain ⟨cur, hh⟩ := own_blk h.1.enc.row e
  exact hk g (heap_lt hh) (ne hh (by decide))

set_option maxHeartbeats 2000000 in
theorem back_bad (n : Int) (a0 : Option Addr) (L cap : Nat) (w : World) (hn : n < 0 ∨ 65536 < n) : Calls Try.prog 6 #[.int .i64 n, .slice a0 L cap] w fun e w' => e = .returned (.bool true) ∧ Below w.heap.size w w' := by
  by_cases h0 : n < 0
  · have d0 : decide (n < 0) = true := decide_eq_true h0
    go_enter Try.func6, Try.ntmps6
    go_wp2_with (first | (go_at_call 8; refine (pnew_bad n w hn).mono ?_; rintro e w1 ⟨rfl, rfl⟩))
    go_ret
    exact ⟨rfl, Below.refl _ _⟩
  · have d0 : decide (n < 0) = false := decide_eq_false h0
    have d1 : decide (65536 < n) = true := decide_eq_true (by omega)
    go_enter Try.func6, Try.ntmps6
    go_wp2_with (first | (go_at_call 8; refine (pnew_bad n w hn).mono ?_; rintro e w1 ⟨rfl, rfl⟩))
    go_ret
    exact ⟨rfl, Below.refl _ _⟩
end Go.Proofs.Ytbolhbjipmndeaa.D
