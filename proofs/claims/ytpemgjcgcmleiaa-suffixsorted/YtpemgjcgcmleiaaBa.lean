/- Back: the text of a column and a row. -/
import Derived.Test.YtpemgjcgcmleiaaNx
namespace Go.Proofs.Ytpemgjcgcmleiaa
open Go.RowKit Suf
set_option maxRecDepth 100000
set_option linter.unusedVariables false

def bv (z : Nat) : Value := .int .u8 (z : Int)
theorem info5 : (Try.prog.info? 5).map (fun i => (i.zero, i.size, i.bytes)) = some (some (.int .u8 0), 1, 1) := by kernel_rfl

structure StB (w0 w : World) (v : Value) (xs : List Nat) : Prop where
  own : w.ownsRow w0.heap.size 5 1 v xs.length (xs.map bv)
  bel : Below w0.heap.size w0 w

theorem StB.nil (w : World) : StB w w (.slice none 0 0) [] := ⟨World.ownsRow_nil _ _ _ _, Below.refl _ _⟩

theorem wp_oneB {ops : Array Oper} {rest : List Oper} {o : Oper} {a : Act} {Q : Exit → Act → World → Prop} {w0 ws : World} (hgd : o.guard = none) (s x : Operand)
    (ho : o.op = .call { callee := .builtin .append, args := #[s, x], argTypes := #[22, 22] }) (va : Value) (xs : List Nat) (X : Nat) (hs : a.eval s = va) (hx : a.eval x = .slice (some ⟨ws.heap.size, 0, none⟩) 1 1)
    (hA : StB w0 ws va xs) (hlen : (xs.length + 1) * 8 ≤ 140737488355328)
    (h : ∀ v' w', StB w0 w' v' (xs ++ [X]) → (∀ k, k < ws.heap.size → va.ownBlock ≠ some k → w'.heap[k]? = ws.heap[k]?) → ws.heap.size ≤ w'.heap.size → (∀ b, v'.ownBlock = some b → va.ownBlock = some b ∨ ws.heap.size ≤ b) → wpList Try.prog ops Q rest (a.put o.dst v') w') : wpList Try.prog ops Q (o :: rest) a (ws.alloc (.cells #[bv X] 5)) := by
  obtain ⟨i0, hi, hz0, hz1, hz2⟩ := info_parts info5
  refine wpList_append_own_at (ws.alloc (.cells #[bv X] 5)) hgd s x 22 ho w0.heap.size 5 i0 (.int .u8 0) 1 1 Try.underlying22 hi hz0 hz1 hz2 rfl (by decide) va xs.length (xs.map bv) hs (hA.own.alloc _) ⟨ws.heap.size, 0, none⟩ 1 1 [bv X] hx rfl ?_ (by intro u hu; rw [List.mem_singleton] at hu; subst hu; rfl) (by unfold maxLen; omega) (by omega) (by have := hA.bel.size; simp; omega) ?_
  · intro j u hj
    cases j with
    | zero =>
      have e : (⟨ws.heap.size, 0, none⟩ : Addr).add 0 = ⟨ws.heap.size, 0, none⟩ := by simp [Addr.add]
      rw [e]
      simp only [World.cell?, heap_alloc_new]
      simpa using hj
    | succ j => simp at hj
  · intro v' w' h2 h3 _ h5
    refine h v' w' ⟨by rw [List.length_append, List.map_append]; exact h2, (hA.bel.alloc hA.bel.size _).grown h3 (by have := hA.bel.size; simp; omega) (fun k e => (hA.own.lt k e).1)⟩ (fun k hk hne => ?_) (by have := h3.size; simp at this; omega) (fun b e => ?_)
    · rw [h3.block k (by simp; omega) (fun e => hne e.symm), Below.heap_alloc _ _ _ hk]
    · rcases h5 with h5 | h5
      · exact .inl (by rw [← h5, e])
      · rw [e] at h5; have := Option.some.inj h5; simp at this; exact .inr (by omega)

theorem own_keep {w w' : World} {base e size n : Nat} {v : Value} {xs : List Value} (h : w.ownsRow base e size v n xs) (h2 : ∀ g, v.ownBlock = some g → w'.heap[g]? = w.heap[g]?) : w'.ownsRow base e size v n xs := by
  obtain ⟨hl, hr⟩ := h
  refine ⟨hl, ?_⟩
  rcases hr with e | ⟨g, cap, cur, e, hb, hh, r⟩
  · exact .inl e
  · exact .inr ⟨g, cap, cur, e, hb, by rw [h2 g (by rw [e]; rfl)]; exact hh, r⟩

/-- a row of ints that is read -/
theorem st_cells {w0 w : World} {v : Value} {l : List Nat} (h : St w0 w v (l.map fun i : Nat => iv (i : Int))) : ∃ a c, v = .slice a l.length c ∧ l.length ≤ c ∧ ∀ j, j < l.length → ∃ g, a = some ⟨g, 0, none⟩ ∧ w0.heap.size ≤ g ∧ g < w.heap.size ∧ w.cell? ⟨g, j, none⟩ = some (.int .i64 ((l.getD j 0 : Nat) : Int)) := by
  have ho := h.own
  rw [List.length_map] at ho
  rcases ho.2 with ⟨e1, e2⟩ | ⟨g, cap, cur, e1, hb, hg, hn, _, _, ht⟩
  · exact ⟨none, 0, by rw [e1, e2], by omega, fun j hj => by omega⟩
  · refine ⟨_, cap, e1, hn, fun j hj => ⟨g, rfl, hb, ?_, ?_⟩⟩
    · exact cell_lt (p := ⟨g, j, none⟩) (u := .int .i64 ((l.getD j 0 : Nat) : Int)) (by
        have hx : (l.map fun i : Nat => iv (i : Int))[j]? = some (.int .i64 ((l.getD j 0 : Nat) : Int)) := by
          simp [List.getElem?_map, List.getElem?_eq_getElem hj, iv, List.getD_eq_getElem?_getD]
        rw [← ht, List.getElem?_take] at hx
        split at hx
        · simp only [World.cell?, hg]; simpa using hx
        · cases hx)
    · have hx : (l.map fun i : Nat => iv (i : Int))[j]? = some (.int .i64 ((l.getD j 0 : Nat) : Int)) := by
        simp [List.getElem?_map, List.getElem?_eq_getElem hj, iv, List.getD_eq_getElem?_getD]
      rw [← ht, List.getElem?_take] at hx
      split at hx
      · simp only [World.cell?, hg]; simpa using hx
      · cases hx

theorem back_snoc (c nx : List Nat) (row k : Nat) : ((List.range (k + 1)).map fun j => c.getD (steps nx row (j + 1)) 0) = ((List.range k).map fun j => c.getD (steps nx row (j + 1)) 0) ++ [c.getD (steps nx row (k + 1)) 0] := by
  rw [List.range_succ, List.map_append, List.map_singleton]

theorem steps_lt {c nx : List Nat} (h : IsNext c nx) {row : Nat} (hr : row < c.length) : ∀ k, steps nx row k < c.length
  | 0 => hr
  | k + 1 => h.lt (getD_mem (by rw [h.len]; exact steps_lt h hr k))

set_option maxHeartbeats 4000000 in
theorem back_ok (b : List Nat) (a0 : Option Addr) (cap row : Nat) (w : World) (hc : ∀ j, j < b.length → ∃ g off, a0 = some ⟨g, off, none⟩ ∧ w.cell? ⟨g, off + j, none⟩ = some (.int .u8 ((b.getD j 0 : Nat) : Int))) (hb : ∀ z ∈ b, z < 256) (hn : b.length ≤ 1048576) (hr : row < b.length ∨ row = 0) :
    Calls Try.prog 15 #[.slice a0 b.length cap, .int .i64 (row : Int)] w fun e w' => ∃ v, e = .returned (.tuple #[v, .int .i64 0]) ∧ StB w w' v (back b (nextF b 256) row) := by
  have HX := hide (nextF_is hb)
  have HNX := next_ok b a0 cap w hc hb hn
  have HC := hide hc
  obtain ⟨n, hN⟩ : ∃ n, n = b.length := ⟨_, rfl⟩
  have HN := hide hN
  rw [← hN] at hn hr HNX ⊢
  have HNX := hide HNX
  have hd1 : ¬ (row : Int) < 0 := by omega
  have hd2 : decide ((row : Int) < 0) = false := by simp
  clear hN hc
  go_enter Try.func15, Try.ntmps15
  go_wp2_with fail
  refine (unhide HNX).mono ?_
  rintro e w1 ⟨v1, rfl, h1⟩
  obtain ⟨xa, xc, rfl, hxc, hcell⟩ := st_cells h1
  have hlen : (nextF b 256).length = n := by rw [(unhide HX).len, unhide HN]
  rw [hlen] at hcell hxc ⊢
  have HCL := hide hcell
  have HS1 := hide h1
  clear h1 hcell hlen
  have HGD : Hid (n ≤ row → row = 0) := hide (fun h => by omega)
  by_cases h0 : 0 < row
  · have f1 : (0 : Int) < (row : Int) := by omega
    have f2 : decide ((0 : Int) < (row : Int)) = true := by simp; omega
    have f3 : ¬ n ≤ row := by omega
    have f4 : decide (n ≤ row) = false := by simp; omega
    have f5 : ¬ (n : Int) ≤ (row : Int) := by omega
    go_wp2_with fail
    go_loopg [8, 9, 10] n (fun gk o xv c ws => ∃ i : Nat, gk = n - i ∧ i ≤ n ∧ xv = .int .i64 ((steps (nextF b 256) row i : Nat) : Int) ∧ c = .int .i64 (i : Int) ∧ Hid (StB w1 ws o ((List.range i).map fun j => b.getD (steps (nextF b 256) row (j + 1)) 0)))
    case atStart => exact ⟨0, by omega, by omega, rfl, rfl, hide (StB.nil w1)⟩
    case round =>
      obtain ⟨i, rfl, hin, rfl, rfl, HI⟩ := hrel
      rename World => wi
      by_cases hil : i < n
      · have ti : (i : Int) < (n : Int) := by omega
        have hrw : row < b.length := by rw [← unhide HN]; have := unhide HGD; omega
        have hx1 := steps_lt (unhide HX) hrw i
        have hx2 := steps_lt (unhide HX) hrw (i + 1)
        have hst : steps (nextF b 256) row (i + 1) = (nextF b 256).getD (steps (nextF b 256) row i) 0 := rfl
        have HSN := hide (back_snoc b (nextF b 256) row i)
        obtain ⟨g, rfl, _, hgl, c1⟩ := unhide HCL (steps (nextF b 256) row i) (by rw [unhide HN]; exact hx1)
        obtain ⟨g2, off2, rfl, c2⟩ := unhide HC (steps (nextF b 256) row (i + 1)) hx2
        rw [← hst] at c1
        have hw2 := (unhide HS1).bel
        have d1 := c1
        rw [← (unhide HI).bel.cell (cell_lt c1)] at d1
        have d2 := c2
        rw [← hw2.cell (cell_lt c2)] at d2
        rw [← (unhide HI).bel.cell (cell_lt d2)] at d2
        rw [← unhide HN] at hx1 hx2
        have HST : Hid (steps (nextF b 256) row (i + 1) = steps (nextF b 256) row (i + 1)) := hide rfl
        clear c1 c2 hst hw2
        generalize hy : steps (nextF b 256) row (i + 1) = y at *
        generalize steps (nextF b 256) row i = x at *
        have HY := hide hy
        have hxi : (x : Int) < (n : Int) := by omega
        have hyi : (y : Int) < (n : Int) := by omega
        clear hy
        go_wp2_with (at_builtin; refine wp_oneB rfl _ _ rfl _ _ (b.getD y 0) (by rfl) (by rfl) (unhide HI) (by rw [List.length_map, List.length_range]; omega) ?_; intro v3 w3 h3 _ _ _; have H3 := hide h3; clear h3)
        go_roundg (n - (i + 1))
        case measure => omega
        case rel => exact ⟨i + 1, rfl, by omega, by rw [unhide HY], by go_num, hide (by rw [unhide HSN]; exact unhide H3)⟩
      · obtain rfl : i = n := by omega
        have ti : ¬ (i : Int) < (i : Int) := by omega
        go_wp2_with fail
        go_ret2
        refine ⟨_, rfl, ?_⟩
        have q := unhide HI
        rw [unhide HN] at q
        have hb1 := (unhide HS1).bel
        refine ⟨⟨q.own.1, ?_⟩, hb1.trans (q.bel.mono hb1.size)⟩
        rcases q.own.2 with e | ⟨g, cap, cur, e, hg, r⟩
        · exact .inl e
        · exact .inr ⟨g, cap, cur, e, Nat.le_trans hb1.size hg, r⟩
  · have f1 : ¬ (0 : Int) < (row : Int) := by omega
    have f2 : decide ((0 : Int) < (row : Int)) = false := by simp; omega
    go_wp2_with fail
    go_loopg [8, 9, 10] n (fun gk o xv c ws => ∃ i : Nat, gk = n - i ∧ i ≤ n ∧ xv = .int .i64 ((steps (nextF b 256) row i : Nat) : Int) ∧ c = .int .i64 (i : Int) ∧ Hid (StB w1 ws o ((List.range i).map fun j => b.getD (steps (nextF b 256) row (j + 1)) 0)))
    case atStart => exact ⟨0, by omega, by omega, rfl, rfl, hide (StB.nil w1)⟩
    case round =>
      obtain ⟨i, rfl, hin, rfl, rfl, HI⟩ := hrel
      rename World => wi
      by_cases hil : i < n
      · have ti : (i : Int) < (n : Int) := by omega
        have hrw : row < b.length := by rw [← unhide HN]; have := unhide HGD; omega
        have hx1 := steps_lt (unhide HX) hrw i
        have hx2 := steps_lt (unhide HX) hrw (i + 1)
        have hst : steps (nextF b 256) row (i + 1) = (nextF b 256).getD (steps (nextF b 256) row i) 0 := rfl
        have HSN := hide (back_snoc b (nextF b 256) row i)
        obtain ⟨g, rfl, _, hgl, c1⟩ := unhide HCL (steps (nextF b 256) row i) (by rw [unhide HN]; exact hx1)
        obtain ⟨g2, off2, rfl, c2⟩ := unhide HC (steps (nextF b 256) row (i + 1)) hx2
        rw [← hst] at c1
        have hw2 := (unhide HS1).bel
        have d1 := c1
        rw [← (unhide HI).bel.cell (cell_lt c1)] at d1
        have d2 := c2
        rw [← hw2.cell (cell_lt c2)] at d2
        rw [← (unhide HI).bel.cell (cell_lt d2)] at d2
        rw [← unhide HN] at hx1 hx2
        have HST : Hid (steps (nextF b 256) row (i + 1) = steps (nextF b 256) row (i + 1)) := hide rfl
        clear c1 c2 hst hw2
        generalize hy : steps (nextF b 256) row (i + 1) = y at *
        generalize steps (nextF b 256) row i = x at *
        have HY := hide hy
        have hxi : (x : Int) < (n : Int) := by omega
        have hyi : (y : Int) < (n : Int) := by omega
        clear hy
        go_wp2_with (at_builtin; refine wp_oneB rfl _ _ rfl _ _ (b.getD y 0) (by rfl) (by rfl) (unhide HI) (by rw [List.length_map, List.length_range]; omega) ?_; intro v3 w3 h3 _ _ _; have H3 := hide h3; clear h3)
        go_roundg (n - (i + 1))
        case measure => omega
        case rel => exact ⟨i + 1, rfl, by omega, by rw [unhide HY], by go_num, hide (by rw [unhide HSN]; exact unhide H3)⟩
      · obtain rfl : i = n := by omega
        have ti : ¬ (i : Int) < (i : Int) := by omega
        go_wp2_with fail
        go_ret2
        refine ⟨_, rfl, ?_⟩
        have q := unhide HI
        rw [unhide HN] at q
        have hb1 := (unhide HS1).bel
        refine ⟨⟨q.own.1, ?_⟩, hb1.trans (q.bel.mono hb1.size)⟩
        rcases q.own.2 with e | ⟨g, cap, cur, e, hg, r⟩
        · exact .inl e
        · exact .inr ⟨g, cap, cur, e, Nat.le_trans hb1.size hg, r⟩

end Go.Proofs.Ytpemgjcgcmleiaa
