/- same over rows of ints that a call handed out. -/
import Derived.Test.YtgafabhhalhccaaPp2
namespace Go.Proofs.Ytgafabhhalhccaa
open Go.RowKit Runs
set_option maxRecDepth 100000
set_option linter.unusedVariables false
attribute [local go_sem ↓] Go.wp_at_zero Go.wp_at_succ

/-- ints that lie in a block of one's own, from lo on and ahead of hi -/
def RowI (lo hi : Nat) (w : World) (v : Value) (l : List Int) : Prop :=
  ∃ a cap, v = .slice a l.length cap ∧ (0 < l.length → ∃ g cs, a = some ⟨g, 0, none⟩ ∧ lo ≤ g ∧ g < hi ∧ w.heap[g]? = some (.cells cs 3 (0, 0)) ∧ ∀ j, j < l.length → cs[j]? = some (.int .i64 (l.getD j 0)))

theorem RowI.of_below {lo hi : Nat} {w w' : World} {v : Value} {l : List Int} (h : RowI lo hi w v l) (hb : Below w.heap.size w w') : RowI lo hi w' v l := by
  obtain ⟨a, cap, rfl, hs⟩ := h
  refine ⟨a, cap, rfl, fun h0 => ?_⟩
  obtain ⟨g, cs, e, h1, h2, h3, h4⟩ := hs h0
  exact ⟨g, cs, e, h1, h2, by rw [hb.block g (heap_lt h3)]; exact h3, h4⟩

theorem RowI.of_chg {lo hi lo' hi' : Nat} {w w' : World} {v : Value} {l : List Int} (h : RowI lo hi w v l) (hb : Chg lo' hi' w w') (hd : hi ≤ lo' ∨ hi' ≤ lo) : RowI lo hi w' v l := by
  obtain ⟨a, cap, rfl, hs⟩ := h
  refine ⟨a, cap, rfl, fun h0 => ?_⟩
  obtain ⟨g, cs, e, h1, h2, h3, h4⟩ := hs h0
  exact ⟨g, cs, e, h1, h2, by rw [hb.keep g (heap_lt h3) (by omega)]; exact h3, h4⟩

theorem St.toRowI {w w' : World} {v : Value} {l : List Int} (h : St w w' v (l.map iv)) : RowI w.heap.size w'.heap.size w' v l := by
  have hl : (l.map iv).length = l.length := List.length_map ..
  rcases h.own.2 with ⟨e1, e2⟩ | ⟨g, cap, cur, e1, hb, hg, hn, _, _, ht⟩
  · exact ⟨Option.none, 0, by rw [e1]; congr 1; omega, fun h0 => by omega⟩
  · refine ⟨_, cap, by rw [e1, hl], fun h0 => ⟨g, cur, rfl, hb, heap_lt hg, hg, fun j hj => ?_⟩⟩
    have hx : (l.map iv)[j]? = some (.int .i64 (l.getD j 0)) := by
      simp [iv, List.getElem?_map, List.getElem?_eq_getElem hj, List.getD_eq_getElem?_getD]
    rw [← ht, List.getElem?_take] at hx
    split at hx
    · simpa using hx
    · cases hx

theorem row_intsI {w : World} {g n : Nat} {l : List Nat} (hn : l.length = n) (h : IntsAt w .i64 3 g n (fun i => l.getD i 0)) : RowI g (g + 1) w (.slice (some ⟨g, 0, none⟩) n n) (l.map fun d : Nat => (d : Int)) := by
  subst hn
  refine ⟨_, _, by rw [List.length_map], fun _ => ⟨g, _, rfl, Nat.le_refl _, by omega, h, fun j hj => ?_⟩⟩
  rw [List.length_map] at hj
  rw [icells_at .i64 _ _ j hj]
  simp [List.getD_eq_getElem?_getD, List.getElem?_map, List.getElem?_eq_getElem hj]

/-- cells from a place on -/
def CellsFromI (w : World) (g : Nat) (l : List Int) (i : Nat) : Prop := ∃ cs, w.heap[g]? = some (.cells cs 3 (0, 0)) ∧ ∀ j, i ≤ j → j < l.length → cs[j]? = some (.int .i64 (l.getD j 0))

theorem CellsFromI.cell {w : World} {g : Nat} {l : List Int} {i : Nat} (h : CellsFromI w g l i) (hi : i < l.length) : w.cell? ⟨g, i, none⟩ = some (.int .i64 (l.getD i 0)) ∧ w.frozen? ⟨g, i, none⟩ = false := by
  obtain ⟨cs, h1, h2⟩ := h
  have := h2 i (Nat.le_refl _) hi
  exact ⟨by simp only [World.cell?, h1]; exact this, by simp [World.frozen?, h1]⟩

theorem CellsFromI.set {w : World} {g : Nat} {l : List Int} {i : Nat} (h : CellsFromI w g l i) (v : Value) : CellsFromI (w.setCell ⟨g, i, none⟩ v) g l (i + 1) := by
  obtain ⟨cs, h1, h2⟩ := h
  refine ⟨_, heap_setCell_same w g i cs 3 v h1, fun j hj hl => ?_⟩
  rw [Array.getElem?_setIfInBounds_ne (by omega)]
  exact h2 j (by omega) hl

set_option maxHeartbeats 2000000 in
theorem sameI_ok (lo hi lo' hi' : Nat) (vx vw : Value) (l : List Int) (w : World) (hx : RowI lo hi w vx l) (hw : RowI lo' hi' w vw l) (hd : hi ≤ lo' ∨ hi' ≤ lo) (hn : l.length ≤ 10000000000000) :
    Calls Try.prog 18 #[vx, vw] w fun e w' => e = .returned (.bool true) ∧ Chg lo hi w w' := by
  obtain ⟨a, cap, rfl, hs⟩ := hx
  obtain ⟨a', cap', rfl, hs'⟩ := hw
  obtain ⟨n, hN⟩ : ∃ n, n = l.length := ⟨_, rfl⟩
  have HN := hide hN
  rw [← hN] at hn ⊢
  have HS := hide hs
  have HS' := hide hs'
  clear hN hs hs'
  go_enter Try.func18, Try.ntmps18
  go_wp2_with fail
  go_loopg [5] n (fun gk c ws => ∃ i : Nat, gk = n - i ∧ i ≤ n ∧ c = .int .i64 (i : Int) ∧ Hid (Chg lo hi w ws ∧ ∀ g, (0 < n → a = some ⟨g, 0, none⟩) → 0 < n → CellsFromI ws g l i))
  case atStart =>
    refine ⟨0, by omega, by omega, rfl, hide ⟨Chg.refl _ _ _, fun g hg h0 => ?_⟩⟩
    obtain ⟨g', cs, e, _, _, h3, h4⟩ := unhide HS (by rw [← unhide HN]; exact h0)
    rw [hg h0] at e
    injection e with e
    injection e with e
    subst e
    exact ⟨cs, h3, fun j _ hj => h4 j hj⟩
  case round =>
    obtain ⟨i, rfl, hin, rfl, HI⟩ := hrel
    rename World => wi
    by_cases hil : i < n
    · have ti : (i : Int) < (n : Int) := by omega
      obtain ⟨g, cs, rfl, hg1, hg2, _, _⟩ := unhide HS (by rw [← unhide HN]; omega)
      obtain ⟨g', cs', rfl, hg1', hg2', hcs1, hcs2⟩ := unhide HS' (by rw [← unhide HN]; omega)
      obtain ⟨d1, d2⟩ := ((unhide HI).2 g (fun _ => rfl) (by omega)).cell (by rw [← unhide HN]; exact hil)
      have d3 : wi.cell? ⟨g', i, none⟩ = some (.int .i64 (l.getD i 0)) := by
        have h1 := (unhide HI).1.keep g' (heap_lt hcs1) (by omega)
        simp only [World.cell?, h1, hcs1]
        exact hcs2 i (by rw [← unhide HN]; exact hil)
      generalize l.getD i 0 = x at *
      clear hcs1 hcs2
      have e1 : (x != x) = false := by simp
      go_wp2_with fail
      go_quiet (fail)
      go_wp2_with fail
      go_roundg (n - (i + 1))
      case measure => omega
      case rel =>
        refine ⟨i + 1, rfl, by omega, by go_num, hide ⟨(drewN_chg (unhide HI).1 nq).set i _ hg1 hg2, fun g'' hg'' h0 => ?_⟩⟩
        have e := hg'' h0
        injection e with e
        injection e with e
        subst e
        have h2 : CellsFromI (wi.drewN nq) g l i := (unhide HI).2 g (fun _ => rfl) h0
        exact h2.set _
    · obtain rfl : i = n := by omega
      have ti : ¬ (i : Int) < (i : Int) := by omega
      go_wp2_with fail
      go_ret
      exact ⟨rfl, (unhide HI).1⟩

theorem symI_len (n : Int) : ∀ (ps : List Int) (run : Nat) (out : List Int), (symI n ps run out).1.length ≤ out.length + run + ps.length + 1
  | [], run, out => by
    have := digitsI_len run
    rw [symI]; simp; omega
  | p :: r, run, out => by
    rw [symI]
    split
    · simp
    · split
      · have := symI_len n r (run + 1) out
        simp only [List.length_cons]; omega
      · have := symI_len n r 0 (out ++ digitsI run ++ [p + 1])
        have h2 := digitsI_len run
        simp only [List.length_cons, List.length_append, List.length_nil] at this ⊢; omega

theorem symOut_len (ps : List Int) (n : Int) : (symOut ps n).1.length ≤ ps.length + 1 := by
  unfold symOut
  split
  · simp
  · have := symI_len n ps 0 []
    simpa using this

end Go.Proofs.Ytgafabhhalhccaa
