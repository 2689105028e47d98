/- Blocks of numbers. -/
import Derived.Test.YtgafabhhalhccaaSy
import Derived.Deep.MidRow
import Derived.Laws.MakeOwn
namespace Go.Proofs.Ytgafabhhalhccaa
open Go.RowKit Runs
set_option maxRecDepth 100000
set_option linter.unusedVariables false

def upd (T : Nat → Nat) (j y : Nat) : Nat → Nat := fun i => if i = j then y else T i

theorem heap_lt {w : World} {k : Nat} {o : Obj} (h : w.heap[k]? = some o) : k < w.heap.size := by
  rcases Nat.lt_or_ge k w.heap.size with h' | h'
  · exact h'
  · rw [Array.getElem?_eq_none h'] at h; cases h

/-- n numbers' cells -/
def icells (k : IntKind) (n : Nat) (C : Nat → Nat) : Array Value := ((List.range n).map fun i => Value.int k (C i : Int)).toArray

theorem icells_congr {k : IntKind} {n : Nat} {C C' : Nat → Nat} (h : ∀ i, i < n → C i = C' i) : icells k n C = icells k n C' := by
  unfold icells
  congr 1
  refine List.map_congr_left fun i hi => ?_
  simp at hi
  rw [h i hi]

def IntsAt (w : World) (k : IntKind) (t : TypeId) (g n : Nat) (C : Nat → Nat) : Prop := w.heap[g]? = some (.cells (icells k n C) t (0, 0))

section
variable {w w' : World} {k : IntKind} {t : TypeId} {g n B : Nat} {C C' : Nat → Nat}

theorem IntsAt.cell (h : IntsAt w k t g n C) (i : Nat) (hi : i < n) : w.cell? ⟨g, i, none⟩ = some (.int k (C i : Int)) := by
  simp only [World.cell?, show w.heap[g]? = _ from h]
  simp only [icells, List.getElem?_toArray, List.getElem?_map]
  rw [List.getElem?_range hi]
  simp

theorem IntsAt.free (h : IntsAt w k t g n C) (i : Nat) : w.frozen? ⟨g, i, none⟩ = false := by
  simp [World.frozen?, show w.heap[g]? = _ from h]

theorem IntsAt.lt (h : IntsAt w k t g n C) : g < w.heap.size := heap_lt h

theorem IntsAt.set (h : IntsAt w k t g n C) (i x : Nat) : IntsAt (w.setCell ⟨g, i, none⟩ (.int k (x : Int))) k t g n (upd C i x) := by
  unfold IntsAt
  rw [heap_setCell_same w g i _ t (.int k (x : Int)) h]
  congr 2
  apply Array.ext (by simp [icells])
  intro j j1 j2
  have hj : j < n := by simpa [icells] using j2
  rw [Array.getElem_setIfInBounds (by simpa [icells] using hj)]
  simp only [icells, upd, List.getElem_toArray, List.getElem_map, List.getElem_range]
  by_cases e : i = j
  · subst e; simp
  · rw [if_neg e, if_neg (by omega)]

theorem IntsAt.stays (h : IntsAt w k t g n C) (hb : Below B w w') (hg : g < B) : IntsAt w' k t g n C := by
  unfold IntsAt
  rw [hb.block g hg]
  exact h

theorem IntsAt.of (h : IntsAt w k t g n C) (hb : w'.heap[g]? = w.heap[g]?) : IntsAt w' k t g n C := by
  unfold IntsAt
  rw [hb]
  exact h

theorem IntsAt.congr (h : IntsAt w k t g n C) (hc : ∀ i, i < n → C i = C' i) : IntsAt w k t g n C' := by
  unfold IntsAt
  rw [← icells_congr hc]
  exact h

theorem IntsAt.other (h : IntsAt w k t g n C) (a : Addr) (v : Value) (hg : g ≠ a.block) : IntsAt (w.setCell a v) k t g n C := by
  unfold IntsAt
  rw [heap_setCell_other _ _ _ _ hg]
  exact h

theorem IntsAt.alloc (h : IntsAt w k t g n C) (o : Obj) : IntsAt (w.alloc o) k t g n C := by
  unfold IntsAt
  rw [Below.heap_alloc _ _ _ h.lt]
  exact h
end

theorem icells_at (k : IntKind) (n : Nat) (C : Nat → Nat) (i : Nat) (hi : i < n) : (icells k n C)[i]? = some (.int k (C i : Int)) := by
  unfold icells
  simp [List.getElem?_range hi]

theorem ints_made (w : World) (n : Nat) (hn : n ≤ 2000000) : (Instr.makeSlice 32 (.int .i64 (n : Int)) (.int .i64 (n : Int))).run Try.prog w = .ok (.slice (some ⟨w.heap.size, 0, none⟩) n n) (w.alloc (.cells (icells .i64 n (fun _ => 0)) 3)) := by
  obtain ⟨i0, hi, hz0, hz1, hz2⟩ := info_parts info3'
  have := run_make (P := Try.prog) w 32 3 i0 (.int .i64 0) Try.underlying32 hi hz0 .i64 .i64 (n : Int) (n : Int) (by omega) (by omega) (by rw [hz2]; omega) (by omega)
  rw [hz1] at this
  rw [this]
  congr 3
  apply Array.ext (by simp [madeCells, icells])
  intro k k1 k2
  simp [icells, madeCells, Value.cells, Nat.mod_one]

theorem bytes_made (w : World) (n : Nat) (hn : n ≤ 2000000) : (Instr.makeSlice 22 (.int .i64 (n : Int)) (.int .i64 (n : Int))).run Try.prog w = .ok (.slice (some ⟨w.heap.size, 0, none⟩) n n) (w.alloc (.cells (icells .u8 n (fun _ => 0)) 5)) := by
  obtain ⟨i0, hi, hz0, hz1, hz2⟩ := info_parts info5
  have := run_make (P := Try.prog) w 22 5 i0 (.int .u8 0) Try.underlying22 hi hz0 .i64 .i64 (n : Int) (n : Int) (by omega) (by omega) (by rw [hz2]; omega) (by omega)
  rw [hz1] at this
  rw [this]
  congr 3
  apply Array.ext (by simp [madeCells, icells])
  intro k k1 k2
  simp [icells, madeCells, Value.cells, Nat.mod_one]

end Go.Proofs.Ytgafabhhalhccaa
