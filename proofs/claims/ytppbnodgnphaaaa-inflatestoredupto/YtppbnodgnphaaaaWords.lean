/- Ints and words in memory; what lengths are good. -/
import Derived.Test.YtppbnodgnphaaaaBits
import Derived.Test.YtppbnodgnphaaaaCanon
import Derived.OwnWalk
import Derived.Deep.WholeRow
namespace Go.Proofs.Ytppbnodgnphaaaa
open Go.RowKit
set_option maxRecDepth 100000

/-- A slice value that reads as the ints zs. -/
def ReadsI (w : World) (v : Value) (zs : List Int) : Prop :=
  ∃ a cap, v = .slice a zs.length cap ∧ (0 < zs.length → ∃ b off, a = some ⟨b, off, none⟩ ∧ ∀ j, j < zs.length → w.cell? ⟨b, off + j, none⟩ = some (.int .i64 (zs.getD j 0)))

theorem ReadsI.stays {w w1 : World} (hb : Below w.heap.size w w1) {v : Value} {zs : List Int} (h : ReadsI w v zs) : ReadsI w1 v zs := by
  obtain ⟨a, cap, rfl, hs⟩ := h
  refine ⟨a, cap, rfl, fun h0 => ?_⟩
  obtain ⟨b, off, rfl, h2⟩ := hs h0
  exact ⟨b, off, rfl, fun j hj => cell_stays hb (h2 j hj)⟩

/-- n words' cells -/
def wcells (n : Nat) (W L : Nat → Nat) : Array Value := ((List.range (2 * n)).map fun k => if k % 2 = 0 then Value.int .u32 (W (k / 2) : Int) else Value.int .i64 (L (k / 2) : Int)).toArray

theorem wcells_size (n : Nat) (W L : Nat → Nat) : (wcells n W L).size = 2 * n := by simp [wcells]

theorem wcells_congr {n : Nat} {W W' L L' : Nat → Nat} (h1 : ∀ i, i < n → W i = W' i) (h2 : ∀ i, i < n → L i = L' i) : wcells n W L = wcells n W' L' := by
  unfold wcells
  congr 1
  refine List.map_congr_left fun k hk => ?_
  simp at hk
  rw [h1 (k / 2) (by omega), h2 (k / 2) (by omega)]

def WordsAt (w : World) (t : TypeId) (g n : Nat) (W L : Nat → Nat) : Prop := w.heap[g]? = some (.cells (wcells n W L) t (0, 0))

theorem WordsAt.word {w : World} {t : TypeId} {g n : Nat} {W L : Nat → Nat} (h : WordsAt w t g n W L) (i : Nat) (hi : i < n) : w.cell? ⟨g, i * 2, none⟩ = some (.int .u32 (W i : Int)) := by
  simp only [World.cell?, show w.heap[g]? = _ from h]
  simp only [wcells, List.getElem?_toArray, List.getElem?_map]
  rw [List.getElem?_range (show i * 2 < 2 * n by omega)]
  simp

theorem WordsAt.len {w : World} {t : TypeId} {g n : Nat} {W L : Nat → Nat} (h : WordsAt w t g n W L) (i : Nat) (hi : i < n) : w.cell? ⟨g, i * 2 + 1, none⟩ = some (.int .i64 (L i : Int)) := by
  simp only [World.cell?, show w.heap[g]? = _ from h]
  simp only [wcells, List.getElem?_toArray, List.getElem?_map]
  rw [List.getElem?_range (show i * 2 + 1 < 2 * n by omega)]
  simp [show (i * 2 + 1) % 2 = 1 by omega, show (i * 2 + 1) / 2 = i by omega]

theorem WordsAt.free {w : World} {t : TypeId} {g n : Nat} {W L : Nat → Nat} (h : WordsAt w t g n W L) (k : Nat) : w.frozen? ⟨g, k, none⟩ = false := by
  simp [World.frozen?, show w.heap[g]? = _ from h]

def upd (T : Nat → Nat) (j y : Nat) : Nat → Nat := fun i => if i = j then y else T i

theorem WordsAt.set {w : World} {t : TypeId} {g n : Nat} {W L : Nat → Nat} (h : WordsAt w t g n W L) (i x y : Nat) :
    WordsAt ((w.setCell ⟨g, i * 2, none⟩ (.int .u32 (x : Int))).setCell ⟨g, i * 2 + 1, none⟩ (.int .i64 (y : Int))) t g n (upd W i x) (upd L i y) := by
  have h1 := heap_setCell_same w g (i * 2) _ t (.int .u32 (x : Int)) h
  have h2 := heap_setCell_same _ g (i * 2 + 1) _ t (.int .i64 (y : Int)) h1
  unfold WordsAt
  rw [h2]
  congr 2
  apply Array.ext (by simp [wcells])
  intro k k1 k2
  have hk : k < 2 * n := by simpa [wcells] using k2
  rw [Array.getElem_setIfInBounds (by simpa [wcells] using hk), Array.getElem_setIfInBounds (by simpa [wcells] using hk)]
  simp only [wcells, upd, List.getElem_toArray, List.getElem_map, List.getElem_range]
  by_cases e1 : i * 2 + 1 = k
  · subst e1
    simp [show (i * 2 + 1) % 2 = 1 by omega, show (i * 2 + 1) / 2 = i by omega]
  · by_cases e2 : i * 2 = k
    · subst e2
      simp
    · rw [if_neg e1, if_neg e2]
      by_cases e3 : k % 2 = 0
      · rw [if_pos e3, if_pos e3, if_neg (by omega)]
      · rw [if_neg e3, if_neg e3, if_neg (by omega)]

theorem WordsAt.stays {w w' : World} {t : TypeId} {g n B : Nat} {W L : Nat → Nat} (h : WordsAt w t g n W L) (hb : Below B w w') (hg : g < B) : WordsAt w' t g n W L := by
  unfold WordsAt
  rw [hb.block g hg]
  exact h

theorem info43 : (Try.prog.info? 66).map (fun i => (i.zero, i.size, i.bytes)) = some (some (.agg #[.int .u32 0, .int .i64 0]), 2, 16) := by kernel_rfl

theorem words_made (w : World) (n : Nat) (hn : n ≤ 65536) : (Instr.makeSlice 46 (.int .i64 (n : Int)) (.int .i64 (n : Int))).run Try.prog w = .ok (.slice (some ⟨w.heap.size, 0, none⟩) n n) (w.alloc (.cells (wcells n (fun _ => 0) (fun _ => 0)) 66)) := by
  obtain ⟨i0, hi, hz0, hz1, hz2⟩ := info_parts info43
  have := run_make (P := Try.prog) w 46 66 i0 (.agg #[.int .u32 0, .int .i64 0]) Try.underlying46 hi hz0 .i64 .i64 (n : Int) (n : Int) (by omega) (by omega) (by rw [hz2]; omega) (by omega)
  rw [hz1] at this
  rw [this]
  congr 3
  apply Array.ext (by simp [madeCells, wcells]; omega)
  intro k k1 k2
  have hk : k < 2 * n := by simpa [wcells] using k2
  simp only [wcells, madeCells, List.getElem_toArray, List.getElem_map, List.getElem_range, Array.getElem_map, Array.getElem_range]
  by_cases e : k % 2 = 0
  · simp [Value.cells, e]
  · have e1 : k % 2 = 1 := by omega
    simp [Value.cells, e1]

theorem info74 : (Try.prog.info? 110).map (fun i => (i.zero, i.size, i.bytes)) = some (some (.agg #[.int .u32 0, .int .i64 0]), 2, 16) := by kernel_rfl

theorem pwords_made (w : World) (n : Nat) (hn : n ≤ 65536) : (Instr.makeSlice 95 (.int .i64 (n : Int)) (.int .i64 (n : Int))).run Try.prog w = .ok (.slice (some ⟨w.heap.size, 0, none⟩) n n) (w.alloc (.cells (wcells n (fun _ => 0) (fun _ => 0)) 110)) := by
  obtain ⟨i0, hi, hz0, hz1, hz2⟩ := info_parts info74
  have := run_make (P := Try.prog) w 95 110 i0 (.agg #[.int .u32 0, .int .i64 0]) Try.underlying95 hi hz0 .i64 .i64 (n : Int) (n : Int) (by omega) (by omega) (by rw [hz2]; omega) (by omega)
  rw [hz1] at this
  rw [this]
  congr 3
  apply Array.ext (by simp [madeCells, wcells]; omega)
  intro k k1 k2
  have hk : k < 2 * n := by simpa [wcells] using k2
  simp only [wcells, madeCells, List.getElem_toArray, List.getElem_map, List.getElem_range, Array.getElem_map, Array.getElem_range]
  by_cases e : k % 2 = 0
  · simp [Value.cells, e]
  · have e1 : k % 2 = 1 := by omega
    simp [Value.cells, e1]

/-! ### Which lengths are good -/

def okArgs (n : Nat) (most : Int) : Prop := 1 ≤ most ∧ most ≤ 20 ∧ 1 ≤ n ∧ n ≤ 65536
def okLen (most z : Int) : Prop := 0 ≤ z ∧ z ≤ most
/-- lengths as they are counted -/
def nat (zs : List Int) : List Nat := zs.map Int.toNat
/-- how many symbols have words -/
def words (ls : List Nat) : Nat := (ls.filter (fun l => decide (0 < l))).length
def okSum (ls : List Nat) (loose : Bool) : Prop := Canon.sum ls = 1048576 ∨ loose = true ∧ (words ls = 0 ∨ words ls = 1 ∧ ls.count 1 = 1)

end Go.Proofs.Ytppbnodgnphaaaa
