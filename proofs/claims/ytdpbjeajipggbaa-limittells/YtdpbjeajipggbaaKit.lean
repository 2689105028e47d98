/- Rows of ints in memory, and what a call may change. -/
import Derived.Test.YtdpbjeajipggbaaRows
import Derived.WalkKit
import Derived.WalkSpells
import Derived.Handy
import Derived.Laws.Rows
import Derived.WalkMore
import Derived.Deep.LoopGhost
import Derived.Deep.RegionHeld3
import Derived.Deep.AppendLies
import Derived.Deep.DrawnRows
import Derived.Deep.DeepMust
import Derived.StillTailTactics
import Derived.Laws.CopyOwn
import Derived.Laws.IdiomStrings
import Derived.BigQuiet
import Derived.Deep.QuietTactic
import Derived.OwnWalk
import Derived.Deep.WholeRow
import Derived.Deep.DeepCutAuto
import Derived.Laws.AppendOwnNone
namespace Go.Proofs.Ytdpbjeajipggbaa
open Go.RowKit
set_option linter.unusedVariables false

theorem hide {p : Prop} (h : p) : Hid p := h

theorem unhide {p : Prop} (h : Hid p) : p := h

theorem cell_lt {w : World} {p : Addr} {u : Value} (h : w.cell? p = some u) : p.block < w.heap.size := by
  rcases Nat.lt_or_ge p.block w.heap.size with h' | h'
  · exact h'
  · simp [World.cell?, Array.getElem?_eq_none h'] at h

theorem cell_stays {w w1 : World} (hb : Below w.heap.size w w1) {p : Addr} {u : Value} (h : w.cell? p = some u) : w1.cell? p = some u := by
  rw [hb.cell (cell_lt h)]; exact h

theorem heap_lt {w : World} {k : Nat} {o : Obj} (h : w.heap[k]? = some o) : k < w.heap.size := by
  rcases Nat.lt_or_ge k w.heap.size with h' | h'
  · exact h'
  · rw [Array.getElem?_eq_none h'] at h; cases h

/-- A slice value that reads as the ints zs. -/
def ReadsI (w : World) (v : Value) (zs : List Int) : Prop :=
  ∃ a cap, v = .slice a zs.length cap ∧ (0 < zs.length → ∃ b off, a = some ⟨b, off, none⟩ ∧ ∀ j, j < zs.length → w.cell? ⟨b, off + j, none⟩ = some (.int .i64 (zs.getD j 0)))

theorem ReadsI.stays {w w1 : World} (hb : Below w.heap.size w w1) {v : Value} {zs : List Int} (h : ReadsI w v zs) : ReadsI w1 v zs := by
  obtain ⟨a, cap, rfl, hs⟩ := h
  refine ⟨a, cap, rfl, fun h0 => ?_⟩
  obtain ⟨b, off, rfl, h2⟩ := hs h0
  exact ⟨b, off, rfl, fun j hj => cell_stays hb (h2 j hj)⟩

def upd (T : Nat → Nat) (j y : Nat) : Nat → Nat := fun i => if i = j then y else T i

/-- n numbers' cells -/
def icells (k : IntKind) (n : Nat) (C : Nat → Nat) : Array Value := ((List.range n).map fun i => Value.int k (C i : Int)).toArray

theorem icells_congr {k : IntKind} {n : Nat} {C C' : Nat → Nat} (h : ∀ i, i < n → C i = C' i) : icells k n C = icells k n C' := by
  unfold icells
  congr 1
  refine List.map_congr_left fun i hi => ?_
  simp at hi
  rw [h i hi]

def IntsAt (w : World) (k : IntKind) (t : TypeId) (g n : Nat) (C : Nat → Nat) : Prop := w.heap[g]? = some (.cells (icells k n C) t (0, 0))

section
variable {w w' : World} {k : IntKind} {t : TypeId} {g n B : Nat} {C C' : Nat → Nat}

theorem IntsAt.cell (h : IntsAt w k t g n C) (i : Nat) (hi : i < n) : w.cell? ⟨g, i, none⟩ = some (.int k (C i : Int)) := by
  simp only [World.cell?, show w.heap[g]? = _ from h]
  simp only [icells, List.getElem?_toArray, List.getElem?_map]
  rw [List.getElem?_range hi]
  simp

theorem IntsAt.free (h : IntsAt w k t g n C) (i : Nat) : w.frozen? ⟨g, i, none⟩ = false := by
  simp [World.frozen?, show w.heap[g]? = _ from h]

theorem IntsAt.lt (h : IntsAt w k t g n C) : g < w.heap.size := heap_lt h

theorem IntsAt.set (h : IntsAt w k t g n C) (i x : Nat) : IntsAt (w.setCell ⟨g, i, none⟩ (.int k (x : Int))) k t g n (upd C i x) := by
  unfold IntsAt
  rw [heap_setCell_same w g i _ t (.int k (x : Int)) h]
  congr 2
  apply Array.ext (by simp [icells])
  intro j j1 j2
  have hj : j < n := by simpa [icells] using j2
  rw [Array.getElem_setIfInBounds (by simpa [icells] using hj)]
  simp only [icells, upd, List.getElem_toArray, List.getElem_map, List.getElem_range]
  by_cases e : i = j
  · subst e; simp
  · rw [if_neg e, if_neg (by omega)]

theorem IntsAt.stays (h : IntsAt w k t g n C) (hb : Below B w w') (hg : g < B) : IntsAt w' k t g n C := by
  unfold IntsAt
  rw [hb.block g hg]
  exact h

theorem IntsAt.congr (h : IntsAt w k t g n C) (hc : ∀ i, i < n → C i = C' i) : IntsAt w k t g n C' := by
  unfold IntsAt
  rw [← icells_congr hc]
  exact h

theorem IntsAt.other (h : IntsAt w k t g n C) (a : Addr) (v : Value) (hg : g ≠ a.block) : IntsAt (w.setCell a v) k t g n C := by
  unfold IntsAt
  rw [heap_setCell_other _ _ _ _ hg]
  exact h

theorem IntsAt.alloc (h : IntsAt w k t g n C) (o : Obj) : IntsAt (w.alloc o) k t g n C := by
  unfold IntsAt
  rw [Below.heap_alloc _ _ _ h.lt]
  exact h

end

theorem info3' : (Try.prog.info? 3).map (fun i => (i.zero, i.size, i.bytes)) = some (some (.int .i64 0), 1, 8) := by kernel_rfl

theorem ints_made (w : World) (n : Nat) (hn : n ≤ 65536) : (Instr.makeSlice 22 (.int .i64 (n : Int)) (.int .i64 (n : Int))).run Try.prog w = .ok (.slice (some ⟨w.heap.size, 0, none⟩) n n) (w.alloc (.cells (icells .i64 n (fun _ => 0)) 3)) := by
  obtain ⟨i0, hi, hz0, hz1, hz2⟩ := info_parts info3'
  have := run_make (P := Try.prog) w 22 3 i0 (.int .i64 0) Try.underlying22 hi hz0 .i64 .i64 (n : Int) (n : Int) (by omega) (by omega) (by rw [hz2]; omega) (by omega)
  rw [hz1] at this
  rw [this]
  congr 3
  apply Array.ext (by simp [madeCells, icells])
  intro k k1 k2
  simp [icells, madeCells, Value.cells, Nat.mod_one]

/-- A row of ints, whatever they are. -/
def RowI (w : World) (g n : Nat) : Prop := ∃ cur : Array Value, w.heap[g]? = some (.cells cur 3 (0, 0)) ∧ n ≤ cur.size

theorem RowI.cell {w : World} {g n : Nat} (h : RowI w g n) (j : Nat) (hj : j < n) : (∃ y, w.cell? ⟨g, j, none⟩ = some y) ∧ w.frozen? ⟨g, j, none⟩ = false := by
  obtain ⟨cur, hh, hs⟩ := h
  refine ⟨⟨cur[j], ?_⟩, by simp [World.frozen?, hh]⟩
  simp only [World.cell?, hh]
  simp [show j < cur.size by omega]

theorem RowI.set {w : World} {g n : Nat} (h : RowI w g n) (j : Nat) (y : Value) : RowI (w.setCell ⟨g, j, none⟩ y) g n := by
  obtain ⟨cur, hh, hs⟩ := h
  exact ⟨_, heap_setCell_same w g j cur 3 y hh, by simpa using hs⟩

def iv (z : Int) : Value := .int .i64 z

/-- what a slice of ints reads as, with a nil one told apart -/
def ReadsN (w : World) (a : Option Addr) (cap : Nat) (zs : List Int) : Prop := (a = none ∧ cap = 0 ∧ zs = []) ∨ ∃ ad, a = some ad ∧ ∀ (j : Nat) u, (zs.map iv)[j]? = some u → w.cell? (ad.add j) = some u

theorem ReadsN.reads {w : World} {a : Option Addr} {cap : Nat} {zs : List Int} (h : ReadsN w a cap zs) : ReadsI w (.slice a zs.length cap) zs := by
  refine ⟨a, cap, rfl, fun h0 => ?_⟩
  rcases h with ⟨_, _, rfl⟩ | ⟨ad, rfl, hc⟩
  · simp at h0
  · have h1 := hc 0 (iv zs[0]) (by simp [h0])
    have hsp : ad.spot = none := by
      cases hs : ad.spot with
      | none => rfl
      | some x =>
        exfalso
        rw [show ad.add 0 = ad by simp [Addr.add]] at h1
        unfold World.cell? at h1
        split at h1
        · rw [hs] at h1; simp at h1
        · cases h1
    refine ⟨ad.block, ad.off, by cases ad; simp_all, fun j hj => ?_⟩
    have h2 := hc j (iv zs[j]) (by simp [hj])
    have e : ad.add j = ⟨ad.block, ad.off + j, none⟩ := by
      cases ad
      simp only at hsp
      subst hsp
      by_cases hq : j = 0 <;> simp [Addr.add, hq]
    rw [e] at h2
    simpa [iv, hj] using h2

structure Only (rp : Nat) (w w' : World) : Prop where
  os : w'.os = w.os
  tape : w'.tape = w.tape
  output : w'.output = w.output
  size : w.heap.size ≤ w'.heap.size
  keep : ∀ x, x < w.heap.size → x ≠ rp → w'.heap[x]? = w.heap[x]?

theorem Only.below {rp B : Nat} {w w' : World} (h : Only rp w w') (hB : B ≤ rp) (hs : B ≤ w.heap.size) : Below B w w' :=
  ⟨h.os, h.tape, h.output, h.size, fun k hk => h.keep k (by omega) (by omega)⟩

theorem Only.refl (g : Nat) (w : World) : Only g w w := ⟨rfl, rfl, rfl, Nat.le_refl _, fun _ _ _ => rfl⟩

theorem Only.set {g : Nat} {w w' : World} (h : Only g w w') (j : Nat) (v : Value) : Only g w (w'.setCell ⟨g, j, none⟩ v) :=
  ⟨h.os, h.tape, h.output, by simpa using h.size, fun x hx hne => by rw [heap_setCell_other _ _ _ _ (by exact hne)]; exact h.keep x hx hne⟩

theorem Only.of_below {g : Nat} {w w' : World} (h : Below w.heap.size w w') : Only g w w' := ⟨h.os, h.tape, h.output, h.size, fun x hx _ => h.block x hx⟩

theorem Only.trans {g : Nat} {a b c : World} (h : Only g a b) (k : Only g b c) : Only g a c :=
  ⟨k.os.trans h.os, k.tape.trans h.tape, k.output.trans h.output, Nat.le_trans h.size k.size, fun x hx hne => by rw [k.keep x (by have := h.size; omega) hne, h.keep x hx hne]⟩

theorem own_keep {w w' : World} {base e size n : Nat} {v : Value} {xs : List Value} (h : w.ownsRow base e size v n xs) (h2 : ∀ g, v.ownBlock = some g → w'.heap[g]? = w.heap[g]?) : w'.ownsRow base e size v n xs := by
  obtain ⟨hl, hr⟩ := h
  refine ⟨hl, ?_⟩
  rcases hr with e | ⟨g, cap, cur, e, hb, hh, r⟩
  · exact .inl e
  · exact .inr ⟨g, cap, cur, e, hb, by rw [h2 g (by rw [e]; rfl)]; exact hh, r⟩

theorem Only.drewN (g : Nat) (w : World) (n : Nat) : Only g w (w.drewN n) := ⟨rfl, rfl, rfl, Nat.le_refl _, fun _ _ _ => rfl⟩

theorem Only.drew (g : Nat) (w : World) : Only g w w.drew := ⟨rfl, rfl, rfl, Nat.le_refl _, fun _ _ _ => rfl⟩

theorem Only.alloc (g : Nat) (w : World) (o : Obj) : Only g w (w.alloc o) := Only.of_below ((Below.refl _ _).alloc (Nat.le_refl _) o)

theorem row_some {w : World} {base N : Nat} {lv : Value} {xs : List Value} (h : w.ownsRow base 3 1 lv N xs) (h0 : 0 < N) : ∃ g c, lv = .slice (some ⟨g, 0, none⟩) N c ∧ ∀ (j : Nat) u, xs[j]? = some u → w.cell? ((⟨g, 0, none⟩ : Addr).add j) = some u := by
  rcases h.2 with ⟨_, rfl⟩ | ⟨g, c, cur, e, _⟩
  · omega
  · refine ⟨g, c, e, fun j u hj => h.cells (by rw [e]; rfl) j u hj⟩

section
variable {ws : World} {v10 : Value} {ss : List Int}

theorem own_slice {base n : Nat} {xs : List Value} (h : ws.ownsRow base 3 1 v10 n xs) : ∃ a c, v10 = .slice a n c := by
  rcases h.2 with ⟨e, rfl⟩ | ⟨g, cap, _, e, _⟩
  · exact ⟨none, 0, e⟩
  · exact ⟨_, cap, e⟩

theorem own_cell {base n : Nat} (h : ws.ownsRow base 3 1 v10 n (ss.map iv)) (i : Nat) (hi : i < n) : ∃ g c, v10 = .slice (some ⟨g, 0, none⟩) n c ∧ ws.cell? ⟨g, i, none⟩ = some (.int .i64 (ss.getD i 0)) := by
  have hl := h.1
  simp at hl
  rcases h.2 with ⟨_, rfl⟩ | ⟨g, cap, cur, e, _, hh, _, _, _, ht⟩
  · omega
  · refine ⟨g, cap, e, ?_⟩
    have h2 : (cur.toList.take (n * 1))[i]? = some (iv ss[i]) := by rw [ht]; simp [show i < ss.length by omega]
    rw [List.getElem?_take, if_pos (by omega)] at h2
    simp only [World.cell?, hh]
    simpa [iv, show i < ss.length by omega] using h2

end

end Go.Proofs.Ytdpbjeajipggbaa
