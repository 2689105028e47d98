/-
  What a slice of bytes reads as, and what a call may change.
-/
import Derived.Test.YtcppnkbfndhioaaRows
import Derived.Test.YtcppnkbfndhioaaAid
import Derived.WalkKit
import Derived.WalkSpells
import Derived.Handy
import Derived.Laws.Rows
import Derived.Laws.BitsAllLaws
import Derived.Laws.BytesString
import Derived.Laws.CopyOwn
import Derived.Laws.BytesArg
import Derived.Laws.AppendOwnNone
import Derived.Deep.LoopGhost
import Derived.Deep.QuietTactic
import Derived.Deep.DeepMust
import Derived.Deep.DrawnRows
import Derived.Deep.AppendLies
import Derived.Deep.DeepCutAuto
import Derived.Maps.AppendAt
import Derived.BigQuiet
import Derived.Lib.SmallJoins
import Derived.Laws.IdiomStrings
import Derived.KernelRfl
namespace Go.Proofs.Ytcppnkbfndhioaa
open Go.RowKit
set_option maxRecDepth 100000

theorem hide {p : Prop} (h : p) : Hid p := h

theorem unhide {p : Prop} (h : Hid p) : p := h

def bv (z : Nat) : Value := .int .u8 (z : Int)

theorem info5 : (Try.prog.info? 5).map (fun i => (i.zero, i.size, i.bytes)) = some (some (.int .u8 0), 1, 1) := by kernel_rfl

/-- A slice value that reads as the bytes zs. -/
def Reads (w : World) (v : Value) (zs : List Nat) : Prop :=
  ∃ a cap, v = .slice a zs.length cap ∧ (0 < zs.length → ∃ ad, a = some ad ∧ ∀ (j : Nat) u, (zs.map bv)[j]? = some u → w.cell? (ad.add j) = some u)

theorem size5 : (Try.prog.info? 5).map (·.size) = some 1 := by kernel_rfl

theorem ownsRow_heap {w : World} {base e n g cap : Nat} {xs : List Value} (h : w.ownsRow base e 1 (.slice (some ⟨g, 0, none⟩) n cap) n xs) (hc : cap = n) : w.heap[g]? = some (.cells xs.toArray e (0, 0)) ∧ base ≤ g := by
  obtain ⟨hl, hr⟩ := h
  rcases hr with ⟨e, _⟩ | ⟨g', cap', cur, e, hb, hh, hn, hcc, hs, ht⟩
  · cases e
  · injection e with e1 e2 e3
    injection e1 with e1
    injection e1 with e1
    subst e1 e3 hc
    rw [hh, ← ht, List.take_of_length_le (by simp [hs])]
    exact ⟨rfl, hb⟩

theorem cell_lt {w : World} {p : Addr} {u : Value} (h : w.cell? p = some u) : p.block < w.heap.size := by
  rcases Nat.lt_or_ge p.block w.heap.size with h' | h'
  · exact h'
  · simp [World.cell?, Array.getElem?_eq_none h'] at h

theorem cell_stays {w w1 : World} (hb : Below w.heap.size w w1) {p : Addr} {u : Value} (h : w.cell? p = some u) : w1.cell? p = some u := by
  rw [hb.cell (cell_lt h)]; exact h

theorem Reads.stays {w w1 : World} (hb : Below w.heap.size w w1) {v : Value} {zs : List Nat} (h : Reads w v zs) : Reads w1 v zs := by
  obtain ⟨a, cap, rfl, hs⟩ := h
  refine ⟨a, cap, rfl, fun h0 => ?_⟩
  obtain ⟨ad, rfl, h2⟩ := hs h0
  exact ⟨ad, rfl, fun j u hj => cell_stays hb (h2 j u hj)⟩

theorem splice_all (xs zs : List Value) (h : xs.length = zs.length) : splice xs 0 zs = zs := by
  simp [splice, h]

/-- Of what was there nothing but block rp has changed. -/
structure Only (rp : Nat) (w w' : World) : Prop where
  os : w'.os = w.os
  tape : w'.tape = w.tape
  output : w'.output = w.output
  size : w.heap.size ≤ w'.heap.size
  keep : ∀ x, x < w.heap.size → x ≠ rp → w'.heap[x]? = w.heap[x]?

theorem Only.below {rp B : Nat} {w w' : World} (h : Only rp w w') (hB : B ≤ rp) (hs : B ≤ w.heap.size) : Below B w w' :=
  ⟨h.os, h.tape, h.output, h.size, fun k hk => h.keep k (by omega) (by omega)⟩

theorem Only.of_below {g : Nat} {w w' : World} (h : Below w.heap.size w w') : Only g w w' := ⟨h.os, h.tape, h.output, h.size, fun x hx _ => h.block x hx⟩

theorem Only.refl (g : Nat) (w : World) : Only g w w := ⟨rfl, rfl, rfl, Nat.le_refl _, fun _ _ _ => rfl⟩

theorem Only.trans {g : Nat} {a b c : World} (h : Only g a b) (k : Only g b c) : Only g a c :=
  ⟨k.os.trans h.os, k.tape.trans h.tape, k.output.trans h.output, Nat.le_trans h.size k.size, fun x hx hne => by rw [k.keep x (by have := h.size; omega) hne, h.keep x hx hne]⟩

theorem Only.drewN (g : Nat) (w : World) (n : Nat) : Only g w (w.drewN n) := ⟨rfl, rfl, rfl, Nat.le_refl _, fun _ _ _ => rfl⟩

theorem Only.drew (g : Nat) (w : World) : Only g w w.drew := ⟨rfl, rfl, rfl, Nat.le_refl _, fun _ _ _ => rfl⟩

theorem Only.alloc (g : Nat) (w : World) (o : Obj) : Only g w (w.alloc o) := Only.of_below ((Below.refl _ _).alloc (Nat.le_refl _) o)

theorem Reads.drew {w : World} {v : Value} {zs : List Nat} (h : Reads w v zs) : Reads w.drew v zs := h

theorem Reads.spot {w : World} {v : Value} {zs : List Nat} (h : Reads w v zs) : ∃ a cap, v = .slice a zs.length cap ∧ (0 < zs.length → ∃ b off, a = some ⟨b, off, none⟩ ∧ ∀ j, j < zs.length → w.cell? ⟨b, off + j, none⟩ = some (.int .u8 (zs.getD j 0 : Int))) := by
  obtain ⟨a, cap, rfl, hs⟩ := h
  refine ⟨a, cap, rfl, fun h0 => ?_⟩
  obtain ⟨⟨b, off, sp⟩, rfl, hc⟩ := hs h0
  have h1 := hc 0 (bv (zs.getD 0 0)) (by simp [h0])
  have hsp : sp = none := by simpa [Addr.add] using World.cell?_spot h1
  subst hsp
  refine ⟨b, off, rfl, fun j hj => ?_⟩
  have h2 := hc j (bv (zs.getD j 0)) (by simp [hj])
  have e : (⟨b, off, none⟩ : Addr).add j = ⟨b, off + j, none⟩ := by by_cases hq : j = 0 <;> simp [Addr.add, hq]
  rw [e] at h2
  exact h2

theorem getD_mem (zs : List Nat) (i : Nat) (h : i < zs.length) : zs.getD i 0 ∈ zs := by
  rw [List.getD_eq_getElem?_getD, List.getElem?_eq_getElem h]; exact List.getElem_mem _

theorem conv_zero (w : World) (a : Option Addr) (cap : Nat) : (convert 23 9 (.slice a 0 cap)).run Try.prog w = .ok (.string ⟨#[]⟩) w := by
  rw [run_convert_bytes_string w 23 9 5 a 0 cap Try.underlying23 Try.underlying5 Try.underlying9]
  cases a <;> simp [Conv.bytesToString, loadCells] <;> rfl

theorem conv_reads {w : World} {v : Value} {zs : List Nat} (h : Reads w v zs) (hs : ∀ z ∈ zs, z < 256) : (convert 23 9 v).run Try.prog w = .ok (.string ⟨(zs.map UInt8.ofNat).toArray⟩) w := by
  by_cases h0 : zs.length = 0
  · obtain ⟨a, cap, rfl, _⟩ := h
    obtain rfl : zs = [] := List.eq_nil_of_length_eq_zero h0
    exact conv_zero w a cap
  · obtain ⟨a, cap, rfl, hc⟩ := h
    obtain ⟨ad, rfl, hc2⟩ := hc (by omega)
    have := run_convert_bytes_back w 23 9 5 ad cap (zs.map UInt8.ofNat) Try.underlying23 Try.underlying5 Try.underlying9 (by
      intro j hj
      simp at hj
      have hzj := hs zs[j] (List.getElem_mem hj)
      rw [hc2 j (bv zs[j]) (by simp [hj])]
      simp [bv, Nat.mod_eq_of_lt hzj])
    simpa using this

theorem drop_take_small {zs : List Nat} (hs : ∀ z ∈ zs, z < 256) (q N : Nat) : ∀ z ∈ (zs.drop q).take N, z < 256 := fun z hz => hs z (List.mem_of_mem_drop (List.mem_of_mem_take hz))

theorem heap_lt {w : World} {k : Nat} {o : Obj} (h : w.heap[k]? = some o) : k < w.heap.size := by
  rcases Nat.lt_or_ge k w.heap.size with h' | h'
  · exact h'
  · rw [Array.getElem?_eq_none h'] at h; cases h

/-- A row of bytes, whatever they are. -/
def RowB (w : World) (g n : Nat) : Prop := ∃ cur, w.heap[g]? = some (.cells cur 5 (0, 0)) ∧ n ≤ cur.size ∧ ∀ j, j < n → ∃ y : Int, cur[j]? = some (.int .u8 y)

theorem news_one {w : World} (x : Value) (t : TypeId) : ∀ (j : Nat) u, [x][j]? = some u → (w.alloc (.cells #[x] t)).cell? ((⟨w.heap.size, 0, none⟩ : Addr).add j) = some u := by
  intro j u hj
  match j, hj with
  | 0, hj => simp at hj; subst hj; simp [Addr.add]


theorem Only.set {g : Nat} {w w' : World} (h : Only g w w') (j : Nat) (v : Value) : Only g w (w'.setCell ⟨g, j, none⟩ v) :=
  ⟨h.os, h.tape, h.output, by simpa using h.size, fun x hx hne => by rw [heap_setCell_other _ _ _ _ (by exact hne)]; exact h.keep x hx hne⟩

theorem RowB.cell {w : World} {g n : Nat} (h : RowB w g n) (j : Nat) (hj : j < n) : (∃ y : Int, w.cell? ⟨g, j, none⟩ = some (.int .u8 y)) ∧ w.frozen? ⟨g, j, none⟩ = false := by
  obtain ⟨cur, hh, _, hc⟩ := h
  obtain ⟨y, hy⟩ := hc j hj
  exact ⟨⟨y, by simp [World.cell?, hh, hy]⟩, by simp [World.frozen?, hh]⟩

theorem RowB.set {w : World} {g n : Nat} (h : RowB w g n) (j : Nat) (y : Int) : RowB (w.setCell ⟨g, j, none⟩ (.int .u8 y)) g n := by
  obtain ⟨cur, hh, hs, hc⟩ := h
  refine ⟨_, heap_setCell_same w g j cur 5 _ hh, by simpa using hs, fun k hk => ?_⟩
  obtain ⟨z, hz⟩ := hc k hk
  by_cases e : k = j
  · subst e
    exact ⟨y, by simp [Array.getElem?_setIfInBounds]; omega⟩
  · exact ⟨z, by rw [Array.getElem?_setIfInBounds_ne (by omega)]; exact hz⟩

theorem RowB.of {w : World} {base g n cap : Nat} {zs : List Nat} (h : w.ownsRow base 5 1 (.slice (some ⟨g, 0, none⟩) n cap) n (zs.map bv)) (hn : zs.length = n) : RowB w g n := by
  obtain ⟨hl, hr⟩ := h
  rcases hr with ⟨e, _⟩ | ⟨g', cap', cur, e, hb, hh, hle, hc, hs, ht⟩
  · cases e
  · injection e with e1 e2 e3
    injection e1 with e1
    injection e1 with e1
    subst e1 e3
    refine ⟨cur, hh, by omega, fun j hj => ⟨(zs.getD j 0 : Nat), ?_⟩⟩
    have h2 : (cur.toList.take (n * 1))[j]? = (zs.map bv)[j]? := by rw [ht]
    rw [List.getElem?_take, if_pos (by omega)] at h2
    rw [← Array.getElem?_toList, h2]
    simp [bv, hn, hj]

theorem RowB.block {w : World} {g : Nat} {zs : List Nat} (h : w.heap[g]? = some (.cells (zs.map bv).toArray 5 (0, 0))) : RowB w g zs.length :=
  ⟨_, h, by simp, fun j hj => ⟨(zs.getD j 0 : Nat), by simp [bv, hj]⟩⟩

theorem reads_row {w : World} {base n cap : Nat} {a : Option Addr} {zs : List Nat} (h : w.ownsRow base 5 1 (.slice a n cap) n (zs.map bv)) (hn : zs.length = n) : Reads w (.slice a n cap) zs := by
  refine ⟨a, cap, by rw [hn], fun h0 => ?_⟩
  rcases h.2 with ⟨_, e'⟩ | ⟨g, c, _, e, _⟩
  · omega
  · injection e with e1
    exact ⟨_, e1, h.cells (by rw [e1]; rfl)⟩

theorem reads_of {w : World} {ba : Option Addr} {bcap : Nat} {zs : List Nat} (hr : (ba = none ∧ bcap = 0 ∧ zs = []) ∨ ∃ ad, ba = some ad ∧ ∀ (j : Nat) u, (zs.map bv)[j]? = some u → w.cell? (ad.add j) = some u) : Reads w (.slice ba zs.length bcap) zs := by
  refine ⟨ba, bcap, rfl, fun h0 => ?_⟩
  rcases hr with ⟨_, _, rfl⟩ | ⟨ad, rfl, h⟩
  · simp at h0
  · exact ⟨ad, rfl, h⟩

theorem own_keep {w w' : World} {base e size n : Nat} {v : Value} {xs : List Value} (h : w.ownsRow base e size v n xs) (h2 : ∀ g, v.ownBlock = some g → w'.heap[g]? = w.heap[g]?) : w'.ownsRow base e size v n xs := by
  obtain ⟨hl, hr⟩ := h
  refine ⟨hl, ?_⟩
  rcases hr with e | ⟨g, cap, cur, e, hb, hh, r⟩
  · exact .inl e
  · exact .inr ⟨g, cap, cur, e, hb, by rw [h2 g (by rw [e]; rfl)]; exact hh, r⟩

end Go.Proofs.Ytcppnkbfndhioaa
