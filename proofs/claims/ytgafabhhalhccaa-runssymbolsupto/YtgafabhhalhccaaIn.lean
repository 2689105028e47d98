/- The bytes that a law hands in. -/
import Derived.Test.YtgafabhhalhccaaOw
import Derived.Laws.CopyOwn
import Derived.Laws.AppendOwnNone
import Derived.Deep.AppendLies
namespace Go.Proofs.Ytgafabhhalhccaa
open Go.RowKit Runs
set_option maxRecDepth 100000
set_option linter.unusedVariables false

theorem cell_stays {w w1 : World} (hb : Below w.heap.size w w1) {p : Addr} {u : Value} (h : w.cell? p = some u) : w1.cell? p = some u := by
  rw [hb.cell (cell_lt h)]; exact h

theorem Reads.stays {w w1 : World} (hb : Below w.heap.size w w1) {v : Value} {zs : List Nat} (h : Reads w v zs) : Reads w1 v zs := by
  obtain ⟨a, cap, rfl, hs⟩ := h
  refine ⟨a, cap, rfl, fun h0 => ?_⟩
  obtain ⟨ad, rfl, h2⟩ := hs h0
  exact ⟨ad, rfl, fun j u hj => cell_stays hb (h2 j u hj)⟩

theorem Reads.bytes {w : World} {a : Option Addr} {n cap : Nat} {zs : List Nat} (h : Reads w (.slice a n cap) zs) : BytesIn w a zs := by
  obtain ⟨a', cap', e, hs⟩ := h
  injection e with e1 e2 e3
  subst e1
  intro j hj
  obtain ⟨⟨b, off, sp⟩, rfl, hc⟩ := hs (by omega)
  have h1 := hc 0 (bv (zs.getD 0 0)) (by simp [show 0 < zs.length by omega])
  have hsp : sp = none := by simpa [Addr.add] using World.cell?_spot h1
  subst hsp
  refine ⟨b, off, rfl, ?_⟩
  have h2 := hc j (bv (zs.getD j 0)) (by simp [hj])
  have e : (⟨b, off, none⟩ : Addr).add j = ⟨b, off + j, none⟩ := by by_cases hq : j = 0 <;> simp [Addr.add, hq]
  rw [e] at h2
  exact h2

theorem reads_of {w : World} {ba : Option Addr} {bcap : Nat} {zs : List Nat} (hr : (ba = none ∧ bcap = 0 ∧ zs = []) ∨ ∃ ad, ba = some ad ∧ ∀ (j : Nat) u, (zs.map bv)[j]? = some u → w.cell? (ad.add j) = some u) : Reads w (.slice ba zs.length bcap) zs := by
  refine ⟨ba, bcap, rfl, fun h0 => ?_⟩
  rcases hr with ⟨_, _, rfl⟩ | ⟨ad, rfl, h⟩
  · simp at h0
  · exact ⟨ad, rfl, h⟩

theorem reads_row {w : World} {base n cap : Nat} {a : Option Addr} {zs : List Nat} (h : w.ownsRow base 5 1 (.slice a n cap) n (zs.map bv)) (hn : zs.length = n) : Reads w (.slice a n cap) zs := by
  refine ⟨a, cap, by rw [hn], fun h0 => ?_⟩
  rcases h.2 with ⟨_, e'⟩ | ⟨g, c, _, e, _⟩
  · omega
  · injection e with e1
    exact ⟨_, e1, h.cells (by rw [e1]; rfl)⟩

theorem own_block {w : World} {base n : Nat} {v : Value} {xs : List Value} (h : w.ownsRow base 5 1 v n xs) (hn : 0 < n) : ∃ g cap, v = .slice (some ⟨g, 0, none⟩) n cap ∧ n ≤ cap ∧ base ≤ g ∧ g < w.heap.size := by
  rcases h.2 with ⟨_, e'⟩ | ⟨g, cap, cur, e, hb, hh, hle, _⟩
  · omega
  · exact ⟨g, cap, e, by simpa using hle, hb, heap_lt hh⟩

theorem take_reads {w : World} {base n cap g : Nat} {zs : List Nat} {z : Nat} (h : w.ownsRow base 5 1 (.slice (some ⟨g, 0, none⟩) n cap) n ((zs ++ [z]).map bv)) : Reads w (.slice (some ⟨g, 0, none⟩) zs.length cap) zs := by
  refine ⟨_, _, rfl, fun _ => ⟨_, rfl, fun j u hj => ?_⟩⟩
  refine h.cells rfl j u ?_
  rw [List.map_append, List.getElem?_append_left (by have := (List.getElem?_eq_some_iff.1 hj).1; omega)]
  exact hj

theorem news_one {w : World} (x : Value) (t : TypeId) : ∀ (j : Nat) u, [x][j]? = some u → (w.alloc (.cells #[x] t)).cell? ((⟨w.heap.size, 0, none⟩ : Addr).add j) = some u := by
  intro j u hj
  match j, hj with
  | 0, hj => simp at hj; subst hj; simp [Addr.add]

set_option maxHeartbeats 1000000 in
theorem names_ok (w : World) : Calls Try.prog 13 #[] w fun e w' => e = .returned (.bool true) ∧ w' = w := by
  go_enter Try.func13, Try.ntmps13
  go_wp2_with fail
  go_ret
  exact ⟨rfl, rfl⟩

theorem big_small {zs : List Nat} (hs : ∀ z ∈ zs, z < 256) : ∀ z ∈ zs ++ [90], z < 256 := by
  intro z hz
  rcases List.mem_append.1 hz with h | h
  · exact hs z h
  · simp at h; omega

end Go.Proofs.Ytgafabhhalhccaa
