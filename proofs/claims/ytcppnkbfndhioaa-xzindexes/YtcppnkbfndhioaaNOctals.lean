/- What number's calls answer. -/
import Derived.Test.YtcppnkbfndhioaaBase
import Derived.ProofKit
import Derived.OpenShut
namespace Go.Proofs.Ytcppnkbfndhioaa.N
open Go.RowKit

theorem reads_nil (w : World) (zs : List Nat) (h : zs = []) : Reads w (.slice none 0 0) zs := by
  subst h
  exact ⟨none, 0, rfl, fun h => absurd h (by simp)⟩

theorem reads_block {w : World} {g : Nat} {zs : List Nat} (hx : w.heap[g]? = some (.cells (zs.map bv).toArray 5 (0, 0))) (n : Nat) (hn : n = zs.length) : Reads w (.slice (some ⟨g, 0, none⟩) n n) zs := by
  subst hn
  exact ⟨_, _, rfl, fun _ => ⟨_, rfl, fun j u hj => by
    have e : (⟨g, 0, none⟩ : Addr).add j = ⟨g, j, none⟩ := by by_cases hq : j = 0 <;> simp [Addr.add, hq]
    rw [e]
    simp only [World.cell?, hx]
    simpa using hj⟩⟩

theorem Reads.only {w w' : World} {g k : Nat} {zs : List Nat} (hx : w.heap[k]? = some (.cells (zs.map bv).toArray 5 (0, 0))) (hne : k ≠ g) (n : Nat) (hn : n = zs.length) (ho : Only g w w') : Reads w' (.slice (some ⟨k, 0, none⟩) n n) zs :=
  reads_block (by rw [ho.keep k (heap_lt hx) hne]; exact hx) n hn

/-- an answer: none, with an error; or new memory, in block g, that holds zs -/
def Ans (E : Int) (N : Nat) (zs : List Nat) (g : Nat) (vx : Value) (w : World) : Prop :=
  (E ≠ 0 ∧ vx = .slice none 0 0) ∨ (E = 0 ∧ vx = .slice (some ⟨g, 0, none⟩) N N ∧ w.heap[g]? = some (.cells (zs.map bv).toArray 5 (0, 0)))

end Go.Proofs.Ytcppnkbfndhioaa.N
