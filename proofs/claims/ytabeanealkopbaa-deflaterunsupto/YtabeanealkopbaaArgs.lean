/- What the law's argument reads as. -/
import Derived.Test.YtabeanealkopbaaLaw
import Derived.ProofKit
import Derived.OpenShut
import Derived.ChangeOld
import Derived.SizedLaws
import Derived.JoinedCond
import Derived.Lib.SmallJoins
namespace Go.Proofs.Ytabeanealkopbaa
open Go.ChangeShapes Go.WideShapes Go.ChangeAt Go.RowKit Go.Deep Go.Joins
set_option maxRecDepth 100000

theorem own : ownKnob Try.prog.godebug = none := by kernel_rfl
theorem laidOut : laidOutB Try.prog = true := by kernel_rfl
theorem cells3 : Try.prog.cellsOf 3 = 1 := by kernel_rfl
theorem bytes3 : Try.prog.bytesOf 3 = 8 := by kernel_rfl

variable {H : Type} {enc : TypeId × Value → H} {W : World}

theorem ints_of {fuel : Nat} {cs : List Value} {y : DataW H × List MemPlace} (h : DataW.trod enc Try.prog W 0 (fun _ => true) true fuel 28 cs = some y) :
    ∃ a cap zs, cs = [.slice a zs.length cap] ∧ ReadsN W a cap zs ∧ ((y.1 = .nil ∧ zs = []) ∨ ∃ elems spare, y.1 = .slice elems spare ∧ elems.length = zs.length) := by
  rcases open_ints Try.underlying28 Try.underlying3 cells3 h with ⟨hcs, hy⟩ | ⟨x, l, c, ys, hcs, _, hl, hm, hz, hx, hcell, hwz⟩
  · exact ⟨none, 0, [], hcs, .inl ⟨rfl, rfl, rfl⟩, .inl ⟨by rw [hy], rfl⟩⟩
  · simp at hz
    refine ⟨some x, c, ys.take l, by rw [hcs]; simp; omega, .inr ⟨x, rfl, fun j u hj => ?_⟩, .inr ⟨_, _, by rw [hx], by simp [lits]⟩⟩
    have hj2 : j < l := by
      have := (List.getElem?_eq_some_iff.1 hj).1
      simp at this; omega
    rw [hcell j (by omega)]
    rw [List.getElem?_map, List.getElem?_take, if_pos hj2, List.getElem?_eq_getElem (by omega)] at hj
    simp [iv] at hj
    rw [← hj]
    simp [show j < ys.length by omega]

theorem bulk_pos {H : Type} (d : DataW H) : 1 ≤ Rows.uptoBulk d := by
  cases d with
  | lit l => cases l <;> simp [Rows.uptoBulk]
  | _ => simp [Rows.uptoBulk]

theorem bulk_len {H : Type} (l : List (DataW H)) : l.length ≤ Rows.uptoBulkAll l := by
  induction l with
  | nil => simp [Rows.uptoBulkAll]
  | cons x r ih => have := bulk_pos x; simp only [Rows.uptoBulkAll, List.length_cons]; omega

theorem bulk_slice {H : Type} (elems spare : List (DataW H)) : elems.length ≤ Rows.uptoBulk (.slice elems spare) := by
  have := bulk_len elems
  simp only [Rows.uptoBulk]; omega

/-- a list's length, by its bulk -/
theorem len_bulk {d : DataW H} {n : Nat} (h : (d = .nil ∧ n = 0) ∨ ∃ elems spare, d = .slice elems spare ∧ elems.length = n) : n ≤ Rows.uptoBulk d := by
  rcases h with ⟨_, rfl⟩ | ⟨el, sp, rfl, rfl⟩
  · omega
  · exact bulk_slice el sp

end Go.Proofs.Ytabeanealkopbaa
