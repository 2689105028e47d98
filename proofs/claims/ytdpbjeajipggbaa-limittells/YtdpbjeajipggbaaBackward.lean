/- slices.Backward over the rounds. -/
import Derived.Test.YtdpbjeajipggbaaRange
import Derived.Test.YtdpbjeajipggbaaPlay
namespace Go.Proofs.Ytdpbjeajipggbaa
open Go.RowKit Go.Shelf
set_option linter.unusedVariables false

attribute [local go_sem] Oper.semAt_some

/-- what the iterator reads -/
structure BackR (Bs gr M : Nat) (v1 v2 : Nat → Value) (W : World) : Prop where
  box : W.cell? ⟨Bs, 0, none⟩ = some (.slice (some ⟨gr, 0, none⟩) M M)
  one : ∀ j, j < M → W.cell? ⟨gr, j * 2, none⟩ = some (v1 j)
  two : ∀ j, j < M → W.cell? ⟨gr, j * 2 + 1, none⟩ = some (v2 j)

def encB (M : Nat) (v1 v2 : Nat → Value) (k : Nat) : Array Value := #[.int .i64 ((M - 1 - k : Nat) : Int), .agg #[v1 (M - 1 - k), v2 (M - 1 - k)]]

set_option maxRecDepth 100000 in
set_option maxHeartbeats 2000000 in
theorem back1_in (F : Fence) (m : Nat) (h30 : F.fn 30) (hro : F.round = none) (hm : 1 ≤ m) (l Bs gr M : Nat) (hM : M ≤ 20) (v1 v2 : Nat → Value) (J : Nat → World → Prop) (hJ : ∀ k W, J k W → BackR Bs gr M v1 v2 W)
    (hY : ∀ k W, k < M → J k W → YieldAt F (m - 1) Try.prog l (encB M v1 v2 k) W fun e W' => e = .returned (.bool true) ∧ J (k + 1) W') (W : World) (h0 : J 0 W) :
    CallsIn F m Try.prog 30 #[.func (.yield l) #[] #[], .pointer (some ⟨Bs, 0, none⟩)] W fun e W' => (∃ v, e = .returned v) ∧ J M W' := by
  have hb0 := (hJ 0 W h0).box
  refine callsIn_of_wp Try.func30 rfl h30 ?_ hro
  simp only [Try.ntmps30, List.size_toArray, List.length_cons, List.length_nil, Nat.reduceAdd, Nat.reduceSub, Array.replicate_succ, Array.replicate_zero, List.push_toArray, List.append_toArray, List.nil_append, List.cons_append]
  gi_wp2
  gi_loopw [3] (fun i wr => ∃ k : Nat, k ≤ M ∧ i = .int .i64 ((M : Int) - 1 - (k : Int)) ∧ J k wr) (fun i _ => (intOf i + 1).toNat)
  case atStart => exact ⟨0, Nat.zero_le _, by simp, h0⟩
  case round =>
    obtain ⟨k, hk, rfl, hJs⟩ := hrel
    by_cases hlt : k < M
    · obtain ⟨j, hj⟩ : ∃ j : Nat, j = M - 1 - k := ⟨_, rfl⟩
      have e : (M : Int) - 1 - (k : Int) = (j : Int) := by omega
      have hR := hJ k wr hJs
      have c0 := hR.box
      have c1 := hR.one j (by omega)
      have c2 := hR.two j (by omega)
      obtain ⟨fn, tmps, assign, body, hy, hRd⟩ := hY k wr hlt hJs
      unfold encB at hy
      rw [← hj] at hy
      have hjM : (j : Int) < (M : Int) := by omega
      have hj0 : (0 : Int) ≤ (j : Int) := by omega
      rw [e]
      have HE := hide e
      clear hR hj e
      gi_wp2
      refine hRd.mono ?_
      rintro e W3 ⟨rfl, hJ3⟩
      gi_wp2
      go_roundw
      case rel => exact ⟨k + 1, by omega, by have := unhide HE; congr 1; omega, hJ3⟩
      case measure => have := unhide HE; simp [intOf]; try omega
    · obtain rfl : k = M := by omega
      have e : (k : Int) - 1 - (k : Int) = -1 := by omega
      rw [e]
      gi_wp2
      go_end0
      exact ⟨⟨_, rfl⟩, hJs⟩

set_option maxHeartbeats 1000000 in
theorem back_in (F : Fence) (m : Nat) (h23 : F.fn 23) (hro : F.round = none) (a : Option Addr) (len cap : Nat) (w : World) :
    CallsIn F m Try.prog 23 #[.slice a len cap] w fun e w' => e = .returned (.func (.func 30) #[] #[.pointer (some ⟨w.heap.size, 0, none⟩)]) ∧ w' = w.alloc (.cells #[.slice a len cap] 43) := by
  refine callsIn_of_wp Try.func23 rfl h23 ?_ hro
  simp only [Try.ntmps23, List.size_toArray, List.length_cons, List.length_nil, Nat.reduceAdd, Nat.reduceSub, Array.replicate_succ, Array.replicate_zero, List.push_toArray, List.append_toArray, List.nil_append, List.cons_append]
  gi_wp2
  go_ret
  exact ⟨rfl, rfl⟩

end Go.Proofs.Ytdpbjeajipggbaa
