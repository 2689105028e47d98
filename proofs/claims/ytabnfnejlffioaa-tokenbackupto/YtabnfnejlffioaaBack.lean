/- slices.Backward over the levels. -/
import Derived.Test.YtabnfnejlffioaaRange
namespace Go.Proofs.Ytabnfnejlffioaa
open Go.RowKit Go.Shelf
set_option linter.unusedVariables false

attribute [local go_sem] Oper.semAt_some

/-- what the iterator reads -/
structure BackR (Bs gr M cap : Nat) (v0 v1 v2 : Nat → Value) (W : World) : Prop where
  box : W.cell? ⟨Bs, 0, none⟩ = some (.slice (some ⟨gr, 0, none⟩) M cap)
  one : ∀ j, j < M → W.cell? ⟨gr, j * 3, none⟩ = some (v0 j)
  two : ∀ j, j < M → W.cell? ⟨gr, j * 3 + 1, none⟩ = some (v1 j)
  thr : ∀ j, j < M → W.cell? ⟨gr, j * 3 + 2, none⟩ = some (v2 j)

def encB (M : Nat) (v0 v1 v2 : Nat → Value) (k : Nat) : Array Value := #[.int .i64 ((M - 1 - k : Nat) : Int), .agg #[v0 (M - 1 - k), v1 (M - 1 - k), v2 (M - 1 - k)]]

set_option maxRecDepth 100000 in
set_option maxHeartbeats 2000000 in
theorem back1_in (F : Fence) (m : Nat) (h43 : F.fn 43) (hro : F.round = none) (hm : 1 ≤ m) (l Bs gr M cap : Nat) (hM : M ≤ 20) (v0 v1 v2 : Nat → Value) (J : Nat → World → Prop) (Y : World → Prop) (hJ : ∀ k W, J k W → BackR Bs gr M cap v0 v1 v2 W)
    (hY : ∀ k W, k < M → J k W → YieldAt F (m - 1) Try.prog l (encB M v0 v1 v2 k) W fun e W' => (e = .returned (.bool true) ∧ J (k + 1) W') ∨ (e = .returned (.bool false) ∧ Y W')) (W : World) (h0 : J 0 W) :
    CallsIn F m Try.prog 43 #[.func (.yield l) #[] #[], .pointer (some ⟨Bs, 0, none⟩)] W fun e W' => (∃ v, e = .returned v) ∧ (J M W' ∨ Y W') := by
  have hb0 := (hJ 0 W h0).box
  refine callsIn_of_wp Try.func43 rfl h43 ?_ hro
  simp only [Try.ntmps43, List.size_toArray, List.length_cons, List.length_nil, Nat.reduceAdd, Nat.reduceSub, Array.replicate_succ, Array.replicate_zero, List.push_toArray, List.append_toArray, List.nil_append, List.cons_append]
  gi_wp2
  gi_loopw [3] (fun i wr => ∃ k : Nat, k ≤ M ∧ i = .int .i64 ((M : Int) - 1 - (k : Int)) ∧ J k wr) (fun i _ => (intOf i + 1).toNat)
  case atStart => exact ⟨0, Nat.zero_le _, by simp, h0⟩
  case round =>
    obtain ⟨k, hk, rfl, hJs⟩ := hrel
    by_cases hlt : k < M
    · obtain ⟨j, hj⟩ : ∃ j : Nat, j = M - 1 - k := ⟨_, rfl⟩
      have e : (M : Int) - 1 - (k : Int) = (j : Int) := by omega
      have hR := hJ k wr hJs
      have c0 := hR.box
      have c1 := hR.one j (by omega)
      have c2 := hR.two j (by omega)
      have c3 := hR.thr j (by omega)
      obtain ⟨fn, tmps, assign, body, hy, hRd⟩ := hY k wr hlt hJs
      unfold encB at hy
      rw [← hj] at hy
      have hjM : (j : Int) < (M : Int) := by omega
      have hj0 : (0 : Int) ≤ (j : Int) := by omega
      rw [e]
      have HE := hide e
      clear hR hj e
      gi_wp2
      refine hRd.mono ?_
      rintro e W3 (⟨rfl, hJ3⟩ | ⟨rfl, hY3⟩)
      · gi_wp2
        go_roundw
        case rel => exact ⟨k + 1, by omega, by have := unhide HE; congr 1; omega, hJ3⟩
        case measure => have := unhide HE; simp [intOf]; try omega
      · gi_wp2
        refine bodyPost_ret (results_none rfl _ _ _) rfl ?_
        exact ⟨⟨_, rfl⟩, .inr hY3⟩
    · obtain rfl : k = M := by omega
      have e : (k : Int) - 1 - (k : Int) = -1 := by omega
      rw [e]
      gi_wp2
      go_end0
      exact ⟨⟨_, rfl⟩, .inl hJs⟩

attribute [local go_sem ↓] Go.wp_at_zero Go.wp_at_succ

set_option maxHeartbeats 1000000 in
theorem back_ok (a : Option Addr) (len cap : Nat) (w : World) :
    Calls Try.prog 31 #[.slice a len cap] w fun e w' => e = .returned (.func (.func 43) #[] #[.pointer (some ⟨w.heap.size, 0, none⟩)]) ∧ w' = w.alloc (.cells #[.slice a len cap] 52) := by
  go_enter Try.func31, Try.ntmps31
  go_wp2_with fail
  go_ret
  exact ⟨rfl, rfl⟩

end Go.Proofs.Ytabnfnejlffioaa
