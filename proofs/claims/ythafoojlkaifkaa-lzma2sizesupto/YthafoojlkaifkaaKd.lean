/- Sizes of a chunk. -/
import Derived.Test.YthafoojlkaifkaaKc
namespace Go.Proofs.Ythafoojlkaifkaa.K
open Go.RowKit
set_option maxRecDepth 100000
set_option linter.unusedVariables false
attribute [local go_sem ↓] Go.wp_at_zero Go.wp_at_succ

def ccells (k n : Nat) (lc lp pb : Int) (body : Value) : Array Value := #[.int .u8 (k : Int), .int .i64 (n : Int), .int .i64 lc, .int .i64 lp, .int .i64 pb, body]
def CAt (w : World) (cb k n : Nat) (lc lp pb : Int) (body : Value) : Prop := w.heap[cb]? = some (.cells (ccells k n lc lp pb body) 37 (0, 0))

section
variable {w : World} {cb k n : Nat} {lc lp pb : Int} {body : Value}
theorem CAt.c0 (h : CAt w cb k n lc lp pb body) : w.cell? ⟨cb, 0, none⟩ = some (.int .u8 (k : Int)) := by simp [World.cell?, show w.heap[cb]? = _ from h, ccells]
theorem CAt.c1 (h : CAt w cb k n lc lp pb body) : w.cell? ⟨cb, 1, none⟩ = some (.int .i64 (n : Int)) := by simp [World.cell?, show w.heap[cb]? = _ from h, ccells]
theorem CAt.c5 (h : CAt w cb k n lc lp pb body) : w.cell? ⟨cb, 5, none⟩ = some body := by simp [World.cell?, show w.heap[cb]? = _ from h, ccells]
theorem CAt.fr (h : CAt w cb k n lc lp pb body) (i : Nat) : w.frozen? ⟨cb, i, none⟩ = false := by simp [World.frozen?, show w.heap[cb]? = _ from h]
theorem CAt.setN (h : CAt w cb k n lc lp pb body) (m : Nat) : CAt (w.setCell ⟨cb, 1, none⟩ (.int .i64 (m : Int))) cb k m lc lp pb body := by
  unfold CAt; rw [heap_setCell_same w cb 1 _ 37 _ h]; rfl
theorem CAt.setB (h : CAt w cb k n lc lp pb body) (b' : Value) : CAt (w.setCell ⟨cb, 5, none⟩ b') cb k n lc lp pb b' := by
  unfold CAt; rw [heap_setCell_same w cb 5 _ 37 _ h]; rfl
theorem CAt.keep {w' : World} {gs : List Nat} (h : CAt w cb k n lc lp pb body) (hb : But gs w w') (hn : cb ∉ gs) : CAt w' cb k n lc lp pb body := by
  unfold CAt; rw [hb.keep cb (heap_lt h) hn]; exact h

theorem packed_ok (h : CAt w cb k n lc lp pb body) (b : Bool) (hb : b = decide (128 ≤ k)) : Calls Try.prog 24 #[.pointer (some ⟨cb, 0, none⟩)] w fun e w' => e = .returned (.bool b) ∧ w' = w := by
  have c0 := h.c0
  clear h
  by_cases hk : 128 ≤ k
  · obtain rfl : b = true := by rw [hb]; simp; omega
    have t : (128 : Int) ≤ (k : Int) := by omega
    clear hb
    go_enter Try.func24, Try.ntmps24
    go_wp2_with fail
    go_ret
    exact ⟨by first | rfl | simp [t, hk], rfl⟩
  · obtain rfl : b = false := by rw [hb]; simp; omega
    have t : ¬ (128 : Int) ≤ (k : Int) := by omega
    clear hb
    go_enter Try.func24, Try.ntmps24
    go_wp2_with fail
    go_ret
    exact ⟨by first | rfl | simp [t, hk], rfl⟩

theorem hasP_ok (h : CAt w cb k n lc lp pb body) (b : Bool) (hb : b = decide (192 ≤ k)) : Calls Try.prog 18 #[.pointer (some ⟨cb, 0, none⟩)] w fun e w' => e = .returned (.bool b) ∧ w' = w := by
  have c0 := h.c0
  clear h
  by_cases hk : 192 ≤ k
  · obtain rfl : b = true := by rw [hb]; simp; omega
    have t : (192 : Int) ≤ (k : Int) := by omega
    clear hb
    go_enter Try.func18, Try.ntmps18
    go_wp2_with fail
    go_ret
    exact ⟨by first | rfl | simp [t, hk], rfl⟩
  · obtain rfl : b = false := by rw [hb]; simp; omega
    have t : ¬ (192 : Int) ≤ (k : Int) := by omega
    clear hb
    go_enter Try.func18, Try.ntmps18
    go_wp2_with fail
    go_ret
    exact ⟨by first | rfl | simp [t, hk], rfl⟩

end

section
variable {w : World} {bb ub : Nat} {va : Option Addr} {vc : Nat} {zs : List Nat} {p : Nat} {cb k n : Nat} {lc lp pb : Int} {body : Value}

theorem NK.ne_c (h : NK w bb ub va vc zs p) (hc : CAt w cb k n lc lp pb body) : cb ≠ ub := ne_types hc h.u (by decide)
theorem CAt.far (hc : CAt w cb k n lc lp pb body) : Far w [cb] := by
  intro g hg _
  obtain rfl := List.mem_singleton.1 hg
  exact ⟨_, _, hc, by decide, by decide⟩
theorem NK.setC {i : Nat} {v : Value} (h : NK w bb ub va vc zs p) (hc : CAt w cb k n lc lp pb body) : NK (w.setCell ⟨cb, i, none⟩ v) bb ub va vc zs p :=
  h.move ((But.refl [cb] w).set (by simp) i v) hc.far (by rw [heap_setCell_other _ _ _ _ (h.ne_c hc).symm]; exact h.u) h.le

/-- no more bytes -/
def EndIs (ub : Nat) (gs : List Nat) (w : World) (e : Ending) (w' : World) : Prop := (∃ x : Int, e = .returned (.tuple #[.int .i64 x, .int .i64 10])) ∧ But gs w w' ∧ UB w' ub

theorem sizes_end1 (h : NK w bb ub va vc zs p) (hc : CAt w cb k n lc lp pb body) (hn : zs.length < p + 2) : Calls Try.prog 17 #[.pointer (some ⟨cb, 0, none⟩), nextV bb ub] w (EndIs ub [ub, cb] w) := by
  have HC := hide (num_end h hn)
  have fr := hc.fr 1
  have HF : Hid (EndIs ub [ub, cb] w (.returned (.tuple #[.int .i64 0, .int .i64 10])) (w.setCell ⟨cb, 1, none⟩ (.int .i64 0))) := hide ⟨⟨0, rfl⟩, (But.refl _ _).set (by simp) 1 _, (h.setC hc).ub⟩
  have c1 := hc.c1
  generalize EndIs ub [ub, cb] w = POST at *
  clear h hn hc
  go_enter Try.func17, Try.ntmps17
  go_wp2_with fail
  refine (unhide HC).mono ?_
  rintro e w' ⟨rfl, rfl⟩
  go_wp2_with fail
  first
  | exact unhide HF
  | (go_returns; exact unhide HF)

theorem sizes_copy (h : NK w bb ub va vc zs p) (hc : CAt w cb k n lc lp pb body) (hn : p + 2 ≤ zs.length) (hk : k < 128) : Calls Try.prog 17 #[.pointer (some ⟨cb, 0, none⟩), nextV bb ub] w fun e w' => e = .returned (.tuple #[.int .i64 ((two zs p : Nat) : Int), .int .i64 0]) ∧ NK w' bb ub va vc zs (p + 2) ∧ CAt w' cb k (two zs p) lc lp pb body ∧ But [ub, cb] w w' := by
  have HC := hide (num_ok h hn)
  have HH := hide h
  have HCC := hide hc
  generalize two zs p = T at *
  clear h hn hc
  go_enter Try.func17, Try.ntmps17
  go_wp2_with fail
  refine (unhide HC).mono ?_
  rintro e w1 ⟨rfl, h1, h2⟩
  have hc1 := (unhide HCC).keep h2 (by simpa using (unhide HH).ne_c (unhide HCC))
  have HP := hide (packed_ok hc1 false (by simp; omega))
  have fr := hc1.fr 1
  have c1 := hc1.c1
  have HF := hide (And.intro (h1.setC hc1 (i := 1) (v := .int .i64 (T : Int))) (And.intro (hc1.setN T) ((h2.more (hs := [ub, cb]) (by simp)).set (g := cb) (by simp) 1 (.int .i64 (T : Int)))))
  clear h1 h2 hc1 HC
  go_wp2_with fail
  refine (unhide HP).mono ?_
  rintro e w' ⟨rfl, rfl⟩
  go_wp2_with fail
  go_returns
  exact ⟨rfl, unhide HF⟩

theorem kand (k : Nat) (h : k < 256) : bits .and .u8 (k : Int) 31 = ((k % 32 : Nat) : Int) := by
  rw [show (31 : Int) = ((31 : Nat) : Int) from rfl, u8_and_nat k 31 h (by omega), show (31 : Nat) = 2 ^ 5 - 1 from rfl, Nat.and_two_pow_sub_one_eq_mod]
end
end Go.Proofs.Ythafoojlkaifkaa.K
