/- The cursor: sums; long numbers. -/
import Derived.Test.YtcppnkbfndhioaaXh
import Derived.Deep.RegionLaw
namespace Go.Proofs.Ytcppnkbfndhioaa
open Go.RowKit
set_option maxRecDepth 100000
set_option linter.unusedVariables false
attribute [local go_sem ↓] Go.wp_at_zero Go.wp_at_succ

/-- a call as one step of a region that draws its order -/
theorem step_call {P : Program} {ops : Array Oper} {o : Oper} {a : Act} {w : World} {K : Act → World → Prop} {Q : Exit → Act → World → Prop} {E : Prop} (f : FuncId) (args : Array Value)
    (hgd : o.guard = none) (hrun : (execOp (Act.eval a) o).run P w = .ok (.enter f args) w)
    (h : Calls P f args w fun e w' => ∃ v, e = .returned v ∧ K (a.put o.dst v) w') : if Region.wanted o (yielded ops a.tmps) = true then Oper.wp P o a w K Q else E := by
  have hw : Region.wanted o (yielded ops a.tmps) = true := by simp [Region.wanted, hgd]
  rw [if_pos hw]
  unfold Oper.wp
  rw [hrun, Oper.upon_enter]
  refine h.mono ?_
  rintro e w' ⟨v, rfl, h2⟩
  exact h2

/-- what a long number tells: the number, the error, the place behind it -/
def longF (zs : List Nat) (p : Nat) : Nat × Nat × Nat := if (N.varAll zs p).2.2 = 0 then ((N.varAll zs p).1, 0, (N.varAll zs p).2.1) else (0, (N.varAll zs p).2.2, p)

theorem varRef_in (zs : List Nat) (p : Nat) : ∀ (k i v : Nat), k = 10 - i → i ≤ 9 → v < 2 ^ (7 * i) → (N.varRef zs p k i v).2.2 = 0 → (N.varRef zs p k i v).1 < 9223372036854775808 ∧ p < (N.varRef zs p k i v).2.1 ∧ (N.varRef zs p k i v).2.1 ≤ zs.length
  | 0, i, v, hk, hi, _, _ => by omega
  | k + 1, i, v, hk, hi, hv, he => by
    rw [N.varRef] at he ⊢
    by_cases h1 : zs.length ≤ p + i
    · rw [if_pos h1] at he; exact absurd he (by decide)
    rw [if_neg h1] at he ⊢
    by_cases h2 : i = 9
    · rw [if_pos h2] at he; exact absurd he (by decide)
    rw [if_neg h2] at he ⊢
    by_cases h3 : zs.getD (p + i) 0 = 0 ∧ 0 < i
    · rw [if_pos h3] at he; exact absurd he (by decide)
    rw [if_neg h3] at he ⊢
    have hm := Nat.mod_lt (zs.getD (p + i) 0) (show 128 > 0 by omega)
    have hnew : v + zs.getD (p + i) 0 % 128 * 2 ^ (7 * i) < 2 ^ (7 * (i + 1)) := by
      have e1 : 2 ^ (7 * (i + 1)) = 128 * 2 ^ (7 * i) := by rw [Nat.mul_add, Nat.pow_add]; omega
      rw [e1]
      have h2 : zs.getD (p + i) 0 % 128 * 2 ^ (7 * i) ≤ 127 * 2 ^ (7 * i) := Nat.mul_le_mul (by omega) (Nat.le_refl _)
      omega
    by_cases h4 : zs.getD (p + i) 0 < 128
    · rw [if_pos h4] at he ⊢
      refine ⟨?_, ?_, ?_⟩
      · have h5 : 2 ^ (7 * (i + 1)) ≤ 2 ^ 63 := Nat.pow_le_pow_right (by omega) (by omega)
        show v + zs.getD (p + i) 0 % 128 * 2 ^ (7 * i) < _
        omega
      · show p < p + i + 1; omega
      · show p + i + 1 ≤ _; omega
    · rw [if_neg h4] at he ⊢
      exact varRef_in zs p k (i + 1) _ (by omega) (by omega) hnew he

theorem longF_in (zs : List Nat) (p : Nat) (hp : p ≤ zs.length) : (longF zs p).1 < 9223372036854775808 ∧ p ≤ (longF zs p).2.2 ∧ (longF zs p).2.2 ≤ zs.length := by
  unfold longF
  by_cases h : (N.varAll zs p).2.2 = 0
  · rw [if_pos h]
    rw [N.varAll_at hp] at h ⊢
    obtain ⟨h1, h2, h3⟩ := varRef_in zs p 10 0 0 rfl (by omega) (by simp) h
    exact ⟨h1, by show p ≤ (N.varRef zs p 10 0 0).2.1; omega, h3⟩
  · rw [if_neg h]
    exact ⟨by show 0 < _; omega, Nat.le_refl _, hp⟩

theorem Cur.all {w : World} {g h cap p : Nat} {zs : List Nat} (c : Cur w g h cap zs p) : Reads w (.slice (some ⟨h, 0, none⟩) zs.length cap) zs := by
  have := c.reads2 (p := 0) (k := zs.length) (c2 := cap) (by omega)
  simpa using this

set_option maxHeartbeats 1000000 in
theorem readLong_ok (g h cap p : Nat) (zs : List Nat) (w : World) (c : Cur w g h cap zs p) :
    Calls Try.prog 32 #[.pointer (some ⟨g, 0, none⟩)] w fun e w' => e = .returned (.tuple #[.int .i64 ((longF zs p).1 : Int), .int .i64 ((longF zs p).2.1 : Int)]) ∧ Step w w' g h cap zs (longF zs p).2.2 := by
  have c0 : w.drew.cell? ⟨g, 0, none⟩ = _ := c.cell0
  have c1 : w.drew.cell? ⟨g, 1, none⟩ = _ := c.cell1
  have HV := hide (N.var_any (.slice (some ⟨h, 0, none⟩) zs.length cap) zs p w.drew (c.drew 1).all c.oct (by have := c.small; omega))
  have HC := hide (Step.refl c).drew
  have HIN := hide (longF_in zs p c.le)
  have HF : Hid (longF zs p = if (N.varAll zs p).2.2 = 0 then ((N.varAll zs p).1, 0, (N.varAll zs p).2.1) else (0, (N.varAll zs p).2.2, p)) := hide rfl
  unfold N.tri at HV
  generalize longF zs p = R at *
  generalize N.varAll zs p = r at *
  obtain ⟨V, q, x⟩ := r
  simp only at HV HF
  obtain ⟨L, hL⟩ : ∃ L, L = zs.length := ⟨_, rfl⟩
  rw [← hL] at c0 HV HIN
  have HL := hide hL
  clear c hL
  by_cases hx : x = 0
  · subst hx
    rw [if_pos rfl] at HF
    obtain rfl : R = (V, 0, q) := unhide HF
    obtain ⟨hV, _, hq⟩ := unhide HIN
    have HQ := hide hq
    go_enter Try.func32, Try.ntmps32
    go_upto_region 1 with fail
    go_cut [4, 5, 6] from 7 to 19 (fun a b cc wc => a = .int .u64 (V : Int) ∧ b = .int .i64 (q : Int) ∧ cc = .int .i64 0 ∧ Hid (Step w wc g h cap zs p))
    case first =>
      go_region_law (refine step_call 42 #[.slice (some ⟨h, 0, none⟩) L cap, .int .i64 (p : Int)] rfl (by go_simp) ?_; refine (unhide HV).mono ?_; rintro e w1 ⟨rfl, h1⟩; have H1 := hide ((unhide HC 1).stays h1); clear h1; refine ⟨_, rfl, ?_⟩)
      all_goals (go_wp2_with fail; go_meet; exact ⟨rfl, rfl, rfl, H1⟩)
    case rest =>
      obtain ⟨rfl, rfl, rfl, HS⟩ := hcut
      have cf := (unhide HS).cur.free 1
      have HT := hide ((unhide HS).set (q := q) (by rw [← unhide HL]; exact unhide HQ))
      have c1' := (unhide HS).cur.cell1
      clear c0 c1 HC HV hq
      go_wp2_with fail
      go_ret2
      exact ⟨rfl, unhide HT⟩
  · rw [if_neg hx] at HF
    obtain rfl : R = (0, x, p) := unhide HF
    have hxx : ((x : Int) != 0) = true := by simp; omega
    go_enter Try.func32, Try.ntmps32
    go_upto_region 1 with fail
    go_cut [4, 5, 6] from 7 to 19 (fun a b cc wc => cc = .int .i64 (x : Int) ∧ Hid (Step w wc g h cap zs p))
    case first =>
      go_region_law (refine step_call 42 #[.slice (some ⟨h, 0, none⟩) L cap, .int .i64 (p : Int)] rfl (by go_simp) ?_; refine (unhide HV).mono ?_; rintro e w1 ⟨rfl, h1⟩; have H1 := hide ((unhide HC 1).stays h1); clear h1; refine ⟨_, rfl, ?_⟩)
      all_goals (go_wp2_with fail; go_meet; exact ⟨rfl, H1⟩)
    case rest =>
      obtain ⟨rfl, HS⟩ := hcut
      clear c0 c1 HC HV
      go_wp2_with fail
      go_ret2
      exact ⟨rfl, unhide HS⟩

/-- what readSum tells -/
def sumF (zs : List Nat) (p : Nat) : Nat × Nat := expF zs p (crcB (zs.take p)) 12

set_option maxHeartbeats 1000000 in
theorem readSum_ok (g h cap p : Nat) (zs : List Nat) (w : World) (c : Cur w g h cap zs p) (hp : 0 < p) :
    Calls Try.prog 22 #[.pointer (some ⟨g, 0, none⟩)] w fun e w' => e = .returned (.int .i64 ((sumF zs p).1 : Int)) ∧ Step w w' g h cap zs (sumF zs p).2 := by
  have c0 : w.drew.cell? ⟨g, 0, none⟩ = _ := c.cell0
  have c1 : w.drew.cell? ⟨g, 1, none⟩ = _ := c.cell1
  have hle := c.le
  have hcap := c.cap
  have hsm := c.small
  have HS0 : Hid (Step w w.drew g h cap zs p) := hide ((Step.refl c).drew 1)
  have HTK : Hid (Reads w.drew (.slice (some ⟨h, 0, none⟩) p cap) (zs.take p)) := hide (by show Reads (w.drewN 1) _ _; have := (c.drew 1).reads2 (p := 0) (k := p) (c2 := cap) (by omega); simpa using this)
  have HOT : Hid (∀ z ∈ zs.take p, z < 256) := hide (fun z hz => c.oct z (List.mem_of_mem_take hz))
  have HSU := hide (sumOf_ok _ _ w.drew (unhide HTK) (unhide HOT) (by simp; omega))
  have HEX : Hid (∀ w1 gs cs, Step w w1 g h cap zs p → StB w.drew w1 (.slice (some ⟨gs, 0, none⟩) 4 cs) (crcB (zs.take p)) → Calls Try.prog 31 #[.pointer (some ⟨g, 0, none⟩), .slice (some ⟨gs, 0, none⟩) 4 cs, .int .i64 12] w1 fun e w' => e = .returned (.int .i64 ((sumF zs p).1 : Int)) ∧ Step w w' g h cap zs (sumF zs p).2) := hide (fun w1 gs cs h1 h2 => by
    refine (expect_ok g h cap p 12 zs (crcB (zs.take p)) _ w1 h1.cur h2.reads ?_ (by rw [crcB_length]; omega) (fun z hz => ?_)).mono ?_
    · intro a n k e
      injection e with e1
      injection e1 with e1
      subst e1
      obtain ⟨g', c', e', _, hb, _⟩ := h2.made (by rw [crcB_length]; omega)
      injection e' with e1
      injection e1 with e1
      injection e1 with e1
      subst e1
      have hg := heap_lt c.cells
      have hds : w.drew.heap.size = w.heap.size := rfl
      show gs ≠ g
      omega
    · unfold crcB N.lowB at hz
      simp only [List.mem_map] at hz
      obtain ⟨i, _, rfl⟩ := hz
      exact Nat.mod_lt _ (by omega)
    · rintro e w2 ⟨rfl, h3⟩
      exact ⟨rfl, h1.trans h3⟩)
  obtain ⟨L, hL⟩ : ∃ L, L = zs.length := ⟨_, rfl⟩
  rw [← hL] at c0 hle hcap hsm
  generalize sumF zs p = R at *
  have HCL := hide (crcB_length (zs.take p))
  generalize crcB (zs.take p) = cb at *
  clear c hL HTK HOT
  have hpc : p ≤ cap := by omega
  have hpc' : (p : Int) ≤ (cap : Int) := by omega
  go_enter Try.func22, Try.ntmps22
  go_wp2_with fail
  go_region_law (first
    | (refine step_call 15 #[.slice (some ⟨h, 0, none⟩) p cap] rfl (by go_simp) ?_; refine (unhide HSU).mono ?_; rintro e w1 ⟨v', rfl, h1⟩; obtain ⟨gs, cs, rfl, _, _, _⟩ := h1.made (by rw [unhide HCL]; omega); rw [unhide HCL]; have H1 := hide h1; have HE1 := hide (unhide HEX w1 gs cs ((unhide HS0).stays h1.bel) (by rw [← unhide HCL]; exact h1)); clear h1; refine ⟨_, rfl, ?_⟩)
    | (refine step_call 31 #[.pointer (some ⟨g, 0, none⟩), .slice (some ⟨gs, 0, none⟩) 4 cs, .int .i64 12] rfl (by go_simp) ?_; refine (unhide HE1).mono ?_; rintro e w2 ⟨rfl, h2⟩; have H2 := hide h2; clear h2; refine ⟨_, rfl, ?_⟩))
  all_goals (go_wp2_with fail; go_ret; exact ⟨rfl, unhide H2⟩)
end Go.Proofs.Ytcppnkbfndhioaa
