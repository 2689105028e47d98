/- Functions that tell a rank, or compare two places by theirs. -/
import Derived.Test.YtpemgjcgcmleiaaSo
import Derived.Test.YtpemgjcgcmleiaaPt
import Derived.Laws.BitsAllLaws
namespace Go.Proofs.Ytpemgjcgcmleiaa
open Go.RowKit Suf Go.Sort
set_option maxRecDepth 100000
set_option linter.unusedVariables false

/-- the block of turnings, as far as a rank wants it -/
structure TbAt (w : World) (tb rg n : Nat) (R : Nat → Nat) : Prop where
  c1 : w.cell? ⟨tb, 1, none⟩ = some (.slice (some ⟨rg, 0, none⟩) n n)
  rk : IntsAt w .i64 3 rg n R

set_option maxHeartbeats 1000000 in
theorem begin2_ok (x n : Nat) (R : Nat → Nat) (tx tb rg : Nat) (w : World) (htx : w.cell? ⟨tx, 0, none⟩ = some (.pointer (some ⟨tb, 0, none⟩))) (hT : TbAt w tb rg n R) (hx : x < n) :
    Calls Try.prog 28 #[.int .i64 (x : Int), .pointer (some ⟨tx, 0, none⟩)] w fun e w' => e = .returned (.int .i64 (R x : Int)) ∧ ∃ q, w' = w.drewN q := by
  have c1 := hT.c1
  have c2 := hT.rk.cell x hx
  have hxi : (x : Int) < (n : Int) := by omega
  generalize R x = y at *
  clear hT
  go_enter Try.func28, Try.ntmps28
  go_wp2_with fail
  go_ret
  exact ⟨rfl, 0, rfl⟩

set_option maxHeartbeats 2000000 in
theorem ahead_ok (x h n : Nat) (R : Nat → Nat) (ax tx tb rg : Nat) (w : World) (hax : w.cell? ⟨ax, 0, none⟩ = some (.int .i64 (h : Int))) (htx : w.cell? ⟨tx, 0, none⟩ = some (.pointer (some ⟨tb, 0, none⟩))) (hT : TbAt w tb rg n R) (hx : x < n) (hh : h < n) (hn : n ≤ 1048576) :
    Calls Try.prog 29 #[.int .i64 (x : Int), .pointer (some ⟨ax, 0, none⟩), .pointer (some ⟨tx, 0, none⟩)] w fun e w' => e = .returned (.int .i64 (R ((x + h) % n) : Int)) ∧ ∃ q, w' = w.drewN q := by
  have c1 := hT.c1
  by_cases hg : n ≤ x + h
  · have e1 : (x + h) % n = x + h - n := by rw [Nat.mod_eq_sub_mod hg, Nat.mod_eq_of_lt (by omega)]
    obtain ⟨z, hz⟩ : ∃ z, x + h = z + n := ⟨x + h - n, by omega⟩
    have e2 : (x + h) % n = z := by omega
    have c2 := hT.rk.cell z (by omega)
    rw [e2]
    generalize R z = y at *
    have hz' : (x : Int) + (h : Int) = (z : Int) + (n : Int) := by omega
    have f1 : (n : Int) ≤ (x : Int) + (h : Int) := by omega
    have f2 : (n : Int) ≤ (z : Int) + (n : Int) := by omega
    have f3 : (z : Int) < (n : Int) := by omega
    have f4 : ((z : Int) + (n : Int) - (n : Int)) = (z : Int) := by omega
    have f5 : IntKind.i64.wrap (z : Int) = (z : Int) := by rw [IntKind.wrap_i64]; omega
    have f6 : IntKind.i64.wrap ((z : Int) + (n : Int)) = (z : Int) + (n : Int) := by rw [IntKind.wrap_i64]; omega
    clear hT e1 e2
    go_enter Try.func29, Try.ntmps29
    go_wp2_with fail
    go_ret
    exact ⟨rfl, 0, rfl⟩
  · have e2 : (x + h) % n = x + h := Nat.mod_eq_of_lt (by omega)
    have c2 := hT.rk.cell (x + h) (by omega)
    rw [e2]
    obtain ⟨z, hz⟩ : ∃ z, x + h = z := ⟨_, rfl⟩
    rw [hz] at c2 ⊢
    generalize R z = y at *
    have hz' : (x : Int) + (h : Int) = (z : Int) := by omega
    have f1 : ¬ (n : Int) ≤ (z : Int) := by omega
    have f3 : (z : Int) < (n : Int) := by omega
    have f5 : IntKind.i64.wrap (z : Int) = (z : Int) := by rw [IntKind.wrap_i64]; omega
    clear hT e2
    go_enter Try.func29, Try.ntmps29
    go_wp2_with fail
    go_ret
    exact ⟨rfl, 0, rfl⟩

theorem TbAt.drewN {w : World} {tb rg n : Nat} {R : Nat → Nat} (h : TbAt w tb rg n R) (q : Nat) : TbAt (w.drewN q) tb rg n R := ⟨h.c1, h.rk⟩

set_option maxHeartbeats 2000000 in
theorem refine2_ok (x y h n : Nat) (R : Nat → Nat) (rx ax tx tb rg : Nat) (w : World) (hrx : w.cell? ⟨rx, 0, none⟩ = some (.func (.func 29) #[] #[.pointer (some ⟨ax, 0, none⟩), .pointer (some ⟨tx, 0, none⟩)])) (hax : w.cell? ⟨ax, 0, none⟩ = some (.int .i64 (h : Int))) (htx : w.cell? ⟨tx, 0, none⟩ = some (.pointer (some ⟨tb, 0, none⟩))) (hT : TbAt w tb rg n R) (hx : x < n) (hy : y < n) (hh : h < n) (hn : n ≤ 1048576) :
    Calls Try.prog 31 #[.int .i64 (x : Int), .int .i64 (y : Int), .pointer (some ⟨rx, 0, none⟩)] w fun e w' => e = .returned (.int .i64 (Lib.compareInt (R ((x + h) % n) : Int) (R ((y + h) % n) : Int))) ∧ ∃ q, w' = w.drewN q := by
  have H1 : Hid (∀ q, Calls Try.prog 29 #[.int .i64 (x : Int), .pointer (some ⟨ax, 0, none⟩), .pointer (some ⟨tx, 0, none⟩)] (w.drewN q) fun e w' => e = .returned (.int .i64 (R ((x + h) % n) : Int)) ∧ ∃ q', w' = (w.drewN q).drewN q') := hide fun q => ahead_ok x h n R ax tx tb rg (w.drewN q) hax htx (hT.drewN q) hx hh hn
  have H2 : Hid (∀ q, Calls Try.prog 29 #[.int .i64 (y : Int), .pointer (some ⟨ax, 0, none⟩), .pointer (some ⟨tx, 0, none⟩)] (w.drewN q) fun e w' => e = .returned (.int .i64 (R ((y + h) % n) : Int)) ∧ ∃ q', w' = (w.drewN q).drewN q') := hide fun q => ahead_ok y h n R ax tx tb rg (w.drewN q) hax htx (hT.drewN q) hy hh hn
  generalize R ((x + h) % n) = u at *
  generalize R ((y + h) % n) = v at *
  have H3 : Hid (∀ q, Calls Try.prog 32 #[.int .i64 (u : Int), .int .i64 (v : Int)] (w.drewN q) fun e w' => e = .returned (.int .i64 (Lib.compareInt (u : Int) (v : Int))) ∧ w' = w.drewN q) := hide fun q => Try.cmp_Compare_int _ _ _
  have g1 : ∀ q, (w.drewN q).cell? ⟨rx, 0, none⟩ = some (.func (.func 29) #[] #[.pointer (some ⟨ax, 0, none⟩), .pointer (some ⟨tx, 0, none⟩)]) := fun q => hrx
  clear hrx hax htx hT
  go_enter Try.func31, Try.ntmps31
  go_upto_region 1 with fail
  go_quiet (first | (go_at_call 32; exact Calls.quiet_of_same (unhide H3 _)) | (go_at_call_of 29 (Value.int .i64 (x : Int)); exact Calls.quiet_of (unhide H1 _)) | (go_at_call_of 29 (Value.int .i64 (y : Int)); exact Calls.quiet_of (unhide H2 _)))
  go_wp2_with fail
  go_ret
  exact ⟨rfl, _, rfl⟩

end Go.Proofs.Ytpemgjcgcmleiaa
