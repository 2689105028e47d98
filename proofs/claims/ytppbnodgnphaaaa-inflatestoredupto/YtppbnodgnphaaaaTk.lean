/- Lengths and distances that are read: measure, piece. -/
import Derived.Test.YtppbnodgnphaaaaOut
namespace Go.Proofs.Ytppbnodgnphaaaa
open Go.RowKit Mth Infl
set_option maxRecDepth 100000
set_option linter.unusedVariables false

section
variable {rb rp : Nat} {v : Value} {w : World} {B g p q most : Nat} {zs out : List Nat} {sv dv : Value}

theorem conv_u64 (x : Nat) (hx : x < 4294967296) (w : World) : (convert 50 3 (.int .u64 (x : Int))).run Try.prog w = .ok (.int .i64 (x : Int)) w := by
  have h : IntKind.i64.wrap (x : Int) = (x : Int) := IntWalk.i64_in _ (by omega)
  go_simp

theorem lenOf_small (s : Nat) (h1 : 257 ≤ s) (h2 : s ≤ 285) : (Infl.lenOf s).1 ≤ 258 ∧ (Infl.lenOf s).2 ≤ 5 := by
  have hc : ∀ i, i < 29 → (Infl.lenOf (257 + i)).1 ≤ 258 ∧ (Infl.lenOf (257 + i)).2 ≤ 5 := by decide
  have := hc (s - 257) (by omega)
  rw [show 257 + (s - 257) = s from by omega] at this
  exact this

theorem distOf_small (s : Nat) (h2 : s ≤ 29) : 1 ≤ (Infl.distOf s).1 ∧ (Infl.distOf s).1 ≤ 24577 ∧ (Infl.distOf s).2 ≤ 13 := by
  have hc : ∀ i, i < 30 → 1 ≤ (Infl.distOf i).1 ∧ (Infl.distOf i).1 ≤ 24577 ∧ (Infl.distOf i).2 ≤ 13 := by decide
  exact hc s (by omega)

theorem pow_small13 (n : Nat) (h : n ≤ 13) : 2 ^ n ≤ 8192 := Nat.le_trans (Nat.pow_le_pow_right (by decide) h) (by decide)

set_option maxHeartbeats 1000000 in
/-- a look that is refused -/
theorem measure_noL (s : Nat) (HL : ∀ w, Calls Try.prog 10 #[.int .i64 (s : Int)] w fun e w' => e = .returned (.tuple #[.int .i64 0, .int .i64 0, .int .i64 2]) ∧ w' = w) :
    Calls Try.prog 63 #[.pointer (some ⟨rb, 0, none⟩), .int .i64 (s : Int), .func (.func 10) #[] #[]] w fun e w' => e = .returned (.tuple #[.int .i64 0, .int .i64 11]) ∧ w' = w := by
  have HL := hide HL
  go_enter Try.func63, Try.ntmps63
  go_wp2_with fail
  refine (unhide HL _).mono ?_
  rintro e w' ⟨rfl, rfl⟩
  go_wp2_with fail
  go_ret2
  exact ⟨rfl, rfl⟩

set_option maxHeartbeats 1000000 in
/-- a look that is told, and its bits -/
theorem measure_yesL (s : Nat) (least extra : Nat) (hl : least ≤ 100000) (hx : extra ≤ 13) (HL : ∀ w, Calls Try.prog 10 #[.int .i64 (s : Int)] w fun e w' => e = .returned (.tuple #[.int .i64 (least : Int), .int .i64 (extra : Int), .int .i64 0]) ∧ w' = w)
    (h : RAt w B rb rp g zs p v out most sv dv) (hz : zs.length ≤ 140737488355328) :
    Calls Try.prog 63 #[.pointer (some ⟨rb, 0, none⟩), .int .i64 (s : Int), .func (.func 10) #[] #[]] w fun e w' => ∃ x q b : Nat, e = .returned (.tuple #[.int .i64 ((least + x : Nat) : Int), .int .i64 (b : Int)]) ∧ RAt w' B rb rp g zs q v out most sv dv ∧ Chg rb rp v w v w' ∧ GotIs extra zs p x q b := by
  have HL := hide HL
  have HG := hide (rget extra h hz (by omega))
  have c0 := h.c0
  have HX := hide hx
  clear h
  go_enter Try.func63, Try.ntmps63
  go_wp2_with fail
  refine (unhide HL _).mono ?_
  rintro e w' ⟨rfl, hw⟩
  subst w'
  go_wp2_with fail
  refine (unhide HG).mono ?_
  rintro e w1 ⟨x, q, b, rfl, h1, h2, h3⟩
  have hxs : x < 8192 := by
    rcases h3 with ⟨_, _, h4, _⟩ | ⟨_, rfl, _⟩
    · have := pow_small13 extra (unhide HX); omega
    · decide
  have H1 := hide h1
  have H2 := hide h2
  have H3 := hide h3
  clear h1 h2 h3 HG HL c0
  have hcv := conv_u64 x (by omega)
  go_wp2_with fail
  go_ret2
  exact ⟨x, q, b, rfl, unhide H1, unhide H2, unhide H3⟩

set_option maxHeartbeats 1000000 in
/-- a look that is refused -/
theorem measure_noD (s : Nat) (HL : ∀ w, Calls Try.prog 12 #[.int .i64 (s : Int)] w fun e w' => e = .returned (.tuple #[.int .i64 0, .int .i64 0, .int .i64 2]) ∧ w' = w) :
    Calls Try.prog 63 #[.pointer (some ⟨rb, 0, none⟩), .int .i64 (s : Int), .func (.func 12) #[] #[]] w fun e w' => e = .returned (.tuple #[.int .i64 0, .int .i64 11]) ∧ w' = w := by
  have HL := hide HL
  go_enter Try.func63, Try.ntmps63
  go_wp2_with fail
  refine (unhide HL _).mono ?_
  rintro e w' ⟨rfl, rfl⟩
  go_wp2_with fail
  go_ret2
  exact ⟨rfl, rfl⟩

set_option maxHeartbeats 1000000 in
/-- a look that is told, and its bits -/
theorem measure_yesD (s : Nat) (least extra : Nat) (hl : least ≤ 100000) (hx : extra ≤ 13) (HL : ∀ w, Calls Try.prog 12 #[.int .i64 (s : Int)] w fun e w' => e = .returned (.tuple #[.int .i64 (least : Int), .int .i64 (extra : Int), .int .i64 0]) ∧ w' = w)
    (h : RAt w B rb rp g zs p v out most sv dv) (hz : zs.length ≤ 140737488355328) :
    Calls Try.prog 63 #[.pointer (some ⟨rb, 0, none⟩), .int .i64 (s : Int), .func (.func 12) #[] #[]] w fun e w' => ∃ x q b : Nat, e = .returned (.tuple #[.int .i64 ((least + x : Nat) : Int), .int .i64 (b : Int)]) ∧ RAt w' B rb rp g zs q v out most sv dv ∧ Chg rb rp v w v w' ∧ GotIs extra zs p x q b := by
  have HL := hide HL
  have HG := hide (rget extra h hz (by omega))
  have c0 := h.c0
  have HX := hide hx
  clear h
  go_enter Try.func63, Try.ntmps63
  go_wp2_with fail
  refine (unhide HL _).mono ?_
  rintro e w' ⟨rfl, hw⟩
  subst w'
  go_wp2_with fail
  refine (unhide HG).mono ?_
  rintro e w1 ⟨x, q, b, rfl, h1, h2, h3⟩
  have hxs : x < 8192 := by
    rcases h3 with ⟨_, _, h4, _⟩ | ⟨_, rfl, _⟩
    · have := pow_small13 extra (unhide HX); omega
    · decide
  have H1 := hide h1
  have H2 := hide h2
  have H3 := hide h3
  clear h1 h2 h3 HG HL c0
  have hcv := conv_u64 x (by omega)
  go_wp2_with fail
  go_ret2
  exact ⟨x, q, b, rfl, unhide H1, unhide H2, unhide H3⟩

end
end Go.Proofs.Ytppbnodgnphaaaa
