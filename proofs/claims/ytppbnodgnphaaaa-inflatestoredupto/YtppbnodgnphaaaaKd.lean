/- A block's kind. -/
import Derived.Test.YtppbnodgnphaaaaPc
namespace Go.Proofs.Ytppbnodgnphaaaa
open Go.RowKit Mth Infl
set_option maxRecDepth 100000
set_option linter.unusedVariables false

/-- what reads a block of that kind -/
def kindF (x rb : Nat) : Value := .func (.func (37 + x)) #[.pointer (some ⟨rb, 0, none⟩)] #[]

/-- what kind tells -/
def KindIs (w : World) (B rb rp g : Nat) (zs : List Nat) (p : Nat) (v : Value) (out : List Nat) (most : Nat) (sv dv : Value) (e : Ending) (w' : World) : Prop :=
  Chg rb rp v w v w' ∧ ∃ x q b, GotIs 2 zs p x q b ∧ RAt w' B rb rp g zs q v out most sv dv ∧ ((b = 0 ∧ x < 3 ∧ e = .returned (.tuple #[kindF x rb, .int .i64 0])) ∨ (b = 0 ∧ x = 3 ∧ e = .returned (.tuple #[.nilFunc, .int .i64 16])) ∨ (b = 10 ∧ e = .returned (.tuple #[.nilFunc, .int .i64 10])))

section
variable {rb rp : Nat} {v v1 : Value} {w w1 w' : World} {B g p q most : Nat} {zs out : List Nat} {sv dv : Value}

set_option maxHeartbeats 2000000 in
theorem kind_ok (h : RAt w B rb rp g zs p v out most sv dv) (hz : zs.length ≤ 140737488355328) :
    Calls Try.prog 28 #[.pointer (some ⟨rb, 0, none⟩)] w fun e w' => KindIs w B rb rp g zs p v out most sv dv e w' := by
  have HG := hide (rget 2 h hz (by decide))
  have c0 := h.c0
  clear h
  go_enter Try.func28, Try.ntmps28
  go_wp2_with fail
  refine (unhide HG).mono ?_
  rintro e w1 ⟨x, q, b, rfl, r1, d1, g1⟩
  have HK : Hid (∀ e, ((b = 0 ∧ x < 3 ∧ e = .returned (.tuple #[kindF x rb, .int .i64 0])) ∨ (b = 0 ∧ x = 3 ∧ e = .returned (.tuple #[.nilFunc, .int .i64 16])) ∨ (b = 10 ∧ e = .returned (.tuple #[.nilFunc, .int .i64 10]))) → KindIs w B rb rp g zs p v out most sv dv e w1) := hide fun e he => ⟨d1, x, q, b, g1, r1, he⟩
  rcases g1 with ⟨rfl, _, gx, _⟩ | ⟨rfl, rfl, _⟩
  · have hx : x < 4 := gx
    clear gx r1 d1
    rcases (show x = 0 ∨ x = 1 ∨ x = 2 ∨ x = 3 by omega) with rfl | rfl | rfl | rfl
    · have HE := hide (unhide HK _ (.inl ⟨rfl, by decide, rfl⟩))
      clear HK
      go_wp2_with fail
      go_ret2
      exact unhide HE
    · have HE := hide (unhide HK _ (.inl ⟨rfl, by decide, rfl⟩))
      clear HK
      go_wp2_with fail
      go_ret2
      exact unhide HE
    · have HE := hide (unhide HK _ (.inl ⟨rfl, by decide, rfl⟩))
      clear HK
      go_wp2_with fail
      go_ret2
      exact unhide HE
    · have HE := hide (unhide HK _ (.inr (.inl ⟨rfl, rfl, rfl⟩)))
      clear HK
      go_wp2_with fail
      go_ret2
      exact unhide HE
  · have HE := hide (unhide HK _ (.inr (.inr ⟨rfl, rfl⟩)))
    clear HK r1 d1
    go_wp2_with fail
    go_ret2
    exact unhide HE
end
end Go.Proofs.Ytppbnodgnphaaaa
