/- What a code's calls tell: Word, Symbols, Cost. -/
import Derived.Test.YtppbnodgnphaaaaNew
import Derived.BigQuiet
import Derived.Deep.QuietTactic
namespace Go.Proofs.Ytppbnodgnphaaaa
open Go.RowKit
set_option maxRecDepth 100000
set_option linter.unusedVariables false

section
variable {ls : List Nat} {w : World} {cp lo hi wg g cap N base : Nat} {A B S : Nat → Nat} {H : Nat → Bool} {ix ky : Nat → Nat}
theorem CodeAt.c0 (h : CodeAt ls w cp lo hi wg g cap N base A B S H ix ky) : w.cell? ⟨cp, 0, none⟩ = some (.bool true) := by simp [World.cell?, h.blk]
theorem CodeAt.c1 (h : CodeAt ls w cp lo hi wg g cap N base A B S H ix ky) : w.cell? ⟨cp, 1, none⟩ = some (.slice (some ⟨wg, 0, none⟩) ls.length ls.length) := by simp [World.cell?, h.blk]
theorem CodeAt.c2 (h : CodeAt ls w cp lo hi wg g cap N base A B S H ix ky) : w.cell? ⟨cp, 2, none⟩ = some (.slice (some ⟨g, 0, none⟩) N cap) := by simp [World.cell?, h.blk]
end

set_option maxHeartbeats 400000 in
theorem cgood_yes (cp : Nat) (w : World) (h : w.cell? ⟨cp, 0, none⟩ = some (.bool true)) : Calls Try.prog 62 #[.pointer (some ⟨cp, 0, none⟩)] w fun e w' => e = .returned (.bool true) ∧ w' = w := by
  go_enter Try.func62, Try.ntmps62
  go_wp2
  go_ret
  exact ⟨rfl, rfl⟩

theorem below_drewN {B : Nat} {a w : World} (h : Below B a w) (n : Nat) : Below B a (w.drewN n) := ⟨h.os, h.tape, h.output, h.size, h.block⟩

/-- The symbol has a word. -/
def HasW (ls : List Nat) (s : Int) : Prop := 0 ≤ s ∧ s < (ls.length : Int) ∧ 0 < Canon.ln ls s.toNat

end Go.Proofs.Ytppbnodgnphaaaa
