/- less: does one turning stand ahead of another? -/
import Derived.Test.YtpemgjcgcmleiaaProg
import Derived.Test.YtpemgjcgcmleiaaSufN
import Derived.WalkKit
import Derived.WalkSpells
import Derived.Handy
import Derived.Laws.Rows
import Derived.Laws.BytesArg
import Derived.Deep.LoopGhost
import Derived.Deep.QuietTactic
import Derived.Deep.DeepMust
import Derived.BigQuiet
import Derived.KernelRfl
import Derived.OwnWalk
import Derived.Deep.DeepCutAuto
import Derived.Deep.DrawnRows
import Derived.WalkMore
import Derived.Deep.AppendLies
import Derived.Lib.SmallJoins
namespace Go.Proofs.Ytpemgjcgcmleiaa
open Go.RowKit Suf
set_option maxRecDepth 100000
set_option linter.unusedVariables false

theorem hide {p : Prop} (h : p) : Hid p := h
theorem unhide {p : Prop} (h : Hid p) : p := h


theorem tmod_nat (a n : Nat) : (a : Int).tmod (n : Int) = ((a % n : Nat) : Int) := rfl

/-- what less tells -/
def LessIs (b : List Nat) (i k : Nat) (w : World) (e : Ending) (w' : World) : Prop := ∃ r : Bool, e = .returned (.bool r) ∧ (r = true → Ahead b i k) ∧ (r = false → i ≠ k → Ahead b k i) ∧ ∃ q, w' = w.drewN q

set_option maxHeartbeats 4000000 in
theorem less_ok (b : List Nat) (g off cap i k : Nat) (w : World) (hc : ∀ j, j < b.length → w.cell? ⟨g, off + j, none⟩ = some (.int .u8 ((b.getD j 0 : Nat) : Int))) (hb : ∀ z ∈ b, z < 256) (hn : b.length ≤ 1048576) (hi : i < b.length) (hk : k < b.length) :
    Calls Try.prog 19 #[.slice (some ⟨g, off, none⟩) b.length cap, .int .i64 (i : Int), .int .i64 (k : Int)] w fun e w' => LessIs b i k w e w' := by
  have HC := hide hc
  obtain ⟨n, hN⟩ : ∃ n, n = b.length := ⟨_, rfl⟩
  have HN := hide hN
  rw [← hN] at hn hi hk ⊢
  clear hN hc
  go_enter Try.func19, Try.ntmps19
  go_wp2_with fail
  go_loopg [7] n (fun gk c ws => ∃ (m q : Nat), gk = n - m ∧ m ≤ n ∧ c = .int .i64 (m : Int) ∧ Hid (∀ j, j < m → tw b i j = tw b k j) ∧ ws = w.drewN q)
  case atStart => exact ⟨0, 0, by omega, by omega, rfl, hide (fun j hj => by omega), rfl⟩
  case round =>
    obtain ⟨m, q, rfl, hm, rfl, HE, rfl⟩ := hrel
    by_cases hlt : m < n
    · have tl : (m : Int) < (n : Int) := by omega
      obtain ⟨p1, hp1⟩ : ∃ p1, p1 = (i + m) % n := ⟨_, rfl⟩
      obtain ⟨p2, hp2⟩ : ∃ p2, p2 = (k + m) % n := ⟨_, rfl⟩
      have h1 : p1 < n := by rw [hp1]; exact Nat.mod_lt _ (by omega)
      have h2 : p2 < n := by rw [hp2]; exact Nat.mod_lt _ (by omega)
      have t1 : ((i : Int) + (m : Int)).tmod (n : Int) = (p1 : Int) := by rw [hp1]; exact tmod_nat (i + m) n
      have t2 : ((k : Int) + (m : Int)).tmod (n : Int) = (p2 : Int) := by rw [hp2]; exact tmod_nat (k + m) n
      have c1 : (w.drewN q).cell? ⟨g, off + p1, none⟩ = some (.int .u8 ((b.getD p1 0 : Nat) : Int)) := unhide HC p1 (by rw [← unhide HN]; exact h1)
      have c2 : (w.drewN q).cell? ⟨g, off + p2, none⟩ = some (.int .u8 ((b.getD p2 0 : Nat) : Int)) := unhide HC p2 (by rw [← unhide HN]; exact h2)
      have HX : Hid (tw b i m = b.getD p1 0 ∧ tw b k m = b.getD p2 0) := hide (by unfold tw; rw [← unhide HN, ← hp1, ← hp2]; exact ⟨rfl, rfl⟩)
      have h1i : (p1 : Int) < (n : Int) := by omega
      have h2i : (p2 : Int) < (n : Int) := by omega
      have hn0 : ¬ (n : Int) = 0 := by omega
      have hn0' : ((n : Int) == 0) = false := by simp; omega
      generalize b.getD p1 0 = x at *
      generalize b.getD p2 0 = y at *
      clear hp1 hp2
      by_cases hxy : x = y
      · have f1 : ((x : Int) != (y : Int)) = false := by simp; omega
        go_wp2_with fail
        go_roundg (n - (m + 1))
        case measure => omega
        case rel =>
          refine ⟨m + 1, q, rfl, by omega, by go_num, hide fun j hj => ?_, rfl⟩
          by_cases e : j = m
          · subst e; rw [(unhide HX).1, (unhide HX).2, hxy]
          · exact unhide HE j (by omega)
      · have f1 : ((x : Int) != (y : Int)) = true := by simp; omega
        by_cases hlt2 : x < y
        · have f2 : decide ((x : Int) < (y : Int)) = true := by simp; omega
          have f3 : (x : Int) < (y : Int) := by omega
          go_wp2_with fail
          go_ret
          unfold LessIs
          refine ⟨true, rfl, fun _ => ahead_by (n := m) (by rw [← unhide HN]; exact hlt) (unhide HE) (by rw [(unhide HX).1, (unhide HX).2]; exact hlt2), fun h => by (cases h), q, rfl⟩
        · have f2 : decide ((x : Int) < (y : Int)) = false := by simp; omega
          have f3 : ¬ (x : Int) < (y : Int) := by omega
          go_wp2_with fail
          go_ret
          unfold LessIs
          refine ⟨false, rfl, fun h => by (cases h), fun _ _ => ahead_by (n := m) (by rw [← unhide HN]; exact hlt) (fun j hj => (unhide HE j hj).symm) (by rw [(unhide HX).1, (unhide HX).2]; omega), q, rfl⟩
    · obtain rfl : m = n := by omega
      have tl : ¬ (m : Int) < (m : Int) := by omega
      have er : rot b i = rot b k := rot_same fun j hj => unhide HE j (by rw [unhide HN]; exact hj)
      have HER := hide er
      clear er
      by_cases hik : i < k
      · have f2 : decide ((i : Int) < (k : Int)) = true := by simp; omega
        have f3 : (i : Int) < (k : Int) := by omega
        go_wp2_with fail
        go_ret
        unfold LessIs
        exact ⟨true, rfl, fun _ => ⟨by rw [unhide HER]; exact List.le_refl _, fun _ => hik⟩, fun h => by (cases h), q, rfl⟩
      · have f2 : decide ((i : Int) < (k : Int)) = false := by simp; omega
        have f3 : ¬ (i : Int) < (k : Int) := by omega
        go_wp2_with fail
        go_ret
        unfold LessIs
        exact ⟨false, rfl, fun h => by (cases h), fun _ hne => ⟨by rw [unhide HER]; exact List.le_refl _, fun _ => by omega⟩, q, rfl⟩

end Go.Proofs.Ytpemgjcgcmleiaa
