/-
  What number.pass tells: the place of the first byte that is not fit.
-/
import Derived.Test.YtbefokclbcdmhaaBase
namespace Go.Proofs.Ytbefokclbcdmhaa
open Go.RowKit

/-- the place of the first byte from 'i' on that is not fit; of 'n' bytes at most -/
def passN (fit : Nat → Bool) (zs : List Nat) : Nat → Nat → Nat
  | 0, i => i
  | n + 1, i => if fit (zs.getD i 0) then passN fit zs n (i + 1) else i

def isBlank (z : Nat) : Bool := ((z : Int) == 32)
def isDigit (z : Nat) : Bool := decide ((48 : Int) ≤ z) && decide ((z : Int) ≤ 55)
def isTail (z : Nat) : Bool := ((z : Int) == 0) || ((z : Int) == 32)

theorem fit37 (z : Nat) (w : World) : Calls Try.prog 37 #[.int .u8 (z : Int)] w fun e w' => e = .returned (.bool (isBlank z)) ∧ w' = w := by
  go_enter Try.func37, Try.ntmps37
  go_wp2
  go_ret
  exact ⟨rfl, rfl⟩

theorem fit38 (z : Nat) (w : World) : Calls Try.prog 38 #[.int .u8 (z : Int)] w fun e w' => e = .returned (.bool (isDigit z)) ∧ w' = w := by
  by_cases h1 : (48 : Int) ≤ z
  · by_cases h2 : (z : Int) ≤ 55
    · have e : isDigit z = true := by simp [isDigit]; omega
      rw [e]
      go_enter Try.func38, Try.ntmps38
      go_wp2
      go_ret
      exact ⟨rfl, rfl⟩
    · have e : isDigit z = false := by simp [isDigit]; omega
      rw [e]
      go_enter Try.func38, Try.ntmps38
      go_wp2
      go_ret
      exact ⟨rfl, rfl⟩
  · have e : isDigit z = false := by simp [isDigit]; omega
    rw [e]
    go_enter Try.func38, Try.ntmps38
    go_wp2
    go_ret
    exact ⟨rfl, rfl⟩

theorem fit39 (z : Nat) (w : World) : Calls Try.prog 39 #[.int .u8 (z : Int)] w fun e w' => e = .returned (.bool (isTail z)) ∧ w' = w := by
  by_cases h1 : (z : Int) = 0
  · have e : isTail z = true := by simp only [isTail, h1]; rfl
    rw [e]
    have h2 : ((z : Int) == 0) = true := by simpa using h1
    clear e h1
    go_enter Try.func39, Try.ntmps39
    go_wp2
    go_ret
    exact ⟨rfl, rfl⟩
  · have h2 : ((z : Int) == 0) = false := by simpa using h1
    have e : isTail z = ((z : Int) == 32) := by rw [isTail, h2]; rfl
    rw [e]
    clear e h1
    go_enter Try.func39, Try.ntmps39
    go_wp2
    go_ret
    exact ⟨rfl, rfl⟩

theorem pass37 (v : Value) (zs : List Nat) (i : Nat) (w : World) (hr : Reads w v zs) (hi : i ≤ zs.length) (hn : zs.length ≤ 140737488355328) :
    Calls Try.prog 36 #[v, .int .i64 (i : Int), .func (.func 37) #[] #[]] w fun e w' => e = .returned (.int .i64 (passN isBlank zs (zs.length - i) i : Nat)) ∧ Below w.heap.size w w' := by
  obtain ⟨a, cap, rfl, hsrc⟩ := hr.spot
  have HS := hide hsrc
  clear hsrc hr
  go_enter Try.func36, Try.ntmps36
  go_wp2
  go_loopg [7, 12] (zs.length - i) (fun gk u c ws => ∃ k, gk = zs.length - i - k ∧ k ≤ zs.length - i ∧ c = .int .i64 (k : Int) ∧ Hid (passN isBlank zs (zs.length - i) i = passN isBlank zs (zs.length - i - k) (i + k)) ∧ Below w.heap.size w ws)
  case atStart => exact ⟨0, by omega, by omega, rfl, hide rfl, Below.refl _ _⟩
  case round =>
    obtain ⟨k, rfl, hk, rfl, HP, hbel⟩ := hrel
    by_cases hlt : k < zs.length - i
    · obtain ⟨ab, ao, rfl, hcell⟩ := unhide HS (by omega)
      have hcl := cell_stays hbel (hcell (i + k) (by omega))
      have HE : Hid (passN isBlank zs (zs.length - i - k) (i + k) = if isBlank (zs.getD (i + k) 0) then passN isBlank zs (zs.length - i - (k + 1)) (i + (k + 1)) else i + k) := by
        apply hide
        rw [show zs.length - i - k = (zs.length - i - (k + 1)) + 1 by omega, passN]
        rfl
      generalize zs.getD (i + k) 0 = z at hcl HE
      have h1 : (k : Int) < (zs.length : Int) - i := by omega
      have HB := hide hbel
      clear hbel hcell
      have hcl' : wr.cell? ⟨ab, ao + (i + k), none⟩ = some (.int .u8 (z : Int)) := hcl
      cases hf : isBlank z
      · go_wp2_with (go_at_call 37; refine (fit37 _ _).mono ?_; rintro e w' ⟨rfl, hw⟩; rw [hw]; rw [hf])
        go_ret
        have e1 := (unhide HP).trans (unhide HE)
        rw [hf] at e1
        refine ⟨?_, unhide HB⟩
        rw [e1]
        simp
      · go_wp2_with (go_at_call 37; refine (fit37 _ _).mono ?_; rintro e w' ⟨rfl, hw⟩; rw [hw]; rw [hf])
        go_roundg (zs.length - i - (k + 1))
        case measure => omega
        case rel =>
          have e1 := (unhide HP).trans (unhide HE)
          rw [hf] at e1
          exact ⟨k + 1, rfl, by omega, by go_num, hide e1, unhide HB⟩
    · obtain rfl : k = zs.length - i := by omega
      have HB := hide hbel
      have h1 : ¬ (((zs.length - i : Nat) : Int) < (zs.length : Int) - i) := by omega
      clear hbel
      go_wp2
      go_ret
      refine ⟨?_, unhide HB⟩
      rw [unhide HP, Nat.sub_self, passN]
      have : i + (zs.length - i) = zs.length := by omega
      rw [this]
      rfl

theorem pass38 (v : Value) (zs : List Nat) (i : Nat) (w : World) (hr : Reads w v zs) (hi : i ≤ zs.length) (hn : zs.length ≤ 140737488355328) :
    Calls Try.prog 36 #[v, .int .i64 (i : Int), .func (.func 38) #[] #[]] w fun e w' => e = .returned (.int .i64 (passN isDigit zs (zs.length - i) i : Nat)) ∧ Below w.heap.size w w' := by
  obtain ⟨a, cap, rfl, hsrc⟩ := hr.spot
  have HS := hide hsrc
  clear hsrc hr
  go_enter Try.func36, Try.ntmps36
  go_wp2
  go_loopg [7, 12] (zs.length - i) (fun gk u c ws => ∃ k, gk = zs.length - i - k ∧ k ≤ zs.length - i ∧ c = .int .i64 (k : Int) ∧ Hid (passN isDigit zs (zs.length - i) i = passN isDigit zs (zs.length - i - k) (i + k)) ∧ Below w.heap.size w ws)
  case atStart => exact ⟨0, by omega, by omega, rfl, hide rfl, Below.refl _ _⟩
  case round =>
    obtain ⟨k, rfl, hk, rfl, HP, hbel⟩ := hrel
    by_cases hlt : k < zs.length - i
    · obtain ⟨ab, ao, rfl, hcell⟩ := unhide HS (by omega)
      have hcl := cell_stays hbel (hcell (i + k) (by omega))
      have HE : Hid (passN isDigit zs (zs.length - i - k) (i + k) = if isDigit (zs.getD (i + k) 0) then passN isDigit zs (zs.length - i - (k + 1)) (i + (k + 1)) else i + k) := by
        apply hide
        rw [show zs.length - i - k = (zs.length - i - (k + 1)) + 1 by omega, passN]
        rfl
      generalize zs.getD (i + k) 0 = z at hcl HE
      have h1 : (k : Int) < (zs.length : Int) - i := by omega
      have HB := hide hbel
      clear hbel hcell
      have hcl' : wr.cell? ⟨ab, ao + (i + k), none⟩ = some (.int .u8 (z : Int)) := hcl
      cases hf : isDigit z
      · go_wp2_with (go_at_call 38; refine (fit38 _ _).mono ?_; rintro e w' ⟨rfl, hw⟩; rw [hw]; rw [hf])
        go_ret
        have e1 := (unhide HP).trans (unhide HE)
        rw [hf] at e1
        refine ⟨?_, unhide HB⟩
        rw [e1]
        simp
      · go_wp2_with (go_at_call 38; refine (fit38 _ _).mono ?_; rintro e w' ⟨rfl, hw⟩; rw [hw]; rw [hf])
        go_roundg (zs.length - i - (k + 1))
        case measure => omega
        case rel =>
          have e1 := (unhide HP).trans (unhide HE)
          rw [hf] at e1
          exact ⟨k + 1, rfl, by omega, by go_num, hide e1, unhide HB⟩
    · obtain rfl : k = zs.length - i := by omega
      have HB := hide hbel
      have h1 : ¬ (((zs.length - i : Nat) : Int) < (zs.length : Int) - i) := by omega
      clear hbel
      go_wp2
      go_ret
      refine ⟨?_, unhide HB⟩
      rw [unhide HP, Nat.sub_self, passN]
      have : i + (zs.length - i) = zs.length := by omega
      rw [this]
      rfl

theorem pass39 (v : Value) (zs : List Nat) (i : Nat) (w : World) (hr : Reads w v zs) (hi : i ≤ zs.length) (hn : zs.length ≤ 140737488355328) :
    Calls Try.prog 36 #[v, .int .i64 (i : Int), .func (.func 39) #[] #[]] w fun e w' => e = .returned (.int .i64 (passN isTail zs (zs.length - i) i : Nat)) ∧ Below w.heap.size w w' := by
  obtain ⟨a, cap, rfl, hsrc⟩ := hr.spot
  have HS := hide hsrc
  clear hsrc hr
  go_enter Try.func36, Try.ntmps36
  go_wp2
  go_loopg [7, 12] (zs.length - i) (fun gk u c ws => ∃ k, gk = zs.length - i - k ∧ k ≤ zs.length - i ∧ c = .int .i64 (k : Int) ∧ Hid (passN isTail zs (zs.length - i) i = passN isTail zs (zs.length - i - k) (i + k)) ∧ Below w.heap.size w ws)
  case atStart => exact ⟨0, by omega, by omega, rfl, hide rfl, Below.refl _ _⟩
  case round =>
    obtain ⟨k, rfl, hk, rfl, HP, hbel⟩ := hrel
    by_cases hlt : k < zs.length - i
    · obtain ⟨ab, ao, rfl, hcell⟩ := unhide HS (by omega)
      have hcl := cell_stays hbel (hcell (i + k) (by omega))
      have HE : Hid (passN isTail zs (zs.length - i - k) (i + k) = if isTail (zs.getD (i + k) 0) then passN isTail zs (zs.length - i - (k + 1)) (i + (k + 1)) else i + k) := by
        apply hide
        rw [show zs.length - i - k = (zs.length - i - (k + 1)) + 1 by omega, passN]
        rfl
      generalize zs.getD (i + k) 0 = z at hcl HE
      have h1 : (k : Int) < (zs.length : Int) - i := by omega
      have HB := hide hbel
      clear hbel hcell
      have hcl' : wr.cell? ⟨ab, ao + (i + k), none⟩ = some (.int .u8 (z : Int)) := hcl
      cases hf : isTail z
      · go_wp2_with (go_at_call 39; refine (fit39 _ _).mono ?_; rintro e w' ⟨rfl, hw⟩; rw [hw]; rw [hf])
        go_ret
        have e1 := (unhide HP).trans (unhide HE)
        rw [hf] at e1
        refine ⟨?_, unhide HB⟩
        rw [e1]
        simp
      · go_wp2_with (go_at_call 39; refine (fit39 _ _).mono ?_; rintro e w' ⟨rfl, hw⟩; rw [hw]; rw [hf])
        go_roundg (zs.length - i - (k + 1))
        case measure => omega
        case rel =>
          have e1 := (unhide HP).trans (unhide HE)
          rw [hf] at e1
          exact ⟨k + 1, rfl, by omega, by go_num, hide e1, unhide HB⟩
    · obtain rfl : k = zs.length - i := by omega
      have HB := hide hbel
      have h1 : ¬ (((zs.length - i : Nat) : Int) < (zs.length : Int) - i) := by omega
      clear hbel
      go_wp2
      go_ret
      refine ⟨?_, unhide HB⟩
      rw [unhide HP, Nat.sub_self, passN]
      have : i + (zs.length - i) = zs.length := by omega
      rw [this]
      rfl

end Go.Proofs.Ytbefokclbcdmhaa
