/- The document's Sizes, and the program's. -/
import Derived.Test.YthafoojlkaifkaaKm
namespace Go.Proofs.Ythafoojlkaifkaa.K
open Go.RowKit H
set_option maxRecDepth 100000
set_option linter.unusedVariables false
attribute [local go_sem ↓] Go.wp_at_zero Go.wp_at_succ

/-- what is answered -/
def szR (zs : List Nat) : Nat × List Nat :=
  if (vF zs (zs.length + 1) 0 true false []).1 ≠ 0 then ((vF zs (zs.length + 1) 0 true false []).1, [])
  else if (vF zs (zs.length + 1) 0 true false []).2.1 < zs.length then (15, []) else (0, (vF zs (zs.length + 1) 0 true false []).2.2)

def SzIs (R : Nat × List Nat) (w : World) (e : Ending) (w' : World) : Prop := (∃ lv B, e = .returned (.tuple #[lv, .int .i64 (R.1 : Int)]) ∧ w.heap.size ≤ B ∧ RI B w' lv (R.2.map fun n : Nat => iv (n : Int))) ∧ Below w.heap.size w w'

section
variable {w : World} {va : Option Addr} {vc : Nat} {zs : List Nat}

set_option maxHeartbeats 1000000 in
theorem sizes_ok (hr : Reads w (.slice va zs.length vc) zs) (hcap : zs.length ≤ vc) (hbig : zs.length ≤ 1099511627776) (hsm : ∀ z ∈ zs, z < 256) (hblk : ∀ a, va = some a → 0 < zs.length → ∃ cur, w.heap[a.block]? = some (.cells cur 5 (0, 0))) :
    Calls Try.prog 4 #[.slice va zs.length vc] w (SzIs (szR zs) w) := by
  obtain ⟨w1, hw1⟩ : ∃ w1, w1 = w.alloc (.cells #[.slice none 0 0] 23) := ⟨_, rfl⟩
  have hb1 : Below w.heap.size w w1 := by rw [hw1]; exact (Below.refl _ _).alloc (Nat.le_refl _) _
  have hl : w1.heap[w.heap.size]? = some (.cells #[.slice none 0 0] 23 (0, 0)) := by rw [hw1]; exact heap_alloc_new _ _
  have HV := hide (visit_ok (hr.stays hb1) hcap hbig hsm (fun a e h0 => by obtain ⟨cur, hc⟩ := hblk a e h0; exact ⟨cur, by rw [hb1.block _ (heap_lt hc)]; exact hc⟩) hl)
  obtain ⟨R, hR⟩ : ∃ R, R = vF zs (zs.length + 1) 0 true false [] := ⟨_, rfl⟩
  have hz : szR zs = if R.1 ≠ 0 then (R.1, []) else if R.2.1 < zs.length then (15, []) else (0, R.2.2) := by rw [hR]; rfl
  rw [← hR] at HV
  have HG : ∀ x (er : Nat), szR zs = (er, []) → But [w.heap.size] w1 x → SzIs (szR zs) w (.returned (.tuple #[.slice none 0 0, .int .i64 (er : Int)])) x := fun x er he hx => by
    rw [he]
    exact ⟨⟨_, x.heap.size, rfl, by have := hx.size; have := hb1.size; omega, World.ownsRow_nil _ _ _ _, Nat.le_refl _⟩, ⟨hx.os.trans hb1.os, hx.tape.trans hb1.tape, hx.output.trans hb1.output, Nat.le_trans hb1.size hx.size, fun z hz => by rw [hx.keep z (by have := hb1.size; omega) (by simp; omega), hb1.block z hz]⟩⟩
  have HF0 : Hid (∀ x, R.1 ≠ 0 → But [w.heap.size] w1 x → SzIs (szR zs) w (.returned (.tuple #[.slice none 0 0, .int .i64 (R.1 : Int)])) x) := hide fun x h0 hx => HG x R.1 (by rw [hz, if_pos h0]) hx
  have HF5 : Hid (∀ x, R.1 = 0 → R.2.1 < zs.length → But [w.heap.size] w1 x → SzIs (szR zs) w (.returned (.tuple #[.slice none 0 0, .int .i64 15])) x) := hide fun x h0 h1 hx => HG x 15 (by rw [hz, if_neg (by omega), if_pos h1]) hx
  have HF1 : Hid (∀ x lv B, R.1 = 0 → ¬ R.2.1 < zs.length → But [w.heap.size] w1 x → w1.heap.size ≤ B → RI B x lv (R.2.2.map fun n : Nat => iv (n : Int)) → SzIs (szR zs) w (.returned (.tuple #[lv, .int .i64 0])) x) := hide fun x lv B h0 h1 hx hB hri => by
    rw [hz, if_neg (by omega), if_neg h1]
    exact ⟨⟨_, B, rfl, by have := hb1.size; omega, hri⟩, ⟨hx.os.trans hb1.os, hx.tape.trans hb1.tape, hx.output.trans hb1.output, Nat.le_trans hb1.size hx.size, fun z hz => by rw [hx.keep z (by have := hb1.size; omega) (by simp; omega), hb1.block z hz]⟩⟩
  generalize SzIs (szR zs) w = POST at HG HF0 HF1 HF5 ⊢
  clear HG hz
  obtain ⟨lb, hlb⟩ : ∃ lb, lb = w.heap.size := ⟨_, rfl⟩
  rw [← hlb] at HV HF0 HF1 HF5
  clear hR hr hcap hblk hl hb1
  go_enter Try.func4, Try.ntmps4
  go_upto_region 3 with fail
  rw [← hw1, ← hlb]
  clear hw1 hlb
  go_wp2_with fail
  refine (unhide HV).mono ?_
  rintro e x (⟨h0, rfl, hx⟩ | ⟨h0, rfl, ⟨lv, B, hB, hl, hri⟩, hx⟩)
  · have t0 : ¬ (R.1 : Int) = 0 := by omega
    have HFF := hide (unhide HF0 x h0 hx)
    clear hx h0 HF0 HF1 HF5 HV
    dsimp only
    go_wp2_with fail
    first
    | exact unhide HFF
    | (go_returns; exact unhide HFF)
  · by_cases hu : R.2.1 < zs.length
    · skip
      have t1 : (R.2.1 : Int) < (zs.length : Int) := by omega
      have HFF := hide (unhide HF5 x h0 hu hx)
      clear hx h0 HF0 HF1 HF5 HV hl hri hu hB
      dsimp only
      go_wp2_with fail
      first
      | exact unhide HFF
      | (go_returns; exact unhide HFF)
    · skip
      have t1 : ¬ (R.2.1 : Int) < (zs.length : Int) := by omega
      have c0 : x.cell? ⟨lb, 0, none⟩ = some lv := by simp [World.cell?, hl]
      have HFF := hide (unhide HF1 x lv B h0 hu hx hB hri)
      clear hx h0 HF0 HF1 HF5 HV hl hri hu hB
      dsimp only
      go_wp2_with fail
      first
      | exact unhide HFF
      | (go_returns; exact unhide HFF)
end
end Go.Proofs.Ythafoojlkaifkaa.K
