/- The document's Sizes. -/
import Derived.Test.YthafoojlkaifkaaKr
import Derived.Test.YthafoojlkaifkaaKs
namespace Go.Proofs.Ythafoojlkaifkaa.K
open Go.RowKit H
set_option maxRecDepth 100000
set_option linter.unusedVariables false
attribute [local go_sem ↓] Go.wp_at_zero Go.wp_at_succ

theorem RI.below {B : Nat} {w w' : World} {v : Value} {xs : List Value} (h : RI B w v xs) (hb : Below w.heap.size w w') : RI B w' v xs := ⟨own_keep h.own fun g e => hb.block g (h.own.lt g e).2, by have := h.le; have := hb.size; omega⟩

section
variable {w : World} {va : Option Addr} {vc : Nat} {zs : List Nat}

/-- where the document's loop stands -/
structure RAt (ws : World) (lv : Value) (p : Nat) (acc : List Nat) (w : World) : Prop where
  ri : RI w.heap.size ws lv (acc.map fun n : Nat => iv (n : Int))
  bl : Below w.heap.size w ws
  len : acc.length * 4 ≤ p

set_option maxHeartbeats 4000000 in
theorem rsizes_ok (h : BK w va vc zs) : Calls Try.prog 5 #[.slice va zs.length vc] w (SzIs (szR zs) w) := by
  obtain ⟨R, hR⟩ : ∃ R, R = vF zs (zs.length + 1) 0 true false [] := ⟨_, rfl⟩
  have hz : szR zs = if R.1 ≠ 0 then (R.1, []) else if R.2.1 < zs.length then (15, []) else (0, R.2.2) := by rw [hR]; rfl
  have HG : ∀ x (er : Nat), szR zs = (er, []) → Below w.heap.size w x → SzIs (szR zs) w (.returned (.tuple #[.slice none 0 0, .int .i64 (er : Int)])) x := fun x er he hx => by
    rw [he]
    exact ⟨⟨_, x.heap.size, rfl, hx.size, World.ownsRow_nil _ _ _ _, Nat.le_refl _⟩, hx⟩
  have HE : Hid (∀ x er, er ≠ 0 → R = (er, 0, []) → Below w.heap.size w x → SzIs (szR zs) w (.returned (.tuple #[.slice none 0 0, .int .i64 (er : Int)])) x) := hide fun x er h0 h1 hx => HG x er (by rw [hz, h1]; simp [h0]) hx
  have HT : Hid (∀ x p acc, R = (0, p, acc) → p < zs.length → Below w.heap.size w x → SzIs (szR zs) w (.returned (.tuple #[.slice none 0 0, .int .i64 15])) x) := hide fun x p acc h1 h2 hx => HG x 15 (by rw [hz, h1]; simp [h2]) hx
  have HO : Hid (∀ x p acc lv, R = (0, p, acc) → ¬ p < zs.length → RAt x lv p acc w → SzIs (szR zs) w (.returned (.tuple #[lv, .int .i64 0])) x) := hide fun x p acc lv h1 h2 hx => by
    rw [hz, h1]
    simp only [ne_eq, not_true_eq_false, if_false, if_neg h2]
    exact ⟨⟨_, _, rfl, Nat.le_refl _, hx.ri⟩, hx.bl⟩
  generalize SzIs (szR zs) w = POST at HG HE HT HO ⊢
  have HR : Hid (vF zs (zs.length + 1) 0 true false [] = R) := hide hR.symm
  have HB := hide h
  have HA0 : Hid (RAt w (.slice none 0 0) 0 [] w) := hide ⟨⟨World.ownsRow_nil _ _ _ _, Nat.le_refl _⟩, Below.refl _ _, by simp⟩
  have hbig := h.big
  clear HG hz hR h
  go_enter Try.func5, Try.ntmps5
  go_wp2_with fail
  go_loopg [4, 5, 6, 7] (zs.length + 1) (fun gk lv av pv fv ws => ∃ (p : Nat) (fst pr : Bool) (acc : List Nat), av = .int .i64 (p : Int) ∧ pv = .bool pr ∧ fv = .bool fst ∧ zs.length + 1 - p ≤ gk ∧ p ≤ zs.length ∧ Hid (vF zs gk p fst pr acc = R) ∧ Hid (RAt ws lv p acc w))
  case atStart => exact ⟨0, true, false, [], rfl, rfl, rfl, by omega, by omega, HR, HA0⟩
  case round =>
    clear HR HA0
    obtain ⟨p, fst, pr, acc, rfl, rfl, rfl, hgk, hpl, HR, HA⟩ := hrel
    rename World => ws
    have HC := hide (ch_ok ((unhide HB).below (unhide HA).bl) fst pr hpl)
    obtain ⟨f', rfl⟩ : ∃ f', gk = f' + 1 := ⟨gk - 1, by omega⟩
    have HGK : Hid (zs.length + 1 - p ≤ f' + 1 ∧ p ≤ zs.length) := hide ⟨hgk, hpl⟩
    clear hgk hpl
    go_wp2_with fail
    refine (unhide HC).mono ?_
    rintro e w1 ⟨⟨er, hck, he, rfl⟩ | ⟨k, n, s, m, hck, l1, l2, l3, a, x, y, rfl⟩, hb⟩
    · have te : ¬ (er : Int) = 0 := by omega
      have HFF : Hid (∀ z, Below w1.heap.size w1 z → POST (.returned (.tuple #[.slice none 0 0, .int .i64 (er : Int)])) z) := hide fun z hz => unhide HE z er he (by rw [← unhide HR, vF_err hck]) (((unhide HA).bl.trans (hb.mono (unhide HA).bl.size)).trans (hz.mono (by have := (unhide HA).bl.size; have := hb.size; omega)))
      clear hck he hb HC HE HT HO
      dsimp only
      go_wp2_with fail
      first
      | exact unhide HFF _ (by go_grown)
      | (go_returns; exact unhide HFF _ (by go_grown))
    · have hb2 : Below w1.heap.size w1 (w1.alloc (.cells #[.int .i64 (k : Int), .int .i64 (n : Int), .int .i64 l1, .int .i64 l2, .int .i64 l3, .slice a x y] 40)) := (Below.refl _ _).alloc (Nat.le_refl _) _
      obtain ⟨w2, hw2⟩ : ∃ w2, w2 = w1.alloc (.cells #[.int .i64 (k : Int), .int .i64 (n : Int), .int .i64 l1, .int .i64 l2, .int .i64 l3, .slice a x y] 40) := ⟨_, rfl⟩
      obtain ⟨C, hC⟩ : ∃ C, C = w1.heap.size := ⟨_, rfl⟩
      have hcc : w2.heap[C]? = some (.cells #[.int .i64 (k : Int), .int .i64 (n : Int), .int .i64 l1, .int .i64 l2, .int .i64 l3, .slice a x y] 40 (0, 0)) := by rw [hw2, hC]; exact heap_alloc_new _ _
      have e0 : w2.cell? ⟨C, 0, none⟩ = some (.int .i64 (k : Int)) := by simp [World.cell?, hcc]
      have e1 : w2.cell? ⟨C, 1, none⟩ = some (.int .i64 (n : Int)) := by simp [World.cell?, hcc]
      have hA := unhide HA
      have hA2 : RAt w2 u4 p acc w := by
        rw [← hw2] at hb2
        exact ⟨(hA.ri.below hb).below hb2, (hA.bl.trans (hb.mono hA.bl.size)).trans (hb2.mono (by have := hA.bl.size; have := hb.size; omega)), hA.len⟩
      have hsm := (unhide HB).sm
      have hct := ck_told hsm hck
      have HA2 := hide hA2
      have HCT := hide hct
      by_cases k0 : k = 0
      · subst k0
        have hs := hct.2.2.2.2.2.2 rfl
        have hRR : R = (0, s, acc) := by rw [← unhide HR, vF_end hck]
        obtain ⟨hs1, rfl⟩ := hs
        have HT2 := hide fun x => unhide HT x s acc hRR
        have HO2 := hide fun x => unhide HO x s acc u4 hRR
        have hA3 : RAt w2 u4 s acc w := ⟨hA2.ri, hA2.bl, by have := hA2.len; omega⟩
        have HA3 := hide hA3
        clear hcc hb2 hA hA2 hA3 hct hck hRR HC HE HT HO hb hsm HCT HA HR hs1
        rw [Nat.add_zero]
        by_cases hlt : s < zs.length
        · have t1 : (s : Int) < (zs.length : Int) := by omega
          have HFF := hide (unhide HT2 w2 hlt (unhide HA3).bl)
          clear HT2 HO2 hlt
          have hw3 : w2 = w1.alloc (.cells #[.int .i64 0, .int .i64 (n : Int), .int .i64 l1, .int .i64 l2, .int .i64 l3, .slice a x y] 40) := hw2
          have e0' : w2.cell? ⟨C, 0, none⟩ = some (.int .i64 0) := e0
          clear hw2 e0
          have h00 : ((0 : Nat) : Int) = 0 := rfl
          rw [h00]
          dsimp only
          go_upto_region 7 with fail
          rw [← hw3, ← hC]
          clear hw3 hC
          go_wp2_with fail
          first
          | exact unhide HFF
          | (go_returns; exact unhide HFF)
        · have t1 : ¬ (s : Int) < (zs.length : Int) := by omega
          have HFF := hide (unhide HO2 w2 hlt (unhide HA3))
          clear HT2 HO2 hlt
          have hw3 : w2 = w1.alloc (.cells #[.int .i64 0, .int .i64 (n : Int), .int .i64 l1, .int .i64 l2, .int .i64 l3, .slice a x y] 40) := hw2
          have e0' : w2.cell? ⟨C, 0, none⟩ = some (.int .i64 0) := e0
          clear hw2 e0
          have h00 : ((0 : Nat) : Int) = 0 := rfl
          rw [h00]
          dsimp only
          go_upto_region 7 with fail
          rw [← hw3, ← hC]
          clear hw3 hC
          go_wp2_with fail
          first
          | exact unhide HFF
          | (go_returns; exact unhide HFF)
      · have hRR : vF zs f' (s + m) false (nextP k pr) (acc ++ [n]) = R := by rw [← unhide HR, vF_more hck k0]
        have h4 := hct.2.2.2.2.2.1 k0
        have h5 := hct.2.2.2.1
        have HRR := hide hRR
        have HLE : Hid (zs.length + 1 - (s + m) ≤ f' ∧ (acc.length + 1) * 4 ≤ s + m ∧ s + m ≤ zs.length) := hide (by have := (unhide HGK).1; have := (unhide HGK).2; have := hA2.len; omega)
        have HAP : Hid (∀ v' w', RI w.heap.size w' v' ((acc.map fun n : Nat => iv (n : Int)) ++ [iv (n : Int)]) → RT w2 w' u4 v' → RAt w' v' (s + m) (acc ++ [n]) w) := hide fun v' w' h1 h2 => by
          refine ⟨by rw [List.map_append]; exact h1, ⟨h2.os.trans hA2.bl.os, h2.tape.trans hA2.bl.tape, h2.output.trans hA2.bl.output, Nat.le_trans hA2.bl.size h2.size, fun z hz => ?_⟩, by rw [List.length_append]; exact (unhide HLE).2.1⟩
          rw [h2.keep z (by have := hA2.bl.size; omega) (fun e => by have := (hA2.ri.own.lt z e).1; omega), hA2.bl.block z hz]
        have HLN : Hid (((acc.map fun n : Nat => iv (n : Int)).length + 1) * 8 ≤ 140737488355328) := hide (by have := hA2.len; have := (unhide HGK).2; simp; omega)
        have t0 : ¬ (k : Int) = 0 := by omega
        clear hcc hb2 hA hA2 hct hck hRR HC HE HT HO hb hsm HCT HA HR h4 h5
        generalize s + m = q at *
        rcases (show k = 1 ∨ (k ≠ 1 ∧ ¬ 192 ≤ k) ∨ 192 ≤ k by omega) with k1 | ⟨k1, k2⟩ | k2
        · subst k1
          have HRS : Hid (vF zs f' q false false (acc ++ [n]) = R) := hide (by have := unhide HRR; simpa [nextP] using this)
          have t1 : ¬ (192 : Int) ≤ 1 := by omega
          have hw3 : w2 = w1.alloc (.cells #[.int .i64 1, .int .i64 (n : Int), .int .i64 l1, .int .i64 l2, .int .i64 l3, .slice a x y] 40) := hw2
          have e0' : w2.cell? ⟨C, 0, none⟩ = some (.int .i64 1) := e0
          clear hw2 e0 t0
          have h00 : ((1 : Nat) : Int) = 1 := rfl
          rw [h00]
          dsimp only
          go_upto_region 7 with fail
          rw [← hw3, ← hC]
          clear hw3 hC k0 HRR
          go_wp2_with (at_builtin; refine wp_oneI rfl (.tmp 33) (.tmp 36) rfl u4 _ (n : Int) (by simp [go_sem]) (by simp [go_sem]) (unhide HA2).ri (unhide HLN) ?_; intro v2 w3 h2 h3; have HA4 := hide (unhide HAP v2 w3 h2 h3); clear h2 h3)
          go_roundg f'
          case measure => omega
          case rel => exact ⟨q, false, false, acc ++ [n], rfl, rfl, rfl, (unhide HLE).1, (unhide HLE).2.2, HRS, HA4⟩
        · have HRS : Hid (vF zs f' q false pr (acc ++ [n]) = R) := hide (by have := unhide HRR; unfold nextP at this; rw [decide_eq_false k2, decide_eq_false k1] at this; simpa using this)
          have t1 : ¬ (192 : Int) ≤ (k : Int) := by omega
          have t2 : ¬ (k : Int) = 1 := by omega
          dsimp only
          go_upto_region 7 with fail
          rw [← hw2, ← hC]
          clear hw2 hC k0 k1 k2 HRR
          go_wp2_with (at_builtin; refine wp_oneI rfl (.tmp 33) (.tmp 36) rfl u4 _ (n : Int) (by simp [go_sem]) (by simp [go_sem]) (unhide HA2).ri (unhide HLN) ?_; intro v2 w3 h2 h3; have HA4 := hide (unhide HAP v2 w3 h2 h3); clear h2 h3)
          go_roundg f'
          case measure => omega
          case rel => exact ⟨q, false, pr, acc ++ [n], rfl, rfl, rfl, (unhide HLE).1, (unhide HLE).2.2, HRS, HA4⟩
        · have HRS : Hid (vF zs f' q false true (acc ++ [n]) = R) := hide (by have := unhide HRR; unfold nextP at this; rw [decide_eq_true k2] at this; simpa using this)
          have t1 : (192 : Int) ≤ (k : Int) := by omega
          have t2 : ¬ (k : Int) = 1 := by omega
          dsimp only
          go_upto_region 7 with fail
          rw [← hw2, ← hC]
          clear hw2 hC k0 k2 HRR
          go_wp2_with (at_builtin; refine wp_oneI rfl (.tmp 33) (.tmp 36) rfl u4 _ (n : Int) (by simp [go_sem]) (by simp [go_sem]) (unhide HA2).ri (unhide HLN) ?_; intro v2 w3 h2 h3; have HA4 := hide (unhide HAP v2 w3 h2 h3); clear h2 h3)
          go_roundg f'
          case measure => omega
          case rel => exact ⟨q, false, true, acc ++ [n], rfl, rfl, rfl, (unhide HLE).1, (unhide HLE).2.2, HRS, HA4⟩
end
end Go.Proofs.Ythafoojlkaifkaa.K
