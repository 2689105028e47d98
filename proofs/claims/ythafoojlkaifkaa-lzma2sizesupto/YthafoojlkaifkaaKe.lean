/- Sizes of a packed chunk, its props, and how it follows the ones ahead. -/
import Derived.Test.YthafoojlkaifkaaKd
namespace Go.Proofs.Ythafoojlkaifkaa.K
open Go.RowKit
set_option maxRecDepth 100000
set_option linter.unusedVariables false
attribute [local go_sem ↓] Go.wp_at_zero Go.wp_at_succ

section
variable {w : World} {bb ub : Nat} {va : Option Addr} {vc : Nat} {zs : List Nat} {p : Nat} {cb k n : Nat} {lc lp pb : Int} {body : Value}

/-- the sizes of a packed chunk, up to their last read -/
theorem sizes_two (h : NK w bb ub va vc zs p) (hc : CAt w cb k n lc lp pb body) (hn : p + 2 ≤ zs.length) (hk : 128 ≤ k) (hk2 : k < 256) (POST : Ending → World → Prop)
    (hl : ∀ w1, NK w1 bb ub va vc zs (p + 2) → CAt w1 cb k (two zs p + k % 32 * 65536) lc lp pb body → But [ub, cb] w w1 → Calls Try.prog 23 #[nextV bb ub] w1 fun e w' => ∃ x y : Int, e = .returned (.tuple #[.int .i64 x, .int .i64 y]) ∧ POST (.returned (.tuple #[.int .i64 x, .int .i64 y])) w') :
    Calls Try.prog 17 #[.pointer (some ⟨cb, 0, none⟩), nextV bb ub] w POST := by
  have HC := hide (num_ok h hn)
  have ht := two_le h.sm p
  have HH := hide h
  have HCC := hide hc
  have HL := hide hl
  have HK : Hid (128 ≤ k) := hide hk
  have a1 := kand k hk2
  have a2 : wrap64 (((k % 32 : Nat) : Int) * 65536) = ((k % 32 * 65536 : Nat) : Int) := by unfold wrap64; omega
  have a3 : wrap64 ((two zs p : Int) + ((k % 32 * 65536 : Nat) : Int)) = ((two zs p + k % 32 * 65536 : Nat) : Int) := by unfold wrap64; omega
  have a0 : wrap64 ((k % 32 : Nat) : Int) = ((k % 32 : Nat) : Int) := by unfold wrap64; omega
  obtain ⟨T, hT⟩ : ∃ T, T = two zs p := ⟨_, rfl⟩
  rw [← hT] at HC ht HL a3
  clear h hn hc hT hl hk hk2 ht
  generalize k % 32 = km at *
  generalize km * 65536 = km2 at *
  generalize T + km2 = NN at *
  go_enter Try.func17, Try.ntmps17
  go_wp2_with fail
  refine (unhide HC).mono ?_
  rintro e w1 ⟨rfl, h1, h2⟩
  have hc1 := (unhide HCC).keep h2 (by simpa using (unhide HH).ne_c (unhide HCC))
  have HP := hide (packed_ok hc1 true (by simp; exact unhide HK))
  have fr := hc1.fr 1
  have c0 := hc1.c0
  have c1 := hc1.c1
  have HD := hide (unhide HL _ (h1.setC hc1 (i := 1) (v := .int .i64 (NN : Int))) (hc1.setN NN) ((h2.more (hs := [ub, cb]) (by simp)).set (g := cb) (by simp) 1 (.int .i64 (NN : Int))))
  clear h1 h2 hc1 HC HL
  go_wp2_with fail
  refine (unhide HP).mono ?_
  rintro e w' ⟨rfl, rfl⟩
  go_wp2_with fail
  refine (unhide HD).mono ?_
  rintro e w' ⟨x, y, rfl, hp⟩
  have HPP := hide hp
  clear hp
  go_wp2_with fail
  first
  | exact unhide HPP
  | (go_returns; exact unhide HPP)

theorem sizes_end2 (h : NK w bb ub va vc zs p) (hc : CAt w cb k n lc lp pb body) (hn : p + 2 ≤ zs.length) (hk : 128 ≤ k) (hk2 : k < 256) (hn2 : zs.length < p + 4) : Calls Try.prog 17 #[.pointer (some ⟨cb, 0, none⟩), nextV bb ub] w (EndIs ub [ub, cb] w) :=
  sizes_two h hc hn hk hk2 _ fun w1 h1 h2 h3 => (num_end h1 (by omega)).mono (by rintro e w' ⟨rfl, rfl⟩; exact ⟨0, 10, rfl, ⟨_, rfl⟩, h3, h1.ub⟩)

theorem sizes_packed (h : NK w bb ub va vc zs p) (hc : CAt w cb k n lc lp pb body) (hn : p + 4 ≤ zs.length) (hk : 128 ≤ k) (hk2 : k < 256) : Calls Try.prog 17 #[.pointer (some ⟨cb, 0, none⟩), nextV bb ub] w fun e w' => e = .returned (.tuple #[.int .i64 ((two zs (p + 2) : Nat) : Int), .int .i64 0]) ∧ NK w' bb ub va vc zs (p + 4) ∧ CAt w' cb k (two zs p + k % 32 * 65536) lc lp pb body ∧ But [ub, cb] w w' :=
  sizes_two h hc (by omega) hk hk2 _ fun w1 h1 h2 h3 => (num_ok h1 (by omega)).mono (by
    rintro e w' ⟨rfl, h4, h5⟩
    exact ⟨_, _, rfl, rfl, h4, h2.keep h5 (by simpa using h1.ne_c h2), h3.trans (h5.more (by simp))⟩)

theorem props_cases (x : Nat) (hx : x < 256) : propsB x = true ↔ VOk ((x : Int) % 9) ((x : Int) / 9 % 5) ((x : Int) / 45) := by
  unfold propsB VOk
  simp
  omega

/-- the byte of props -/
theorem props_end (h : NK w bb ub va vc zs p) (hn : zs.length < p + 1) : Calls Try.prog 19 #[.pointer (some ⟨cb, 0, none⟩), nextV bb ub] w fun e w' => e = .returned (.int .i64 10) ∧ w' = w := by
  have HC := hide (next_end h 1 hn (by omega))
  clear h hn
  unfold nextV
  go_enter Try.func19, Try.ntmps19
  go_wp2_with fail
  refine (unhide HC).mono ?_
  rintro e w' ⟨rfl, rfl⟩
  go_wp2_with fail
  go_ret
  exact ⟨rfl, rfl⟩

/-- what a byte of props leaves in a chunk -/
theorem props_any (h : NK w bb ub va vc zs p) (hc : CAt w cb k n lc lp pb body) (hn : p + 1 ≤ zs.length) : Calls Try.prog 19 #[.pointer (some ⟨cb, 0, none⟩), nextV bb ub] w fun e w' => e = .returned (.int .i64 (if propsB (zs.getD p 0) then 0 else 11)) ∧ NK w' bb ub va vc zs (p + 1) ∧ (∃ l1 l2 l3, CAt w' cb k n l1 l2 l3 body) ∧ But [ub, cb] w w' := by
  have HC := hide (next_ok h 1 hn (by omega))
  have HH := hide h
  have HCC := hide hc
  have hx := getD_small h.sm p
  have HX : Hid (∀ x, ∃ l1 l2 l3, Calls Try.prog 25 #[.int .u8 ((zs.getD p 0 : Nat) : Int)] x fun e w' => e = .returned (.tuple #[.agg (pcells l1 l2 l3), .int .i64 (if propsB (zs.getD p 0) then 0 else 11)]) ∧ Below x.heap.size x w') := by
    by_cases hp : propsB (zs.getD p 0) = true
    · rw [if_pos hp]
      exact hide fun x => ⟨_, _, _, of_yes _ hx x ((props_cases _ hx).1 hp)⟩
    · rw [if_neg hp]
      exact hide fun x => ⟨_, _, _, of_no _ hx x (fun e => hp ((props_cases _ hx).2 e))⟩
  generalize (if propsB (zs.getD p 0) = true then (0 : Int) else 11) = ER at *
  have HW : Hid (∀ (x : World) (g o : Nat), NK x bb ub (some ⟨g, o, none⟩) vc zs (p + 1) → x.cell? ⟨g, o + p, none⟩ = some (.int .u8 ((zs.getD p 0 : Nat) : Int))) := hide fun x g o hx => by
    obtain ⟨g', o', e, hcell⟩ := hx.own (by omega)
    injection e with e
    injection e with e1 e2
    subst e1 e2
    exact hcell p (by omega)
  generalize zs.getD p 0 = b at *
  clear h hc hn hx
  unfold nextV
  go_enter Try.func19, Try.ntmps19
  go_wp2_with fail
  refine (unhide HC).mono ?_
  rintro e w1 ⟨g, o, rfl, rfl, h1, h2⟩
  have hc1 := (unhide HCC).keep h2 (by simpa using (unhide HH).ne_c (unhide HCC))
  have hcell := unhide HW _ _ _ h1
  obtain ⟨l1, l2, l3, hof⟩ := unhide HX w1
  have HO := hide hof
  have H12 := hide (And.intro h1 (And.intro h2 hc1))
  clear h1 h2 hc1 HC HX HW hof
  unfold pcells at HO
  go_wp2_with fail
  refine (unhide HO).mono ?_
  rintro e w2 ⟨rfl, hb⟩
  obtain ⟨h1, h2, hc1⟩ := unhide H12
  have hc2 := hc1.keep (But.of_below (gs := []) hb) (by simp)
  have h1' := h1.move (But.of_below (gs := []) hb) (fun g hg => by simp at hg) (by rw [hb.block ub (heap_lt h1.u)]; exact h1.u) h1.le
  have hset : w2.heap[cb]? = some (.cells (ccells k n lc lp pb body) 37 (0, 0)) := hc2
  have HS : Hid (CAt (((w2.setCell ⟨cb, 2, none⟩ (.int .i64 l1)).setCell ⟨cb, 3, none⟩ (.int .i64 l2)).setCell ⟨cb, 4, none⟩ (.int .i64 l3)) cb k n l1 l2 l3 body) := hide (by
    unfold CAt
    rw [heap_setCell_same _ cb 4 _ 37 _ (heap_setCell_same _ cb 3 _ 37 _ (heap_setCell_same _ cb 2 _ 37 _ hset))]
    rfl)
  have hcells : ∀ i, w2.frozen? ⟨cb, i, none⟩ = false := hc2.fr
  have q2 : w2.cell? ⟨cb, 2, none⟩ = some (.int .i64 lc) := by simp [World.cell?, hset, ccells]
  have q3 : w2.cell? ⟨cb, 3, none⟩ = some (.int .i64 lp) := by simp [World.cell?, hset, ccells]
  have q4 : w2.cell? ⟨cb, 4, none⟩ = some (.int .i64 pb) := by simp [World.cell?, hset, ccells]
  have HB2 := hide ((((h2.more (hs := [ub, cb]) (by simp)).trans (But.of_below hb)).set (g := cb) (by simp) 2 (.int .i64 l1)).set (g := cb) (by simp) 3 (.int .i64 l2) |>.set (g := cb) (by simp) 4 (.int .i64 l3))
  have HN2 : Hid (NK (((w2.setCell ⟨cb, 2, none⟩ (.int .i64 l1)).setCell ⟨cb, 3, none⟩ (.int .i64 l2)).setCell ⟨cb, 4, none⟩ (.int .i64 l3)) bb ub (some ⟨g, o, none⟩) vc zs (p + 1)) := hide (by
    refine h1'.move (gs := [cb]) ((((But.refl _ _).set (g := cb) (by simp) 2 (.int .i64 l1)).set (g := cb) (by simp) 3 (.int .i64 l2)).set (g := cb) (by simp) 4 (.int .i64 l3)) hc2.far ?_ h1'.le
    have hne := h1'.ne_c hc2
    rw [heap_setCell_other _ _ _ _ hne.symm, heap_setCell_other _ _ _ _ hne.symm, heap_setCell_other _ _ _ _ hne.symm]
    exact h1'.u)
  clear h1 h2 hc1 hc2 h1' hset hb HO H12
  go_wp2_with fail
  go_ret
  exact ⟨rfl, unhide HN2, ⟨l1, l2, l3, unhide HS⟩, unhide HB2⟩
end
end Go.Proofs.Ythafoojlkaifkaa.K
