/- slices.SortFunc and slices.Sort on a segment of the places. -/
import Derived.Test.YtpemgjcgcmleiaaCl
namespace Go.Proofs.Ytpemgjcgcmleiaa
open Go.RowKit Suf Go.Sort
set_option maxRecDepth 100000
set_option linter.unusedVariables false

theorem cmp_lt (a b : Nat) : decide (Lib.compareInt (a : Int) (b : Int) < 0) = decide (a < b) := by
  unfold Lib.compareInt
  by_cases h : a < b
  · have h' : (a : Int) < (b : Int) := by omega
    simp [h, h']
  · have h' : ¬ (a : Int) < (b : Int) := by omega
    by_cases h2 : (b : Int) < (a : Int)
    · simp [h, h', h2]
    · simp [h, h', h2]

theorem key_swo {α : Type} (k : α → Nat) : SWO (ltOf fun x y : α => Lib.compareInt (k x : Int) (k y : Int)) := by
  have e : ∀ x y, ltOf (fun x y : α => Lib.compareInt (k x : Int) (k y : Int)) x y = decide (k x < k y) := fun x y => cmp_lt _ _
  refine ⟨fun x => ?_, fun x y z => ?_, fun x y z => ?_⟩
  · rw [e]; simp
  · rw [e, e, e]; simp; omega
  · rw [e, e, e]; simp; omega

theorem seg_len (p : Nat → Nat) (a c : Nat) : (seg p a c).length = c - a := by simp [seg]

theorem seg_get (p : Nat → Nat) (a c j : Nat) (hj : j < c - a) : (seg p a c).getD j 0 = p (a + j) := by
  unfold seg
  rw [List.getD_eq_getElem?_getD, List.getElem?_map, List.getElem?_range hj]
  rfl

/-- what a sort leaves -/
def SortIs (w : World) (pg n : Nat) (p : Nat → Nat) (a c : Nat) (le : Nat → Nat → Prop) (e : Ending) (w' : World) : Prop :=
  e = .returned (.tuple #[]) ∧ ∃ p', Perm n p p' a c ∧ (∀ r s, a ≤ r → r < s → s < c → le (p' r) (p' s)) ∧ IntsAt w' .i64 3 pg n p' ∧ Kp (fun k => k = pg) w w'

def fin (n : Nat) (hn : 0 < n) (x : Nat) : Fin n := ⟨x % n, Nat.mod_lt _ hn⟩

theorem sortf_ok (w : World) (tb pg rg n : Nat) (p R : Nat → Nat) (a c h cap rx ax tx : Nat) (hpl : IntsAt w .i64 3 pg n p) (hT : TbAt w tb rg n R) (hrx : w.cell? ⟨rx, 0, none⟩ = some (.func (.func 29) #[] #[.pointer (some ⟨ax, 0, none⟩), .pointer (some ⟨tx, 0, none⟩)])) (hax : w.cell? ⟨ax, 0, none⟩ = some (.int .i64 (h : Int))) (htx : w.cell? ⟨tx, 0, none⟩ = some (.pointer (some ⟨tb, 0, none⟩)))
    (hd : tb ≠ pg ∧ rg ≠ pg ∧ rx ≠ pg ∧ ax ≠ pg ∧ tx ≠ pg) (hac : a < c) (hc : c ≤ n) (hh : h < n) (hn : n ≤ 1048576) (hmem : ∀ r, r < n → p r < n) (hinj : ∀ r s, r < n → s < n → p r = p s → r = s) :
    Calls Try.prog 30 #[.slice (some ⟨pg, a, none⟩) (c - a) cap, .func (.func 31) #[] #[.pointer (some ⟨rx, 0, none⟩)]] w fun e w' => SortIs w pg n p a c (fun x y => R ((x + h) % n) ≤ R ((y + h) % n)) e w' := by
  have hn0 : 0 < n := by omega
  letI : Inhabited (Fin n) := ⟨⟨0, hn0⟩⟩
  have hd1 : (((seg p a c).map (fin n hn0)).toArray).size = c - a := by simp [seg_len]
  have hfin : ∀ j, j < c - a → (((seg p a c).map (fin n hn0)).toArray)[j]! = fin n hn0 (p (a + j)) := fun j hj => by
    rw [getElem!_pos _ j (by rw [hd1]; exact hj)]
    have := seg_get p a c j hj
    rw [getD_get! (by rw [seg_len]; exact hj)] at this
    simp only [List.getElem_toArray, List.getElem_map, this]
  have key := Try.slices_SortFunc (α := Fin n) (fun x => Value.int .i64 ((x.val : Nat) : Int)) (fun _ => rfl) (fun x y => Lib.compareInt (R ((x.val + h) % n) : Int) (R ((y.val + h) % n) : Int)) (key_swo fun x : Fin n => R ((x.val + h) % n)) 31 #[.pointer (some ⟨rx, 0, none⟩)] pg a cap ((seg p a c).map (fin n hn0)).toArray w Try.call31 ?_ ?_ hpl.lt (by rw [hd1]; omega)
  · rw [hd1] at key
    refine key.mono ?_
    rintro e w' ⟨rfl, d', m, os, hp, hs, rfl⟩
    have hsz : d'.size = c - a := by rw [hp.1, hd1]
    have hg := grow_ints (fun x : Fin n => Value.int .i64 ((x.val : Nat) : Int)) (fun x => x.val) w pg n a c m p d' os hpl (fun _ _ => rfl) hsz (by omega) hc
    have hperm : (d'.toList.map fun x => x.val).Perm (seg p a c) := by
      have h1 := hp.2.2
      have e1 : d'.extract 0 (c - a) = d' := by rw [← hsz]; simp
      have e2 : (((seg p a c).map (fin n hn0)).toArray).extract 0 (c - a) = ((seg p a c).map (fin n hn0)).toArray := by
        apply Array.ext_getElem?
        intro i
        rw [Array.getElem?_extract]
        by_cases hi : i < c - a
        · rw [if_pos (by rw [hd1]; omega), Nat.zero_add]
        · rw [if_neg (by rw [hd1]; omega), Array.getElem?_eq_none (by rw [hd1]; omega)]
      rw [e1, e2] at h1
      have h2 := h1.map fun x : Fin n => x.val
      refine h2.trans ?_
      have e3 : (((seg p a c).map (fin n hn0)).toArray.toList.map fun x => x.val) = seg p a c := by
        rw [List.toList_toArray, List.map_map]
        refine (List.map_congr_left (g := id) fun x hx => ?_).trans (List.map_id _)
        obtain ⟨s, h3, h4, rfl⟩ := seg_mem.1 hx
        exact Nat.mod_eq_of_lt (hmem s (by omega))
      rw [e3]
    refine ⟨rfl, _, perm_seg (by omega) hc hinj hperm, fun r s h1 h2 h3 => ?_, hg.1, hg.2⟩
    have hv : ∀ r, a ≤ r → r < c → segP p a c (d'.toList.map fun x => x.val) r = (d'[r - a]!).val := fun r h1 h2 => by
      unfold segP
      rw [if_pos ⟨h1, h2⟩, List.getD_eq_getElem?_getD, List.getElem?_map, Array.getElem?_toList, Array.getElem?_eq_getElem (show r - a < d'.size by omega), getElem!_pos d' (r - a) (by omega)]
      rfl
    have h4 := hs (r - a) (s - a) (Nat.zero_le _) (by omega) (by omega)
    rw [hv r h1 (by omega), hv s (by omega) h3]
    unfold ltOf at h4
    rw [cmp_lt] at h4
    simpa using h4
  · intro m os dk hsz x y
    rw [hd1] at hsz
    have hg := grow_ints (fun x : Fin n => Value.int .i64 ((x.val : Nat) : Int)) (fun x => x.val) w pg n a c m p dk os hpl (fun _ _ => rfl) hsz (by omega) hc
    have hk : ∀ {ad : Addr} {v : Value}, w.cell? ad = some v → ad.block ≠ pg → (sortWorld (fun x : Fin n => Value.int .i64 ((x.val : Nat) : Int)) w pg a m dk os).cell? ad = some v := fun hcell hne => hg.2.cell hcell hne
    have h1 := refine2_ok x.val y.val h n R rx ax tx tb rg (sortWorld (fun x : Fin n => Value.int .i64 ((x.val : Nat) : Int)) w pg a m dk os) (hk hrx hd.2.2.1) (hk hax hd.2.2.2.1) (hk htx hd.2.2.2.2) ⟨hk hT.c1 hd.1, hT.rk.of (hg.2.keep rg hT.rk.lt hd.2.1)⟩ x.isLt y.isLt hh hn
    refine Calls.mono (by simpa using h1) ?_
    rintro e w' ⟨he, q, hq⟩
    exact ⟨he, q, #[], by rw [hq, grow_empty]⟩
  · intro j hj
    rw [hd1] at hj
    rw [hfin j hj]
    have h1 := hpl.cell (a + j) (by omega)
    refine ⟨?_, hpl.free _⟩
    rw [h1]
    show _ = some (Value.int .i64 ((p (a + j) % n : Nat) : Int))
    rw [Nat.mod_eq_of_lt (hmem (a + j) (by omega))]

theorem sorti_ok (w : World) (pg n : Nat) (p : Nat → Nat) (a c cap : Nat) (hpl : IntsAt w .i64 3 pg n p) (hac : a < c) (hc : c ≤ n) (hn : n ≤ 1048576) (hinj : ∀ r s, r < n → s < n → p r = p s → r = s) :
    Calls Try.prog 25 #[.slice (some ⟨pg, a, none⟩) (c - a) cap] w fun e w' => SortIs w pg n p a c (fun x y => x < y) e w' := by
  have hd1 : ((seg p a c).map fun x : Nat => (x : Int)).length = c - a := by simp [seg_len]
  have key := Try.slices_Sort_int pg a cap ((seg p a c).map fun x : Nat => (x : Int)) w ?_ hpl.lt (by rw [hd1]; omega)
  · rw [hd1] at key
    refine key.mono ?_
    rintro e w' ⟨rfl, m, os, rfl⟩
    obtain ⟨l, hl⟩ : ∃ l, l = ((seg p a c).map fun x : Nat => (x : Int)).mergeSort fun x y => decide (x ≤ y) := ⟨_, rfl⟩
    have hp : l.Perm ((seg p a c).map fun x : Nat => (x : Int)) := by rw [hl]; exact List.mergeSort_perm _ _
    have hso : l.Pairwise fun x y => decide (x ≤ y) = true := by
      rw [hl]
      exact List.pairwise_mergeSort (fun x y z h1 h2 => by simp at *; omega) (fun x y => by simp; omega) _
    rw [← hl]
    have hsz : l.toArray.size = c - a := by rw [List.size_toArray, hp.length_eq, hd1]
    have hpos : ∀ x ∈ l, 0 ≤ x := fun x hx => by
      obtain ⟨y, _, rfl⟩ := List.mem_map.1 (hp.mem_iff.1 hx)
      omega
    have hg := grow_ints (Value.int .i64) Int.toNat w pg n a c m p l.toArray os hpl (fun j hj => by
      rw [getElem!_pos _ j hj]
      have := hpos _ (List.getElem_mem (l := l) (by simpa using hj))
      simp only [List.getElem_toArray]
      congr 1
      omega) hsz (by omega) hc
    have hperm : (l.toArray.toList.map Int.toNat).Perm (seg p a c) := by
      rw [List.toList_toArray]
      have h2 := hp.map Int.toNat
      rw [List.map_map] at h2
      refine h2.trans ?_
      have : (Int.toNat ∘ fun x : Nat => (x : Int)) = id := by funext x; simp
      rw [this, List.map_id]
    have hnd := hperm.nodup_iff.2 (seg_nodup hc hinj)
    refine ⟨rfl, _, perm_seg (by omega) hc hinj hperm, fun r s h1 h2 h3 => ?_, hg.1, hg.2⟩
    have hll : (l.toArray.toList.map Int.toNat).length = c - a := by rw [hperm.length_eq, seg_len]
    unfold segP
    rw [if_pos ⟨h1, by omega⟩, if_pos ⟨by omega, h3⟩, getD_get! (by omega), getD_get! (by omega)]
    have h4 := List.pairwise_iff_getElem.1 hso (r - a) (s - a) (by have := hp.length_eq; rw [hd1] at this; omega) (by have := hp.length_eq; rw [hd1] at this; omega) (by omega)
    have h5 := List.pairwise_iff_getElem.1 (List.nodup_iff_pairwise_ne.1 hnd) (r - a) (s - a) (by omega) (by omega) (by omega)
    simp only [List.getElem_map] at h5 ⊢
    simp at h4
    omega
  · intro j hj
    rw [List.size_toArray, hd1] at hj
    have h1 := hpl.cell (a + j) (by omega)
    refine ⟨?_, hpl.free _⟩
    rw [h1, getElem!_pos _ j (by rw [List.size_toArray, hd1]; exact hj)]
    have := seg_get p a c j hj
    rw [getD_get! (by rw [seg_len]; exact hj)] at this
    simp only [List.getElem_toArray, List.getElem_map, this]

end Go.Proofs.Ytpemgjcgcmleiaa
