/-
  For every order of bits, number and cut, hamperlaw01.BitsParts returns true, and its arguments read behind the call as they read before; there are no conditions.
-/
import Derived.Test.YtcplockmnabccaaPut
import Derived.Laws.IdiomStrings
import Derived.ProofKit
import Derived.OpenShut
import Derived.ChangeOld
namespace Go.Proofs.Ytcplockmnabccaa.Parts
open Go.ChangeShapes Go.WideShapes Go.ChangeAt Go.RowKit Mth

theorem k_val (cut : Int) : ∃ K : Nat, (wrap64 (cut.tmod 65 + 65)).tmod 65 = (K : Int) ∧ K ≤ 64 := by
  have h1 := Int.tmod_lt_of_pos cut (show (0 : Int) < 65 by decide)
  have h2 : -65 < cut.tmod 65 := Int.lt_tmod_of_pos cut (show (0 : Int) < 65 by decide)
  rw [IntWalk.wrap64_in _ (by omega)]
  have h3 := Int.tmod_lt_of_pos (cut.tmod 65 + 65) (show (0 : Int) < 65 by decide)
  have h4 := Int.tmod_nonneg (a := cut.tmod 65 + 65) 65 (by omega)
  exact ⟨((cut.tmod 65 + 65).tmod 65).toNat, by omega, by omega⟩

theorem low_val (v K : Nat) (hv : v < 2 ^ 64) (hK : K < 64) : bits .and .u64 (v : Int) (IntKind.u64.wrap (IntKind.u64.wrap (2 ^ K) - 1)) = ((v % 2 ^ K : Nat) : Int) := by
  have h1 : 2 ^ K ≤ 2 ^ 63 := Nat.pow_le_pow_right (by decide) (by omega)
  have h2 : 0 < 2 ^ K := Nat.pow_pos (by decide)
  have h3 : IntKind.u64.wrap (2 ^ K) = ((2 ^ K : Nat) : Int) := by
    rw [IntWalk.u64_in _ (by have : ((2 ^ K : Nat) : Int) = 2 ^ K := by simp
                             omega)]; simp
  rw [h3, IntWalk.u64_in _ (by omega), show ((2 ^ K : Nat) : Int) - 1 = ((2 ^ K - 1 : Nat) : Int) by omega, u64_and_nat v _ (by omega) (by omega), Nat.and_two_pow_sub_one_eq_mod]

theorem top_nat (v K : Nat) : ((v : Int) / 2 ^ K).toNat = v / 2 ^ K := by
  rw [show ((v : Int) / 2 ^ K) = ((v / 2 ^ K : Nat) : Int) by simp]; rfl

theorem top_pos (v K : Nat) : 0 ≤ ((v : Int) / 2 ^ K) := by
  rw [show ((v : Int) / 2 ^ K) = ((v / 2 ^ K : Nat) : Int) by simp]; exact Int.natCast_nonneg _

theorem low_lt (v K : Nat) : (((v % 2 ^ K : Nat) : Int)).toNat < 2 ^ (K : Int).toNat := by
  rw [Int.toNat_natCast, Int.toNat_natCast]; exact Nat.mod_lt _ (Nat.pow_pos (by decide))

theorem low_nat (v K : Nat) : ((v : Int) % 2 ^ K).toNat = v % 2 ^ K := by
  rw [show ((v : Int) % 2 ^ K) = ((v % 2 ^ K : Nat) : Int) by simp]; rfl

theorem top_lt (v K : Nat) (hv : v < 2 ^ 64) (hK : K ≤ 64) : ((v : Int) / 2 ^ K).toNat < 2 ^ (64 - (K : Int)).toNat := by
  rw [top_nat, show (64 - (K : Int)).toNat = 64 - K by omega]
  apply Nat.div_lt_of_lt_mul
  rw [← Nat.pow_add, show K + (64 - K) = 64 by omega]
  exact hv

theorem convA {w : World} {g : Nat} {high : Bool} {L : List Bool} (h : w.heap[g]? = some (.cells ((pk high 8 L).map bv).toArray 5 (0, 0))) :
    (convert 26 9 (.slice (some ⟨g, 0, none⟩) 8 8)).run Try.prog w = .ok (.string ⟨((pk high 8 L).map UInt8.ofNat).toArray⟩) w := by
  have := conv_run w g 8 (pk high 8 L) (pk_lt _ _ _) h
  rw [pk_length] at this
  exact this

/-- What stands before the last statement: both writers hold the number's bits. -/
theorem both {w w1 w2 w3 : World} {high : Bool} {v mA fA mC fC : Nat} {vA vB vC : Value} {Y : List Bool} (hA : WOk w1 w.heap.size high vA mA (bitsOf high v 64) fA) (hfA : fA ≤ 7)
    (cA : Chg w.heap.size (.slice none 0 0) ((w.alloc (.cells #[.bool true, .bool high, .slice none 0 0, .int .i64 0] 51)).alloc (.cells #[.bool true, .bool high, .slice none 0 0, .int .i64 0] 51)) vA w1)
    (cB : Chg (w.heap.size + 1) (.slice none 0 0) w1 vB w2) (hC : WOk w3 (w.heap.size + 1) high vC mC Y fC) (cC : Chg (w.heap.size + 1) vB w2 vC w3) (hfC : fC ≤ 7) (hY : Y = bitsOf high v 64) :
    (∀ x, Below w3.heap.size w3 x → WOk x w.heap.size high vA 8 (bitsOf high v 64) 0) ∧ (∀ x, Below w3.heap.size w3 x → WOk x (w.heap.size + 1) high vC 8 (bitsOf high v 64) 0) ∧ Below w.heap.size w w3 := by
  have s0 : ((w.alloc (.cells #[.bool true, .bool high, .slice none 0 0, .int .i64 0] 51)).alloc (.cells #[.bool true, .bool high, .slice none 0 0, .int .i64 0] 51)).heap.size = w.heap.size + 2 := by simp
  have sA := cA.size
  have sB := cB.size
  have sC := cC.size
  have lA := hA.len
  have lC := hC.len
  rw [hY] at hC lC
  rw [bitsOf_length] at lA lC
  obtain ⟨rfl, rfl⟩ : mA = 8 ∧ fA = 0 := by omega
  obtain ⟨rfl, rfl⟩ : mC = 8 ∧ fC = 0 := by omega
  have gA : ∀ g, vA.ownBlock = some g → w.heap.size + 2 ≤ g ∧ g < w1.heap.size := fun g e => by
    refine ⟨?_, (hA.row.lt g e).2⟩
    rcases cA.lies with h | ⟨g', h, hg⟩
    · rw [e] at h; cases h
    · rw [e] at h; injection h with h; omega
  have gB : ∀ g, vB.ownBlock = some g → w1.heap.size ≤ g := fun g e => by
    rcases cB.lies with h | ⟨g', h, hg⟩
    · rw [e] at h; cases h
    · rw [e] at h; injection h with h; omega
  have hA2 : WOk w2 w.heap.size high vA 8 (bitsOf high v 64) 0 := hA.keep (cB.keep _ (by omega) (by omega) (fun e => by cases e)) (fun g e => cB.keep g (gA g e).2 (by have := (gA g e).1; omega) (fun e => by cases e))
  have hA3 : WOk w3 w.heap.size high vA 8 (bitsOf high v 64) 0 := hA2.keep (cC.keep _ (by omega) (by omega) (fun e => by have := gB _ e; omega)) (fun g e => cC.keep g (by have := (gA g e).2; omega) (by have := (gA g e).1; omega) (fun e' => by have := gB _ e'; have := (gA g e).2; omega))
  refine ⟨fun x hx => hA3.keep (hx.block _ (by omega)) (fun g e => hx.block _ (by have := (gA g e).2; omega)), fun x hx => hC.keep (hx.block _ hC.lt) (fun g e => hx.block _ (hC.row.lt g e).2), ?_⟩
  have b0 : Below w.heap.size w ((w.alloc (.cells #[.bool true, .bool high, .slice none 0 0, .int .i64 0] 51)).alloc (.cells #[.bool true, .bool high, .slice none 0 0, .int .i64 0] 51)) := ((Below.refl _ _).alloc (Nat.le_refl _) _).alloc (by simp) _
  have b1 := cA.below (B := w.heap.size) (by omega) (Nat.le_refl _) (fun g e => by cases e)
  have b2 := cB.below (B := w.heap.size) (by omega) (by omega) (fun g e => by cases e)
  have b3 := cC.below (B := w.heap.size) (by omega) (by omega) (fun g e => by have := gB g e; omega)
  exact ((b0.trans b1).trans b2).trans b3

set_option maxHeartbeats 1000000 in
theorem walk (high : Bool) (v : Nat) (cut : Int) (w : World) (hv1 : v < 2 ^ 64) :
    Calls Try.prog 7 #[.bool high, .int .u64 (v : Int), .int .i64 cut] w fun e w' => e = .returned (.bool true) ∧ Below w.heap.size w w' := by
  obtain ⟨K, hK, hKle⟩ := k_val cut
  have HA0 := hide ((new_ok high w).alloc (.cells #[.bool true, .bool high, .slice none 0 0, .int .i64 0] 51))
  have HB0 := hide (new_ok high (w.alloc (.cells #[.bool true, .bool high, .slice none 0 0, .int .i64 0] 51)))
  have HV := hide hv1
  clear hv1
  go_enter Try.func7, Try.ntmps7
  go_wp2_with (go_at_call 8; refine (new_any _ _).mono ?_; rintro e w' ⟨rfl, rfl⟩)
  refine (put_ok w.heap.size 0 0 high (.slice none 0 0) [] v 64 _ (unhide HA0) (by omega) (by omega) (by omega) (by omega) (by simpa using unhide HV) (by simp)).mono ?_
  rintro e w1 ⟨rfl, vA, mA, fA, hA, hfA, cA⟩
  have HA : Hid (WOk w1 w.heap.size high vA mA (bitsOf high v 64) fA) := hide (by simpa using hA)
  have HB1 : Hid (WOk w1 (w.heap.size + 1) high (.slice none 0 0) 0 [] 0) := by
    have := (unhide HB0).keep (w' := w1) (by simp; rw [cA.keep _ (by simp) (by omega) (fun e => by cases e)]; simp) (fun g e => by cases e)
    exact hide (by simpa using this)
  have HCA := hide cA
  clear hA cA HA0 HB0
  by_cases hlt : K < 64
  · have hlt' : (K : Int) < 64 := by omega
    have hlow := low_val v K (unhide HV) hlt
    cases high
    · go_wp2_with fail
      refine (put_ok (w.heap.size + 1) 0 0 false (.slice none 0 0) [] ((v % 2 ^ K : Nat) : Int) (K : Int) w1 (unhide HB1) (by omega) (by omega) (by omega) (by omega) (low_lt v K) (by simp; omega)).mono ?_
      rintro e w2 ⟨rfl, vB, mB, fB, hB, hfB, cB⟩
      have hlB := hB.len
      simp only [List.length_append, bitsOf_length, List.length_nil] at hlB
      have HB := hide hB
      have HCB := hide cB
      clear hB cB hlB HB1
      go_wp2_with fail
      refine (put_ok (w.heap.size + 1) mB fB false vB _ ((v : Int) / 2 ^ K) (64 - (K : Int)) w2 (unhide HB) hfB (by omega) (by omega) (top_pos v K) (top_lt v K (unhide HV) hKle) (by simp only [List.length_append, bitsOf_length, List.length_nil]; omega)).mono ?_
      rintro e w3 ⟨rfl, vC, mC, fC, hC, hfC, cC⟩
      have HQ := hide (both (unhide HA) hfA (unhide HCA) (unhide HCB) hC cC hfC (by simpa [top_nat, low_nat] using bitsOf_parts_low v 64 K hKle))
      clear hC cC HA HCA HCB HB
      obtain ⟨hA3, hC3, hbel⟩ := unhide HQ
      have HA3 := hide hA3
      have HC3 := hide hC3
      have HBL := hide hbel
      clear hA3 hC3 hbel HQ
      go_wp2_with fail
      have hlen : (bitsOf false v 64).length = 64 := bitsOf_length _ _ _
      refine wp_region_noPanic ?_
      refine wp_region_held_drew (S := fun _ => True) (by kernel_rfl) True.intro (fun hHeld => ?_)
      refine held_take 0 58 rfl rfl (by kernel_rfl) (by kernel_rfl) (by kernel_rfl) (by rfl) hHeld noPanic_panic (v := ?_) (fun x hSx => ?_) ?_
      rotate_left 1
      · go_simp <;> with_reducible rfl
      simp only [List.set_cons_zero, List.set_cons_succ]
      refine held_take 1 59 rfl rfl (by kernel_rfl) (by kernel_rfl) (by kernel_rfl) (by rfl) hHeld noPanic_panic (v := ?_) (fun x hSx => ?_) ?_
      rotate_left 1
      · go_simp <;> with_reducible rfl
      simp only [List.set_cons_zero, List.set_cons_succ]
      refine held_take 2 60 rfl rfl (by kernel_rfl) (by kernel_rfl) (by kernel_rfl) (by rfl) hHeld noPanic_panic (v := ?_) (fun x hSx => ?_) ?_
      rotate_left 1
      · go_simp <;> with_reducible rfl
      simp only [List.set_cons_zero, List.set_cons_succ]
      refine held_take 3 61 rfl rfl (by kernel_rfl) (by kernel_rfl) (by kernel_rfl) (by rfl) hHeld noPanic_panic (v := ?_) (fun x hSx => ?_) ?_
      rotate_left 1
      · go_simp <;> with_reducible rfl
      simp only [List.set_cons_zero, List.set_cons_succ]
      refine held_take 4 62 rfl rfl (by kernel_rfl) (by kernel_rfl) (by kernel_rfl) (by rfl) hHeld noPanic_panic (v := ?_) (fun x hSx => ?_) ?_
      rotate_left 1
      · go_simp <;> with_reducible rfl
      simp only [List.set_cons_zero, List.set_cons_succ]
      refine held_take 5 63 rfl rfl (by kernel_rfl) (by kernel_rfl) (by kernel_rfl) (by rfl) hHeld noPanic_panic (v := ?_) (fun x hSx => ?_) ?_
      rotate_left 1
      · go_simp <;> with_reducible rfl
      simp only [List.set_cons_zero, List.set_cons_succ]
      refine held_take 6 64 rfl rfl (by kernel_rfl) (by kernel_rfl) (by kernel_rfl) (by rfl) hHeld noPanic_panic (v := ?_) (fun x hSx => ?_) ?_
      rotate_left 1
      · go_simp <;> with_reducible rfl
      simp only [List.set_cons_zero, List.set_cons_succ]
      refine held_take 7 65 rfl rfl (by kernel_rfl) (by kernel_rfl) (by kernel_rfl) (by rfl) hHeld noPanic_panic (v := ?_) (fun x hSx => ?_) ?_
      rotate_left 1
      · go_simp <;> with_reducible rfl
      simp only [List.set_cons_zero, List.set_cons_succ]
      refine held_enter 8 66 (by kernel_rfl) rfl rfl (by rfl) (by go_simp <;> exact ⟨rfl, rfl⟩) ?_
      refine (len_ok w.heap.size 8 0 false vA (bitsOf false v 64) _ (unhide HA3 _ (by exact ⟨rfl, rfl, rfl, Nat.le_refl _, fun _ _ => rfl⟩)) (by omega) (by omega)).mono ?_
      rintro e w' ⟨rfl, nq, rfl⟩
      refine ⟨_, rfl, True.intro, ?_⟩
      simp only [List.set_cons_zero, List.set_cons_succ]
      refine held_take 9 67 rfl rfl (by kernel_rfl) (by kernel_rfl) (by kernel_rfl) (by rfl) hHeld noPanic_panic (v := ?_) (fun x hSx => ?_) ?_
      rotate_left 1
      · go_simp <;> with_reducible rfl
      simp only [List.set_cons_zero, List.set_cons_succ]
      refine held_take 10 68 rfl rfl (by kernel_rfl) (by kernel_rfl) (by kernel_rfl) (by rfl) hHeld noPanic_panic (v := ?_) (fun x hSx => ?_) ?_
      rotate_left 1
      · go_simp <;> with_reducible rfl
      simp only [List.set_cons_zero, List.set_cons_succ]
      refine held_take 11 69 rfl rfl (by kernel_rfl) (by kernel_rfl) (by kernel_rfl) (by rfl) hHeld noPanic_panic (v := ?_) (fun x hSx => ?_) ?_
      rotate_left 1
      · go_simp <;> with_reducible rfl
      simp only [List.set_cons_zero, List.set_cons_succ]
      refine held_take 12 70 rfl rfl (by kernel_rfl) (by kernel_rfl) (by kernel_rfl) (by rfl) hHeld noPanic_panic (v := ?_) (fun x hSx => ?_) ?_
      rotate_left 1
      · go_simp <;> with_reducible rfl
      simp only [List.set_cons_zero, List.set_cons_succ]
      refine held_take 15 73 rfl rfl (by kernel_rfl) (by kernel_rfl) (by kernel_rfl) (by rfl) hHeld noPanic_panic (v := ?_) (fun x hSx => ?_) ?_
      rotate_left 1
      · go_simp <;> with_reducible rfl
      simp only [List.set_cons_zero, List.set_cons_succ]
      refine held_enter 13 71 (by kernel_rfl) rfl rfl (by rfl) (by go_simp <;> exact ⟨rfl, rfl⟩) ?_
      refine (bytes_ok w.heap.size 8 0 false vA (bitsOf false v 64) _ (unhide HA3 _ (by exact ⟨rfl, rfl, rfl, Nat.le_refl _, fun _ _ => rfl⟩)) (by omega)).mono ?_
      rintro e w4 ⟨rfl, h4, hb4⟩
      have HC4 := hide (convA h4)
      have HB4 : Hid (Below w3.heap.size w3 w4) := hide ⟨hb4.os, hb4.tape, hb4.output, hb4.size, hb4.block⟩
      have H4 := hide h4
      clear h4 hb4
      refine ⟨_, rfl, True.intro, ?_⟩
      simp only [List.set_cons_zero, List.set_cons_succ]
      refine held_switch (S' := (fun x => (convert 26 9 (.slice (some ⟨w3.heap.size, 0, none⟩) 8 8)).run Try.prog x = .ok (.string ⟨((pk false 8 (bitsOf false v 64)).map UInt8.ofNat).toArray⟩) x)) (fun _ _ => True.intro) ?_
      have hHeld := unhide HC4
      refine held_take 14 72 rfl rfl (by kernel_rfl) (by kernel_rfl) (by kernel_rfl) (by rfl) hHeld noPanic_panic (v := ?_) (fun x hSx => ?_) ?_
      rotate_left 1
      · go_simp <;> with_reducible rfl
      simp only [List.set_cons_zero, List.set_cons_succ]
      refine held_enter 16 74 (by kernel_rfl) rfl rfl (by rfl) (by go_simp <;> exact ⟨rfl, rfl⟩) ?_
      refine (bytes_ok (w.heap.size + 1) 8 0 false vC (bitsOf false v 64) w4 (unhide HC3 _ (unhide HB4)) (by omega)).mono ?_
      rintro e w5 ⟨rfl, h5, hb5⟩
      have HC5 := hide (convA h5)
      have HC6 := hide (convA ((hb5.block _ (heap_lt (unhide H4))).trans (unhide H4)))
      have HB5 := hide ((unhide HBL).trans (((unhide HB4).trans (hb5.mono (unhide HB4).size)).mono (unhide HBL).size))
      clear h5 hb5
      refine ⟨_, rfl, unhide HC6, ?_⟩
      simp only [List.set_cons_zero, List.set_cons_succ]
      refine held_switch (S' := (fun x => (convert 26 9 (.slice (some ⟨w4.heap.size, 0, none⟩) 8 8)).run Try.prog x = .ok (.string ⟨((pk false 8 (bitsOf false v 64)).map UInt8.ofNat).toArray⟩) x ∧ (convert 26 9 (.slice (some ⟨w3.heap.size, 0, none⟩) 8 8)).run Try.prog x = .ok (.string ⟨((pk false 8 (bitsOf false v 64)).map UInt8.ofNat).toArray⟩) x)) (fun _ h => h.2) ?_
      have hHeld := And.intro (unhide HC5) (unhide HC6)
      refine held_take 17 75 rfl rfl (by kernel_rfl) (by kernel_rfl) (by kernel_rfl) (by rfl) hHeld noPanic_panic (v := ?_) (fun x hSx => ?_) ?_
      rotate_left 1
      · have h1 := hSx.1; go_simp <;> with_reducible rfl
      simp only [List.set_cons_zero, List.set_cons_succ]
      refine held_take 18 76 rfl rfl (by kernel_rfl) (by kernel_rfl) (by kernel_rfl) (by rfl) hHeld noPanic_panic (v := ?_) (fun x hSx => ?_) ?_
      rotate_left 1
      · go_simp <;> with_reducible rfl
      simp only [List.set_cons_zero, List.set_cons_succ]
      refine held_take 19 77 rfl rfl (by kernel_rfl) (by kernel_rfl) (by kernel_rfl) (by rfl) hHeld noPanic_panic (v := ?_) (fun x hSx => ?_) ?_
      rotate_left 1
      · go_simp <;> with_reducible rfl
      simp only [List.set_cons_zero, List.set_cons_succ]
      refine held_take 20 6 rfl rfl (by kernel_rfl) (by kernel_rfl) (by kernel_rfl) (by rfl) hHeld noPanic_panic (v := ?_) (fun x hSx => ?_) ?_
      rotate_left 1
      · go_simp <;> with_reducible rfl
      simp only [List.set_cons_zero, List.set_cons_succ]
      refine wpAnyH_done (by kernel_rfl) ?_ _
      refine NoPanic.normal ?_
      go_wp2
      go_ret
      refine ⟨?_, unhide HB5⟩
      first | rfl | simp
    · go_wp2_with fail
      refine (put_ok (w.heap.size + 1) 0 0 true (.slice none 0 0) [] ((v : Int) / 2 ^ K) (64 - (K : Int)) w1 (unhide HB1) (by omega) (by omega) (by omega) (top_pos v K) (top_lt v K (unhide HV) hKle) (by simp; omega)).mono ?_
      rintro e w2 ⟨rfl, vB, mB, fB, hB, hfB, cB⟩
      have hlB := hB.len
      simp only [List.length_append, bitsOf_length, List.length_nil] at hlB
      have HB := hide hB
      have HCB := hide cB
      clear hB cB hlB HB1
      go_wp2_with fail
      refine (put_ok (w.heap.size + 1) mB fB true vB _ ((v % 2 ^ K : Nat) : Int) (K : Int) w2 (unhide HB) hfB (by omega) (by omega) (by omega) (low_lt v K) (by simp only [List.length_append, bitsOf_length, List.length_nil]; omega)).mono ?_
      rintro e w3 ⟨rfl, vC, mC, fC, hC, hfC, cC⟩
      have HQ := hide (both (unhide HA) hfA (unhide HCA) (unhide HCB) hC cC hfC (by simpa [top_nat, low_nat] using bitsOf_parts_high v 64 K hKle))
      clear hC cC HA HCA HCB HB
      obtain ⟨hA3, hC3, hbel⟩ := unhide HQ
      have HA3 := hide hA3
      have HC3 := hide hC3
      have HBL := hide hbel
      clear hA3 hC3 hbel HQ
      go_wp2_with fail
      have hlen : (bitsOf true v 64).length = 64 := bitsOf_length _ _ _
      refine wp_region_noPanic ?_
      refine wp_region_held_drew (S := fun _ => True) (by kernel_rfl) True.intro (fun hHeld => ?_)
      refine held_take 0 58 rfl rfl (by kernel_rfl) (by kernel_rfl) (by kernel_rfl) (by rfl) hHeld noPanic_panic (v := ?_) (fun x hSx => ?_) ?_
      rotate_left 1
      · go_simp <;> with_reducible rfl
      simp only [List.set_cons_zero, List.set_cons_succ]
      refine held_take 1 59 rfl rfl (by kernel_rfl) (by kernel_rfl) (by kernel_rfl) (by rfl) hHeld noPanic_panic (v := ?_) (fun x hSx => ?_) ?_
      rotate_left 1
      · go_simp <;> with_reducible rfl
      simp only [List.set_cons_zero, List.set_cons_succ]
      refine held_take 2 60 rfl rfl (by kernel_rfl) (by kernel_rfl) (by kernel_rfl) (by rfl) hHeld noPanic_panic (v := ?_) (fun x hSx => ?_) ?_
      rotate_left 1
      · go_simp <;> with_reducible rfl
      simp only [List.set_cons_zero, List.set_cons_succ]
      refine held_take 3 61 rfl rfl (by kernel_rfl) (by kernel_rfl) (by kernel_rfl) (by rfl) hHeld noPanic_panic (v := ?_) (fun x hSx => ?_) ?_
      rotate_left 1
      · go_simp <;> with_reducible rfl
      simp only [List.set_cons_zero, List.set_cons_succ]
      refine held_take 4 62 rfl rfl (by kernel_rfl) (by kernel_rfl) (by kernel_rfl) (by rfl) hHeld noPanic_panic (v := ?_) (fun x hSx => ?_) ?_
      rotate_left 1
      · go_simp <;> with_reducible rfl
      simp only [List.set_cons_zero, List.set_cons_succ]
      refine held_take 5 63 rfl rfl (by kernel_rfl) (by kernel_rfl) (by kernel_rfl) (by rfl) hHeld noPanic_panic (v := ?_) (fun x hSx => ?_) ?_
      rotate_left 1
      · go_simp <;> with_reducible rfl
      simp only [List.set_cons_zero, List.set_cons_succ]
      refine held_take 6 64 rfl rfl (by kernel_rfl) (by kernel_rfl) (by kernel_rfl) (by rfl) hHeld noPanic_panic (v := ?_) (fun x hSx => ?_) ?_
      rotate_left 1
      · go_simp <;> with_reducible rfl
      simp only [List.set_cons_zero, List.set_cons_succ]
      refine held_take 7 65 rfl rfl (by kernel_rfl) (by kernel_rfl) (by kernel_rfl) (by rfl) hHeld noPanic_panic (v := ?_) (fun x hSx => ?_) ?_
      rotate_left 1
      · go_simp <;> with_reducible rfl
      simp only [List.set_cons_zero, List.set_cons_succ]
      refine held_enter 8 66 (by kernel_rfl) rfl rfl (by rfl) (by go_simp <;> exact ⟨rfl, rfl⟩) ?_
      refine (len_ok w.heap.size 8 0 true vA (bitsOf true v 64) _ (unhide HA3 _ (by exact ⟨rfl, rfl, rfl, Nat.le_refl _, fun _ _ => rfl⟩)) (by omega) (by omega)).mono ?_
      rintro e w' ⟨rfl, nq, rfl⟩
      refine ⟨_, rfl, True.intro, ?_⟩
      simp only [List.set_cons_zero, List.set_cons_succ]
      refine held_take 9 67 rfl rfl (by kernel_rfl) (by kernel_rfl) (by kernel_rfl) (by rfl) hHeld noPanic_panic (v := ?_) (fun x hSx => ?_) ?_
      rotate_left 1
      · go_simp <;> with_reducible rfl
      simp only [List.set_cons_zero, List.set_cons_succ]
      refine held_take 10 68 rfl rfl (by kernel_rfl) (by kernel_rfl) (by kernel_rfl) (by rfl) hHeld noPanic_panic (v := ?_) (fun x hSx => ?_) ?_
      rotate_left 1
      · go_simp <;> with_reducible rfl
      simp only [List.set_cons_zero, List.set_cons_succ]
      refine held_take 11 69 rfl rfl (by kernel_rfl) (by kernel_rfl) (by kernel_rfl) (by rfl) hHeld noPanic_panic (v := ?_) (fun x hSx => ?_) ?_
      rotate_left 1
      · go_simp <;> with_reducible rfl
      simp only [List.set_cons_zero, List.set_cons_succ]
      refine held_take 12 70 rfl rfl (by kernel_rfl) (by kernel_rfl) (by kernel_rfl) (by rfl) hHeld noPanic_panic (v := ?_) (fun x hSx => ?_) ?_
      rotate_left 1
      · go_simp <;> with_reducible rfl
      simp only [List.set_cons_zero, List.set_cons_succ]
      refine held_take 15 73 rfl rfl (by kernel_rfl) (by kernel_rfl) (by kernel_rfl) (by rfl) hHeld noPanic_panic (v := ?_) (fun x hSx => ?_) ?_
      rotate_left 1
      · go_simp <;> with_reducible rfl
      simp only [List.set_cons_zero, List.set_cons_succ]
      refine held_enter 13 71 (by kernel_rfl) rfl rfl (by rfl) (by go_simp <;> exact ⟨rfl, rfl⟩) ?_
      refine (bytes_ok w.heap.size 8 0 true vA (bitsOf true v 64) _ (unhide HA3 _ (by exact ⟨rfl, rfl, rfl, Nat.le_refl _, fun _ _ => rfl⟩)) (by omega)).mono ?_
      rintro e w4 ⟨rfl, h4, hb4⟩
      have HC4 := hide (convA h4)
      have HB4 : Hid (Below w3.heap.size w3 w4) := hide ⟨hb4.os, hb4.tape, hb4.output, hb4.size, hb4.block⟩
      have H4 := hide h4
      clear h4 hb4
      refine ⟨_, rfl, True.intro, ?_⟩
      simp only [List.set_cons_zero, List.set_cons_succ]
      refine held_switch (S' := (fun x => (convert 26 9 (.slice (some ⟨w3.heap.size, 0, none⟩) 8 8)).run Try.prog x = .ok (.string ⟨((pk true 8 (bitsOf true v 64)).map UInt8.ofNat).toArray⟩) x)) (fun _ _ => True.intro) ?_
      have hHeld := unhide HC4
      refine held_take 14 72 rfl rfl (by kernel_rfl) (by kernel_rfl) (by kernel_rfl) (by rfl) hHeld noPanic_panic (v := ?_) (fun x hSx => ?_) ?_
      rotate_left 1
      · go_simp <;> with_reducible rfl
      simp only [List.set_cons_zero, List.set_cons_succ]
      refine held_enter 16 74 (by kernel_rfl) rfl rfl (by rfl) (by go_simp <;> exact ⟨rfl, rfl⟩) ?_
      refine (bytes_ok (w.heap.size + 1) 8 0 true vC (bitsOf true v 64) w4 (unhide HC3 _ (unhide HB4)) (by omega)).mono ?_
      rintro e w5 ⟨rfl, h5, hb5⟩
      have HC5 := hide (convA h5)
      have HC6 := hide (convA ((hb5.block _ (heap_lt (unhide H4))).trans (unhide H4)))
      have HB5 := hide ((unhide HBL).trans (((unhide HB4).trans (hb5.mono (unhide HB4).size)).mono (unhide HBL).size))
      clear h5 hb5
      refine ⟨_, rfl, unhide HC6, ?_⟩
      simp only [List.set_cons_zero, List.set_cons_succ]
      refine held_switch (S' := (fun x => (convert 26 9 (.slice (some ⟨w4.heap.size, 0, none⟩) 8 8)).run Try.prog x = .ok (.string ⟨((pk true 8 (bitsOf true v 64)).map UInt8.ofNat).toArray⟩) x ∧ (convert 26 9 (.slice (some ⟨w3.heap.size, 0, none⟩) 8 8)).run Try.prog x = .ok (.string ⟨((pk true 8 (bitsOf true v 64)).map UInt8.ofNat).toArray⟩) x)) (fun _ h => h.2) ?_
      have hHeld := And.intro (unhide HC5) (unhide HC6)
      refine held_take 17 75 rfl rfl (by kernel_rfl) (by kernel_rfl) (by kernel_rfl) (by rfl) hHeld noPanic_panic (v := ?_) (fun x hSx => ?_) ?_
      rotate_left 1
      · have h1 := hSx.1; go_simp <;> with_reducible rfl
      simp only [List.set_cons_zero, List.set_cons_succ]
      refine held_take 18 76 rfl rfl (by kernel_rfl) (by kernel_rfl) (by kernel_rfl) (by rfl) hHeld noPanic_panic (v := ?_) (fun x hSx => ?_) ?_
      rotate_left 1
      · go_simp <;> with_reducible rfl
      simp only [List.set_cons_zero, List.set_cons_succ]
      refine held_take 19 77 rfl rfl (by kernel_rfl) (by kernel_rfl) (by kernel_rfl) (by rfl) hHeld noPanic_panic (v := ?_) (fun x hSx => ?_) ?_
      rotate_left 1
      · go_simp <;> with_reducible rfl
      simp only [List.set_cons_zero, List.set_cons_succ]
      refine held_take 20 6 rfl rfl (by kernel_rfl) (by kernel_rfl) (by kernel_rfl) (by rfl) hHeld noPanic_panic (v := ?_) (fun x hSx => ?_) ?_
      rotate_left 1
      · go_simp <;> with_reducible rfl
      simp only [List.set_cons_zero, List.set_cons_succ]
      refine wpAnyH_done (by kernel_rfl) ?_ _
      refine NoPanic.normal ?_
      go_wp2
      go_ret
      refine ⟨?_, unhide HB5⟩
      first | rfl | simp
  · have hlt' : ¬ (K : Int) < 64 := by omega
    obtain rfl : K = 64 := by omega
    cases high
    · go_wp2_with fail
      refine (put_ok (w.heap.size + 1) 0 0 false (.slice none 0 0) [] (v : Int) 64 w1 (unhide HB1) (by omega) (by omega) (by omega) (by omega) (by simpa using unhide HV) (by simp)).mono ?_
      rintro e w2 ⟨rfl, vB, mB, fB, hB, hfB, cB⟩
      have hlB := hB.len
      simp only [List.length_append, bitsOf_length, List.length_nil] at hlB
      have HB := hide hB
      have HCB := hide cB
      clear hB cB hlB HB1
      go_wp2_with fail
      refine (put_ok (w.heap.size + 1) mB fB false vB _ 0 0 w2 (unhide HB) hfB (by omega) (by omega) (by omega) (by simp) (by simp [bitsOf_length])).mono ?_
      rintro e w3 ⟨rfl, vC, mC, fC, hC, hfC, cC⟩
      have HQ := hide (both (unhide HA) hfA (unhide HCA) (unhide HCB) hC cC hfC (by simp [bitsOf]))
      clear hC cC HA HCA HCB HB
      obtain ⟨hA3, hC3, hbel⟩ := unhide HQ
      have HA3 := hide hA3
      have HC3 := hide hC3
      have HBL := hide hbel
      clear hA3 hC3 hbel HQ
      go_wp2_with fail
      have hlen : (bitsOf false v 64).length = 64 := bitsOf_length _ _ _
      refine wp_region_noPanic ?_
      refine wp_region_held_drew (S := fun _ => True) (by kernel_rfl) True.intro (fun hHeld => ?_)
      refine held_take 0 58 rfl rfl (by kernel_rfl) (by kernel_rfl) (by kernel_rfl) (by rfl) hHeld noPanic_panic (v := ?_) (fun x hSx => ?_) ?_
      rotate_left 1
      · go_simp <;> with_reducible rfl
      simp only [List.set_cons_zero, List.set_cons_succ]
      refine held_take 1 59 rfl rfl (by kernel_rfl) (by kernel_rfl) (by kernel_rfl) (by rfl) hHeld noPanic_panic (v := ?_) (fun x hSx => ?_) ?_
      rotate_left 1
      · go_simp <;> with_reducible rfl
      simp only [List.set_cons_zero, List.set_cons_succ]
      refine held_take 2 60 rfl rfl (by kernel_rfl) (by kernel_rfl) (by kernel_rfl) (by rfl) hHeld noPanic_panic (v := ?_) (fun x hSx => ?_) ?_
      rotate_left 1
      · go_simp <;> with_reducible rfl
      simp only [List.set_cons_zero, List.set_cons_succ]
      refine held_take 3 61 rfl rfl (by kernel_rfl) (by kernel_rfl) (by kernel_rfl) (by rfl) hHeld noPanic_panic (v := ?_) (fun x hSx => ?_) ?_
      rotate_left 1
      · go_simp <;> with_reducible rfl
      simp only [List.set_cons_zero, List.set_cons_succ]
      refine held_take 4 62 rfl rfl (by kernel_rfl) (by kernel_rfl) (by kernel_rfl) (by rfl) hHeld noPanic_panic (v := ?_) (fun x hSx => ?_) ?_
      rotate_left 1
      · go_simp <;> with_reducible rfl
      simp only [List.set_cons_zero, List.set_cons_succ]
      refine held_take 5 63 rfl rfl (by kernel_rfl) (by kernel_rfl) (by kernel_rfl) (by rfl) hHeld noPanic_panic (v := ?_) (fun x hSx => ?_) ?_
      rotate_left 1
      · go_simp <;> with_reducible rfl
      simp only [List.set_cons_zero, List.set_cons_succ]
      refine held_take 6 64 rfl rfl (by kernel_rfl) (by kernel_rfl) (by kernel_rfl) (by rfl) hHeld noPanic_panic (v := ?_) (fun x hSx => ?_) ?_
      rotate_left 1
      · go_simp <;> with_reducible rfl
      simp only [List.set_cons_zero, List.set_cons_succ]
      refine held_take 7 65 rfl rfl (by kernel_rfl) (by kernel_rfl) (by kernel_rfl) (by rfl) hHeld noPanic_panic (v := ?_) (fun x hSx => ?_) ?_
      rotate_left 1
      · go_simp <;> with_reducible rfl
      simp only [List.set_cons_zero, List.set_cons_succ]
      refine held_enter 8 66 (by kernel_rfl) rfl rfl (by rfl) (by go_simp <;> exact ⟨rfl, rfl⟩) ?_
      refine (len_ok w.heap.size 8 0 false vA (bitsOf false v 64) _ (unhide HA3 _ (by exact ⟨rfl, rfl, rfl, Nat.le_refl _, fun _ _ => rfl⟩)) (by omega) (by omega)).mono ?_
      rintro e w' ⟨rfl, nq, rfl⟩
      refine ⟨_, rfl, True.intro, ?_⟩
      simp only [List.set_cons_zero, List.set_cons_succ]
      refine held_take 9 67 rfl rfl (by kernel_rfl) (by kernel_rfl) (by kernel_rfl) (by rfl) hHeld noPanic_panic (v := ?_) (fun x hSx => ?_) ?_
      rotate_left 1
      · go_simp <;> with_reducible rfl
      simp only [List.set_cons_zero, List.set_cons_succ]
      refine held_take 10 68 rfl rfl (by kernel_rfl) (by kernel_rfl) (by kernel_rfl) (by rfl) hHeld noPanic_panic (v := ?_) (fun x hSx => ?_) ?_
      rotate_left 1
      · go_simp <;> with_reducible rfl
      simp only [List.set_cons_zero, List.set_cons_succ]
      refine held_take 11 69 rfl rfl (by kernel_rfl) (by kernel_rfl) (by kernel_rfl) (by rfl) hHeld noPanic_panic (v := ?_) (fun x hSx => ?_) ?_
      rotate_left 1
      · go_simp <;> with_reducible rfl
      simp only [List.set_cons_zero, List.set_cons_succ]
      refine held_take 12 70 rfl rfl (by kernel_rfl) (by kernel_rfl) (by kernel_rfl) (by rfl) hHeld noPanic_panic (v := ?_) (fun x hSx => ?_) ?_
      rotate_left 1
      · go_simp <;> with_reducible rfl
      simp only [List.set_cons_zero, List.set_cons_succ]
      refine held_take 15 73 rfl rfl (by kernel_rfl) (by kernel_rfl) (by kernel_rfl) (by rfl) hHeld noPanic_panic (v := ?_) (fun x hSx => ?_) ?_
      rotate_left 1
      · go_simp <;> with_reducible rfl
      simp only [List.set_cons_zero, List.set_cons_succ]
      refine held_enter 13 71 (by kernel_rfl) rfl rfl (by rfl) (by go_simp <;> exact ⟨rfl, rfl⟩) ?_
      refine (bytes_ok w.heap.size 8 0 false vA (bitsOf false v 64) _ (unhide HA3 _ (by exact ⟨rfl, rfl, rfl, Nat.le_refl _, fun _ _ => rfl⟩)) (by omega)).mono ?_
      rintro e w4 ⟨rfl, h4, hb4⟩
      have HC4 := hide (convA h4)
      have HB4 : Hid (Below w3.heap.size w3 w4) := hide ⟨hb4.os, hb4.tape, hb4.output, hb4.size, hb4.block⟩
      have H4 := hide h4
      clear h4 hb4
      refine ⟨_, rfl, True.intro, ?_⟩
      simp only [List.set_cons_zero, List.set_cons_succ]
      refine held_switch (S' := (fun x => (convert 26 9 (.slice (some ⟨w3.heap.size, 0, none⟩) 8 8)).run Try.prog x = .ok (.string ⟨((pk false 8 (bitsOf false v 64)).map UInt8.ofNat).toArray⟩) x)) (fun _ _ => True.intro) ?_
      have hHeld := unhide HC4
      refine held_take 14 72 rfl rfl (by kernel_rfl) (by kernel_rfl) (by kernel_rfl) (by rfl) hHeld noPanic_panic (v := ?_) (fun x hSx => ?_) ?_
      rotate_left 1
      · go_simp <;> with_reducible rfl
      simp only [List.set_cons_zero, List.set_cons_succ]
      refine held_enter 16 74 (by kernel_rfl) rfl rfl (by rfl) (by go_simp <;> exact ⟨rfl, rfl⟩) ?_
      refine (bytes_ok (w.heap.size + 1) 8 0 false vC (bitsOf false v 64) w4 (unhide HC3 _ (unhide HB4)) (by omega)).mono ?_
      rintro e w5 ⟨rfl, h5, hb5⟩
      have HC5 := hide (convA h5)
      have HC6 := hide (convA ((hb5.block _ (heap_lt (unhide H4))).trans (unhide H4)))
      have HB5 := hide ((unhide HBL).trans (((unhide HB4).trans (hb5.mono (unhide HB4).size)).mono (unhide HBL).size))
      clear h5 hb5
      refine ⟨_, rfl, unhide HC6, ?_⟩
      simp only [List.set_cons_zero, List.set_cons_succ]
      refine held_switch (S' := (fun x => (convert 26 9 (.slice (some ⟨w4.heap.size, 0, none⟩) 8 8)).run Try.prog x = .ok (.string ⟨((pk false 8 (bitsOf false v 64)).map UInt8.ofNat).toArray⟩) x ∧ (convert 26 9 (.slice (some ⟨w3.heap.size, 0, none⟩) 8 8)).run Try.prog x = .ok (.string ⟨((pk false 8 (bitsOf false v 64)).map UInt8.ofNat).toArray⟩) x)) (fun _ h => h.2) ?_
      have hHeld := And.intro (unhide HC5) (unhide HC6)
      refine held_take 17 75 rfl rfl (by kernel_rfl) (by kernel_rfl) (by kernel_rfl) (by rfl) hHeld noPanic_panic (v := ?_) (fun x hSx => ?_) ?_
      rotate_left 1
      · have h1 := hSx.1; go_simp <;> with_reducible rfl
      simp only [List.set_cons_zero, List.set_cons_succ]
      refine held_take 18 76 rfl rfl (by kernel_rfl) (by kernel_rfl) (by kernel_rfl) (by rfl) hHeld noPanic_panic (v := ?_) (fun x hSx => ?_) ?_
      rotate_left 1
      · go_simp <;> with_reducible rfl
      simp only [List.set_cons_zero, List.set_cons_succ]
      refine held_take 19 77 rfl rfl (by kernel_rfl) (by kernel_rfl) (by kernel_rfl) (by rfl) hHeld noPanic_panic (v := ?_) (fun x hSx => ?_) ?_
      rotate_left 1
      · go_simp <;> with_reducible rfl
      simp only [List.set_cons_zero, List.set_cons_succ]
      refine held_take 20 6 rfl rfl (by kernel_rfl) (by kernel_rfl) (by kernel_rfl) (by rfl) hHeld noPanic_panic (v := ?_) (fun x hSx => ?_) ?_
      rotate_left 1
      · go_simp <;> with_reducible rfl
      simp only [List.set_cons_zero, List.set_cons_succ]
      refine wpAnyH_done (by kernel_rfl) ?_ _
      refine NoPanic.normal ?_
      go_wp2
      go_ret
      refine ⟨?_, unhide HB5⟩
      first | rfl | simp
    · go_wp2_with fail
      refine (put_ok (w.heap.size + 1) 0 0 true (.slice none 0 0) [] 0 0 w1 (unhide HB1) (by omega) (by omega) (by omega) (by omega) (by simp) (by simp)).mono ?_
      rintro e w2 ⟨rfl, vB, mB, fB, hB, hfB, cB⟩
      have hlB := hB.len
      simp only [List.length_append, bitsOf_length, List.length_nil] at hlB
      have HB := hide hB
      have HCB := hide cB
      clear hB cB hlB HB1
      go_wp2_with fail
      refine (put_ok (w.heap.size + 1) mB fB true vB _ (v : Int) 64 w2 (unhide HB) hfB (by omega) (by omega) (by omega) (by simpa using unhide HV) (by simp [bitsOf_length])).mono ?_
      rintro e w3 ⟨rfl, vC, mC, fC, hC, hfC, cC⟩
      have HQ := hide (both (unhide HA) hfA (unhide HCA) (unhide HCB) hC cC hfC (by simp [bitsOf]))
      clear hC cC HA HCA HCB HB
      obtain ⟨hA3, hC3, hbel⟩ := unhide HQ
      have HA3 := hide hA3
      have HC3 := hide hC3
      have HBL := hide hbel
      clear hA3 hC3 hbel HQ
      go_wp2_with fail
      have hlen : (bitsOf true v 64).length = 64 := bitsOf_length _ _ _
      refine wp_region_noPanic ?_
      refine wp_region_held_drew (S := fun _ => True) (by kernel_rfl) True.intro (fun hHeld => ?_)
      refine held_take 0 58 rfl rfl (by kernel_rfl) (by kernel_rfl) (by kernel_rfl) (by rfl) hHeld noPanic_panic (v := ?_) (fun x hSx => ?_) ?_
      rotate_left 1
      · go_simp <;> with_reducible rfl
      simp only [List.set_cons_zero, List.set_cons_succ]
      refine held_take 1 59 rfl rfl (by kernel_rfl) (by kernel_rfl) (by kernel_rfl) (by rfl) hHeld noPanic_panic (v := ?_) (fun x hSx => ?_) ?_
      rotate_left 1
      · go_simp <;> with_reducible rfl
      simp only [List.set_cons_zero, List.set_cons_succ]
      refine held_take 2 60 rfl rfl (by kernel_rfl) (by kernel_rfl) (by kernel_rfl) (by rfl) hHeld noPanic_panic (v := ?_) (fun x hSx => ?_) ?_
      rotate_left 1
      · go_simp <;> with_reducible rfl
      simp only [List.set_cons_zero, List.set_cons_succ]
      refine held_take 3 61 rfl rfl (by kernel_rfl) (by kernel_rfl) (by kernel_rfl) (by rfl) hHeld noPanic_panic (v := ?_) (fun x hSx => ?_) ?_
      rotate_left 1
      · go_simp <;> with_reducible rfl
      simp only [List.set_cons_zero, List.set_cons_succ]
      refine held_take 4 62 rfl rfl (by kernel_rfl) (by kernel_rfl) (by kernel_rfl) (by rfl) hHeld noPanic_panic (v := ?_) (fun x hSx => ?_) ?_
      rotate_left 1
      · go_simp <;> with_reducible rfl
      simp only [List.set_cons_zero, List.set_cons_succ]
      refine held_take 5 63 rfl rfl (by kernel_rfl) (by kernel_rfl) (by kernel_rfl) (by rfl) hHeld noPanic_panic (v := ?_) (fun x hSx => ?_) ?_
      rotate_left 1
      · go_simp <;> with_reducible rfl
      simp only [List.set_cons_zero, List.set_cons_succ]
      refine held_take 6 64 rfl rfl (by kernel_rfl) (by kernel_rfl) (by kernel_rfl) (by rfl) hHeld noPanic_panic (v := ?_) (fun x hSx => ?_) ?_
      rotate_left 1
      · go_simp <;> with_reducible rfl
      simp only [List.set_cons_zero, List.set_cons_succ]
      refine held_take 7 65 rfl rfl (by kernel_rfl) (by kernel_rfl) (by kernel_rfl) (by rfl) hHeld noPanic_panic (v := ?_) (fun x hSx => ?_) ?_
      rotate_left 1
      · go_simp <;> with_reducible rfl
      simp only [List.set_cons_zero, List.set_cons_succ]
      refine held_enter 8 66 (by kernel_rfl) rfl rfl (by rfl) (by go_simp <;> exact ⟨rfl, rfl⟩) ?_
      refine (len_ok w.heap.size 8 0 true vA (bitsOf true v 64) _ (unhide HA3 _ (by exact ⟨rfl, rfl, rfl, Nat.le_refl _, fun _ _ => rfl⟩)) (by omega) (by omega)).mono ?_
      rintro e w' ⟨rfl, nq, rfl⟩
      refine ⟨_, rfl, True.intro, ?_⟩
      simp only [List.set_cons_zero, List.set_cons_succ]
      refine held_take 9 67 rfl rfl (by kernel_rfl) (by kernel_rfl) (by kernel_rfl) (by rfl) hHeld noPanic_panic (v := ?_) (fun x hSx => ?_) ?_
      rotate_left 1
      · go_simp <;> with_reducible rfl
      simp only [List.set_cons_zero, List.set_cons_succ]
      refine held_take 10 68 rfl rfl (by kernel_rfl) (by kernel_rfl) (by kernel_rfl) (by rfl) hHeld noPanic_panic (v := ?_) (fun x hSx => ?_) ?_
      rotate_left 1
      · go_simp <;> with_reducible rfl
      simp only [List.set_cons_zero, List.set_cons_succ]
      refine held_take 11 69 rfl rfl (by kernel_rfl) (by kernel_rfl) (by kernel_rfl) (by rfl) hHeld noPanic_panic (v := ?_) (fun x hSx => ?_) ?_
      rotate_left 1
      · go_simp <;> with_reducible rfl
      simp only [List.set_cons_zero, List.set_cons_succ]
      refine held_take 12 70 rfl rfl (by kernel_rfl) (by kernel_rfl) (by kernel_rfl) (by rfl) hHeld noPanic_panic (v := ?_) (fun x hSx => ?_) ?_
      rotate_left 1
      · go_simp <;> with_reducible rfl
      simp only [List.set_cons_zero, List.set_cons_succ]
      refine held_take 15 73 rfl rfl (by kernel_rfl) (by kernel_rfl) (by kernel_rfl) (by rfl) hHeld noPanic_panic (v := ?_) (fun x hSx => ?_) ?_
      rotate_left 1
      · go_simp <;> with_reducible rfl
      simp only [List.set_cons_zero, List.set_cons_succ]
      refine held_enter 13 71 (by kernel_rfl) rfl rfl (by rfl) (by go_simp <;> exact ⟨rfl, rfl⟩) ?_
      refine (bytes_ok w.heap.size 8 0 true vA (bitsOf true v 64) _ (unhide HA3 _ (by exact ⟨rfl, rfl, rfl, Nat.le_refl _, fun _ _ => rfl⟩)) (by omega)).mono ?_
      rintro e w4 ⟨rfl, h4, hb4⟩
      have HC4 := hide (convA h4)
      have HB4 : Hid (Below w3.heap.size w3 w4) := hide ⟨hb4.os, hb4.tape, hb4.output, hb4.size, hb4.block⟩
      have H4 := hide h4
      clear h4 hb4
      refine ⟨_, rfl, True.intro, ?_⟩
      simp only [List.set_cons_zero, List.set_cons_succ]
      refine held_switch (S' := (fun x => (convert 26 9 (.slice (some ⟨w3.heap.size, 0, none⟩) 8 8)).run Try.prog x = .ok (.string ⟨((pk true 8 (bitsOf true v 64)).map UInt8.ofNat).toArray⟩) x)) (fun _ _ => True.intro) ?_
      have hHeld := unhide HC4
      refine held_take 14 72 rfl rfl (by kernel_rfl) (by kernel_rfl) (by kernel_rfl) (by rfl) hHeld noPanic_panic (v := ?_) (fun x hSx => ?_) ?_
      rotate_left 1
      · go_simp <;> with_reducible rfl
      simp only [List.set_cons_zero, List.set_cons_succ]
      refine held_enter 16 74 (by kernel_rfl) rfl rfl (by rfl) (by go_simp <;> exact ⟨rfl, rfl⟩) ?_
      refine (bytes_ok (w.heap.size + 1) 8 0 true vC (bitsOf true v 64) w4 (unhide HC3 _ (unhide HB4)) (by omega)).mono ?_
      rintro e w5 ⟨rfl, h5, hb5⟩
      have HC5 := hide (convA h5)
      have HC6 := hide (convA ((hb5.block _ (heap_lt (unhide H4))).trans (unhide H4)))
      have HB5 := hide ((unhide HBL).trans (((unhide HB4).trans (hb5.mono (unhide HB4).size)).mono (unhide HBL).size))
      clear h5 hb5
      refine ⟨_, rfl, unhide HC6, ?_⟩
      simp only [List.set_cons_zero, List.set_cons_succ]
      refine held_switch (S' := (fun x => (convert 26 9 (.slice (some ⟨w4.heap.size, 0, none⟩) 8 8)).run Try.prog x = .ok (.string ⟨((pk true 8 (bitsOf true v 64)).map UInt8.ofNat).toArray⟩) x ∧ (convert 26 9 (.slice (some ⟨w3.heap.size, 0, none⟩) 8 8)).run Try.prog x = .ok (.string ⟨((pk true 8 (bitsOf true v 64)).map UInt8.ofNat).toArray⟩) x)) (fun _ h => h.2) ?_
      have hHeld := And.intro (unhide HC5) (unhide HC6)
      refine held_take 17 75 rfl rfl (by kernel_rfl) (by kernel_rfl) (by kernel_rfl) (by rfl) hHeld noPanic_panic (v := ?_) (fun x hSx => ?_) ?_
      rotate_left 1
      · have h1 := hSx.1; go_simp <;> with_reducible rfl
      simp only [List.set_cons_zero, List.set_cons_succ]
      refine held_take 18 76 rfl rfl (by kernel_rfl) (by kernel_rfl) (by kernel_rfl) (by rfl) hHeld noPanic_panic (v := ?_) (fun x hSx => ?_) ?_
      rotate_left 1
      · go_simp <;> with_reducible rfl
      simp only [List.set_cons_zero, List.set_cons_succ]
      refine held_take 19 77 rfl rfl (by kernel_rfl) (by kernel_rfl) (by kernel_rfl) (by rfl) hHeld noPanic_panic (v := ?_) (fun x hSx => ?_) ?_
      rotate_left 1
      · go_simp <;> with_reducible rfl
      simp only [List.set_cons_zero, List.set_cons_succ]
      refine held_take 20 6 rfl rfl (by kernel_rfl) (by kernel_rfl) (by kernel_rfl) (by rfl) hHeld noPanic_panic (v := ?_) (fun x hSx => ?_) ?_
      rotate_left 1
      · go_simp <;> with_reducible rfl
      simp only [List.set_cons_zero, List.set_cons_succ]
      refine wpAnyH_done (by kernel_rfl) ?_ _
      refine NoPanic.normal ?_
      go_wp2
      go_ret
      refine ⟨?_, unhide HB5⟩
      first | rfl | simp

theorem own : ownKnob Try.prog.godebug = none := by kernel_rfl
theorem laidOut : laidOutB Try.prog = true := by kernel_rfl

set_option maxRecDepth 100000 in
theorem lifted (os : Os) (started : os.Started) (H : Type) (enc : TypeId × Value → H) :
    ReturnsInHanded {} Try.checked os 7 .any (Rows.bitsPartsSpec.pre6 enc Try.prog Try.f7 Rows.bitsPartsRow.domain false) (Rows.bitsPartsSpec.post enc Try.prog Try.f7 false true false false) := by
  refine returnsInHanded_of_change (C := Try.checked) own started (by kernel_rfl) Try.func7
    (ChangeSpec.witness6 (enc := enc) (C := Try.checked) false ⟨#[], #[.bool false, .int .u64 0, .int .i64 0], []⟩ 8 (by kernel_rfl) (by kernel_rfl) (by kernel_rfl) (by kernel_rfl)) ?_
  intro W base args ds gs before hval0 hW hcnd _
  have hval : ∀ (j : Nat) t v, Try.f7.params[j]? = some t → args[j]? = some v → Value.okWide Try.prog W .any base t v := hval0
  have hW' := hW
  obtain ⟨p, q, hA0, hV, rfl, hfz, hnd⟩ := hW
  have hA : DataW.TrodAll enc Try.prog W 0 (fun _ => true) true Try.f7.params.toList args.toList ds p := hA0
  rw [Try.params7] at hA hval
  obtain ⟨v0, vs0, d0, ds0, p0, q0, hargs, rfl, rfl, h0, r0⟩ := trodAll_cons hA
  obtain ⟨v1, vs1, d1, ds1, p1, q1, rfl, rfl, rfl, h1, r1⟩ := trodAll_cons r0
  obtain ⟨v2, vs2, d2, ds2, p2, q2, rfl, rfl, rfl, h2, r2⟩ := trodAll_cons r1
  obtain ⟨rfl, rfl, rfl⟩ := trodAll_nil r2
  obtain rfl : args = #[v0, v1, v2] := by cases args; simp_all
  obtain ⟨rfl, rfl⟩ := trodVars_none hV
  obtain ⟨a0, rfl, rfl, rfl⟩ := open_bool Try.underlying4 (hval 0 4 v0 rfl rfl) h0
  obtain ⟨a1, rfl, rfl, rfl, w1⟩ := open_int Try.underlying30 (hval 1 30 v1 rfl rfl) h1
  obtain ⟨a2, rfl, rfl, rfl, w2⟩ := open_int Try.underlying3 (hval 2 3 v2 rfl rfl) h2
  clear hA0 hval0
  obtain ⟨b1, rfl⟩ := Int.eq_ofNat_of_zero_le (bounds_u64 w1).1
  refine (walk a0 b1 a2 W (by have := (bounds_u64 w1).2; omega)).mono fun e W' ⟨he, bel⟩ => ?_
  subst he
  exact ⟨_, rfl, _, _, _, [], _, [], hW', trodAll_mk1 (shut_bool Try.underlying4 _), (trodAll_cons_mk (shut_bool Try.underlying4 _) (trodAll_cons_mk (shut_int Try.underlying30 w1) (trodAll_cons_mk (shut_int Try.underlying3 w2) trodAll_mk0))), rfl, bel.frame _, fun h => by cases h⟩

theorem proved : Rows.BitsPartsSaid :=
  OpenClaim.holds_of_wide 7 Try.f7 rfl rfl rfl rfl rfl rfl rfl ⟨rfl, rfl, rfl, rfl, rfl⟩ rfl rfl rfl rfl rfl (by kernel_rfl) Try.func7 (by kernel_rfl)
    (of_decide_eq_true (by kernel_rfl)) (by unfold Func.isWrapper; first | (rw [if_pos (by decide +kernel)]; kernel_rfl) | (rw [if_neg (by decide +kernel)]; exact ⟨rfl, rfl⟩))
    (fun os started H enc _ => lifted os started H enc)

end Go.Proofs.Ytcplockmnabccaa.Parts
namespace Go.Proofs.Ytcplockmnabccaa
theorem bitsParts_holds : Rows.BitsPartsSaid := Parts.proved
end Go.Proofs.Ytcplockmnabccaa
