/-
  For every symbol and every list of numbers, hamperlaw04.PrefixNobody returns true, and both read behind the call as they read before; there are no conditions.
-/
import Derived.Test.YtclccccodeekmaaRd
import Derived.ProofKit
import Derived.OpenShut
import Derived.ChangeOld
import Derived.Lib.SmallJoins
namespace Go.Proofs.Ytclccccodeekmaa.Nobody
open Go.ChangeShapes Go.WideShapes Go.ChangeAt Go.RowKit Go.Joins Mth

theorem own : ownKnob Try.prog.godebug = none := by kernel_rfl
theorem laidOut : laidOutB Try.prog = true := by kernel_rfl

/-- A code that no call made. -/
def Bad (w : World) (cv : Value) : Prop := cv = .pointer none ∨ ∃ cb, cv = .pointer (some ⟨cb, 0, none⟩) ∧ w.cell? ⟨cb, 0, none⟩ = some (.bool false)

set_option maxHeartbeats 400000 in
theorem good_no (cv : Value) (w : World) (h : Bad w cv) : Calls Try.prog 34 #[cv] w fun e w' => e = .returned (.bool false) ∧ w' = w := by
  rcases h with rfl | ⟨cb, rfl, hc⟩
  · go_enter Try.func34, Try.ntmps34
    go_wp2
    go_ret
    exact ⟨rfl, rfl⟩
  · go_enter Try.func34, Try.ntmps34
    go_wp2
    go_ret
    exact ⟨rfl, rfl⟩

set_option maxHeartbeats 400000 in
theorem word_no (cv : Value) (s : Int) (w : World) (h : Bad w cv) : Calls Try.prog 14 #[cv, .int .i64 s] w fun e w' => e = .returned (.tuple #[.int .u32 0, .int .i64 0, .int .i64 1]) ∧ w' = w := by
  have H := hide h
  clear h
  go_enter Try.func14, Try.ntmps14
  go_wp2_with (go_at_call 34; refine (good_no cv _ (unhide H)).mono ?_; rintro e w' ⟨rfl, rfl⟩)
  go_ret3
  exact ⟨rfl, rfl⟩

set_option maxHeartbeats 400000 in
theorem get_no (cv r : Value) (w : World) (h : Bad w cv) : Calls Try.prog 23 #[cv, r] w fun e w' => e = .returned (.tuple #[.int .i64 0, .int .i64 1]) ∧ w' = w := by
  have H := hide h
  clear h
  go_enter Try.func23, Try.ntmps23
  go_wp2_with (go_at_call 34; refine (good_no cv _ (unhide H)).mono ?_; rintro e w' ⟨rfl, rfl⟩)
  go_ret2
  exact ⟨rfl, rfl⟩

set_option maxHeartbeats 400000 in
theorem cost_no (cv o : Value) (w : World) (h : Bad w cv) : Calls Try.prog 11 #[cv, o] w fun e w' => e = .returned (.tuple #[.int .i64 0, .int .i64 1]) ∧ w' = w := by
  have H := hide h
  clear h
  go_enter Try.func11, Try.ntmps11
  go_wp2_with (go_at_call 34; refine (good_no cv _ (unhide H)).mono ?_; rintro e w' ⟨rfl, rfl⟩)
  go_ret2
  exact ⟨rfl, rfl⟩

set_option maxHeartbeats 400000 in
theorem symbols_no (cv : Value) (w : World) (h : Bad w cv) : Calls Try.prog 13 #[cv] w fun e w' => e = .returned (.int .i64 0) ∧ w' = w := by
  have H := hide h
  clear h
  go_enter Try.func13, Try.ntmps13
  go_wp2_with (go_at_call 34; refine (good_no cv _ (unhide H)).mono ?_; rintro e w' ⟨rfl, rfl⟩)
  go_ret
  exact ⟨rfl, rfl⟩

set_option maxHeartbeats 1000000 in
theorem fill_zero (pb : Nat) (w : World) : Calls Try.prog 46 #[.pointer (some ⟨pb, 0, none⟩), .int .u64 0, .int .i64 0] w fun e w' => e = .returned (.tuple #[]) ∧ w' = w := by
  go_enter Try.func46, Try.ntmps46
  go_wp2
  go_step3
  go_wp2
  go_step3
  go_wp2
  go_rounds 1
  rw [Exit.noGoto_normal]
  go_end0
  exact ⟨rfl, rfl⟩

set_option maxHeartbeats 1000000 in
theorem put_zero (pb : Nat) (w : World) (h : w.cell? ⟨pb, 0, none⟩ = some (.bool true)) : Calls Try.prog 36 #[.pointer (some ⟨pb, 0, none⟩), .int .u64 0, .int .i64 0] w fun e w' => e = .returned (.int .i64 0) ∧ w' = w := by
  go_enter Try.func36, Try.ntmps36
  go_wp2_with (first | (go_at_call 38; refine (good_yes _ _ (by assumption)).mono ?_; rintro e w' ⟨rfl, rfl⟩) | (go_at_call 46; refine (fill_zero pb _).mono ?_; rintro e w' ⟨rfl, rfl⟩))
  go_ret
  exact ⟨rfl, rfl⟩

set_option maxHeartbeats 1000000 in
theorem put_no (cv : Value) (s : Int) (pb : Nat) (w : World) (h : Bad w cv) (hw : w.cell? ⟨pb, 0, none⟩ = some (.bool true)) :
    Calls Try.prog 17 #[cv, .pointer (some ⟨pb, 0, none⟩), .int .i64 s] w fun e w' => e = .returned (.int .i64 1) ∧ w' = w := by
  have H := hide h
  clear h
  go_enter Try.func17, Try.ntmps17
  go_wp2_with (first | (go_at_call 36; refine (put_zero pb _ (by assumption)).mono ?_; rintro e w' ⟨rfl, rfl⟩) | (go_at_call 14; refine (word_no cv _ _ (unhide H)).mono ?_; rintro e w' ⟨rfl, rfl⟩))
  go_ret
  exact ⟨rfl, rfl⟩

theorem reads12 (w : World) : Reads (w.alloc (.cells #[.int .u8 1, .int .u8 2] 5)) (.slice (some ⟨w.heap.size, 0, none⟩) 2 2) [1, 2] := by
  refine ⟨some ⟨w.heap.size, 0, none⟩, 2, rfl, fun _ => ⟨_, rfl, fun j u hj => ?_⟩⟩
  match j, hj with
  | 0, hj => simp [bv] at hj; subst hj; simp [Addr.add]
  | 1, hj => simp [bv] at hj; subst hj; simp [Addr.add]

set_option maxRecDepth 100000 in
set_option maxHeartbeats 4000000 in
theorem walk (s : Int) (a : Option Addr) (len cap : Nat) (w : World) :
    Calls Try.prog 5 #[.int .i64 s, .slice a len cap] w fun e w' => e = .returned (.bool true) ∧ Below w.heap.size w w' := by
  go_enter Try.func5, Try.ntmps5
  go_wp2_with fail
  refine (new_any true _).mono ?_
  rintro e w' ⟨rfl, rfl⟩
  go_wp2_with fail
  have h12 := reads12 (w.alloc (.cells #[.bool true, .bool true, .slice none 0 0, .int .i64 0] 76))
  rw [show (w.alloc (.cells #[.bool true, .bool true, .slice none 0 0, .int .i64 0] 76)).heap.size = w.heap.size + 1 by simp] at h12
  refine (newReader_ok _ [1, 2] true _ h12 (by simp) (by simp)).mono ?_
  rintro e w1 ⟨rp, rfl, h1, h2, h3⟩
  have HR := hide h2
  have hsz := h3.size
  simp at hsz h1
  have hpblk : w1.heap[w.heap.size]? = some (.cells #[.bool true, .bool true, .slice none 0 0, .int .i64 0] 76 (0, 0)) := by
    rw [h3.block _ (by simp; omega), Below.heap_alloc _ _ _ (by simp)]
    exact heap_alloc_new _ _
  have hpb : w1.cell? ⟨w.heap.size, 0, none⟩ = some (.bool true) := by
    simp [World.cell?, hpblk]
  have HB : Hid (Below w.heap.size w w1) := ((((Below.refl _ _).alloc (Nat.le_refl _) _).alloc (by simp) _).trans (h3.mono (by simp; omega)))
  have hnz : w.heap.size < w1.heap.size := by omega
  clear h1 h2 h3 h12
  go_wp2_with fail
  obtain ⟨b0, hb0⟩ : ∃ b0, b0 = w1.heap.size := ⟨_, rfl⟩
  rw [← hb0]
  generalize hW : (w1.alloc (.cells #[.bool false, .slice none 0 0, .slice none 0 0] 62)).alloc (.cells #[.pointer none, .pointer (some ⟨b0, 0, none⟩)] 25) = W2
  have r1 : W2.heap[b0 + 1]? = some (.cells #[.pointer none, .pointer (some ⟨b0, 0, none⟩)] 25 (0, 0)) := by
    rw [← hW, show b0 + 1 = (w1.alloc (.cells #[.bool false, .slice none 0 0, .slice none 0 0] 62)).heap.size by simp [hb0]]
    exact heap_alloc_new _ _
  have r0 : W2.heap[b0]? = some (.cells #[.bool false, .slice none 0 0, .slice none 0 0] 62 (0, 0)) := by
    rw [← hW, Below.heap_alloc _ _ _ (by simp [hb0]), hb0]
    exact heap_alloc_new _ _
  have p0 : W2.cell? ⟨b0 + 1, 0, none⟩ = some (.pointer none) := by simp [World.cell?, r1]
  have p1 : W2.cell? ⟨b0 + 1, 1, none⟩ = some (.pointer (some ⟨b0, 0, none⟩)) := by simp [World.cell?, r1]
  have q0 : W2.cell? ⟨b0, 0, none⟩ = some (.bool false) := by simp [World.cell?, r0]
  have hb2 : Below w1.heap.size w1 W2 := by rw [← hW]; exact ((Below.refl _ _).alloc (Nat.le_refl _) _).alloc (by simp) _
  replace hpb : W2.cell? ⟨w.heap.size, 0, none⟩ = some (.bool true) := by rw [hb2.cell (by omega)]; exact hpb
  have HB2 : Hid (Below w.heap.size w W2) := (unhide HB).trans (hb2.mono (by omega))
  have hblk : W2.heap[w.heap.size]? = some (.cells #[.bool true, .bool true, .slice none 0 0, .int .i64 0] 76 (0, 0)) := by rw [hb2.block _ (by omega)]; exact hpblk
  have HR2 := hide ((unhide HR).keep (hb2.block _ (unhide HR).lt) (hb2.block _ (heap_lt (unhide HR).row)))
  have HW := hide (show WOk W2 w.heap.size true (.slice none 0 0) 0 [] 0 from ⟨hblk, by simpa [pk] using World.ownsRow_nil _ _ _ _, rfl⟩)
  have B0 : Bad W2 (.pointer none) := .inl rfl
  have B1 : Bad W2 (.pointer (some ⟨b0, 0, none⟩)) := .inr ⟨b0, rfl, q0⟩
  have HB0 := hide B0
  have HB1 := hide B1
  clear hW hb2 HB HR hblk r0 r1 B0 B1 q0 hb0 hnz hsz hpblk
  go_loopg [23] 2 (fun gk d ws => ∃ (k : Nat), gk = 2 - k ∧ k ≤ 2 ∧ d = .int .i64 (k : Int) ∧ ws = W2)
  case atStart => exact ⟨0, rfl, by omega, rfl, rfl⟩
  case round =>
    obtain ⟨k, rfl, hk, rfl, rfl⟩ := hrel
    match k, hk with
    | 0, _ =>
      go_wp2_with (first | (go_at_call 14; refine (word_no _ _ _ (unhide HB0)).mono ?_; rintro e w' ⟨rfl, rfl⟩) | (go_at_call 23; refine (get_no _ _ _ (unhide HB0)).mono ?_; rintro e w' ⟨rfl, rfl⟩) | (go_at_call 11; refine (cost_no _ _ _ (unhide HB0)).mono ?_; rintro e w' ⟨rfl, rfl⟩) | (go_at_call 17; refine (put_no _ _ _ _ (unhide HB0) hpb).mono ?_; rintro e w' ⟨rfl, rfl⟩) | (go_at_call 13; refine (symbols_no _ _ (unhide HB0)).mono ?_; rintro e w' ⟨rfl, rfl⟩))
      go_roundg 1
      case measure => omega
      case rel => exact ⟨1, rfl, by omega, rfl, rfl⟩
    | 1, _ =>
      go_wp2_with (first | (go_at_call 14; refine (word_no _ _ _ (unhide HB1)).mono ?_; rintro e w' ⟨rfl, rfl⟩) | (go_at_call 23; refine (get_no _ _ _ (unhide HB1)).mono ?_; rintro e w' ⟨rfl, rfl⟩) | (go_at_call 11; refine (cost_no _ _ _ (unhide HB1)).mono ?_; rintro e w' ⟨rfl, rfl⟩) | (go_at_call 17; refine (put_no _ _ _ _ (unhide HB1) hpb).mono ?_; rintro e w' ⟨rfl, rfl⟩) | (go_at_call 13; refine (symbols_no _ _ (unhide HB1)).mono ?_; rintro e w' ⟨rfl, rfl⟩))
      go_roundg 0
      case measure => omega
      case rel => exact ⟨2, rfl, by omega, rfl, rfl⟩
    | 2, _ =>
      go_wp2_with (first | (go_at_call 26; refine (len_ok _ _ _ _ _ [] _ (unhide HW) (by simp) (by omega)).mono ?_; rintro e w' ⟨rfl, nq, rfl⟩) | (go_at_call 25; refine (at_ok _ _ _ _ _ _ ((unhide HR2).drewN _)).mono ?_; rintro e w' ⟨rfl, rfl⟩))
      go_ret
      exact ⟨rfl, ⟨(unhide HB2).os, (unhide HB2).tape, (unhide HB2).output, (unhide HB2).size, (unhide HB2).block⟩⟩

set_option maxRecDepth 100000 in
theorem lifted (os : Os) (started : os.Started) (H : Type) (enc : TypeId × Value → H) :
    ReturnsInHanded {} Try.checked os 5 .any (Rows.prefixNobodySpec.pre6 enc Try.prog Try.f5 Rows.prefixNobodyRow.domain false) (Rows.prefixNobodySpec.post enc Try.prog Try.f5 false true false false) := by
  refine returnsInHanded_of_change (C := Try.checked) own started (by kernel_rfl) Try.func5
    (ChangeSpec.witness6 (enc := enc) (C := Try.checked) false ⟨#[], #[.int .i64 0, .slice none 0 0], []⟩ 8 (by kernel_rfl) (by kernel_rfl) (by kernel_rfl) (by kernel_rfl)) ?_
  intro W base args ds gs before hval0 hW hcnd _
  have hval : ∀ (j : Nat) t v, Try.f5.params[j]? = some t → args[j]? = some v → Value.okWide Try.prog W .any base t v := hval0
  have hW' := hW
  obtain ⟨p, q, hA0, hV, rfl, hfz, hnd⟩ := hW
  have hA : DataW.TrodAll enc Try.prog W 0 (fun _ => true) true Try.f5.params.toList args.toList ds p := hA0
  rw [Try.params5] at hA hval
  obtain ⟨v0, vs0, d0, ds0, p0, q0, hargs, rfl, rfl, h0, r0⟩ := trodAll_cons hA
  obtain ⟨v1, vs1, d1, ds1, p1, q1, rfl, rfl, rfl, h1, r1⟩ := trodAll_cons r0
  obtain ⟨rfl, rfl, rfl⟩ := trodAll_nil r1
  obtain rfl : args = #[v0, v1] := by cases args; simp_all
  obtain ⟨rfl, rfl⟩ := trodVars_none hV
  have k0 := h0
  have k1 := h1
  have lt0 : ∀ x ∈ p0, x.block < W.heap.size := by obtain ⟨m, hm⟩ := k0; exact DataW.trod_lt m _ _ _ hm
  have lt1 : ∀ x ∈ p1, x.block < W.heap.size := by obtain ⟨m, hm⟩ := k1; exact DataW.trod_lt m _ _ _ hm
  obtain ⟨s, rfl, rfl, _, _⟩ := open_int Try.underlying3 (hval 0 3 v0 rfl rfl) h0
  obtain ⟨a, l, c, rfl⟩ := okWide_slice Try.underlying22 (hval 1 22 v1 rfl rfl)
  clear hA0 hval0
  refine (walk s a l c W).mono fun e W' ⟨he, bel⟩ => ?_
  subst he
  exact ⟨_, rfl, _, _, _, [], _, [], hW', trodAll_mk1 (shut_bool Try.underlying4 _), (trodAll_cons_mk (Below.trod laidOut (by kernel_rfl) (of_decide_eq_true (by kernel_rfl)) k0 bel lt0) (trodAll_cons_mk (Below.trod laidOut (by kernel_rfl) (of_decide_eq_true (by kernel_rfl)) k1 bel lt1) trodAll_mk0)), rfl, bel.frame _, fun h => by cases h⟩

theorem proved : Rows.PrefixNobodySaid :=
  OpenClaim.holds_of_wide 5 Try.f5 rfl rfl rfl rfl rfl rfl rfl ⟨rfl, rfl, rfl, rfl, rfl⟩ rfl rfl rfl rfl rfl (by kernel_rfl) Try.func5 (by kernel_rfl)
    (of_decide_eq_true (by kernel_rfl)) (by unfold Func.isWrapper; first | (rw [if_pos (by decide +kernel)]; kernel_rfl) | (rw [if_neg (by decide +kernel)]; exact ⟨rfl, rfl⟩))
    (fun os started H enc _ => lifted os started H enc)

end Go.Proofs.Ytclccccodeekmaa.Nobody
namespace Go.Proofs.Ytclccccodeekmaa
theorem prefixNobody_holds : Rows.PrefixNobodySaid := Nobody.proved
end Go.Proofs.Ytclccccodeekmaa
