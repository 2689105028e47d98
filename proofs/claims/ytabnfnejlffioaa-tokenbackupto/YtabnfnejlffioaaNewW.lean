/- newIndex and outgrown, walked. -/
import Derived.Test.YtabnfnejlffioaaNew
namespace Go.Proofs.Ytabnfnejlffioaa
open Go.RowKit Go.Maps
set_option linter.unusedVariables false

attribute [local go_sem ↓] Go.wp_at_zero Go.wp_at_succ

/-- what newIndex makes -/
def NewIs (zs : List Nat) (H W M s0 : Nat) (tx : Value) (w : World) (e : Ending) (w' : World) : Prop :=
  e = .returned (.pointer (some ⟨H, 0, none⟩)) ∧ Below H w w' ∧ (w'.heap[H]? = some (.cells #[tx, .int .i64 (W : Int), .int .i64 (M : Int), .slice none 0 0, .int .i64 0] 54 (0, 0)) ∨
    ∃ (N : Nat) (b : Nat → Nat) (gl lc : Nat), 1 ≤ N ∧ N ≤ 4 ∧ N ≤ lc ∧ (∀ j, j < N → 1 ≤ s0 * 2 ^ j ∧ s0 * 2 ^ j ≤ 8) ∧ s0 * 2 ^ (N - 1) ≤ M ∧ IdxAt zs H N (fun j => s0 * 2 ^ j) b (fun _ => .slice none 0 0) (fun j => cnt zs.length (s0 * 2 ^ j) 0) H gl lc W M 0 tx w')

theorem pow_small {s0 k : Nat} (h1 : 1 ≤ s0) (h : s0 * 2 ^ k ≤ 8) : k ≤ 3 := by
  refine Nat.le_of_not_lt fun hk => ?_
  have h2 : 2 ^ 4 ≤ 2 ^ k := Nat.pow_le_pow_right (by decide) hk
  have h3 : 1 * 2 ^ k ≤ s0 * 2 ^ k := Nat.mul_le_mul_right _ h1
  omega

set_option maxRecDepth 100000 in
set_option maxHeartbeats 4000000 in
theorem new_ok (zs : List Nat) (a : Option Addr) (L cap p W least M : Nat) (w : World) (hl : L ≤ 100000000) (hp : p ≤ L) (h1 : 1 ≤ least) (hlM : least ≤ M) (hM : M ≤ 9223372036854775807) :
    Calls Try.prog 20 #[.slice a L cap, .int .i64 (p : Int), .int .i64 (W : Int), .int .i64 (least : Int), .int .i64 (M : Int)] w fun e w' => NewIs zs w.heap.size W M (min least 8) (.slice a L cap) w e w' := by
  obtain ⟨H, hH⟩ : ∃ H, H = w.heap.size := ⟨_, rfl⟩
  rw [← hH]
  obtain ⟨s0, hs0⟩ : ∃ s0, s0 = min least 8 := ⟨_, rfl⟩
  obtain ⟨mm, hmm⟩ : ∃ mm, mm = min M 8 := ⟨_, rfl⟩
  rw [← hs0]
  have n1 := run_min_nat (A := (least : Int)) (B := (8 : Int)) rfl rfl hs0
  have n2 := run_min_nat (A := (M : Int)) (B := (8 : Int)) rfl rfl hmm
  have hs1 : 1 ≤ s0 := by omega
  have hsm : s0 ≤ mm := by omega
  have hm8 : mm ≤ 8 := by omega
  have hmM : mm ≤ M := by omega
  obtain ⟨W0, hW0⟩ : ∃ W0, W0 = w.alloc (.cells #[.slice a L cap, .int .i64 (W : Int), .int .i64 (M : Int), .slice none 0 0, .int .i64 0] 54) := ⟨_, rfl⟩
  have HN0 : Hid (NewAt H W M s0 0 (.slice a L cap) (fun _ => 0) (.slice none 0 0) w W0) := hide ⟨by rw [hW0, hH]; exact heap_alloc_new _ _, World.ownsRow_nil _ _ _ _, fun j hj => by omega, fun i j hi => by omega, fun j hj => by omega, by rw [hW0, hH]; exact (Below.refl _ _).alloc (Nat.le_refl _) _⟩
  have hmk := @run_makeMap Try.prog
  obtain ⟨i0, hii, hz0, hz1, hz2⟩ := info_parts info65
  have HHW := hide hH
  clear hs0 hmm hH
  by_cases hfew : L - p ≤ 512
  · have hfi : (L : Int) - (p : Int) ≤ 512 := by omega
    clear hmk
    go_enter Try.func20, Try.ntmps20
    go_wp2_with fail
    rw [← hW0, ← unhide HHW]
    go_ret
    exact ⟨rfl, (unhide HN0).bel, .inl (unhide HN0).xb⟩
  · have hfi : ¬ (L : Int) - (p : Int) ≤ 512 := by omega
    go_enter Try.func20, Try.ntmps20
    go_wp2_with fail
    rw [← hW0, ← unhide HHW]
    go_loopg [12] (40 - s0) (fun gk d ws => ∃ (k z : Nat) (b : Nat → Nat) (v : Value), gk = 40 - z ∧ d = .int .i64 (z : Int) ∧ 1 ≤ z ∧ z ≤ 16 ∧ Hid (z = s0 * 2 ^ k) ∧ Hid (∀ j, j < k → s0 * 2 ^ j ≤ mm) ∧ NewAt H W M s0 k (.slice a L cap) b v w ws)
    case atStart => exact ⟨0, s0, _, _, rfl, rfl, hs1, by omega, hide (by simp), hide (fun j hj => by omega), unhide HN0⟩
    case round =>
      obtain ⟨k, z, b, v, rfl, rfl, hz1', hz16, HZ, HSM, hat⟩ := hrel
      clear HN0 hW0
      by_cases hzm : z ≤ mm
      · have hzi : (z : Int) ≤ (mm : Int) := by omega
        have c3 := hat.x3
        have f3 := hat.f3
        have hHs : H < wr.heap.size := heap_lt hat.xb
        have hk3 : k ≤ 3 := pow_small hs1 (by rw [← unhide HZ]; omega)
        have HROW := hide ((hat.row.alloc (.map #[] 0)).alloc (.cells #[.int .i64 (z : Int), .map (some wr.heap.size), .slice none 0 0] 65))
        have HNEW : Hid (∀ (j : Nat) u, [Value.int .i64 (z : Int), .map (some wr.heap.size), .slice none 0 0][j]? = some u → ((wr.alloc (.map #[] 0)).alloc (.cells #[.int .i64 (z : Int), .map (some wr.heap.size), .slice none 0 0] 65)).cell? ((⟨wr.heap.size + 1, 0, none⟩ : Addr).add j) = some u) := hide fun j u hj => by
          have ea : (⟨wr.heap.size + 1, 0, none⟩ : Addr).add j = ⟨wr.heap.size + 1, j, none⟩ := by by_cases hq : j = 0 <;> simp [Addr.add, hq]
          rw [ea]
          simp only [World.cell?]
          rw [heap_alloc_at, if_pos (by simp)]
          simpa using hj
        have HNX : Hid (∀ v' w2, w2.ownsRow (H + 1) 65 3 v' (k + 1) (lcs s0 b k ++ [.int .i64 (z : Int), .map (some wr.heap.size), .slice none 0 0]) → ((wr.alloc (.map #[] 0)).alloc (.cells #[.int .i64 (z : Int), .map (some wr.heap.size), .slice none 0 0] 65)).grownBy w2 v.ownBlock → NewAt H W M s0 (k + 1) (.slice a L cap) (upf b k wr.heap.size) v' w (w2.setCell ⟨H, 3, none⟩ v') ∧ (∃ u, w2.cell? ⟨H, 3, none⟩ = some u) ∧ w2.frozen? ⟨H, 3, none⟩ = false ∧ ∃ va vn vc, v' = .slice va vn vc) := hide fun v' w2 h2 h3 => by
          have h4 := hat.next (v' := v') (w2 := w2) hHs (by rw [← unhide HZ]; exact h2) (by rw [← unhide HZ]; exact h3)
          have hvH : v.ownBlock ≠ some H := fun e => by have := (row_ty hat.row e).1; omega
          have hxb2 : w2.heap[H]? = some (.cells #[.slice a L cap, .int .i64 (W : Int), .int .i64 (M : Int), v, .int .i64 0] 54 (0, 0)) := by
            rw [h3.block H (by simp; omega) (fun e => hvH e.symm), Below.heap_alloc _ _ _ (by simp; omega), Below.heap_alloc _ _ _ hHs]
            exact hat.xb
          refine ⟨h4, ⟨v, by simp [World.cell?, hxb2]⟩, by simp [World.frozen?, hxb2], ?_⟩
          rcases h2.2 with ⟨e, _⟩ | ⟨g, cp, cur, e, _⟩
          · exact ⟨_, _, _, e⟩
          · exact ⟨_, _, _, e⟩
        have HZ2 : Hid (2 * z = s0 * 2 ^ (k + 1)) := hide (by rw [unhide HZ, Nat.pow_succ, Nat.mul_comm 2, Nat.mul_assoc])
        have HSM2 : Hid (∀ j, j < k + 1 → s0 * 2 ^ j ≤ mm) := hide fun j hj => by
          by_cases e : j = k
          · rw [e, ← unhide HZ]; exact hzm
          · exact unhide HSM j (by omega)
        obtain ⟨z2, hz2'⟩ : ∃ z2 : Nat, (z : Int) * 2 = (z2 : Int) := ⟨2 * z, by omega⟩
        have hwz : IntKind.i64.wrap (z2 : Int) = (z2 : Int) := IntWalk.i64_in _ (by omega)
        obtain ⟨va, vn, vc, hvv⟩ : ∃ va vn vc, v = .slice va vn vc := by
          rcases hat.row.2 with ⟨e, _⟩ | ⟨g, cp, cur, e, _⟩
          · exact ⟨_, _, _, e⟩
          · exact ⟨_, _, _, e⟩
        clear hat HZ HSM
        subst hvv
        go_upto_region 7 with fail
        go_wp2_with (at_builtin; go_must (refine wpList_append_own _ rfl _ _ 52 rfl (H + 1) 65 i0 _ 3 40 Try.underlying52 hii hz0 hz1 hz2 rfl (by decide) (.slice va vn vc) k (lcs s0 b k) (by rfl) (unhide HROW) ⟨wr.heap.size + 1, 0, none⟩ 1 1 [.int .i64 (z : Int), .map (some wr.heap.size), .slice none 0 0] (by rfl) rfl (unhide HNEW) (by intro u hu; simp at hu; rcases hu with rfl | rfl | rfl <;> rfl) (by unfold maxLen; omega) (by omega) (by simp; omega) ?_; intro v' w2 hown hgrow hnil; obtain ⟨hx1, ⟨u, hx2⟩, hx3, va', vn', vc', hv'⟩ := unhide HNX _ _ hown hgrow; subst hv'; have HX1 := hide hx1; clear hown hgrow hnil hx1 HNX HROW HNEW))
        go_roundg (40 - z2)
        case measure => omega
        case rel => exact ⟨k + 1, z2, _, _, rfl, rfl, by omega, by omega, hide (by rw [← unhide HZ2]; omega), HSM2, unhide HX1⟩
      · have hzi : ¬ (z : Int) ≤ (mm : Int) := by omega
        have hk1 : 1 ≤ k := by
          rcases Nat.eq_zero_or_pos k with h | h
          · have := unhide HZ
            rw [h] at this
            simp at this
            omega
          · exact h
        have HE : Hid (NewIs zs H W M s0 (.slice a L cap) w (.returned (.pointer (some ⟨H, 0, none⟩))) wr) := hide (by
          obtain ⟨gl, lc, hlc, _, hix⟩ := hat.idx (zs := zs) hk1
          refine ⟨rfl, hat.bel, .inr ⟨k, b, gl, lc, hk1, ?_, hlc, fun j hj => ⟨?_, ?_⟩, ?_, hix⟩⟩
          · have h3 := unhide HSM (k - 1) (by omega)
            have := pow_small hs1 (show s0 * 2 ^ (k - 1) ≤ 8 by omega)
            omega
          · have : 0 < 2 ^ j := Nat.two_pow_pos j
            exact Nat.mul_pos hs1 this
          · have := unhide HSM j hj; omega
          · have := unhide HSM (k - 1) (by omega); omega)
        clear hat HZ HSM
        go_wp2_with fail
        go_ret
        exact unhide HE

theorem run_max_nat {a b x : Nat} {A B : Int} (hA : A = (a : Int)) (hB : B = (b : Int)) (h : x = max a b) (w : World) : (Builtin.max_ #[3, 3] 3 #[.int .i64 A, .int .i64 B]).run Try.prog w = .ok (.int .i64 (x : Int)) w := by
  rw [run_max_int2, hA, hB]
  congr 2
  split <;> omega

def OutIs (W p : Nat) (w : World) (e : Ending) (w' : World) : Prop := (e = .returned (.bool true) ∧ W < p ∨ e = .returned (.bool false)) ∧ w' = w.drew

set_option maxRecDepth 100000 in
set_option maxHeartbeats 1000000 in
/-- outgrown -/
theorem out_ok (gx p W : Nat) (w : World) (hp : p ≤ 100000000) (hW : W ≤ 9223372036854775807) (c1 : w.cell? ⟨gx, 1, none⟩ = some (.int .i64 (W : Int))) :
    Calls Try.prog 21 #[.pointer (some ⟨gx, 0, none⟩), .int .i64 (p : Int)] w fun e w' => OutIs W p w e w' := by
  obtain ⟨x, hx⟩ : ∃ x, x = max W 65536 := ⟨_, rfl⟩
  have m1 := run_max_nat (A := (W : Int)) (B := (65536 : Int)) rfl rfl hx
  obtain ⟨df, hdf⟩ : ∃ df : Int, (p : Int) - (W : Int) = df := ⟨_, rfl⟩
  have hwd : IntKind.i64.wrap df = df := IntWalk.i64_in _ (by omega)
  by_cases hlt : (x : Int) < df
  · have HE : Hid (OutIs W p w (.returned (.bool true)) w.drew) := hide ⟨.inl ⟨rfl, by omega⟩, rfl⟩
    clear hx
    go_enter Try.func21, Try.ntmps21
    go_upto_region 1 with fail
    refine wp_region_noPanic ?_
    refine wp_region_held_drew (S := fun y => y.cell? ⟨gx, 1, none⟩ = some (.int .i64 (W : Int))) (by kernel_rfl) c1 (fun hHeld => ?_)
    refine held_take 0 5 rfl rfl (by kernel_rfl) (by kernel_rfl) (by kernel_rfl) (by rfl) hHeld noPanic_panic (v := ?_) (fun x' hSx => ?_) ?_
    rotate_left 1
    · go_simp <;> with_reducible rfl
    simp only [List.set_cons_zero, List.set_cons_succ]
    refine held_take 1 6 rfl rfl (by kernel_rfl) (by kernel_rfl) (by kernel_rfl) (by rfl) hHeld noPanic_panic (v := ?_) (fun x' hSx => ?_) ?_
    rotate_left 1
    · go_simp <;> with_reducible rfl
    simp only [List.set_cons_zero, List.set_cons_succ]
    refine held_take 2 7 rfl rfl (by kernel_rfl) (by kernel_rfl) (by kernel_rfl) (by rfl) hHeld noPanic_panic (v := ?_) (fun x' hSx => ?_) ?_
    rotate_left 1
    · go_simp <;> with_reducible rfl
    simp only [List.set_cons_zero, List.set_cons_succ]
    refine held_take 3 8 rfl rfl (by kernel_rfl) (by kernel_rfl) (by kernel_rfl) (by rfl) hHeld noPanic_panic (v := ?_) (fun x' hSx => ?_) ?_
    rotate_left 1
    · go_simp <;> with_reducible rfl
    simp only [List.set_cons_zero, List.set_cons_succ]
    refine held_take 4 9 rfl rfl (by kernel_rfl) (by kernel_rfl) (by kernel_rfl) (by rfl) hHeld noPanic_panic (v := ?_) (fun x' hSx => ?_) ?_
    rotate_left 1
    · go_simp <;> with_reducible rfl
    simp only [List.set_cons_zero, List.set_cons_succ]
    refine held_take 5 10 rfl rfl (by kernel_rfl) (by kernel_rfl) (by kernel_rfl) (by rfl) hHeld noPanic_panic (v := ?_) (fun x' hSx => ?_) ?_
    rotate_left 1
    · go_simp <;> with_reducible rfl
    simp only [List.set_cons_zero, List.set_cons_succ]
    refine held_take 6 11 rfl rfl (by kernel_rfl) (by kernel_rfl) (by kernel_rfl) (by rfl) hHeld noPanic_panic (v := ?_) (fun x' hSx => ?_) ?_
    rotate_left 1
    · go_simp <;> with_reducible rfl
    simp only [List.set_cons_zero, List.set_cons_succ]
    refine held_take 7 12 rfl rfl (by kernel_rfl) (by kernel_rfl) (by kernel_rfl) (by rfl) hHeld noPanic_panic (v := ?_) (fun x' hSx => ?_) ?_
    rotate_left 1
    · go_simp <;> with_reducible rfl
    simp only [List.set_cons_zero, List.set_cons_succ]
    refine held_take 8 13 rfl rfl (by kernel_rfl) (by kernel_rfl) (by kernel_rfl) (by rfl) hHeld noPanic_panic (v := ?_) (fun x' hSx => ?_) ?_
    rotate_left 1
    · go_simp <;> with_reducible rfl
    simp only [List.set_cons_zero, List.set_cons_succ]
    refine held_take 9 14 rfl rfl (by kernel_rfl) (by kernel_rfl) (by kernel_rfl) (by rfl) hHeld noPanic_panic (v := ?_) (fun x' hSx => ?_) ?_
    rotate_left 1
    · go_simp <;> with_reducible rfl
    simp only [List.set_cons_zero, List.set_cons_succ]
    refine held_take 10 15 rfl rfl (by kernel_rfl) (by kernel_rfl) (by kernel_rfl) (by rfl) hHeld noPanic_panic (v := ?_) (fun x' hSx => ?_) ?_
    rotate_left 1
    · go_simp <;> with_reducible rfl
    simp only [List.set_cons_zero, List.set_cons_succ]
    refine held_take 11 16 rfl rfl (by kernel_rfl) (by kernel_rfl) (by kernel_rfl) (by rfl) hHeld noPanic_panic (v := ?_) (fun x' hSx => ?_) ?_
    rotate_left 1
    · go_simp <;> with_reducible rfl
    simp only [List.set_cons_zero, List.set_cons_succ]
    refine held_take 12 4 rfl rfl (by kernel_rfl) (by kernel_rfl) (by kernel_rfl) (by rfl) hHeld noPanic_panic (v := ?_) (fun x' hSx => ?_) ?_
    rotate_left 1
    · go_simp <;> with_reducible rfl
    simp only [List.set_cons_zero, List.set_cons_succ]
    refine wpAnyH_done (by kernel_rfl) ?_ _
    refine NoPanic.normal ?_
    go_wp2_with fail
    go_ret
    exact unhide HE
  · have HE : Hid (OutIs W p w (.returned (.bool false)) w.drew) := hide ⟨.inr rfl, rfl⟩
    clear hx
    go_enter Try.func21, Try.ntmps21
    go_upto_region 1 with fail
    refine wp_region_noPanic ?_
    refine wp_region_held_drew (S := fun y => y.cell? ⟨gx, 1, none⟩ = some (.int .i64 (W : Int))) (by kernel_rfl) c1 (fun hHeld => ?_)
    refine held_take 0 5 rfl rfl (by kernel_rfl) (by kernel_rfl) (by kernel_rfl) (by rfl) hHeld noPanic_panic (v := ?_) (fun x' hSx => ?_) ?_
    rotate_left 1
    · go_simp <;> with_reducible rfl
    simp only [List.set_cons_zero, List.set_cons_succ]
    refine held_take 1 6 rfl rfl (by kernel_rfl) (by kernel_rfl) (by kernel_rfl) (by rfl) hHeld noPanic_panic (v := ?_) (fun x' hSx => ?_) ?_
    rotate_left 1
    · go_simp <;> with_reducible rfl
    simp only [List.set_cons_zero, List.set_cons_succ]
    refine held_take 2 7 rfl rfl (by kernel_rfl) (by kernel_rfl) (by kernel_rfl) (by rfl) hHeld noPanic_panic (v := ?_) (fun x' hSx => ?_) ?_
    rotate_left 1
    · go_simp <;> with_reducible rfl
    simp only [List.set_cons_zero, List.set_cons_succ]
    refine held_take 3 8 rfl rfl (by kernel_rfl) (by kernel_rfl) (by kernel_rfl) (by rfl) hHeld noPanic_panic (v := ?_) (fun x' hSx => ?_) ?_
    rotate_left 1
    · go_simp <;> with_reducible rfl
    simp only [List.set_cons_zero, List.set_cons_succ]
    refine held_take 4 9 rfl rfl (by kernel_rfl) (by kernel_rfl) (by kernel_rfl) (by rfl) hHeld noPanic_panic (v := ?_) (fun x' hSx => ?_) ?_
    rotate_left 1
    · go_simp <;> with_reducible rfl
    simp only [List.set_cons_zero, List.set_cons_succ]
    refine held_take 5 10 rfl rfl (by kernel_rfl) (by kernel_rfl) (by kernel_rfl) (by rfl) hHeld noPanic_panic (v := ?_) (fun x' hSx => ?_) ?_
    rotate_left 1
    · go_simp <;> with_reducible rfl
    simp only [List.set_cons_zero, List.set_cons_succ]
    refine held_take 6 11 rfl rfl (by kernel_rfl) (by kernel_rfl) (by kernel_rfl) (by rfl) hHeld noPanic_panic (v := ?_) (fun x' hSx => ?_) ?_
    rotate_left 1
    · go_simp <;> with_reducible rfl
    simp only [List.set_cons_zero, List.set_cons_succ]
    refine held_take 7 12 rfl rfl (by kernel_rfl) (by kernel_rfl) (by kernel_rfl) (by rfl) hHeld noPanic_panic (v := ?_) (fun x' hSx => ?_) ?_
    rotate_left 1
    · go_simp <;> with_reducible rfl
    simp only [List.set_cons_zero, List.set_cons_succ]
    refine held_take 8 13 rfl rfl (by kernel_rfl) (by kernel_rfl) (by kernel_rfl) (by rfl) hHeld noPanic_panic (v := ?_) (fun x' hSx => ?_) ?_
    rotate_left 1
    · go_simp <;> with_reducible rfl
    simp only [List.set_cons_zero, List.set_cons_succ]
    refine held_take 9 14 rfl rfl (by kernel_rfl) (by kernel_rfl) (by kernel_rfl) (by rfl) hHeld noPanic_panic (v := ?_) (fun x' hSx => ?_) ?_
    rotate_left 1
    · go_simp <;> with_reducible rfl
    simp only [List.set_cons_zero, List.set_cons_succ]
    refine held_take 10 15 rfl rfl (by kernel_rfl) (by kernel_rfl) (by kernel_rfl) (by rfl) hHeld noPanic_panic (v := ?_) (fun x' hSx => ?_) ?_
    rotate_left 1
    · go_simp <;> with_reducible rfl
    simp only [List.set_cons_zero, List.set_cons_succ]
    refine held_take 11 16 rfl rfl (by kernel_rfl) (by kernel_rfl) (by kernel_rfl) (by rfl) hHeld noPanic_panic (v := ?_) (fun x' hSx => ?_) ?_
    rotate_left 1
    · go_simp <;> with_reducible rfl
    simp only [List.set_cons_zero, List.set_cons_succ]
    refine held_take 12 4 rfl rfl (by kernel_rfl) (by kernel_rfl) (by kernel_rfl) (by rfl) hHeld noPanic_panic (v := ?_) (fun x' hSx => ?_) ?_
    rotate_left 1
    · go_simp <;> with_reducible rfl
    simp only [List.set_cons_zero, List.set_cons_succ]
    refine wpAnyH_done (by kernel_rfl) ?_ _
    refine NoPanic.normal ?_
    go_wp2_with fail
    go_ret
    exact unhide HE

end Go.Proofs.Ytabnfnejlffioaa
