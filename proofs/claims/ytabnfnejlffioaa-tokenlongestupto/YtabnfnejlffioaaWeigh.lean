/- walk's closure: one place weighed. -/
import Derived.Test.YtabnfnejlffioaaFillW
import Derived.Test.YtabnfnejlffioaaMatch
namespace Go.Proofs.Ytabnfnejlffioaa
open Go.RowKit Go.Maps
set_option linter.unusedVariables false

attribute [local go_sem ↓] Go.wp_at_zero Go.wp_at_succ

theorem IsCommon.eq' {xs ys : List Nat} {n m : Nat} (h : IsCommon xs ys n) (k : IsCommon xs ys m) : n = m := by
  have key : ∀ {a b : Nat}, IsCommon xs ys a → IsCommon xs ys b → ¬ a < b := fun {a b} ha hb hlt => ha.ne (by have := hb.l1; omega) (by have := hb.l2; omega) (hb.eq a hlt)
  have h1 := key h k
  have h2 := key k h
  omega

theorem IsCommon.has : ∀ xs ys : List Nat, ∃ n, IsCommon xs ys n
  | [], ys => ⟨0, by simp, by simp, fun i h => by omega, fun h => by simp at h⟩
  | x :: xs, [] => ⟨0, by simp, by simp, fun i h => by omega, fun _ h => by simp at h⟩
  | x :: xs, y :: ys => by
    by_cases e : x = y
    · obtain ⟨n, h1, h2, h3, h4⟩ := IsCommon.has xs ys
      refine ⟨n + 1, by simp; omega, by simp; omega, fun i hi => ?_, fun k1 k2 => ?_⟩
      · match i, hi with
        | 0, _ => simpa using e
        | i + 1, hi => simpa using h3 i (by omega)
      · simpa using h4 (by simpa using k1) (by simpa using k2)
    · exact ⟨0, by simp, by simp, fun i h => by omega, fun _ _ => by simpa using e⟩

theorem common_det (xs ys : List Nat) (v u : Value) (B B' : Nat) (w : World) (h1 : ReadsU B w v xs) (h2 : ReadsU B' w u ys) (hl : xs.length ≤ 140737488355328) :
    ∃ c : Nat, IsCommon xs ys c ∧ ∀ q, Calls Try.prog 28 #[v, u] (w.drewN q) fun e w' => e = .returned (.int .i64 (c : Int)) ∧ ∃ m, w' = w.drewN m := by
  obtain ⟨c, hc⟩ := IsCommon.has xs ys
  refine ⟨c, hc, fun q => (common_ok xs ys v u B B' (w.drewN q) (h1.drewN q) (h2.drewN q) hl).mono ?_⟩
  rintro e w' ⟨n, rfl, hn, q', rfl⟩
  obtain rfl := hn.eq' hc
  exact ⟨rfl, q + q', by rw [World.drewN_drewN]⟩

/-- the variables that the closure holds -/
structure WB (H : Nat) (tx pc : Value) (p M : Nat) (left : Int) (n d : Nat) (w : World) : Prop where
  b1 : w.heap[H + 1]? = some (.cells #[.int .i64 (p : Int)] 3 (0, 0))
  b2 : w.heap[H + 2]? = some (.cells #[.int .i64 (M : Int)] 3 (0, 0))
  b3 : w.heap[H + 3]? = some (.cells #[.int .i64 (n : Int)] 3 (0, 0))
  b4 : w.heap[H + 4]? = some (.cells #[.int .i64 (d : Int)] 3 (0, 0))
  b5 : w.heap[H + 5]? = some (.cells #[tx] 22 (0, 0))
  b6 : w.heap[H + 6]? = some (.cells #[pc] 22 (0, 0))
  b7 : w.heap[H + 7]? = some (.cells #[.int .i64 left] 3 (0, 0))

section
variable {H : Nat} {tx pc : Value} {p M : Nat} {left : Int} {n d : Nat} {w : World}
theorem WB.c1 (h : WB H tx pc p M left n d w) : w.cell? ⟨H + 1, 0, none⟩ = some (.int .i64 (p : Int)) := by simp [World.cell?, h.b1]
theorem WB.c2 (h : WB H tx pc p M left n d w) : w.cell? ⟨H + 2, 0, none⟩ = some (.int .i64 (M : Int)) := by simp [World.cell?, h.b2]
theorem WB.c3 (h : WB H tx pc p M left n d w) : w.cell? ⟨H + 3, 0, none⟩ = some (.int .i64 (n : Int)) := by simp [World.cell?, h.b3]
theorem WB.c4 (h : WB H tx pc p M left n d w) : w.cell? ⟨H + 4, 0, none⟩ = some (.int .i64 (d : Int)) := by simp [World.cell?, h.b4]
theorem WB.c5 (h : WB H tx pc p M left n d w) : w.cell? ⟨H + 5, 0, none⟩ = some tx := by simp [World.cell?, h.b5]
theorem WB.c6 (h : WB H tx pc p M left n d w) : w.cell? ⟨H + 6, 0, none⟩ = some pc := by simp [World.cell?, h.b6]
theorem WB.c7 (h : WB H tx pc p M left n d w) : w.cell? ⟨H + 7, 0, none⟩ = some (.int .i64 left) := by simp [World.cell?, h.b7]
theorem WB.f3 (h : WB H tx pc p M left n d w) : w.frozen? ⟨H + 3, 0, none⟩ = false := by simp [World.frozen?, h.b3]
theorem WB.f4 (h : WB H tx pc p M left n d w) : w.frozen? ⟨H + 4, 0, none⟩ = false := by simp [World.frozen?, h.b4]
theorem WB.f7 (h : WB H tx pc p M left n d w) : w.frozen? ⟨H + 7, 0, none⟩ = false := by simp [World.frozen?, h.b7]

theorem WB.same {y : World} (h : WB H tx pc p M left n d w) (e : y.heap = w.heap) : WB H tx pc p M left n d y := by
  obtain ⟨h1, h2, h3, h4, h5, h6, h7⟩ := h
  rw [← e] at h1 h2 h3 h4 h5 h6 h7
  exact ⟨h1, h2, h3, h4, h5, h6, h7⟩

theorem WB.left' (h : WB H tx pc p M left n d w) (l : Int) : WB H tx pc p M l n d (w.setCell ⟨H + 7, 0, none⟩ (.int .i64 l)) := by
  have o : ∀ k, k ≠ H + 7 → (w.setCell ⟨H + 7, 0, none⟩ (.int .i64 l)).heap[k]? = w.heap[k]? := fun k hk => heap_setCell_other _ _ _ _ (by exact hk)
  exact ⟨by rw [o _ (by omega)]; exact h.b1, by rw [o _ (by omega)]; exact h.b2, by rw [o _ (by omega)]; exact h.b3, by rw [o _ (by omega)]; exact h.b4, by rw [o _ (by omega)]; exact h.b5, by rw [o _ (by omega)]; exact h.b6, by rw [heap_setCell_same w (H + 7) 0 _ 3 _ h.b7]; rfl⟩

theorem WB.len' (h : WB H tx pc p M left n d w) (l : Nat) : WB H tx pc p M left l d (w.setCell ⟨H + 3, 0, none⟩ (.int .i64 (l : Int))) := by
  have o : ∀ k, k ≠ H + 3 → (w.setCell ⟨H + 3, 0, none⟩ (.int .i64 (l : Int))).heap[k]? = w.heap[k]? := fun k hk => heap_setCell_other _ _ _ _ (by exact hk)
  exact ⟨by rw [o _ (by omega)]; exact h.b1, by rw [o _ (by omega)]; exact h.b2, by rw [heap_setCell_same w (H + 3) 0 _ 3 _ h.b3]; rfl, by rw [o _ (by omega)]; exact h.b4, by rw [o _ (by omega)]; exact h.b5, by rw [o _ (by omega)]; exact h.b6, by rw [o _ (by omega)]; exact h.b7⟩

theorem WB.dist' (h : WB H tx pc p M left n d w) (l : Nat) : WB H tx pc p M left n l (w.setCell ⟨H + 4, 0, none⟩ (.int .i64 (l : Int))) := by
  have o : ∀ k, k ≠ H + 4 → (w.setCell ⟨H + 4, 0, none⟩ (.int .i64 (l : Int))).heap[k]? = w.heap[k]? := fun k hk => heap_setCell_other _ _ _ _ (by exact hk)
  exact ⟨by rw [o _ (by omega)]; exact h.b1, by rw [o _ (by omega)]; exact h.b2, by rw [o _ (by omega)]; exact h.b3, by rw [heap_setCell_same w (H + 4) 0 _ 3 _ h.b4]; rfl, by rw [o _ (by omega)]; exact h.b5, by rw [o _ (by omega)]; exact h.b6, by rw [o _ (by omega)]; exact h.b7⟩
end

/-- all but the closure's three variables stay -/
structure WKeep (H : Nat) (w w' : World) : Prop where
  os : w'.os = w.os
  tape : w'.tape = w.tape
  output : w'.output = w.output
  size : w.heap.size ≤ w'.heap.size
  kp : ∀ x : Nat, x < w.heap.size → x ≠ H + 3 → x ≠ H + 4 → x ≠ H + 7 → w'.heap[x]? = w.heap[x]?

theorem WKeep.refl (H : Nat) (w : World) : WKeep H w w := ⟨rfl, rfl, rfl, Nat.le_refl _, fun _ _ _ _ _ => rfl⟩
theorem WKeep.trans {H : Nat} {x y z : World} (h : WKeep H x y) (k : WKeep H y z) : WKeep H x z :=
  ⟨k.os.trans h.os, k.tape.trans h.tape, k.output.trans h.output, Nat.le_trans h.size k.size, fun i hi e1 e2 e3 => by rw [k.kp i (by have := h.size; omega) e1 e2 e3, h.kp i hi e1 e2 e3]⟩
theorem WKeep.drewN {H : Nat} {x y : World} (h : WKeep H x y) (q : Nat) : WKeep H x (y.drewN q) := ⟨h.os, h.tape, h.output, h.size, h.kp⟩
theorem WKeep.drew {H : Nat} {x y : World} (h : WKeep H x y) : WKeep H x y.drew := ⟨h.os, h.tape, h.output, h.size, h.kp⟩
theorem WKeep.set {H : Nat} {x y : World} (h : WKeep H x y) {k : Nat} (hk : k = H + 3 ∨ k = H + 4 ∨ k = H + 7) (u : Value) : WKeep H x (y.setCell ⟨k, 0, none⟩ u) :=
  ⟨h.os, h.tape, h.output, by simpa using h.size, fun i hi e1 e2 e3 => by rw [heap_setCell_other _ _ _ _ (by show i ≠ k; omega), h.kp i hi e1 e2 e3]⟩

/-- what weighing a place tells -/
def Weighed (zs : List Nat) (p M x n d : Nat) (left : Int) (n' d' : Nat) (left' : Int) : Prop :=
  (zs.getD (x + n) 0 ≠ zs.getD (p + n) 0 ∧ n' = n ∧ d' = d ∧ left' = left - 1) ∨
  (zs.getD (x + n) 0 = zs.getD (p + n) 0 ∧ ∃ c : Nat, IsCommon (zs.drop x) ((zs.drop p).take M) c ∧ left' = left - 1 - c ∧ ((n < c ∧ n' = c ∧ d' = p - x) ∨ (c ≤ n ∧ n' = n ∧ d' = d)))

def WeighIs (zs : List Nat) (H : Nat) (tx pc : Value) (p M x n d : Nat) (left : Int) (w : World) (e : Ending) (w' : World) : Prop :=
  ∃ (r : Bool) (n' d' : Nat) (left' : Int), e = .returned (.bool r) ∧ WB H tx pc p M left' n' d' w' ∧ Weighed zs p M x n d left n' d' left' ∧ ((r = true ∧ n' < M ∧ 0 < left') ∨ (r = false ∧ (¬ n' < M ∨ left' ≤ 0))) ∧ WKeep H w w'

set_option maxRecDepth 100000 in
set_option maxHeartbeats 4000000 in
theorem weigh_ok (zs : List Nat) (H B ba off cap p M x n d : Nat) (left : Int) (w : World) (hr : ReadsU B w (.slice (some ⟨ba, off, none⟩) zs.length cap) zs) (hcap : zs.length ≤ cap) (hl : zs.length ≤ 100000000) (hp : p + M ≤ zs.length) (hx : x < p) (hn : n < M) (hBH : B ≤ H) (hHw : H ≤ w.heap.size) (hleft : -100000000 ≤ left ∧ left ≤ 100000000)
    (hb : WB H (.slice (some ⟨ba, off, none⟩) zs.length cap) (.slice (some ⟨ba, off + p, none⟩) M M) p M left n d w) :
    Calls Try.prog 45 #[.int .i64 (x : Int), .pointer (some ⟨H + 7, 0, none⟩), .pointer (some ⟨H + 5, 0, none⟩), .pointer (some ⟨H + 3, 0, none⟩), .pointer (some ⟨H + 6, 0, none⟩), .pointer (some ⟨H + 1, 0, none⟩), .pointer (some ⟨H + 4, 0, none⟩), .pointer (some ⟨H + 2, 0, none⟩)] w fun e w' => WeighIs zs H (.slice (some ⟨ba, off, none⟩) zs.length cap) (.slice (some ⟨ba, off + p, none⟩) M M) p M x n d left w e w' := by
  have c7 := hb.c7
  have f7 := hb.f7
  obtain ⟨l1, hl1⟩ : ∃ l1 : Int, left - 1 = l1 := ⟨_, rfl⟩
  have hwl : IntKind.i64.wrap l1 = l1 := IntWalk.i64_in _ (by omega)
  have HB1 := hide (hb.left' l1)
  have HR := hide hr
  clear hb hr
  obtain ⟨L, hL⟩ : ∃ L, L = zs.length := ⟨_, rfl⟩
  rw [← hL] at HB1 HR hcap hl hp ⊢
  have HL := hide hL
  clear hL
  go_enter Try.func45, Try.ntmps45
  go_upto_region 2 with fail
  obtain ⟨W1, hW1⟩ : ∃ W1, W1 = w.setCell ⟨H + 7, 0, none⟩ (.int .i64 l1) := ⟨_, rfl⟩
  rw [← hW1] at HB1 ⊢
  have HWK1 : Hid (WKeep H w W1) := hide (by rw [hW1]; exact (WKeep.refl H w).set (.inr (.inr rfl)) _)
  have hr1 : ReadsU B W1 (.slice (some ⟨ba, off, none⟩) zs.length cap) zs := by
    have h1 := unhide HR
    rw [unhide HL] at h1
    refine h1.stays ⟨(unhide HWK1).os, (unhide HWK1).tape, (unhide HWK1).output, (unhide HWK1).size, fun k hk => (unhide HWK1).kp k (by omega) (by omega) (by omega) (by omega)⟩
  clear hW1 c7 f7 HR
  have c2 := (unhide HB1).c2
  have c3 := (unhide HB1).c3
  have c5 := (unhide HB1).c5
  have c6 := (unhide HB1).c6
  obtain ⟨xn, hxn⟩ : ∃ xn : Nat, (x : Int) + (n : Int) = (xn : Int) := ⟨x + n, by omega⟩
  have hwx : IntKind.i64.wrap (xn : Int) = (xn : Int) := IntWalk.i64_in _ (by omega)
  have hxL : (xn : Int) < (L : Int) := by omega
  have hnM : (n : Int) < (M : Int) := by omega
  have hrc : ∀ j, j < zs.length → W1.cell? ⟨ba, off + j, none⟩ = some (.int .u8 (zs.getD j 0 : Int)) := by
    obtain ⟨a', c', e, _, hs⟩ := hr1
    injection e with e1 e2 e3
    obtain ⟨b', off', e, _, hc⟩ := hs (by rw [← unhide HL]; omega)
    rw [← e1] at e
    injection e with e
    injection e with e1 e2
    subst e1 e2
    exact hc
  have k1 := hrc xn (by rw [← unhide HL]; omega)
  have k2 := hrc (p + n) (by rw [← unhide HL]; omega)
  rw [← Nat.add_assoc] at k2
  obtain ⟨y1, hy1⟩ : ∃ y1, y1 = zs.getD xn 0 := ⟨_, rfl⟩
  obtain ⟨y2, hy2⟩ : ∃ y2, y2 = zs.getD (p + n) 0 := ⟨_, rfl⟩
  rw [← hy1] at k1
  rw [← hy2] at k2
  have HY1 : Hid (zs.getD (x + n) 0 = y1) := hide (by rw [hy1]; congr 1; omega)
  have HY2 : Hid (zs.getD (p + n) 0 = y2) := hide hy2.symm
  clear hy1 hy2 hrc
  by_cases hyy : y1 = y2
  · have e1 : ((y1 : Int) == (y2 : Int)) = true := by simp [hyy]
    have e1' : (y1 == y2) = true := by simp [hyy]
    have HRD := hide hr1
    clear hr1 hyy
    go_quiet (fail)
    obtain ⟨W2, hW2⟩ : ∃ W2, W2 = W1.drewN nq := ⟨_, rfl⟩
    rw [← hW2]
    have hb2 : WB H (.slice (some ⟨ba, off, none⟩) L cap) (.slice (some ⟨ba, off + p, none⟩) M M) p M l1 n d W2 := by rw [hW2]; exact (unhide HB1).same rfl
    have hr1 : ReadsU B W2 (.slice (some ⟨ba, off, none⟩) zs.length cap) zs := by rw [hW2]; exact (unhide HRD).drewN _
    have HWK2 : Hid (WKeep H w W2) := hide (by rw [hW2]; exact (unhide HWK1).drewN _)
    clear hW2 HRD HWK1 HB1 c2 c3 c5 c6 k1 k2
    obtain ⟨c, hc, hcall⟩ := common_det (zs.drop x) ((zs.drop p).take M) (.slice (some ⟨ba, off + x, none⟩) (L - x) (cap - x)) (.slice (some ⟨ba, off + p, none⟩) M M) B B W2 (by
        have h1 := hr1.sub rfl x (zs.length - x) (cap - x) (by rw [← unhide HL]; omega) (by rw [← unhide HL]; omega)
        rw [List.take_of_length_le (by simp), ← unhide HL] at h1
        exact h1) (hr1.sub rfl p M M (by rw [← unhide HL]; exact hp) (Nat.le_refl _)) (by simp; rw [← unhide HL]; omega)
    have hcM : c ≤ M := by have := hc.l2; simp at this; omega
    have HCALL := hide hcall
    have HC := hide hc
    have hcx : ¬ cap - x = 0 := by omega
    have hcx2 : ¬ cap = x := by omega
    have hxc : x ≤ cap := by omega
    have hxL2 : x ≤ L := by omega
    have HB2 := hide hb2
    have c2 := hb2.c2
    have c3 := hb2.c3
    have c5 := hb2.c5
    have c6 := hb2.c6
    have c7 := hb2.c7
    clear hc hcall hr1 hb2
    go_upto_region 3 with fail
    go_quiet (first | (go_at_call 28; exact unhide HCALL _))
    obtain ⟨W3, hW3⟩ : ∃ W3, W3 = W2.drewN nq := ⟨_, rfl⟩
    rw [← hW3]
    have hb3 : WB H (.slice (some ⟨ba, off, none⟩) L cap) (.slice (some ⟨ba, off + p, none⟩) M M) p M l1 n d W3 := by rw [hW3]; exact (unhide HB2).same rfl
    have HWK3 : Hid (WKeep H w W3) := hide (by rw [hW3]; exact (unhide HWK2).drewN _)
    clear hW3 HWK2 HB2 c2 c3 c5 c6 c7 HCALL
    obtain ⟨l2, hl2⟩ : ∃ l2 : Int, l1 - (c : Int) = l2 := ⟨_, rfl⟩
    have hb4 := hb3.left' l2
    have HWK4 := hide ((unhide HWK3).set (.inr (.inr rfl)) (.int .i64 (l2)))
    have c7 := hb3.c7
    have f7 := hb3.f7
    have hw2 : IntKind.i64.wrap l2 = l2 := IntWalk.i64_in _ (by omega)
    have HL2 : Hid (l2 = left - 1 - (c : Int)) := hide (by omega)
    clear hb3
    go_upto_region 5 with fail
    obtain ⟨W4, hW4⟩ : ∃ W4, W4 = W3.setCell ⟨H + 7, 0, none⟩ (.int .i64 (l2)) := ⟨_, rfl⟩
    rw [← hW4] at hb4 HWK4 ⊢
    clear hW4 HWK3 c7 f7
    have c1 := hb4.c1
    have c2 := hb4.c2
    have c3 := hb4.c3
    have c4 := hb4.c4
    have c7 := hb4.c7
    have f3 := hb4.f3
    have f4 := hb4.f4
    by_cases hnc : n < c
    · have hnci : (n : Int) < (c : Int) := by omega
      obtain ⟨dd, hdd⟩ : ∃ dd : Nat, (p : Int) - (x : Int) = (dd : Int) := ⟨p - x, by omega⟩
      have hwd : IntKind.i64.wrap (dd : Int) = (dd : Int) := IntWalk.i64_in _ (by omega)
      have HW : Hid (Weighed zs p M x n d left c dd (l2)) := hide (.inr ⟨by rw [unhide HY1, unhide HY2]; simpa using e1', c, unhide HC, unhide HL2, .inl ⟨hnc, rfl, by omega⟩⟩)
      have HB4a := hide (hb4.same (y := W4.drew) rfl)
      have HB4b := hide ((unhide HB4a).len' c)
      have HB5 := hide ((unhide HB4b).dist' dd)
      have HWK5 := hide ((((unhide HWK4).drew).set (.inl rfl) (.int .i64 (c : Int))).set (.inr (.inl rfl)) (.int .i64 (dd : Int)))
      clear hb4 HC
      go_upto_region 6 with fail
      refine wp_region_noPanic ?_
      refine wp_region_held_drew (S := fun y => y.cell? ⟨H + 1, 0, none⟩ = some (.int .i64 (p : Int))) (by kernel_rfl) c1 (fun hHeld => ?_)
      refine held_take 0 35 rfl rfl (by kernel_rfl) (by kernel_rfl) (by kernel_rfl) (by rfl) hHeld noPanic_panic (v := ?_) (fun x' hSx => ?_) ?_
      rotate_left 1
      · go_simp <;> with_reducible rfl
      simp only [List.set_cons_zero, List.set_cons_succ]
      refine held_take 1 36 rfl rfl (by kernel_rfl) (by kernel_rfl) (by kernel_rfl) (by rfl) hHeld noPanic_panic (v := ?_) (fun x' hSx => ?_) ?_
      rotate_left 1
      · go_simp <;> with_reducible rfl
      simp only [List.set_cons_zero, List.set_cons_succ]
      refine held_take 2 37 rfl rfl (by kernel_rfl) (by kernel_rfl) (by kernel_rfl) (by rfl) hHeld noPanic_panic (v := ?_) (fun x' hSx => ?_) ?_
      rotate_left 1
      · go_simp <;> with_reducible rfl
      simp only [List.set_cons_zero, List.set_cons_succ]
      refine held_take 3 38 rfl rfl (by kernel_rfl) (by kernel_rfl) (by kernel_rfl) (by rfl) hHeld noPanic_panic (v := ?_) (fun x' hSx => ?_) ?_
      rotate_left 1
      · go_simp <;> with_reducible rfl
      simp only [List.set_cons_zero, List.set_cons_succ]
      refine held_skip 4 (by kernel_rfl) rfl rfl (by rfl) (w' := (W4.drew.setCell ⟨H + 3, 0, none⟩ (.int .i64 (c : Int)))) ?_ ((unhide HB4b).c1) ?_
      · (have q1 := (unhide HB4a).c3; have q2 := (unhide HB4a).f3; go_simp)
      refine held_skip 5 (by kernel_rfl) rfl rfl (by rfl) (w' := ((W4.drew.setCell ⟨H + 3, 0, none⟩ (.int .i64 (c : Int))).setCell ⟨H + 4, 0, none⟩ (.int .i64 (dd : Int)))) ?_ ((unhide HB5).c1) ?_
      · (have q1 := (unhide HB4b).c4; have q2 := (unhide HB4b).f4; go_simp)
      refine wpAnyH_done (by kernel_rfl) ?_ _
      refine NoPanic.normal ?_
      go_upto_region 7 with fail
      obtain ⟨W5, hW5⟩ : ∃ W5, W5 = (W4.drew.setCell ⟨H + 3, 0, none⟩ (.int .i64 (c : Int))).setCell ⟨H + 4, 0, none⟩ (.int .i64 (dd : Int)) := ⟨_, rfl⟩
      rw [← hW5] at HB5 HWK5 ⊢
      clear hW5 HWK4 HB4a HB4b c1 c2 c3 c4 c7 f3 f4 hHeld
      have c2 := (unhide HB5).c2
      have c3 := (unhide HB5).c3
      have c7 := (unhide HB5).c7
      by_cases h1 : c < M
      · have h1i : (c : Int) < (M : Int) := by omega
        by_cases h2 : 0 < l2
        · go_wp2_with fail
          go_ret
          exact ⟨true, c, dd, l2, rfl, unhide HB5, unhide HW, .inl ⟨rfl, h1, h2⟩, unhide HWK5⟩
        · go_wp2_with fail
          go_ret
          exact ⟨false, c, dd, l2, rfl, unhide HB5, unhide HW, .inr ⟨rfl, .inr (by omega)⟩, unhide HWK5⟩
      · have h1i : ¬ (c : Int) < (M : Int) := by omega
        go_wp2_with fail
        go_ret
        exact ⟨false, c, dd, l2, rfl, unhide HB5, unhide HW, .inr ⟨rfl, .inl h1⟩, unhide HWK5⟩
    · have hnci : ¬ (n : Int) < (c : Int) := by omega
      have HW : Hid (Weighed zs p M x n d left n d (l2)) := hide (.inr ⟨by rw [unhide HY1, unhide HY2]; simpa using e1', c, unhide HC, unhide HL2, .inr ⟨by omega, rfl, rfl⟩⟩)
      have HB5 := hide hb4
      clear hb4 HC
      go_upto_region 7 with fail
      by_cases h2 : 0 < l2
      · go_wp2_with fail
        go_ret
        exact ⟨true, n, d, l2, rfl, unhide HB5, unhide HW, .inl ⟨rfl, hn, h2⟩, unhide HWK4⟩
      · go_wp2_with fail
        go_ret
        exact ⟨false, n, d, l2, rfl, unhide HB5, unhide HW, .inr ⟨rfl, .inr (by omega)⟩, unhide HWK4⟩
  · have e1 : ((y1 : Int) == (y2 : Int)) = false := by simp; omega
    have e1' : (y1 == y2) = false := by simp [hyy]
    have HW : Hid (Weighed zs p M x n d left n d l1) := hide (.inl ⟨by rw [unhide HY1, unhide HY2]; exact hyy, rfl, rfl, hl1.symm⟩)
    clear hr1
    go_quiet (fail)
    obtain ⟨W2, hW2⟩ : ∃ W2, W2 = W1.drewN nq := ⟨_, rfl⟩
    rw [← hW2]
    have HB2 : Hid (WB H (.slice (some ⟨ba, off, none⟩) L cap) (.slice (some ⟨ba, off + p, none⟩) M M) p M l1 n d W2) := hide (by rw [hW2]; exact (unhide HB1).same rfl)
    have HWK2 : Hid (WKeep H w W2) := hide (by rw [hW2]; exact (unhide HWK1).drewN _)
    clear hW2 HWK1 HB1 c2 c3 c5 c6 k1 k2
    have c2 := (unhide HB2).c2
    have c3 := (unhide HB2).c3
    have c7 := (unhide HB2).c7
    by_cases h2 : 0 < l1
    · go_wp2_with fail
      go_ret
      exact ⟨true, n, d, l1, rfl, unhide HB2, unhide HW, .inl ⟨rfl, hn, h2⟩, unhide HWK2⟩
    · go_wp2_with fail
      go_ret
      exact ⟨false, n, d, l1, rfl, unhide HB2, unhide HW, .inr ⟨rfl, .inr (by omega)⟩, unhide HWK2⟩

end Go.Proofs.Ytabnfnejlffioaa
