/- refine: a round. -/
import Derived.Test.YtpemgjcgcmleiaaSf
namespace Go.Proofs.Ytpemgjcgcmleiaa
open Go.RowKit Suf Go.Sort
set_option maxRecDepth 100000
set_option linter.unusedVariables false
attribute [local go_sem ↓] Go.wp_at_zero Go.wp_at_succ

theorem nodup_le : ∀ (n : Nat) (L : List Nat), L.Nodup → (∀ x ∈ L, x < n) → L.length ≤ n
  | 0, L, _, h => by
    cases L with
    | nil => simp
    | cons x l => exact absurd (h x (List.mem_cons_self ..)) (by omega)
  | n + 1, L, hd, h => by
    have h1 := nodup_le n (L.erase n) (hd.erase n) fun x hx => by
      have h2 := hd.mem_erase_iff.1 hx
      have := h x h2.2
      have := h2.1
      omega
    by_cases hm : n ∈ L
    · rw [List.length_erase_of_mem hm] at h1
      omega
    · rw [List.erase_of_not_mem hm] at h1
      omega

theorem groups_le {b : List Nat} {h : Nat} {p R : Nat → Nat} {T N : List (Nat × Nat)} (H : Grps b h p R T N) : (T ++ N).length ≤ b.length := by
  have := nodup_le b.length ((T ++ N).map (·.1)) (by
    rw [List.nodup_iff_pairwise_ne, List.pairwise_map]
    refine List.Pairwise.imp_of_mem ?_ H.dis
    intro g g' hg hg' hd e
    have h1 := (H.grp g hg).1
    have h2 := (H.grp g' hg').1
    unfold Dis at hd
    omega) (fun x hx => by
    obtain ⟨g, hg, rfl⟩ := List.mem_map.1 hx
    have h1 := H.grp g hg
    have := h1.1
    have := h1.2.1
    omega)
  simpa using this

/-- what a round leaves -/
def RoundIs (H : Nat) (w : World) (tb pg rg : Nat) (b : List Nat) (h : Nat) (R : Nat → Nat) (e : Ending) (w' : World) : Prop :=
  ∃ p' R' vo' vp' G' ps' pt, e = .returned (.bool pt) ∧ TAt H w' tb pg rg b.length p' R' vo' vp' G' ps' ∧ Mid b h R p' R' [] G' pt ∧ Kp (fun k => H ≤ k) w w'

theorem drop_head {l : List (Nat × Nat)} {i : Nat} (hi : i < l.length) : l.drop i = l.getD i (0, 0) :: l.drop (i + 1) := by
  rw [List.drop_eq_getElem_cons hi, List.getD_eq_getElem?_getD, List.getElem?_eq_getElem hi]
  rfl

theorem store_new (X : World) (t : TypeId) (u v : Value) (g : Nat) (hg : g = X.heap.size) (hv : v.oneCell' = true) : Sem.run Try.prog (store ⟨g, 0, none⟩ v) (X.alloc (.cells #[u] t)) = .ok () (X.alloc (.cells #[v] t)) := by
  subst hg
  have s1 : (X.alloc (.cells #[u] t)).cell? ⟨X.heap.size, 0, none⟩ = some u := by simp only [World.cell?, heap_alloc_new]; rfl
  have s2 : (X.alloc (.cells #[u] t)).frozen? ⟨X.heap.size, 0, none⟩ = false := by simp only [World.frozen?, heap_alloc_new]; simp
  rw [run_store _ _ _ _ _ hv]
  simp only [s1, s2]
  rw [World.setCell_alloc_new]
  rfl

/-- what a statement of the round stands on -/
structure RS (tx tb pg pb n q1 q2 : Nat) (x : World) : Prop where
  t : x.cell? ⟨tx, 0, none⟩ = some (.pointer (some ⟨tb, 0, none⟩))
  p : x.cell? ⟨tb, 0, none⟩ = some (.slice (some ⟨pg, 0, none⟩) n n)
  a : x.cell? ⟨pb, 0, none⟩ = some (.int .i64 (q1 : Int))
  c : x.cell? ⟨pb, 1, none⟩ = some (.int .i64 (q2 : Int))

theorem RS.kp {tx tb pg pb n q1 q2 : Nat} {x y : World} (h : RS tx tb pg pb n q1 q2 x) (hk : Kp (fun k => k = pg) x y) (h1 : tx ≠ pg) (h2 : tb ≠ pg) (h3 : pb ≠ pg) : RS tx tb pg pb n q1 q2 y :=
  ⟨hk.cell h.t h1, hk.cell h.p h2, hk.cell h.a h3, hk.cell h.c h3⟩

/-- refine's own blocks -/
structure Cap (tx tb h : Nat) (x : World) : Prop where
  t : x.heap[tx]? = some (.cells #[.pointer (some ⟨tb, 0, none⟩)] 49 (0, 0))
  h : x.heap[tx + 1]? = some (.cells #[.int .i64 (h : Int)] 3 (0, 0))
  f : x.heap[tx + 1 + 1]? = some (.cells #[.func (.func 29) #[] #[.pointer (some ⟨tx + 1, 0, none⟩), .pointer (some ⟨tx, 0, none⟩)]] 60 (0, 0))

theorem Cap.c0 {tx tb h : Nat} {x : World} (k : Cap tx tb h x) : x.cell? ⟨tx, 0, none⟩ = some (.pointer (some ⟨tb, 0, none⟩)) := by simp [World.cell?, k.t]
theorem Cap.c1 {tx tb h : Nat} {x : World} (k : Cap tx tb h x) : x.cell? ⟨tx + 1, 0, none⟩ = some (.int .i64 (h : Int)) := by simp [World.cell?, k.h]
theorem Cap.c2 {tx tb h : Nat} {x : World} (k : Cap tx tb h x) : x.cell? ⟨tx + 1 + 1, 0, none⟩ = some (.func (.func 29) #[] #[.pointer (some ⟨tx + 1, 0, none⟩), .pointer (some ⟨tx, 0, none⟩)]) := by simp [World.cell?, k.f]

theorem Cap.kp {A : Nat → Prop} {tx tb h : Nat} {x y : World} (k : Cap tx tb h x) (hk : Kp A x y) (h0 : ¬ A tx) (h1 : ¬ A (tx + 1)) (h2 : ¬ A (tx + 1 + 1)) : Cap tx tb h y :=
  ⟨by rw [hk.keep _ (heap_lt k.t) h0]; exact k.t, by rw [hk.keep _ (heap_lt k.h) h1]; exact k.h, by rw [hk.keep _ (heap_lt k.f) h2]; exact k.f⟩

theorem own_kp {A : Nat → Prop} {w x : World} {base e size n : Nat} {v : Value} {xs : List Value} (h : w.ownsRow base e size v n xs) (hk : Kp A w x) (hA : ∀ k, v.ownBlock = some k → ¬ A k) : x.ownsRow base e size v n xs :=
  own_keep h fun g hg => hk.keep g (h.lt g hg).2 (hA g hg)

set_option maxHeartbeats 8000000 in
theorem refine_ok (H : Nat) (w : World) (tb pg rg : Nat) (b : List Nat) (h : Nat) (p R : Nat → Nat) (vo vp : Value) (G ps : List (Nat × Nat)) (hT : TAt H w tb pg rg b.length p R vo vp G ps) (hG : Grps b h p R G []) (h0 : 0 < h) (hh : h < b.length) (hn : b.length ≤ 1048576) :
    Calls Try.prog 24 #[.pointer (some ⟨tb, 0, none⟩), .int .i64 (h : Int)] w fun e w' => RoundIs H w tb pg rg b h R e w' := by
  obtain ⟨n, hN⟩ : ∃ n, n = b.length := ⟨_, rfl⟩
  have HGL := hide (groups_le hG)
  have HM0 := hide (Mid.start hG)
  have HNN := hide hN
  rw [← hN] at hT hh hn
  obtain ⟨va, vc, rfl, _⟩ := own_group hT.op
  obtain ⟨tx, htx⟩ : ∃ tx, tx = w.heap.size := ⟨_, rfl⟩
  obtain ⟨W0, hW0⟩ : ∃ W0, W0 = ((w.alloc (.cells #[.pointer (some ⟨tb, 0, none⟩)] 49)).alloc (.cells #[.int .i64 (h : Int)] 3)).alloc (.cells #[.func (.func 29) #[] #[.pointer (some ⟨w.heap.size + 1, 0, none⟩), .pointer (some ⟨w.heap.size, 0, none⟩)]] 60) := ⟨_, rfl⟩
  have hT0 : TAt H W0 tb pg rg n p R (.slice va G.length vc) vp G ps := by rw [hW0]; exact ((hT.alloc _).alloc _).alloc _
  obtain ⟨X, hX⟩ : ∃ X, X = (w.alloc (.cells #[.pointer (some ⟨tb, 0, none⟩)] 49)).alloc (.cells #[.int .i64 (h : Int)] 3) := ⟨_, rfl⟩
  have hXs : X.heap.size = w.heap.size + 1 + 1 := by rw [hX]; simp
  have s1 := store_new X 60 .nilFunc (.func (.func 29) #[] #[.pointer (some ⟨w.heap.size + 1, 0, none⟩), .pointer (some ⟨w.heap.size, 0, none⟩)]) (w.heap.size + 1 + 1) hXs.symm rfl
  have hb1 : W0.heap[tx]? = some (.cells #[.pointer (some ⟨tb, 0, none⟩)] 49 (0, 0)) := by
    rw [hW0, htx, Below.heap_alloc _ _ _ (by simp; omega), Below.heap_alloc _ _ _ (by simp)]; exact heap_alloc_new _ _
  have hb2 : W0.heap[tx + 1]? = some (.cells #[.int .i64 (h : Int)] 3 (0, 0)) := by
    rw [hW0, htx, Below.heap_alloc _ _ _ (by simp), show w.heap.size + 1 = (w.alloc (.cells #[.pointer (some ⟨tb, 0, none⟩)] 49)).heap.size by simp]; exact heap_alloc_new _ _
  have hb3 : W0.heap[tx + 1 + 1]? = some (.cells #[.func (.func 29) #[] #[.pointer (some ⟨tx + 1, 0, none⟩), .pointer (some ⟨tx, 0, none⟩)]] 60 (0, 0)) := by
    rw [hW0, htx, ← hX, ← hXs]; exact heap_alloc_new _ _
  have hk0 : Kp (fun k => H ≤ k) w W0 := by rw [hW0]; exact (((Kp.refl _ w).alloc _).alloc _).alloc _
  have a1 : W0.cell? ⟨tx, 0, none⟩ = some (.pointer (some ⟨tb, 0, none⟩)) := by simp [World.cell?, hb1]
  have a2 := hT0.c2
  have a3 := hT0.fz 2
  have hsz := hT.ht.1
  have hszt := heap_lt hT.blk
  rw [hX] at s1
  rw [hW0, htx] at a1
  rw [hW0] at a2 a3
  have HB : Hid (Cap tx tb h W0) := hide ⟨hb1, hb2, hb3⟩
  have HK0 := hide hk0
  have HT0 := hide hT0
  have HT := hide hT
  have HTX := hide htx
  clear hN hb1 hb2 hb3 hk0 hT0 hT hX hXs htx hG
  go_enter Try.func24, Try.ntmps24
  go_wp2_with fail
  rw [← hW0, ← unhide HTX]
  obtain ⟨W1, hW1⟩ : ∃ W1, W1 = W0.setCell ⟨tb, 2, none⟩ (.slice none 0 0) := ⟨_, rfl⟩
  have hgt : tb < tx ∧ pg < tx ∧ rg < tx := by rw [unhide HTX]; exact ⟨heap_lt (unhide HT).blk, (unhide HT).pl.lt, (unhide HT).rk.lt⟩
  have HVT : Hid (∀ k, (Value.slice va G.length vc).ownBlock = some k → k < tx) := hide fun k hk => by rw [unhide HTX]; exact ((unhide HT).op.lt k hk).2
  have HPT : Hid (∀ k, vp.ownBlock = some k → k < tx) := hide fun k hk => by rw [unhide HTX]; exact ((unhide HT).pc.lt k hk).2
  have HT1 : Hid (TAt H W1 tb pg rg n p R (.slice none 0 0) vp [] ps) := hide (by rw [hW1]; exact (unhide HT0).setO (os' := []) (World.ownsRow_nil _ _ _ _) (fun k hk => by cases hk))
  have HB1 : Hid (Cap tx tb h W1) := hide (by
    rw [hW1]
    exact ⟨by rw [heap_setCell_other _ _ _ _ (by show tx ≠ tb; omega)]; exact (unhide HB).t, by rw [heap_setCell_other _ _ _ _ (by show tx + 1 ≠ tb; omega)]; exact (unhide HB).h, by rw [heap_setCell_other _ _ _ _ (by show tx + 1 + 1 ≠ tb; omega)]; exact (unhide HB).f⟩)
  have HK1 : Hid (Kp (fun k => H ≤ k) w W1) := hide (by rw [hW1]; exact (unhide HK0).set 2 _ (.inl hsz))
  have HO1 : Hid (W1.ownsRow H 56 2 (.slice va G.length vc) G.length (gv G)) := hide (by
    rw [hW1]
    exact own_keep (unhide HT0).op fun g hg => heap_setCell_other _ _ _ _ (by show g ≠ tb; rintro rfl; exact (unhide HT0).vo_t.1 hg))
  have hvd : ∀ k, (Value.slice va G.length vc).ownBlock = some k → vp.ownBlock ≠ some k := (unhide HT).d2
  have HVD := hide hvd
  rw [← hW1]
  clear hW0 hW1 s1 a1 a2 a3 HT HT0 HB HK0 hvd
  go_loopg [7, 20] G.length (fun gk pv iv' ws => ∃ (i : Nat) (pt : Bool) (p' R' : Nat → Nat) (vo' vp' : Value) (Nn ps' : List (Nat × Nat)), gk = G.length - i ∧ i ≤ G.length ∧ pv = .bool pt ∧ iv' = .int .i64 (i : Int) ∧ Hid (TAt H ws tb pg rg n p' R' vo' vp' Nn ps') ∧ Hid (Mid b h R p' R' (G.drop i) Nn pt) ∧ Hid (ws.ownsRow H 56 2 (.slice va G.length vc) G.length (gv G)) ∧ Hid (Cap tx tb h ws) ∧ Hid (Kp (fun k => H ≤ k) w ws) ∧ Hid (∀ k, vo'.ownBlock = some k → tx < k) ∧ Hid (∀ k, vp'.ownBlock = some k → vp.ownBlock = some k ∨ tx < k))
  case atStart => exact ⟨0, false, p, R, _, vp, [], ps, rfl, by omega, rfl, rfl, HT1, by rw [List.drop_zero]; exact HM0, HO1, HB1, HK1, hide fun k hk => (by cases hk), hide fun k hk => .inl hk⟩
  case round =>
    clear HT1 HO1 HB1 HK1 HM0
    obtain ⟨i, pt, p', R', vo', vp', Nn, ps', rfl, hi, rfl, rfl, HT1, HM1, HO1, HB1, HK1, HV1, HV2⟩ := hrel
    rename World => wk
    have hgl : G.length ≤ 1048576 := by have := unhide HGL; rw [List.append_nil, ← unhide HNN] at this; omega
    by_cases hil : i < G.length
    · have ti : (i : Int) < (G.length : Int) := by omega
      obtain ⟨a', c', e, hgr⟩ := own_group (unhide HO1)
      injection e with e1 e2 e3
      subst e1 e3
      obtain ⟨gO, rfl, hgo2, d1, d2⟩ := hgr i hil
      rw [Nat.mul_comm] at d1 d2
      obtain ⟨q, hq⟩ : ∃ q, q = G.getD i (0, 0) := ⟨_, rfl⟩
      rw [← hq] at d1 d2
      have hM := unhide HM1
      rw [drop_head hil, ← hq] at hM
      have hgq := hM.grps.grp q (by simp)
      have HMEM : Hid (∀ r, r < n → p' r < n) := hide (by rw [unhide HNN]; exact hM.grps.good.mem)
      have HINJ : Hid (∀ r s, r < n → s < n → p' r = p' s → r = s) := hide (by rw [unhide HNN]; exact hM.grps.good.inj)
      have HNL : Hid (Nn.length ≤ n) := hide (by
        have := groups_le hM.grps
        rw [List.length_append, ← unhide HNN] at this
        omega)
      rw [← unhide HNN] at hgq
      have HM2 := hide hM
      clear hgr hq hM HM1
      obtain ⟨q1, q2⟩ := q
      have hq12 : q1 < q2 := hgq.1
      have hq2n : q2 ≤ n := hgq.2.1
      clear hgq
      dsimp only at d1 d2
      have z0 : (wk.alloc (.cells #[.int .i64 0, .int .i64 0] 56)).cell? ⟨wk.heap.size, 0, none⟩ = some (.int .i64 0) := by simp only [World.cell?, heap_alloc_new]; rfl
      have z1 : (wk.alloc (.cells #[.int .i64 0, .int .i64 0] 56)).cell? ⟨wk.heap.size, 1, none⟩ = some (.int .i64 0) := by simp only [World.cell?, heap_alloc_new]; rfl
      have z2 : ∀ o, (wk.alloc (.cells #[.int .i64 0, .int .i64 0] 56)).frozen? ⟨wk.heap.size, o, none⟩ = false := fun o => by simp only [World.frozen?, heap_alloc_new]; simp
      go_upto_region 8 with fail
      obtain ⟨pb, hpb⟩ : ∃ pb, pb = wk.heap.size := ⟨_, rfl⟩
      obtain ⟨W3, hW3⟩ : ∃ W3, W3 = wk.alloc (.cells #[.int .i64 (q1 : Int), .int .i64 (q2 : Int)] 56) := ⟨_, rfl⟩
      have HT3 : Hid (TAt H W3 tb pg rg n p' R' vo' vp' Nn ps') := hide (by rw [hW3]; exact (unhide HT1).alloc _)
      have hp3 : W3.heap[pb]? = some (.cells #[.int .i64 (q1 : Int), .int .i64 (q2 : Int)] 56 (0, 0)) := by rw [hW3, hpb]; exact heap_alloc_new _ _
      have HC3 : Hid (Cap tx tb h W3) := hide (by rw [hW3]; exact (unhide HB1).kp ((Kp.refl (fun _ => False) wk).alloc _) id id id)
      have HK3 : Hid (Kp (fun k => H ≤ k) w W3) := hide (by rw [hW3]; exact (unhide HK1).alloc _)
      have HO3 : Hid (W3.ownsRow H 56 2 (.slice (some ⟨gO, 0, none⟩) G.length vc) G.length (gv G)) := hide (by rw [hW3]; exact (unhide HO1).alloc _)
      have HRS : Hid (RS tx tb pg pb n q1 q2 W3) := hide ⟨(unhide HC3).c0, (unhide HT3).c0, by simp [World.cell?, hp3], by simp [World.cell?, hp3]⟩
      have hpbt : tx + 1 + 1 < pb := by rw [hpb]; exact heap_lt (unhide HB1).f
      have HDD : Hid (tb ≠ pg ∧ rg ≠ pg ∧ tx + 1 + 1 ≠ pg ∧ tx + 1 ≠ pg ∧ tx ≠ pg) := hide ⟨(unhide HT1).tp, (unhide HT1).d1.symm, by omega, by omega, by omega⟩
      have HPBP : Hid (pb ≠ pg) := hide (by omega)
      have HPV : Hid ((∀ k, vo'.ownBlock = some k → k < pb) ∧ (∀ k, vp'.ownBlock = some k → k < pb)) := hide (by rw [hpb]; exact ⟨fun k hk => ((unhide HT1).op.lt k hk).2, fun k hk => ((unhide HT1).pc.lt k hk).2⟩)
      rw [← hW3, ← hpb]
      clear hW3 hpb z0 z1 z2 d1 d2 HT1 HB1 HK1 HO1 hp3 hgo2
      have b1 : (q1 : Int) ≤ (q2 : Int) := by omega
      have b2 : (q2 : Int) ≤ (n : Int) := by omega
      have b3 : ¬ n = q1 := by omega
      have b4 : (q1 : Int) ≤ (n : Int) := by omega
      have b5 : q1 ≤ q2 := by omega
      have b6 : q2 ≤ n := by omega
      refine wp_region_noPanic ?_
      refine wp_region_held_drew (S := RS tx tb pg pb n q1 q2) (by kernel_rfl) ⟨(unhide HRS).t, (unhide HRS).p, (unhide HRS).a, (unhide HRS).c⟩ (fun hHeld => ?_)
      obtain ⟨x1, hx1⟩ : ∃ x1, x1 = W3.drew := ⟨_, rfl⟩
      show wpAnyH _ _ _ _ _ _ _ _ W3.drew
      rw [← hx1] at hHeld ⊢
      have HTX1 : Hid (TAt H x1 tb pg rg n p' R' vo' vp' Nn ps') := hide (by rw [hx1]; exact (unhide HT3).drewN 1)
      have HCX1 : Hid (Cap tx tb h x1) := hide (by rw [hx1]; exact ⟨(unhide HC3).t, (unhide HC3).h, (unhide HC3).f⟩)
      have HKX1 : Hid (Kp (fun k => H ≤ k) w x1) := hide (by rw [hx1]; exact (unhide HK3).drewN 1)
      have HOX1 : Hid (x1.ownsRow H 56 2 (.slice (some ⟨gO, 0, none⟩) G.length vc) G.length (gv G)) := hide (by rw [hx1]; exact unhide HO3)
      clear hx1 HT3 HC3 HK3 HO3 HRS
      refine held_take 0 24 rfl rfl (by kernel_rfl) (by kernel_rfl) (by kernel_rfl) (by rfl) hHeld noPanic_panic (v := ?_) (fun x hSx => ?_) ?_
      rotate_left 1
      · have q0 := hSx.t; clear hSx; go_simp <;> with_reducible rfl
      simp only [List.set_cons_zero, List.set_cons_succ]
      refine held_take 1 25 rfl rfl (by kernel_rfl) (by kernel_rfl) (by kernel_rfl) (by rfl) hHeld noPanic_panic (v := ?_) (fun x hSx => ?_) ?_
      rotate_left 1
      · go_simp <;> with_reducible rfl
      simp only [List.set_cons_zero, List.set_cons_succ]
      refine held_take 2 26 rfl rfl (by kernel_rfl) (by kernel_rfl) (by kernel_rfl) (by rfl) hHeld noPanic_panic (v := ?_) (fun x hSx => ?_) ?_
      rotate_left 1
      · go_simp <;> with_reducible rfl
      simp only [List.set_cons_zero, List.set_cons_succ]
      refine held_take 3 27 rfl rfl (by kernel_rfl) (by kernel_rfl) (by kernel_rfl) (by rfl) hHeld noPanic_panic (v := ?_) (fun x hSx => ?_) ?_
      rotate_left 1
      · have q0 := hSx.p; clear hSx; go_simp <;> with_reducible rfl
      simp only [List.set_cons_zero, List.set_cons_succ]
      refine held_take 4 28 rfl rfl (by kernel_rfl) (by kernel_rfl) (by kernel_rfl) (by rfl) hHeld noPanic_panic (v := ?_) (fun x hSx => ?_) ?_
      rotate_left 1
      · go_simp <;> with_reducible rfl
      simp only [List.set_cons_zero, List.set_cons_succ]
      refine held_take 5 29 rfl rfl (by kernel_rfl) (by kernel_rfl) (by kernel_rfl) (by rfl) hHeld noPanic_panic (v := ?_) (fun x hSx => ?_) ?_
      rotate_left 1
      · have q0 := hSx.a; clear hSx; go_simp <;> with_reducible rfl
      simp only [List.set_cons_zero, List.set_cons_succ]
      refine held_take 6 30 rfl rfl (by kernel_rfl) (by kernel_rfl) (by kernel_rfl) (by rfl) hHeld noPanic_panic (v := ?_) (fun x hSx => ?_) ?_
      rotate_left 1
      · go_simp <;> with_reducible rfl
      simp only [List.set_cons_zero, List.set_cons_succ]
      refine held_take 7 31 rfl rfl (by kernel_rfl) (by kernel_rfl) (by kernel_rfl) (by rfl) hHeld noPanic_panic (v := ?_) (fun x hSx => ?_) ?_
      rotate_left 1
      · have q0 := hSx.c; clear hSx; go_simp <;> with_reducible rfl
      simp only [List.set_cons_zero, List.set_cons_succ]
      refine held_take 8 32 rfl rfl (by kernel_rfl) (by kernel_rfl) (by kernel_rfl) (by rfl) hHeld noPanic_panic (v := ?_) (fun x hSx => ?_) ?_
      rotate_left 1
      · go_simp <;> with_reducible rfl
      simp only [List.set_cons_zero, List.set_cons_succ]
      refine held_take 9 33 rfl rfl (by kernel_rfl) (by kernel_rfl) (by kernel_rfl) (by rfl) hHeld noPanic_panic (v := ?_) (fun x hSx => ?_) ?_
      rotate_left 1
      · go_simp <;> with_reducible rfl
      simp only [List.set_cons_zero, List.set_cons_succ]
      refine held_enter 10 34 (by kernel_rfl) rfl rfl (by rfl) (by go_simp <;> exact ⟨rfl, rfl⟩) ?_
      refine (sortf_ok x1 tb pg rg n p' R' q1 q2 h (n - q1) (tx + 1 + 1) (tx + 1) tx (unhide HTX1).pl ⟨(unhide HTX1).c1, (unhide HTX1).rk⟩ (unhide HCX1).c2 (unhide HCX1).c1 (unhide HCX1).c0 (unhide HDD) hq12 hq2n hh hn (unhide HMEM) (unhide HINJ)).mono ?_
      rintro e x2 ⟨rfl, p2, hpm, hle2, hpl2, hkp2⟩
      refine ⟨_, rfl, hHeld.kp hkp2 (unhide HDD).2.2.2.2 (unhide HDD).1 (unhide HPBP), ?_⟩
      simp only [List.set_cons_zero, List.set_cons_succ]
      refine wpAnyH_done (by kernel_rfl) ?_ _
      refine NoPanic.normal ?_
      have HS2 := hide (hHeld.kp hkp2 (unhide HDD).2.2.2.2 (unhide HDD).1 (unhide HPBP))
      have HT5 : Hid (TAt H x2 tb pg rg n p2 R' vo' vp' Nn ps') := hide ⟨by rw [hkp2.keep _ (heap_lt (unhide HTX1).blk) (unhide HDD).1]; exact (unhide HTX1).blk, hpl2, (unhide HTX1).rk.of (hkp2.keep _ (unhide HTX1).rk.lt (unhide HDD).2.1), own_kp (unhide HTX1).op hkp2 (fun k hk e => (unhide HTX1).vo_t.2.1 (by rw [hk, e])), own_kp (unhide HTX1).pc hkp2 (fun k hk e => (unhide HTX1).vp_t.2.1 (by rw [hk, e])), (unhide HTX1).d1, (unhide HTX1).d2, (unhide HTX1).ht⟩
      have HC5 : Hid (Cap tx tb h x2) := hide ((unhide HCX1).kp hkp2 (unhide HDD).2.2.2.2 (unhide HDD).2.2.2.1 (unhide HDD).2.2.1)
      have HK5 : Hid (Kp (fun k => H ≤ k) w x2) := hide ((unhide HKX1).trans (hkp2.mono fun k _ e => by rw [e]; exact (unhide HTX1).ht.2.1))
      have HO5 : Hid (x2.ownsRow H 56 2 (.slice (some ⟨gO, 0, none⟩) G.length vc) G.length (gv G)) := hide (own_kp (unhide HOX1) hkp2 fun k hk e => own_ne (unhide HOX1) (unhide HTX1).pl (by decide) (by rw [hk, e]))
      have HSZ5 : Hid (x1.heap.size ≤ x2.heap.size) := hide hkp2.size
      have HPM := hide hpm
      have HLE := hide hle2
      clear hHeld hpm hle2 hpl2 hkp2 HTX1 HCX1 HKX1 HOX1
      have y0 := (unhide HS2).t
      have y1 := (unhide HS2).a
      have y2 := (unhide HS2).c
      have y3 := (unhide HC5).c2
      go_wp2_with fail
      have hmem2 : ∀ r, r < n → p2 r < n := fun r hr => by
        by_cases hs : q1 ≤ r ∧ r < q2
        · obtain ⟨s, s1, s2, e⟩ := (unhide HPM).seg r hs.1 hs.2
          rw [e]
          exact unhide HMEM s (by omega)
        · rw [(unhide HPM).out r hr (by omega)]
          exact unhide HMEM r hr
      refine (part_ok H x2 tb pg rg n p2 R' vo' vp' Nn ps' (fun x => R' ((x + h) % n)) 29 #[.pointer (some ⟨tx + 1, 0, none⟩), .pointer (some ⟨tx, 0, none⟩)] q1 q2 (unhide HT5) ⟨Try.call29, fun x W vp2 hx hkp hblk => ?_⟩ (by omega) hq2n hn (by have := unhide HNL; omega) hmem2 (unhide HPM).inj).mono ?_
      · have n1 : ∀ k cs t, x2.heap[k]? = some (.cells cs t (0, 0)) → t ≠ 56 → k ≠ tb → ¬ (k = tb ∨ vp'.ownBlock = some k) := fun k cs t hk ht hne hA => by
          rcases hA with hA | hA
          · exact hne hA
          · exact own_ne (unhide HT5).pc hk (fun e => ht e.symm) hA
        have h1 := ahead_ok x h n R' (tx + 1) tx tb rg W (hkp.cell (unhide HC5).c1 (n1 (tx + 1) _ _ (unhide HC5).h (by decide) (show tx + 1 ≠ tb by omega))) (hkp.cell (unhide HC5).c0 (n1 tx _ _ (unhide HC5).t (by decide) (show tx ≠ tb by omega))) ⟨by simp [World.cell?, hblk], (unhide HT5).rk.of (hkp.keep rg (unhide HT5).rk.lt (n1 _ _ _ (unhide HT5).rk (by decide) (unhide HT5).tr.symm))⟩ hx hh hn
        simpa using h1
      rintro e x3 ⟨ps3, R3, vo3, vp3, rfl, hcut, hrk, hT6, hk6, hv6, hv7⟩
      have n2 : ∀ k cs t, x2.heap[k]? = some (.cells cs t (0, 0)) → t ≠ 56 → k ≠ tb → k ≠ rg → ¬ (k = tb ∨ k = rg ∨ vo'.ownBlock = some k ∨ vp'.ownBlock = some k) := fun k cs t hk ht hne hne2 hA => by
        rcases hA with hA | hA | hA | hA
        · exact hne hA
        · exact hne2 hA
        · exact own_ne (unhide HT5).op hk (fun e => ht e.symm) hA
        · exact own_ne (unhide HT5).pc hk (fun e => ht e.symm) hA
      have HT6 := hide hT6
      have HC6 : Hid (Cap tx tb h x3) := hide ((unhide HC5).kp hk6 (n2 _ _ _ (unhide HC5).t (by decide) (by omega) (by omega)) (n2 _ _ _ (unhide HC5).h (by decide) (by omega) (by omega)) (n2 _ _ _ (unhide HC5).f (by decide) (by omega) (by omega)))
      have HK6 : Hid (Kp (fun k => H ≤ k) w x3) := hide ((unhide HK5).trans (hk6.mono fun k _ hA => by
        rcases hA with hA | hA | hA | hA
        · rw [hA]; exact (unhide HT5).ht.1
        · rw [hA]; exact (unhide HT5).ht.2.2
        · exact ((unhide HT5).op.lt k hA).1
        · exact ((unhide HT5).pc.lt k hA).1))
      have HO6 : Hid (x3.ownsRow H 56 2 (.slice (some ⟨gO, 0, none⟩) G.length vc) G.length (gv G)) := hide (own_kp (unhide HO5) hk6 fun k hk hA => by
        have hkt := unhide HVT k hk
        rcases hA with hA | hA | hA | hA
        · exact own_ne (unhide HO5) (unhide HT5).blk (by decide) (by rw [hk, hA])
        · exact own_ne (unhide HO5) (unhide HT5).rk (by decide) (by rw [hk, hA])
        · have := unhide HV1 k hA; omega
        · rcases unhide HV2 k hA with q | q
          · exact unhide HVD k hk q
          · omega)
      have hxt : tx < x2.heap.size := heap_lt (unhide HC5).t
      have HV6 : Hid (∀ k, vo3.ownBlock = some k → tx < k) := hide fun k hk => by
        rcases hv6 k hk with q | q
        · exact unhide HV1 k q
        · omega
      have HV7 : Hid (∀ k, vp3.ownBlock = some k → vp.ownBlock = some k ∨ tx < k) := hide fun k hk => by
        rcases hv7 k hk with q | q
        · exact unhide HV2 k q
        · exact .inr (by omega)
      have HM6 : Hid (Mid b h R p2 R3 (G.drop (i + 1)) (Nn ++ wide ps3) (decide (1 < ps3.length) || pt)) := hide (by
        have h1 := unhide HPM
        have h2 := unhide HLE
        rw [unhide HNN] at h1 h2 hcut hrk
        exact (unhide HM2).step h1 h2 hcut hrk)
      clear hT6 hk6 hv6 hv7 hcut hrk n2 y0 y1 y2 y3
      by_cases hpt : 1 < ps3.length
      · have t1 : decide (1 < ps3.length) = true := by simp; omega
        go_wp2_with fail
        go_roundg (G.length - (i + 1))
        case measure => omega
        case rel => exact ⟨i + 1, _, p2, R3, vo3, vp3, Nn ++ wide ps3, ps3, rfl, by omega, by rw [t1]; rfl, by go_num, HT6, HM6, HO6, HC6, HK6, HV6, HV7⟩
      · have t1 : decide (1 < ps3.length) = false := by simp; omega
        go_wp2_with fail
        go_roundg (G.length - (i + 1))
        case measure => omega
        case rel => exact ⟨i + 1, _, p2, R3, vo3, vp3, Nn ++ wide ps3, ps3, rfl, by omega, by rw [t1]; rfl, by go_num, HT6, HM6, HO6, HC6, HK6, HV6, HV7⟩
    · obtain rfl : i = G.length := by omega
      have ti : ¬ (G.length : Int) < (G.length : Int) := by omega
      go_wp2_with fail
      go_ret
      refine ⟨p', R', vo', vp', Nn, ps', pt, rfl, by rw [← unhide HNN]; exact unhide HT1, ?_, unhide HK1⟩
      have := unhide HM1
      rw [List.drop_length] at this
      exact this
end Go.Proofs.Ytpemgjcgcmleiaa
