/- front: one goes ahead. -/
import Derived.Test.YtgafabhhalhccaaHd
namespace Go.Proofs.Ytgafabhhalhccaa
open Go.RowKit Runs
set_option maxRecDepth 100000
set_option linter.unusedVariables false
attribute [local go_sem ↓] Go.wp_at_zero Go.wp_at_succ

theorem bytes_one (ys : List Nat) : ∀ u ∈ ys.map bv, u.oneCell' = true := by
  intro u hu
  obtain ⟨b, _, rfl⟩ := List.mem_map.1 hu
  rfl

theorem bytes_news {w : World} {ad : Addr} {ys : List Nat} (h : ∀ j, j < ys.length → w.cell? (ad.add j) = some (bv (ys.getD j 0))) : ∀ (j : Nat) u, (ys.map bv)[j]? = some u → w.cell? (ad.add j) = some u := by
  intro j u hu
  have hj : j < ys.length := by
    rcases Nat.lt_or_ge j ys.length with h' | h'
    · exact h'
    · rw [List.getElem?_eq_none (by rw [List.length_map]; exact h')] at hu; cases hu
  rw [h j hj, ← hu, List.getElem?_map, List.getD_eq_getElem?_getD, List.getElem?_eq_getElem hj]
  rfl

theorem wp_appB {ops : Array Oper} {rest : List Oper} {o : Oper} {a : Act} {Q : Exit → Act → World → Prop} {w0 ws : World} (hgd : o.guard = none) (s x : Operand)
    (ho : o.op = .call { callee := .builtin .append, args := #[s, x], argTypes := #[22, 22] }) (va : Value) (xs ys : List Nat) (ad : Addr) (m c : Nat) (hs : a.eval s = va) (hx : a.eval x = .slice (some ad) m c) (hm : ys.length = m)
    (hA : StB w0 ws va xs) (hnews : ∀ j, j < ys.length → ws.cell? (ad.add j) = some (bv (ys.getD j 0))) (hlen : (xs.length + m) ≤ 140737488355328)
    (h : ∀ v' w', StB w0 w' v' (xs ++ ys) → wpList Try.prog ops Q rest (a.put o.dst v') w') : wpList Try.prog ops Q (o :: rest) a ws := by
  obtain ⟨i0, hi, hz0, hz1, hz2⟩ := info_parts info5
  refine wpList_append_own_at ws hgd s x 22 ho w0.heap.size 5 i0 (.int .u8 0) 1 1 Try.underlying22 hi hz0 hz1 hz2 rfl (by decide) va xs.length (xs.map bv) hs hA.own ad m c (ys.map bv) hx (by rw [List.length_map]; omega) (bytes_news hnews) (bytes_one ys) (by unfold maxLen; omega) (by omega) hA.bel.size ?_
  intro v' w' h2 h3 _ h5
  exact h v' w' ⟨by rw [List.length_append, List.map_append, hm]; exact h2, hA.bel.grown h3 hA.bel.size (fun k e => (hA.own.lt k e).1)⟩

theorem held_appB {md : Region.Mode} {ops : Array Oper} {Q : Exit → Act → World → Prop} {S : World → Prop} {P : Program} {o : Oper} {fuel : Nat} {listed : Array Bool} {l : List Value} {df : List Deferred} {w0 w : World} (i d : Nat) (s x : Operand) (hr : Region.ready md ops listed = [i]) (hi : ops[i]? = some o) (hd : o.dst = some d)
    (hw : Region.wanted o (yielded ops l.toArray) = true) (ho : o.op = .call { callee := .builtin .append, args := #[s, x], argTypes := #[22, 22] }) (hP : P = Try.prog)
    (va : Value) (xs ys : List Nat) (ad : Addr) (m c : Nat) (hs : Act.eval ⟨l.toArray, df⟩ s = va) (hx : Act.eval ⟨l.toArray, df⟩ x = .slice (some ad) m c) (hm : ys.length = m)
    (hA : StB w0 w va xs) (hnews : ∀ j, j < ys.length → w.cell? (ad.add j) = some (bv (ys.getD j 0))) (hlen : xs.length + m ≤ 140737488355328) (hS : ∀ w', Below w0.heap.size w0 w' → S w')
    (h : ∀ v' w', StB w0 w' v' (xs ++ ys) → wpAnyH P md ops Q S fuel (listed.setIfInBounds i true) ⟨(l.set d v').toArray, df⟩ w') : wpAnyH P md ops Q S (fuel + 1) listed ⟨l.toArray, df⟩ w := by
  subst hP
  obtain ⟨i0, hii, hz0, hz1, hz2⟩ := info_parts info5
  refine wpAnyH_ready hr (by simp) (AllReadyH.cons hi (fun K hK => ?_) AllReadyH.nil)
  rw [if_pos hw]
  obtain ⟨v', w', hr', h2, h3, _, _⟩ := run_append_own_at (P := Try.prog) w w0.heap.size 22 o.type 5 i0 (.int .u8 0) 1 1 Try.underlying22 hii hz0 hz1 hz2 rfl (by decide) va xs.length (xs.map bv) hA.own ad m c (ys.map bv) (by rw [List.length_map]; omega) (bytes_news hnews) (bytes_one ys) (by unfold maxLen; omega) (by omega) hA.bel.size
  have h5 : StB w0 w' v' (xs ++ ys) := ⟨by rw [List.length_append, List.map_append, hm]; exact h2, hA.bel.grown h3 hA.bel.size (fun k e => (hA.own.lt k e).1)⟩
  have e : Act.put (⟨l.toArray, df⟩ : Act) o.dst v' = ⟨(l.set d v').toArray, df⟩ := by rw [hd]; simp [Act.put]
  have h6 := hK.out _ _ (hS w' h5.bel) (fun _ => h _ w' h5)
  rw [← e] at h6
  unfold Oper.wp execOp
  simp only [ho, resolve, invoke, builtin, Sem.run_bind, Sem.run_pure, Result.andThen_ok, List.map_toArray, List.map_cons, List.map_nil, hs, hx, hr']
  exact h6

theorem bytes_from {l : List Nat} {w : World} {g off k : Nat} (h : BytesIn w (some ⟨g, off, none⟩) l) : ∀ j, j < (l.drop k).length → w.cell? ((⟨g, off + k, none⟩ : Addr).add j) = some (bv ((l.drop k).getD j 0)) := by
  intro j hj
  rw [List.length_drop] at hj
  obtain ⟨g', off', e1, c1⟩ := h (k + j) (by omega)
  obtain ⟨rfl, rfl⟩ : g = g' ∧ off = off' := by simpa using e1
  rw [drop_getD]
  have e : (⟨g, off + k, none⟩ : Addr).add j = ⟨g, off + (k + j), none⟩ := by simp [Addr.add, Nat.add_assoc]
  rw [e]
  exact c1

theorem bytes_upto {l : List Nat} {w : World} {g off k : Nat} (h : BytesIn w (some ⟨g, off, none⟩) l) : ∀ j, j < (l.take k).length → w.cell? ((⟨g, off, none⟩ : Addr).add j) = some (bv ((l.take k).getD j 0)) := by
  intro j hj
  rw [List.length_take] at hj
  obtain ⟨g', off', e1, c1⟩ := h j (by omega)
  obtain ⟨rfl, rfl⟩ : g = g' ∧ off = off' := by simpa using e1
  have e : (⟨g, off, none⟩ : Addr).add j = ⟨g, off + j, none⟩ := by simp [Addr.add]
  have e2 : (l.take k).getD j 0 = l.getD j 0 := by rw [List.getD_eq_getElem?_getD, List.getElem?_take, if_pos (by omega), List.getD_eq_getElem?_getD]
  rw [e, e2]
  exact c1

set_option maxHeartbeats 8000000 in
theorem front_ok (l : List Nat) (g off cap k : Nat) (w : World) (hc : BytesIn w (some ⟨g, off, none⟩) l) (hn : l.length ≤ 1048576) (hk : k < l.length) (hcap : l.length ≤ cap) :
    Calls Try.prog 32 #[.slice (some ⟨g, off, none⟩) l.length cap, .int .i64 (k : Int)] w fun e w' => ∃ v, e = .returned v ∧ StB w w' v (toFront l k) := by
  have HC := hide hc
  obtain ⟨g', off', e1, c1⟩ := hc k hk
  obtain ⟨rfl, rfl⟩ : g = g' ∧ off = off' := by simpa using e1
  obtain ⟨n, hN⟩ : ∃ n, n = l.length := ⟨_, rfl⟩
  have HN := hide hN
  rw [← hN] at hn hcap hk ⊢
  clear hN hc e1
  have t1 : (k : Int) < (n : Int) := by omega
  have t2 : (k : Int) + 1 ≤ (n : Int) := by omega
  have t3 : (k : Int) ≤ (cap : Int) := by omega
  obtain ⟨z, hz⟩ : ∃ z, z = l.getD k 0 := ⟨_, rfl⟩
  rw [← hz] at c1
  have HZ := hide hz
  clear hz
  go_enter Try.func32, Try.ntmps32
  go_upto_region 1 with fail
  go_cut [5] (fun v5 wc => StB w wc v5 (z :: l.take k))
  case first =>
    refine wp_region_noPanic ?_
    refine wp_region_held_drew (S := fun x => x.cell? ⟨g, off + k, none⟩ = some (.int .u8 (z : Int))) (by kernel_rfl) c1 (fun hHeld => ?_)
    obtain ⟨x1, hx1⟩ : ∃ x1, x1 = w.drew := ⟨_, rfl⟩
    show wpAnyH _ _ _ _ _ _ _ _ w.drew
    have HB1 : Hid (Below w.heap.size w x1) := hide (by rw [hx1]; exact drewN_below (Below.refl _ _) 1)
    rw [← hx1] at hHeld ⊢
    clear hx1
    refine held_take 0 6 rfl rfl (by kernel_rfl) (by kernel_rfl) (by kernel_rfl) (by rfl) hHeld noPanic_panic (v := ?_) (fun x hSx => ?_) ?_
    rotate_left 1
    · go_simp <;> with_reducible rfl
    simp only [List.set_cons_zero, List.set_cons_succ]
    refine held_take 1 7 rfl rfl (by kernel_rfl) (by kernel_rfl) (by kernel_rfl) (by rfl) hHeld noPanic_panic (v := ?_) (fun x hSx => ?_) ?_
    rotate_left 1
    · go_simp <;> with_reducible rfl
    simp only [List.set_cons_zero, List.set_cons_succ]
    refine held_take 2 8 rfl rfl (by kernel_rfl) (by kernel_rfl) (by kernel_rfl) (by rfl) hHeld noPanic_panic (v := ?_) (fun x hSx => ?_) ?_
    rotate_left 1
    · go_simp <;> with_reducible rfl
    simp only [List.set_cons_zero, List.set_cons_succ]
    refine held_take 3 9 rfl rfl (by kernel_rfl) (by kernel_rfl) (by kernel_rfl) (by rfl) hHeld noPanic_panic (v := ?_) (fun x hSx => ?_) ?_
    rotate_left 1
    · go_simp <;> with_reducible rfl
    simp only [List.set_cons_zero, List.set_cons_succ]
    refine held_take 5 11 rfl rfl (by kernel_rfl) (by kernel_rfl) (by kernel_rfl) (by rfl) hHeld noPanic_panic (v := ?_) (fun x hSx => ?_) ?_
    rotate_left 1
    · go_simp <;> with_reducible rfl
    simp only [List.set_cons_zero, List.set_cons_succ]
    refine held_take 6 12 rfl rfl (by kernel_rfl) (by kernel_rfl) (by kernel_rfl) (by rfl) hHeld noPanic_panic (v := ?_) (fun x hSx => ?_) ?_
    rotate_left 1
    · go_simp <;> with_reducible rfl
    simp only [List.set_cons_zero, List.set_cons_succ]
    refine held_take 7 13 rfl rfl (by kernel_rfl) (by kernel_rfl) (by kernel_rfl) (by rfl) hHeld noPanic_panic (v := .slice (some ⟨g, off, none⟩) k cap) (fun x hSx => ?_) ?_
    · go_simp
    simp only [List.set_cons_zero, List.set_cons_succ]
    refine held_one 4 10 (by kernel_rfl) rfl rfl (by rfl) (v := .slice (some ⟨x1.heap.size, 0, none⟩) 1 1) (w' := x1.alloc (.cells #[bv z] 5)) ?_ (by rw [World.cell?_alloc_some _ _ _ (by rw [hHeld]; rfl)]; exact hHeld) ?_
    · first | (go_simp; done) | (go_simp <;> first | exact ⟨rfl, rfl⟩ | rfl)
    simp only [List.set_cons_zero, List.set_cons_succ]
    have hA1 : StB w (x1.alloc (.cells #[bv z] 5)) (.slice (some ⟨x1.heap.size, 0, none⟩) 1 1) [z] := ⟨⟨rfl, .inr ⟨x1.heap.size, 1, #[bv z], rfl, (unhide HB1).size, heap_alloc_new _ _, by simp, by decide, rfl, rfl⟩⟩, (unhide HB1).alloc (unhide HB1).size _⟩
    refine held_appB 8 14 _ _ (by kernel_rfl) rfl rfl (by rfl) rfl rfl _ [z] (l.take k) ⟨g, off, none⟩ k cap (by rfl) (by rfl) (by rw [List.length_take, ← unhide HN]; omega) hA1 (bytes_upto ((unhide HC).stays hA1.bel)) (by simp; omega) (fun w' h => by rw [h.cell (cell_lt c1)]; exact c1) ?_
    intro v' w' hA2
    have hS2 : w'.cell? ⟨g, off + k, none⟩ = some (.int .u8 (z : Int)) := by rw [hA2.bel.cell (cell_lt c1)]; exact c1
    have HA2 := hide hA2
    clear hA2 hA1
    simp only [List.set_cons_zero, List.set_cons_succ]
    refine held_one 9 5 (by kernel_rfl) rfl rfl (by rfl) (v := v') (w' := w') ?_ hS2 ?_
    · go_simp
    simp only [List.set_cons_zero, List.set_cons_succ]
    refine wpAnyH_done (by kernel_rfl) ?_ _
    refine NoPanic.normal ?_
    go_wp2_with fail
    go_meet
    exact unhide HA2
  case rest =>
    have HM := hide hcut
    clear hcut
    have HLT : Hid ((z :: l.take k).length = k + 1) := hide (by rw [List.length_cons, List.length_take, ← unhide HN, Nat.min_eq_left (by omega)])
    have HF : Hid (z :: l.take k ++ l.drop (k + 1) = toFront l k) := hide (by unfold toFront; rw [unhide HZ]; rfl)
    by_cases hcz : cap = k + 1
    · have hnk : n = k + 1 := by omega
      subst hcz
      have HD : Hid ((l.drop (k + 1)).length = 0) := hide (by rw [List.length_drop, ← unhide HN]; omega)
      clear hcap hk
      subst hnk
      go_wp2_with (at_builtin; refine wp_appB rfl _ _ rfl _ _ (l.drop (k + 1)) ⟨g, off, none⟩ 0 0 (by rfl) (by rfl) (unhide HD) (unhide HM) (fun j hj => absurd hj (by have := unhide HD; omega)) (by rw [unhide HLT]; omega) ?_; intro v' w' hv; have HV := hide hv; clear hv)
      go_ret
      exact ⟨_, rfl, by rw [← unhide HF]; exact unhide HV⟩
    · have hcz' : ¬ (cap : Int) = (k : Int) + 1 := by omega
      have HD : Hid ((l.drop (k + 1)).length = n - (k + 1)) := hide (by rw [List.length_drop, ← unhide HN])
      go_wp2_with (at_builtin; refine wp_appB rfl _ _ rfl _ _ (l.drop (k + 1)) ⟨g, off + (k + 1), none⟩ (n - (k + 1)) (cap - (k + 1)) (by rfl) (by rfl) (unhide HD) (unhide HM) (bytes_from ((unhide HC).stays (unhide HM).bel)) (by rw [unhide HLT]; omega) ?_; intro v' w' hv; have HV := hide hv; clear hv)
      go_ret
      exact ⟨_, rfl, by rw [← unhide HF]; exact unhide HV⟩

end Go.Proofs.Ytgafabhhalhccaa
