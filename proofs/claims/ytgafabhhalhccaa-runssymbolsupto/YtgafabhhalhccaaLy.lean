/- The law RunsSymbols, walked. -/
import Derived.Test.YtgafabhhalhccaaSa
namespace Go.Proofs.Ytgafabhhalhccaa
open Go.RowKit Runs
set_option maxRecDepth 100000
set_option linter.unusedVariables false
attribute [local go_sem ↓] Go.wp_at_zero Go.wp_at_succ

theorem stI_lies {w0 w : World} {v : Value} {xs : List Int} (h : St w0 w v (xs.map iv)) : ∃ a0 cap, v = .slice a0 xs.length cap ∧ xs.length ≤ cap ∧ IntsIn w a0 xs := by
  obtain ⟨a0, cap, e, hi⟩ := h.lies
  refine ⟨a0, cap, e, ?_, hi⟩
  rcases h.own.2 with ⟨e1, e2⟩ | ⟨g, cap', cur, e1, hb, hh, hn, _⟩
  · rw [List.length_map] at e2; omega
  · rw [List.length_map] at hn
    rw [e1] at e
    injection e with _ _ e3
    omega

theorem cat_run {ws : World} (T : TypeId) (b : List Int) (a0 : Option Addr) (n cap : Nat) (hn : b.length = n) (hsrc : SrcI ws a0 cap b) (hlen : b.length ≤ 1048576) :
    ∃ v' w', (Builtin.append_ #[32, 32] T #[.slice (some ⟨ws.heap.size, 0, none⟩) 0 0, .slice a0 n cap]).run Try.prog (ws.alloc (.cells #[] 3)) = .ok v' w' ∧ St ws w' v' (b.map iv) := by
  obtain ⟨i0, hi, hz0, hz1, hz2⟩ := info_parts info3'
  have hbel : Below ws.heap.size ws (ws.alloc (.cells #[] 3)) := (Below.refl _ _).alloc (Nat.le_refl _) _
  have hown := World.ownsRow_made (base := ws.heap.size) (e := 3) (size := 1) ws #[] 0 (Nat.le_refl _) (by unfold maxLen; omega) rfl
  rcases hsrc with ⟨rfl, rfl, rfl⟩ | ⟨ad, rfl, hc⟩
  · simp at hn
    subst hn
    exact ⟨_, _, run_append_owned_none (P := Try.prog) (w := ws.alloc (.cells #[] 3)) ws.heap.size 32 T 3 i0 1 Try.underlying32 hi _ 0 [] hown, ⟨hown, hbel⟩⟩
  · obtain ⟨v', w', hr', h2, h3, _, _⟩ := run_append_own_at (P := Try.prog) (ws.alloc (.cells #[] 3)) ws.heap.size 32 T 3 i0 (.int .i64 0) 1 8 Try.underlying32 hi hz0 hz1 hz2 rfl (by decide) _ 0 [] hown ad n cap (b.map iv) (by rw [List.length_map]; omega) (fun j u hj => cell_stays hbel (hc j u hj)) (by intro u hu; obtain ⟨z, _, rfl⟩ := List.mem_map.1 hu; rfl) (by unfold maxLen; omega) (by omega) hbel.size
    exact ⟨v', w', hr', ⟨by rw [List.length_map, hn]; simpa using h2, hbel.grown h3 hbel.size (fun k e => by have := Option.some.inj e; subst this; exact Nat.le_refl _)⟩⟩

theorem held_catI {md : Region.Mode} {ops : Array Oper} {Q : Exit → Act → World → Prop} {S : World → Prop} {P : Program} {o : Oper} {fuel : Nat} {listed : Array Bool} {l : List Value} {df : List Deferred} {ws : World} (i d : Nat) (s x : Operand) (hr : Region.ready md ops listed = [i]) (hi : ops[i]? = some o) (hd : o.dst = some d)
    (hw : Region.wanted o (yielded ops l.toArray) = true) (ho : o.op = .call { callee := .builtin .append, args := #[s, x], argTypes := #[32, 32] }) (hP : P = Try.prog)
    (b : List Int) (a0 : Option Addr) (n cap : Nat) (hs : Act.eval ⟨l.toArray, df⟩ s = .slice (some ⟨ws.heap.size, 0, none⟩) 0 0) (hx : Act.eval ⟨l.toArray, df⟩ x = .slice a0 n cap) (hn : b.length = n)
    (hsrc : SrcI ws a0 cap b) (hlen : b.length ≤ 1048576) (hS : ∀ w', Below ws.heap.size ws w' → S w')
    (h : ∀ v' w', St ws w' v' (b.map iv) → wpAnyH P md ops Q S fuel (listed.setIfInBounds i true) ⟨(l.set d v').toArray, df⟩ w') : wpAnyH P md ops Q S (fuel + 1) listed ⟨l.toArray, df⟩ (ws.alloc (.cells #[] 3)) := by
  subst hP
  refine wpAnyH_ready hr (by simp) (AllReadyH.cons hi (fun K hK => ?_) AllReadyH.nil)
  rw [if_pos hw]
  obtain ⟨v', w', hr', h5⟩ := cat_run o.type b a0 n cap hn hsrc hlen
  have e : Act.put (⟨l.toArray, df⟩ : Act) o.dst v' = ⟨(l.set d v').toArray, df⟩ := by rw [hd]; simp [Act.put]
  have h6 := hK.out _ _ (hS w' h5.bel) (fun _ => h _ w' h5)
  rw [← e] at h6
  unfold Oper.wp execOp
  simp only [ho, resolve, invoke, builtin, Sem.run_bind, Sem.run_pure, Result.andThen_ok, List.map_toArray, List.map_cons, List.map_nil, hs, hx, hr']
  exact h6

theorem placesOut_len (ss : List Int) (n most : Int) (h : ss.length ≤ 2000000) : (placesOut ss n most).1.length ≤ 10000000000000 := by
  unfold placesOut
  split
  · simp
  · by_cases hz : (plcI n most ss 0 0 []).2 = 0
    · have := (plcI_mono n most ss 0 0 [] (plcI n most ss 0 0 []).1 (by omega) (Prod.ext rfl hz)).2
      simp at this
      omega
    · rw [plcI_err n most ss 0 0 [] hz]; simp

theorem plcI_code (n m : Int) : ∀ (ss : List Int) (run k : Nat) (out : List Int), (plcI n m ss run k out).2 ≤ 15
  | [], run, k, out => by
    rw [plcI]
    split <;> simp
  | s :: l, run, k, out => by
    rw [plcI]
    by_cases h1 : s = 0 ∨ s = 1
    · rw [if_pos h1]
      by_cases h2 : k = 20
      · rw [if_pos h2]; simp
      · rw [if_neg h2]
        exact plcI_code n m l _ _ _
    · rw [if_neg h1]
      by_cases h2 : m - (out.length : Int) < (run : Int)
      · rw [if_pos h2]; simp
      · rw [if_neg h2]
        by_cases h3 : s < 0 ∨ n + 1 < s
        · rw [if_pos h3]; simp
        · rw [if_neg h3]
          by_cases h4 : s = n + 1
          · rw [if_pos h4]
            by_cases h5 : l = []
            · rw [if_pos h5]; simp
            · rw [if_neg h5]; simp
          · rw [if_neg h4]
            by_cases h5 : ((out.length + run : Nat) : Int) = m
            · rw [if_pos h5]; simp
            · rw [if_neg h5]
              exact plcI_code n m l _ _ _

theorem placesOut_code (ss : List Int) (n most : Int) : (placesOut ss n most).2 ≤ 15 := by
  unfold placesOut
  split
  · simp
  · exact plcI_code ..

theorem symI_code (n : Int) : ∀ (ps : List Int) (run : Nat) (out : List Int), (symI n ps run out).2 ≤ 2
  | [], run, out => by rw [symI]; simp
  | p :: r, run, out => by
    rw [symI]
    split
    · simp
    · split
      · exact symI_code ..
      · exact symI_code ..

theorem symOut_code (ps : List Int) (n : Int) : (symOut ps n).2 ≤ 2 := by
  unfold symOut
  split
  · simp
  · exact symI_code ..

set_option maxHeartbeats 8000000 in
theorem symbols_law (a0 : Option Addr) (c0 : Nat) (ps : List Int) (n : Int) (a1 : Option Addr) (c1 : Nat) (ss : List Int) (N most : Int) (w : World)
    (hr0 : SrcI w a0 c0 ps) (hl0 : ps.length ≤ 1048576) (hr1 : SrcI w a1 c1 ss) (hl1 : ss.length ≤ 1048576) (hc1 : ss.length ≤ c1) (hm2 : most ≤ 9223372036854775807) (hm1 : -9223372036854775808 ≤ most) :
    Calls Try.prog 5 #[.slice a0 ps.length c0, .int .i64 n, .agg #[.slice a1 ss.length c1, .int .i64 N, .int .i64 most]] w fun e w' => e = .returned (.bool true) ∧ Below w.heap.size w w' := by
  obtain ⟨wt, hwt⟩ : ∃ wt, wt = w.alloc (.cells #[.slice a1 ss.length c1, .int .i64 N, .int .i64 most] 40) := ⟨_, rfl⟩
  have hbt : Below w.heap.size w wt := by rw [hwt]; exact (Below.refl _ _).alloc (Nat.le_refl _) _
  have HBT := hide hbt
  have hst : w.heap.size + 1 = wt.heap.size := by rw [hwt]; simp
  have HC0 : Hid (wt.heap[w.heap.size]? = some (.cells #[.slice a1 ss.length c1, .int .i64 N, .int .i64 most] 40)) := hide (by rw [hwt]; exact heap_alloc_new _ _)
  have HR0 := hide (hr0.stays hbt)
  have HR1 := hide (hr1.stays hbt)
  have HSL : Hid ((symOut ps n).1.length ≤ 10000000000000) := hide (by have := symOut_len ps n; omega)
  have HPL := hide (placesOut_len ss N most (by omega))
  have hcy := symOut_code ps n
  have hcp := placesOut_code ss N most
  have HPS := hide (fun a c W (h : IntsIn W a ps) => psymbols_ok ps a c n W h hl0)
  have HRS := hide (fun a c W (h : IntsIn W a ps) => symbols_ok ps a c n W h hl0)
  have HPP := hide (fun a c W (h : IntsIn W a ss) (hc : ss.length ≤ c) => pplaces_ok ss a c N most W h hc (by omega) hm2)
  have HRP := hide (fun a c W (h : IntsIn W a ss) => places_ok ss a c N most W h hl1 hm2 hm1)
  obtain ⟨np, hnp⟩ : ∃ np, np = ps.length := ⟨_, rfl⟩
  obtain ⟨ns, hns⟩ : ∃ ns, ns = ss.length := ⟨_, rfl⟩
  have HNP := hide hnp
  have HNS := hide hns
  rw [← hnp] at hl0 HPS HRS
  rw [← hns] at hl1 hc1 HPP HRP HC0 hwt
  rw [← hnp, ← hns]
  clear hnp hns hr0 hr1
  obtain ⟨⟨yl, yc⟩, hY⟩ : ∃ O, O = symOut ps n := ⟨_, rfl⟩
  obtain ⟨⟨pl, pc⟩, hP⟩ : ∃ O, O = placesOut ss N most := ⟨_, rfl⟩
  rw [← hY] at hcy HSL HPS HRS
  rw [← hP] at hcp HPL HPP HRP
  clear hY hP
  have HB_w := hide (Below.refl wt.heap.size wt)
  obtain ⟨gt, hgt⟩ : ∃ gt, gt = w.heap.size := ⟨_, rfl⟩
  have HGT := hide hgt
  go_enter Try.func5, Try.ntmps5
  go_upto_region 1 with fail
  rw [← hwt, ← hgt]
  rw [← hgt] at HC0 hst
  clear hwt hgt hbt
  go_wp2_with (at_builtin; refine wp_catI rfl _ _ rfl ps a0 np c0 (by rfl) (by rfl) (unhide HNP).symm ((unhide HR0).stays (unhide HB_w)) (by rw [← unhide HNP]; exact hl0) ?_; intro v1 x1 h1; have HV1 := hide h1; clear h1)
  have HB_x1 := hide ((unhide HB_w).trans ((unhide HV1).bel.mono (unhide HB_w).size))
  obtain ⟨va1, vc1, e1, hvc1, hii1⟩ := stI_lies (unhide HV1)
  subst e1
  rw [← unhide HNP]
  have HII1 := hide hii1
  have sx1 := (unhide HV1).bel.size
  clear hii1 hvc1 HV1
  go_wp2_with fail
  refine (unhide HPS _ _ _ (unhide HII1)).mono ?_
  rintro e w1 ⟨s1, rfl, hst⟩
  have HS1 := hide hst.toRowI
  have HB_w1 := hide ((unhide HB_x1).trans (hst.bel.mono (unhide HB_x1).size))
  have HII2 := hide ((unhide HII1).stays hst.bel)
  have sw1 := hst.bel.size
  clear hst HII1
  go_wp2_with fail
  refine (unhide HPS _ _ _ (unhide HII2)).mono ?_
  rintro e w2 ⟨s2, rfl, hst⟩
  have HS2 := hide hst.toRowI
  have HS1b := hide ((unhide HS1).of_below hst.bel)
  have HB_w2 := hide ((unhide HB_w1).trans (hst.bel.mono (unhide HB_w1).size))
  have sw2 := hst.bel.size
  clear hst HII2 HS1
  go_wp2_with fail
  refine (unhide HRS _ _ _ ((unhide HR0).stays (unhide HB_w2)).ints).mono ?_
  rintro e w3 ⟨s3, rfl, hst⟩
  have HS3 := hide hst.toRowI
  have HS1c := hide ((unhide HS1b).of_below hst.bel)
  have HS2c := hide ((unhide HS2).of_below hst.bel)
  have HB_w3 := hide ((unhide HB_w2).trans (hst.bel.mono (unhide HB_w2).size))
  have sw3 := hst.bel.size
  clear hst HS1b HS2
  have HC3 : Hid (∀ W, Below wt.heap.size wt W → W.cell? ⟨gt, 0, none⟩ = some (.slice a1 ns c1) ∧ W.cell? ⟨gt, 1, none⟩ = some (.int .i64 N) ∧ W.cell? ⟨gt, 2, none⟩ = some (.int .i64 most)) := hide fun W hW => by
    have hh : W.heap[gt]? = _ := (hW.block gt (heap_lt (unhide HC0))).trans (unhide HC0)
    simp only [World.cell?, hh]
    exact ⟨rfl, rfl, rfl⟩
  go_wp2_with fail
  go_cut [14, 15] from 39 to 51 (fun v14 v15 wc => Hid (v15 = .int .i64 (pc : Int) ∧ ∃ wx, Below w3.heap.size w3 wx ∧ St wx wc v14 (pl.map iv)))
  case first =>
    refine wp_region_noPanic ?_
    refine wp_region_held_drew (S := fun x => x.cell? ⟨gt, 0, none⟩ = some (.slice a1 ns c1) ∧ x.cell? ⟨gt, 1, none⟩ = some (.int .i64 N) ∧ x.cell? ⟨gt, 2, none⟩ = some (.int .i64 most)) (by kernel_rfl) (unhide HC3 w3 (unhide HB_w3)) (fun hHeld => ?_)
    obtain ⟨x1, hx1⟩ : ∃ x1, x1 = w3.drew := ⟨_, rfl⟩
    show wpAnyH _ _ _ _ _ _ _ _ w3.drew
    have HB31 : Hid (Below w3.heap.size w3 x1) := hide (by rw [hx1]; exact drewN_below (Below.refl _ _) 1)
    have HBX1 : Hid (Below wt.heap.size wt x1) := hide ((unhide HB_w3).trans ((unhide HB31).mono (unhide HB_w3).size))
    rw [← hx1] at hHeld ⊢
    clear hx1
    refine held_take 1 41 rfl rfl (by kernel_rfl) (by kernel_rfl) (by kernel_rfl) (by rfl) hHeld noPanic_panic (v := ?_) (fun x hSx => ?_) ?_
    rotate_left 1
    · (obtain ⟨s0, s1, s2⟩ := hSx; go_simp <;> with_reducible rfl)
    simp only [List.set_cons_zero, List.set_cons_succ]
    refine held_take 2 42 rfl rfl (by kernel_rfl) (by kernel_rfl) (by kernel_rfl) (by rfl) hHeld noPanic_panic (v := ?_) (fun x hSx => ?_) ?_
    rotate_left 1
    · (obtain ⟨s0, s1, s2⟩ := hSx; go_simp <;> with_reducible rfl)
    simp only [List.set_cons_zero, List.set_cons_succ]
    refine held_take 4 44 rfl rfl (by kernel_rfl) (by kernel_rfl) (by kernel_rfl) (by rfl) hHeld noPanic_panic (v := ?_) (fun x hSx => ?_) ?_
    rotate_left 1
    · (obtain ⟨s0, s1, s2⟩ := hSx; go_simp <;> with_reducible rfl)
    simp only [List.set_cons_zero, List.set_cons_succ]
    refine held_take 5 45 rfl rfl (by kernel_rfl) (by kernel_rfl) (by kernel_rfl) (by rfl) hHeld noPanic_panic (v := ?_) (fun x hSx => ?_) ?_
    rotate_left 1
    · (obtain ⟨s0, s1, s2⟩ := hSx; go_simp <;> with_reducible rfl)
    simp only [List.set_cons_zero, List.set_cons_succ]
    refine held_take 6 46 rfl rfl (by kernel_rfl) (by kernel_rfl) (by kernel_rfl) (by rfl) hHeld noPanic_panic (v := ?_) (fun x hSx => ?_) ?_
    rotate_left 1
    · (obtain ⟨s0, s1, s2⟩ := hSx; go_simp <;> with_reducible rfl)
    simp only [List.set_cons_zero, List.set_cons_succ]
    refine held_take 7 47 rfl rfl (by kernel_rfl) (by kernel_rfl) (by kernel_rfl) (by rfl) hHeld noPanic_panic (v := ?_) (fun x hSx => ?_) ?_
    rotate_left 1
    · (obtain ⟨s0, s1, s2⟩ := hSx; go_simp <;> with_reducible rfl)
    simp only [List.set_cons_zero, List.set_cons_succ]
    have hb2 : Below x1.heap.size x1 (x1.alloc (.cells #[] 3)) := (Below.refl _ _).alloc (Nat.le_refl _) _
    have hHeld := unhide HC3 _ ((unhide HBX1).trans (hb2.mono (unhide HBX1).size))
    refine held_one 0 40 (by kernel_rfl) rfl rfl (by rfl) (v := .slice (some ⟨x1.heap.size, 0, none⟩) 0 0) (w' := x1.alloc (.cells #[] 3)) ?_ hHeld ?_
    · first | (go_simp; done) | (go_simp <;> first | exact ⟨rfl, rfl⟩ | rfl)
    simp only [List.set_cons_zero, List.set_cons_succ]
    clear hHeld hb2
    refine held_catI 3 43 _ _ (by kernel_rfl) rfl rfl (by rfl) rfl rfl ss a1 ns c1 (by rfl) (by rfl) (unhide HNS).symm ((unhide HR1).stays (unhide HBX1)) (by rw [← unhide HNS]; exact hl1) (fun w' h => unhide HC3 w' ((unhide HBX1).trans (h.mono (unhide HBX1).size))) ?_
    intro v4 x4 h4
    have HBX4 := hide ((unhide HBX1).trans (h4.bel.mono (unhide HBX1).size))
    have HB34 := hide ((unhide HB31).trans (h4.bel.mono (unhide HB31).size))
    obtain ⟨va4, vc4, e4, hvc4, hii4⟩ := stI_lies h4
    subst e4
    rw [← unhide HNS] at hvc4 ⊢
    have HII4 := hide hii4
    clear hii4 h4
    simp only [List.set_cons_zero, List.set_cons_succ]
    refine held_enter 8 48 (by kernel_rfl) rfl rfl (by rfl) (by go_simp <;> exact ⟨rfl, rfl⟩) ?_
    refine (unhide HPP _ _ _ (unhide HII4) hvc4).mono ?_
    rintro e w5 ⟨p1, rfl, hst⟩
    have hHeld := unhide HC3 w5 ((unhide HBX4).trans (hst.bel.mono (unhide HBX4).size))
    refine ⟨_, rfl, hHeld, ?_⟩
    have HST := hide hst
    clear hst
    simp only [List.set_cons_zero, List.set_cons_succ]
    refine held_take 9 39 rfl rfl (by kernel_rfl) (by kernel_rfl) (by kernel_rfl) (by rfl) hHeld noPanic_panic (v := ?_) (fun x hSx => ?_) ?_
    rotate_left 1
    · (obtain ⟨s0, s1, s2⟩ := hSx; go_simp <;> with_reducible rfl)
    simp only [List.set_cons_zero, List.set_cons_succ]
    refine held_take 10 49 rfl rfl (by kernel_rfl) (by kernel_rfl) (by kernel_rfl) (by rfl) hHeld noPanic_panic (v := ?_) (fun x hSx => ?_) ?_
    rotate_left 1
    · (obtain ⟨s0, s1, s2⟩ := hSx; go_simp <;> with_reducible rfl)
    simp only [List.set_cons_zero, List.set_cons_succ]
    refine held_take 11 50 rfl rfl (by kernel_rfl) (by kernel_rfl) (by kernel_rfl) (by rfl) hHeld noPanic_panic (v := ?_) (fun x hSx => ?_) ?_
    rotate_left 1
    · (obtain ⟨s0, s1, s2⟩ := hSx; go_simp <;> with_reducible rfl)
    simp only [List.set_cons_zero, List.set_cons_succ]
    refine held_take 12 14 rfl rfl (by kernel_rfl) (by kernel_rfl) (by kernel_rfl) (by rfl) hHeld noPanic_panic (v := ?_) (fun x hSx => ?_) ?_
    rotate_left 1
    · (obtain ⟨s0, s1, s2⟩ := hSx; go_simp <;> with_reducible rfl)
    simp only [List.set_cons_zero, List.set_cons_succ]
    refine held_take 13 15 rfl rfl (by kernel_rfl) (by kernel_rfl) (by kernel_rfl) (by rfl) hHeld noPanic_panic (v := ?_) (fun x hSx => ?_) ?_
    rotate_left 1
    · (obtain ⟨s0, s1, s2⟩ := hSx; go_simp <;> with_reducible rfl)
    simp only [List.set_cons_zero, List.set_cons_succ]
    refine wpAnyH_done (by kernel_rfl) ?_ _
    refine NoPanic.normal ?_
    go_wp2_with fail
    go_meet
    exact hide ⟨rfl, x4, unhide HB34, unhide HST⟩
  case rest =>
    rename World => w5
    obtain ⟨e15, wx, hb3x, hst⟩ := unhide hcut
    subst e15
    have hsx := hb3x.size
    have HP1 := hide hst.toRowI
    have hb35 := hb3x.trans (hst.bel.mono hb3x.size)
    have HS1e := hide ((unhide HS1c).of_below hb35)
    have HS2e := hide ((unhide HS2c).of_below hb35)
    have HS3e := hide ((unhide HS3).of_below hb35)
    have HB_w5 := hide ((unhide HB_w3).trans (hb35.mono (unhide HB_w3).size))
    have sw5 := hst.bel.size
    obtain ⟨d0, d1, d2⟩ := unhide HC3 w5 (unhide HB_w5)
    clear hst hcut hb3x hb35 HS1c HS2c HS3
    go_wp2_with fail
    refine (unhide HRP _ _ _ ((unhide HR1).stays (unhide HB_w5)).ints).mono ?_
    rintro e w6 ⟨p2, rfl, hst⟩
    have HP2 := hide hst.toRowI
    have HP1f := hide ((unhide HP1).of_below hst.bel)
    have HS1f := hide ((unhide HS1e).of_below hst.bel)
    have HS2f := hide ((unhide HS2e).of_below hst.bel)
    have HS3f := hide ((unhide HS3e).of_below hst.bel)
    have HB_w6 := hide ((unhide HB_w5).trans (hst.bel.mono (unhide HB_w5).size))
    have sw6 := hst.bel.size
    have sw0 := (unhide HB_w).size
    clear hst HS1e HS2e HS3e HP1
    have fwy : IntKind.i64.wrap (yc : Int) = (yc : Int) := by rw [IntKind.wrap_i64]; omega
    have fwp : IntKind.i64.wrap (pc : Int) = (pc : Int) := by rw [IntKind.wrap_i64]; omega
    have fey : ((yc : Int) == (yc : Int)) = true := by rw [beq_iff_eq]
    have fep : ((pc : Int) == (pc : Int)) = true := by rw [beq_iff_eq]
    go_wp2_with fail
    refine (sameI_ok _ _ _ _ s1 s3 _ w6 (unhide HS1f) (unhide HS3f) (by omega) (unhide HSL)).mono ?_
    rintro e w7 ⟨rfl, c7⟩
    have HS2g := hide ((unhide HS2f).of_chg c7 (by omega))
    have HS3g := hide ((unhide HS3f).of_chg c7 (by omega))
    have HP1g := hide ((unhide HP1f).of_chg c7 (by omega))
    have HP2g := hide ((unhide HP2).of_chg c7 (by omega))
    have HB_w7 := hide (c7.below (unhide HB_w6) (by omega) (unhide HB_w6).size)
    have sw7 := c7.size
    clear c7 HS1f HS2f HS3f HP1f HP2
    go_wp2_with fail
    refine (sameI_ok _ _ _ _ s2 s3 _ w7 (unhide HS2g) (unhide HS3g) (by omega) (unhide HSL)).mono ?_
    rintro e w8 ⟨rfl, c8⟩
    have HP1h := hide ((unhide HP1g).of_chg c8 (by omega))
    have HP2h := hide ((unhide HP2g).of_chg c8 (by omega))
    have HB_w8 := hide (c8.below (unhide HB_w7) (by omega) (unhide HB_w7).size)
    have sw8 := c8.size
    clear c8 HS2g HS3g HP1g HP2g
    go_wp2_with fail
    refine (sameI_ok _ _ _ _ u14 p2 _ w8 (unhide HP1h) (unhide HP2h) (by omega) (unhide HPL)).mono ?_
    rintro e w9 ⟨rfl, c9⟩
    have HB_w9 := hide (c9.below (unhide HB_w8) (by omega) (unhide HB_w8).size)
    clear c9
    go_wp2_with fail
    refine (names_ok _).mono ?_
    rintro e w10 ⟨rfl, rfl⟩
    go_wp2_with fail
    go_ret
    exact ⟨rfl, (unhide HBT).trans ((unhide HB_w9).mono (unhide HBT).size)⟩
end Go.Proofs.Ytgafabhhalhccaa
