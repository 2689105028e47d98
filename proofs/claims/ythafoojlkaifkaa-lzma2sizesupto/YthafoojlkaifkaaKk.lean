/- visit, with the sizes kept. -/
import Derived.Test.YthafoojlkaifkaaKj
namespace Go.Proofs.Ythafoojlkaifkaa.K
open Go.RowKit H
set_option maxRecDepth 100000
set_option linter.unusedVariables false
attribute [local go_sem ↓] Go.wp_at_zero Go.wp_at_succ

theorem UB.keep {w w' : World} {ub : Nat} {gs : List Nat} (h : UB w ub) (hb : But gs w w') (hn : ub ∉ gs) : UB w' ub := by
  obtain ⟨y, hy⟩ := h
  exact ⟨y, by rw [hb.keep ub (heap_lt hy) hn]; exact hy⟩

/-- an error is told -/
theorem vis_err {R : Nat × Nat × List Nat} {lb ub : Nat} {w x : World} {er : Nat} (hR : R = (er, 0, [])) (he : er ≠ 0) (hb : But [lb] w x) (hu : w.heap.size ≤ ub) : VisIs R lb w (.returned (.tuple #[.int .i64 0, .int .i64 (er : Int)])) (x.setCell ⟨ub, 0, none⟩ (.int .i64 0)) := by
  subst hR
  refine .inl ⟨he, rfl, hb.os, hb.tape, hb.output, by have := hb.size; simp; omega, fun z hz hn => ?_⟩
  rw [heap_setCell_other _ _ _ _ (show z ≠ ub by omega), hb.keep z hz hn]

theorem UB.cells {x : World} {ub : Nat} (h : UB x ub) : ub < x.heap.size ∧ (∃ y : Int, x.cell? ⟨ub, 0, none⟩ = some (.int .i64 y)) ∧ x.frozen? ⟨ub, 0, none⟩ = false ∧ ∀ v, (x.setCell ⟨ub, 0, none⟩ v).cell? ⟨ub, 0, none⟩ = some v := by
  obtain ⟨y, hy⟩ := h
  refine ⟨heap_lt hy, ⟨y, by simp [World.cell?, hy]⟩, by simp [World.frozen?, hy], fun v => ?_⟩
  have := heap_setCell_same x ub 0 _ 3 v hy
  simp only [World.cell?, this]
  rfl

section
variable {w : World} {va : Option Addr} {vc : Nat} {zs : List Nat} {lb : Nat}

set_option maxHeartbeats 4000000 in
theorem visit_ok (hr : Reads w (.slice va zs.length vc) zs) (hcap : zs.length ≤ vc) (hbig : zs.length ≤ 1099511627776) (hsm : ∀ z ∈ zs, z < 256) (hblk : ∀ a, va = some a → 0 < zs.length → ∃ cur, w.heap[a.block]? = some (.cells cur 5 (0, 0))) (hl : w.heap[lb]? = some (.cells #[.slice none 0 0] 23 (0, 0))) :
    Calls Try.prog 8 #[.slice va zs.length vc, .func (.func 7) #[] #[], .func (.func 9) #[] #[.pointer (some ⟨lb, 0, none⟩)]] w (VisIs (vF zs (zs.length + 1) 0 true false []) lb w) := by
  obtain ⟨R, hR⟩ : ∃ R, vF zs (zs.length + 1) 0 true false [] = R := ⟨_, rfl⟩
  rw [hR]
  have HR := hide hR
  have HLW := hide (heap_lt hl)
  obtain ⟨w3, hw3⟩ : ∃ w3, w3 = ((w.alloc (.cells #[.slice va zs.length vc] 22)).alloc (.cells #[.int .i64 0] 3)).alloc (.cells #[.bool false, .bool false] 45) := ⟨_, rfl⟩
  have HB : Hid (But [] w w3) := hide (by rw [hw3]; exact (((But.refl [] w).alloc _).alloc _).alloc _)
  have HV : Hid (VAt w3 (w.heap.size + 3) lb w.heap.size (w.heap.size + 1) (w.heap.size + 1 + 1) va vc zs 0 false false [] (.slice none 0 0) w) := hide (by
    have hb := unhide HB
    have hs : w3.heap.size = w.heap.size + 3 := by rw [hw3]; simp
    have hlw := heap_lt hl
    refine ⟨⟨?_, ?_, Reads.keep hr hb (fun _ _ _ _ _ => by simp), hcap, by omega, by omega, hsm, fun a e h0 => ?_⟩, ?_, by rw [hb.keep lb hlw (by simp)]; exact hl, ⟨World.ownsRow_nil _ _ _ _, by omega⟩, by simp, hb.more (by simp), by omega⟩
    · rw [hw3, Below.heap_alloc _ _ _ (by simp; omega), Below.heap_alloc _ _ _ (by simp)]; exact heap_alloc_new _ _
    · rw [hw3, Below.heap_alloc _ _ _ (by simp)]; have := heap_alloc_new (w.alloc (.cells #[.slice va zs.length vc] 22)) (.cells #[.int .i64 0] 3); simpa using this
    · obtain ⟨cur, hc⟩ := hblk a e h0
      exact ⟨cur, by rw [hb.keep a.block (heap_lt hc) (by simp)]; exact hc⟩
    · unfold RowAt; rw [hw3]; have := heap_alloc_new ((w.alloc (.cells #[.slice va zs.length vc] 22)).alloc (.cells #[.int .i64 0] 3)) (.cells #[.bool false, .bool false] 45); simpa using this)
  clear hr hcap hblk hl hR
  go_enter Try.func8, Try.ntmps8
  go_wp2_with fail
  go_step3
  go_wp2_with fail
  obtain ⟨bb, hbb⟩ : ∃ bb, bb = w.heap.size := ⟨_, rfl⟩
  obtain ⟨ub, hub⟩ : ∃ ub, ub = w.heap.size + 1 := ⟨_, rfl⟩
  obtain ⟨rb, hrb⟩ : ∃ rb, rb = w.heap.size + 1 + 1 := ⟨_, rfl⟩
  obtain ⟨B, hB⟩ : ∃ B, B = w.heap.size + 3 := ⟨_, rfl⟩
  rw [← hB, ← hrb, ← hub, ← hbb] at HV
  rw [← hw3, ← hrb, ← hub, ← hbb]
  clear hw3 HB hB hrb hub hbb
  go_step3
  go_wp2_with fail
  go_loopg [] (zs.length + 1) (fun gk ws => ∃ (p : Nat) (bg pr : Bool) (acc : List Nat) (lv : Value), zs.length + 1 - p ≤ gk ∧ Hid (vF zs gk p (!bg) pr acc = R) ∧ Hid (VAt ws B lb bb ub rb va vc zs p bg pr acc lv w))
  case atStart => exact ⟨0, false, false, [], _, by omega, HR, HV⟩
  case round =>
    clear HR HV
    obtain ⟨p, bg, pr, acc, lv, hgk, HR, HV⟩ := hrel
    rename World => ws
    have hv := unhide HV
    have hple := hv.nk.le
    have hsm2 := hv.nk.sm
    obtain ⟨t1, t2, t3, t4, t5, t6, t7, t8⟩ := hv.lt
    have hubw : w.heap.size ≤ ub := t5
    have hnur : ub ≠ rb := ne_types hv.nk.u hv.row (by decide)
    obtain ⟨f', rfl⟩ : ∃ f', gk = f' + 1 := ⟨gk - 1, by omega⟩
    -- an error of a kind
    have HKE : Hid (∀ (er k : Nat) (x : World), er ≠ 0 → ckF zs p (!bg) pr 1099511627776 = .err er → But [ub, rb] ws x → VisIs R lb w (.returned (.tuple #[.int .i64 0, .int .i64 (er : Int)])) ((x.alloc (.cells #[.int .u8 (k : Int), .int .i64 0, .int .i64 0, .int .i64 0, .int .i64 0, .slice none 0 0] 37)).setCell ⟨ub, 0, none⟩ (.int .i64 0))) := hide fun er k x h0 h1 h2 => by
      refine vis_err (by rw [← unhide HR, vF_err h1]) h0 ?_ hubw
      refine But.alloc ?_ _
      refine ⟨h2.os.trans hv.but.os, h2.tape.trans hv.but.tape, h2.output.trans hv.but.output, Nat.le_trans hv.but.size h2.size, fun z hz hn => ?_⟩
      rw [h2.keep z (by have := hv.but.size; omega) (by simp; omega), hv.but.keep z hz hn]
    by_cases hn : zs.length < p + 1
    · have HC := hide (kind_end (rb := rb) hv.nk hn)
      have HE : Hid (ckF zs p (!bg) pr 1099511627776 = .err 10) := hide (by unfold ckF; rw [if_pos hn])
      clear hv hn t1 t2 t3 t4 t5 t6 t7 t8 hubw hnur hple hsm2 hgk
      go_wp2_with fail
      refine (unhide HC).mono ?_
      rintro e w1 ⟨⟨k, rfl⟩, hb, hu⟩
      unfold ccells
      obtain ⟨w2, hw2⟩ : ∃ w2, w2 = w1.alloc (.cells #[.int .u8 (k : Int), .int .i64 0, .int .i64 0, .int .i64 0, .int .i64 0, .slice none 0 0] 37) := ⟨_, rfl⟩
      have HU : UB w2 ub := by rw [hw2]; exact hu.keep ((But.refl [] _).alloc _) (by simp)
      obtain ⟨u0, ⟨y, u1⟩, u2, u3⟩ := HU.cells
      have HFF := hide (unhide HKE 10 k w1 (by decide) (unhide HE) hb)
      rw [← hw2] at HFF
      clear hb hu HKE HC
      go_upto_region 4 with fail
      rw [← hw2]
      clear hw2 HU
      go_wp2_with fail
      rw [Exit.noGoto_ret]
      refine bodyPost_ret (by simp [results, Try.results8, go_sem, u3]; try rfl) rfl ?_
      exact unhide HFF
    · have HC := hide (kind_ok (rb := rb) hv.nk hv.row (by omega))
      have HN : Hid (p + 1 ≤ zs.length) := hide (by omega)
      have HGK : Hid (zs.length + 1 - p ≤ f' + 1) := hide hgk
      clear hn t1 t2 t3 t4 t5 t6 t7 t8 hv hple hgk
      go_wp2_with fail
      refine (unhide HC).mono ?_
      rintro e w1 (⟨hbad, ⟨k, rfl⟩, hb, hu⟩ | ⟨hbad, rfl, h1, h2, h3⟩)
      · have HE : Hid (ckF zs p (!bg) pr 1099511627776 = .err 11) := hide (by unfold ckF; rw [if_neg (by have := unhide HN; omega), if_pos hbad])
        dsimp only [ccells]
        obtain ⟨w2, hw2⟩ : ∃ w2, w2 = w1.alloc (.cells #[.int .u8 (k : Int), .int .i64 0, .int .i64 0, .int .i64 0, .int .i64 0, .slice none 0 0] 37) := ⟨_, rfl⟩
        have HU : UB w2 ub := by rw [hw2]; exact hu.keep ((But.refl [] _).alloc _) (by simp)
        obtain ⟨u0, ⟨y, u1⟩, u2, u3⟩ := HU.cells
        have HFF := hide (unhide HKE 11 k w1 (by decide) (unhide HE) hb)
        rw [← hw2] at HFF
        clear hb hu HKE HC hbad
        go_upto_region 4 with fail
        rw [← hw2]
        clear hw2 HU
        go_wp2_with fail
        rw [Exit.noGoto_ret]
        refine bodyPost_ret (by simp [results, Try.results8, go_sem, u3]; try rfl) rfl ?_
        exact unhide HFF
      · have hvk := (unhide HV).kind h1 h2 h3
        have hvb := hvk.below (ws' := w1.alloc (.cells (ccells (zs.getD p 0) 0 0 0 0 (.slice none 0 0)) 37)) ((But.refl [] _).alloc _)
        have hc2 : CAt (w1.alloc (.cells (ccells (zs.getD p 0) 0 0 0 0 (.slice none 0 0)) 37)) w1.heap.size (zs.getD p 0) 0 0 0 0 (.slice none 0 0) := heap_alloc_new _ _
        have hcb : w.heap.size ≤ w1.heap.size := hvk.but.size
        have HB := hide hbad
        by_cases h0 : zs.getD p 0 = 0
        · have hck : ckF zs p (!bg) pr 1099511627776 = .told 0 0 (p + 1) 0 := by unfold ckF; rw [if_neg (by have := unhide HN; omega), hbad, if_neg (by simp), if_pos h0]
          have hRR : R = (0, p + 1, acc) := by rw [← unhide HR, vF_end hck]
          rw [h0] at hvb hc2 ⊢
          have HFF : Hid (∀ x, But [ub] (w1.alloc (.cells (ccells 0 0 0 0 0 (.slice none 0 0)) 37)) x → VisIs R lb w (.returned (.tuple #[.int .i64 ((p + 1 : Nat) : Int), .int .i64 0])) x) := hide fun x hx => by
            have hlt := hvb.lt
            subst hRR
            refine .inr ⟨rfl, rfl, ⟨lv, B, by omega, by rw [hx.keep lb (heap_lt hvb.l) (by simp; omega)]; exact hvb.l, hvb.ri.keep hx (fun g hg => .inl (by simp at hg; omega))⟩, ?_⟩
            refine ⟨hx.os.trans hvb.but.os, hx.tape.trans hvb.but.tape, hx.output.trans hvb.but.output, Nat.le_trans hvb.but.size hx.size, fun z hz hn => ?_⟩
            rw [hx.keep z (by have := hvb.but.size; omega) (by simp; omega), hvb.but.keep z hz hn]
          have HX2 := hide (And.intro hvb.nk hc2)
          obtain ⟨w2, hw2⟩ : ∃ w2, w2 = w1.alloc (.cells (ccells 0 0 0 0 0 (.slice none 0 0)) 37) := ⟨_, rfl⟩
          obtain ⟨cb, hcbe⟩ : ∃ cb, cb = w1.heap.size := ⟨_, rfl⟩
          rw [← hw2] at HFF HX2
          rw [← hcbe] at HX2
          have hx1 := (unhide HX2).1
          have c0 := (unhide HX2).2.c0
          have u1 : w2.cell? ⟨ub, 0, none⟩ = some (.int .i64 ((p + 1 : Nat) : Int)) := by simp [World.cell?, hx1.u]
          have u2 : w2.frozen? ⟨ub, 0, none⟩ = false := by simp [World.frozen?, hx1.u]
          have u3 : (w2.setCell ⟨ub, 0, none⟩ (.int .i64 ((p + 1 : Nat) : Int))).cell? ⟨ub, 0, none⟩ = some (.int .i64 ((p + 1 : Nat) : Int)) := hx1.ub.cells.2.2.2 _
          have HFG := hide (unhide HFF (w2.setCell ⟨ub, 0, none⟩ (.int .i64 ((p + 1 : Nat) : Int))) ((But.refl _ _).set (g := ub) (by simp) 0 _))
          clear hbad h1 h2 h3 hvk hc2 hcb h0 hck hRR HKE HC hvb hx1 HFF HN
          generalize p + 1 = p1 at *
          have hw3 : w2 = w1.alloc (.cells #[.int .u8 0, .int .i64 0, .int .i64 0, .int .i64 0, .int .i64 0, .slice none 0 0] 37) := hw2
          clear hw2
          dsimp only [ccells]
          have h00 : ((0 : Nat) : Int) = 0 := rfl
          rw [h00]
          go_upto_region 4 with fail
          rw [← hw3, ← hcbe]
          clear hw3 hcbe
          go_wp2_with fail
          try rw [Exit.noGoto_ret]
          refine bodyPost_ret (by simp [results, Try.results8, go_sem, u3]; try rfl) rfl ?_
          exact unhide HFG
        · have HC2 := hide (read_ok (first := !bg) (props := pr) hvb.nk hc2 hbad h0)
          have HCK : Hid (∀ er, ckF zs p (!bg) pr 1099511627776 = .err er → R = (er, 0, [])) := hide fun er h => by rw [← unhide HR, vF_err h]
          have HCT : Hid (∀ k n s m, ckF zs p (!bg) pr 1099511627776 = .told k n s m → vF zs f' (s + m) false (nextP k pr) (acc ++ [n]) = R ∧ p + 4 ≤ s + m ∧ k = zs.getD p 0) := hide fun k n s m h => by
            have hk0 : k = zs.getD p 0 := by
              have h' := h
              unfold ckF at h'
              rw [if_neg (by have := unhide HN; omega), hbad, if_neg (by simp), if_neg h0] at h'
              have hK : ∀ {k' n' s' m' : Nat}, Ck.told k' n' s' m' = .told k n s m → k = k' := fun e => by injection e with a _ _ _; exact a.symm
              have hE : ∀ {e : Nat}, Ck.err e ≠ .told k n s m := fun e => by cases e
              split at h'
              · exact absurd h' hE
              split at h'
              · split at h'
                · exact absurd h' hE
                split at h'
                · exact absurd h' hE
                exact hK h'
              split at h'
              · exact absurd h' hE
              split at h'
              · exact absurd h' hE
              split at h'
              · split at h'
                · exact absurd h' hE
                exact hK h'
              split at h'
              · exact absurd h' hE
              split at h'
              · exact absurd h' hE
              split at h'
              · exact absurd h' hE
              exact hK h'
            have hkn : k ≠ 0 := by rw [hk0]; exact h0
            exact ⟨by rw [← unhide HR, vF_more h hkn], (ck_told hsm2 h).2.2.2.2.2.1 hkn, hk0⟩
          obtain ⟨b, hb⟩ : ∃ b, b = zs.getD p 0 := ⟨_, rfl⟩
          have tb : ¬ (b : Int) = 0 := by omega
          rw [← hb] at hvb hc2 HC2 HCT h0 hbad h2 hvk ⊢
          clear hb
          obtain ⟨w2, hw2⟩ : ∃ w2, w2 = w1.alloc (.cells (ccells b 0 0 0 0 (.slice none 0 0)) 37) := ⟨_, rfl⟩
          obtain ⟨cb, hcbe⟩ : ∃ cb, cb = w1.heap.size := ⟨_, rfl⟩
          rw [← hw2] at HC2 hc2 hvb
          rw [← hcbe] at HC2 hc2 hcb
          have HV2 := hide hvb
          have HCC := hide hc2
          have HCB := hide hcb
          have c0 := hc2.c0
          have HNW : Hid (∀ x er, er ≠ 0 → R = (er, 0, []) → But [ub, cb] w2 x → VisIs R lb w (.returned (.tuple #[.int .i64 0, .int .i64 (er : Int)])) (x.setCell ⟨ub, 0, none⟩ (.int .i64 0))) := hide fun x er he hR hx => by
            have hlt := hvb.lt
            refine vis_err hR he ⟨hx.os.trans hvb.but.os, hx.tape.trans hvb.but.tape, hx.output.trans hvb.but.output, Nat.le_trans hvb.but.size hx.size, fun z hz hn => ?_⟩ hlt.2.2.2.2.1
            rw [hx.keep z (by have := hvb.but.size; omega) (by simp; omega), hvb.but.keep z hz hn]
          clear hbad h1 h2 h3 hvk hc2 hcb h0 HKE HC hvb HR
          unfold CALLR at HC2
          have hw3 : w2 = w1.alloc (.cells #[.int .u8 (b : Int), .int .i64 0, .int .i64 0, .int .i64 0, .int .i64 0, .slice none 0 0] 37) := hw2
          clear hw2
          dsimp only [ccells]
          have h00 : ((0 : Nat) : Int) = 0 := rfl
          rw [h00]
          go_upto_region 4 with fail
          rw [← hw3, ← hcbe]
          clear hw3 hcbe
          go_wp2_with fail
          refine (unhide HC2).mono ?_
          rintro e w4 (⟨er, hck, he, rfl, hbt, hu⟩ | ⟨k, n, s, m, hck, rfl, h5, ⟨l1, l2, l3, g, o, rfl, h6⟩, h7⟩)
          · have hRR := unhide HCK er hck
            have te : ¬ (er : Int) = 0 := by omega
            obtain ⟨u0, ⟨y, u1⟩, u2, u3⟩ := hu.cells
            have HFF := hide (unhide HNW _ er he hRR hbt)
            clear hck he hbt hu hRR HNW HC2
            dsimp only
            go_wp2_with fail
            try rw [Exit.noGoto_ret]
            refine bodyPost_ret (by simp [results, Try.results8, go_sem, u3]; try rfl) rfl ?_
            exact unhide HFF
          · obtain ⟨hRR, hp4, rfl⟩ := unhide HCT _ _ _ _ hck
            have hv3 := (unhide HV2).read (unhide HCC) h5 (by omega) h7 (unhide HCB)
            have HT := hide (take_ok (k := k) (n := n) (lc := l1) (lp := l2) (pb := l3) (body := .slice (some ⟨g, o + s, none⟩) m (vc - s)) hv3.l (by have := hv3.lt; omega) hv3.ri (by have := hv3.len; have := h5.le; have := (unhide HV).len; simp; omega))
            have HV3 := hide hv3
            have hq0 : ∀ i, w4.cell? ⟨cb, i, none⟩ = (ccells k n l1 l2 l3 (.slice (some ⟨g, o + s, none⟩) m (vc - s)))[i]? := fun i => by simp [World.cell?, show w4.heap[cb]? = _ from h6]
            have e0 : w4.cell? ⟨cb, 0, none⟩ = some (.int .u8 (k : Int)) := hq0 0
            have e1 : w4.cell? ⟨cb, 1, none⟩ = some (.int .i64 (n : Int)) := hq0 1
            have e2 : w4.cell? ⟨cb, 2, none⟩ = some (.int .i64 l1) := hq0 2
            have e3 : w4.cell? ⟨cb, 3, none⟩ = some (.int .i64 l2) := hq0 3
            have e4 : w4.cell? ⟨cb, 4, none⟩ = some (.int .i64 l3) := hq0 4
            have e5 : w4.cell? ⟨cb, 5, none⟩ = some (.slice (some ⟨g, o + s, none⟩) m (vc - s)) := hq0 5
            have HRR := hide hRR
            have HLE : Hid (zs.length + 1 - (s + m) ≤ f' ∧ (acc.length + 1) * 4 ≤ s + m) := hide (by have := (unhide HV).len; have := h5.le; have := unhide HGK; omega)
            clear hck h5 h6 h7 hv3 hRR hp4 hq0 HC2 HCK HCT HNW HCC HV2 HCB
            unfold ccells at HT
            dsimp only
            go_wp2_with fail
            refine (unhide HT).mono ?_
            rintro e w5 ⟨rfl, lv', k1, k2, k3⟩
            have HV5 := hide ((unhide HV3).take (n := n) k1 k2 k3 (unhide HLE).2)
            clear k1 k2 k3 HT HV3
            go_wp2_with fail
            go_roundg f'
            case measure => omega
            case rel => exact ⟨s + m, true, nextP k pr, acc ++ [n], lv', (unhide HLE).1, unhide HRR, unhide HV5⟩
end
end Go.Proofs.Ythafoojlkaifkaa.K
