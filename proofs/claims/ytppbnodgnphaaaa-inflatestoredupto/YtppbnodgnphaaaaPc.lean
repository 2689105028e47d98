/- A piece that is read and laid behind. -/
import Derived.Test.YtppbnodgnphaaaaTk
import Derived.Test.YtppbnodgnphaaaaJump
namespace Go.Proofs.Ytppbnodgnphaaaa
open Go.RowKit Mth Infl
set_option maxRecDepth 100000
set_option linter.unusedVariables false

/-- what is left of a piece behind its length's symbol -/
noncomputable def pc (dists : List Nat) (most : Nat) (out : List Nat) (s : Nat) : Rd (List Nat) :=
  if 285 < s then Rd.fail 11 else (Infl.get (Infl.lenOf s).2).bind fun x => (Infl.word gg dists).bind fun d =>
    if 29 < d then Rd.fail 11 else (Infl.get (Infl.distOf d).2).bind fun y =>
      if out.length < (Infl.distOf d).1 + y then Rd.fail 14
      else if most < out.length + ((Infl.lenOf s).1 + x) then Rd.fail 3
      else Rd.pure (Infl.cp ((Infl.distOf d).1 + y) ((Infl.lenOf s).1 + x) out)

/-- what has come of it: more came out, or an error -/
def Did (r : Res (List Nat)) (w : World) (B rb rp g : Nat) (zs : List Nat) (v : Value) (most : Nat) (sv dv : Value) (e : Ending) (w' : World) : Prop :=
  (∃ v' o q, r = .ok o q ∧ e = .returned (.int .i64 0) ∧ RAt w' B rb rp g zs q v' o most sv dv ∧ Chg rb rp v w v' w') ∨ (∃ (b : Nat) (v' : Value), r = .bad b ∧ b ≠ 0 ∧ b < 100 ∧ e = .returned (.int .i64 (b : Int)) ∧ Chg rb rp v w v' w')

section
variable {rb rp : Nat} {v : Value} {w : World} {B g p q most : Nat} {zs out : List Nat} {sv dv : Value}

theorem Did.no {r : Res (List Nat)} {w1 : World} {v1 : Value} (b : Nat) (hr : r = .bad b) (h0 : b ≠ 0) (h1 : b < 100) (hc : Chg rb rp v w v1 w1) : Did r w B rb rp g zs v most sv dv (.returned (.int .i64 (b : Int))) w1 := .inr ⟨b, v1, hr, h0, h1, rfl, hc⟩

theorem look_lenL (s : Nat) (h1 : 257 ≤ s) (h2 : s ≤ 285) (w : World) : Calls Try.prog 10 #[.int .i64 (s : Int)] w fun e w' => e = .returned (.tuple #[.int .i64 ((Infl.lenOf s).1 : Int), .int .i64 ((Infl.lenOf s).2 : Int), .int .i64 0]) ∧ w' = w := by
  have := len_ok (s : Int) w
  unfold lenAns at this
  rw [if_neg (by omega)] at this
  exact this

theorem look_lenN (s : Nat) (h2 : 285 < s) (w : World) : Calls Try.prog 10 #[.int .i64 (s : Int)] w fun e w' => e = .returned (.tuple #[.int .i64 0, .int .i64 0, .int .i64 2]) ∧ w' = w := by
  have := len_ok (s : Int) w
  unfold lenAns at this
  rw [if_pos (by omega)] at this
  exact this

theorem look_distL (s : Nat) (h2 : s ≤ 29) (w : World) : Calls Try.prog 12 #[.int .i64 (s : Int)] w fun e w' => e = .returned (.tuple #[.int .i64 ((Infl.distOf s).1 : Int), .int .i64 ((Infl.distOf s).2 : Int), .int .i64 0]) ∧ w' = w := by
  have := dist_ok (s : Int) w
  unfold distAns at this
  rw [if_neg (by omega)] at this
  exact this

theorem look_distN (s : Nat) (h2 : 29 < s) (w : World) : Calls Try.prog 12 #[.int .i64 (s : Int)] w fun e w' => e = .returned (.tuple #[.int .i64 0, .int .i64 0, .int .i64 2]) ∧ w' = w := by
  have := dist_ok (s : Int) w
  unfold distAns at this
  rw [if_pos (by omega)] at this
  exact this

set_option maxHeartbeats 2000000 in
theorem piece_ok (s : Nat) {ls : List Nat} {cd : Nat} (h : RAt w B rb rp g zs p v out most sv dv) (hz : zs.length ≤ 140737488355328) (hm : most ≤ 268435456) (hs : 257 ≤ s) (hc : COk ls w B cd v) (hls : ls.length ≤ 32) :
    Calls Try.prog 52 #[.pointer (some ⟨rb, 0, none⟩), .int .i64 (s : Int), .pointer (some ⟨cd, 0, none⟩)] w fun e w' => Did (pc ls most out s (Infl.bitsOf zs) p) w B rb rp g zs v most sv dv e w' := by
  by_cases h285 : 285 < s
  · have HM := hide (measure_noL (rb := rb) (w := w) s (look_lenN s h285))
    have HE : Hid (Did (pc ls most out s (Infl.bitsOf zs) p) w B rb rp g zs v most sv dv (.returned (.int .i64 ((11 : Nat) : Int))) w) := hide (Did.no 11 (by unfold pc; rw [if_pos h285]; rfl) (by decide) (by decide) (Chg.refl _ _ _ _))
    clear h hs hc h285 hls hm hz
    go_enter Try.func52, Try.ntmps52
    go_wp2_with fail
    refine wp_scope_on 0 rfl ?_
    go_wp2_with fail
    refine (unhide HM).mono ?_
    rintro e w' ⟨rfl, hw⟩
    subst w'
    go_wp2_with fail
    go_step3
    refine ⟨rfl, ?_⟩
    go_wp2_with fail
    rw [Exit.noGoto_ret]
    go_ret
    exact unhide HE
  · obtain ⟨l1, l2⟩ := lenOf_small s hs (by omega)
    have HM := hide (measure_yesL s _ _ (by omega) (by omega) (look_lenL s hs (by omega)) h hz)
    have HC := hide hc
    have HLB := hide (And.intro h.lb h.lp)
    have HP : Hid (∀ r, pc ls most out s (Infl.bitsOf zs) p = r ↔ ((Infl.get (Infl.lenOf s).2).bind fun x => (Infl.word gg ls).bind fun d =>
      if 29 < d then Rd.fail 11 else (Infl.get (Infl.distOf d).2).bind fun y =>
        if out.length < (Infl.distOf d).1 + y then Rd.fail 14
        else if most < out.length + ((Infl.lenOf s).1 + x) then Rd.fail 3
        else Rd.pure (Infl.cp ((Infl.distOf d).1 + y) ((Infl.lenOf s).1 + x) out)) (Infl.bitsOf zs) p = r) := hide (fun r => by unfold pc; rw [if_neg h285])
    clear h hs hc h285
    generalize (Infl.lenOf s).1 = le at *
    generalize (Infl.lenOf s).2 = ex at *
    go_enter Try.func52, Try.ntmps52
    go_wp2_with fail
    refine wp_scope_on 0 rfl ?_
    go_wp2_with fail
    refine (unhide HM).mono ?_
    rintro e w1 ⟨x, q1, b, rfl, h1, c1, g1⟩
    clear HM
    rcases g1 with ⟨rfl, g1, gx, gq⟩ | ⟨rfl, rfl, g1⟩
    · have hx : x ≤ 32 := by have : 2 ^ ex ≤ 2 ^ 5 := Nat.pow_le_pow_right (by decide) l2; omega
      obtain ⟨M, hM⟩ : ∃ M, M = le + x := ⟨_, rfl⟩
      have hM1 : M ≤ 1000 := by omega
      rw [← hM]
      have HMM := hide hM
      clear hM
      have c0 := h1.c0
      have HR1 := hide h1
      have HC1 := hide c1
      have HG1 := hide g1
      have HW := hide (rword h1 hz ((unhide HC).chg c1 (unhide HLB).1 (unhide HLB).2))
      clear h1 c1 g1 gx gq
      go_wp2_with fail
      refine (unhide HW).mono ?_
      rintro e w2 ⟨d, q2, b, rfl, h2, c2, g2⟩
      clear HW c0
      rcases g2 with ⟨rfl, g2, gd, gq, gq2⟩ | ⟨gb, gb2, g2⟩
      · have HC2 := hide ((unhide HC1).trans c2)
        have HG2 := hide g2
        have HR2 := hide h2
        clear c2 g2 HR1 HC1 gq gq2
        by_cases h29 : 29 < d
        · have HM := hide (measure_noD (rb := rb) (w := w2) d (look_distN d h29))
          have HE : Hid (Did (pc ls most out s (Infl.bitsOf zs) p) w B rb rp g zs v most sv dv (.returned (.int .i64 ((11 : Nat) : Int))) w2) := hide (Did.no 11 ((unhide HP _).2 (by rw [bind_of (unhide HG1), bind_of (unhide HG2), if_pos h29]; rfl)) (by decide) (by decide) (unhide HC2))
          clear h2 h29
          go_wp2_with fail
          refine (unhide HM).mono ?_
          rintro e w' ⟨rfl, hw⟩
          subst w'
          go_wp2_with fail
          go_step3
          refine ⟨rfl, ?_⟩
          go_wp2_with fail
          rw [Exit.noGoto_ret]
          go_ret
          exact unhide HE
        · obtain ⟨d1, d2, d3⟩ := distOf_small d (by omega)
          have HM := hide (measure_yesD d _ _ (by omega) (by omega) (look_distL d (by omega)) h2 hz)
          have HP2 : Hid (∀ r, pc ls most out s (Infl.bitsOf zs) p = r ↔ ((Infl.get (Infl.distOf d).2).bind fun y =>
              if out.length < (Infl.distOf d).1 + y then Rd.fail 14
              else if most < out.length + (le + x) then Rd.fail 3
              else Rd.pure (Infl.cp ((Infl.distOf d).1 + y) (le + x) out)) (Infl.bitsOf zs) q2 = r) := hide (fun r => by rw [unhide HP r, bind_of (unhide HG1), bind_of (unhide HG2), if_neg h29])
          clear h2 h29 HP HG1 HG2
          generalize (Infl.distOf d).1 = ld at *
          generalize (Infl.distOf d).2 = ed at *
          go_wp2_with fail
          refine (unhide HM).mono ?_
          rintro e w3 ⟨y, q3, b, rfl, h3, c3, g3⟩
          clear HM
          rcases g3 with ⟨rfl, g3, gx, gq⟩ | ⟨rfl, rfl, g3⟩
          · have hy : y ≤ 8192 := by have := pow_small13 ed d3; omega
            have HC3 := hide ((unhide HC2).trans c3)
            have HR3 := hide h3
            have HP3 : Hid (∀ r, pc ls most out s (Infl.bitsOf zs) p = r ↔ (if out.length < ld + y then Rd.fail 14
              else if most < out.length + (le + x) then Rd.fail 3
              else Rd.pure (Infl.cp (ld + y) (le + x) out)) (Infl.bitsOf zs) q3 = r) := hide (fun r => by rw [unhide HP2 r, bind_of g3])
            have k2 := h3.c2
            obtain ⟨va, vc, hv⟩ := h3.slice
            rw [hv] at k2
            obtain ⟨L, hL⟩ : ∃ L, L = out.length := ⟨_, rfl⟩
            rw [← hL] at k2
            have HL := hide hL
            clear h3 c3 g3 gx gq HP2 HC2 HR2 hv hL
            obtain ⟨D, hD⟩ : ∃ D, D = ld + y := ⟨_, rfl⟩
            rw [← hD] at HP3 ⊢
            rw [← unhide HMM] at HP3
            have hD1 : 1 ≤ D := by omega
            clear hD
            by_cases h14 : L < D
            · have t14 : (L : Int) < (D : Int) := by omega
              have HE : Hid (Did (pc ls most out s (Infl.bitsOf zs) p) w B rb rp g zs v most sv dv (.returned (.int .i64 ((14 : Nat) : Int))) w3) := hide (Did.no 14 ((unhide HP3 _).2 (by rw [if_pos (by rw [← unhide HL]; exact h14)]; rfl)) (by decide) (by decide) (unhide HC3))
              clear h14
              go_wp2_with fail
              go_step3
              refine ⟨rfl, ?_⟩
              go_wp2_with fail
              rw [Exit.noGoto_ret]
              go_ret
              exact unhide HE
            · have t14 : ¬ (L : Int) < (D : Int) := by omega
              by_cases h3 : most < L + M
              · have HF := hide (fit_no M (unhide HR3) hm (by rw [← unhide HL]; exact h3) (by omega))
                have HE : Hid (∀ k, Did (pc ls most out s (Infl.bitsOf zs) p) w B rb rp g zs v most sv dv (.returned (.int .i64 ((3 : Nat) : Int))) (w3.drewN k)) := hide fun k => (Did.no 3 ((unhide HP3 _).2 (by rw [if_neg (by rw [← unhide HL]; exact h14), if_pos (by rw [← unhide HL]; exact h3)]; rfl)) (by decide) (by decide) ((unhide HC3).drewN k))
                clear h14 h3
                go_wp2_with fail
                refine (unhide HF).mono ?_
                rintro e w4 ⟨rfl, k, rfl⟩
                go_wp2_with fail
                go_step3
                refine ⟨rfl, ?_⟩
                go_wp2_with fail
                rw [Exit.noGoto_ret]
                go_ret
                exact unhide HE k
              · have HF := hide (fit_yes M (unhide HR3) hm (by rw [← unhide HL]; exact h3) (by omega))
                have HPF := hide ((unhide HP3 _).2 (by rw [if_neg (by rw [← unhide HL]; exact h14), if_neg (by rw [← unhide HL]; exact h3)]))
                have HA : Hid (∀ k, _) := hide fun k => again_ok M D ((unhide HR3).drewN k) hm (by rw [← unhide HL]; omega) hD1 (by rw [← unhide HL]; omega) (by omega)
                clear h14 h3
                go_wp2_with fail
                refine (unhide HF).mono ?_
                rintro e w4 ⟨rfl, k, rfl⟩
                go_wp2_with fail
                refine (unhide HA k).mono ?_
                rintro e w5 ⟨rfl, v', hr, hch⟩
                have HRR := hide hr
                have HCH := hide (((unhide HC3).drewN k).trans hch)
                clear hr hch
                go_wp2_with fail
                go_step3
                go_wp2_with fail
                refine jump_ret_of ?_
                go_ret
                exact .inl ⟨v', _, q3, unhide HPF, rfl, unhide HRR, unhide HCH⟩
          · have HE : Hid (Did (pc ls most out s (Infl.bitsOf zs) p) w B rb rp g zs v most sv dv (.returned (.int .i64 ((10 : Nat) : Int))) w3) := hide (Did.no 10 ((unhide HP2 _).2 (bind_bad g3)) (by decide) (by decide) ((unhide HC2).trans c3))
            clear h3 c3 g3
            go_wp2_with fail
            go_step3
            refine ⟨rfl, ?_⟩
            go_wp2_with fail
            rw [Exit.noGoto_ret]
            go_ret
            exact unhide HE
      · have HE : Hid (Did (pc ls most out s (Infl.bitsOf zs) p) w B rb rp g zs v most sv dv (.returned (.int .i64 (b : Int))) w2) := hide (Did.no b ((unhide HP _).2 (by rw [bind_of (unhide HG1), bind_bad g2])) gb gb2 ((unhide HC1).trans c2))
        have hb1 : ¬ (b : Int) = 0 := by omega
        have hb2 : ((b : Int) == 0) = false := by simp; omega
        clear h2 c2 g2 gb gb2
        go_wp2_with fail
        go_step3
        refine ⟨rfl, ?_⟩
        go_wp2_with fail
        rw [Exit.noGoto_ret]
        go_ret
        exact unhide HE
    · have HE : Hid (Did (pc ls most out s (Infl.bitsOf zs) p) w B rb rp g zs v most sv dv (.returned (.int .i64 ((10 : Nat) : Int))) w1) := hide (Did.no 10 ((unhide HP _).2 (bind_bad g1)) (by decide) (by decide) c1)
      clear h1 c1 g1
      go_wp2_with fail
      go_step3
      refine ⟨rfl, ?_⟩
      go_wp2_with fail
      rw [Exit.noGoto_ret]
      go_ret
      exact unhide HE

end
end Go.Proofs.Ytppbnodgnphaaaa
