/- A decoder's Direct. -/
import Derived.Test.YtbolhbjipmndeaaDDs
namespace Go.Proofs.Ytbolhbjipmndeaa.D
open Go.RowKit Rang
set_option maxRecDepth 100000
set_option linter.unusedVariables false
attribute [local go_sem ↓] Go.wp_at_zero Go.wp_at_succ

/-- direct bits, the highest first, up to the end of the bytes -/
def dirsD (Bs : List Nat) : Nat → Nat → Dec → Nat × Dec
  | 0, v, d => (v, d)
  | n + 1, v, d => if d.over then (v, d) else dirsD Bs n (2 * v + (dirD Bs d).1.toNat) (dirD Bs d).2

theorem dirsD_over {Bs : List Nat} {d : Dec} (h : d.over = true) (n v : Nat) : dirsD Bs n v d = (v, d) := by
  cases n
  · rfl
  · rw [dirsD, if_pos h]

theorem DS.setD {w w' : World} {pb gc cc : Nat} {ba : Option Addr} {bc : Nat} {Bs : List Nat} {d d' : Dec} {ch : List Nat} (h : DS w pb gc cc ba bc Bs d ch) (h1 : DAt w' pb gc cc ba bc Bs d' ch) (h2 : DGood Bs d') : DS w' pb gc cc ba bc Bs d' ch := ⟨h1, h2, h.chs, h.len⟩

set_option maxHeartbeats 8000000 in
theorem ddirect_ok (w : World) (pb gc cc : Nat) (ba : Option Addr) (bc : Nat) (Bs : List Nat) (d : Dec) (ch : List Nat) (n : Nat) (h : DS w pb gc cc ba bc Bs d ch) (hn : n ≤ 31) :
    Calls Try.prog 33 #[.pointer (some ⟨pb, 0, none⟩), .int .i64 (n : Int)] w fun e w' => e = .returned (toldV (dirsD Bs n 0 d).2 ((dirsD Bs n 0 d).1 : Int)) ∧ DS w' pb gc cc ba bc Bs (dirsD Bs n 0 d).2 ch ∧ DT w w' pb gc cc := by
  have HE := hide h
  have t1 : ¬ (n : Int) < 0 := by omega
  have t2 : ¬ (31 : Int) < (n : Int) := by omega
  clear h
  go_enter Try.func33, Try.ntmps33
  go_wp2_with fail
  go_loopg [6, 7] n (fun gk v i ws => ∃ (d' : Dec) (v' j : Nat), gk + j = n ∧ v = .int .i64 (v' : Int) ∧ i = .int .i64 (j : Int) ∧ Hid (v' < 2 ^ j) ∧ Hid (DS ws pb gc cc ba bc Bs d' ch) ∧ Hid (dirsD Bs gk v' d' = dirsD Bs n 0 d) ∧ Hid (DT w ws pb gc cc))
  case atStart => exact ⟨d, 0, 0, rfl, rfl, rfl, hide (by decide), HE, hide rfl, hide (DT.refl _ _ _ _)⟩
  case round =>
    clear HE
    obtain ⟨d', v', j, hgk, rfl, rfl, HV, HE, HX, HT⟩ := hrel
    rename World => wi
    have c5 := (unhide HE).da.over
    by_cases h0 : 0 < gk
    · have t3 : (j : Int) < (n : Int) := by omega
      obtain ⟨g, rfl⟩ : ∃ g, gk = g + 1 := ⟨gk - 1, by omega⟩
      have hvb : v' < 2147483648 := by
        have h1 := unhide HV
        have h2 : 2 ^ j ≤ 2 ^ 31 := Nat.pow_le_pow_right (by decide) (by omega)
        omega
      obtain ⟨code, rng, at_, over⟩ := d'
      simp only at c5
      cases over
      · have hlo := (unhide HE).good.lo rfl
        have hhi := (unhide HE).good.hi
        have hco := (unhide HE).good.code
        have hat := (unhide HE).good.at_
        have hln := (unhide HE).len
        have hgd := dir_good (unhide HE).good rfl
        have hX := unhide HX
        rw [dirsD, if_neg (by simp)] at hX
        simp only at hlo hhi hco hat
        have c1 := (unhide HE).da.rng
        have f1 := (unhide HE).da.free 1
        simp only at c1
        obtain ⟨r2, hr2⟩ : ∃ r2, r2 = rng / 2 := ⟨_, rfl⟩
        have fr2 : (rng : Int) / 2 = (r2 : Int) := by omega
        have hr2b : 8388608 ≤ r2 ∧ r2 < 2147483648 := by omega
        have fr3 : IntKind.u64.wrap (r2 : Int) = (r2 : Int) := IntWalk.u64_in _ (by omega)
        have h3 := (unhide HE).da.setField 1 (.int .u64 (r2 : Int)) ⟨code, r2, at_, false⟩ rfl
        have HE1 := hide h3.1
        have HD1 := hide ((unhide HT).trans h3.2)
        have HR2 := hide hr2
        have HLO := hide hlo
        clear h3 hr2 HX hlo
        by_cases hb : r2 ≤ code
        · have e : dirD Bs ⟨code, rng, at_, false⟩ = (true, settleD Bs ⟨code - r2, r2, at_, false⟩) := by unfold dirD; rw [if_pos (by simp only; rw [← unhide HR2]; exact hb), ← unhide HR2]
          rw [e] at hX hgd
          have HX2 := hide hX
          have HGD := hide hgd
          clear hX hgd e
          have tb : (r2 : Int) ≤ (code : Int) := by omega
          go_upto_region 3 with fail
          obtain ⟨W2, hW2⟩ : ∃ W2, W2 = wi.setCell ⟨pb, 1, none⟩ (.int .u64 (r2 : Int)) := ⟨_, rfl⟩
          rw [← hW2] at HE1 HD1 ⊢
          clear hW2 c1 f1 c5
          have k1 : ∀ q, (W2.drewN q).cell? ⟨pb, 1, none⟩ = some (.int .u64 (r2 : Int)) := fun q => (unhide HE1).rng
          have k2 : ∀ q, (W2.drewN q).cell? ⟨pb, 2, none⟩ = some (.int .u64 (code : Int)) := fun q => (unhide HE1).code
          go_quiet (fail)
          have HE2 := hide ((unhide HE1).drewN nq)
          have HD2 := hide ((unhide HD1).drewN nq)
          obtain ⟨W3, hW3⟩ : ∃ W3, W3 = W2.drewN nq := ⟨_, rfl⟩
          rw [← hW3] at HE2 HD2 ⊢
          clear hW3 HE1 HD1 k1 k2
          go_upto_region 5 with fail
          have m1 : W3.drew.cell? ⟨pb, 1, none⟩ = some (.int .u64 (r2 : Int)) := (unhide HE2).rng
          have m2 : W3.drew.cell? ⟨pb, 2, none⟩ = some (.int .u64 (code : Int)) := (unhide HE2).code
          have mf : W3.drew.frozen? ⟨pb, 2, none⟩ = false := (unhide HE2).free 2
          have fl : IntKind.u64.wrap ((code : Int) - (r2 : Int)) = (code : Int) - (r2 : Int) := IntWalk.u64_in _ (by omega)
          refine wp_tail 10 (by kernel_rfl) (by kernel_rfl) ?_
          simp only [List.take_succ_cons, List.take_zero, List.drop_succ_cons, List.drop_zero]
          repeat still_step
          try refine wpStill_nil ?_
          have h3 := ((unhide HE2).drewN 1).setField 2 (.int .u64 ((code : Int) - (r2 : Int))) ⟨code - r2, r2, at_, false⟩ (by simp [dcells]; omega)
          have HE3 := hide h3.1
          have HD3 := hide (((unhide HD2).drewN 1).trans h3.2)
          clear h3 fl
          go_wp2_with fail
          refine (dsettle_ok _ pb gc cc ba bc Bs _ _ (unhide HE3) (by simp only; omega) (by simp only; omega) (by simp only; omega) hat rfl hln).mono ?_
          rintro e w5 ⟨rfl, h6, h7⟩
          have HE4 := hide ((unhide HE).setD h6 (unhide HGD))
          have HD4 := hide ((unhide HD3).trans h7)
          clear h6 h7
          go_wp2_with fail
          go_roundg g
          case measure => omega
          case rel => exact ⟨_, 2 * v' + 1, j + 1, by omega, rfl, rfl, hide (by have := unhide HV; rw [Nat.pow_succ]; omega), HE4, HX2, HD4⟩
        · have e : dirD Bs ⟨code, rng, at_, false⟩ = (false, settleD Bs ⟨code, r2, at_, false⟩) := by unfold dirD; rw [if_neg (by simp only; rw [← unhide HR2]; exact hb), ← unhide HR2]
          rw [e] at hX hgd
          have HX2 := hide hX
          have HGD := hide hgd
          clear hX hgd e
          have tb : ¬ (r2 : Int) ≤ (code : Int) := by omega
          go_upto_region 3 with fail
          obtain ⟨W2, hW2⟩ : ∃ W2, W2 = wi.setCell ⟨pb, 1, none⟩ (.int .u64 (r2 : Int)) := ⟨_, rfl⟩
          rw [← hW2] at HE1 HD1 ⊢
          clear hW2 c1 f1 c5
          have k1 : ∀ q, (W2.drewN q).cell? ⟨pb, 1, none⟩ = some (.int .u64 (r2 : Int)) := fun q => (unhide HE1).rng
          have k2 : ∀ q, (W2.drewN q).cell? ⟨pb, 2, none⟩ = some (.int .u64 (code : Int)) := fun q => (unhide HE1).code
          go_quiet (fail)
          have HE2 := hide ((unhide HE1).drewN nq)
          have HD2 := hide ((unhide HD1).drewN nq)
          obtain ⟨W3, hW3⟩ : ∃ W3, W3 = W2.drewN nq := ⟨_, rfl⟩
          rw [← hW3] at HE2 HD2 ⊢
          clear hW3 HE1 HD1 k1 k2
          go_wp2_with fail
          refine (dsettle_ok _ pb gc cc ba bc Bs _ _ (unhide HE2) (by simp only; omega) (by simp only; omega) hco hat rfl hln).mono ?_
          rintro e w5 ⟨rfl, h6, h7⟩
          have HE4 := hide ((unhide HE).setD h6 (unhide HGD))
          have HD4 := hide ((unhide HD2).trans h7)
          clear h6 h7
          go_wp2_with fail
          go_roundg g
          case measure => omega
          case rel => exact ⟨_, 2 * v' + 0, j + 1, by omega, rfl, rfl, hide (by have := unhide HV; rw [Nat.pow_succ]; omega), HE4, HX2, HD4⟩
      · have hX := unhide HX
        rw [dirsD_over rfl] at hX
        have HX2 := hide hX
        clear HX hX
        go_wp2_with fail
        refine (told_ds _ pb gc cc ba bc Bs _ _ _ (unhide HE)).mono ?_
        rintro e w2 ⟨⟨x, y, rfl, H3⟩, rfl⟩
        go_wp2_with fail
        go_ret2
        rw [← unhide HX2]
        exact ⟨by rw [← unhide H3]; rfl, unhide HE, unhide HT⟩
    · obtain rfl : gk = 0 := by omega
      obtain rfl : j = n := by omega
      go_wp2_with fail
      refine (told_ds _ pb gc cc ba bc Bs _ _ _ (unhide HE)).mono ?_
      rintro e w2 ⟨⟨x, y, rfl, H3⟩, rfl⟩
      go_wp2_with fail
      go_ret2
      rw [← unhide HX]
      refine ⟨?_, unhide HE, unhide HT⟩
      show _ = Ending.returned (toldV d' (v' : Int))
      rw [← unhide H3]
      rfl

set_option maxHeartbeats 2000000 in
theorem ddirect_bad (w : World) (pb : Nat) (n : Int) (hb : ¬ (0 ≤ n ∧ n ≤ 31)) :
    Calls Try.prog 33 #[.pointer (some ⟨pb, 0, none⟩), .int .i64 n] w fun e w' => e = .returned (.tuple #[.int .i64 0, .int .i64 2]) ∧ w = w' := by
  by_cases h1 : n < 0
  · clear hb
    go_enter Try.func33, Try.ntmps33
    go_wp2_with fail
    go_ret2
    exact ⟨rfl, rfl⟩
  · have h2 : (31 : Int) < n := by omega
    clear hb
    go_enter Try.func33, Try.ntmps33
    go_wp2_with fail
    go_ret2
    exact ⟨rfl, rfl⟩
end Go.Proofs.Ytbolhbjipmndeaa.D
