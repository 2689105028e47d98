/- How many lengths come; which length comes next. -/
import Derived.Test.YtppbnodgnphaaaaCod
namespace Go.Proofs.Ytppbnodgnphaaaa
open Go.RowKit Mth Infl
set_option maxRecDepth 100000
set_option linter.unusedVariables false

theorem results_tmp4 {fn : Func} {t u v x : Tmp} (h : fn.results = #[.tmp t, .tmp u, .tmp v, .tmp x]) (tmps : Array Value) (P : Program) (w : World) :
    (results fn tmps).run P w = .ok (.tuple #[tmps.getD t undef, tmps.getD u undef, tmps.getD v undef, tmps.getD x undef]) w := by
  simp [results, h]

/-- what counts tells -/
def CntIs (w : World) (B rb rp g : Nat) (zs : List Nat) (p : Nat) (v : Value) (out : List Nat) (most : Nat) (sv dv : Value) (e : Ending) (w' : World) : Prop :=
  Chg rb rp v w v w' ∧ ((∃ l d k q : Nat, e = .returned (.tuple #[.int .i64 (l : Int), .int .i64 (d : Int), .int .i64 (k : Int), .int .i64 0]) ∧ cnt (Infl.bitsOf zs) p = .ok (l, d, k) q ∧ 257 ≤ l ∧ l ≤ 286 ∧ 1 ≤ d ∧ d ≤ 30 ∧ 4 ≤ k ∧ k ≤ 19 ∧ RAt w' B rb rp g zs q v out most sv dv) ∨
    (∃ b : Nat, b ≠ 0 ∧ b < 100 ∧ e = .returned (.tuple #[.int .i64 0, .int .i64 0, .int .i64 0, .int .i64 (b : Int)]) ∧ cnt (Infl.bitsOf zs) p = .bad b))

section
variable {rb rp : Nat} {v : Value} {w w' : World} {B g p q most : Nat} {zs out : List Nat} {sv dv : Value}

set_option maxHeartbeats 2000000 in
theorem rcounts_ok (h : RAt w B rb rp g zs p v out most sv dv) (hz : zs.length ≤ 140737488355328) :
    Calls Try.prog 53 #[.pointer (some ⟨rb, 0, none⟩)] w fun e w' => CntIs w B rb rp g zs p v out most sv dv e w' := by
  have HG := hide (rget 5 h hz (by decide))
  have c0 := h.c0
  clear h
  go_enter Try.func53, Try.ntmps53
  go_wp2_with fail
  refine wp_scope_on 0 rfl ?_
  go_wp2_with fail
  refine (unhide HG).mono ?_
  rintro e w1 ⟨l, q1, b, rfl, r1, d1, g1⟩
  clear HG c0
  rcases g1 with ⟨rfl, g1, gl, _⟩ | ⟨rfl, rfl, g1⟩
  · have HG := hide (rget 5 r1 hz (by decide))
    have c0 := r1.c0
    have HD1 := hide d1
    have HG1 := hide g1
    have hl : l < 32 := gl
    clear r1 d1 g1 gl
    go_wp2_with fail
    refine (unhide HG).mono ?_
    rintro e w2 ⟨d, q2, b, rfl, r2, d2, g2⟩
    clear HG c0
    rcases g2 with ⟨rfl, g2, gd, _⟩ | ⟨rfl, rfl, g2⟩
    · have HG := hide (rget 4 r2 hz (by decide))
      have c0 := r2.c0
      have HD2 := hide ((unhide HD1).trans d2)
      have HG2 := hide g2
      have hd : d < 32 := gd
      clear r2 d2 g2 gd HD1
      go_wp2_with fail
      refine (unhide HG).mono ?_
      rintro e w3 ⟨k, q3, b, rfl, r3, d3, g3⟩
      clear HG c0
      rcases g3 with ⟨rfl, g3, gk, _⟩ | ⟨rfl, rfl, g3⟩
      · have HD3 := hide ((unhide HD2).trans d3)
        have HG3 := hide g3
        have HR3 := hide r3
        have hk : k < 16 := gk
        have v1 := conv_u64 l (by omega)
        have v2 := conv_u64 d (by omega)
        have v3 := conv_u64 k (by omega)
        clear r3 d3 g3 gk HD2
        by_cases hl2 : l ≤ 29
        · have t1 : (257 : Int) + (l : Int) ≤ 286 := by omega
          have t1b : decide ((257 : Int) + (l : Int) ≤ 286) = true := by simp; omega
          by_cases hd2 : d ≤ 29
          · have t2 : (1 : Int) + (d : Int) ≤ 30 := by omega
            have t2b : decide ((1 : Int) + (d : Int) ≤ 30) = true := by simp; omega
            have HE : Hid (CntIs w B rb rp g zs p v out most sv dv (.returned (.tuple #[.int .i64 (257 + (l : Int)), .int .i64 (1 + (d : Int)), .int .i64 (4 + (k : Int)), .int .i64 0])) w3) := hide ⟨unhide HD3, .inl ⟨l + 257, d + 1, k + 4, q3, by rw [show ((l + 257 : Nat) : Int) = 257 + (l : Int) from by omega, show ((d + 1 : Nat) : Int) = 1 + (d : Int) from by omega, show ((k + 4 : Nat) : Int) = 4 + (k : Int) from by omega], by unfold cnt; rw [bind_of (unhide HG1), bind_of (unhide HG2), bind_of (unhide HG3), if_neg (by omega)]; rfl, by omega, by omega, by omega, by omega, by omega, by omega, unhide HR3⟩⟩
            clear HG1 HG2 HG3
            go_wp2_with fail
            refine jump_ret_of ?_
            refine bodyPost_ret (results_tmp4 rfl _ _ _) rfl ?_
            exact unhide HE
          · have t2 : ¬ (1 : Int) + (d : Int) ≤ 30 := by omega
            have t2b : decide ((1 : Int) + (d : Int) ≤ 30) = false := by simp; omega
            have HE : Hid (CntIs w B rb rp g zs p v out most sv dv (.returned (.tuple #[.int .i64 0, .int .i64 0, .int .i64 0, .int .i64 ((11 : Nat) : Int)])) w3) := hide ⟨unhide HD3, .inr ⟨11, by decide, by decide, rfl, by unfold cnt; rw [bind_of (unhide HG1), bind_of (unhide HG2), bind_of (unhide HG3), if_pos (by omega)]; rfl⟩⟩
            clear HG1 HG2 HG3
            go_wp2_with fail
            go_step3
            go_wp2_with fail
            refine jump_ret_of ?_
            refine bodyPost_ret (results_tmp4 rfl _ _ _) rfl ?_
            exact unhide HE
        · have t1 : ¬ (257 : Int) + (l : Int) ≤ 286 := by omega
          have t1b : decide ((257 : Int) + (l : Int) ≤ 286) = false := by simp; omega
          have HE : Hid (CntIs w B rb rp g zs p v out most sv dv (.returned (.tuple #[.int .i64 0, .int .i64 0, .int .i64 0, .int .i64 ((11 : Nat) : Int)])) w3) := hide ⟨unhide HD3, .inr ⟨11, by decide, by decide, rfl, by unfold cnt; rw [bind_of (unhide HG1), bind_of (unhide HG2), bind_of (unhide HG3), if_pos (by omega)]; rfl⟩⟩
          clear HG1 HG2 HG3
          go_wp2_with fail
          go_step3
          go_wp2_with fail
          refine jump_ret_of ?_
          refine bodyPost_ret (results_tmp4 rfl _ _ _) rfl ?_
          exact unhide HE
      · have HE : Hid (CntIs w B rb rp g zs p v out most sv dv (.returned (.tuple #[.int .i64 0, .int .i64 0, .int .i64 0, .int .i64 ((10 : Nat) : Int)])) w3) := hide ⟨(unhide HD2).trans d3, .inr ⟨10, by decide, by decide, rfl, by unfold cnt; rw [bind_of (unhide HG1), bind_of (unhide HG2), bind_bad g3]⟩⟩
        clear r3 d3 g3
        go_wp2_with fail
        go_step3
        refine ⟨rfl, ?_⟩
        go_wp2_with fail
        rw [Exit.noGoto_ret]
        refine bodyPost_ret (results_tmp4 rfl _ _ _) rfl ?_
        exact unhide HE
    · have HE : Hid (CntIs w B rb rp g zs p v out most sv dv (.returned (.tuple #[.int .i64 0, .int .i64 0, .int .i64 0, .int .i64 ((10 : Nat) : Int)])) w2) := hide ⟨(unhide HD1).trans d2, .inr ⟨10, by decide, by decide, rfl, by unfold cnt; rw [bind_of (unhide HG1), bind_bad g2]⟩⟩
      clear r2 d2 g2
      go_wp2_with fail
      go_step3
      refine ⟨rfl, ?_⟩
      go_wp2_with fail
      rw [Exit.noGoto_ret]
      refine bodyPost_ret (results_tmp4 rfl _ _ _) rfl ?_
      exact unhide HE
  · have HE : Hid (CntIs w B rb rp g zs p v out most sv dv (.returned (.tuple #[.int .i64 0, .int .i64 0, .int .i64 0, .int .i64 ((10 : Nat) : Int)])) w1) := hide ⟨d1, .inr ⟨10, by decide, by decide, rfl, by unfold cnt; rw [bind_bad g1]⟩⟩
    clear r1 d1 g1
    go_wp2_with fail
    go_step3
    refine ⟨rfl, ?_⟩
    go_wp2_with fail
    rw [Exit.noGoto_ret]
    refine bodyPost_ret (results_tmp4 rfl _ _ _) rfl ?_
    exact unhide HE

end
end Go.Proofs.Ytppbnodgnphaaaa
