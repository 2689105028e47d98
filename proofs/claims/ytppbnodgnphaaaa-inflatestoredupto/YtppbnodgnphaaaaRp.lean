/- Which length a symbol stands for. -/
import Derived.Test.YtppbnodgnphaaaaCod
namespace Go.Proofs.Ytppbnodgnphaaaa
open Go.RowKit Mth Infl
set_option maxRecDepth 100000
set_option linter.unusedVariables false

/-- what repeat tells -/
def RepIs (all : List Nat) (s : Nat) (w : World) (B rb rp g : Nat) (zs : List Nat) (p : Nat) (v : Value) (out : List Nat) (most : Nat) (sv dv : Value) (e : Ending) (w' : World) : Prop :=
  Chg rb rp v w v w' ∧ ((∃ a n q : Nat, e = .returned (.tuple #[.int .i64 (a : Int), .int .i64 (n : Int), .int .i64 0]) ∧ stp all s (Infl.bitsOf zs) p = .ok (a, n) q ∧ 1 ≤ n ∧ n ≤ 200 ∧ a ≤ 15 ∧ RAt w' B rb rp g zs q v out most sv dv) ∨
    (∃ b a n : Nat, b ≠ 0 ∧ b < 100 ∧ e = .returned (.tuple #[.int .i64 (a : Int), .int .i64 (n : Int), .int .i64 (b : Int)]) ∧ stp all s (Infl.bitsOf zs) p = .bad b))

section
variable {rb rp : Nat} {v : Value} {w w' : World} {B g p q most : Nat} {zs out : List Nat} {sv dv : Value}

set_option maxHeartbeats 2000000 in
theorem repeat_ok (s : Nat) (hs : s < 19) (all : List Nat) (hal : ∀ z ∈ all, z ≤ 15) (la : Option Addr) (lc : Nat) (hlen : all.length ≤ 100000) (hr : 0 < all.length → ∃ b, la = some ⟨b, 0, none⟩ ∧ (∀ j, j < all.length → w.cell? ⟨b, j, none⟩ = some (.int .i64 (all.getD j 0 : Int))) ∧ b ≠ rb ∧ b ≠ rp ∧ v.ownBlock ≠ some b)
    (h : RAt w B rb rp g zs p v out most sv dv) (hz : zs.length ≤ 140737488355328) :
    Calls Try.prog 65 #[.pointer (some ⟨rb, 0, none⟩), .int .i64 (s : Int), .slice la all.length lc] w fun e w' => RepIs all s w B rb rp g zs p v out most sv dv e w' := by
  have c0 := h.c0
  by_cases h16 : s = 16
  · subst h16
    have HG := hide (rget 2 h hz (by decide))
    obtain ⟨L, hL⟩ : ∃ L, L = all.length := ⟨_, rfl⟩
    rw [← hL]
    have HL := hide hL
    have HR := hide hr
    have HAL := hide hal
    rw [← hL] at hlen
    clear h hr hL hal
    go_enter Try.func65, Try.ntmps65
    go_wp2_with fail
    refine (unhide HG).mono ?_
    rintro e w1 ⟨x, q1, b, rfl, r1, d1, g1⟩
    clear HG c0
    rcases g1 with ⟨rfl, g1, gx, _⟩ | ⟨rfl, rfl, g1⟩
    · have hx : x < 4 := gx
      have HR1 := hide r1
      have HD1 := hide d1
      have HG1 := hide g1
      have hcv := conv_u64 x (by omega)
      by_cases h0 : L = 0
      · subst h0
        have HE : Hid (RepIs all 16 w B rb rp g zs p v out most sv dv (.returned (.tuple #[.int .i64 ((0 : Nat) : Int), .int .i64 ((0 : Nat) : Int), .int .i64 ((11 : Nat) : Int)])) w1) := hide ⟨d1, .inr ⟨11, 0, 0, by decide, by decide, rfl, by unfold stp; rw [if_pos rfl, bind_of g1, if_pos (List.eq_nil_of_length_eq_zero (unhide HL).symm)]; rfl⟩⟩
        clear r1 d1 g1 gx
        go_wp2_with fail
        go_ret3
        exact unhide HE
      · obtain ⟨b, hla, hcell, hb1, hb2, hb3⟩ := unhide HR (by rw [← unhide HL]; omega)
        subst hla
        have hc := hcell (L - 1) (by rw [← unhide HL]; omega)
        have hc' : w1.cell? ⟨b, L - 1, none⟩ = some (.int .i64 (all.getD (L - 1) 0 : Int)) := by
          rw [← hc]
          exact World.cell?_of_block (d1.keep b (cell_lt hc) hb1 hb2 hb3)
        have hmem : all.getD (L - 1) 0 ≤ 15 := unhide HAL _ (getD_mem all (L - 1) (by rw [← unhide HL]; omega))
        have HE : Hid (RepIs all 16 w B rb rp g zs p v out most sv dv (.returned (.tuple #[.int .i64 (all.getD (L - 1) 0 : Int), .int .i64 (3 + (x : Int)), .int .i64 0])) w1) := hide ⟨d1, .inl ⟨all.getD (L - 1) 0, 3 + x, q1, by rw [show ((3 + x : Nat) : Int) = 3 + (x : Int) from by omega], by unfold stp; rw [if_pos rfl, bind_of g1, if_neg (fun e => h0 (by rw [unhide HL, e]; rfl)), ← unhide HL]; rfl, by omega, by omega, hmem, r1⟩⟩
        obtain ⟨K, hK⟩ : ∃ K : Nat, L = K + 1 := ⟨L - 1, by omega⟩
        subst hK
        simp only [Nat.add_sub_cancel] at hc' HE hmem
        generalize all.getD K 0 = y at hc' HE hmem
        have t0 : ((K + 1 : Nat) : Int) = (K : Int) + 1 := by omega
        have t1 : ¬ ((K : Int) + 1 = 0) := by omega
        have t1b : ((K : Int) + 1 == 0) = false := by simp; omega
        clear hc hcell r1 d1 g1 gx h0 hb1 hb2 hb3
        go_wp2_with fail
        go_ret3
        exact unhide HE
    · have HE : Hid (RepIs all 16 w B rb rp g zs p v out most sv dv (.returned (.tuple #[.int .i64 ((0 : Nat) : Int), .int .i64 ((0 : Nat) : Int), .int .i64 ((10 : Nat) : Int)])) w1) := hide ⟨d1, .inr ⟨10, 0, 0, by decide, by decide, rfl, by unfold stp; rw [if_pos rfl, bind_bad g1]⟩⟩
      clear r1 d1 g1
      go_wp2_with fail
      go_ret3
      exact unhide HE
  · have t16 : ¬ (s : Int) = 16 := by omega
    have t16b : ((s : Int) == 16) = false := by simp; omega
    by_cases h17 : s = 17
    · subst h17
      have HG := hide (rget 3 h hz (by decide))
      clear h hr hal
      go_enter Try.func65, Try.ntmps65
      go_wp2_with fail
      refine (unhide HG).mono ?_
      rintro e w1 ⟨x, q1, b, rfl, r1, d1, g1⟩
      clear HG c0
      have hx : x < 8 := by
        rcases g1 with ⟨_, _, gx, _⟩ | ⟨_, rfl, _⟩
        · exact gx
        · decide
      have hcv := conv_u64 x (by omega)
      have HE : Hid (RepIs all 17 w B rb rp g zs p v out most sv dv (.returned (.tuple #[.int .i64 ((0 : Nat) : Int), .int .i64 (3 + (x : Int)), .int .i64 (b : Int)])) w1) := hide (by
        refine ⟨d1, ?_⟩
        rcases g1 with ⟨rfl, g1, _, _⟩ | ⟨rfl, rfl, g1⟩
        · exact .inl ⟨0, 3 + x, q1, by rw [show ((3 + x : Nat) : Int) = 3 + (x : Int) from by omega]; rfl, by unfold stp; rw [if_neg (by decide), if_pos rfl, bind_of g1]; rfl, by omega, by omega, by decide, r1⟩
        · exact .inr ⟨10, 0, 3, by decide, by decide, rfl, by unfold stp; rw [if_neg (by decide), if_pos rfl, bind_bad g1]⟩)
      clear r1 d1 g1
      go_wp2_with fail
      go_ret3
      exact unhide HE
    · have t17 : ¬ (s : Int) = 17 := by omega
      have t17b : ((s : Int) == 17) = false := by simp; omega
      by_cases h18 : s = 18
      · subst h18
        have HG := hide (rget 7 h hz (by decide))
        clear h hr hal
        go_enter Try.func65, Try.ntmps65
        go_wp2_with fail
        refine (unhide HG).mono ?_
        rintro e w1 ⟨x, q1, b, rfl, r1, d1, g1⟩
        clear HG c0
        have hx : x < 128 := by
          rcases g1 with ⟨_, _, gx, _⟩ | ⟨_, rfl, _⟩
          · exact gx
          · decide
        have hcv := conv_u64 x (by omega)
        have HE : Hid (RepIs all 18 w B rb rp g zs p v out most sv dv (.returned (.tuple #[.int .i64 ((0 : Nat) : Int), .int .i64 (11 + (x : Int)), .int .i64 (b : Int)])) w1) := hide (by
          refine ⟨d1, ?_⟩
          rcases g1 with ⟨rfl, g1, _, _⟩ | ⟨rfl, rfl, g1⟩
          · exact .inl ⟨0, 11 + x, q1, by rw [show ((11 + x : Nat) : Int) = 11 + (x : Int) from by omega]; rfl, by unfold stp; rw [if_neg (by decide), if_neg (by decide), if_pos rfl, bind_of g1]; rfl, by omega, by omega, by decide, r1⟩
          · exact .inr ⟨10, 0, 11, by decide, by decide, rfl, by unfold stp; rw [if_neg (by decide), if_neg (by decide), if_pos rfl, bind_bad g1]⟩)
        clear r1 d1 g1
        go_wp2_with fail
        go_ret3
        exact unhide HE
      · have t18 : ¬ (s : Int) = 18 := by omega
        have t18b : ((s : Int) == 18) = false := by simp; omega
        have HE : Hid (RepIs all s w B rb rp g zs p v out most sv dv (.returned (.tuple #[.int .i64 (s : Int), .int .i64 ((1 : Nat) : Int), .int .i64 0])) w) := hide ⟨Chg.refl _ _ _ _, .inl ⟨s, 1, p, rfl, by unfold stp; rw [if_neg h16, if_neg h17, if_neg h18]; rfl, by decide, by decide, by omega, h⟩⟩
        clear h hr hal h16 h17 h18
        go_enter Try.func65, Try.ntmps65
        go_wp2_with fail
        go_ret3
        exact unhide HE

end
end Go.Proofs.Ytppbnodgnphaaaa
