/- Blocks of each kind. -/
import Derived.Test.YtppbnodgnphaaaaCodes
namespace Go.Proofs.Ytppbnodgnphaaaa
open Go.RowKit Mth Infl
set_option maxRecDepth 100000
set_option linter.unusedVariables false

/-- the fixed codes are not made yet, or they are there -/
def FixOk (w : World) (B : Nat) (v sv dv : Value) : Prop := sv = .pointer none ∨ ∃ cs cd, sv = .pointer (some ⟨cs, 0, none⟩) ∧ dv = .pointer (some ⟨cd, 0, none⟩) ∧ COk fixedL w B cs v ∧ COk fixedD w B cd v

/-- what has come of a block -/
def BlkIs (r : Res (List Nat)) (w : World) (B rb rp g : Nat) (zs : List Nat) (v : Value) (most : Nat) (e : Ending) (w' : World) : Prop :=
  (∃ v' o q sv' dv', r = .ok o q ∧ e = .returned (.int .i64 0) ∧ RAt w' B rb rp g zs q v' o most sv' dv' ∧ FixOk w' B v' sv' dv' ∧ Chg rb rp v w v' w') ∨ (∃ (b : Nat) (v' : Value), r = .bad b ∧ b ≠ 0 ∧ b < 100 ∧ e = .returned (.int .i64 (b : Int)) ∧ Chg rb rp v w v' w')

section
variable {rb rp : Nat} {v v1 : Value} {w w1 w' : World} {B g p q most : Nat} {zs out : List Nat} {sv dv : Value}

theorem FixOk.chg (h : FixOk w B v sv dv) (c : Chg rb rp v w v1 w1) (lb : rb < B) (lp : rp < B) : FixOk w1 B v1 sv dv := by
  rcases h with h | ⟨cs, cd, e1, e2, c1, c2⟩
  · exact .inl h
  · exact .inr ⟨cs, cd, e1, e2, c1.chg c lb lp, c2.chg c lb lp⟩

theorem Did.blk {r : Res (List Nat)} {e : Ending} (h : Did r w1 B rb rp g zs v most sv dv e w') (c : Chg rb rp v w v w1) (hf : FixOk w1 B v sv dv) : BlkIs r w B rb rp g zs v most e w' := by
  rcases h with ⟨v', o, q, h1, h2, h3, h4⟩ | ⟨b, v', h1, h2, h3, h4, h5⟩
  · exact .inl ⟨v', o, q, sv, dv, h1, h2, h3, hf.chg h4 h3.lb h3.lp, c.trans h4⟩
  · exact .inr ⟨b, v', h1, h2, h3, h4, c.trans h5⟩

theorem fixedL_is : fixedL = (List.range 288).map fx := rfl
theorem fixedL_len : fixedL.length = 288 := by rw [fixedL_is]; simp
theorem fixedD_len : fixedD.length = 32 := by unfold fixedD; simp

theorem ints_reads {g n : Nat} {C : Nat → Nat} (h : IntsAt w .i64 3 g n C) (ls : List Nat) (hl : ls = (List.range n).map C) : ReadsN w (.slice (some ⟨g, 0, none⟩) n n) ls := by
  subst hl
  refine ⟨some ⟨g, 0, none⟩, n, by simp, fun _ => ⟨g, 0, rfl, fun j hj => ?_⟩⟩
  simp at hj
  have e : (((List.range n).map C).map fun l : Nat => (l : Int))[j]? = some (C j : Int) := by
    rw [List.map_map, List.getElem?_map, List.getElem?_range hj]; rfl
  rw [Nat.zero_add, h.cell j hj, List.getD_eq_getElem?_getD, e]
  rfl

theorem fixedL_le : ∀ l ∈ fixedL, l ≤ 15 := by
  intro l hl
  rw [fixedL_is, List.mem_map] at hl
  obtain ⟨i, _, rfl⟩ := hl
  unfold fx
  split
  · decide
  · split <;> decide

theorem fixedD_le : ∀ l ∈ fixedD, l ≤ 15 := by
  intro l hl
  rw [List.eq_of_mem_replicate hl]; decide

theorem ce_fixedL : ce fixedL 15 true = 0 := by
  rcases ce_cases fixedL 15 true with ⟨h, _⟩ | ⟨_, h⟩
  · exact h
  · exact absurd (.inl fixedL_full) h

theorem ce_fixedD : ce fixedD 15 true = 0 := by
  rcases ce_cases fixedD 15 true with ⟨h, _⟩ | ⟨_, h⟩
  · exact h
  · exact absurd (.inl fixedD_full) h

set_option maxHeartbeats 2000000 in
theorem ownBlock_ok (h : RAt w B rb rp g zs p v out most sv dv) (hf : FixOk w B v sv dv) (hz : zs.length ≤ 140737488355328) (hm : most ≤ 268435456) :
    Calls Try.prog 39 #[.pointer (some ⟨rb, 0, none⟩)] w fun e w' => ∃ F, BlkIs (told gg ce most F out (Infl.bitsOf zs) p) w B rb rp g zs v most e w' := by
  have HC := hide (codes_ok h hz)
  have HF := hide hf
  have HLB := hide (And.intro h.lb h.lp)
  clear h hf
  go_enter Try.func39, Try.ntmps39
  go_wp2_with fail
  refine (unhide HC).mono ?_
  rintro e w1 ⟨d1, ⟨cs, cd, q1, l1, l2, rfl, g1, hl1, hl2, r1, c1, c2⟩ | ⟨b, gb, gb2, rfl, g1⟩⟩
  · have HT := hide (tokens_ok r1 hz hm c1 hl1 c2 hl2)
    have HD1 := hide d1
    have HG1 := hide g1
    clear r1 c1 c2 d1 g1 HC
    go_wp2_with fail
    refine (unhide HT).mono ?_
    rintro e w2 ⟨F, hd⟩
    have HE : Hid (BlkIs (told gg ce most F out (Infl.bitsOf zs) p) w B rb rp g zs v most e w2) := hide (by
      rw [told_cod, bind_of (unhide HG1)]
      exact hd.blk (unhide HD1) ((unhide HF).chg (unhide HD1) (unhide HLB).1 (unhide HLB).2))
    rcases hd with ⟨v', o, q, _, rfl, _, _⟩ | ⟨b, v', _, _, _, rfl, _⟩
    · go_wp2_with fail
      go_ret
      exact ⟨F, unhide HE⟩
    · go_wp2_with fail
      go_ret
      exact ⟨F, unhide HE⟩
  · have HE : Hid (∃ F, BlkIs (told gg ce most F out (Infl.bitsOf zs) p) w B rb rp g zs v most (.returned (.int .i64 (b : Int))) w1) := hide ⟨0, .inr ⟨b, v, by rw [told_cod, bind_bad g1], gb, gb2, rfl, d1⟩⟩
    have hb1 : ¬ (b : Int) = 0 := by omega
    have hb2 : ((b : Int) == 0) = false := by simp; omega
    clear d1 g1 gb gb2
    go_wp2_with fail
    go_ret
    exact unhide HE

set_option maxHeartbeats 2000000 in
theorem storedBlock_ok (h : RAt w B rb rp g zs p v out most sv dv) (hf : FixOk w B v sv dv) (hz : zs.length ≤ 140737488355328) (hm : most ≤ 268435456) :
    Calls Try.prog 37 #[.pointer (some ⟨rb, 0, none⟩)] w fun e w' => BlkIs (Infl.stored most out (Infl.bitsOf zs) p) w B rb rp g zs v most e w' :=
  (stored_ok h hz hm).mono fun e w' hd => hd.blk (Chg.refl _ _ _ _) hf

end
end Go.Proofs.Ytppbnodgnphaaaa
