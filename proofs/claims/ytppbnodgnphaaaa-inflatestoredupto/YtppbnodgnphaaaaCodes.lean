/- A block's own codes. -/
import Derived.Test.YtppbnodgnphaaaaLns
import Derived.Test.YtppbnodgnphaaaaCn
namespace Go.Proofs.Ytppbnodgnphaaaa
open Go.RowKit Mth Infl
set_option maxRecDepth 100000
set_option linter.unusedVariables false

/-- what codes tells -/
def CodIs (w : World) (B rb rp g : Nat) (zs : List Nat) (p : Nat) (v : Value) (out : List Nat) (most : Nat) (sv dv : Value) (e : Ending) (w' : World) : Prop :=
  Chg rb rp v w v w' ∧ ((∃ (cs cd q : Nat) (l1 l2 : List Nat), e = .returned (.tuple #[.pointer (some ⟨cs, 0, none⟩), .pointer (some ⟨cd, 0, none⟩), .int .i64 0]) ∧ cod (Infl.bitsOf zs) p = .ok (l1, l2) q ∧ l1.length ≤ 288 ∧ l2.length ≤ 32 ∧ RAt w' B rb rp g zs q v out most sv dv ∧ COk l1 w' B cs v ∧ COk l2 w' B cd v) ∨
    (∃ b : Nat, b ≠ 0 ∧ b < 100 ∧ e = .returned (.tuple #[.pointer none, .pointer none, .int .i64 (b : Int)]) ∧ cod (Infl.bitsOf zs) p = .bad b))

section
variable {rb rp : Nat} {v : Value} {w w' : World} {B g p q most : Nat} {zs out : List Nat} {sv dv : Value}

set_option maxHeartbeats 4000000 in
theorem codes_ok (h : RAt w B rb rp g zs p v out most sv dv) (hz : zs.length ≤ 140737488355328) :
    Calls Try.prog 47 #[.pointer (some ⟨rb, 0, none⟩)] w fun e w' => CodIs w B rb rp g zs p v out most sv dv e w' := by
  have HC := hide (rcounts_ok h hz)
  clear h
  go_enter Try.func47, Try.ntmps47
  go_wp2_with fail
  refine wp_scope_on 0 rfl ?_
  go_wp2_with fail
  refine (unhide HC).mono ?_
  rintro e w1 ⟨d1, ⟨l, d, k, q1, rfl, g1, hl1, hl2, hd1, hd2, hk1, hk2, r1⟩ | ⟨b, gb, gb2, rfl, g1⟩⟩
  · have HI := hide (innerCode_ok r1 hz hk1 hk2)
    have HD1 := hide d1
    have HG1 := hide g1
    clear r1 d1 g1 HC
    go_wp2_with fail
    refine (unhide HI).mono ?_
    rintro e w2 ⟨d2, ⟨cp, q2, own, rfl, g2, hol, r2, c2⟩ | ⟨b, gb, gb2, rfl, g2⟩⟩
    · obtain ⟨tot, htot⟩ : ∃ tot, tot = l + d := ⟨_, rfl⟩
      have HL := hide (lengths_ok (tot := tot) r2 hz c2 hol (by omega))
      have HD2 := hide ((unhide HD1).trans d2)
      have HG2 := hide g2
      have hti : (l : Int) + (d : Int) = (tot : Int) := by omega
      have HTOT := hide htot
      clear r2 d2 g2 HI c2 htot
      go_wp2_with fail
      refine (unhide HL).mono ?_
      rintro e w3 ⟨d3, ⟨lv, q3, all, rfl, g3, hal, hal15, r3, row⟩ | ⟨b, gb, gb2, rfl, g3⟩⟩
      · obtain ⟨la, lc, hlv, hlc, hlb⟩ := own_slice row
        obtain ⟨gl, hla, hob⟩ := hlb (by have := unhide HTOT; omega)
        have k256 := row_cell row hob 256 (by have := unhide HTOT; omega)
        have HD3 := hide ((unhide HD2).trans d3)
        have HG3 := hide g3
        have HR3 := hide r3
        have HROW := hide row
        have HAL := hide hal
        have H15 := hide hal15
        have HOB := hide hob
        have HON : Hid (cod (Infl.bitsOf zs) p = (if all.getD 256 0 = 0 then Rd.fail 11 else okE (ce (all.take l) 15 true) (okE (ce (all.drop l) 15 true) (Rd.pure (all.take l, all.drop l)))) (Infl.bitsOf zs) q3) := hide (by unfold cod; rw [bind_of (unhide HG1)]; simp only; rw [bind_of (unhide HG2), ← unhide HTOT, bind_of g3])
        subst hla
        rw [hal] at hlv hlc
        clear d3 g3 r3 row hal hal15 HL hlb
        subst hlv
        have t256 : (256 : Int) < (tot : Int) := by have := unhide HTOT; omega
        by_cases h0 : all.getD 256 0 = 0
        · rw [h0] at k256
          have HE : Hid (CodIs w B rb rp g zs p v out most sv dv (.returned (.tuple #[.pointer none, .pointer none, .int .i64 ((11 : Nat) : Int)])) w3) := hide ⟨unhide HD3, .inr ⟨11, by decide, by decide, rfl, by rw [unhide HON, if_pos h0]; rfl⟩⟩
          clear h0 HON
          go_wp2_with fail
          go_step3
          refine ⟨rfl, ?_⟩
          go_wp2_with fail
          rw [Exit.noGoto_ret]
          go_ret3
          exact unhide HE
        · have HON2 : Hid (cod (Infl.bitsOf zs) p = (okE (ce (all.take l) 15 true) (okE (ce (all.drop l) 15 true) (Rd.pure (all.take l, all.drop l)))) (Infl.bitsOf zs) q3) := hide (by rw [unhide HON, if_neg h0])
          generalize all.getD 256 0 = y at k256 h0
          have t0 : ¬ (y : Int) = 0 := by omega
          have t0b : ((y : Int) == 0) = false := by simp; omega
          have tl : (l : Int) ≤ (tot : Int) := by omega
          have tl2 : ¬ lc = l := by omega
          have tl3 : l ≤ lc := by omega
          have tl4 : (l : Int) ≤ (lc : Int) := by omega
          have hlen1 : (all.take l).length = l := by rw [List.length_take, unhide HAL]; omega
          have hlen2 : (all.drop l).length = tot - l := by rw [List.length_drop, unhide HAL]
          have HROWD : Hid (w3.drew.ownsRow w2.heap.size 3 1 (.slice (some ⟨gl, 0, none⟩) tot lc) all.length (all.map fun z : Nat => iv (z : Int))) := hide (own_keep (unhide HROW) (fun _ _ => rfl))
          have HDD : Hid (Chg rb rp v w v w3.drew) := hide ((unhide HD3).drewN 1)
          have HRD : Hid (RAt w3.drew B rb rp g zs q3 v out most sv dv) := hide ((unhide HR3).drewN 1)
          have HN := hide (codesOf_ok (all.take l) (all.drop l) (.slice (some ⟨gl, 0, none⟩) l lc) (.slice (some ⟨gl, l, none⟩) (tot - l) (lc - l)) w3.drew
            ⟨some ⟨gl, 0, none⟩, lc, by rw [List.length_map, hlen1], fun _ => ⟨gl, 0, rfl, fun j hj => by
              rw [List.length_map, hlen1] at hj
              rw [Nat.zero_add, row_cell (unhide HROWD) (unhide HOB) j (by rw [unhide HAL]; omega), List.getD_eq_getElem?_getD (l := List.map _ _), List.getElem?_map, List.getElem?_take, if_pos hj, List.getD_eq_getElem?_getD, List.getElem?_eq_getElem (by rw [unhide HAL]; omega)]
              rfl⟩⟩
            ⟨some ⟨gl, l, none⟩, lc - l, by rw [List.length_map, hlen2], fun _ => ⟨gl, l, rfl, fun j hj => by
              rw [List.length_map, hlen2] at hj
              rw [row_cell (unhide HROWD) (unhide HOB) (l + j) (by rw [unhide HAL]; omega), List.getD_eq_getElem?_getD (l := List.map _ _), List.getElem?_map, List.getElem?_drop, List.getD_eq_getElem?_getD, List.getElem?_eq_getElem (by rw [unhide HAL]; omega)]
              rfl⟩⟩
            (by rw [hlen1]; omega) (by rw [hlen2]; have := unhide HTOT; omega) (fun z hz => unhide H15 z (List.mem_of_mem_take hz)) (fun z hz => unhide H15 z (List.mem_of_mem_drop hz)))
          have HE : Hid (∀ w4, Below w3.drew.heap.size w3.drew w4 → (ce (all.take l) 15 true = 13 ∨ ce (all.take l) 15 true = 0 ∧ ce (all.drop l) 15 true = 13) → CodIs w B rb rp g zs p v out most sv dv (.returned (.tuple #[.pointer none, .pointer none, .int .i64 ((13 : Nat) : Int)])) w4) := hide fun w4 hb hce => ⟨(unhide HDD).below' hb, .inr ⟨13, by decide, by decide, rfl, by
            rw [unhide HON2]
            rcases hce with e | ⟨e1, e2⟩
            · rw [e]; rfl
            · rw [e1, e2]; rfl⟩⟩
          have HF : Hid (∀ w4 cs cd, Below w3.drew.heap.size w3.drew w4 → ce (all.take l) 15 true = 0 → ce (all.drop l) 15 true = 0 → (∃ lo hi, Code (all.take l) w4 cs lo hi ∧ w3.drew.heap.size ≤ lo ∧ hi ≤ w4.heap.size) → (∃ lo hi, Code (all.drop l) w4 cd lo hi ∧ w3.drew.heap.size ≤ lo ∧ hi ≤ w4.heap.size) →
              CodIs w B rb rp g zs p v out most sv dv (.returned (.tuple #[.pointer (some ⟨cs, 0, none⟩), .pointer (some ⟨cd, 0, none⟩), .int .i64 0])) w4) := hide fun w4 cs cd hb e1 e2 c1 c2 => ⟨(unhide HDD).below' hb, .inl ⟨cs, cd, q3, all.take l, all.drop l, rfl, by rw [unhide HON2, e1, e2]; rfl, by rw [hlen1]; omega, by rw [hlen2]; have := unhide HTOT; omega, (unhide HRD).below hb, COk.new (unhide HRD) c1, COk.new (unhide HRD) c2⟩⟩
          clear hlen1 hlen2 h0 HON
          go_wp2_with fail
          refine wp_region_noPanic ?_
          refine wp_region_held_drew (S := fun _ => True) (by kernel_rfl) True.intro (fun hHeld => ?_)
          refine held_take 0 42 rfl rfl (by kernel_rfl) (by kernel_rfl) (by kernel_rfl) (by rfl) hHeld noPanic_panic (v := ?_) (fun x hSx => ?_) ?_
          rotate_left 1
          · go_simp <;> with_reducible rfl
          simp only [List.set_cons_zero, List.set_cons_succ]
          refine held_take 1 43 rfl rfl (by kernel_rfl) (by kernel_rfl) (by kernel_rfl) (by rfl) hHeld noPanic_panic (v := ?_) (fun x hSx => ?_) ?_
          rotate_left 1
          · go_simp <;> with_reducible rfl
          simp only [List.set_cons_zero, List.set_cons_succ]
          refine held_take 2 44 rfl rfl (by kernel_rfl) (by kernel_rfl) (by kernel_rfl) (by rfl) hHeld noPanic_panic (v := ?_) (fun x hSx => ?_) ?_
          rotate_left 1
          · go_simp <;> with_reducible rfl
          simp only [List.set_cons_zero, List.set_cons_succ]
          refine held_take 3 45 rfl rfl (by kernel_rfl) (by kernel_rfl) (by kernel_rfl) (by rfl) hHeld noPanic_panic (v := ?_) (fun x hSx => ?_) ?_
          rotate_left 1
          · go_simp <;> with_reducible rfl
          simp only [List.set_cons_zero, List.set_cons_succ]
          refine held_take 4 46 rfl rfl (by kernel_rfl) (by kernel_rfl) (by kernel_rfl) (by rfl) hHeld noPanic_panic (v := ?_) (fun x hSx => ?_) ?_
          rotate_left 1
          · go_simp <;> with_reducible rfl
          simp only [List.set_cons_zero, List.set_cons_succ]
          refine held_take 5 47 rfl rfl (by kernel_rfl) (by kernel_rfl) (by kernel_rfl) (by rfl) hHeld noPanic_panic (v := ?_) (fun x hSx => ?_) ?_
          rotate_left 1
          · go_simp <;> with_reducible rfl
          simp only [List.set_cons_zero, List.set_cons_succ]
          refine held_enter 6 48 (by kernel_rfl) rfl rfl (by rfl) (by go_simp <;> exact ⟨rfl, rfl⟩) ?_
          refine (unhide HN).mono ?_
          rintro e w4 ⟨hb, ⟨cs, cd, e1, e2, rfl, c1, c2⟩ | ⟨hce, rfl⟩⟩
          · have HFF := hide (unhide HF w4 cs cd hb e1 e2 c1 c2)
            clear hb e1 e2 c1 c2
            refine ⟨_, rfl, True.intro, ?_⟩
            simp only [List.set_cons_zero, List.set_cons_succ]
            replace hHeld : True := True.intro
            refine held_take 7 49 rfl rfl (by kernel_rfl) (by kernel_rfl) (by kernel_rfl) (by rfl) hHeld noPanic_panic (v := ?_) (fun x hSx => ?_) ?_
            rotate_left 1
            · go_simp <;> with_reducible rfl
            simp only [List.set_cons_zero, List.set_cons_succ]
            refine held_take 8 50 rfl rfl (by kernel_rfl) (by kernel_rfl) (by kernel_rfl) (by rfl) hHeld noPanic_panic (v := ?_) (fun x hSx => ?_) ?_
            rotate_left 1
            · go_simp <;> with_reducible rfl
            simp only [List.set_cons_zero, List.set_cons_succ]
            refine held_take 9 51 rfl rfl (by kernel_rfl) (by kernel_rfl) (by kernel_rfl) (by rfl) hHeld noPanic_panic (v := ?_) (fun x hSx => ?_) ?_
            rotate_left 1
            · go_simp <;> with_reducible rfl
            simp only [List.set_cons_zero, List.set_cons_succ]
            refine held_take 10 2 rfl rfl (by kernel_rfl) (by kernel_rfl) (by kernel_rfl) (by rfl) hHeld noPanic_panic (v := ?_) (fun x hSx => ?_) ?_
            rotate_left 1
            · go_simp <;> with_reducible rfl
            simp only [List.set_cons_zero, List.set_cons_succ]
            refine held_take 11 3 rfl rfl (by kernel_rfl) (by kernel_rfl) (by kernel_rfl) (by rfl) hHeld noPanic_panic (v := ?_) (fun x hSx => ?_) ?_
            rotate_left 1
            · go_simp <;> with_reducible rfl
            simp only [List.set_cons_zero, List.set_cons_succ]
            refine held_take 12 4 rfl rfl (by kernel_rfl) (by kernel_rfl) (by kernel_rfl) (by rfl) hHeld noPanic_panic (v := ?_) (fun x hSx => ?_) ?_
            rotate_left 1
            · go_simp <;> with_reducible rfl
            simp only [List.set_cons_zero, List.set_cons_succ]
            refine wpAnyH_done (by kernel_rfl) ?_ _
            refine NoPanic.normal ?_
            clear hHeld
            go_wp2_with fail
            refine jump_ret_of ?_
            go_ret3
            exact unhide HFF
          · have HFF := hide (unhide HE w4 hb hce)
            clear hb hce
            refine ⟨_, rfl, True.intro, ?_⟩
            simp only [List.set_cons_zero, List.set_cons_succ]
            replace hHeld : True := True.intro
            refine held_take 7 49 rfl rfl (by kernel_rfl) (by kernel_rfl) (by kernel_rfl) (by rfl) hHeld noPanic_panic (v := ?_) (fun x hSx => ?_) ?_
            rotate_left 1
            · go_simp <;> with_reducible rfl
            simp only [List.set_cons_zero, List.set_cons_succ]
            refine held_take 8 50 rfl rfl (by kernel_rfl) (by kernel_rfl) (by kernel_rfl) (by rfl) hHeld noPanic_panic (v := ?_) (fun x hSx => ?_) ?_
            rotate_left 1
            · go_simp <;> with_reducible rfl
            simp only [List.set_cons_zero, List.set_cons_succ]
            refine held_take 9 51 rfl rfl (by kernel_rfl) (by kernel_rfl) (by kernel_rfl) (by rfl) hHeld noPanic_panic (v := ?_) (fun x hSx => ?_) ?_
            rotate_left 1
            · go_simp <;> with_reducible rfl
            simp only [List.set_cons_zero, List.set_cons_succ]
            refine held_take 10 2 rfl rfl (by kernel_rfl) (by kernel_rfl) (by kernel_rfl) (by rfl) hHeld noPanic_panic (v := ?_) (fun x hSx => ?_) ?_
            rotate_left 1
            · go_simp <;> with_reducible rfl
            simp only [List.set_cons_zero, List.set_cons_succ]
            refine held_take 11 3 rfl rfl (by kernel_rfl) (by kernel_rfl) (by kernel_rfl) (by rfl) hHeld noPanic_panic (v := ?_) (fun x hSx => ?_) ?_
            rotate_left 1
            · go_simp <;> with_reducible rfl
            simp only [List.set_cons_zero, List.set_cons_succ]
            refine held_take 12 4 rfl rfl (by kernel_rfl) (by kernel_rfl) (by kernel_rfl) (by rfl) hHeld noPanic_panic (v := ?_) (fun x hSx => ?_) ?_
            rotate_left 1
            · go_simp <;> with_reducible rfl
            simp only [List.set_cons_zero, List.set_cons_succ]
            refine wpAnyH_done (by kernel_rfl) ?_ _
            refine NoPanic.normal ?_
            clear hHeld
            go_wp2_with fail
            refine jump_ret_of ?_
            go_ret3
            exact unhide HFF
      · have HE : Hid (CodIs w B rb rp g zs p v out most sv dv (.returned (.tuple #[.pointer none, .pointer none, .int .i64 (b : Int)])) w3) := hide ⟨(unhide HD2).trans d3, .inr ⟨b, gb, gb2, rfl, by unfold cod; rw [bind_of (unhide HG1)]; simp only; rw [bind_of (unhide HG2), ← unhide HTOT, bind_bad g3]⟩⟩
        have hb1 : ¬ (b : Int) = 0 := by omega
        have hb2 : ((b : Int) == 0) = false := by simp; omega
        clear d3 g3 gb gb2
        go_wp2_with fail
        go_step3
        refine ⟨rfl, ?_⟩
        go_wp2_with fail
        rw [Exit.noGoto_ret]
        go_ret3
        exact unhide HE
    · have HE : Hid (CodIs w B rb rp g zs p v out most sv dv (.returned (.tuple #[.pointer none, .pointer none, .int .i64 (b : Int)])) w2) := hide ⟨(unhide HD1).trans d2, .inr ⟨b, gb, gb2, rfl, by unfold cod; rw [bind_of (unhide HG1)]; simp only; rw [bind_bad g2]⟩⟩
      have hb1 : ¬ (b : Int) = 0 := by omega
      have hb2 : ((b : Int) == 0) = false := by simp; omega
      clear d2 g2 gb gb2
      go_wp2_with fail
      go_step3
      refine ⟨rfl, ?_⟩
      go_wp2_with fail
      rw [Exit.noGoto_ret]
      go_ret3
      exact unhide HE
  · have HE : Hid (CodIs w B rb rp g zs p v out most sv dv (.returned (.tuple #[.pointer none, .pointer none, .int .i64 (b : Int)])) w1) := hide ⟨d1, .inr ⟨b, gb, gb2, rfl, by unfold cod; rw [bind_bad g1]⟩⟩
    have hb1 : ¬ (b : Int) = 0 := by omega
    have hb2 : ((b : Int) == 0) = false := by simp; omega
    clear d1 g1 gb gb2
    go_wp2_with fail
    go_step3
    refine ⟨rfl, ?_⟩
    go_wp2_with fail
    rw [Exit.noGoto_ret]
    go_ret3
    exact unhide HE

end
end Go.Proofs.Ytppbnodgnphaaaa
