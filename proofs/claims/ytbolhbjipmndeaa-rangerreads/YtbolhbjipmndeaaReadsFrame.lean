/- For all bytes, every n and all acts, hamperlaw13.RangerReads returns true (ranger.NewDecoder and the decoder's Bit, Direct, Tree, Reverse, Set, Done and Chances tell at each step what the document's decoder tells, or its errors, keep nothing of what was handed in and hand out memory of their own), and its arguments read behind the call as they read before; there are no conditions. -/
import Derived.Test.YtbolhbjipmndeaaRr
import Derived.Test.YtbolhbjipmndeaaFo
namespace Go.Proofs.Ytbolhbjipmndeaa.ReadsFrame
open Go.ChangeShapes Go.WideShapes Go.ChangeAt Go.RowKit Go.Deep Go.Joins Fa
set_option maxRecDepth 100000

theorem own : ownKnob Try.prog.godebug = none := by kernel_rfl
theorem laidOut : laidOutB Try.prog = true := by kernel_rfl
theorem cells5 : Try.prog.cellsOf 5 = 1 := by kernel_rfl
theorem bytes5 : Try.prog.bytesOf 5 = 1 := by kernel_rfl

theorem lifted (os : Os) (started : os.Started) (H : Type) (enc : TypeId × Value → H) :
    ReturnsInHanded {} Try.checked os 4 .any (Rows.rangerReadsSpec.pre6 enc Try.prog Try.f4 Rows.rangerReadsRow.domain false) (Rows.rangerReadsSpec.post enc Try.prog Try.f4 false true false false) := by
  refine returnsInHanded_of_change_sized (C := Try.checked) own started (by kernel_rfl) Try.func4
    (ChangeSpec.witness6 (enc := enc) (C := Try.checked) false ⟨#[], #[.slice none 0 0, .int .i64 0, .slice none 0 0], []⟩ 8 (by kernel_rfl) (by kernel_rfl) (by kernel_rfl) (by kernel_rfl)) ?_
  intro W base args ds gs before hval0 hW hcnd hsz0 _
  have hsz : (DataW.weightsEach Try.prog (Try.f4.params.toList ++ Rows.rangerReadsSpec.plain.varTypes Try.prog) (ds ++ gs)).all (· ≤ reachBytes) = true := hsz0
  have hval : ∀ (j : Nat) t v, Try.f4.params[j]? = some t → args[j]? = some v → Value.okWide Try.prog W .any base t v := hval0
  have hW' := hW
  obtain ⟨p, q, hA0, hV, rfl, hfz, hnd⟩ := hW
  have hA : DataW.TrodAll enc Try.prog W 0 (fun _ => true) true Try.f4.params.toList args.toList ds p := hA0
  rw [Try.params4] at hA hval hsz
  obtain ⟨v0, vs0, d0, ds0, p0, q0, hargs, rfl, rfl, h0, r0⟩ := trodAll_cons hA
  obtain ⟨v1, vs1, d1, ds1, p1, q1, rfl, rfl, rfl, h1, r1⟩ := trodAll_cons r0
  obtain ⟨v2, vs2, d2, ds2, p2, q2, rfl, rfl, rfl, h2, r2⟩ := trodAll_cons r1
  obtain ⟨rfl, rfl, rfl⟩ := trodAll_nil r2
  obtain rfl : args = #[v0, v1, v2] := by cases args; simp_all
  obtain ⟨rfl, rfl⟩ := trodVars_none hV
  obtain ⟨a0, len0, cap0, rfl⟩ := okWide_slice Try.underlying32 (hval 0 32 v0 rfl rfl)
  have k0 := h0
  have lt0 : ∀ x ∈ p0, x.block < W.heap.size := by obtain ⟨m, hm⟩ := k0; exact DataW.trod_lt m _ _ _ hm
  obtain ⟨zs0, hzl0, hz0, hsm0, hrd0⟩ : ∃ zs : List Nat, zs.length = len0 ∧ len0 ≤ 140737488351232 ∧ (∀ z ∈ zs, z < 256) ∧ D.SrcB W a0 cap0 zs := by
    obtain ⟨fuel, hf⟩ := h0
    have hf2 := hf
    rcases open_ints Try.underlying32 Try.underlying5 cells5 hf with ⟨hcs, _⟩ | ⟨x, l, c, ys, hcs, _, hl, hm, hz, hx, hcell, hwz⟩
    · simp [Value.cells] at hcs
      obtain ⟨rfl, rfl, rfl⟩ := hcs
      exact ⟨[], rfl, by omega, by simp, .inl ⟨rfl, rfl, rfl⟩⟩
    · simp [Value.cells] at hcs
      obtain ⟨rfl, rfl, rfl⟩ := hcs
      have hlen : len0 ≤ 140737488351232 := by
        rcases open_slice Try.underlying32 hf2 with ⟨hcs, _⟩ | ⟨x', l', c', m', n', Dd, Pl, hcs, _, _, _, _, hx', _⟩
        · simp [Value.cells] at hcs
        · simp [Value.cells] at hcs
          obtain ⟨rfl, rfl, rfl⟩ := hcs
          simp only [Prod.mk.injEq] at hx'
          have hd1 := hx'.1
          subst hd1
          have hz := sized_slice hsz (j := 0) (t := 32) (e := 5) rfl rfl Try.underlying32
          simp [bytes5, reachBytes] at hz
          omega
      simp at hz
      have hb : ∀ y ∈ ys, 0 ≤ y ∧ y ≤ 255 := fun y hy => bounds_u8 (hwz y hy)
      refine ⟨(ys.take len0).map Int.toNat, by simp; omega, hlen, ?_, .inr ⟨x, rfl, fun j u hj => ?_⟩⟩
      · intro z hz'
        obtain ⟨y, hy, rfl⟩ := List.mem_map.1 hz'
        have := hb y (List.mem_of_mem_take hy)
        omega
      · have hj2 : j < len0 := by
          have := (List.getElem?_eq_some_iff.1 hj).1
          simp at this; omega
        rw [hcell j (by omega)]
        rw [List.getElem?_map, List.getElem?_map, List.getElem?_take, if_pos hj2, List.getElem?_eq_getElem (by omega)] at hj
        simp [D.bv] at hj
        rw [← hj]
        have := hb ys[j] (List.getElem_mem _)
        simp [show j < ys.length by omega]
        omega
  obtain ⟨I1, rfl, rfl, rfl, w1⟩ := open_int Try.underlying3 (hval 1 3 v1 rfl rfl) h1
  obtain ⟨a2, len2, cap2, rfl⟩ := okWide_slice Try.underlying22 (hval 2 22 v2 rfl rfl)
  have k2 := h2
  have lt2 : ∀ x ∈ p2, x.block < W.heap.size := by obtain ⟨m, hm⟩ := k2; exact DataW.trod_lt m _ _ _ hm
  obtain ⟨b, off, A, hal, hacts, hlen⟩ := acts_open h2 (fun elems spare e => sized_acts hsz (j := 2) rfl (by rw [e]; rfl))
  clear hA0 hval0
  subst hzl0
  have law : Calls Try.prog 4 #[.slice a0 zs0.length cap0, .int .i64 I1, .slice a2 len2 cap2] W fun e w' => e = .returned (.bool true) ∧ Below W.heap.size W w' := by
    by_cases hn : 0 ≤ I1 ∧ I1 ≤ 65536
    · obtain ⟨n, rfl⟩ := Int.eq_ofNat_of_zero_le hn.1
      have hn' : n ≤ 65536 := by omega
      by_cases h5 : 5 ≤ zs0.length
      · by_cases hz : zs0.getD 0 0 = 0
        · exact D.reads_law n a0 cap0 zs0 a2 b off len2 cap2 A W hn' hrd0 hz0 h5 hz hsm0 hal hacts hlen
        · exact D.reads_bad n 11 a0 cap0 zs0 a2 len2 cap2 W hrd0 hz0 hsm0 hlen (fun W' a c hs => D.qnew_form a c zs0 n W' hn' h5 hs hz) (fun W' a c hs => D.newd_form a c zs0 n W' hn' h5 hs.bytes hz)
      · exact D.reads_bad n 10 a0 cap0 zs0 a2 len2 cap2 W hrd0 hz0 hsm0 hlen (fun W' a c hs => D.qnew_end a zs0.length c n W' hn' (by omega)) (fun W' a c hs => D.newd_end a zs0.length c n W' hn' (by omega))
    · exact D.reads_bad I1 2 a0 cap0 zs0 a2 len2 cap2 W hrd0 hz0 hsm0 hlen (fun W' a c hs => D.qnew_arg a zs0.length c I1 W' (by omega)) (fun W' a c hs => D.newd_arg a zs0.length c I1 W' (by omega))
  refine law.mono fun e W' ⟨he, bel⟩ => ?_
  subst he
  exact ⟨_, rfl, _, _, _, [], _, [], hW', trodAll_mk1 (shut_bool Try.underlying4 _), (trodAll_cons_mk (Below.trod laidOut (by kernel_rfl) (of_decide_eq_true (by kernel_rfl)) k0 bel lt0) (trodAll_cons_mk (shut_int Try.underlying3 w1) (trodAll_cons_mk (Below.trod laidOut (by kernel_rfl) (of_decide_eq_true (by kernel_rfl)) k2 bel lt2) trodAll_mk0))), rfl, bel.frame _, fun h => by cases h⟩

theorem proved : Rows.RangerReadsSaid :=
  OpenClaim.holds_of_wide 4 Try.f4 rfl rfl rfl rfl rfl rfl rfl ⟨rfl, rfl, rfl, rfl, rfl⟩ rfl rfl rfl rfl rfl (by kernel_rfl) Try.func4 (by kernel_rfl)
    (of_decide_eq_true (by kernel_rfl)) (by unfold Func.isWrapper; first | (rw [if_pos (by decide +kernel)]; kernel_rfl) | (rw [if_neg (by decide +kernel)]; exact ⟨rfl, rfl⟩))
    (fun os started H enc _ => lifted os started H enc)

end Go.Proofs.Ytbolhbjipmndeaa.ReadsFrame
namespace Go.Proofs.Ytbolhbjipmndeaa
theorem rangerReads_holds : Rows.RangerReadsSaid := ReadsFrame.proved
end Go.Proofs.Ytbolhbjipmndeaa
