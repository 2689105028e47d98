/- Compare. -/
import Derived.Test.YthhdlmegbbmbhaaCu
namespace Go.Proofs.Ythhdlmegbbmbhaa
open Go.RowKit Go.Shelf
set_option linter.unusedVariables false

attribute [local go_sem] Oper.semAt_some

theorem cmpB_self (l : List UInt8) : Lib.compareBytes l l = 0 := by
  induction l with
  | nil => rfl
  | cons a r ih => unfold Lib.compareBytes; rw [if_neg (UInt8.lt_irrefl a), if_neg (UInt8.lt_irrefl a), ih]

theorem cmpB_vals (a b : List UInt8) : Lib.compareBytes a b = -1 ∨ Lib.compareBytes a b = 0 ∨ Lib.compareBytes a b = 1 := by
  induction a generalizing b with
  | nil => cases b <;> simp [Lib.compareBytes]
  | cons x r ih =>
    cases b with
    | nil => simp [Lib.compareBytes]
    | cons y s =>
      unfold Lib.compareBytes
      split
      · exact .inl rfl
      · split
        · exact .inr (.inr rfl)
        · exact ih s

theorem cmpPs_vals (a b : List (List UInt8)) : cmpPs a b = -1 ∨ cmpPs a b = 0 ∨ cmpPs a b = 1 := by
  induction a generalizing b with
  | nil => cases b <;> simp [cmpPs]
  | cons x r ih =>
    cases b with
    | nil => simp [cmpPs]
    | cons y s =>
      unfold cmpPs
      split
      · exact cmpB_vals x y
      · exact ih s

/-- what Compare's loop keeps -/
structure CI (a b : ByteArray) (H : Nat) (w : World) (k : Nat) (W : World) : Prop where
  res : Var W H 3 (.int .i64 0)
  more : ∃ (r : ByteArray) (m : Bool), Var W (H + 1) 9 (.string r) ∧ Var W (H + 2) 4 (.bool m) ∧ r.size ≤ b.size ∧ cmpL a.data.toList b.data.toList = cmpPs ((pcs a.data.toList).drop k) (if m = true then pcs r.data.toList else [])
  below : Below H w W
  le : H + 4 ≤ W.heap.size

structure CX (a b : ByteArray) (H : Nat) (w : World) (c : Code) (W : World) : Prop where
  ret : c = .ret
  res : Var W H 3 (.int .i64 (cmpL a.data.toList b.data.toList))
  below : Below H w W
  le : H + 4 ≤ W.heap.size

theorem CI.grown {a b : ByteArray} {H k : Nat} {w W W' : World} {row : Option Nat} (h : CI a b H w k W) (hg : W.grownBy W' row) (hr : ∀ r, row = some r → H + 4 ≤ r ∧ ∃ o : Obj, W.heap[r]? = some o ∧ o.isCells = false) : CI a b H w k W' := by
  obtain ⟨r, m, h1, h2, h3, h4⟩ := h.more
  exact ⟨h.res.grown hg hr, ⟨r, m, h1.grown hg hr, h2.grown hg hr, h3, h4⟩, below_grown h.below hg (by have := h.le; omega) (by omega) hr, Nat.le_trans h.le hg.size⟩

theorem CX.grown {a b : ByteArray} {H : Nat} {c : Code} {w W W' : World} {row : Option Nat} (h : CX a b H w c W) (hg : W.grownBy W' row) (hr : ∀ r, row = some r → H + 4 ≤ r ∧ ∃ o : Obj, W.heap[r]? = some o ∧ o.isCells = false) : CX a b H w c W' :=
  ⟨h.ret, h.res.grown hg hr, below_grown h.below hg (by have := h.le; omega) (by omega) hr, Nat.le_trans h.le hg.size⟩

set_option maxHeartbeats 4000000 in
theorem compare_ok (a b : ByteArray) (w : World) (ha : a.size ≤ 9223372036854775807) (hb : b.size ≤ 9223372036854775807) :
    Calls Try.prog 20 #[.string a, .string b] w fun e w' => e = .returned (.int .i64 (cmpL a.data.toList b.data.toList)) ∧ Below w.heap.size w w' := by
  obtain ⟨H, hH⟩ : ∃ H, H = w.heap.size := ⟨_, rfl⟩
  have HH := hide hH
  refine (callsIn_wide (n := 4)).1 (callsIn_of_wp_marks Try.func20 rfl trivial (wpIn_wide.2 ?_) rfl)
  simp only [Try.ntmps20, List.size_toArray, List.length_cons, List.length_nil, Nat.reduceAdd, Nat.reduceSub, Array.replicate_succ, Array.replicate_zero, List.push_toArray, List.append_toArray, List.nil_append, List.cons_append]
  go_wp2_with fail
  refine (pieces_ok a _).mono ?_
  rintro e W3 ⟨rfl, hW3⟩
  have v0 : Var W3 H 3 (.int .i64 0) := by rw [hW3, hH]; exact (((Var.new w _ _).alloc _).alloc _).alloc _
  have v1 : Var W3 (H + 1) 9 (.string b) := by
    rw [hW3, hH]
    have := ((Var.new (w.alloc (.cells #[.int .i64 0] 3)) 9 (.string b)).alloc (.cells #[.bool true] 4)).alloc (.cells #[.string a] 9)
    rwa [World.size_alloc] at this
  have v2 : Var W3 (H + 2) 4 (.bool true) := by
    rw [hW3, hH]
    have := (Var.new ((w.alloc (.cells #[.int .i64 0] 3)).alloc (.cells #[.string b] 9)) 4 (.bool true)).alloc (.cells #[.string a] 9)
    rwa [World.size_alloc, World.size_alloc] at this
  have v3 : Var W3 (H + 3) 9 (.string a) := by
    rw [hW3, hH]
    have := Var.new (((w.alloc (.cells #[.int .i64 0] 3)).alloc (.cells #[.string b] 9)).alloc (.cells #[.bool true] 4)) 9 (.string a)
    rwa [World.size_alloc, World.size_alloc, World.size_alloc] at this
  have hbel : Below H w W3 := by
    rw [hW3, hH]
    exact ((((Below.refl _ _).alloc (Nat.le_refl _) _).alloc (by simp) _).alloc (by simp; omega) _).alloc (by simp; omega) _
  have hs3 : W3.heap.size = H + 4 := by rw [hW3, hH]; simp
  rw [show (((w.alloc (.cells #[.int .i64 0] 3)).alloc (.cells #[.string b] 9)).alloc (.cells #[.bool true] 4)).heap.size = H + 3 by rw [hH]; simp, show w.heap.size + 1 = H + 1 by rw [hH], show w.heap.size = H from hH.symm]
  clear hW3 hH
  have HSZ := hide hs3
  have HI0 := hide (show CI a b H w 0 W3 from ⟨v0, ⟨b, true, v1, v2, Nat.le_refl _, by simp [cmpL]⟩, hbel, by omega⟩)
  have V3 := hide v3
  clear v0 v1 v2 v3 hbel hs3
  go_wp2_with fail
  refine (wpIn_wide (n := 4)).1 ?_
  refine range_at (F := Fence.wide) rfl (by omega) (gf := 39) (lb := #[.pointer (some ⟨H + 3, 0, none⟩)]) rfl trivial (enters_of Try.func39 (by kernel_rfl) rfl) (fun k => #[.string (pcAt a.data.toList k)]) (KpB (H + 3) (.string a)) (pcs a.data.toList).length
    (pieces1_at Fence.wide (4 - 1) trivial rfl (by omega) (H + 3) a ha W3 (unhide V3)) KpB.trans KpB.other (fun _ => rfl)
    (CI a b H w) (CX a b H w)
    (fun k W W' row h hg hr => h.grown hg (by rw [unhide HSZ] at hr; exact hr))
    (fun c W W' row h hg hr => h.grown hg (by rw [unhide HSZ] at hr; exact hr))
    (unhide HI0)
    (fun k a' => ∃ x8 x9, a' = { tmps := #[.string a, .string b, undef, undef, .pointer (some ⟨H, 0, none⟩), .pointer (some ⟨H + 1, 0, none⟩), .pointer (some ⟨H + 1 + 1, 0, none⟩), .string (pcAt a.data.toList k), x8, x9, .string b, .string a, .func (.func 39) #[] #[.pointer (some ⟨H + 3, 0, none⟩)], .string (pcAt a.data.toList k), undef, undef, undef, undef, undef, undef, undef, undef, undef, undef, undef, undef, undef, undef, undef], defers := [] })
    ?assign ?body ?done ?stop
  case assign =>
    intro l k W K hk hi hK
    have HK := hide hK
    clear hK hi
    gi_wp2
    exact unhide HK _ ⟨_, _, rfl⟩
  case body =>
    rintro l k a' W hk hi ⟨x8, x9, rfl⟩
    obtain ⟨r, m, m1, m2, m3, m4⟩ := hi.more
    have hd : (pcs a.data.toList).drop k = (pcAt a.data.toList k).data.toList :: (pcs a.data.toList).drop (k + 1) := by
      rw [List.drop_eq_getElem_cons hk, pcAt_list hk]
    rw [hd] at m4
    have c0 := hi.res.cell
    have f0 := hi.res.free
    have c1 := m1.cell
    have f1 := m1.free
    have c2 := m2.cell
    have f2 := m2.free
    have HI := hide hi
    have H4 := hide m4
    have HM1 := hide m1
    have HM2 := hide m2
    clear hi m4 hd m1 m2
    cases m with
    | false =>
      gi_wp2
      have hi := unhide HI
      have h4 := unhide H4
      rw [if_neg Bool.false_ne_true] at h4
      refine ⟨KeepsOthers.setCell _ _ _, .inr ⟨.ret, .inl ⟨rfl, rfl⟩, rfl, ?_, hi.below.setCell (p := ⟨H, 0, none⟩) (Nat.le_refl _) _, by rw [World.size_setCell]; exact hi.le⟩⟩
      rw [h4]
      exact hi.res.set _
    | true =>
      clear c0 f0
      have HCUT := hide (cut_ok r W (by omega))
      have h34 : Fence.wide.fn 34 := trivial
      have h35 : Fence.wide.fn 35 := trivial
      gi_wp2
      refine ((callsIn_wide.2 (unhide HCUT)).inRound l).mono ?_
      rintro e W2 ⟨x, y, m, rfl, hc, n, rfl⟩
      have hb2 := below_drewN W.heap.size W n
      have c1 := ((unhide HM1).belowAll hb2).cell
      have f1 := ((unhide HM1).belowAll hb2).free
      have c2 := ((unhide HM2).belowAll hb2).cell
      have f2 := ((unhide HM2).belowAll hb2).free
      have HC := hide hc
      clear hc hb2
      gi_wp2
      obtain ⟨Wz, hWz⟩ : ∃ Wz, Wz = ((W.drewN n).setCell ⟨H + 1, 0, none⟩ (.string y)).setCell ⟨H + 1 + 1, 0, none⟩ (.bool m) := ⟨_, rfl⟩
      rw [← hWz]
      refine ((callsIn_wide.2 (Try.strings_Compare (pcAt a.data.toList k) x Wz)).inRound l).mono ?_
      rintro e W5 ⟨rfl, rfl⟩
      obtain ⟨cc, hcc⟩ : ∃ cc, cc = Lib.compareBytes (pcAt a.data.toList k).data.toList x.data.toList := ⟨_, rfl⟩
      rw [← hcc]
      have hb2 := below_drewN W.heap.size W n
      have hi := unhide HI
      have hko : KeepsOthers W W5 := by rw [hWz]; exact ((others_below hb2).trans (KeepsOthers.setCell _ _ _)).trans (KeepsOthers.setCell _ _ _)
      have hres : Var W5 H 3 (.int .i64 0) := by rw [hWz]; exact ((hi.res.belowAll hb2).other (H + 1) (by omega) _).other (H + 1 + 1) (by omega) _
      have h1 : Var W5 (H + 1) 9 (.string y) := by rw [hWz]; exact (((unhide HM1).belowAll hb2).set _).other (H + 1 + 1) (by omega) _
      have h2 : Var W5 (H + 2) 4 (.bool m) := by rw [hWz]; exact (((unhide HM2).belowAll hb2).other (H + 1) (by omega) _).set _
      have hbw : Below H w W5 := by rw [hWz]; exact ((hi.below.trans (hb2.mono (by have := hi.le; omega))).setCell (p := ⟨H + 1, 0, none⟩) (by show H ≤ H + 1; omega) _).setCell (p := ⟨H + 1 + 1, 0, none⟩) (by show H ≤ H + 1 + 1; omega) _
      have hsz : H + 4 ≤ W5.heap.size := by have := hko.size; have := hi.le; omega
      have hbx : Var W (H + 3) 9 (.string a) → Var W5 (H + 3) 9 (.string a) := fun h => by rw [hWz]; exact ((h.belowAll hb2).other (H + 1) (by omega) _).other (H + 1 + 1) (by omega) _
      have h4 := unhide H4
      have hc := unhide HC
      rw [if_pos trivial] at h4
      have hmeq : cmpL a.data.toList b.data.toList = (if cc ≠ 0 then cc else cmpPs ((pcs a.data.toList).drop (k + 1)) (if m = true then pcs y.data.toList else [])) := by
        rw [h4, hcc]
        cases m with
        | true => rw [hc.yes rfl, if_pos rfl]; rfl
        | false => rw [hc.no rfl, if_neg Bool.false_ne_true]; rfl
      have c0 := hres.cell
      have f0 := hres.free
      have HR := hide hres
      have G1 := hide h1
      have G2 := hide h2
      have GB := hide hbw
      have GK := hide hko
      have GE := hide hmeq
      have GX := hide hbx
      have GY : Hid (y.size ≤ b.size) := hide (Nat.le_trans hc.yle m3)
      have GS := hide hsz
      clear hWz hcc hi hko hres h1 h2 hbw hsz h4 hc hmeq hbx hb2 c1 f1 c2 f2 HC HI H4 HM1 HM2
      by_cases hz : cc = 0
      · subst hz
        gi_wp2
        have hm := unhide GE
        rw [if_neg (by simp)] at hm
        exact ⟨unhide GK, .inl ⟨⟨(unhide GK).walks, unhide GX⟩, unhide HR, ⟨y, m, unhide G1, unhide G2, unhide GY, hm⟩, unhide GB, unhide GS⟩⟩
      · gi_wp2
        have hm := unhide GE
        rw [if_pos hz] at hm
        refine ⟨(unhide GK).trans (KeepsOthers.setCell _ _ _), .inr ⟨.ret, .inl ⟨rfl, rfl⟩, rfl, ?_, (unhide GB).setCell (p := ⟨H, 0, none⟩) (Nat.le_refl _) _, by rw [World.size_setCell]; exact unhide GS⟩⟩
        rw [hm]
        exact (unhide HR).set _
  case done =>
    rintro D W hD hi hK
    obtain ⟨r, m, m1, m2, m3, m4⟩ := hi.more
    rw [List.drop_of_length_le (Nat.le_refl _)] at m4
    rw [unhide HSZ] at hD
    have c0 := hi.res.cell
    have f0 := hi.res.free
    have c2 := m2.cell
    have hm4 : cmpL a.data.toList b.data.toList = if m = true then -1 else 0 := by
      rw [m4]
      cases m with
      | false => rfl
      | true =>
        rw [if_pos rfl, if_pos rfl]
        have := pcs_ne r.data.toList
        revert this
        cases pcs r.data.toList with
        | nil => intro h; exact absurd rfl h
        | cons p q => intro _; rfl
    have HE : Hid (∀ v : Int, cmpL a.data.toList b.data.toList = v → (W.setCell ⟨H, 0, none⟩ (.int .i64 v)).heap[D]? = some (.deferred (some [])) ∧ CX a b H w .ret ((W.setCell ⟨H, 0, none⟩ (.int .i64 v)).putObj D (.deferred none))) := hide fun v hv => by
      have hD2 : (W.setCell ⟨H, 0, none⟩ (.int .i64 v)).heap[D]? = some (.deferred (some [])) := (Below.heap_setCell W ⟨H, 0, none⟩ _ D (by show D ≠ H; omega)).trans hK
      refine ⟨hD2, CX.grown (H := H) ⟨rfl, ?_, hi.below.setCell (p := ⟨H, 0, none⟩) (Nat.le_refl _) _, by rw [World.size_setCell]; exact hi.le⟩ (grownBy_putObj' _ D (.deferred none)) (fun r e => by
        injection e with e
        subst e
        exact ⟨by omega, _, hD2, rfl⟩)⟩
      rw [hv]
      exact hi.res.set _
    clear hi m1 m2 m4 hK
    cases m with
    | false =>
      have hq := hide ((unhide HE) 0 hm4)
      clear hm4 HE
      go_wp2_with fail
      obtain ⟨q1, q2⟩ := unhide hq
      refine ⟨by simp, .inl ⟨_, _, rfl, run_takeDeferred q1, ⟨_, results_var rfl _ _ ⟨H, 0, none⟩ rfl _ q2.res.cell (Try.isAgg3 _), rfl, ?_⟩⟩⟩
      rw [← unhide HH]
      exact q2.below
    | true =>
      have hq := hide ((unhide HE) (-1) hm4)
      clear hm4 HE
      go_wp2_with fail
      obtain ⟨q1, q2⟩ := unhide hq
      refine ⟨by simp, .inl ⟨_, _, rfl, run_takeDeferred q1, ⟨_, results_var rfl _ _ ⟨H, 0, none⟩ rfl _ q2.res.cell (Try.isAgg3 _), rfl, ?_⟩⟩⟩
      rw [← unhide HH]
      exact q2.below
  case stop =>
    rintro D c W hD hx hK
    obtain rfl := hx.ret
    rw [unhide HSZ] at hD
    have HX := hide (hx.grown (grownBy_putObj' W D (.deferred none)) (fun r e => by
      injection e with e
      subst e
      exact ⟨by omega, _, hK, rfl⟩))
    clear hx
    refine wpIn_ret ?_
    go_wp2_with fail
    refine ⟨by simp, .inl ⟨_, _, rfl, run_takeDeferred hK, ?_⟩⟩
    have hx := unhide HX
    refine ⟨_, results_var rfl _ _ ⟨H, 0, none⟩ rfl _ hx.res.cell (Try.isAgg3 _), rfl, ?_⟩
    rw [← unhide HH]
    exact hx.below

end Go.Proofs.Ythhdlmegbbmbhaa
