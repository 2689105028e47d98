/- pieces and Valid. -/
import Derived.Test.YthhdlmegbbmbhaaPi
import Derived.Laws.Rows
namespace Go.Proofs.Ythhdlmegbbmbhaa
open Go.RowKit Go.Shelf
set_option linter.unusedVariables false

attribute [local go_sem] Oper.semAt_some

set_option maxHeartbeats 400000 in
theorem pieces_ok (s : ByteArray) (w : World) :
    Calls Try.prog 28 #[.string s] w fun e w' => e = .returned (.func (.func 39) #[] #[.pointer (some ⟨w.heap.size, 0, none⟩)]) ∧ w' = w.alloc (.cells #[.string s] 9) := by
  go_enter Try.func28, Try.ntmps28
  go_wp2_with fail
  go_ret
  exact ⟨rfl, rfl⟩

/-! ### Cells of one's own -/

/-- a variable of one cell -/
def Var (W : World) (b t : Nat) (v : Value) : Prop := W.heap[b]? = some (.cells #[v] t (0, 0))

theorem Var.cell {W : World} {b t : Nat} {v : Value} (h : Var W b t v) : W.cell? ⟨b, 0, none⟩ = some v := cell_of_heap h
theorem Var.free {W : World} {b t : Nat} {v : Value} (h : Var W b t v) : W.frozen? ⟨b, 0, none⟩ = false := by
  simp [World.frozen?, show W.heap[b]? = _ from h]
theorem Var.lt {W : World} {b t : Nat} {v : Value} (h : Var W b t v) : b < W.heap.size := (Array.getElem?_eq_some_iff.1 h).1
theorem Var.new (W : World) (t : Nat) (v : Value) : Var (W.alloc (.cells #[v] t)) W.heap.size t v := World.alloc_heap_new W _
theorem Var.alloc {W : World} {b t : Nat} {v : Value} (h : Var W b t v) (o : Obj) : Var (W.alloc o) b t v := (Below.heap_alloc W o b h.lt).trans h
theorem Var.below {W W' : World} {b t : Nat} {v : Value} {B : Nat} (h : Var W b t v) (hb : Below B W W') (hB : b < B) : Var W' b t v := (hb.block b hB).trans h
theorem Var.belowAll {W W' : World} {b t : Nat} {v : Value} (h : Var W b t v) (hb : Below W.heap.size W W') : Var W' b t v := h.below hb h.lt
theorem Var.other {W : World} {b t : Nat} {v : Value} (h : Var W b t v) (b' : Nat) (hne : b ≠ b') (u : Value) : Var (W.setCell ⟨b', 0, none⟩ u) b t v := (Below.heap_setCell W ⟨b', 0, none⟩ u b hne).trans h
theorem Var.set {W : World} {b t : Nat} {v : Value} (h : Var W b t v) (u : Value) : Var (W.setCell ⟨b, 0, none⟩ u) b t u := by
  have h2 := heap_setCell_same W b 0 #[v] t u h
  exact h2
theorem Var.grown {W W' : World} {b t : Nat} {v : Value} {row : Option Nat} {B : Nat} (h : Var W b t v) (hg : W.grownBy W' row) (hr : ∀ r, row = some r → B ≤ r ∧ ∃ o : Obj, W.heap[r]? = some o ∧ o.isCells = false) : Var W' b t v := by
  refine (hg.block b h.lt (fun e => ?_)).trans h
  obtain ⟨_, o, ho, hc⟩ := hr b e.symm
  rw [show W.heap[b]? = _ from h] at ho
  cases ho
  cases hc

theorem below_grown {W W' W0 : World} {row : Option Nat} {A B : Nat} (h : Below A W0 W) (hg : W.grownBy W' row) (hA : A ≤ W.heap.size) (hAB : A ≤ B) (hr : ∀ r, row = some r → B ≤ r ∧ ∃ o : Obj, W.heap[r]? = some o ∧ o.isCells = false) : Below A W0 W' :=
  h.grown hg hA (fun k e => Nat.le_trans hAB (hr k e).1)

theorem others_below {W W' : World} (h : Below W.heap.size W W') : KeepsOthers W W' :=
  ⟨h.size, fun k o hk ho => by rw [h.block k (Array.getElem?_eq_some_iff.1 hk).1]; exact hk⟩

theorem results_var {fn : Func} {a : Tmp} {t : TypeId} (h : fn.results = #[.cell a t]) (tmps : Array Value) (w : World) (ad : Addr) (ha : tmps.getD a undef = .pointer (some ad)) (x : Value) (hx : w.cell? ad = some x) (hagg : (isAgg t).run Try.prog w = .ok false w) :
    (results fn tmps).run Try.prog w = .ok x w := by
  simp only [results, h]
  simp only [List.mapM_toArray, List.mapM_cons, List.mapM_nil]
  simp only [ha]
  go_simp


/-! ### Pieces -/

theorem pcs_len (l : List UInt8) : (pcs l).length ≤ l.length + 1 := by
  induction l with
  | nil => simp [pcs]
  | cons b r ih =>
    unfold pcs
    split
    · simp; exact ih
    · revert ih
      cases pcs r with
      | nil => simp
      | cons a q => intro ih; simp at ih ⊢; omega

theorem pcs_small (l : List UInt8) : ∀ p, p ∈ pcs l → p.length ≤ l.length := by
  induction l with
  | nil => intro p hp; simp [pcs] at hp; simp [hp]
  | cons b r ih =>
    unfold pcs
    split
    · intro p hp
      rcases List.mem_cons.1 hp with rfl | hp
      · simp
      · have := ih p hp; simp; omega
    · revert ih
      cases pcs r with
      | nil => intro _ p hp; simp at hp; subst hp; simp
      | cons a q =>
        intro ih p hp
        rcases List.mem_cons.1 hp with rfl | hp
        · have := ih a (by simp); simp; omega
        · have := ih p (by simp [hp]); simp; omega

theorem pcAt_list {l : List UInt8} {k : Nat} (h : k < (pcs l).length) : (pcAt l k).data.toList = (pcs l)[k] := by
  unfold pcAt
  rw [List.getElem?_eq_getElem h]
  simp

theorem pcAt_size (s : ByteArray) (k : Nat) : (pcAt s.data.toList k).size ≤ s.size := by
  by_cases h : k < (pcs s.data.toList).length
  · have h1 := pcs_small s.data.toList _ (List.getElem_mem h)
    rw [← pcAt_list h] at h1
    simpa using h1
  · unfold pcAt
    rw [List.getElem?_eq_none (by omega)]
    exact Nat.zero_le _

/-- what Valid's loop keeps -/
structure VI (l : List UInt8) (H : Nat) (w : World) (k : Nat) (W : World) : Prop where
  res : Var W H 4 (.bool false)
  count : Var W (H + 1) 3 (.int .i64 (k : Int))
  names : ∀ j (h : j < (pcs l).length), j < k → nameL (pcs l)[j] = true
  below : Below H w W

/-- and what it leaves where a piece is no name -/
structure VX (l : List UInt8) (H : Nat) (w : World) (c : Code) (W : World) : Prop where
  ret : c = .ret
  res : Var W H 4 (.bool false)
  bad : ∃ j, ∃ h : j < (pcs l).length, nameL (pcs l)[j] = false
  below : Below H w W
  le : H + 3 ≤ W.heap.size

theorem validL_bad {l : List UInt8} (h : ∃ j, ∃ h : j < (pcs l).length, nameL (pcs l)[j] = false) : validL l = false := by
  obtain ⟨j, hj, e⟩ := h
  have this : (pcs l).all nameL = false := by
    rw [List.all_eq_false]
    exact ⟨_, List.getElem_mem hj, by rw [e]; exact Bool.false_ne_true⟩
  simp only [validL, this, Bool.and_false, Bool.false_and]

theorem validL_end {l : List UInt8} (h0 : l.length ≤ 1024) (h : ∀ j (h : j < (pcs l).length), j < (pcs l).length → nameL (pcs l)[j] = true) : validL l = decide (((pcs l).length : Int) ≤ 64) := by
  have : (pcs l).all nameL = true := by
    rw [List.all_eq_true]
    intro x hx
    obtain ⟨j, hj, rfl⟩ := List.mem_iff_getElem.1 hx
    exact h j hj hj
  simp only [validL, this, h0, decide_true, Bool.true_and]
  congr 1
  exact propext ⟨fun h => by omega, fun h => by omega⟩

set_option maxHeartbeats 2000000 in
theorem valid_ok (s : ByteArray) (w : World) (hs : s.size ≤ 9223372036854775807) :
    Calls Try.prog 11 #[.string s] w fun e w' => e = .returned (.bool (validL s.data.toList)) ∧ Below w.heap.size w w' := by
  have hsz : s.data.toList.length = s.size := by simp
  by_cases hbig : 1024 < s.size
  · have h1 : (1024 : Int) < (s.size : Int) := by omega
    have hv : validL s.data.toList = false := by
      have : ¬ s.data.toList.length ≤ 1024 := by omega
      simp only [validL, decide_eq_false this, Bool.false_and]
    have HV := hide hv
    clear hv
    go_enter Try.func11, Try.ntmps11
    go_wp2_with fail
    refine bodyPost_ret (results_var rfl _ _ ⟨w.heap.size, 0, none⟩ rfl (.bool false) (Var.new w 4 _).cell (Try.isAgg4 _)) rfl ?_
    exact ⟨by rw [unhide HV], (Below.refl _ w).alloc (Nat.le_refl _) _⟩
  have h1 : ¬ (1024 : Int) < (s.size : Int) := by omega
  obtain ⟨H, hH⟩ : ∃ H, H = w.heap.size := ⟨_, rfl⟩
  have HH := hide hH
  refine (callsIn_wide (n := 4)).1 (callsIn_of_wp_marks Try.func11 rfl trivial (wpIn_wide.2 ?_) rfl)
  simp only [Try.ntmps11, List.size_toArray, List.length_cons, List.length_nil, Nat.reduceAdd, Nat.reduceSub, Array.replicate_succ, Array.replicate_zero, List.push_toArray, List.append_toArray, List.nil_append, List.cons_append]
  go_wp2_with fail
  refine (pieces_ok s _).mono ?_
  rintro e W3 ⟨rfl, hW3⟩
  have v0 : Var W3 H 4 (.bool false) := by rw [hW3, hH]; exact ((Var.new w _ _).alloc _).alloc _
  have v1 : Var W3 (H + 1) 3 (.int .i64 ((0 : Nat) : Int)) := by
    rw [hW3, hH]
    have := (Var.new (w.alloc (.cells #[.bool false] 4)) 3 (.int .i64 0)).alloc (.cells #[.string s] 9)
    rwa [World.size_alloc] at this
  have v2 : Var W3 (H + 2) 9 (.string s) := by
    rw [hW3, hH]
    have := Var.new ((w.alloc (.cells #[.bool false] 4)).alloc (.cells #[.int .i64 0] 3)) 9 (.string s)
    rwa [World.size_alloc, World.size_alloc] at this
  have hbel : Below H w W3 := by
    rw [hW3, hH]
    exact (((Below.refl _ _).alloc (Nat.le_refl _) _).alloc (by simp) _).alloc (by simp; omega) _
  have hs3 : W3.heap.size = H + 3 := by rw [hW3, hH]; simp
  rw [show ((w.alloc (.cells #[.bool false] 4)).alloc (.cells #[.int .i64 0] 3)).heap.size = H + 2 by rw [hH]; simp, show w.heap.size + 1 = H + 1 by rw [hH], show w.heap.size = H from hH.symm]
  clear hW3 hH
  have HSZ := hide hs3
  have V0 := hide v0
  have V1 := hide v1
  have V2 := hide v2
  have HBEL := hide hbel
  clear v0 v1 hbel
  go_wp2_with fail
  refine (wpIn_wide (n := 4)).1 ?_
  refine range_at (F := Fence.wide) rfl (by omega) (gf := 39) (lb := #[.pointer (some ⟨H + 2, 0, none⟩)]) rfl trivial (enters_of Try.func39 (by kernel_rfl) rfl) (fun k => #[.string (pcAt s.data.toList k)]) (KpB (H + 2) (.string s)) (pcs s.data.toList).length
    (pieces1_at Fence.wide (4 - 1) trivial rfl (by omega) (H + 2) s hs W3 (unhide V2)) KpB.trans KpB.other (fun _ => rfl)
    (fun k W => VI s.data.toList H w k W ∧ H + 3 ≤ W.heap.size) (VX s.data.toList H w)
    (fun k W W' row h hg hr => ⟨⟨h.1.res.grown hg hr, h.1.count.grown hg hr, h.1.names, below_grown h.1.below hg (by omega) (by rw [unhide HSZ]; omega) hr⟩, Nat.le_trans h.2 hg.size⟩)
    (fun c W W' row h hg hr => ⟨h.ret, h.res.grown hg hr, h.bad, below_grown h.below hg (by have := h.le; omega) (by rw [unhide HSZ]; omega) hr, Nat.le_trans h.le hg.size⟩)
    ⟨⟨unhide V0, unhide V1, fun j _ h => absurd h (Nat.not_lt_zero _), unhide HBEL⟩, by rw [unhide HSZ]; omega⟩
    (fun k a' => a' = { tmps := #[.string s, undef, .pointer (some ⟨H, 0, none⟩), .pointer (some ⟨H + 1, 0, none⟩), .string (pcAt s.data.toList k), .string s, .int .i64 (s.size : Int), .bool false, .string s, .func (.func 39) #[] #[.pointer (some ⟨H + 2, 0, none⟩)], .string (pcAt s.data.toList k), undef, undef, undef, undef, undef, undef, undef], defers := [] })
    ?assign ?body ?done ?stop
  case assign =>
    intro l k W K hk hi hK
    have HK := hide hK
    clear hK hi
    gi_wp2
    exact unhide HK _ rfl
  case body =>
    rintro l k a' W hk ⟨hi, hle⟩ rfl
    have HN := hide (isName_ok (pcAt s.data.toList k) W (Nat.le_trans (pcAt_size s k) hs))
    rw [pcAt_list hk] at HN
    have hk2 : (k : Int) ≤ 1025 := by have := pcs_len s.data.toList; omega
    have HI := hide hi
    have h30 : Fence.wide.fn 30 := trivial
    clear hi
    gi_wp2
    refine ((callsIn_wide.2 (unhide HN)).inRound l).mono ?_
    rintro e W2 ⟨rfl, hb2⟩
    have hi := unhide HI
    have w0 := hi.res.belowAll hb2
    have w1 := hi.count.belowAll hb2
    have c0 := w0.cell
    have g0 := w0.free
    have c1 := w1.cell
    have g1 := w1.free
    have HB2 := hide hb2
    clear hi hb2
    by_cases hn : nameL ((pcs s.data.toList)[k]'hk) = true
    · rw [hn]
      gi_wp2
      have hb2 := unhide HB2
      have hi := unhide HI
      have hko : KeepsOthers W (W2.setCell ⟨H + 1, 0, none⟩ (.int .i64 ((k : Int) + 1))) := (others_below hb2).trans (KeepsOthers.setCell _ _ _)
      refine ⟨hko, .inl ⟨⟨hko.walks, fun x => ((show Var W (H + 2) 9 (.string s) from x).belowAll hb2).other (H + 1) (by omega) _⟩, ⟨w0.other (H + 1) (by omega) _, w1.set _, fun j hj hjk => ?_, ?_⟩, by have := hb2.size; omega⟩⟩
      · rcases Nat.lt_or_ge j k with h | h
        · exact hi.names j hj h
        · have e : j = k := by omega
          subst e
          exact hn
      · exact (hi.below.trans (hb2.mono (by omega))).setCell (p := ⟨H + 1, 0, none⟩) (by show H ≤ H + 1; omega) _
    · have hnf : nameL ((pcs s.data.toList)[k]'hk) = false := by simpa using hn
      rw [hnf]
      gi_wp2
      have hb2 := unhide HB2
      have hi := unhide HI
      have hb3 : Below H w W2 := hi.below.trans (hb2.mono (by omega))
      refine ⟨(others_below hb2).trans (KeepsOthers.setCell _ _ _), .inr ⟨.ret, .inl ⟨rfl, rfl⟩, rfl, w0.set _, ⟨k, hk, hnf⟩, hb3.setCell (p := ⟨H, 0, none⟩) (Nat.le_refl _) _, ?_⟩⟩
      have h2 := hb2.size
      have h3 := World.size_setCell W2 ⟨H, 0, none⟩ (.bool false)
      omega
  case done =>
    rintro D W hD ⟨hi, hle⟩ hK
    have c0 := hi.res.cell
    have g0 := hi.res.free
    have c1 := hi.count.cell
    have HI := hide hi
    clear hi
    go_wp2_with fail
    rw [unhide HSZ] at hD
    have hi := unhide HI
    have hD2 : (W.setCell ⟨H, 0, none⟩ (.bool (decide (((pcs s.data.toList).length : Int) ≤ 64)))).heap[D]? = some (.deferred (some [])) := (Below.heap_setCell W ⟨H, 0, none⟩ _ D (by show D ≠ H; omega)).trans hK
    refine ⟨by simp, .inl ⟨_, _, rfl, run_takeDeferred hD2, ?_⟩⟩
    have hg := grownBy_putObj' (W.setCell ⟨H, 0, none⟩ (.bool (decide (((pcs s.data.toList).length : Int) ≤ 64)))) D (.deferred none)
    have hr : ∀ r, some D = some r → H + 3 ≤ r ∧ ∃ o : Obj, (W.setCell ⟨H, 0, none⟩ (.bool (decide (((pcs s.data.toList).length : Int) ≤ 64)))).heap[r]? = some o ∧ o.isCells = false := fun r e => by
      injection e with e
      subst e
      exact ⟨by omega, _, hD2, rfl⟩
    refine ⟨_, results_var rfl _ _ ⟨H, 0, none⟩ rfl _ ((hi.res.set _).grown hg hr).cell (Try.isAgg4 _), ?_, ?_⟩
    · rw [validL_end (by omega) hi.names]
    · rw [← unhide HH]
      exact below_grown (hi.below.setCell (p := ⟨H, 0, none⟩) (Nat.le_refl _) _) hg (by simp; omega) (by omega) hr
  case stop =>
    rintro D c W hD hx hK
    obtain rfl := hx.ret
    rw [unhide HSZ] at hD
    have hg := grownBy_putObj' W D (.deferred none)
    have hr : ∀ r, some D = some r → H + 3 ≤ r ∧ ∃ o : Obj, W.heap[r]? = some o ∧ o.isCells = false := fun r e => by
      injection e with e
      subst e
      exact ⟨by omega, _, hK, rfl⟩
    have HX := hide (show VX s.data.toList H w .ret (W.putObj D (.deferred none)) from ⟨rfl, hx.res.grown hg hr, hx.bad, below_grown hx.below hg (by have := hx.le; omega) (by omega) hr, Nat.le_trans hx.le hg.size⟩)
    clear hx hg hr
    refine wpIn_ret ?_
    go_wp2_with fail
    refine ⟨by simp, .inl ⟨_, _, rfl, run_takeDeferred hK, ?_⟩⟩
    have hx := unhide HX
    refine ⟨_, results_var rfl _ _ ⟨H, 0, none⟩ rfl _ hx.res.cell (Try.isAgg4 _), ?_, ?_⟩
    · rw [validL_bad hx.bad]
    · rw [← unhide HH]
      exact hx.below

end Go.Proofs.Ythhdlmegbbmbhaa
