/- RouteBack. -/
import Derived.Test.YthhdlmegbbmbhaaJo
import Derived.Maps.AppendAt
import Derived.RangeFuncBox
import Derived.Deep.Cut
import Derived.Deep.RegionLaw
import Derived.Deep.QuietTactic
import Derived.Deep.DrawnRows
namespace Go.Proofs.Ythhdlmegbbmbhaa
open Go.RowKit Go.Shelf
set_option linter.unusedVariables false

attribute [local go_sem] Oper.semAt_some

theorem maxLen_le {n : Nat} (h : n ≤ maxLen) : n ≤ 9223372036854775807 := h

/-- a call as one step of a region that draws its order -/
theorem step_callw {P : Program} {ops : Array Oper} {o : Oper} {a : Act} {w : World} {K : Act → World → Prop} {Q : Exit → Act → World → Prop} {E : Prop} (f : FuncId) (args : Array Value)
    (hw : Region.wanted o (yielded ops a.tmps) = true) (hrun : (execOp (Act.eval a) o).run P w = .ok (.enter f args) w)
    (h : Calls P f args w fun e w' => ∃ v, e = .returned v ∧ K (a.put o.dst v) w') : if Region.wanted o (yielded ops a.tmps) = true then Oper.wp P o a w K Q else E := by
  rw [if_pos hw]
  unfold Oper.wp
  rw [hrun, Oper.upon_enter]
  refine h.mono ?_
  rintro e w' ⟨v, rfl, h2⟩
  exact h2

theorem infoStr : (Try.prog.info? 9).map (fun i => (i.zero, i.size, i.bytes)) = some (some (.string ⟨#[]⟩), 1, 16) := by kernel_rfl

theorem eql_nilFunc {P : Program} {t : TypeId} {a b : Array TypeId} {c : Bool} (h : P.underlying t = some (.func a b c)) (f : Fn) (x y : Array Value) (W : World) :
    (binOp .eql t (.func f x y) .nilFunc).run P W = .ok (.bool false) W := by
  have hu : ∀ w, Sem.run P (underlying t) w = Result.ok (TypeDesc.func a b c) w := run_underlying h
  have he : ∀ w, Sem.run P (Op.equalIn Op.maxDepth t (Value.func f x y) Value.nilFunc) w = .ok false w := by
    intro w
    show Sem.run P (Op.equalIn (9999 + 1) t (Value.func f x y) Value.nilFunc) w = .ok false w
    unfold Op.equalIn
    simp [Sem.run_bind, hu, Result.andThen]
  simp [binOp, Op.equal, he]

/-- the first k pieces, as values -/
def rowOf (l : List UInt8) (k : Nat) : List Value := (List.range k).map fun j => .string (pcAt l j)

theorem rowOf_succ (l : List UInt8) (k : Nat) : rowOf l (k + 1) = rowOf l k ++ [.string (pcAt l k)] := by
  unfold rowOf
  rw [List.range_succ, List.map_append]
  rfl

theorem ownsRow_mono {W : World} {b b' e size : Nat} {v : Value} {n : Nat} {xs : List Value} (h : W.ownsRow b e size v n xs) (hb : b' ≤ b) : W.ownsRow b' e size v n xs := by
  refine ⟨h.1, ?_⟩
  rcases h.2 with h | ⟨g, cap, cur, h1, h2, h3⟩
  · exact .inl h
  · exact .inr ⟨g, cap, cur, h1, Nat.le_trans hb h2, h3⟩

/-- what Back's loop keeps -/
structure KI (l : List UInt8) (H Bs : Nat) (w : World) (k : Nat) (W : World) : Prop where
  row : ∃ v, Var W H 22 v ∧ W.ownsRow (Bs + 1) 9 1 v k (rowOf l k) ∧ (v = .slice none 0 0 ↔ k = 0)
  below : Below H w W
  le : Bs + 1 ≤ W.heap.size

theorem KI.grown {l : List UInt8} {H Bs k B : Nat} {w W W' : World} {row : Option Nat} (h : KI l H Bs w k W) (hB : H ≤ Bs) (hB2 : H ≤ B) (hg : W.grownBy W' row) (hr : ∀ r, row = some r → B ≤ r ∧ ∃ o : Obj, W.heap[r]? = some o ∧ o.isCells = false) : KI l H Bs w k W' := by
  obtain ⟨v, h1, h2, h3⟩ := h.row
  refine ⟨⟨v, h1.grown hg hr, h2.kept hg ?_, h3⟩, below_grown h.below hg (by have := h.le; omega) hB2 hr, Nat.le_trans h.le hg.size⟩
  rcases h2.2 with ⟨rfl, _⟩ | ⟨g, cap, cur, rfl, _, hgb, _⟩
  · exact .inl rfl
  · refine .inr fun e => ?_
    obtain ⟨_, o, ho, hc⟩ := hr g e.symm
    rw [hgb] at ho
    cases ho
    cases hc

set_option maxHeartbeats 4000000 in
theorem back_law (s : ByteArray) (w : World) (hs : s.size ≤ 9223372036854775807) :
    Calls Try.prog 6 #[.string s] w fun e w' => e = .returned (.bool true) ∧ Below w.heap.size w w' := by
  obtain ⟨H, hH⟩ : ∃ H, H = w.heap.size := ⟨_, rfl⟩
  have HH := hide hH
  refine (callsIn_wide (n := 4)).1 (callsIn_of_wp_marks Try.func6 rfl trivial (wpIn_wide.2 ?_) rfl)
  simp only [Try.ntmps6, List.size_toArray, List.length_cons, List.length_nil, Nat.reduceAdd, Nat.reduceSub, Array.replicate_succ, Array.replicate_zero, List.push_toArray, List.append_toArray, List.nil_append, List.cons_append]
  go_wp2_with fail
  refine (names_ok s _ hs).mono ?_
  rintro e W3 ⟨v, rfl, hn, hb3⟩
  have h0 : Var W3 H 22 (.slice none 0 0) := by rw [hH]; exact (Var.new w _ _).belowAll hb3
  have hbel : Below H w W3 := by
    rw [hH]
    exact ((Below.refl _ w).alloc (Nat.le_refl _) _).trans (hb3.mono (by simp))
  have hsz : H + 1 ≤ W3.heap.size := by have := hb3.size; rw [World.size_alloc] at this; omega
  rw [World.size_alloc, ← hH] at hn
  rw [← hH]
  clear hb3 hH
  have H0 := hide h0
  have HBEL := hide hbel
  have HSZ := hide hsz
  have HJ := hide (fun w h1 h2 => join_ok W3.heap.size 0 2 [⟨#[97]⟩, ⟨#[98]⟩] w h1 h2 (by decide) (by decide) (by intro x hx; simp at hx; rcases hx with rfl | rfl <;> decide))
  have ej : joinS [⟨#[97]⟩, ⟨#[98]⟩] = ⟨#[97, 47, 98]⟩ := by decide
  have ek : joinE [⟨#[97]⟩, ⟨#[98]⟩] = 0 := by decide
  rw [ej, ek] at HJ
  have HJ2 := hide ((unhide HJ) (W3.alloc (.cells #[.string ⟨#[97]⟩, .string ⟨#[98]⟩] 9)) (fun j x hx => by
    have hn := World.alloc_heap_new W3 (.cells #[.string ⟨#[97]⟩, .string ⟨#[98]⟩] 9)
    simp only [World.cell?, hn]
    match j, hx with
    | 0, hx => simp at hx; subst hx; rfl
    | 1, hx => simp at hx; subst hx; rfl
    | j + 2, hx => simp at hx) (by simp))
  clear h0 hbel hsz ej ek HJ
  rcases hn with ⟨hv, Bs, hBs, rfl, hbx⟩ | ⟨hv, rfl⟩
  · have HBX := hide hbx
    have HBS := hide hBs
    have HV := hide hv
    clear hbx hBs hv
    go_wp2_with fail
    refine (unhide HJ2).mono ?_
    rintro e W4 ⟨rfl, hb4⟩
    have hb34 : Below W3.heap.size W3 W4 := ((Below.refl _ W3).alloc (Nat.le_refl _) _).trans (hb4.mono (by simp))
    have HBX4 := hide ((unhide HBX).belowAll hb34)
    have hBlt := (unhide HBX).lt
    have HI0 := hide (show KI s.data.toList H Bs w 0 W4 from ⟨⟨_, (unhide H0).belowAll hb34, World.ownsRow_nil _ _ _ _, by simp⟩, (unhide HBEL).trans (hb34.mono (by have := unhide HSZ; omega)), by have := hb34.size; omega⟩)
    have HB4 : Hid (Bs + 1 ≤ W4.heap.size ∧ H + 1 ≤ W4.heap.size) := hide ⟨by have := hb34.size; omega, by have := hb34.size; have := unhide HSZ; omega⟩
    have q25 := fun (f : Fn) (x y : Array Value) (W : World) => eql_nilFunc Try.underlying25 f x y W
    clear hb4 hb34 hBlt H0 HBEL HBX HJ2
    go_wp2_with fail
    refine (wpIn_wide (n := 4)).1 ?_
    refine range_at (F := Fence.wide) rfl (by omega) (gf := 39) (lb := #[.pointer (some ⟨Bs, 0, none⟩)]) rfl trivial (enters_of Try.func39 (by kernel_rfl) rfl) (fun k => #[.string (pcAt s.data.toList k)]) (KpB Bs (.string s)) (pcs s.data.toList).length
      (pieces1_at Fence.wide (4 - 1) trivial rfl (by omega) Bs s hs W4 (unhide HBX4)) KpB.trans KpB.other (fun _ => rfl)
      (KI s.data.toList H Bs w) (fun _ _ => False)
      (fun k W W' row h hg hr => h.grown (by have := unhide HBS; omega) (by have := unhide HB4; omega) hg hr)
      (fun c W W' row h hg hr => h)
      (unhide HI0)
      (fun k a' => ∃ y1 y2 y4 y5 y6 y8 y9 y10 y11 y12 y13 y14 y15 y16 y17 y18 y19 y20 y21 y22 y23 y24 y25 y26 y27 y28 y29 y30 y31 y32 y33 y34 y35 y36 y37 y38 y39 y40 y41 y42 y43 y44 y45 y46 y47 y48 y49 y50 y51 y52 y53 y54 y55 y56 y57 y58 y59 y60 y61 y62 y63 y64 y65 y66, a' = { tmps := #[.string s, y1, y2, .pointer (some ⟨H, 0, none⟩), y4, y5, y6, .string (pcAt s.data.toList k), y8, y9, y10, y11, y12, y13, y14, y15, y16, y17, y18, y19, y20, y21, y22, y23, y24, y25, y26, y27, y28, y29, y30, y31, y32, y33, y34, y35, y36, y37, y38, y39, y40, y41, y42, y43, y44, y45, y46, y47, y48, y49, y50, y51, y52, y53, y54, y55, y56, y57, y58, y59, y60, y61, y62, y63, y64, y65, y66], defers := [] })
      ?assign ?body ?done ?stop
    case assign =>
      intro l k W K hk hi hK
      have HK := hide hK
      clear hK hi
      gi_wp2
      exact unhide HK _ ⟨_, _, _, _, _, _, _, _, _, _, _, _, _, _, _, _, _, _, _, _, _, _, _, _, _, _, _, _, _, _, _, _, _, _, _, _, _, _, _, _, _, _, _, _, _, _, _, _, _, _, _, _, _, _, _, _, _, _, _, _, _, _, _, _, rfl⟩
    case body =>
      rintro l k a' W hk hi ⟨y1, y2, y4, y5, y6, y8, y9, y10, y11, y12, y13, y14, y15, y16, y17, y18, y19, y20, y21, y22, y23, y24, y25, y26, y27, y28, y29, y30, y31, y32, y33, y34, y35, y36, y37, y38, y39, y40, y41, y42, y43, y44, y45, y46, y47, y48, y49, y50, y51, y52, y53, y54, y55, y56, y57, y58, y59, y60, y61, y62, y63, y64, y65, y66, rfl⟩
      obtain ⟨v, hv, hrow, hnil⟩ := hi.row
      have c0 := hv.cell
      have f0 := hv.free
      have HI := hide hi
      have hk2 : k ≤ 1025 := by have := pcs_len s.data.toList; have := validL_small (unhide HV); have e : s.data.toList.length = s.size := (by simp); omega
      have HBSz := hi.le
      obtain ⟨i0, hi0, hz0, hz1, hz2⟩ := info_parts infoStr
      clear hi
      gi_wp2_with (gi_at_builtin; refine wpListIn_append_own _ rfl _ _ 22 rfl (Bs + 1) 9 i0 (.string ⟨#[]⟩) 1 16 Try.underlying22 hi0 hz0 hz1 hz2 rfl (by decide) _ _ _ rfl (hrow.alloc _) ⟨W.heap.size, 0, none⟩ 1 1 [.string (pcAt s.data.toList k)] rfl rfl (cell_one_new _ _ _) (by simp [Value.oneCell']) (by show k + 1 ≤ 9223372036854775807; omega) (by omega) (by simp; omega) ?_; intro v' w1 hown' hgrow _; obtain ⟨g', cap', rfl⟩ := ownsRow_succ hown'; obtain ⟨hv1, hv2, hr2, hko2, hb2⟩ := Boxed.appended (n₀ := H) hv (by decide) (ownsRow_mono hrow (by have := unhide HBS; omega)) (by have := unhide HBS; omega) (Nat.le_refl _) (ownsRow_mono hown' (by have := unhide HBS; omega)) hgrow; have hc1 := hv1.cell; have hf1 := hv1.frozen)
      have hi := unhide HI
      have hbs := unhide HBS
      have hgB : Bs + 1 ≤ g' := by
        rcases hown'.2 with ⟨h, _⟩ | ⟨g2, cap2, cur, h, hh, _⟩
        · cases h
        · injection h with h
          injection h with h
          injection h with h
          omega
      have hvB : some Bs ≠ v.ownBlock := by
        intro e
        rcases hrow.2 with ⟨h, _⟩ | ⟨g2, cap2, cur, h, hh, _⟩
        · rw [h] at e; cases e
        · rw [h] at e
          injection e with e
          have e' : Bs = g2 := e
          omega
      refine ⟨⟨hko2.walks, fun x => ?_⟩, ⟨⟨_, hv2, ?_, by simp⟩, hi.below.trans hb2, by have := hko2.size; omega⟩⟩
      · have x1 : Var (W.alloc (.cells #[.string (pcAt s.data.toList k)] 9)) Bs 9 (.string s) := (show Var W Bs 9 (.string s) from x).alloc _
        have x2 : Var w1 Bs 9 (.string s) := (hgrow.block Bs x1.lt hvB).trans x1
        exact x2.other H (by omega) _
      · rw [rowOf_succ]
        exact hown'.kept (grownBy_setCell' w1 H _) (.inr (fun e => by
          injection e with e
          have e' : g' = H := e
          omega))
    case done =>
      rintro D W hD hi hK
      obtain ⟨v, hv, hrow, hnil⟩ := hi.row
      have hN := List.length_pos_iff.2 (pcs_ne s.data.toList)
      obtain ⟨N, hNe⟩ : ∃ N, N = (pcs s.data.toList).length := ⟨_, rfl⟩
      obtain ⟨xs, hxs⟩ : ∃ xs : List ByteArray, xs = (List.range N).map (pcAt s.data.toList) := ⟨_, rfl⟩
      have hxl : xs.length = N := by rw [hxs]; simp
      have hxg : ∀ (j : Nat) x, xs[j]? = some x → j < N ∧ x = pcAt s.data.toList j := by
        intro j x hx
        have hj := (List.getElem?_eq_some_iff.1 hx).1
        rw [hxl] at hj
        refine ⟨hj, ?_⟩
        rw [hxs] at hx
        simp [hj] at hx
        exact hx.symm
      have hbs : bsOf xs = pcs s.data.toList := by
        unfold bsOf
        rw [hxs, List.map_map]
        apply List.ext_getElem
        · simp [hNe]
        · intro j h1 h2
          simp only [List.getElem_map, List.getElem_range, Function.comp]
          exact pcAt_list h2
      have hall : (pcs s.data.toList).all nameL = true := List.all_eq_true.2 (validL_names (unhide HV))
      have hok : joinOk xs = true := by
        unfold joinOk
        rw [hbs, hall, jn_pcs, unhide HV]
        rfl
      have hjs : joinS xs = s := by
        unfold joinS
        rw [if_pos hok, hbs, jn_pcs]
      have hje : joinE xs = 0 := by unfold joinE; rw [if_pos hok]
      have hlast : baseB s.data.toList = pcAt s.data.toList (N - 1) := by
        unfold baseB
        rw [if_pos (unhide HV), ← hNe]
        obtain ⟨n, hn⟩ : ∃ n, N = n + 1 := ⟨N - 1, by omega⟩
        rw [hn]
        rfl
      have h64 := validL_deep (unhide HV)
      rcases hrow.2 with ⟨h, h0⟩ | ⟨g, cap, cur, rfl, hg, hgh, hnc, hcm, hcs, hct⟩
      · omega
      have hst : ∀ W', W'.heap[g]? = W.heap[g]? → StrsAt W' g 0 xs := by
        intro W' hw j x hx
        obtain ⟨hj, rfl⟩ := hxg j x hx
        rw [World.cell?_of_block (w := W) hw]
        have hcj : cur[j]? = some (.string (pcAt s.data.toList j)) := by
          have h1 := congrArg (·[j]?) hct
          simp only [Nat.mul_one] at h1
          rw [List.getElem?_take_of_lt (by omega)] at h1
          rw [← Array.getElem?_toList, h1]
          unfold rowOf
          simp [hj, ← hNe]
        simp [World.cell?, hgh, hcj]
      rw [← hNe] at hrow hnc hnil hv
      have HJN := hide (join_ok g 0 cap xs W (hst W rfl) (Array.getElem?_eq_some_iff.1 hgh).1 (by omega) (by omega) (fun x hx => by
        obtain ⟨j, hj, e⟩ := List.mem_iff_getElem.1 hx
        have := (hxg j x (by rw [List.getElem?_eq_getElem hj, e])).2
        rw [this]
        exact Nat.le_trans (pcAt_size s j) hs))
      rw [hjs, hje, hxl] at HJN
      have HVA := hide (fun w => valid_ok s w hs)
      rw [unhide HV] at HVA
      have HBA := hide (fun w => base_ok s w hs)
      rw [hlast] at HBA
      have HST := hide hst
      have c0 := hv.cell
      have HVV := hide hv
      have HIB := hide hi.below
      have hN1 : 1 ≤ N := by omega
      have hN2 : N ≤ 64 := by omega
      have HXG := hide hxg
      have HXL := hide hxl
      have HGW := hide (show g < W.heap.size from (Array.getElem?_eq_some_iff.1 hgh).1)
      have HNE := hide hNe
      have HWS := hide hi.le
      clear hi hN hNe hxs hxl hxg hbs hall hok hjs hje hlast h64 hrow hnil hg hgh hnc hcm hcs hct hst hv
      go_wp2_with fail
      refine (unhide HJN).mono ?_
      rintro e W5 ⟨rfl, hb5⟩
      have HB5 := hide hb5
      have c1 := ((unhide HVV).belowAll hb5).cell
      clear hb5 c0
      go_wp2_with fail
      refine (unhide HVA _).mono ?_
      rintro e W6 ⟨rfl, hb6⟩
      have HB6 := hide ((unhide HB5).trans (hb6.mono (unhide HB5).size))
      have c2 := ((unhide HVV).belowAll (unhide HB6)).cell
      clear hb6 c1
      have hst6 := (unhide HST) W6.drew ((unhide HB6).block g (unhide HGW))
      have c3 : W6.drew.cell? ⟨g, 0 + (N - 1), none⟩ = some (.string (pcAt s.data.toList (N - 1))) := hst6 (N - 1) _ (by
        have h1 : (N - 1) < xs.length := by rw [unhide HXL]; omega
        rw [List.getElem?_eq_getElem h1, ((unhide HXG) (N - 1) _ (List.getElem?_eq_getElem h1)).2])
      rw [Nat.zero_add] at c3
      have c4 : W6.drew.cell? ⟨H, 0, none⟩ = some (.slice (some ⟨g, 0, none⟩) N cap) := c2
      have hN3 : (0 : Int) < (N : Int) := by omega
      have hN4 : 0 < N := hN1
      have hd : decide (0 < N) = true := decide_eq_true hN4
      obtain ⟨M, hM⟩ : ∃ M, M = N - 1 := ⟨_, rfl⟩
      have eM : (N : Int) - 1 = (M : Int) := by omega
      have hMN : (M : Int) < (N : Int) := by omega
      have hMN2 : M < N := by omega
      rw [← hM] at c3 HBA
      have HST2 := hide hst6
      have HM := hide hM
      clear hst6 hM
      have wM : IntKind.i64.wrap ((N : Int) - 1) = (M : Int) := by rw [eM, IntKind.wrap_i64]; omega
      have wM2 : IntKind.i64.wrap (M : Int) = (M : Int) := by rw [IntKind.wrap_i64]; omega
      have hM0 : (0 : Int) ≤ (M : Int) := by omega
      have mixed : Try.prog.follows .mixedOrders = true := by kernel_rfl
      go_upto_region 12 with fail
      refine wp_region_noPanic ?_
      go_region_law (first
        | (
           refine step_callw 18 #[.string s] ?_ ?_ ?_
           focus (first | rfl | (rw [hd]; rfl) | (simp only [hd]; rfl))
           focus (go_simp; done)
           refine ((unhide HBA) _).mono ?_
           rintro e W7 ⟨rfl, hb7⟩
           have HB7 := hide hb7
           have c5 : W7.cell? ⟨H, 0, none⟩ = some (.slice (some ⟨g, 0, none⟩) N cap) := ((unhide HVV).belowAll ((unhide HB6).drew.trans (hb7.mono (unhide HB6).size))).cell
           have c6 : W7.cell? ⟨g, M, none⟩ = some (.string (pcAt s.data.toList M)) := by
             rw [World.cell?_of_block (hb7.block g (Nat.lt_of_lt_of_le (unhide HGW) (unhide HB6).size))]; exact c3
           clear hb7
           refine ⟨_, rfl, ?_⟩))
      all_goals (
        refine NoPanic.normal ?_
        go_wp2_with fail
        have hb7 := unhide HB7
        have hDl : D < W.heap.size := (Array.getElem?_eq_some_iff.1 hK).1
        have hD7 : W7.heap[D]? = some (.deferred (some [])) := (hb7.block D (Nat.lt_of_lt_of_le hDl (unhide HB6).size)).trans (((unhide HB6).block D hDl).trans hK)
        refine ⟨by simp, .inl ⟨_, _, rfl, run_takeDeferred hD7, ?_⟩⟩
        have hbw : Below H w W7 := (unhide HIB).trans (((unhide HB6).drew.trans (hb7.mono (unhide HB6).size)).mono (by have := unhide HB4; have := unhide HWS; omega))
        have hHD : H ≤ D := by have := unhide HB4; omega
        have hHW : H ≤ W7.heap.size := by
          have h1 := hb7.size
          have h2 := (unhide HB6).size
          have h3 : W6.drew.heap.size = W6.heap.size := rfl
          omega
        refine ⟨_, results_tmp rfl _ _ _, by first | rfl | simp, ?_⟩
        rw [← unhide HH]
        exact below_grown hbw (grownBy_putObj' W7 D (.deferred none)) hHW hHD (fun r e => by
          injection e with e
          subst e
          exact ⟨Nat.le_refl _, _, hD7, rfl⟩))
    case stop => exact fun D c W hD hx => hx.elim
  · have HV := hide hv
    clear hv
    go_wp2_with fail
    refine (unhide HJ2).mono ?_
    rintro e W4 ⟨rfl, hb4⟩
    have hb34 : Below W3.heap.size W3 W4 := ((Below.refl _ W3).alloc (Nat.le_refl _) _).trans (hb4.mono (by simp))
    have HI0 := hide (show Var W4 H 22 (.slice none 0 0) ∧ Below H w W4 ∧ H + 1 ≤ W4.heap.size from ⟨(unhide H0).belowAll hb34, (unhide HBEL).trans (hb34.mono (by have := unhide HSZ; omega)), by have := hb34.size; have := unhide HSZ; omega⟩)
    have q25 := fun (f : Fn) (x y : Array Value) (W : World) => eql_nilFunc Try.underlying25 f x y W
    clear hb4 hb34 H0 HBEL HJ2
    go_wp2_with fail
    refine (wpIn_wide (n := 4)).1 ?_
    refine range_at (F := Fence.wide) rfl (by omega) (gf := 27) (lb := #[]) rfl trivial (enters_of Try.func27 (by kernel_rfl) rfl) (fun k => #[.string (pcAt s.data.toList k)]) (fun _ _ => True) 0
      (seq27 Fence.wide (4 - 1) trivial rfl _ _ W4) (fun _ _ => trivial) (fun _ _ _ _ _ _ _ _ => trivial) (fun _ => rfl)
      (fun _ W => Var W H 22 (.slice none 0 0) ∧ Below H w W ∧ H + 1 ≤ W.heap.size) (fun _ _ => False)
      (fun k W W' row h hg hr => ⟨h.1.grown hg hr, below_grown h.2.1 hg (by have := h.2.2; omega) (by have := (unhide HI0).2.2; omega) hr, Nat.le_trans h.2.2 hg.size⟩)
      (fun c W W' row h hg hr => h)
      (unhide HI0)
      (fun k a' => True)
      ?assign ?body ?done ?stop
    case assign => exact fun l k W K hk => absurd hk (Nat.not_lt_zero _)
    case body => exact fun l k a' W hk => absurd hk (Nat.not_lt_zero _)
    case stop => exact fun D c W hD hx => hx.elim
    case done =>
      rintro D W hD ⟨hv, hbw, hle⟩ hK
      have c0 := hv.cell
      have HVV := hide hv
      have HBW := hide hbw
      have HVA := hide (fun w => valid_ok s w hs)
      rw [unhide HV] at HVA
      clear hv hbw
      go_wp2_with fail
      refine (join_nil none 0 W).mono ?_
      rintro e W5 ⟨rfl, hb5⟩
      have HB5 := hide hb5
      clear hb5 c0
      go_wp2_with fail
      refine (unhide HVA _).mono ?_
      rintro e W6 ⟨rfl, hb6⟩
      have HB6 := hide ((unhide HB5).trans (hb6.mono (unhide HB5).size))
      have c2 := ((unhide HVV).belowAll (unhide HB6)).cell
      clear hb6
      go_wp2_with fail
      have hDl : D < W.heap.size := (Array.getElem?_eq_some_iff.1 hK).1
      have hD7 : W6.heap[D]? = some (.deferred (some [])) := ((unhide HB6).block D hDl).trans hK
      refine ⟨by simp, .inl ⟨_, _, rfl, run_takeDeferred hD7, ?_⟩⟩
      have hbw : Below H w W6 := (unhide HBW).trans ((unhide HB6).mono (by omega))
      have hHD : H ≤ D := by have := (unhide HI0).2.2; omega
      have hHW : H ≤ W6.heap.size := by have h2 := (unhide HB6).size; omega
      refine ⟨_, results_tmp rfl _ _ _, by first | rfl | simp, ?_⟩
      rw [← unhide HH]
      exact below_grown hbw (grownBy_putObj' W6 D (.deferred none)) hHW hHD (fun r e => by
        injection e with e
        subst e
        exact ⟨Nat.le_refl _, _, hD7, rfl⟩)

end Go.Proofs.Ythhdlmegbbmbhaa
