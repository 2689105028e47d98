/- Clone, NewDecoder (the program's). -/
import Derived.Test.YtbolhbjipmndeaaQe
import Derived.Test.YtbolhbjipmndeaaDNd
import Derived.Test.YtbolhbjipmndeaaTw
import Derived.Test.YtbolhbjipmndeaaHd
import Derived.Lib.SliceRun
namespace Go.Proofs.Ytbolhbjipmndeaa.D
open Go.RowKit Rang
set_option maxRecDepth 100000
set_option linter.unusedVariables false
attribute [local go_sem ↓] Go.wp_at_zero Go.wp_at_succ

/-- bytes that were handed in -/
def SrcB (w : World) (a0 : Option Addr) (cap : Nat) (b : List Nat) : Prop := (a0 = none ∧ cap = 0 ∧ b = []) ∨ ∃ ad, a0 = some ad ∧ ∀ (j : Nat) u, (b.map bv)[j]? = some u → w.cell? (ad.add j) = some u

theorem SrcB.stays {w w' : World} {a0 : Option Addr} {cap : Nat} {b : List Nat} (h : SrcB w a0 cap b) (hb : Below w.heap.size w w') : SrcB w' a0 cap b := by
  rcases h with h | ⟨ad, e, h⟩
  · exact .inl h
  · exact .inr ⟨ad, e, fun j u hu => cell_stays hb (h j u hu)⟩

theorem SrcB.spot {w : World} {a0 : Option Addr} {cap : Nat} {b : List Nat} (h : SrcB w a0 cap b) (h0 : 0 < b.length) : ∃ g off, a0 = some ⟨g, off, none⟩ ∧ ∀ j, j < b.length → w.cell? ⟨g, off + j, none⟩ = some (.int .u8 ((b.getD j 0 : Nat) : Int)) := by
  rcases h with ⟨_, _, rfl⟩ | ⟨⟨g, off, sp⟩, rfl, hc⟩
  · simp at h0
  · have h1 := hc 0 (bv (b.getD 0 0)) (by simp [h0])
    have hsp : sp = none := by simpa [Addr.add] using World.cell?_spot h1
    subst hsp
    refine ⟨g, off, rfl, fun j hj => ?_⟩
    have h2 := hc j (bv (b.getD j 0)) (by simp [hj])
    have e : (⟨g, off, none⟩ : Addr).add j = ⟨g, off + j, none⟩ := by by_cases hq : j = 0 <;> simp [Addr.add, hq]
    rw [e] at h2
    exact h2

/-- a copy of bytes in a block of its own, with room behind it -/
structure CopyB (ws w' : World) (v' : Value) (b : List Nat) : Prop where
  shape : ∃ g cap sp, v' = .slice (some ⟨g, 0, none⟩) b.length cap ∧ ws.heap.size ≤ g ∧ b.length ≤ cap ∧ w'.heap[g]? = some (.cells (b.map bv ++ sp).toArray 5 (0, 0))
  bel : Below ws.heap.size ws w'

theorem copyB_of {ws w' : World} {v' : Value} {b : List Nat} (h : w'.ownsRow ws.heap.size 5 1 v' b.length (b.map bv)) (hb : Below ws.heap.size ws w') (hn : v' ≠ .slice none 0 0) : CopyB ws w' v' b := by
  rcases h.2 with ⟨e, _⟩ | ⟨g, cap, cur, e1, h1, h2, h3, _, _, ht⟩
  · exact absurd e hn
  · refine ⟨⟨g, cap, cur.toList.drop b.length, e1, h1, h3, ?_⟩, hb⟩
    rw [h2]
    rw [Nat.mul_one] at ht
    rw [← ht, List.take_append_drop]

theorem wp_catB {ops : Array Oper} {rest : List Oper} {o : Oper} {a : Act} {Q : Exit → Act → World → Prop} {ws : World} (hgd : o.guard = none) (s x : Operand)
    (ho : o.op = .call { callee := .builtin .append, args := #[s, x], argTypes := #[32, 32] }) (b : List Nat) (a0 : Option Addr) (n cap : Nat) (hs : a.eval s = .slice (some ⟨ws.heap.size, 0, none⟩) 0 0) (hx : a.eval x = .slice a0 n cap) (hn : b.length = n)
    (hsrc : SrcB ws a0 cap b) (hlen : b.length ≤ 140737488355328)
    (h : ∀ v' w', CopyB ws w' v' b → wpList Try.prog ops Q rest (a.put o.dst v') w') : wpList Try.prog ops Q (o :: rest) a (ws.alloc (.cells #[] 5)) := by
  obtain ⟨i0, hi, hz0, hz1, hz2⟩ := info_parts info5
  have hbel : Below ws.heap.size ws (ws.alloc (.cells #[] 5)) := (Below.refl _ _).alloc (Nat.le_refl _) _
  have hown := World.ownsRow_made (base := ws.heap.size) (e := 5) (size := 1) ws #[] 0 (Nat.le_refl _) (by unfold maxLen; omega) rfl
  rcases hsrc with ⟨rfl, rfl, rfl⟩ | ⟨ad, rfl, hc⟩
  · simp at hn
    subst hn
    exact wpList_append_own_none hgd s x 32 ho ws.heap.size 5 i0 1 Try.underlying32 hi _ 0 [] hs hown hx (h _ _ (copyB_of hown hbel (by intro e; cases e)))
  · refine wpList_append_own_at (ws.alloc (.cells #[] 5)) hgd s x 32 ho ws.heap.size 5 i0 (.int .u8 0) 1 1 Try.underlying32 hi hz0 hz1 hz2 rfl (by decide) _ 0 [] hs hown ad n cap (b.map bv) hx (by rw [List.length_map]; omega) (fun j u hj => cell_stays hbel (hc j u hj)) (by intro u hu; obtain ⟨z, _, rfl⟩ := List.mem_map.1 hu; rfl) (by unfold maxLen; omega) (by omega) hbel.size ?_
    intro v' w' h2 h3 h4 _
    exact h v' w' (copyB_of (by rw [hn]; simpa using h2) (hbel.grown h3 hbel.size (fun k e => by have := Option.some.inj e; subst this; exact Nat.le_refl _)) (fun e => by have := (h4.1 e).1; cases this))

set_option maxHeartbeats 2000000 in
theorem clone_ok (g0 off n cap : Nat) (b : List Nat) (w : World) (hn : b.length = n) (hs : SrcB w (some ⟨g0, off, none⟩) cap b) (hl : n ≤ 140737488355328) :
    Calls Try.prog 58 #[.slice (some ⟨g0, off, none⟩) n cap] w fun e w' => ∃ v, e = .returned v ∧ CopyB w w' v b := by
  have HS := hide hs
  have HN := hide (And.intro hn (show b.length ≤ 140737488355328 by omega))
  have hnil : (binOp .eql 32 (.slice (some ⟨g0, off, none⟩) n cap) (.slice none 0 0)).run Try.prog w = .ok (.bool false) w := Lib.run_eql_slice_nil w 32 5 (some ⟨g0, off, none⟩) n cap 0 0 Try.underlying32
  clear hs hn
  go_enter Try.func58, Try.ntmps58
  go_wp2_with (at_builtin; refine wp_catB (ws := w) rfl (.tmp 5) (.tmp 6) rfl b _ n cap (by simp [go_sem]) (by simp [go_sem]) (unhide HN).1 (unhide HS) (unhide HN).2 ?_; intro v5 w5 h5; obtain ⟨g5, c5, sp5, e5, _⟩ := h5.shape; subst e5; have H5 := hide h5; clear h5)
  go_ret
  exact ⟨_, rfl, unhide H5⟩

theorem slice_five (g off n cap : Nat) (hn : 5 ≤ n) (hc : n ≤ cap) : ∃ o', (cap ≠ 5 → o' = off + 5) ∧ ∀ w', (Instr.slice 32 (.slice (some ⟨g, off, none⟩) n cap) (some (.int .i64 5)) none none).run Try.prog w' = .ok (.slice (some ⟨g, o', none⟩) (n - 5) (cap - 5)) w' := by
  refine ⟨if cap = 5 then off else off + 5, fun h => if_neg h, fun w' => ?_⟩
  obtain ⟨i0, hi, hz0, hz1, hz2⟩ := info_parts info5
  rw [run_slice_l w' 32 (some ⟨g, off, none⟩) n cap Try.underlying32 .i64 5 (by omega) (by omega)]
  by_cases h : cap = 5
  · simp [sizeOf, typeInfo, sliced, Result.andThen, show Try.prog.elem 32 = 5 from by kernel_rfl, hi, hz1, h]
  · simp [sizeOf, typeInfo, sliced, Result.andThen, show Try.prog.elem 32 = 5 from by kernel_rfl, hi, hz1, h, Addr.add]

theorem qnew_arg (bv0 : Option Addr) (L cap : Nat) (n : Int) (w : World) (hn : n < 0 ∨ 65536 < n) : Calls Try.prog 25 #[.slice bv0 L cap, .int .i64 n] w fun e w' => e = .returned (.tuple #[.pointer none, .int .i64 2]) ∧ w = w' := by
  go_enter Try.func25, Try.ntmps25
  go_wp2_with (first | (go_at_call 38; refine (isCount_no n _ hn).mono ?_; rintro e w1 ⟨rfl, rfl⟩))
  go_ret2
  exact ⟨rfl, rfl⟩

theorem qnew_end (bv0 : Option Addr) (L cap : Nat) (n : Nat) (w : World) (hn : n ≤ 65536) (hL : L < 5) : Calls Try.prog 25 #[.slice bv0 L cap, .int .i64 (n : Int)] w fun e w' => e = .returned (.tuple #[.pointer none, .int .i64 10]) ∧ w = w' := by
  have t2 : (L : Int) < 5 := by omega
  go_enter Try.func25, Try.ntmps25
  go_wp2_with (first | (go_at_call 38; refine (isCount_yes n _ hn).mono ?_; rintro e w1 ⟨rfl, rfl⟩))
  go_ret2
  exact ⟨rfl, rfl⟩

set_option maxHeartbeats 2000000 in
theorem qnew_form (a0 : Option Addr) (cap : Nat) (Bs : List Nat) (n : Nat) (w : World) (hn : n ≤ 65536) (hL : 5 ≤ Bs.length) (hB : SrcB w a0 cap Bs) (hz : Bs.getD 0 0 ≠ 0) : Calls Try.prog 25 #[.slice a0 Bs.length cap, .int .i64 (n : Int)] w fun e w' => e = .returned (.tuple #[.pointer none, .int .i64 11]) ∧ w = w' := by
  obtain ⟨g, off, rfl, hc⟩ := hB.spot (by omega)
  have c1 := hc 0 (by omega)
  rw [Nat.add_zero] at c1
  obtain ⟨L, hLL⟩ : ∃ L, L = Bs.length := ⟨_, rfl⟩
  rw [← hLL] at hL ⊢
  generalize Bs.getD 0 0 = z at c1 hz
  have t2 : ¬ (L : Int) < 5 := by omega
  have t3 : 0 < L := by omega
  have t4 : ¬ (z : Int) = 0 := by omega
  have t5 : ((z : Int) != 0) = true := by simp [hz]
  clear hc hB hLL
  go_enter Try.func25, Try.ntmps25
  go_wp2_with (first | (go_at_call 38; refine (isCount_yes n _ hn).mono ?_; rintro e w1 ⟨rfl, rfl⟩))
  go_ret2
  exact ⟨rfl, rfl⟩

/-- a decoder that was made -/
def NewIs (w : World) (Bs : List Nat) (n : Nat) (e : Ending) (w' : World) : Prop := ∃ pb gc gr rcs, e = .returned (.tuple #[.pointer (some ⟨pb, 0, none⟩), .int .i64 0]) ∧ QS w' pb gc gr rcs Bs (dec0 Bs) (List.replicate n 1024) ∧ Below w.heap.size w w' ∧ w.heap.size ≤ pb ∧ w.heap.size ≤ gc ∧ w.heap.size ≤ gr

theorem codeTo_zero (Bs : List Nat) : codeTo Bs 0 = 0 := rfl

theorem code_step (Bs : List Nat) (hs : ∀ z ∈ Bs, z < 256) (hz : Bs.getD 0 0 = 0) (i : Nat) (hi : i < 5) (h : 5 ≤ Bs.length) : codeTo Bs (i + 1) = codeTo Bs i * 256 + Bs.getD i 0 ∧ codeTo Bs (i + 1) < 4294967296 ∧ codeTo Bs i < 16777216 ∧ Bs.getD i 0 < 256 := by
  have hb := hs _ (getD_mem (show i < Bs.length by omega))
  have h2 : codeTo Bs (i + 1) < 256 ^ (i + 1 - 1) := codeTo_lt Bs hs (i + 1) (by omega) (by omega) (by omega)
  have h3 : 256 ^ (i + 1 - 1) ≤ 256 ^ 4 := Nat.pow_le_pow_right (by decide) (by omega)
  rcases Nat.eq_zero_or_pos i with rfl | hp
  · rw [codeTo_one, hz, codeTo_zero]
    omega
  · have h4 : codeTo Bs i < 256 ^ (i - 1) := codeTo_lt Bs hs i hp (by omega) (by omega)
    have h5 : 256 ^ (i - 1) ≤ 256 ^ 3 := Nat.pow_le_pow_right (by decide) (by omega)
    exact ⟨codeTo_succ Bs i hp (by omega), by omega, by omega, hb⟩

set_option maxHeartbeats 8000000 in
theorem qnew_ok (a0 : Option Addr) (cap : Nat) (Bs : List Nat) (n : Nat) (w : World) (hn : n ≤ 65536) (hL : 5 ≤ Bs.length) (hcap : Bs.length ≤ cap) (hLm : Bs.length ≤ 140737488355328) (hB : SrcB w a0 cap Bs) (hs : ∀ z ∈ Bs, z < 256) (hz : Bs.getD 0 0 = 0) : Calls Try.prog 25 #[.slice a0 Bs.length cap, .int .i64 (n : Int)] w fun e w' => NewIs w Bs n e w' := by
  obtain ⟨g, off, rfl, hc⟩ := hB.spot (by omega)
  have c1 := hc 0 (by omega)
  rw [Nat.add_zero, hz] at c1
  obtain ⟨o5, ho5, hsl⟩ := slice_five g off Bs.length cap hL hcap
  have HDR : Hid (SrcB w.drew (some ⟨g, o5, none⟩) (cap - 5) (Bs.drop 5)) := hide (.inr ⟨_, rfl, fun j u hj => by
    have hj2 : j < Bs.length - 5 := by have := (List.getElem?_eq_some_iff.1 hj).1; simpa using this
    have e : (⟨g, o5, none⟩ : Addr).add j = ⟨g, off + (5 + j), none⟩ := by
      rw [ho5 (by omega)]
      by_cases hq : j = 0 <;> simp [Addr.add, hq, Nat.add_assoc]
    rw [e]
    have h1 := hc (5 + j) (by omega)
    show w.cell? _ = _
    rw [h1]
    rw [List.getElem?_map, List.getElem?_drop, List.getElem?_eq_getElem (by omega)] at hj
    rw [List.getD_eq_getElem?_getD, List.getElem?_eq_getElem (by omega)]
    simpa [bv] using hj⟩)
  have HC := hide hc
  have HS := hide hs
  have HZ := hide hz
  have HLB := hide (And.intro hL hLm)
  obtain ⟨L, hLL⟩ : ∃ L, L = Bs.length := ⟨_, rfl⟩
  have HL := hide hLL
  rw [← hLL] at hL hLm hsl hcap ⊢
  have HSL := hide hsl
  have HDL : Hid ((Bs.drop 5).length = L - 5 ∧ L - 5 ≤ 140737488355328) := hide ⟨by rw [List.length_drop, hLL], by omega⟩
  have t2 : ¬ (L : Int) < 5 := by omega
  have t3 : 0 < L := by omega
  have HCAP := hide hcap
  clear hLL hB hs hz hc ho5 hsl hcap
  go_enter Try.func25, Try.ntmps25
  go_wp2_with (first | (go_at_call 38; refine (isCount_yes n _ hn).mono ?_; rintro e w1 ⟨rfl, rfl⟩))
  clear c1
  go_loopg [6, 18] 5 (fun gk cv iv ws => ∃ (i : Nat), gk + i = 5 ∧ cv = .int .u32 (codeTo Bs i : Int) ∧ iv = .int .i64 (i : Int) ∧ w1 = ws)
  case atStart => exact ⟨0, by omega, by rw [codeTo_zero]; rfl, rfl, rfl⟩
  case round =>
    obtain ⟨i, hgk, rfl, rfl, rfl⟩ := hrel
    by_cases hlt : 0 < gk
    · obtain ⟨g', rfl⟩ : ∃ g', gk = g' + 1 := ⟨gk - 1, by omega⟩
      have tl : (i : Int) < 5 := by omega
      have tl2 : (i : Int) < (L : Int) := by omega
      have c2 := unhide HC i (by have := (unhide HLB).1; omega)
      obtain ⟨e1, e2, e3, e4⟩ := code_step Bs (unhide HS) (unhide HZ) i (by omega) (unhide HLB).1
      obtain ⟨cn, hcn⟩ : ∃ cn, cn = codeTo Bs (i + 1) := ⟨_, rfl⟩
      have HCN := hide hcn
      rw [← hcn] at e1 e2
      generalize codeTo Bs i = co at e1 e3 ⊢
      generalize Bs.getD i 0 = z at c2 e1 e4
      have f1 : (co : Int) * 256 % 4294967296 = (co : Int) * 256 := by omega
      have f2 : (z : Int) % 4294967296 = (z : Int) := by omega
      have f3 : ((co : Int) * 256 + (z : Int)) % 4294967296 = (co : Int) * 256 + (z : Int) := by omega
      have f4 : (co : Int) * 256 + (z : Int) = (cn : Int) := by omega
      have f5 : (cn : Int) % 4294967296 = (cn : Int) := by omega
      clear e1 hcn
      go_wp2_with fail
      go_roundg g'
      case measure => omega
      case rel => exact ⟨i + 1, by omega, by rw [← unhide HCN], by go_num, rfl⟩
    · obtain rfl : i = 5 := by omega
      have tl : ¬ ((5 : Nat) : Int) < 5 := by omega
      obtain ⟨co, hco⟩ : ∃ co, co = codeTo Bs 5 := ⟨_, rfl⟩
      have HCO := hide hco
      rw [← hco]
      clear hco
      go_upto_region 13 with fail
      refine wp_region_noPanic ?_
      refine wp_region_held_drew (S := fun _ => True) (by kernel_rfl) True.intro (fun hHeld => ?_)
      show wpAnyH _ _ _ _ _ _ _ _ w1.drew
      obtain ⟨x1, hx1⟩ : ∃ x1, x1 = w1.drew := ⟨_, rfl⟩
      rw [← hx1] at HDR ⊢
      have HBX : Hid (Below w1.heap.size w1 x1) := hide (by rw [hx1]; exact drewN_below (Below.refl _ _) 1)
      clear hx1
      refine held_take 0 30 rfl rfl (by kernel_rfl) (by kernel_rfl) (by kernel_rfl) (by rfl) hHeld noPanic_panic (v := ?_) (fun x hSx => ?_) ?_
      rotate_left 1
      · (go_simp <;> with_reducible rfl)
      simp only [List.set_cons_zero, List.set_cons_succ]
      refine held_take 2 32 rfl rfl (by kernel_rfl) (by kernel_rfl) (by kernel_rfl) (by rfl) hHeld noPanic_panic (v := ?_) (fun x hSx => ?_) ?_
      rotate_left 1
      · (go_simp <;> with_reducible rfl)
      simp only [List.set_cons_zero, List.set_cons_succ]
      refine held_take 3 33 rfl rfl (by kernel_rfl) (by kernel_rfl) (by kernel_rfl) (by rfl) hHeld noPanic_panic (v := ?_) (fun x hSx => ?_) ?_
      rotate_left 1
      · (go_simp <;> with_reducible rfl)
      simp only [List.set_cons_zero, List.set_cons_succ]
      have hsl := unhide HSL
      refine held_take 4 34 rfl rfl (by kernel_rfl) (by kernel_rfl) (by kernel_rfl) (by rfl) hHeld noPanic_panic (v := ?_) (fun x hSx => ?_) ?_
      rotate_left 1
      · (go_simp <;> with_reducible rfl)
      simp only [List.set_cons_zero, List.set_cons_succ]
      clear hsl
      refine held_enter 1 31 (by kernel_rfl) rfl rfl (by rfl) (by go_simp <;> exact ⟨rfl, rfl⟩) ?_
      refine (peven_ok n _ hn).mono ?_
      rintro e w5 ⟨rfl, h5, h6⟩
      have H5 := hide h5
      have H6 := hide h6
      clear h5 h6
      have hHeld := True.intro
      refine ⟨_, rfl, hHeld, ?_⟩
      simp only [List.set_cons_zero, List.set_cons_succ]
      refine held_enter 5 35 (by kernel_rfl) rfl rfl (by rfl) (by go_simp <;> exact ⟨rfl, rfl⟩) ?_
      refine (clone_ok g o5 (L - 5) (cap - 5) (Bs.drop 5) w5 (unhide HDL).1 ((unhide HDR).stays (unhide H6)) (unhide HDL).2).mono ?_
      rintro e w6 ⟨v6, rfl, h7⟩
      obtain ⟨g6, cap6, sp6, e6, hg6, hcp6, hb6⟩ := h7.shape
      subst e6
      have H7 := hide h7.bel
      have H8 := hide (And.intro hg6 (And.intro hcp6 hb6))
      rw [(unhide HDL).1]
      clear h7 hg6 hcp6 hb6
      have hHeld := True.intro
      refine ⟨_, rfl, hHeld, ?_⟩
      simp only [List.set_cons_zero, List.set_cons_succ]
      refine held_take 6 36 rfl rfl (by kernel_rfl) (by kernel_rfl) (by kernel_rfl) (by rfl) hHeld noPanic_panic (v := ?_) (fun x hSx => ?_) ?_
      rotate_left 1
      · (go_simp <;> with_reducible rfl)
      simp only [List.set_cons_zero, List.set_cons_succ]
      refine held_one 7 37 (by kernel_rfl) rfl rfl (by rfl) (v := .pointer (some ⟨w6.heap.size, 0, none⟩)) (w' := w6.alloc (.cells #[.bool true, .slice (some ⟨x1.heap.size, 0, none⟩) n n, .int .u32 (co : Int), .int .u32 4294967295, .slice (some ⟨g6, 0, none⟩) (L - 5) cap6, .bool false] 71)) ?_ True.intro ?_
      · go_simp <;> with_reducible rfl
      simp only [List.set_cons_zero, List.set_cons_succ]
      refine held_take 8 4 rfl rfl (by kernel_rfl) (by kernel_rfl) (by kernel_rfl) (by rfl) hHeld noPanic_panic (v := ?_) (fun x hSx => ?_) ?_
      rotate_left 1
      · (go_simp <;> with_reducible rfl)
      simp only [List.set_cons_zero, List.set_cons_succ]
      refine held_take 9 5 rfl rfl (by kernel_rfl) (by kernel_rfl) (by kernel_rfl) (by rfl) hHeld noPanic_panic (v := ?_) (fun x hSx => ?_) ?_
      rotate_left 1
      · (go_simp <;> with_reducible rfl)
      simp only [List.set_cons_zero, List.set_cons_succ]
      refine wpAnyH_done (by kernel_rfl) ?_ _
      refine NoPanic.normal ?_
      go_wp2_with fail
      go_ret2
      have hsz5 := (unhide H6).size
      have hsz6 := (unhide H7).size
      have hx := (unhide HBX).size
      have hb1 : Below w1.heap.size w1 w6 := ((unhide HBX).trans ((unhide H6).mono hx)).trans ((unhide H7).mono (by omega))
      refine ⟨w6.heap.size, x1.heap.size, g6, ((Bs.drop 5).map bv ++ sp6).toArray, rfl, ⟨⟨0, cap6, ?_, ?_, ?_, fun j hj => ?_, unhide HS, ?_⟩, ?_, ?_, (unhide HLB).2⟩, hb1.alloc (by omega) _, by omega, by omega, by have := (unhide H8).1; omega⟩
      · rw [heap_alloc_new]
        have e1 : dec0 Bs = ⟨co, 4294967295, 5, false⟩ := by rw [unhide HCO]; rfl
        rw [e1]
        simp [qcells, unhide HL]
      · have h1 : PCh w6 x1.heap.size (List.replicate n 1024) := (unhide H5).of ((unhide H7).block _ (unhide H5).lt)
        exact h1.of (Below.heap_alloc _ _ _ h1.lt)
      · rw [Below.heap_alloc _ _ _ (heap_lt (unhide H8).2.2)]
        exact (unhide H8).2.2
      · have hj2 : j < Bs.length - 5 := hj
        have e1 : (dec0 Bs).at_ = 5 := rfl
        rw [e1, Nat.zero_add]
        simp [List.getElem?_append, hj2, List.getD_eq_getElem?_getD]
        rw [List.getElem?_eq_getElem (show 5 + j < Bs.length by omega)]
        rfl
      · have e1 : (dec0 Bs).at_ = 5 := rfl
        rw [e1]
        have := (unhide H8).2.1
        rw [List.length_drop] at this
        exact this
      · refine ⟨by show 4294967295 < 4294967296; decide, ?_, (unhide HLB).1, fun _ => by show 16777216 ≤ 4294967295; decide⟩
        have := (code_step Bs (unhide HS) (unhide HZ) 4 (by omega) (unhide HLB).1).2.1
        exact this
      · intro p hp
        rw [List.mem_replicate] at hp
        omega
end Go.Proofs.Ytbolhbjipmndeaa.D
