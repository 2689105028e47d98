/- Rows that a call handed out; spoilt. -/
import Derived.Test.YtcppnkbfndhioaaXn
namespace Go.Proofs.Ytcppnkbfndhioaa
open Go.RowKit
set_option maxRecDepth 100000
set_option linter.unusedVariables false
attribute [local go_sem ↓] Go.wp_at_zero Go.wp_at_succ

/-- numbers that lie in a block of one's own, from lo on and ahead of hi -/
def Row (lo hi : Nat) (w : World) (v : Value) (k : IntKind) (t : TypeId) (l : List Nat) : Prop :=
  ∃ a cap, v = .slice a l.length cap ∧ (0 < l.length → ∃ g cs, a = some ⟨g, 0, none⟩ ∧ lo ≤ g ∧ g < hi ∧ w.heap[g]? = some (.cells cs t (0, 0)) ∧ ∀ j, j < l.length → cs[j]? = some (.int k ((l.getD j 0 : Nat) : Int)))

/-- nothing has changed but blocks from lo on and ahead of hi -/
structure Chg (lo hi : Nat) (w w' : World) : Prop where
  os : w'.os = w.os
  tape : w'.tape = w.tape
  output : w'.output = w.output
  size : w.heap.size ≤ w'.heap.size
  keep : ∀ k, k < w.heap.size → (k < lo ∨ hi ≤ k) → w'.heap[k]? = w.heap[k]?

theorem Chg.refl (lo hi : Nat) (w : World) : Chg lo hi w w := ⟨rfl, rfl, rfl, Nat.le_refl _, fun _ _ _ => rfl⟩

theorem Chg.below {lo hi B : Nat} {w0 w w' : World} (h : Chg lo hi w w') (hb : Below B w0 w) (hB : B ≤ lo) (hs : B ≤ w.heap.size) : Below B w0 w' :=
  ⟨h.os.trans hb.os, h.tape.trans hb.tape, h.output.trans hb.output, Nat.le_trans hb.size h.size, fun k hk => by rw [h.keep k (by omega) (.inl (by omega))]; exact hb.block k hk⟩

theorem Row.reads {lo hi : Nat} {w : World} {v : Value} {l : List Nat} (h : Row lo hi w v .u8 5 l) : Reads w v l := by
  obtain ⟨a, cap, rfl, hs⟩ := h
  refine ⟨a, cap, rfl, fun h0 => ?_⟩
  obtain ⟨g, cs, rfl, _, _, h3, h4⟩ := hs h0
  refine ⟨_, rfl, fun j u hj => ?_⟩
  have hjl : j < l.length := by have := (List.getElem?_eq_some_iff.1 hj).1; simpa using this
  have e : (⟨g, 0, none⟩ : Addr).add j = ⟨g, j, none⟩ := by rw [Addr.add_mid, Nat.zero_add]
  rw [e]
  have := h4 j hjl
  simp only [World.cell?, h3]
  rw [List.getElem?_map, List.getElem?_eq_getElem hjl, Option.map_some] at hj
  rw [← hj]
  simpa [bv, List.getD_eq_getElem?_getD, List.getElem?_eq_getElem hjl] using this

/-- cells from a place on -/
def CellsFrom (w : World) (g : Nat) (k : IntKind) (t : TypeId) (l : List Nat) (i : Nat) : Prop := ∃ cs, w.heap[g]? = some (.cells cs t (0, 0)) ∧ ∀ j, i ≤ j → j < l.length → cs[j]? = some (.int k ((l.getD j 0 : Nat) : Int))

theorem CellsFrom.cell {w : World} {g : Nat} {k : IntKind} {t : TypeId} {l : List Nat} {i : Nat} (h : CellsFrom w g k t l i) (hi : i < l.length) : w.cell? ⟨g, i, none⟩ = some (.int k ((l.getD i 0 : Nat) : Int)) ∧ w.frozen? ⟨g, i, none⟩ = false := by
  obtain ⟨cs, h1, h2⟩ := h
  have := h2 i (Nat.le_refl _) hi
  exact ⟨by simp only [World.cell?, h1]; exact this, by simp [World.frozen?, h1]⟩

theorem CellsFrom.set {w : World} {g : Nat} {k : IntKind} {t : TypeId} {l : List Nat} {i : Nat} (h : CellsFrom w g k t l i) (v : Value) : CellsFrom (w.setCell ⟨g, i, none⟩ v) g k t l (i + 1) := by
  obtain ⟨cs, h1, h2⟩ := h
  refine ⟨_, heap_setCell_same w g i cs t v h1, fun j hj hl => ?_⟩
  rw [Array.getElem?_setIfInBounds_ne (by omega)]
  exact h2 j (by omega) hl

theorem Chg.set {lo hi g : Nat} {w w' : World} (h : Chg lo hi w w') (i : Nat) (v : Value) (h1 : lo ≤ g) (h2 : g < hi) : Chg lo hi w (w'.setCell ⟨g, i, none⟩ v) :=
  ⟨h.os, h.tape, h.output, by simpa using h.size, fun k hk hd => by rw [heap_setCell_other _ _ _ _ (by show k ≠ g; omega)]; exact h.keep k hk hd⟩

set_option maxHeartbeats 2000000 in
theorem spoilt_ok (lo hi lo' hi' : Nat) (vx vw : Value) (l : List Nat) (w : World) (hx : Row lo hi w vx .u8 5 l) (hw : Row lo' hi' w vw .u8 5 l) (hl : ∀ z ∈ l, z < 256) (hn : l.length ≤ 1000000000) :
    Calls Try.prog 9 #[vx, vw] w fun e w' => e = .returned (.bool true) ∧ Chg lo hi w w' := by
  have c1 := conv_reads hx.reads hl
  have c2 := conv_reads hw.reads hl
  obtain ⟨a, cap, rfl, hs⟩ := hx
  obtain ⟨a', cap', rfl, _⟩ := hw
  obtain ⟨n, hN⟩ : ∃ n, n = l.length := ⟨_, rfl⟩
  have HN := hide hN
  have HL := hide hl
  rw [← hN] at c1 c2 hn ⊢
  have HS := hide hs
  clear hN hs hl
  go_enter Try.func9, Try.ntmps9
  go_wp2_with fail
  clear c1 c2
  go_loopg [5] n (fun gk c ws => ∃ i : Nat, gk = n - i ∧ i ≤ n ∧ c = .int .i64 (i : Int) ∧ Hid (Chg lo hi w ws ∧ ∀ g, (0 < n → a = some ⟨g, 0, none⟩) → 0 < n → CellsFrom ws g .u8 5 l i))
  case atStart =>
    refine ⟨0, by omega, by omega, rfl, hide ⟨Chg.refl _ _ _, fun g hg h0 => ?_⟩⟩
    obtain ⟨g', cs, e, _, _, h3, h4⟩ := unhide HS (by rw [← unhide HN]; exact h0)
    rw [hg h0] at e
    injection e with e
    injection e with e
    subst e
    exact ⟨cs, h3, fun j _ hj => h4 j hj⟩
  case round =>
    obtain ⟨i, rfl, hin, rfl, HI⟩ := hrel
    rename World => wi
    by_cases hil : i < n
    · have ti : (i : Int) < (n : Int) := by omega
      obtain ⟨g, cs, rfl, hg1, hg2, _, _⟩ := unhide HS (by rw [← unhide HN]; omega)
      obtain ⟨d1, d2⟩ := ((unhide HI).2 g (fun _ => rfl) (by omega)).cell (by rw [← unhide HN]; exact hil)
      generalize l.getD i 0 = x at *
      go_wp2_with fail
      go_roundg (n - (i + 1))
      case measure => omega
      case rel =>
        refine ⟨i + 1, rfl, by omega, by go_num, hide ⟨(unhide HI).1.set i _ hg1 hg2, fun g' hg' h0 => ?_⟩⟩
        have e := hg' h0
        injection e with e
        injection e with e
        subst e
        exact ((unhide HI).2 g (fun _ => rfl) h0).set _
    · obtain rfl : i = n := by omega
      have ti : ¬ (i : Int) < (i : Int) := by omega
      go_wp2_with fail
      go_ret
      exact ⟨rfl, (unhide HI).1⟩


theorem Row.nil (lo hi : Nat) (w : World) (k : IntKind) (t : TypeId) : Row lo hi w (.slice none 0 0) k t [] := ⟨none, 0, rfl, fun h => by simp at h⟩

theorem names_ok (w : World) : Calls Try.prog 10 #[] w fun e w' => e = .returned (.bool true) ∧ w' = w := by
  go_enter Try.func10, Try.ntmps10
  go_wp2_with fail
  go_ret
  exact ⟨rfl, rfl⟩

theorem StB.row {w0 w : World} {v : Value} {xs : List Nat} (h : StB w0 w v xs) : Row w0.heap.size w.heap.size w v .u8 5 xs := by
  rcases h.own.2 with ⟨e1, e2⟩ | ⟨g, cap, cur, e1, hb, hg, hn, _, _, ht⟩
  · exact ⟨none, 0, by rw [e1, e2], fun h0 => by omega⟩
  · refine ⟨_, cap, e1, fun h0 => ⟨g, cur, rfl, hb, heap_lt hg, hg, fun j hj => ?_⟩⟩
    have hx : (xs.map bv)[j]? = some (.int .u8 ((xs.getD j 0 : Nat) : Int)) := by
      simp [bv, List.getElem?_map, List.getElem?_eq_getElem hj, List.getD_eq_getElem?_getD]
    rw [← ht, List.getElem?_take] at hx
    split at hx
    · simpa using hx
    · cases hx

theorem Row.stays {lo hi : Nat} {w w' : World} {v : Value} {l : List Nat} (h : Row lo hi w v .u8 5 l) (hb : Below w.heap.size w w') : Row lo hi w' v .u8 5 l := by
  obtain ⟨a, cap, rfl, hs⟩ := h
  refine ⟨a, cap, rfl, fun h0 => ?_⟩
  obtain ⟨g, cs, e, h1, h2, h3, h4⟩ := hs h0
  exact ⟨g, cs, e, h1, h2, by rw [hb.block g (heap_lt h3)]; exact h3, h4⟩

theorem IdxIs.bel {w w' : World} {v : Value} {x : Int} {l : List (Int × Int)} (h : IdxIs w w' v x l) : Below w.heap.size w w' := by
  rcases h with ⟨_, _, _, h⟩ | ⟨_, _, _, h⟩
  · exact h
  · exact h.bel

theorem idx_join {w1 w2 w3 w4 : World} {v v' : Value} {x x' : Int} {l : List (Int × Int)} (h : IdxIs w1 w2 v x l) (h' : IdxIs w3 w4 v' x' l) :
    x = x' ∧ ∃ xs, Row w1.heap.size w2.heap.size w2 v .u8 5 xs ∧ Row w3.heap.size w4.heap.size w4 v' .u8 5 xs ∧ (∀ z ∈ xs, z < 256) ∧ xs.length ≤ 1000000000 := by
  rcases h with ⟨h1, rfl, rfl, _⟩ | ⟨h1, h2, rfl, h3⟩ <;> rcases h' with ⟨k1, rfl, rfl, _⟩ | ⟨k1, k2, rfl, k3⟩
  · exact ⟨rfl, [], Row.nil _ _ _ _ _, Row.nil _ _ _ _ _, by simp, by simp⟩
  · exfalso
    rcases h1 with h1 | h1
    · omega
    · rw [h1] at k2; cases k2
  · exfalso
    rcases k1 with h1 | h1
    · omega
    · rw [h1] at h2; cases h2
  · refine ⟨rfl, _, h3.row, k3.row, fun z hz => ?_, ?_⟩
    · unfold idxB at hz
      rcases List.mem_append.1 hz with hz | hz
      · exact fillB_small _ (bodyB_small l) z hz
      · exact crcB_small _ z hz
    · have hr := recB_le l h2 l.length (Nat.le_refl _)
      rw [List.take_length] at hr
      have hv := (varB_len l.length (by omega)).2
      have hk := lack_lt (bodyB l).length
      unfold idxB
      rw [List.length_append, crcB_length, fillB_length]
      have hb : (bodyB l).length ≤ 10 + 18 * l.length := by unfold bodyB; simp only [List.length_append, List.length_singleton]; omega
      omega

theorem own_chg {lo hi B : Nat} {t : TypeId} {w w' : World} {v : Value} {n : Nat} {xs : List Value} (h : w.ownsRow B t 2 v n xs) (hc : Chg lo hi w w') (hB : hi ≤ B) : w'.ownsRow B t 2 v n xs :=
  own_keep h (fun g e => hc.keep g (h.lt g e).2 (.inr (by have := (h.lt g e).1; omega)))

/-- records that lie anywhere, with a nil list told apart -/
def ReadsN (w : World) (a : Option Addr) (cap : Nat) (l : List (Int × Int)) : Prop := (a = none ∧ cap = 0 ∧ l = []) ∨ ∃ ad, a = some ad ∧ l.length ≤ cap ∧ ∀ (j : Nat) u, (rcells l)[j]? = some u → w.cell? (ad.add j) = some u

theorem ReadsN.stays {w w1 : World} (hb : Below w.heap.size w w1) {a : Option Addr} {cap : Nat} {l : List (Int × Int)} (h : ReadsN w a cap l) : ReadsN w1 a cap l := by
  rcases h with h | ⟨ad, rfl, hl, hc⟩
  · exact .inl h
  · exact .inr ⟨ad, rfl, hl, fun j u hj => cell_stays hb (hc j u hj)⟩

theorem ReadsN.r {w : World} {a : Option Addr} {cap : Nat} {l : List (Int × Int)} (h : ReadsN w a cap l) : ReadsR w (.slice a l.length cap) l := by
  rcases h with ⟨rfl, rfl, rfl⟩ | ⟨ad, rfl, hl, hc⟩
  · exact ⟨none, 0, rfl, Nat.le_refl _, fun h0 => by simp at h0⟩
  · refine ⟨some ad, cap, rfl, hl, fun h0 => ?_⟩
    have h1 := hc 0 _ (rcells_get l 0 h0).1
    have hsp : ad.spot = none := by simpa [Addr.add] using World.cell?_spot h1
    have e : ∀ j, ad.add j = ⟨ad.block, ad.off + j, none⟩ := fun j => by
      cases ad
      simp only at hsp
      subst hsp
      by_cases hq : j = 0 <;> simp [Addr.add, hq]
    have e0 : ad = ⟨ad.block, ad.off, none⟩ := by
      cases ad
      simp only at hsp
      subst hsp
      rfl
    refine ⟨ad.block, ad.off, by rw [← e0], by have := cell_lt h1; rw [e] at this; exact this, fun j hj => ?_⟩
    obtain ⟨g1, g2⟩ := rcells_get l j hj
    have k1 := hc _ _ g1
    have k2 := hc _ _ g2
    rw [e] at k1 k2
    exact ⟨k1, by rw [Nat.add_assoc]; exact k2⟩

/-- records that lie anywhere are put behind a new row -/
theorem wp_appR {ops : Array Oper} {rest : List Oper} {o : Oper} {a : Act} {Q : Exit → Act → World → Prop} {w : World} (hgd : o.guard = none) (s x : Operand)
    (ho : o.op = .call { callee := .builtin .append, args := #[s, x], argTypes := #[22, 22] }) (la : Option Addr) (cap : Nat) (l : List (Int × Int)) (hs : a.eval s = .slice (some ⟨w.heap.size, 0, none⟩) 0 0) (hx : a.eval x = .slice la l.length cap)
    (hB : ReadsN w la cap l) (hlen : l.length * 16 ≤ 140737488355328)
    (h : ∀ v' w', StR 37 w w' v' l → wpList Try.prog ops Q rest (a.put o.dst v') w') : wpList Try.prog ops Q (o :: rest) a (w.alloc (.cells #[] 37)) := by
  obtain ⟨i0, hi, hz0, hz1, hz2⟩ := info_parts info37
  have hown : (w.alloc (.cells #[] 37)).ownsRow w.heap.size 37 2 (.slice (some ⟨w.heap.size, 0, none⟩) 0 0) 0 [] := ⟨rfl, .inr ⟨w.heap.size, 0, #[], rfl, Nat.le_refl _, heap_alloc_new w _, Nat.le_refl _, by unfold maxLen; omega, rfl, rfl⟩⟩
  have hb0 : Below w.heap.size w (w.alloc (.cells #[] 37)) := (Below.refl _ _).alloc (Nat.le_refl _) _
  rcases hB with ⟨rfl, rfl, rfl⟩ | ⟨ad, rfl, hl, hc⟩
  · refine wpList_append_own_none hgd s x 22 ho w.heap.size 37 i0 2 Try.underlying22 hi _ 0 [] hs hown hx ?_
    exact h _ _ ⟨hown, hb0⟩
  · refine wpList_append_own_at (w.alloc (.cells #[] 37)) hgd s x 22 ho w.heap.size 37 i0 _ 2 16 Try.underlying22 hi hz0 hz1 hz2 rfl (by decide) _ 0 [] hs hown ad l.length cap (rcells l) hx (by rw [rcells_length]) (fun j u hj => cell_stays hb0 (hc j u hj)) (rcells_one l) (by unfold maxLen; omega) (by omega) (by simp) ?_
    intro v' w' h2 h3 _ _
    exact h v' w' ⟨by simpa using h2, hb0.grown h3 (by simp) (fun k e => by have e2 : some w.heap.size = some k := e; have := Option.some.inj e2; omega)⟩

/-- bytes that lie anywhere are put behind a new row -/
theorem wp_appN {ops : Array Oper} {rest : List Oper} {o : Oper} {a : Act} {Q : Exit → Act → World → Prop} {w : World} (hgd : o.guard = none) (s x : Operand)
    (ho : o.op = .call { callee := .builtin .append, args := #[s, x], argTypes := #[23, 23] }) (ba : Option Addr) (cap : Nat) (zs : List Nat) (hs : a.eval s = .slice (some ⟨w.heap.size, 0, none⟩) 0 0) (hx : a.eval x = .slice ba zs.length cap)
    (hB : (ba = none ∧ cap = 0 ∧ zs = []) ∨ ∃ ad, ba = some ad ∧ ∀ (j : Nat) u, (zs.map bv)[j]? = some u → w.cell? (ad.add j) = some u) (hlen : zs.length ≤ 140737488355328)
    (h : ∀ g c w', StB w w' (.slice (some ⟨g, 0, none⟩) zs.length c) zs → zs.length ≤ c → g < w'.heap.size → wpList Try.prog ops Q rest (a.put o.dst (.slice (some ⟨g, 0, none⟩) zs.length c)) w') : wpList Try.prog ops Q (o :: rest) a (w.alloc (.cells #[] 5)) := by
  obtain ⟨i0, hi, hz0, hz1, hz2⟩ := info_parts info5
  have hown : (w.alloc (.cells #[] 5)).ownsRow w.heap.size 5 1 (.slice (some ⟨w.heap.size, 0, none⟩) 0 0) 0 [] := ⟨rfl, .inr ⟨w.heap.size, 0, #[], rfl, Nat.le_refl _, heap_alloc_new w _, Nat.le_refl _, by unfold maxLen; omega, rfl, rfl⟩⟩
  have hb0 : Below w.heap.size w (w.alloc (.cells #[] 5)) := (Below.refl _ _).alloc (Nat.le_refl _) _
  rcases hB with ⟨rfl, rfl, rfl⟩ | ⟨ad, rfl, hc⟩
  · refine wpList_append_own_none hgd s x 23 ho w.heap.size 5 i0 1 Try.underlying23 hi _ 0 [] hs hown hx ?_
    exact h _ _ _ ⟨hown, hb0⟩ (Nat.le_refl _) (by simp)
  · refine wpList_append_own_at (w.alloc (.cells #[] 5)) hgd s x 23 ho w.heap.size 5 i0 (.int .u8 0) 1 1 Try.underlying23 hi hz0 hz1 hz2 rfl (by decide) _ 0 [] hs hown ad zs.length cap (zs.map bv) hx (by simp) (fun j u hj => cell_stays hb0 (hc j u hj)) (bv_one _) (by unfold maxLen; omega) (by omega) (by simp) ?_
    intro v' w' h2 h3 _ h5
    have h2' : w'.ownsRow w.heap.size 5 1 v' zs.length (zs.map bv) := by simpa using h2
    have hb : Below w.heap.size w w' := hb0.grown h3 (by simp) (fun k e => by have e2 : some w.heap.size = some k := e; have := Option.some.inj e2; omega)
    rcases h2'.2 with ⟨e1, _⟩ | ⟨g, c, cur, e1, hbg, hg, hn, _⟩
    · exfalso
      rw [e1] at h5
      rcases h5 with h5 | h5 <;> cases h5
    · subst e1
      exact h g c w' ⟨h2', hb⟩ (by simpa using hn) (heap_lt hg)

theorem StB.cells0 {w0 w : World} {g c : Nat} {zs : List Nat} (h : StB w0 w (.slice (some ⟨g, 0, none⟩) zs.length c) zs) : ∀ j, j < zs.length → w.cell? ⟨g, j, none⟩ = some (bv (zs.getD j 0)) := fun j hj => by
  obtain ⟨a, cap, e, hc⟩ := h.reads
  obtain ⟨ad, e2, hc2⟩ := hc (by omega)
  injection e with e1
  rw [← e1] at e2
  injection e2 with e2
  subst e2
  have := hc2 j (bv (zs.getD j 0)) (by rw [List.getElem?_map, List.getElem?_eq_getElem hj]; simp [List.getD_eq_getElem?_getD, hj])
  have e3 : (⟨g, 0, none⟩ : Addr).add j = ⟨g, j, none⟩ := by by_cases hq : j = 0 <;> simp [Addr.add, hq]
  rw [e3] at this
  exact this
end Go.Proofs.Ytcppnkbfndhioaa
