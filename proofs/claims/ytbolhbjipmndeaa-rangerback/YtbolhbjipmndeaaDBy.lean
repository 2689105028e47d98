/- Bytes: what was written, and the end. -/
import Derived.Test.YtbolhbjipmndeaaDTr
namespace Go.Proofs.Ytbolhbjipmndeaa.D
open Go.RowKit Rang
set_option maxRecDepth 100000
set_option linter.unusedVariables false
attribute [local go_sem ↓] Go.wp_at_zero Go.wp_at_succ

/-- so many bytes shifted out -/
def shN : Nat → Enc → Enc
  | 0, c => c
  | n + 1, c => shiftE (shN n c)

theorem shN_stands {c : Enc} {T k : Nat} (h : Stands c T k 1) : ∀ n, Stands (shN n c) (T * 256 ^ n) (k + n) 1
  | 0 => by simpa [shN] using h
  | n + 1 => by
    have h1 := shN_stands h n
    have h2 := stands_less (stands_shift h1 (by omega)) 1 (shiftE (shN n c)).rng (by omega) (by omega)
    rw [shN, Nat.pow_succ, ← Nat.mul_assoc]
    exact h2

theorem bytesE_shN (c : Enc) : bytesE c = (shN 5 c).out := rfl

theorem wp_catO {ops : Array Oper} {rest : List Oper} {o : Oper} {a : Act} {Q : Exit → Act → World → Prop} {ws : World} (hgd : o.guard = none) (s x : Operand)
    (ho : o.op = .call { callee := .builtin .append, args := #[s, x], argTypes := #[32, 32] }) (b : List Nat) (B : Nat) (v : Value) (hs : a.eval s = .slice (some ⟨ws.heap.size, 0, none⟩) 0 0) (hx : a.eval x = v)
    (hown : ws.ownsRow B 5 1 v b.length (b.map bv)) (hlen : b.length ≤ 100000000000000)
    (h : ∀ v' w', StB ws w' v' b → wpList Try.prog ops Q rest (a.put o.dst v') w') : wpList Try.prog ops Q (o :: rest) a (ws.alloc (.cells #[] 5)) := by
  obtain ⟨i0, hi, hz0, hz1, hz2⟩ := info_parts info5
  have hbel : Below ws.heap.size ws (ws.alloc (.cells #[] 5)) := (Below.refl _ _).alloc (Nat.le_refl _) _
  have hmade := World.ownsRow_made (base := ws.heap.size) (e := 5) (size := 1) ws #[] 0 (Nat.le_refl _) (by unfold maxLen; omega) rfl
  rcases hown.2 with ⟨e1, e2⟩ | ⟨g, cap, cur, e1, hb, hg, hn, hc, hs', ht⟩
  · have e3 : b = [] := List.length_eq_zero_iff.1 e2
    subst e3
    exact wpList_append_own_none hgd s x 32 ho ws.heap.size 5 i0 1 Try.underlying32 hi _ 0 [] hs hmade (by rw [hx, e1]) (h _ _ ⟨hmade, hbel⟩)
  · refine wpList_append_own_at (ws.alloc (.cells #[] 5)) hgd s x 32 ho ws.heap.size 5 i0 (.int .u8 0) 1 1 Try.underlying32 hi hz0 hz1 hz2 rfl (by decide) _ 0 [] hs hmade ⟨g, 0, none⟩ b.length cap (b.map bv) (by rw [hx, e1]) (by rw [List.length_map]; omega) (fun j u hj => by
      have := hown.cells (g := g) (by rw [e1]; rfl) j u hj
      rw [hbel.cell (cell_lt this)]
      exact this) (by intro u hu; obtain ⟨z, _, rfl⟩ := List.mem_map.1 hu; rfl) (by unfold maxLen; omega) (by omega) hbel.size ?_
    intro v' w' h2 h3 _ _
    exact h v' w' ⟨by simpa using h2, hbel.grown h3 hbel.size (fun k e => by have := Option.some.inj e; subst this; exact Nat.le_refl _)⟩

set_option maxHeartbeats 4000000 in
theorem bytes_ok (B pb : Nat) (w : World) (chv ov : Value) (c : Enc) (T k : Nat) (h : EAt B w pb chv ov c) (hw : Wide c T k) (hk : k ≤ 90000000000000) (a3 : Option Addr) (n3 c9 : Nat) (hcv : chv = .slice a3 n3 c9) :
    Calls Try.prog 13 #[.pointer (some ⟨pb, 0, none⟩)] w fun e w' => ∃ v, e = .returned v ∧ StB w w' v (bytesE c) := by
  have c0 := h.chs
  have c1 := h.low
  have c2 := h.rng
  have c3 := h.kept
  have c4 := h.wait
  have c5 := h.out
  have HE := hide h
  have HW := hide hw
  obtain ⟨oa, on, oc, rfl⟩ := own_shape h.row
  subst hcv
  have hpl := heap_lt h.cells
  obtain ⟨go, hgo⟩ : ∃ go, go = w.heap.size := ⟨_, rfl⟩
  have HGO := hide hgo
  have HC : Hid (Below go w (w.alloc (.cells (ecells (.slice a3 n3 c9) (.slice oa on oc) c) 39))) := hide (by rw [hgo]; exact (Below.refl _ _).alloc (Nat.le_refl _) _)
  have HG : Hid ((w.alloc (.cells (ecells (.slice a3 n3 c9) (.slice oa on oc) c) 39)).heap[go]? = some (.cells (ecells (.slice a3 n3 c9) (.slice oa on oc) c) 39 (0, 0))) := hide (by rw [hgo]; exact heap_alloc_new _ _)
  clear h hw
  go_enter Try.func13, Try.ntmps13
  go_upto_region 2 with fail
  rw [← hgo]
  clear hgo
  have hsz : (w.alloc (.cells (ecells (.slice a3 n3 c9) (.slice oa on oc) c) 39)).heap.size = go + 1 := by rw [unhide HGO]; simp
  obtain ⟨W1, hW1⟩ : ∃ W1, W1 = w.alloc (.cells (ecells (.slice a3 n3 c9) (.slice oa on oc) c) 39) := ⟨_, rfl⟩
  rw [← hW1] at HC HG hsz
  have e : w.alloc (.cells #[.slice a3 n3 c9, .int .u64 (c.low : Int), .int .u64 (c.rng : Int), .int .i64 (c.kept : Int), .int .i64 (c.wait : Int), .slice oa on oc] 39) = W1 := hW1.symm
  rw [e]
  clear e hW1 c0 c1 c2 c3 c4 c5
  have hpg : pb < go := by rw [unhide HGO]; exact hpl
  have HR1 : Hid (W1.ownsRow B 5 1 (.slice oa on oc) c.out.length (c.out.map bv)) := hide (own_keep (unhide HE).row fun g eg => (unhide HC).block g (by rw [unhide HGO]; exact ((unhide HE).row.lt g eg).2))
  have k5 : ∀ O, (W1.alloc O).cell? ⟨pb, 5, none⟩ = some (.slice oa on oc) := fun O => by
    have h1 : W1.heap[pb]? = w.heap[pb]? := (unhide HC).block pb hpg
    simp only [World.cell?]
    rw [Below.heap_alloc W1 O pb (by omega), h1]
    exact (unhide HE).out
  have HSZ := hide hsz
  clear hsz
  have HOL : Hid (c.out.length ≤ 100000000000000) := hide (by have := (unhide HW).st.len; omega)
  go_wp2_with (at_builtin; refine wp_catO rfl _ _ rfl c.out B _ (by rfl) (by rfl) (unhide HR1) (unhide HOL) ?_; intro v2 w2 h2; obtain ⟨a2, m2, q2, e2⟩ := own_shape h2.own; subst e2; have H2 := hide h2; have g1 : w2.heap[go]? = some (.cells (ecells (.slice a3 n3 c9) (.slice oa on oc) c) 39 (0, 0)) := (by rw [h2.bel.block go (by have := unhide HSZ; omega)]; exact unhide HG); have HG1 := hide g1; have k6 : w2.cell? ⟨go, 5, none⟩ = some (.slice oa on oc) := (by simp [World.cell?, g1, ecells]); have k7 : w2.frozen? ⟨go, 5, none⟩ = false := (by simp [World.frozen?, g1]); clear h2 g1)
  obtain ⟨W3, hW3⟩ : ∃ W3, W3 = w2.setCell ⟨go, 5, none⟩ (.slice a2 m2 q2) := ⟨_, rfl⟩
  have HE3 : Hid (EAt w.heap.size W3 go (.slice a3 n3 c9) (.slice a2 m2 q2) (shN 0 c)) := hide (by
    have hne : ∀ g, (Value.slice a2 m2 q2).ownBlock = some g → g ≠ go := fun g eg => by
      have := ((unhide H2).own.lt g eg).1
      have := unhide HSZ
      omega
    rw [hW3]
    refine ⟨by rw [heap_setCell_same w2 go 5 _ 39 _ (unhide HG1)]; rfl, ?_, by rw [← unhide HGO]; exact Nat.le_refl _⟩
    refine own_keep ⟨(unhide H2).own.1, ?_⟩ fun g eg => heap_setCell_other _ _ _ _ (hne g eg)
    rcases (unhide H2).own.2 with e | ⟨g, cap, cur, e, hb, r⟩
    · exact .inl e
    · exact .inr ⟨g, cap, cur, e, by have := unhide HSZ; have := unhide HGO; omega, r⟩)
  have HB3 : Hid (Below w.heap.size w W3) := hide (by
    have h1 := unhide HC
    rw [unhide HGO] at h1
    have h2 := h1.trans ((unhide H2).bel.mono h1.size)
    rw [hW3]
    exact h2.setCell (by show w.heap.size ≤ go; rw [unhide HGO]; exact Nat.le_refl _) _)
  rw [← hW3]
  clear hW3 H2 HG1 k6 k7 k5
  go_loopg [4] 5 (fun gk d ws => ∃ (i : Nat) (ov' : Value), gk = 5 - i ∧ i ≤ 5 ∧ d = .int .i64 (i : Int) ∧ Hid (EAt w.heap.size ws go (.slice a3 n3 c9) ov' (shN i c)) ∧ Hid (Below w.heap.size w ws))
  case atStart => exact ⟨0, _, by omega, by omega, rfl, HE3, HB3⟩
  case round =>
    clear HE3 HB3
    obtain ⟨i, ov', rfl, hi, rfl, HE3, HB3⟩ := hrel
    rename World => wi
    by_cases hlt : i < 5
    · have tl : (i : Int) < 5 := by omega
      have hst := shN_stands (c := c) (T := T) (k := k) (by
        have := stands_less (unhide HW).st 1 c.rng (by omega) (by have := (unhide HW).lo; omega)
        exact this) i
      have HCL := hide (shift_ok w.heap.size go wi (.slice a3 n3 c9) ov' (shN i c) (unhide HE3) (by have := hst.lo; omega) hst.kept (by have := hst.len; omega) (by have := hst.len; omega) (unhide HB3).size)
      clear hst
      go_wp2_with fail
      refine (unhide HCL).mono ?_
      rintro e w5 ⟨rfl, ov5, h5, h6⟩
      have HE5 : Hid (EAt w.heap.size w5 go (.slice a3 n3 c9) ov5 (shN (i + 1) c)) := hide h5
      have HB5 : Hid (Below w.heap.size w w5) := hide ⟨h6.os.trans (unhide HB3).os, h6.tape.trans (unhide HB3).tape, h6.output.trans (unhide HB3).output, Nat.le_trans (unhide HB3).size h6.size, fun q hq => by
        rw [h6.keep q (Nat.lt_of_lt_of_le hq (unhide HB3).size) (by have := (unhide HE3).lo; omega) (fun e => by have := ((unhide HE3).row.lt q e).1; omega)]
        exact (unhide HB3).block q hq⟩
      clear h5 h6 HCL
      go_wp2_with fail
      go_roundg (5 - (i + 1))
      case measure => omega
      case rel => exact ⟨i + 1, ov5, rfl, by omega, by go_num, HE5, HB5⟩
    · obtain rfl : i = 5 := by omega
      have k5 := (unhide HE3).out
      obtain ⟨a6, n6, q6, e6⟩ := own_shape (unhide HE3).row
      subst e6
      go_wp2_with fail
      go_ret
      exact ⟨_, rfl, ⟨(unhide HE3).row, unhide HB3⟩⟩
end Go.Proofs.Ytbolhbjipmndeaa.D
