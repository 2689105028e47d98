/- Records of one's own; the document's records. -/
import Derived.Test.YtcppnkbfndhioaaXe
namespace Go.Proofs.Ytcppnkbfndhioaa
open Go.RowKit
set_option maxRecDepth 100000
set_option linter.unusedVariables false
attribute [local go_sem ↓] Go.wp_at_zero Go.wp_at_succ

theorem info37 : (Try.prog.info? 37).map (fun i => (i.zero, i.size, i.bytes)) = some (some (.agg #[.int .i64 0, .int .i64 0]), 2, 16) := by kernel_rfl
theorem info38 : (Try.prog.info? 38).map (fun i => (i.zero, i.size, i.bytes)) = some (some (.agg #[.int .i64 0, .int .i64 0]), 2, 16) := by kernel_rfl

/-- a row of records that the call made -/
structure StR (t : TypeId) (w0 w : World) (v : Value) (l : List (Int × Int)) : Prop where
  own : w.ownsRow w0.heap.size t 2 v l.length (rcells l)
  bel : Below w0.heap.size w0 w

theorem StR.nil (t : TypeId) (w : World) : StR t w w (.slice none 0 0) [] := ⟨World.ownsRow_nil _ _ _ _, Below.refl _ _⟩

theorem StR.stays {t : TypeId} {w0 w w1 : World} {v : Value} {l : List (Int × Int)} (h : StR t w0 w v l) (hb : Below w.heap.size w w1) : StR t w0 w1 v l :=
  ⟨own_keep h.own (fun g e => hb.block g (h.own.lt g e).2), h.bel.trans (hb.mono h.bel.size)⟩

theorem StR.drew {t : TypeId} {w0 w : World} {v : Value} {l : List (Int × Int)} (h : StR t w0 w v l) (n : Nat) : StR t w0 (w.drewN n) v l := ⟨h.own, h.bel.os, h.bel.tape, h.bel.output, h.bel.size, h.bel.block⟩

theorem ownR_shape {w : World} {B t n : Nat} {v : Value} {xs : List Value} (h : w.ownsRow B t 2 v n xs) : ∃ a c, v = .slice a n c := by
  rcases h.2 with ⟨e, rfl⟩ | ⟨g, cap, cur, e, _⟩
  · exact ⟨_, _, e⟩
  · exact ⟨_, _, e⟩

/-- one record of one's own put behind -/
theorem run_oneR (sl t : TypeId) (hsl : Try.prog.underlying sl = some (.slice t)) (hinf : (Try.prog.info? t).map (fun i => (i.zero, i.size, i.bytes)) = some (some (.agg #[.int .i64 0, .int .i64 0]), 2, 16)) (ty : TypeId)
    (w0 ws : World) (va : Value) (l : List (Int × Int)) (r : Int × Int) (hA : StR t w0 ws va l) (hlen : (l.length + 1) * 16 ≤ 140737488355328) :
    ∃ v' w', (Builtin.append_ #[sl, sl] ty #[va, .slice (some ⟨ws.heap.size, 0, none⟩) 1 1]).run Try.prog (ws.alloc (.cells #[.int .i64 r.1, .int .i64 r.2] t)) = .ok v' w' ∧ StR t w0 w' v' (l ++ [r]) ∧ Kp ws w' va v' := by
  obtain ⟨i0, hi, hz0, hz1, hz2⟩ := info_parts hinf
  obtain ⟨v', w', hr', h2, h3, _, h5⟩ := run_append_own_at (P := Try.prog) (ws.alloc (.cells #[.int .i64 r.1, .int .i64 r.2] t)) w0.heap.size sl ty t i0 _ 2 16 hsl hi hz0 hz1 hz2 rfl (by decide) va l.length (rcells l) (hA.own.alloc _) ⟨ws.heap.size, 0, none⟩ 1 1 [.int .i64 r.1, .int .i64 r.2] rfl (by
    intro j u hj
    have e : (⟨ws.heap.size, 0, none⟩ : Addr).add j = ⟨ws.heap.size, j, none⟩ := by by_cases hq : j = 0 <;> simp [Addr.add, hq]
    rw [e]
    simp only [World.cell?, heap_alloc_new]
    simpa using hj) (by intro u hu; simp at hu; rcases hu with rfl | rfl <;> rfl) (by unfold maxLen; omega) (by omega) (by have := hA.bel.size; simp; omega)
  refine ⟨v', w', hr', ⟨by rw [List.length_append, rcells_append]; exact h2, (hA.bel.alloc hA.bel.size _).grown h3 (by have := hA.bel.size; simp; omega) (fun k e => (hA.own.lt k e).1)⟩, ⟨by have := h3.size; simp at this; omega, fun k hk hne => ?_, fun b e => ?_⟩⟩
  · rw [h3.block k (by simp; omega) (fun e => hne e.symm), Below.heap_alloc _ _ _ hk]
  · rcases h5 with h5 | h5
    · exact .inl (by rw [← h5, e])
    · rw [e] at h5; have := Option.some.inj h5; simp at this; exact .inr (by omega)

theorem step_oneR {ops : Array Oper} {o : Oper} {a : Act} {K : Act → World → Prop} {Q : Exit → Act → World → Prop} {E : Prop} {w0 ws : World} (hgd : o.guard = none) (s x : Operand) (sl t : TypeId)
    (ho : o.op = .call { callee := .builtin .append, args := #[s, x], argTypes := #[sl, sl] }) (hsl : Try.prog.underlying sl = some (.slice t)) (hinf : (Try.prog.info? t).map (fun i => (i.zero, i.size, i.bytes)) = some (some (.agg #[.int .i64 0, .int .i64 0]), 2, 16))
    (va : Value) (l : List (Int × Int)) (r1 r2 : Int) (hs : a.eval s = va) (hx : a.eval x = .slice (some ⟨ws.heap.size, 0, none⟩) 1 1)
    (hA : StR t w0 ws va l) (hlen : (l.length + 1) * 16 ≤ 140737488355328)
    (h : ∀ v' w', StR t w0 w' v' (l ++ [(r1, r2)]) → Kp ws w' va v' → K (a.put o.dst v') w') :
    if Region.wanted o (yielded ops a.tmps) = true then Oper.wp Try.prog o a (ws.alloc (.cells #[.int .i64 r1, .int .i64 r2] t)) K Q else E := by
  have hw : Region.wanted o (yielded ops a.tmps) = true := by simp [Region.wanted, hgd]
  rw [if_pos hw]
  obtain ⟨v', w', hr', h2, h3⟩ := run_oneR sl t hsl hinf o.type w0 ws va l (r1, r2) hA hlen
  simp only at hr'
  unfold Oper.wp
  simp [execOp, ho, resolve, invoke, builtin, hs, hx, hr', Result.andThen]
  exact h v' w' h2 h3

theorem wp_oneR {ops : Array Oper} {rest : List Oper} {o : Oper} {a : Act} {Q : Exit → Act → World → Prop} {w0 ws : World} (hgd : o.guard = none) (s x : Operand) (sl t : TypeId)
    (ho : o.op = .call { callee := .builtin .append, args := #[s, x], argTypes := #[sl, sl] }) (hsl : Try.prog.underlying sl = some (.slice t)) (hinf : (Try.prog.info? t).map (fun i => (i.zero, i.size, i.bytes)) = some (some (.agg #[.int .i64 0, .int .i64 0]), 2, 16))
    (va : Value) (l : List (Int × Int)) (r1 r2 : Int) (hs : a.eval s = va) (hx : a.eval x = .slice (some ⟨ws.heap.size, 0, none⟩) 1 1)
    (hA : StR t w0 ws va l) (hlen : (l.length + 1) * 16 ≤ 140737488355328)
    (h : ∀ v' w', StR t w0 w' v' (l ++ [(r1, r2)]) → Kp ws w' va v' → wpList Try.prog ops Q rest (a.put o.dst v') w') :
    wpList Try.prog ops Q (o :: rest) a (ws.alloc (.cells #[.int .i64 r1, .int .i64 r2] t)) := by
  refine wpList_plain hgd fun K hK => ?_
  obtain ⟨v', w', hr', h2, h3⟩ := run_oneR sl t hsl hinf o.type w0 ws va l (r1, r2) hA hlen
  simp only at hr'
  unfold Oper.wp
  simp [execOp, ho, resolve, invoke, builtin, hs, hx, hr', Result.andThen]
  exact hK _ _ (h v' w' h2 h3)

set_option maxHeartbeats 2000000 in
theorem refs_ok (l : List (Int × Int)) (v : Value) (w : World) (hr : ReadsR w v l) (hl : l.length ≤ 8796093021952) :
    Calls Try.prog 6 #[v] w fun e w' => ∃ v', e = .returned v' ∧ StR 38 w w' v' l := by
  have HR := hide hr
  obtain ⟨a, cap, rfl, hcap, _⟩ := hr
  obtain ⟨n, hn⟩ : ∃ n, n = l.length := ⟨_, rfl⟩
  rw [← hn] at hl hcap HR ⊢
  have HN := hide hn
  clear hn
  go_enter Try.func6, Try.ntmps6
  go_wp2_with fail
  go_loopg [3, 4] n (fun gk b c ws => ∃ (i : Nat) (vb : Value), gk = n - i ∧ i ≤ n ∧ b = vb ∧ c = .int .i64 (i : Int) ∧ Hid (StR 38 w ws vb (l.take i)))
  case atStart => exact ⟨0, _, by omega, by omega, rfl, rfl, hide (StR.nil 38 w)⟩
  case round =>
    obtain ⟨i, vb, rfl, hi, rfl, rfl, HS⟩ := hrel
    by_cases hlt : i < n
    · obtain ⟨a', cap', e, _, hs⟩ := (unhide HR).stays (unhide HS).bel
      injection e with e1 e2 e3
      subst e1 e3
      obtain ⟨b, off, rfl, hbB, hcell⟩ := hs (by rw [← unhide HN]; omega)
      obtain ⟨k1, k2⟩ := hcell i (by rw [← unhide HN]; omega)
      have HT : Hid (l.take (i + 1) = l.take i ++ [l.getD i (0, 0)]) := hide (by rw [List.take_succ_eq_append_getElem (show i < l.length by rw [← unhide HN]; omega), getD_at])
      generalize l.getD i (0, 0) = r at k1 k2 HT
      obtain ⟨s, t⟩ := r
      have HLT := hide hlt
      have HLN : Hid (((l.take i).length + 1) * 16 ≤ 140737488355328) := hide (by rw [List.length_take]; omega)
      have hki : (i : Int) < (n : Int) := by omega
      have j1 : wr.drew.cell? ⟨b, off + i * 2, none⟩ = some (.int .i64 s) := k1
      have j2 : wr.drew.cell? ⟨b, off + i * 2 + 1, none⟩ = some (.int .i64 t) := k2
      have m1 : ∀ O, (wr.alloc O).drew.cell? ⟨b, off + i * 2, none⟩ = some (.int .i64 s) := fun O => by
        show (wr.alloc O).cell? _ = _
        simp only [World.cell?]
        rw [Below.heap_alloc wr O b hbB]
        exact k1
      have m2 : ∀ O, (wr.alloc O).drew.cell? ⟨b, off + i * 2 + 1, none⟩ = some (.int .i64 t) := fun O => by
        show (wr.alloc O).cell? _ = _
        simp only [World.cell?]
        rw [Below.heap_alloc wr O b hbB]
        exact k2
      obtain ⟨av, cv, rfl⟩ := ownR_shape (unhide HS).own
      obtain ⟨LT, hLT⟩ : ∃ LT, LT = (l.take i).length := ⟨_, rfl⟩
      have HLL := hide hLT
      rw [← hLT] at HS ⊢
      clear hcell hs e2 hlt hbB k1 k2 hLT
      go_upto_region 5 with fail
      go_region_law (refine step_oneR (ws := wr.drew) rfl (.tmp 11) (.tmp 23) 29 38 rfl Try.underlying29 info38 (.slice av LT cv) (l.take i) s t (by simp [go_sem]) (by simp [go_sem]) ((unhide HS).drew 1) (unhide HLN) ?_; intro v3 w3 h1 h2; have H1 := hide h1; clear h1 h2)
      all_goals (
        go_wp2_with fail
        go_roundg (n - (i + 1))
        case measure => have := unhide HLT; omega
        case rel => exact ⟨i + 1, _, rfl, unhide HLT, rfl, by go_num, hide (by rw [unhide HT]; exact unhide H1)⟩)
    · obtain rfl : i = n := by omega
      have HT : Hid (l.take i = l) := hide (List.take_of_length_le (by rw [← unhide HN]; exact Nat.le_refl _))
      rw [unhide HT] at HS
      go_wp2_with fail
      go_ret
      exact ⟨_, rfl, unhide HS⟩
end Go.Proofs.Ytcppnkbfndhioaa
