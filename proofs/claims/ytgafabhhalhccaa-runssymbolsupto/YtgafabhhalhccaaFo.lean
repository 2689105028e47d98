/- Front: bytes are told by their places. -/
import Derived.Test.YtgafabhhalhccaaUf
namespace Go.Proofs.Ytgafabhhalhccaa
open Go.RowKit Runs
set_option maxRecDepth 100000
set_option linter.unusedVariables false
attribute [local go_sem ↓] Go.wp_at_zero Go.wp_at_succ

theorem wp_oneI {ops : Array Oper} {rest : List Oper} {o : Oper} {a : Act} {Q : Exit → Act → World → Prop} {w0 ws : World} (hgd : o.guard = none) (s x : Operand)
    (ho : o.op = .call { callee := .builtin .append, args := #[s, x], argTypes := #[32, 32] }) (va : Value) (xs : List Value) (X : Int) (hs : a.eval s = va) (hx : a.eval x = .slice (some ⟨ws.heap.size, 0, none⟩) 1 1)
    (hA : St w0 ws va xs) (hlen : (xs.length + 1) * 8 ≤ 140737488355328)
    (h : ∀ v' w', St w0 w' v' (xs ++ [iv X]) → (∀ k, k < ws.heap.size → va.ownBlock ≠ some k → w'.heap[k]? = ws.heap[k]?) → ws.heap.size ≤ w'.heap.size → (∀ b, v'.ownBlock = some b → va.ownBlock = some b ∨ ws.heap.size ≤ b) → wpList Try.prog ops Q rest (a.put o.dst v') w') : wpList Try.prog ops Q (o :: rest) a (ws.alloc (.cells #[iv X] 3)) := by
  obtain ⟨i0, hi, hz0, hz1, hz2⟩ := info_parts info3'
  refine wpList_append_own_at (ws.alloc (.cells #[iv X] 3)) hgd s x 32 ho w0.heap.size 3 i0 (.int .i64 0) 1 8 Try.underlying32 hi hz0 hz1 hz2 rfl (by decide) va xs.length xs hs (hA.own.alloc _) ⟨ws.heap.size, 0, none⟩ 1 1 [iv X] hx rfl (cell_one_new _ _ _) (by intro u hu; rw [List.mem_singleton] at hu; subst hu; rfl) (by unfold maxLen; omega) hlen (by have := hA.bel.size; simp; omega) ?_
  intro v' w' h2 h3 _ h5
  refine h v' w' ⟨by rw [List.length_append]; exact h2, (hA.bel.alloc hA.bel.size _).grown h3 (by have := hA.bel.size; simp; omega) (fun k e => (hA.own.lt k e).1)⟩ (fun k hk hne => ?_) (by have := h3.size; simp at this; omega) (fun b e => ?_)
  · rw [h3.block k (by simp; omega) (fun e => hne e.symm), Below.heap_alloc _ _ _ hk]
  · rcases h5 with h5 | h5
    · exact .inl (by rw [← h5, e])
    · rw [e] at h5; have := Option.some.inj h5; simp at this; exact .inr (by omega)

theorem own_base {w : World} {b b' e size n : Nat} {v : Value} {xs : List Value} (h : w.ownsRow b e size v n xs) (hb : b' ≤ b) : w.ownsRow b' e size v n xs := by
  obtain ⟨hl, hr⟩ := h
  refine ⟨hl, ?_⟩
  rcases hr with e | ⟨g, cap, cur, e, h1, r⟩
  · exact .inl e
  · exact .inr ⟨g, cap, cur, e, by omega, r⟩

/-- what Front hands out -/
def FrontTold (w : World) (b : List Nat) (e : Ending) (w' : World) : Prop := ∃ uv pv, e = .returned (.tuple #[uv, pv]) ∧ StB w w' uv (usedF b) ∧ St w w' pv ((frontF b).map fun d : Nat => iv (d : Int)) ∧ ∀ g, uv.ownBlock = some g → pv.ownBlock ≠ some g

theorem front_told {w wu w' : World} {uv pv : Value} {b : List Nat} {xs : List Value} (h1 : StB w wu uv (usedF b)) (h2 : St wu w' pv xs) (hx : xs = (frontF b).map fun d : Nat => iv (d : Int)) : FrontTold w b (.returned (.tuple #[uv, pv])) w' := by
  subst hx
  refine ⟨uv, pv, rfl, h1.later h2.bel, ⟨own_base h2.own h1.bel.size, h1.bel.trans (h2.bel.mono h1.bel.size)⟩, fun g e1 e2 => ?_⟩
  have := (h1.own.lt g e1).2
  have := (h2.own.lt g e2).1
  omega

theorem range_filter (b : List Nat) (c : Nat) : (List.range (c + 1)).filter (fun z => decide (z ∈ b)) = (List.range c).filter (fun z => decide (z ∈ b)) ++ (if c ∈ b then [c] else []) := by
  rw [List.range_succ, List.filter_append]
  by_cases h : c ∈ b <;> simp [h]

set_option maxHeartbeats 8000000 in
theorem frontW_ok (b : List Nat) (a0 : Option Addr) (cap : Nat) (w : World) (hc : BytesIn w a0 b) (hb : ∀ z ∈ b, z < 256) (hn : b.length ≤ 1048576) :
    Calls Try.prog 15 #[.slice a0 b.length cap] w fun e w' => FrontTold w b e w' := by
  have HC := hide hc
  have HBB := hide hb
  have HHAS := hide (fun (c : Nat) (x : World) (hx : Below w.heap.size w x) => has_ok b a0 cap c x (hc.stays hx) hn)
  obtain ⟨n, hN⟩ : ∃ n, n = b.length := ⟨_, rfl⟩
  have HN := hide hN
  rw [← hN] at hn HHAS ⊢
  clear hN hc hb
  go_enter Try.func15, Try.ntmps15
  go_wp2_with fail
  go_loopg [4, 5] 256 (fun gk uv cv ws => ∃ (c : Nat), gk = 256 - c ∧ c ≤ 256 ∧ cv = .int .i64 (c : Int) ∧ Hid (StB w ws uv ((List.range c).filter fun z => decide (z ∈ b))))
  case atStart => exact ⟨0, by omega, by omega, rfl, hide (StB.nil w)⟩
  case round =>
    obtain ⟨c, rfl, hc, rfl, HS⟩ := hrel
    rename World => wo
    have hlen : ((List.range c).filter fun z => decide (z ∈ b)).length ≤ 256 := by
      refine Nat.le_trans (List.length_filter_le _ _) ?_
      rw [List.length_range]; exact hc
    by_cases hlt : c < 256
    · have tl : (c : Int) < 256 := by omega
      have fw : (c : Int) % 256 = (c : Int) := by omega
      have HH := hide (unhide HHAS c wo (unhide HS).bel)
      by_cases hm : c ∈ b
      · rw [decide_eq_true hm] at HH
        go_wp2_with (first | (go_at_call 31; go_must (refine (unhide HH).mono ?_; rintro e w' ⟨rfl, rfl⟩)) | (at_builtin; refine wp_oneB rfl _ _ rfl _ _ c (by rfl) (by rfl) (unhide HS) (by omega) ?_; intro v3 w3 h3 _ _ _; have H3 := hide h3; clear h3))
        go_roundg (256 - (c + 1))
        case measure => omega
        case rel => exact ⟨c + 1, rfl, by omega, by go_num, hide (by rw [range_filter, if_pos hm]; exact unhide H3)⟩
      · rw [decide_eq_false hm] at HH
        go_wp2_with (go_at_call 31; go_must (refine (unhide HH).mono ?_; rintro e w' ⟨rfl, rfl⟩))
        go_roundg (256 - (c + 1))
        case measure => omega
        case rel => exact ⟨c + 1, rfl, by omega, by go_num, hide (by rw [range_filter, if_neg hm, List.append_nil]; exact unhide HS)⟩
    · have tl : ¬ (c : Int) < 256 := by omega
      have e256 : c = 256 := by omega
      subst e256
      have HSU : Hid (StB w wo u4 (usedF b)) := HS
      have HL0 : Hid (LIn wo (.slice none 0 0) u4 (usedF b)) := hide (LIn.front (unhide HSU) (fun g e => by cases e))
      clear HS hlen tl hlt hc HHAS
      go_wp2_with fail
      go_loopg [6, 7, 8] n (fun gk lv pv iv' ws => ∃ (i : Nat) (L out : List Nat), gk = n - i ∧ i ≤ n ∧ iv' = .int .i64 (i : Int) ∧ Hid (LIn ws pv lv L) ∧ Hid (St wo ws pv (out.map fun d : Nat => iv (d : Int))) ∧ Hid (out ++ frontG L (b.drop i) = frontF b) ∧ Hid ((∀ z ∈ b, z ∈ L) ∧ L.length ≤ 256 ∧ out.length ≤ i))
      case atStart => exact ⟨0, usedF b, [], by omega, by omega, rfl, HL0, hide (St.nil wo), hide rfl, hide ⟨fun z hz => mem_used.2 ⟨unhide HBB z hz, hz⟩, used_len b, by simp⟩⟩
      case round =>
        clear HL0
        obtain ⟨i, L, out, rfl, hi, rfl, HL, HS, HX, HO⟩ := hrel
        rename World => wi
        by_cases hlt : i < n
        · have tl : (i : Int) < (n : Int) := by omega
          have hib : i < b.length := by rw [← unhide HN]; exact hlt
          obtain ⟨hmem, hL256, hol⟩ := unhide HO
          have hX := unhide HX
          rw [drop_cons hib, frontG] at hX
          have hcL := hmem _ (getD_mem hib)
          obtain ⟨g, off, rfl, c1⟩ := unhide HC i hib
          have HBW : Hid (Below w.heap.size w wi) := hide ((unhide HSU).bel.trans ((unhide HS).bel.mono (unhide HSU).bel.size))
          obtain ⟨z, hz⟩ : ∃ z, z = b.getD i 0 := ⟨_, rfl⟩
          rw [← hz] at hX hcL c1
          clear hz
          obtain ⟨P, hPe⟩ : ∃ P, P = place z L := ⟨_, rfl⟩
          have hP1 := (place_lt hcL).1
          have hP2 := (place_lt hcL).2
          have HPF : Hid (∀ j, j < P → L.getD j 0 ≠ z) := hide (fun j hj => place_first (by rw [← hPe]; exact hj))
          rw [← hPe] at hX hP1 hP2
          obtain ⟨a1, cap1, e1, hc1, hB, hne⟩ := unhide HL
          have hLpos : 0 < L.length := by omega
          obtain ⟨lg, loff, rfl, _⟩ := hB 0 hLpos
          obtain ⟨m, hm⟩ : ∃ m, m = L.length := ⟨_, rfl⟩
          rw [← hm] at e1 hc1 hL256 hP1
          subst e1
          have HM := hide hm
          have HBI := hide hB
          have HX2 := hide hX
          have HP2 := hide hP2
          have HCL := hide hcL
          have HMEM := hide hmem
          clear hX hm hB hne hPe hP2 hcL hmem hLpos
          go_wp2_with fail
          go_loopg [9] P (fun gk kv ws => ∃ (k q : Nat), gk = P - k ∧ k ≤ P ∧ kv = .int .i64 (k : Int) ∧ ws = wi.drewN q)
          case atStart => exact ⟨0, 0, by omega, by omega, rfl, rfl⟩
          case round =>
            obtain ⟨k, q, rfl, hk, rfl, rfl⟩ := hrel
            obtain ⟨lg', loff', e2, d1⟩ := unhide HBI k (by rw [← unhide HM]; omega)
            obtain ⟨rfl, rfl⟩ : lg = lg' ∧ loff = loff' := by simpa using e2
            clear e2
            obtain ⟨W6, hW6⟩ : ∃ W6, W6 = wi.drewN q := ⟨_, rfl⟩
            have HW6 := hide hW6
            have c3 : ∀ q', (W6.drewN q').cell? ⟨g, off + i, none⟩ = some (.int .u8 (z : Int)) := fun q' => by
              rw [hW6]
              show wi.cell? _ = _
              rw [(unhide HBW).cell (cell_lt c1)]; exact c1
            have c4 : ∀ q', (W6.drewN q').cell? ⟨lg, loff + k, none⟩ = some (.int .u8 ((L.getD k 0 : Nat) : Int)) := fun q' => by rw [hW6]; exact d1
            rw [← hW6]
            have tk : (k : Int) < (m : Int) := by omega
            obtain ⟨y, hy⟩ : ∃ y, y = L.getD k 0 := ⟨_, rfl⟩
            rw [← hy] at c4
            have HYY := hide hy
            clear hy d1 c1 hW6
            by_cases he : y = z
            · have hkP : k = P := by
                rcases Nat.lt_or_ge k P with h | h
                · exact absurd (by rw [← unhide HYY]; exact he) (unhide HPF k h)
                · omega
              subst he
              have HKP := hide hkP
              clear hkP
              go_wp2_with fail
              go_quiet (fail)
              have HS2 : Hid (St wo (W6.drewN nq) u7 (out.map fun d : Nat => iv (d : Int))) := hide (by rw [unhide HW6]; exact ((unhide HS).drewN q).drewN nq)
              have HL2 : Hid (LIn (W6.drewN nq) u7 (.slice (some ⟨lg, loff, none⟩) m cap1) L) := hide (by rw [unhide HW6]; exact unhide HL)
              go_wp2_with (at_builtin; refine wp_oneI rfl _ _ rfl _ _ (k : Int) (by rfl) (by rfl) (unhide HS2) (by rw [List.length_map]; omega) ?_; intro v3 w3 h3 h4 h5 h6; have H3 := hide h3; have H4 := hide ((unhide HL2).app h4 h6); clear h3 h4 h5 h6)
              have hf : Calls Try.prog 32 #[.slice (some ⟨lg, loff, none⟩) m cap1, .int .i64 (k : Int)] w3 fun e w' => ∃ v, e = .returned v ∧ StB w3 w' v (toFront L k) := by
                obtain ⟨a2, cap2, e2, _, hB2, _⟩ := unhide H4
                cases e2
                have hm := unhide HM
                have := front_ok L lg loff cap1 k w3 hB2 (by omega) (by omega) (by omega)
                rw [← hm] at this
                exact this
              have HF := hide hf
              clear hf
              go_wp2_with (go_at_call 32; go_must (refine (unhide HF).mono ?_; rintro e w4 ⟨v4, rfl, hv4⟩; have HV := hide hv4; clear hv4))
              go_roundg (n - (i + 1))
              case measure => omega
              case rel =>
                have hkP := unhide HKP
                have hm := unhide HM
                refine ⟨i + 1, toFront L k, out ++ [k], rfl, by omega, by go_num, hide (LIn.front (unhide HV) (fun b e => ((unhide H3).own.lt b e).2)), hide ((by rw [List.map_append]; exact unhide H3 : St wo w3 v3 ((out ++ [k]).map fun d : Nat => iv (d : Int))).later (unhide HV).bel), hide ?_, hide ⟨fun x hx => (toFront_perm (by omega)).mem_iff.2 (unhide HMEM x hx), by rw [toFront_len (by omega)]; omega, by simp; omega⟩⟩
                rw [List.append_assoc, hkP]
                exact unhide HX2
            · have hkP : k < P := by
                rcases Nat.lt_or_ge k P with h | h
                · exact h
                · have e : k = P := by omega
                  exact absurd (by rw [unhide HYY, e]; exact unhide HP2) he
              have f1 : ((y : Int) == (z : Int)) = false := by rw [beq_eq_false_iff_ne]; omega
              have f2 : ¬ (y : Int) = (z : Int) := by omega
              go_wp2_with fail
              go_quiet (fail)
              go_wp2_with fail
              go_roundg (P - (k + 1))
              case measure => omega
              case rel => exact ⟨k + 1, q + nq, rfl, by omega, by go_num, by rw [unhide HW6, World.drewN_drewN]⟩
        · have tl : ¬ (i : Int) < (n : Int) := by omega
          go_wp2_with fail
          go_ret2
          refine front_told (unhide HSU) (unhide HS) ?_
          have hX := unhide HX
          rw [List.drop_eq_nil_of_le (by rw [← unhide HN]; omega), frontG, List.append_nil] at hX
          rw [hX]

end Go.Proofs.Ytgafabhhalhccaa
