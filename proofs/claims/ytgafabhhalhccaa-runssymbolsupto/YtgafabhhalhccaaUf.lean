/- Unfront: places are turned to bytes again. -/
import Derived.Test.YtgafabhhalhccaaFr
import Derived.Test.YtgafabhhalhccaaSy
namespace Go.Proofs.Ytgafabhhalhccaa
open Go.RowKit Runs
set_option maxRecDepth 100000
set_option linter.unusedVariables false
attribute [local go_sem ↓] Go.wp_at_zero Go.wp_at_succ

theorem StB.later {w0 w w1 : World} {v : Value} {xs : List Nat} (h : StB w0 w v xs) (hb : Below w.heap.size w w1) : StB w0 w1 v xs :=
  ⟨own_keep h.own fun g e => hb.block g (h.own.lt g e).2, h.bel.trans (hb.mono h.bel.size)⟩

theorem St.later {w0 w w1 : World} {v : Value} {xs : List Value} (h : St w0 w v xs) (hb : Below w.heap.size w w1) : St w0 w1 v xs :=
  ⟨own_keep h.own fun g e => hb.block g (h.own.lt g e).2, h.bel.trans (hb.mono h.bel.size)⟩

/-- a list of bytes that lies beside a row that grows -/
def LIn (ws : World) (va lv : Value) (L : List Nat) : Prop := ∃ a0 cap, lv = .slice a0 L.length cap ∧ L.length ≤ cap ∧ BytesIn ws a0 L ∧ ∀ g off, a0 = some ⟨g, off, Option.none⟩ → 0 < L.length → va.ownBlock ≠ some g

theorem StB.lies {w0 w : World} {v : Value} {xs : List Nat} (h : StB w0 w v xs) : ∃ a0 cap, v = .slice a0 xs.length cap ∧ xs.length ≤ cap ∧ BytesIn w a0 xs ∧ ∀ g off, a0 = some ⟨g, off, Option.none⟩ → w0.heap.size ≤ g := by
  rcases h.own.2 with ⟨e1, e2⟩ | ⟨g, cap, cur, e1, hb, hh, hn, _⟩
  · exact ⟨Option.none, 0, by rw [e1, e2], by omega, fun j hj => by omega, fun g off e => by cases e⟩
  · refine ⟨some ⟨g, 0, Option.none⟩, cap, e1, hn, fun j hj => ⟨g, 0, rfl, ?_⟩, fun g' off e => ?_⟩
    · have := h.own.cells (g := g) (by rw [e1]; rfl) j (bv (xs.getD j 0)) (by rw [List.getElem?_map, List.getElem?_eq_getElem hj, List.getD_eq_getElem?_getD, List.getElem?_eq_getElem hj]; rfl)
      have e : (⟨g, 0, Option.none⟩ : Addr).add j = ⟨g, 0 + j, Option.none⟩ := by rw [Nat.zero_add]; simp [Addr.add]; exact fun h => h.symm
      rw [e] at this
      exact this
    · cases e; exact hb

theorem LIn.front {ws w' : World} {va v' : Value} {L : List Nat} (h : StB ws w' v' L) (hva : ∀ b, va.ownBlock = some b → b < ws.heap.size) : LIn w' va v' L := by
  obtain ⟨a0, cap, e1, h1, h2, h3⟩ := h.lies
  refine ⟨a0, cap, e1, h1, h2, fun g off e hl he => ?_⟩
  have := hva g he
  have := h3 g off e
  omega

theorem LIn.app {ws w' : World} {va v' lv : Value} {L : List Nat} (h : LIn ws va lv L) (hk : ∀ k, k < ws.heap.size → va.ownBlock ≠ some k → w'.heap[k]? = ws.heap[k]?) (hb : ∀ b, v'.ownBlock = some b → va.ownBlock = some b ∨ ws.heap.size ≤ b) : LIn w' v' lv L := by
  obtain ⟨a0, cap, e1, h1, h2, h3⟩ := h
  refine ⟨a0, cap, e1, h1, fun j hj => ?_, fun g off e hl he => ?_⟩
  · obtain ⟨g, off, e, c⟩ := h2 j hj
    refine ⟨g, off, e, ?_⟩
    have := hk g (cell_lt c) (h3 g off e (by omega))
    unfold World.cell? at c ⊢
    rw [this]
    exact c
  · obtain ⟨g', off', e', c⟩ := h2 0 hl
    rw [e] at e'
    cases e'
    have hlt := cell_lt c
    rcases hb g he with h4 | h4
    · exact h3 g off e hl h4
    · exact absurd hlt (by show ¬ g < ws.heap.size; omega)

def Up (u : List Nat) : Prop := ∀ i, i + 1 < u.length → u.getD i 0 < u.getD (i + 1) 0

open Classical in
noncomputable def unfrontOut (u : List Nat) (ps : List Int) : List Nat × Nat := if Up u then unf u ps [] else ([], 2)

set_option maxHeartbeats 8000000 in
theorem unfront_ok (u : List Nat) (a0 : Option Addr) (cap : Nat) (ps : List Int) (p0 : Option Addr) (pcap : Nat) (w : World) (hu : BytesIn w a0 u) (hcap : u.length ≤ cap) (hp : IntsIn w p0 ps) (hn : u.length ≤ 1048576) (hP : ps.length ≤ 1048576) :
    Calls Try.prog 17 #[.slice a0 u.length cap, .slice p0 ps.length pcap] w fun e w' => ToldB w (unfrontOut u ps) e w' := by
  have HU := hide hu
  have HP := hide hp
  obtain ⟨n, hN⟩ : ∃ n, n = u.length := ⟨_, rfl⟩
  obtain ⟨N, hNN⟩ : ∃ N, N = ps.length := ⟨_, rfl⟩
  have HN := hide hN
  have HNN := hide hNN
  have HCAP := hide hcap
  rw [← hN] at hn ⊢
  rw [← hNN] at hP ⊢
  clear hN hNN hu hp hcap
  go_enter Try.func17, Try.ntmps17
  go_wp2_with fail
  go_loopg [6] n (fun gk av ws => ∃ (i q : Nat), gk = n - i ∧ i ≤ n ∧ av = .int .i64 ((i + 1 : Nat) : Int) ∧ Hid (∀ j, j < i → j + 1 < n → u.getD j 0 < u.getD (j + 1) 0) ∧ ws = w.drewN q)
  case atStart => exact ⟨0, 0, by omega, by omega, rfl, hide (fun j hj => by omega), rfl⟩
  case round =>
    obtain ⟨i, q, rfl, hi, rfl, HX, rfl⟩ := hrel
    obtain ⟨W6, hW6⟩ : ∃ W6, W6 = w.drewN q := ⟨_, rfl⟩
    have HW6 := hide hW6
    by_cases hlt : i + 1 < n
    · have tl : (i : Int) + 1 < (n : Int) := by omega
      have hib : i + 1 < u.length := by rw [← unhide HN]; exact hlt
      obtain ⟨g, off, rfl, c1⟩ := unhide HU (i + 1) hib
      obtain ⟨g', off', e2, c2⟩ := unhide HU i (by omega)
      obtain ⟨rfl, rfl⟩ : g = g' ∧ off = off' := by simpa using e2
      clear e2
      have c3 : ∀ q', (W6.drewN q').cell? ⟨g, off + (i + 1), none⟩ = some (.int .u8 ((u.getD (i + 1) 0 : Nat) : Int)) := fun q' => by rw [hW6]; exact c1
      have c4 : ∀ q', (W6.drewN q').cell? ⟨g, off + i, none⟩ = some (.int .u8 ((u.getD i 0 : Nat) : Int)) := fun q' => by rw [hW6]; exact c2
      rw [← hW6]
      clear c1 c2 hW6
      obtain ⟨x, hx⟩ : ∃ x, x = u.getD (i + 1) 0 := ⟨_, rfl⟩
      obtain ⟨y, hy⟩ : ∃ y, y = u.getD i 0 := ⟨_, rfl⟩
      rw [← hx] at c3
      rw [← hy] at c4
      have HXX := hide hx
      have HYY := hide hy
      clear hx hy
      by_cases he : y < x
      · have t2 : ¬ ((x : Int) ≤ (y : Int)) := by omega
        go_wp2_with fail
        go_quiet (fail)
        go_wp2_with fail
        go_roundg (n - (i + 1))
        case measure => omega
        case rel => exact ⟨i + 1, q + nq, rfl, by omega, by go_num, hide (fun j hj hjn => by
          by_cases e : j = i
          · rw [e, ← unhide HXX, ← unhide HYY]; exact he
          · exact unhide HX j (by omega) hjn), by rw [unhide HW6, World.drewN_drewN]⟩
      · have t2 : ((x : Int) ≤ (y : Int)) := by omega
        have e1 : unfrontOut u ps = ([], 2) := by
          unfold unfrontOut
          rw [if_neg]
          intro hup
          have := hup i hib
          rw [← unhide HXX, ← unhide HYY] at this
          exact he this
        go_wp2_with fail
        go_quiet (fail)
        go_wp2_with fail
        go_ret2
        rw [e1]
        exact ⟨_, rfl, StB.none w _ (by rw [unhide HW6]; exact drewN_below (drewN_below (Below.refl _ _) _) _)⟩
    · have tl : ¬ (i : Int) + 1 < (n : Int) := by omega
      have HUP : Hid (unfrontOut u ps = unf u ps []) := hide (by
        unfold unfrontOut
        rw [if_pos]
        intro j hj
        rw [← unhide HN] at hj
        exact unhide HX j (by omega) hj)
      rw [← hW6]
      clear hW6 HX
      have HS0 : Hid (StB w W6 (.slice none 0 0) []) := hide (by rw [unhide HW6]; exact (StB.nil w).drewN q)
      have HL0 : Hid (LIn W6 (.slice none 0 0) (.slice a0 n cap) u) := hide ⟨a0, cap, by rw [unhide HN], unhide HCAP, by rw [unhide HW6]; exact unhide HU, fun g off e hl => by simp [Value.ownBlock]⟩
      go_wp2_with fail
      go_loopg [7, 8, 9] N (fun gk lv ov iv' ws => ∃ (i : Nat) (L out : List Nat), gk = N - i ∧ i ≤ N ∧ iv' = .int .i64 (i : Int) ∧ Hid (LIn ws ov lv L) ∧ Hid (StB w ws ov out) ∧ Hid (unf L (ps.drop i) out = unf u ps []) ∧ Hid (L.length = n ∧ out.length ≤ i))
      case atStart => exact ⟨0, u, [], by omega, by omega, rfl, HL0, HS0, hide rfl, hide ⟨by rw [unhide HN], by simp⟩⟩
      case round =>
        clear HL0 HS0 tl hlt
        obtain ⟨j, L, out, rfl, hj, rfl, HL, HS, HX, HO⟩ := hrel
        rename World => wo
        obtain ⟨hLn, hol⟩ := unhide HO
        obtain ⟨a1, cap1, e1, hc1, hB, hne⟩ := unhide HL
        rw [hLn] at e1
        subst e1
        have HBI := hide hB
        clear hB hne
        by_cases hlt : j < N
        · have tl : (j : Int) < (N : Int) := by omega
          have hjb : j < ps.length := by rw [← unhide HNN]; exact hlt
          obtain ⟨pg, poff, rfl, c1⟩ := unhide HP j hjb
          have c2 : wo.cell? ⟨pg, poff + j, none⟩ = some (.int .i64 (ps.getD j 0)) := by rw [(unhide HS).bel.cell (cell_lt c1)]; exact c1
          have hX := unhide HX
          rw [dropI_cons hjb, unf, hLn] at hX
          generalize ps.getD j 0 = p at *
          clear c1
          by_cases hp0 : p < 0
          · rw [if_pos (.inl hp0)] at hX
            go_wp2_with fail
            go_ret2
            rw [unhide HUP, ← hX]
            exact ⟨_, rfl, StB.none w _ (unhide HS).bel⟩
          · by_cases hpn : (n : Int) ≤ p
            · rw [if_pos (.inr hpn)] at hX
              go_wp2_with fail
              go_ret2
              rw [unhide HUP, ← hX]
              exact ⟨_, rfl, StB.none w _ (unhide HS).bel⟩
            · rw [if_neg (by omega)] at hX
              obtain ⟨k, rfl⟩ : ∃ k : Nat, p = (k : Int) := ⟨p.toNat, by omega⟩
              rw [Int.toNat_natCast] at hX
              have hk : k < n := by omega
              obtain ⟨lg, loff, rfl, d1⟩ := unhide HBI k (by omega)
              have HX2 := hide hX
              obtain ⟨z, hz⟩ : ∃ z, z = L.getD k 0 := ⟨_, rfl⟩
              rw [← hz] at d1 HX2
              clear hX hz
              have t3 : (k : Int) < (n : Int) := by omega
              go_wp2_with (at_builtin; refine wp_oneB rfl _ _ rfl _ _ z (by rfl) (by rfl) (unhide HS) (by omega) ?_; intro v3 w3 h3 h4 h5 h6; have H3 := hide h3; have H4 := hide ((unhide HL).app h4 h6); clear h3 h4 h5 h6)
              have hf : Calls Try.prog 32 #[.slice (some ⟨lg, loff, none⟩) n cap1, .int .i64 (k : Int)] w3 fun e w' => ∃ v, e = .returned v ∧ StB w3 w' v (toFront L k) := by
                obtain ⟨a2, cap2, e2, _, hB2, _⟩ := unhide H4
                cases e2
                have := front_ok L lg loff cap1 k w3 hB2 (by omega) (by omega) hc1
                rw [hLn] at this
                exact this
              have HF := hide hf
              clear hf
              go_wp2_with (go_at_call 32; go_must (refine (unhide HF).mono ?_; rintro e w4 ⟨v4, rfl, hv4⟩; have HV := hide hv4; clear hv4))
              go_roundg (N - (j + 1))
              case measure => omega
              case rel => exact ⟨j + 1, toFront L k, out ++ [z], rfl, by omega, by go_num, hide (LIn.front (unhide HV) (fun b e => ((unhide H3).own.lt b e).2)), hide ((unhide H3).later (unhide HV).bel), HX2, hide ⟨by rw [toFront_len (by omega)]; exact hLn, by simp; omega⟩⟩
        · have tl : ¬ (j : Int) < (N : Int) := by omega
          go_wp2_with fail
          go_ret2
          have hX := unhide HX
          rw [List.drop_eq_nil_of_le (by rw [← unhide HNN]; omega), unf] at hX
          rw [unhide HUP, ← hX]
          exact ⟨_, rfl, unhide HS⟩

end Go.Proofs.Ytgafabhhalhccaa
