/- Unpack: what was written shorter is read. -/
import Derived.Test.YtgafabhhalhccaaPk
namespace Go.Proofs.Ytgafabhhalhccaa
open Go.RowKit Runs
set_option maxRecDepth 100000
set_option linter.unusedVariables false
attribute [local go_sem ↓] Go.wp_at_zero Go.wp_at_succ

/-- what a call hands out -/
def ToldB (w : World) (out : List Nat × Nat) (e : Ending) (w' : World) : Prop := ∃ v, e = .returned (.tuple #[v, .int .i64 (out.2 : Int)]) ∧ StB w w' v out.1

theorem StB.none (w w' : World) (h : Below w.heap.size w w') : StB w w' (.slice none 0 0) [] := ⟨World.ownsRow_nil _ _ _ _, h⟩

set_option maxHeartbeats 8000000 in
theorem unpack_ok (b : List Nat) (a0 : Option Addr) (cap : Nat) (most : Int) (w : World) (hc : BytesIn w a0 b) (hb : ∀ z ∈ b, z < 256) (hn : b.length ≤ 1048576) (hm2 : most ≤ 9223372036854775807) (hm1 : -9223372036854775808 ≤ most) :
    Calls Try.prog 9 #[.slice a0 b.length cap, .int .i64 most] w fun e w' => ToldB w (unpackF b most) e w' := by
  have HC := hide hc
  have HBB := hide hb
  obtain ⟨n, hN⟩ : ∃ n, n = b.length := ⟨_, rfl⟩
  have HN := hide hN
  rw [← hN] at hn ⊢
  clear hN hc hb
  by_cases hneg : most < 0
  · have e1 : unpackF b most = ([], 2) := by unfold unpackF; rw [if_pos hneg]
    rw [e1]
    go_enter Try.func9, Try.ntmps9
    go_wp2_with fail
    go_ret2
    exact ⟨_, rfl, StB.nil w⟩
  · have HU : Hid (unpackF b most = unp most b 0 0 []) := hide (by unfold unpackF; rw [if_neg hneg])
    go_enter Try.func9, Try.ntmps9
    go_wp2_with fail
    go_loopg [6, 7, 8] n (fun gk o lv iv' ws => ∃ (i like last : Nat) (out : List Nat), gk = n - i ∧ i ≤ n ∧ like ≤ 4 ∧ lv = .int .i64 (like : Int) ∧ iv' = .int .i64 (i : Int) ∧ Hid (StB w ws o out) ∧ Hid (unp most (b.drop i) like last out = unp most b 0 0 []) ∧ Hid (0 < i → last = b.getD (i - 1) 0) ∧ (0 < like → 0 < i) ∧ Hid (out.length ≤ 255 * i ∧ (out.length : Int) ≤ most))
    case atStart => exact ⟨0, 0, 0, [], by omega, by omega, by omega, rfl, rfl, hide (StB.nil w), hide rfl, hide (fun h => by omega), fun h => by omega, hide ⟨by simp, by simp; omega⟩⟩
    case round =>
      obtain ⟨i, like, last, out, rfl, hin, hl4, rfl, rfl, HS, HX, HL, hli, HO⟩ := hrel
      rename World => wi
      by_cases hil : i < n
      · have ti : (i : Int) < (n : Int) := by omega
        have hib : i < b.length := by rw [← unhide HN]; exact hil
        have hX := unhide HX
        rw [drop_cons hib, unp] at hX
        obtain ⟨g, off, rfl, c1⟩ := unhide HC i hib
        have d1 : ∀ q, (wi.drewN q).cell? ⟨g, off + i, none⟩ = some (.int .u8 ((b.getD i 0 : Nat) : Int)) := fun q => by
          show wi.cell? _ = _
          rw [(unhide HS).bel.cell (cell_lt c1)]; exact c1
        have hz := unhide HBB _ (getD_mem hib)
        have HLN : Hid (0 < i + 1 → b.getD i 0 = b.getD (i + 1 - 1) 0) := hide (fun _ => rfl)
        obtain ⟨c, hcc⟩ : ∃ c, c = b.getD i 0 := ⟨_, rfl⟩
        rw [← hcc] at hX d1 hz HLN
        clear c1 hcc
        have d0 : wi.cell? ⟨g, off + i, none⟩ = some (.int .u8 ((c : Nat) : Int)) := d1 0
        obtain ⟨ol1, ol2⟩ := unhide HO
        obtain ⟨oa, oc, rfl⟩ := (unhide HS).len
        have fw : IntKind.i64.wrap (most - (out.length : Int)) = most - (out.length : Int) := by rw [IntKind.wrap_i64]; omega
        by_cases h4 : like = 4
        · subst h4
          rw [if_pos rfl] at hX
          obtain ⟨i1, rfl⟩ : ∃ i1, i = i1 + 1 := ⟨i - 1, by have := hli (by omega); omega⟩
          by_cases hbg : most - (out.length : Int) < (c : Int)
          · rw [if_pos hbg] at hX
            have hbd : decide (most - (out.length : Int) < (c : Int)) = true := decide_eq_true hbg
            have hbe : most < (c : Int) + (out.length : Int) := by omega
            go_wp2_with fail
            go_ret2
            rw [unhide HU, ← hX]
            exact ⟨_, rfl, StB.none w wi (unhide HS).bel⟩
          · rw [if_neg hbg] at hX
            obtain ⟨g', off', e1, c2⟩ := unhide HC i1 (by omega)
            injection e1 with e1
            injection e1 with e1 e2
            subst e1 e2
            have hlast := unhide HL (by omega)
            rw [show i1 + 1 - 1 = i1 by omega] at hlast
            rw [← hlast] at c2
            clear hlast
            have fw2 : IntKind.i64.wrap (i1 : Int) = (i1 : Int) := by rw [IntKind.wrap_i64]; omega
            have hi1 : (i1 : Int) < (n : Int) := by omega
            have HX2 := hide hX
            have HS1 : Hid (StB w wi (.slice oa out.length oc) (out ++ List.replicate 0 last)) := hide (by simpa using unhide HS)
            clear hX HX HL
            go_wp2_with fail
            go_loopg [6, 10] c (fun gk o kv ws => ∃ k : Nat, gk = c - k ∧ k ≤ c ∧ kv = .int .i64 (k : Int) ∧ Hid (StB w ws o (out ++ List.replicate k last)))
            case atStart => exact ⟨0, by omega, by omega, rfl, HS1⟩
            case round =>
              clear HS1
              obtain ⟨k, rfl, hkc, rfl, HI⟩ := hrel
              rename World => wk
              by_cases hk : k < c
              · have tk : (k : Int) < (c : Int) := by omega
                have d2 : wk.cell? ⟨g, off + i1, none⟩ = some (.int .u8 ((last : Nat) : Int)) := by rw [(unhide HI).bel.cell (cell_lt c2)]; exact c2
                go_wp2_with (at_builtin; refine wp_oneB rfl _ _ rfl _ _ last (by rfl) (by rfl) (unhide HI) (by rw [List.length_append, List.length_replicate]; omega) ?_; intro v3 w3 h3 _ _ _; have H3 := hide h3; clear h3)
                go_roundg (c - (k + 1))
                case measure => omega
                case rel => exact ⟨k + 1, rfl, by omega, by go_num, hide (by rw [List.replicate_succ', ← List.append_assoc]; exact unhide H3)⟩
              · obtain rfl : k = c := by omega
                have tk : ¬ (k : Int) < (k : Int) := by omega
                go_wp2_with fail
                go_roundg (n - (i1 + 1 + 1))
                case measure => omega
                case rel => exact ⟨i1 + 1 + 1, 0, k, out ++ List.replicate k last, rfl, by omega, by omega, rfl, by go_num, HI, HX2, HLN, fun h => by omega, hide ⟨by rw [List.length_append, List.length_replicate]; omega, by rw [List.length_append, List.length_replicate]; omega⟩⟩
        · rw [if_neg h4] at hX
          have e4 : ((like : Int) == 4) = false := by rw [beq_eq_false_iff_ne]; omega
          have e4' : ¬ (like : Int) = 4 := by omega
          by_cases hl0 : 0 < like
          · have l0 : (0 : Int) < (like : Int) := by omega
            obtain ⟨i1, rfl⟩ : ∃ i1, i = i1 + 1 := ⟨i - 1, by have := hli hl0; omega⟩
            obtain ⟨g', off', e1, c2⟩ := unhide HC i1 (by omega)
            injection e1 with e1
            injection e1 with e1 e2
            subst e1 e2
            have hlast := unhide HL (by omega)
            rw [show i1 + 1 - 1 = i1 by omega] at hlast
            rw [← hlast] at c2
            clear hlast
            have d2 : ∀ q, (wi.drewN q).cell? ⟨g, off + i1, none⟩ = some (.int .u8 ((last : Nat) : Int)) := fun q => by
              show wi.cell? _ = _
              rw [(unhide HS).bel.cell (cell_lt c2)]; exact c2
            have fw2 : IntKind.i64.wrap (i1 : Int) = (i1 : Int) := by rw [IntKind.wrap_i64]; omega
            have hi1 : (i1 : Int) < (n : Int) := by omega
            by_cases hcl : c = last
            · rw [show (if 0 < like ∧ c = last then like + 1 else 1) = like + 1 from if_pos ⟨hl0, hcl⟩] at hX
              have f1 : ((c : Int) == (last : Int)) = true := by rw [beq_iff_eq]; omega
              have f2 : (c : Int) = (last : Int) := by omega
              subst hcl
              go_upto_region 17 with fail
              go_quiet (fail)
              have HSQ := hide ((unhide HS).drewN nq)
              have d9 : (wi.drewN nq).cell? ⟨g, off + (i1 + 1), none⟩ = some (.int .u8 ((c : Nat) : Int)) := d1 nq
              obtain ⟨W7, hW7⟩ : ∃ W7, W7 = wi.drewN nq := ⟨_, rfl⟩
              rw [← hW7] at HSQ d9 ⊢
              clear hW7 d1 d2 d0
              by_cases hfull : (out.length : Int) = most
              · rw [if_pos hfull] at hX
                have hfe : ((out.length : Int) == most) = true := by rw [beq_iff_eq]; exact hfull
                go_wp2_with fail
                go_ret2
                rw [unhide HU, ← hX]
                exact ⟨_, rfl, StB.none w _ (unhide HSQ).bel⟩
              · rw [if_neg hfull] at hX
                have hfe : ((out.length : Int) == most) = false := by rw [beq_eq_false_iff_ne]; exact hfull
                have HX2 := hide hX
                clear hX HX HL
                go_wp2_with (at_builtin; refine wp_oneB rfl _ _ rfl _ _ c (by rfl) (by rfl) (unhide HSQ) (by omega) ?_; intro v3 w3 h3 _ _ _; have H3 := hide h3; clear h3)
                go_roundg (n - (i1 + 1 + 1))
                case measure => omega
                case rel => exact ⟨i1 + 1 + 1, like + 1, c, out ++ [c], rfl, by omega, by omega, by go_num, by go_num, H3, HX2, HLN, fun _ => by omega, hide ⟨by rw [List.length_append, List.length_singleton]; omega, by rw [List.length_append, List.length_singleton]; omega⟩⟩
            · rw [show (if 0 < like ∧ c = last then like + 1 else 1) = 1 from if_neg (fun h => hcl h.2)] at hX
              have f1 : ((c : Int) == (last : Int)) = false := by rw [beq_eq_false_iff_ne]; omega
              have f2 : ¬ (c : Int) = (last : Int) := by omega
              go_upto_region 17 with fail
              go_quiet (fail)
              have HSQ := hide ((unhide HS).drewN nq)
              have d9 : (wi.drewN nq).cell? ⟨g, off + (i1 + 1), none⟩ = some (.int .u8 ((c : Nat) : Int)) := d1 nq
              obtain ⟨W7, hW7⟩ : ∃ W7, W7 = wi.drewN nq := ⟨_, rfl⟩
              rw [← hW7] at HSQ d9 ⊢
              clear hW7 d1 d2 d0
              by_cases hfull : (out.length : Int) = most
              · rw [if_pos hfull] at hX
                have hfe : ((out.length : Int) == most) = true := by rw [beq_iff_eq]; exact hfull
                go_wp2_with fail
                go_ret2
                rw [unhide HU, ← hX]
                exact ⟨_, rfl, StB.none w _ (unhide HSQ).bel⟩
              · rw [if_neg hfull] at hX
                have hfe : ((out.length : Int) == most) = false := by rw [beq_eq_false_iff_ne]; exact hfull
                have HX2 := hide hX
                clear hX HX HL
                go_wp2_with (at_builtin; refine wp_oneB rfl _ _ rfl _ _ c (by rfl) (by rfl) (unhide HSQ) (by omega) ?_; intro v3 w3 h3 _ _ _; have H3 := hide h3; clear h3)
                go_roundg (n - (i1 + 1 + 1))
                case measure => omega
                case rel => exact ⟨i1 + 1 + 1, 1, c, out ++ [c], rfl, by omega, by omega, by go_num, by go_num, H3, HX2, HLN, fun _ => by omega, hide ⟨by rw [List.length_append, List.length_singleton]; omega, by rw [List.length_append, List.length_singleton]; omega⟩⟩
          · obtain rfl : like = 0 := by omega
            rw [show (if 0 < 0 ∧ c = last then 0 + 1 else 1) = 1 from if_neg (fun h => absurd h.1 (by omega))] at hX
            go_upto_region 17 with fail
            go_quiet (fail)
            have HSQ := hide ((unhide HS).drewN nq)
            have d9 : (wi.drewN nq).cell? ⟨g, off + i, none⟩ = some (.int .u8 ((c : Nat) : Int)) := d1 nq
            obtain ⟨W7, hW7⟩ : ∃ W7, W7 = wi.drewN nq := ⟨_, rfl⟩
            rw [← hW7] at HSQ d9 ⊢
            clear hW7 d1 d0
            by_cases hfull : (out.length : Int) = most
            · rw [if_pos hfull] at hX
              have hfe : ((out.length : Int) == most) = true := by rw [beq_iff_eq]; exact hfull
              go_wp2_with fail
              go_ret2
              rw [unhide HU, ← hX]
              exact ⟨_, rfl, StB.none w _ (unhide HSQ).bel⟩
            · rw [if_neg hfull] at hX
              have hfe : ((out.length : Int) == most) = false := by rw [beq_eq_false_iff_ne]; exact hfull
              have HX2 := hide hX
              clear hX HX HL
              go_wp2_with (at_builtin; refine wp_oneB rfl _ _ rfl _ _ c (by rfl) (by rfl) (unhide HSQ) (by omega) ?_; intro v3 w3 h3 _ _ _; have H3 := hide h3; clear h3)
              go_roundg (n - (i + 1))
              case measure => omega
              case rel => exact ⟨i + 1, 1, c, out ++ [c], rfl, by omega, by omega, by go_num, by go_num, H3, HX2, HLN, fun _ => by omega, hide ⟨by rw [List.length_append, List.length_singleton]; omega, by rw [List.length_append, List.length_singleton]; omega⟩⟩
      · obtain rfl : i = n := by omega
        have ti : ¬ (i : Int) < (i : Int) := by omega
        have hX := unhide HX
        rw [unhide HN, List.drop_length, unp] at hX
        by_cases h4 : like = 4
        · subst h4
          rw [if_pos rfl] at hX
          go_wp2_with fail
          go_ret2
          rw [unhide HU, ← hX]
          exact ⟨_, rfl, StB.none w wi (unhide HS).bel⟩
        · rw [if_neg h4] at hX
          have e4 : ((like : Int) == 4) = false := by rw [beq_eq_false_iff_ne]; omega
          have e4' : ¬ (like : Int) = 4 := by omega
          go_wp2_with fail
          go_ret2
          rw [unhide HU, ← hX]
          exact ⟨_, rfl, unhide HS⟩
end Go.Proofs.Ytgafabhhalhccaa
