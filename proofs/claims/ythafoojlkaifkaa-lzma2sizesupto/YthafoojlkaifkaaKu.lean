/- The law Lzma2Sizes, walked. -/
import Derived.Test.YthafoojlkaifkaaKt
namespace Go.Proofs.Ythafoojlkaifkaa.K
open Go.RowKit H
set_option maxRecDepth 100000
set_option linter.unusedVariables false
attribute [local go_sem ↓] Go.wp_at_zero Go.wp_at_succ

theorem bytes_one (b : List Nat) : ∀ u ∈ b.map bv, u.oneCell' = true := by
  intro u hu
  obtain ⟨y, _, rfl⟩ := List.mem_map.1 hu
  rfl

theorem wp_catB {ops : Array Oper} {rest : List Oper} {o : Oper} {a : Act} {Q : Exit → Act → World → Prop} {ws : World} (hgd : o.guard = none) (s x : Operand)
    (ho : o.op = .call { callee := .builtin .append, args := #[s, x], argTypes := #[22, 22] }) (b : List Nat) (a0 : Option Addr) (n cap : Nat) (hs : a.eval s = .slice (some ⟨ws.heap.size, 0, none⟩) 0 0) (hx : a.eval x = .slice a0 n cap) (hn : b.length = n)
    (hsrc : (a0 = none ∧ cap = 0 ∧ b = []) ∨ ∃ ad, a0 = some ad ∧ ∀ (j : Nat) u, (b.map bv)[j]? = some u → ws.cell? (ad.add j) = some u) (hlen : b.length ≤ 1048576)
    (h : ∀ v' w', w'.ownsRow ws.heap.size 5 1 v' b.length (b.map bv) → Below ws.heap.size ws w' → wpList Try.prog ops Q rest (a.put o.dst v') w') : wpList Try.prog ops Q (o :: rest) a (ws.alloc (.cells #[] 5)) := by
  obtain ⟨i0, hi, hz0, hz1, hz2⟩ := info_parts info5
  have hbel : Below ws.heap.size ws (ws.alloc (.cells #[] 5)) := (Below.refl _ _).alloc (Nat.le_refl _) _
  have hown := World.ownsRow_made (base := ws.heap.size) (e := 5) (size := 1) ws #[] 0 (Nat.le_refl _) (by unfold maxLen; omega) rfl
  rcases hsrc with ⟨rfl, rfl, rfl⟩ | ⟨ad, rfl, hc⟩
  · simp at hn
    subst hn
    exact wpList_append_own_none hgd s x 22 ho ws.heap.size 5 i0 1 Try.underlying22 hi _ 0 [] hs hown hx (h _ _ hown hbel)
  · refine wpList_append_own_at (ws.alloc (.cells #[] 5)) hgd s x 22 ho ws.heap.size 5 i0 (.int .u8 0) 1 1 Try.underlying22 hi hz0 hz1 hz2 rfl (by decide) _ 0 [] hs hown ad n cap (b.map bv) hx (by rw [List.length_map]; omega) (fun j u hj => cell_stays hbel (hc j u hj)) (bytes_one b) (by unfold maxLen; omega) (by omega) hbel.size ?_
    intro v' w' h2 h3 _ _
    exact h v' w' (by rw [hn]; simpa using h2) (hbel.grown h3 hbel.size (fun k e => by have := Option.some.inj e; subst this; exact Nat.le_refl _))

/-- an own row of bytes, as Sizes takes it -/
theorem own_read {w : World} {B : Nat} {v : Value} {zs : List Nat} (h : w.ownsRow B 5 1 v zs.length (zs.map bv)) : ∃ a c, v = .slice a zs.length c ∧ zs.length ≤ c ∧ Reads w (.slice a zs.length c) zs ∧ ∀ ad, a = some ad → 0 < zs.length → ∃ cur, w.heap[ad.block]? = some (.cells cur 5 (0, 0)) := by
  rcases h.2 with ⟨e1, e2⟩ | ⟨g, cap, cur, e1, hb, hh, hc, _⟩
  · exact ⟨none, 0, by rw [e1, e2], by omega, ⟨none, 0, rfl, fun h0 => by omega⟩, fun ad e => by cases e⟩
  · exact ⟨_, cap, e1, hc, ⟨_, cap, rfl, fun _ => ⟨_, rfl, h.cells (by rw [e1]; rfl)⟩⟩, fun ad e _ => by injection e with e; subst e; exact ⟨cur, hh⟩⟩

theorem RI.cells {B : Nat} {w : World} {v : Value} {ns : List Nat} (h : RI B w v (ns.map fun n : Nat => iv (n : Int))) : ∃ a c, v = .slice a ns.length c ∧ ns.length ≤ 9223372036854775807 ∧ (0 < ns.length → ∃ g, a = some ⟨g, 0, none⟩ ∧ ∀ j, j < ns.length → w.cell? ⟨g, j, none⟩ = some (.int .i64 (ns.getD j 0 : Int))) := by
  rcases h.own.2 with ⟨e1, e2⟩ | ⟨g, cap, cur, e1, hb, hh, hc, hm, hsz, ht⟩
  · rw [List.length_map] at e2
    exact ⟨none, 0, by rw [e1, e2], by omega, fun h0 => by omega⟩
  · refine ⟨_, cap, by rw [e1, List.length_map], by rw [List.length_map] at hc; unfold maxLen at hm; omega, fun h0 => ⟨g, rfl, fun j hj => ?_⟩⟩
    have h1 : (cur.toList.take ((ns.map fun n : Nat => iv (n : Int)).length * 1))[j]? = (ns.map fun n : Nat => iv (n : Int))[j]? := by rw [ht]
    rw [List.getElem?_take_of_lt (by simpa using hj), Array.getElem?_toList] at h1
    simp only [World.cell?, hh]
    rw [h1]
    simp [iv, List.getD_eq_getElem?_getD, hj]

theorem names_ok (w : World) : Calls Try.prog 6 #[] w fun e w' => e = .returned (.bool true) ∧ w' = w := by
  go_enter Try.func6, Try.ntmps6
  go_wp2_with fail
  go_ret
  exact ⟨rfl, rfl⟩

def LawIs (w : World) (e : Ending) (w' : World) : Prop := e = .returned (.bool true) ∧ Below w.heap.size w w'

set_option maxHeartbeats 2000000 in
theorem sizes_law (a0 : Option Addr) (cap : Nat) (zs : List Nat) (w : World) (hsrc : (a0 = none ∧ cap = 0 ∧ zs = []) ∨ ∃ ad, a0 = some ad ∧ ∀ (j : Nat) u, (zs.map bv)[j]? = some u → w.cell? (ad.add j) = some u) (hsm : ∀ z ∈ zs, z < 256) (hn : zs.length ≤ 1048576) (hcap : zs.length ≤ cap) :
    Calls Try.prog 3 #[.slice a0 zs.length cap] w (LawIs w) := by
  have HSRC := hide hsrc
  have HSM := hide hsm
  have HN := hide hn
  have HCAP := hide hcap
  have HF : Hid (∀ x, Below w.heap.size w x → LawIs w (.returned (.bool true)) x) := hide fun x hx => ⟨rfl, hx⟩
  generalize LawIs w = POST at HF ⊢
  clear hsrc hsm hn hcap
  go_enter Try.func3, Try.ntmps3
  go_wp2_with (at_builtin; refine wp_catB rfl (.tmp 9) (.tmp 10) rfl zs a0 zs.length cap (by simp [go_sem]) (by simp [go_sem]) rfl (unhide HSRC) (unhide HN) ?_; intro v2 w2 h2 h3; obtain ⟨a2, c2, e2, hc2, hr2, hb2⟩ := own_read h2; subst e2; have H2 := hide (sizes_ok hr2 hc2 (by have := unhide HN; omega) (unhide HSM) hb2); have HB2 := hide h3; clear h2 h3 hc2 hr2 hb2)
  refine (unhide H2).mono ?_
  rintro e w3 ⟨⟨lv, B, rfl, hB, hri⟩, hb3⟩
  have hbk : BK w a0 cap zs := ⟨reads_of (unhide HSRC), unhide HCAP, by have := unhide HN; omega, unhide HSM⟩
  have hb13 : Below w.heap.size w w3 := (unhide HB2).trans (hb3.mono (unhide HB2).size)
  have H3 := hide (rsizes_ok (hbk.below hb13))
  have HR1 := hide hri
  have HB3 := hide hb13
  clear hri hb3 hbk hb13 H2 hB
  go_wp2_with fail
  refine (unhide H3).mono ?_
  rintro e w4 ⟨⟨lv2, B2, rfl, hB2, hri2⟩, hb4⟩
  have hri1 := (unhide HR1).below hb4
  have HB4 := hide ((unhide HB3).trans (hb4.mono (unhide HB3).size))
  obtain ⟨R1, hR1⟩ : ∃ R1, R1 = (szR zs).1 := ⟨_, rfl⟩
  obtain ⟨ns, hns⟩ : ∃ ns, ns = (szR zs).2 := ⟨_, rfl⟩
  rw [← hns] at hri1 hri2
  rw [← hR1]
  obtain ⟨x1, y1, rfl, hN1, hc1⟩ := hri1.cells
  obtain ⟨x2, y2, rfl, _, hc2⟩ := hri2.cells
  have HC1 := hide hc1
  have HC2 := hide hc2
  clear hri1 hri2 hb4 hR1 hns HR1 H3 hc1 hc2 hB2
  generalize ns.length = N at *
  go_wp2_with fail
  go_loopg [7] N (fun gk iv ws => ∃ (i q : Nat), iv = .int .i64 (i : Int) ∧ gk = N - i ∧ i ≤ N ∧ ws = w4.drewN q)
  case atStart => exact ⟨0, 0, rfl, by omega, by omega, rfl⟩
  case round =>
    obtain ⟨i, q, rfl, rfl, hi, rfl⟩ := hrel
    by_cases hlt : i < N
    · have t1 : (i : Int) < (N : Int) := by omega
      obtain ⟨g1, rfl, k1⟩ := unhide HC1 (by omega)
      obtain ⟨g2, rfl, k2⟩ := unhide HC2 (by omega)
      have f1 : wrap64 ((i : Int) + 1) = ((i + 1 : Nat) : Int) := by unfold wrap64; omega
      have e1 := k1 i hlt
      have e2 := k2 i hlt
      generalize ns.getD i 0 = V at *
      clear k1 k2 HC1 HC2
      go_wp2_with fail
      go_quiet (fail)
      go_wp2_with fail
      go_roundg (N - (i + 1))
      case measure => omega
      case rel => exact ⟨i + 1, q + nq, rfl, rfl, by omega, by first | rfl | exact World.drewN_drewN _ _ _⟩
    · obtain rfl : i = N := by omega
      have HFF := hide (unhide HF (w4.drewN q) (⟨(unhide HB4).os, (unhide HB4).tape, (unhide HB4).output, (unhide HB4).size, (unhide HB4).block⟩))
      clear HC1 HC2
      go_wp2_with fail
      refine (names_ok _).mono ?_
      rintro e w5 ⟨rfl, rfl⟩
      go_wp2_with fail
      first
      | exact unhide HFF
      | (go_ret; exact unhide HFF)
end Go.Proofs.Ythafoojlkaifkaa.K
