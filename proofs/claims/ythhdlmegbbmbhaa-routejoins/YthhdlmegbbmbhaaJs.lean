/- RouteJoins. -/
import Derived.Test.YthhdlmegbbmbhaaJd
import Derived.Laws.AppendOwnNone
namespace Go.Proofs.Ythhdlmegbbmbhaa
open Go.RowKit Go.Shelf
set_option linter.unusedVariables false

theorem strs_one (xs : List ByteArray) : ∀ u ∈ xs.map Value.string, u.oneCell' = true := by
  intro u hu
  obtain ⟨x, _, rfl⟩ := List.mem_map.1 hu
  rfl

/-- texts that lie anywhere are put behind a new row -/
theorem wp_appL {ops : Array Oper} {rest : List Oper} {o : Oper} {a : Act} {Q : Exit → Act → World → Prop} {w : World} (hgd : o.guard = none) (s x : Operand)
    (ho : o.op = .call { callee := .builtin .append, args := #[s, x], argTypes := #[22, 22] }) (la : Option Addr) (cap : Nat) (xs : List ByteArray) (hs : a.eval s = .slice (some ⟨w.heap.size, 0, none⟩) 0 0) (hx : a.eval x = .slice la xs.length cap)
    (hB : (la = none ∧ cap = 0 ∧ xs = []) ∨ ∃ ad, la = some ad ∧ (0 < xs.length → ∃ b off, ad = ⟨b, off, none⟩ ∧ StrsAt w b off xs ∧ b < w.heap.size)) (hlen : xs.length * 16 ≤ 140737488355328)
    (h : ∀ g c w', g < w'.heap.size → StrsAt w' g 0 xs → xs.length ≤ c → Below w.heap.size w w' → wpList Try.prog ops Q rest (a.put o.dst (.slice (some ⟨g, 0, none⟩) xs.length c)) w') : wpList Try.prog ops Q (o :: rest) a (w.alloc (.cells #[] 9)) := by
  obtain ⟨i0, hi, hz0, hz1, hz2⟩ := info_parts Doc.infoStr
  have hown : (w.alloc (.cells #[] 9)).ownsRow w.heap.size 9 1 (.slice (some ⟨w.heap.size, 0, none⟩) 0 0) 0 [] := ⟨rfl, .inr ⟨w.heap.size, 0, #[], rfl, Nat.le_refl _, World.alloc_heap_new w _, Nat.le_refl _, by unfold maxLen; omega, rfl, rfl⟩⟩
  have hb0 : Below w.heap.size w (w.alloc (.cells #[] 9)) := (Below.refl _ _).alloc (Nat.le_refl _) _
  rcases hB with ⟨rfl, rfl, rfl⟩ | ⟨ad, rfl, hst⟩
  · refine wpList_append_own_none hgd s x 22 ho w.heap.size 9 i0 1 Try.underlying22 hi _ 0 [] hs hown hx ?_
    exact h _ _ _ (by simp) (fun j x hx => by simp at hx) (Nat.le_refl _) hb0
  · refine wpList_append_own_at (w.alloc (.cells #[] 9)) hgd s x 22 ho w.heap.size 9 i0 (.string ⟨#[]⟩) 1 16 Try.underlying22 hi hz0 hz1 hz2 rfl (by decide) _ 0 [] hs hown ad xs.length cap (xs.map Value.string) hx (by simp) (fun j u hj => by
      rw [List.getElem?_map] at hj
      obtain ⟨y, hy, rfl⟩ := Option.map_eq_some_iff.1 hj
      obtain ⟨b, off, rfl, hst, hbl⟩ := hst (by have := (List.getElem?_eq_some_iff.1 hy).1; omega)
      have e := (hst.below hb0 hbl) j y hy
      have e3 : (⟨b, off, none⟩ : Addr).add j = ⟨b, off + j, none⟩ := by
        by_cases hq : j = 0
        · subst hq; simp [Addr.add]
        · simp [Addr.add, hq]
      rw [e3]
      exact e) (strs_one xs) (by unfold maxLen; omega) (by omega) (by simp) ?_
    intro v' w' h2 h3 _ h5
    have h2' : w'.ownsRow w.heap.size 9 1 v' xs.length (xs.map Value.string) := by simpa using h2
    have hb : Below w.heap.size w w' := hb0.grown h3 (by simp) (fun k e => by have e2 : some w.heap.size = some k := e; have := Option.some.inj e2; omega)
    rcases h2'.2 with ⟨e1, _⟩ | ⟨g, c, cur, e1, hbg, hg, hn, hcm, hcs, hct⟩
    · exfalso
      rw [e1] at h5
      rcases h5 with h5 | h5 <;> cases h5
    · subst e1
      refine h g c w' (Array.getElem?_eq_some_iff.1 hg).1 (fun j y hy => ?_) (by simpa using hn) hb
      have hj : j < xs.length := (List.getElem?_eq_some_iff.1 hy).1
      have hcj : cur[j]? = some (.string y) := by
        have h1 := congrArg (·[j]?) hct
        simp only [Nat.mul_one] at h1
        rw [List.getElem?_take_of_lt hj, List.getElem?_map, hy] at h1
        rw [← Array.getElem?_toList, h1]
        rfl
      rw [Nat.zero_add]
      simp [World.cell?, hg, hcj]

set_option maxHeartbeats 4000000 in
theorem joins_law (la : Option Addr) (cap : Nat) (xs : List ByteArray) (w : World) (hB : (la = none ∧ cap = 0 ∧ xs = []) ∨ ∃ ad, la = some ad ∧ (0 < xs.length → ∃ b off, ad = ⟨b, off, none⟩ ∧ StrsAt w b off xs ∧ b < w.heap.size)) (hc : xs.length ≤ cap) (hn : xs.length * 16 ≤ 140737488355328) (hs : ∀ x, x ∈ xs → x.size ≤ 9223372036854775807) :
    Calls Try.prog 5 #[.slice la xs.length cap] w fun e w' => e = .returned (.bool true) ∧ Below w.heap.size w w' := by
  have mixed : Try.prog.follows .mixedOrders = true := by kernel_rfl
  have HB := hide hB
  have HS := hide hs
  clear hB hs
  go_enter Try.func5, Try.ntmps5
  go_wp2_with (at_builtin; go_must (refine wp_appL rfl (.tmp 9) (.tmp 10) rfl la cap xs rfl rfl (unhide HB) hn ?_; intro g c w1 hg hst hgc hb1; have HG := hide hg; have HST := hide hst; have HB1 := hide hb1; have HGC := hide hgc; clear hg hst hb1 hgc))
  refine (join_ok g 0 c xs w1 (unhide HST) (unhide HG) (unhide HGC) (by omega) (unhide HS)).mono ?_
  rintro e w2 ⟨rfl, hb2⟩
  have HB2 := hide ((unhide HB1).trans (hb2.mono (unhide HB1).size))
  have HG2 := hide ((unhide HST).below hb2 (unhide HG))
  have HA2 : Hid (0 < xs.length → ∃ b off, la = some ⟨b, off, none⟩ ∧ StrsAt w2 b off xs ∧ b < w2.heap.size) := hide (fun h0 => by
    rcases unhide HB with ⟨_, _, h⟩ | ⟨ad, e, hst⟩
    · rw [h] at h0; simp at h0
    · obtain ⟨b, off, rfl, hst, hbl⟩ := hst h0
      exact ⟨b, off, e, hst.below (unhide HB2) hbl, Nat.lt_of_lt_of_le hbl (unhide HB2).size⟩)
  have HZ := hide hb2.size
  clear hb2
  obtain ⟨xj, hxj⟩ : ∃ xj, xj = joinS xs := ⟨_, rfl⟩
  obtain ⟨xe, hxe⟩ : ∃ xe, xe = joinE xs := ⟨_, rfl⟩
  rw [← hxj, ← hxe]
  have HD := hide (Doc.join_ok la cap xs w2 (unhide HA2) hc (by omega) (unhide HS))
  rw [← hxj, ← hxe] at HD
  clear hxj hxe
  go_wp2_with fail
  refine (unhide HD).mono ?_
  rintro e w3 ⟨rfl, hb3⟩
  have HB3 := hide ((unhide HB2).trans (hb3.mono (unhide HB2).size))
  have HG3 := hide ((unhide HG2).below hb3 (Nat.lt_of_lt_of_le (unhide HG) (unhide HZ)))
  have HA3 : Hid (0 < xs.length → ∃ b off, la = some ⟨b, off, none⟩ ∧ StrsAt w3 b off xs) := hide (fun h0 => by
    obtain ⟨b, off, e, hst, hbl⟩ := (unhide HA2) h0
    exact ⟨b, off, e, hst.below hb3 hbl⟩)
  clear hb3
  go_wp2_with fail
  go_loopw [8] (fun i wr => ∃ k n : Nat, i = .int .i64 (k : Int) ∧ k ≤ xs.length ∧ wr = w3.drewN n) (fun i _ => ((xs.length : Int) - intOf i).toNat)
  case atStart => exact ⟨0, 0, rfl, Nat.zero_le _, rfl⟩
  case round =>
    obtain ⟨k, n, rfl, hk, rfl⟩ := hrel
    have hc2 := unhide HGC
    by_cases hlt : k < xs.length
    · obtain ⟨b, off, rfl, hst⟩ := (unhide HA3) (by omega)
      have hki : (k : Int) < (xs.length : Int) := by omega
      obtain ⟨x, hx⟩ : ∃ x, x = xs[k] := ⟨_, rfl⟩
      have hxk : xs[k]? = some x := by rw [hx, List.getElem?_eq_getElem hlt]
      have d0 : w3.cell? ⟨b, off + k, none⟩ = some (.string x) := hst k x hxk
      have d1 : w3.cell? ⟨g, k, none⟩ = some (.string x) := by
        have := (unhide HG3) k x hxk
        rwa [Nat.zero_add] at this
      have heq : (x.toList == x.toList) = true := by simp
      clear hx hxk hst
      go_wp2_with fail
      go_region_o
      go_wp2_with fail
      exact ⟨⟨k + 1, n + 1, by simp, by omega, by first | rfl | trivial⟩, by simp [intOf]; omega⟩
    · obtain rfl : k = xs.length := by omega
      have hki : ¬ (xs.length : Int) < (xs.length : Int) := by omega
      have x1 : (xj.toList == xj.toList) = true := by simp
      have x5 : (xe == xe) = true := by simp
      go_wp2_with fail
      refine (consts_ok _).mono ?_
      rintro e w4 ⟨rfl, rfl⟩
      go_wp2_with fail
      go_ret
      exact ⟨rfl, (unhide HB3).trans (below_drewN _ w3 n)⟩

end Go.Proofs.Ythhdlmegbbmbhaa
