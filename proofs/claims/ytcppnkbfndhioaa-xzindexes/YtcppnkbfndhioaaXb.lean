/- Rows that are filled up; records that may be. -/
import Derived.Test.YtcppnkbfndhioaaXa
namespace Go.Proofs.Ytcppnkbfndhioaa
open Go.RowKit
set_option maxRecDepth 100000
set_option linter.unusedVariables false
attribute [local go_sem ↓] Go.wp_at_zero Go.wp_at_succ

theorem filled_ok (w0 : World) (v : Value) (zs : List Nat) (w : World) (hA : StB w0 w v zs) (h0 : 0 < zs.length) (hl : zs.length ≤ 140737488350000) : Calls Try.prog 14 #[v] w fun e w' => ∃ v', e = .returned v' ∧ StB w0 w' v' (fillB zs) := by
  obtain ⟨g, cap, rfl, hcap, _, _⟩ := hA.made h0
  have hk := lack_lt zs.length
  have HK := hide (lacking_ok zs.length w (by omega))
  have HD : Hid (fillB zs = zs ++ List.replicate (lack zs.length) 0) := hide rfl
  have HA := hide hA
  generalize lack zs.length = k at *
  clear hA
  obtain ⟨L, hL⟩ : ∃ L, L = zs.length := ⟨_, rfl⟩
  rw [← hL] at HK hl hcap h0 ⊢
  have HL := hide hL
  clear hL
  go_enter Try.func14, Try.ntmps14
  go_wp2_with (first
    | (go_at_call 26; refine (unhide HK).mono ?_; rintro e w1 ⟨rfl, rfl⟩)
    | (at_builtin; refine wp_zeros rfl (.tmp 3) (.tmp 6) rfl (.slice (some ⟨g, 0, none⟩) L cap) zs k rfl rfl (by rw [unhide HL]; exact unhide HA) (by have := unhide HL; omega) (by have := unhide HL; omega) ?_; intro v' w1 h1 h2; have H1 := hide h1; clear h1 h2))
  go_ret
  exact ⟨_, rfl, by rw [unhide HD]; exact unhide H1⟩

theorem unfit_ok (s t : Int) (w : World) : Calls Try.prog 12 #[.agg #[.int .i64 s, .int .i64 t]] w fun e w' => e = .returned (.bool (!may s t)) ∧ Below w.heap.size w w' := by
  have HB : Hid (Below w.heap.size w (w.alloc (.cells #[.int .i64 s, .int .i64 t] 37))) := hide ((Below.refl _ _).alloc (Nat.le_refl _) _)
  have HM : Hid (may s t = (decide (5 ≤ s) && (decide (s ≤ 1099511627776) && (decide (0 ≤ t) && decide (t ≤ 1099511627776))))) := hide rfl
  generalize may s t = m at *
  by_cases c1 : s < 5
  · obtain rfl : m = false := by rw [unhide HM]; simp; omega
    go_enter Try.func12, Try.ntmps12
    go_wp2_with fail
    go_ret
    exact ⟨rfl, unhide HB⟩
  · by_cases c2 : 1099511627776 < s
    · obtain rfl : m = false := by rw [unhide HM]; simp; omega
      go_enter Try.func12, Try.ntmps12
      go_wp2_with fail
      go_ret
      exact ⟨rfl, unhide HB⟩
    · by_cases c3 : t < 0
      · obtain rfl : m = false := by rw [unhide HM]; simp; omega
        go_enter Try.func12, Try.ntmps12
        go_wp2_with fail
        go_ret
        exact ⟨rfl, unhide HB⟩
      · by_cases c4 : 1099511627776 < t
        · obtain rfl : m = false := by rw [unhide HM]; simp; omega
          go_enter Try.func12, Try.ntmps12
          go_wp2_with fail
          go_ret
          exact ⟨rfl, unhide HB⟩
        · obtain rfl : m = true := by rw [unhide HM]; simp; omega
          go_enter Try.func12, Try.ntmps12
          go_wp2_with fail
          go_ret
          exact ⟨rfl, unhide HB⟩

theorem may_ok (s t : Int) (w : World) : Calls Try.prog 17 #[.agg #[.int .i64 s, .int .i64 t]] w fun e w' => e = .returned (.bool (may s t)) ∧ Below w.heap.size w w' := by
  have HB : Hid (Below w.heap.size w (w.alloc (.cells #[.int .i64 s, .int .i64 t] 38))) := hide ((Below.refl _ _).alloc (Nat.le_refl _) _)
  have HM : Hid (may s t = (decide (5 ≤ s) && (decide (s ≤ 1099511627776) && (decide (0 ≤ t) && decide (t ≤ 1099511627776))))) := hide rfl
  generalize may s t = m at *
  by_cases c1 : 5 ≤ s
  · by_cases c2 : s ≤ 1099511627776
    · by_cases c3 : 0 ≤ t
      · by_cases c4 : t ≤ 1099511627776
        · obtain rfl : m = true := by rw [unhide HM]; simp; omega
          go_enter Try.func17, Try.ntmps17
          go_wp2_with fail
          go_ret
          exact ⟨rfl, unhide HB⟩
        · obtain rfl : m = false := by rw [unhide HM]; simp; omega
          go_enter Try.func17, Try.ntmps17
          go_wp2_with fail
          go_ret
          exact ⟨rfl, unhide HB⟩
      · obtain rfl : m = false := by rw [unhide HM]; simp; omega
        go_enter Try.func17, Try.ntmps17
        go_wp2_with fail
        go_ret
        exact ⟨rfl, unhide HB⟩
    · obtain rfl : m = false := by rw [unhide HM]; simp; omega
      go_enter Try.func17, Try.ntmps17
      go_wp2_with fail
      go_ret
      exact ⟨rfl, unhide HB⟩
  · obtain rfl : m = false := by rw [unhide HM]; simp; omega
    go_enter Try.func17, Try.ntmps17
    go_wp2_with fail
    go_ret
    exact ⟨rfl, unhide HB⟩

/-- one byte of one's own put behind a row of one's own -/
theorem wp_oneB {ops : Array Oper} {rest : List Oper} {o : Oper} {a : Act} {Q : Exit → Act → World → Prop} {w0 ws : World} (hgd : o.guard = none) (s x : Operand)
    (ho : o.op = .call { callee := .builtin .append, args := #[s, x], argTypes := #[23, 23] }) (va : Value) (xs : List Nat) (X : Nat) (hs : a.eval s = va) (hx : a.eval x = .slice (some ⟨ws.heap.size, 0, none⟩) 1 1)
    (hA : StB w0 ws va xs) (hlen : xs.length + 1 ≤ 140737488355328)
    (h : ∀ v' w', StB w0 w' v' (xs ++ [X]) → wpList Try.prog ops Q rest (a.put o.dst v') w') : wpList Try.prog ops Q (o :: rest) a (ws.alloc (.cells #[bv X] 5)) := by
  obtain ⟨i0, hi, hz0, hz1, hz2⟩ := info_parts info5
  refine wpList_append_own_at (ws.alloc (.cells #[bv X] 5)) hgd s x 23 ho w0.heap.size 5 i0 (.int .u8 0) 1 1 Try.underlying23 hi hz0 hz1 hz2 rfl (by decide) va xs.length (xs.map bv) hs (hA.own.alloc _) ⟨ws.heap.size, 0, none⟩ 1 1 [bv X] hx rfl ?_ (by intro u hu; rw [List.mem_singleton] at hu; subst hu; rfl) (by unfold maxLen; omega) (by omega) (by have := hA.bel.size; simp; omega) ?_
  · intro j u hj
    cases j with
    | zero =>
      have e : (⟨ws.heap.size, 0, none⟩ : Addr).add 0 = ⟨ws.heap.size, 0, none⟩ := by simp [Addr.add]
      rw [e]
      simp only [World.cell?, heap_alloc_new]
      simpa using hj
    | succ j => simp at hj
  · intro v' w' h2 h3 _ h5
    exact h v' w' ⟨by rw [List.length_append, List.map_append]; exact h2, (hA.bel.alloc hA.bel.size _).grown h3 (by have := hA.bel.size; simp; omega) (fun k e => (hA.own.lt k e).1)⟩

theorem fill_step (n : Nat) : n % 4 ≠ 0 → lack n = lack (n + 1) + 1 := by unfold lack; omega
theorem fill_stop (n : Nat) : n % 4 = 0 → lack n = 0 := by unfold lack; omega

/-- the document's way of filling up -/
theorem refFilled_ok (w0 : World) (v : Value) (zs : List Nat) (w : World) (hA : StB w0 w v zs) (h0 : 0 < zs.length) (hl : zs.length ≤ 140737488350000) : Calls Try.prog 18 #[v] w fun e w' => ∃ v', e = .returned v' ∧ StB w0 w' v' (fillB zs) := by
  have hk := lack_lt zs.length
  have HD : Hid (fillB zs = zs ++ List.replicate (lack zs.length) 0) := hide rfl
  have HA := hide hA
  obtain ⟨L, hL⟩ : ∃ L, L = zs.length := ⟨_, rfl⟩
  rw [← hL] at hl h0 hk HD
  have HL := hide hL
  clear hA hL
  go_enter Try.func18, Try.ntmps18
  go_wp2_with fail
  go_loopg [0] (lack L) (fun gk b ws => ∃ (i : Nat) (vb : Value), gk = lack (L + i) ∧ b = vb ∧ lack L = lack (L + i) + i ∧ Hid (StB w0 ws vb (zs ++ List.replicate i 0)))
  case atStart => exact ⟨0, _, by rw [Nat.add_zero], rfl, rfl, hide (by simpa using unhide HA)⟩
  case round =>
    obtain ⟨i, vb, rfl, rfl, hlk, HS⟩ := hrel
    have hlen : (zs ++ List.replicate i 0).length = L + i := by simp [unhide HL]
    obtain ⟨g, cap, rfl, hcap, _, _⟩ := (unhide HS).made (by omega)
    rw [hlen] at hcap HS ⊢
    have hi4 : i < 4 := by omega
    have hm : Int.tmod ((L : Int) + (i : Int)) 4 = (((L + i) % 4 : Nat) : Int) := rfl
    by_cases hq : (L + i) % 4 = 0
    · have hq' : ((((L + i) % 4 : Nat) : Int) != 0) = false := by simp [hq]
      have hz := fill_stop _ hq
      obtain rfl : i = lack L := by omega
      clear hq hlk
      generalize (L + lack L) % 4 = q at *
      go_wp2_with fail
      go_ret
      exact ⟨_, rfl, by rw [unhide HD]; exact unhide HS⟩
    · have hq' : ((((L + i) % 4 : Nat) : Int) != 0) = true := by simp; omega
      have hz := fill_step _ hq
      have HZ : Hid (lack (L + i) = lack (L + (i + 1)) + 1) := hide hz
      have HK := hide hlk
      have HR : Hid (zs ++ List.replicate (i + 1) 0 = (zs ++ List.replicate i 0) ++ [0]) := hide (by rw [List.replicate_succ', List.append_assoc])
      have HLN := hide hlen
      clear hq hlk hz hlen
      generalize (L + i) % 4 = q at *
      go_wp2_with (at_builtin; refine wp_oneB rfl (.tmp 7) (.tmp 8) rfl (.slice (some ⟨g, 0, none⟩) (L + i) cap) (zs ++ List.replicate i 0) 0 rfl rfl (unhide HS) (by rw [unhide HLN]; omega) ?_; intro v' w1 h1; have H1 := hide h1; clear h1)
      go_roundg (lack (L + (i + 1)))
      case measure => have := unhide HZ; omega
      case rel => exact ⟨i + 1, _, rfl, rfl, by have := unhide HK; have := unhide HZ; omega, by rw [unhide HR]; exact H1⟩
end Go.Proofs.Ytcppnkbfndhioaa
