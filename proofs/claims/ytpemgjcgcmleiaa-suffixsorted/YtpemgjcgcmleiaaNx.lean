/- Next: a column's places by their bytes. -/
import Derived.Test.YtpemgjcgcmleiaaLe
import Derived.Laws.AppendOwnNone
import Derived.Deep.WholeRow
import Derived.Laws.CopyOwn
import Derived.Maps.AppendAt
namespace Go.Proofs.Ytpemgjcgcmleiaa
open Go.RowKit Suf
set_option maxRecDepth 100000
set_option linter.unusedVariables false

def iv (z : Int) : Value := .int .i64 z
theorem info3' : (Try.prog.info? 3).map (fun i => (i.zero, i.size, i.bytes)) = some (some (.int .i64 0), 1, 8) := by kernel_rfl

theorem cell_lt {w : World} {p : Addr} {u : Value} (h : w.cell? p = some u) : p.block < w.heap.size := by
  rcases Nat.lt_or_ge p.block w.heap.size with h' | h'
  · exact h'
  · simp [World.cell?, Array.getElem?_eq_none h'] at h

structure St (w0 w : World) (v : Value) (xs : List Value) : Prop where
  own : w.ownsRow w0.heap.size 3 1 v xs.length xs
  bel : Below w0.heap.size w0 w

theorem St.nil (w : World) : St w w (.slice none 0 0) [] := ⟨World.ownsRow_nil _ _ _ _, Below.refl _ _⟩

theorem wp_one {ops : Array Oper} {rest : List Oper} {o : Oper} {a : Act} {Q : Exit → Act → World → Prop} {w0 ws : World} (hgd : o.guard = none) (s x : Operand)
    (ho : o.op = .call { callee := .builtin .append, args := #[s, x], argTypes := #[28, 28] }) (va : Value) (xs : List Value) (X : Int) (hs : a.eval s = va) (hx : a.eval x = .slice (some ⟨ws.heap.size, 0, none⟩) 1 1)
    (hA : St w0 ws va xs) (hlen : (xs.length + 1) * 8 ≤ 140737488355328)
    (h : ∀ v' w', St w0 w' v' (xs ++ [iv X]) → wpList Try.prog ops Q rest (a.put o.dst v') w') : wpList Try.prog ops Q (o :: rest) a (ws.alloc (.cells #[iv X] 3)) := by
  obtain ⟨i0, hi, hz0, hz1, hz2⟩ := info_parts info3'
  refine wpList_append_own_at (ws.alloc (.cells #[iv X] 3)) hgd s x 28 ho w0.heap.size 3 i0 (.int .i64 0) 1 8 Try.underlying28 hi hz0 hz1 hz2 rfl (by decide) va xs.length xs hs (hA.own.alloc _) ⟨ws.heap.size, 0, none⟩ 1 1 [iv X] hx rfl ?_ (by intro u hu; rw [List.mem_singleton] at hu; subst hu; rfl) (by unfold maxLen; omega) hlen (by have := hA.bel.size; simp; omega) ?_
  · intro j u hj
    cases j with
    | zero =>
      have e : (⟨ws.heap.size, 0, none⟩ : Addr).add 0 = ⟨ws.heap.size, 0, none⟩ := by simp [Addr.add]
      rw [e]
      simp only [World.cell?, heap_alloc_new]
      simpa using hj
    | succ j => simp at hj
  · intro v' w' h2 h3 _ h5
    exact h v' w' ⟨by rw [List.length_append]; exact h2, (hA.bel.alloc hA.bel.size _).grown h3 (by have := hA.bel.size; simp; omega) (fun k e => (hA.own.lt k e).1)⟩

/-- the places of a byte, ahead of a place -/
def spotsTo (c : List Nat) (v i : Nat) : List Nat := (List.range i).filter fun j => c.getD j 0 == v

theorem spotsTo_succ (c : List Nat) (v i : Nat) : spotsTo c v (i + 1) = if c.getD i 0 = v then spotsTo c v i ++ [i] else spotsTo c v i := by
  unfold spotsTo
  rw [List.range_succ, List.filter_append]
  by_cases h : c.getD i 0 = v
  · rw [if_pos h, List.filter_cons, if_pos (by simpa using h), List.filter_nil]
  · rw [if_neg h, List.filter_cons, if_neg (by simpa using h), List.filter_nil, List.append_nil]

theorem spotsTo_le (c : List Nat) (v i : Nat) : (spotsTo c v i).length ≤ i := by
  unfold spotsTo
  have := List.length_filter_le (fun j => c.getD j 0 == v) (List.range i)
  rwa [List.length_range] at this

theorem nextF_le (c : List Nat) : ∀ k, (nextF c k).length ≤ k * c.length
  | 0 => by simp [nextF]
  | k + 1 => by
    have := nextF_le c k
    have h2 := spotsTo_le c k c.length
    rw [nextF_succ, List.length_append, Nat.add_mul, Nat.one_mul]
    have : spots c k = spotsTo c k c.length := rfl
    rw [this]
    omega

set_option maxHeartbeats 4000000 in
theorem next_ok (b : List Nat) (a0 : Option Addr) (cap : Nat) (w : World) (hc : ∀ j, j < b.length → ∃ g off, a0 = some ⟨g, off, none⟩ ∧ w.cell? ⟨g, off + j, none⟩ = some (.int .u8 ((b.getD j 0 : Nat) : Int))) (hb : ∀ z ∈ b, z < 256) (hn : b.length ≤ 1048576) :
    Calls Try.prog 17 #[.slice a0 b.length cap] w fun e w' => ∃ v, e = .returned (.tuple #[v, .int .i64 0]) ∧ St w w' v ((nextF b 256).map fun i : Nat => iv (i : Int)) := by
  have HC := hide hc
  obtain ⟨n, hN⟩ : ∃ n, n = b.length := ⟨_, rfl⟩
  have HN := hide hN
  rw [← hN] at hn ⊢
  have hd : ¬ 1048576 < (n : Int) := by omega
  have hd2 : decide (1048576 < (n : Int)) = false := by simp; omega
  clear hN hc
  go_enter Try.func17, Try.ntmps17
  go_wp2_with fail
  clear hd hd2
  go_loopg [4, 5] 256 (fun gk o c ws => ∃ v : Nat, gk = 256 - v ∧ v ≤ 256 ∧ c = .int .i64 (v : Int) ∧ Hid (St w ws o ((nextF b v).map fun i : Nat => iv (i : Int))))
  case atStart => exact ⟨0, by omega, by omega, rfl, hide (by simpa [nextF] using St.nil w)⟩
  case round =>
    obtain ⟨v, rfl, hv, rfl, HS⟩ := hrel
    rename World => wo
    by_cases hlt : v < 256
    · have tl : (v : Int) < 256 := by omega
      go_wp2_with fail
      go_loopg [4, 6] n (fun gk o c ws => ∃ i : Nat, gk = n - i ∧ i ≤ n ∧ c = .int .i64 (i : Int) ∧ Hid (St w ws o ((nextF b v ++ spotsTo b v i).map fun i : Nat => iv (i : Int))))
      case atStart => exact ⟨0, by omega, by omega, rfl, hide (by rw [show spotsTo b v 0 = [] from rfl, List.append_nil]; exact unhide HS)⟩
      case round =>
        obtain ⟨i, rfl, hin, rfl, HI⟩ := hrel
        rename World => wi
        have HLN : Hid ((nextF b v ++ spotsTo b v i).length ≤ 300000000) := hide (by
          have q1 := nextF_le b v
          have q2 := spotsTo_le b v i
          rw [← unhide HN] at q1
          have q3 : v * n ≤ 256 * 1048576 := Nat.mul_le_mul (by omega) hn
          rw [List.length_append]
          omega)
        by_cases hil : i < n
        · have ti : (i : Int) < (n : Int) := by omega
          obtain ⟨g, off, rfl, hcell⟩ := unhide HC i (by rw [← unhide HN]; exact hil)
          have c1 : wi.cell? ⟨g, off + i, none⟩ = some (.int .u8 ((b.getD i 0 : Nat) : Int)) := by
            rw [(unhide HI).bel.cell (cell_lt hcell)]; exact hcell
          have hx256 : b.getD i 0 < 256 := hb _ (getD_mem (by rw [← unhide HN]; exact hil))
          have HSP := hide (spotsTo_succ b v i)
          generalize b.getD i 0 = x at *
          clear hcell
          by_cases hx : x = v
          · subst hx
            rw [if_pos rfl] at HSP
            go_wp2_with (at_builtin; refine wp_one rfl _ _ rfl _ _ (i : Int) (by rfl) (by rfl) (unhide HI) (by have := unhide HLN; rw [List.length_map]; omega) ?_; intro v3 w3 h3; have H3 := hide h3; clear h3)
            go_roundg (n - (i + 1))
            case measure => omega
            case rel => exact ⟨i + 1, rfl, by omega, by go_num, hide (by rw [unhide HSP, ← List.append_assoc, List.map_append]; exact unhide H3)⟩
          · rw [if_neg hx] at HSP
            have f1 : ((x : Int) == (v : Int)) = false := by rw [beq_eq_false_iff_ne]; omega
            have f2 : ¬ (x : Int) = (v : Int) := by omega
            go_wp2_with fail
            go_roundg (n - (i + 1))
            case measure => omega
            case rel => exact ⟨i + 1, rfl, by omega, by go_num, hide (by rw [unhide HSP]; exact unhide HI)⟩
        · obtain rfl : i = n := by omega
          have ti : ¬ (i : Int) < (i : Int) := by omega
          go_wp2_with fail
          go_roundg (256 - (v + 1))
          case measure => omega
          case rel => exact ⟨v + 1, rfl, by omega, by go_num, hide (by rw [nextF_succ, show spots b v = spotsTo b v i by rw [unhide HN]; rfl]; exact unhide HI)⟩
    · obtain rfl : v = 256 := by omega
      go_wp2_with fail
      go_ret2
      exact ⟨_, rfl, unhide HS⟩

end Go.Proofs.Ytpemgjcgcmleiaa
