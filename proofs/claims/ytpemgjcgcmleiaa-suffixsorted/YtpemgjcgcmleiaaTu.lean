/- Turn: the column and the row. -/
import Derived.Test.YtpemgjcgcmleiaaRo
namespace Go.Proofs.Ytpemgjcgcmleiaa
open Go.RowKit Suf
set_option maxRecDepth 100000
set_option linter.unusedVariables false

/-- the last row so far whose place is 0 -/
def rowTo (l : List Nat) : Nat → Nat
  | 0 => 0
  | i + 1 => if l.getD i 0 = 0 then i else rowTo l i

theorem rowTo_is {l : List Nat} {r : Nat} (h0 : l.getD r 0 = 0) (h1 : ∀ q, q < l.length → l.getD q 0 = 0 → q = r) : ∀ i, i ≤ l.length → r < i → rowTo l i = r
  | 0, _, h => by omega
  | i + 1, hi, h => by
    rw [rowTo]
    by_cases e : l.getD i 0 = 0
    · rw [if_pos e]; exact h1 i (by omega) e
    · rw [if_neg e]
      refine rowTo_is h0 h1 i (by omega) ?_
      rcases Nat.lt_or_ge r i with h2 | h2
      · exact h2
      · obtain rfl : r = i := by omega
        exact absurd h0 e

theorem rowTo_le (l : List Nat) : ∀ i, rowTo l i ≤ i
  | 0 => Nat.le_refl _
  | i + 1 => by
    rw [rowTo]
    split
    · omega
    · have := rowTo_le l i; omega

theorem col_snoc (b l : List Nat) (i : Nat) (h : i < l.length) : col b (l.take (i + 1)) = col b (l.take i) ++ [b.getD (prev b.length (l.getD i 0)) 0] := by
  have e : l.take (i + 1) = l.take i ++ [l.getD i 0] := by
    rw [List.take_add_one, List.getElem?_eq_getElem h, List.getD_eq_getElem?_getD, List.getElem?_eq_getElem h]; rfl
  rw [e]
  unfold col
  rw [List.map_append, List.map_singleton]

set_option maxHeartbeats 4000000 in
theorem turn_ok (b : List Nat) (g off cap : Nat) (w : World) (hc : ∀ j, j < b.length → w.cell? ⟨g, off + j, none⟩ = some (.int .u8 ((b.getD j 0 : Nat) : Int))) (hb : ∀ z ∈ b, z < 256) (hn : b.length ≤ 1048576) :
    Calls Try.prog 8 #[.slice (some ⟨g, off, none⟩) b.length cap] w fun e w' => ∃ v l, IsRows b l ∧ e = .returned (.tuple #[v, .int .i64 ((rowTo l b.length : Nat) : Int), .int .i64 0]) ∧ StB w w' v (col b l) := by
  have HRO := rows_ok b g off cap w hc hb hn
  have HC := hide hc
  obtain ⟨n, hN⟩ : ∃ n, n = b.length := ⟨_, rfl⟩
  have HN := hide hN
  rw [← hN] at hn HRO ⊢
  have HRO := hide HRO
  clear hN hc
  go_enter Try.func8, Try.ntmps8
  go_wp2_with fail
  refine (unhide HRO).mono ?_
  rintro e w1 ⟨v1, l, rfl, hl, h1⟩
  obtain ⟨xa, xc, rfl, hxc, hcell⟩ := st_cells h1
  have hlen : l.length = n := by rw [hl.len, unhide HN]
  rw [hlen] at hcell hxc ⊢
  have HCL := hide hcell
  have HS1 := hide h1
  have HLR := hide hl
  have HLN := hide hlen
  clear h1 hcell hlen hl HRO
  go_wp2_with fail
  go_loopg [7, 8, 9] n (fun gk o rv c ws => ∃ i : Nat, gk = n - i ∧ i ≤ n ∧ rv = .int .i64 ((rowTo l i : Nat) : Int) ∧ c = .int .i64 (i : Int) ∧ Hid (StB w1 ws o (col b (l.take i))))
  case atStart => exact ⟨0, by omega, by omega, rfl, rfl, hide (by rw [List.take_zero]; exact StB.nil w1)⟩
  case round =>
    obtain ⟨i, rfl, hin, rfl, rfl, HI⟩ := hrel
    rename World => wi
    by_cases hil : i < n
    · have ti : (i : Int) < (n : Int) := by omega
      obtain ⟨gx, rfl, _, _, c1⟩ := unhide HCL i hil
      have hlt : l.getD i 0 < n := by rw [unhide HN]; exact (unhide HLR).lt (getD_mem (by rw [unhide HLN]; exact hil))
      have HSN := hide (col_snoc b l i (by rw [unhide HLN]; exact hil))
      have HRT : Hid (rowTo l (i + 1) = if l.getD i 0 = 0 then i else rowTo l i) := hide rfl
      have hrl := rowTo_le l i
      have hcl : (col b (l.take i)).length = i := by unfold col; rw [List.length_map, List.length_take, unhide HLN]; omega
      have HCLN := hide hcl
      generalize hX : l.getD i 0 = x at *
      obtain ⟨p, hp⟩ : ∃ p, p = prev n x := ⟨_, rfl⟩
      have hpn : p < n := by rw [hp]; exact prev_lt hlt
      have t1 : ((x : Int) + (n : Int) - 1).tmod (n : Int) = (p : Int) := by
        rw [hp, show (x : Int) + (n : Int) - 1 = ((x + n - 1 : Nat) : Int) by omega]; exact tmod_nat _ _
      have d1 := c1
      rw [← (unhide HI).bel.cell (cell_lt c1)] at d1
      have c2 := unhide HC p (by rw [← unhide HN]; exact hpn)
      have d2 := c2
      rw [← (unhide HS1).bel.cell (cell_lt c2)] at d2
      rw [← (unhide HI).bel.cell (cell_lt d2)] at d2
      rw [← unhide HN, ← hp] at HSN
      have hpi : (p : Int) < (n : Int) := by omega
      have hn0 : ¬ (n : Int) = 0 := by omega
      have hn1 : ((n : Int) == 0) = false := by simp; omega
      generalize rowTo l i = rt at *
      clear hX hp c1 c2 hcl
      by_cases hx0 : x = 0
      · subst hx0
        rw [if_pos rfl] at HRT
        have t1b : ((n : Int) - 1).tmod (n : Int) = (p : Int) := by rw [← t1]; congr 1; omega
        go_wp2_with (at_builtin; refine wp_oneB rfl _ _ rfl _ _ (b.getD p 0) (by rfl) (by rfl) (unhide HI) (by rw [unhide HCLN]; omega) ?_; intro v3 w3 h3 k3 k4 k5; have H3 := hide h3; have d3 : w3.cell? ⟨gx, i, none⟩ = some (.int .i64 ((0 : Nat) : Int)) := (by (have q := unhide HCL i hil; obtain ⟨g', e', _, _, q⟩ := q; injection e' with e'; injection e' with e'; subst e'; rw [h3.bel.cell (cell_lt q)]; rw [← d1, (unhide HI).bel.cell (cell_lt q)])); clear h3 k3 k4 k5)
        go_roundg (n - (i + 1))
        case measure => omega
        case rel => exact ⟨i + 1, rfl, by omega, by rw [unhide HRT], by go_num, hide (by rw [unhide HSN]; exact unhide H3)⟩
      · rw [if_neg hx0] at HRT
        have f1 : ((x : Int) == 0) = false := by simp; omega
        have f2 : ¬ (x : Int) = 0 := by omega
        go_wp2_with (at_builtin; refine wp_oneB rfl _ _ rfl _ _ (b.getD p 0) (by rfl) (by rfl) (unhide HI) (by rw [unhide HCLN]; omega) ?_; intro v3 w3 h3 k3 k4 k5; have H3 := hide h3; have d3 : w3.cell? ⟨gx, i, none⟩ = some (.int .i64 (x : Int)) := (by (have q := unhide HCL i hil; obtain ⟨g', e', _, _, q⟩ := q; injection e' with e'; injection e' with e'; subst e'; rw [h3.bel.cell (cell_lt q)]; rw [← d1, (unhide HI).bel.cell (cell_lt q)])); clear h3 k3 k4 k5)
        go_roundg (n - (i + 1))
        case measure => omega
        case rel => exact ⟨i + 1, rfl, by omega, by rw [unhide HRT], by go_num, hide (by rw [unhide HSN]; exact unhide H3)⟩
    · obtain rfl : i = n := by omega
      have ti : ¬ (i : Int) < (i : Int) := by omega
      go_wp2_with fail
      go_ret3
      have q := unhide HI
      rw [show l.take i = l by rw [← unhide HLN]; exact List.take_length] at q
      have hb1 := (unhide HS1).bel
      refine ⟨_, l, unhide HLR, rfl, ⟨q.own.1, ?_⟩, hb1.trans (q.bel.mono hb1.size)⟩
      rcases q.own.2 with e | ⟨g, cap, cur, e, hg, r⟩
      · exact .inl e
      · exact .inr ⟨g, cap, cur, e, Nat.le_trans hb1.size hg, r⟩

end Go.Proofs.Ytpemgjcgcmleiaa
