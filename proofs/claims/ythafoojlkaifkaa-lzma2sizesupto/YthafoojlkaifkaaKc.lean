/- Numbers and props of a chunk. -/
import Derived.Test.YthafoojlkaifkaaKb
namespace Go.Proofs.Ythafoojlkaifkaa.K
open Go.RowKit
set_option maxRecDepth 100000
set_option linter.unusedVariables false
attribute [local go_sem ↓] Go.wp_at_zero Go.wp_at_succ

def nextV (bb ub : Nat) : Value := .func (.func 11) #[] #[.pointer (some ⟨bb, 0, none⟩), .pointer (some ⟨ub, 0, none⟩)]

section
variable {w : World} {bb ub : Nat} {va : Option Addr} {vc : Nat} {zs : List Nat} {p : Nat}

theorem num_end (h : NK w bb ub va vc zs p) (hn : zs.length < p + 2) : Calls Try.prog 23 #[nextV bb ub] w fun e w' => e = .returned (.tuple #[.int .i64 0, .int .i64 10]) ∧ w' = w := by
  have HC := hide (next_end h 2 hn (by omega))
  clear h hn
  unfold nextV
  go_enter Try.func23, Try.ntmps23
  go_wp2_with fail
  refine (unhide HC).mono ?_
  rintro e w' ⟨rfl, rfl⟩
  go_wp2_with fail
  go_returns
  exact ⟨rfl, rfl⟩

theorem part_reads {g o vc' : Nat} {zs : List Nat} {p n : Nat} {w : World} (hcell : ∀ j, j < zs.length → w.cell? ⟨g, o + j, none⟩ = some (.int .u8 (zs.getD j 0 : Int))) (hn : p + n ≤ zs.length) : Reads w (.slice (some ⟨g, o + p, none⟩) n vc') ((zs.drop p).take n) := by
  have hlen : ((zs.drop p).take n).length = n := by simp; omega
  refine ⟨_, _, by rw [hlen], fun _ => ⟨_, rfl, fun j u hj => ?_⟩⟩
  have hjN : j < n := by have := (List.getElem?_eq_some_iff.1 hj).1; rw [List.length_map] at this; omega
  have e : (⟨g, o + p, none⟩ : Addr).add j = ⟨g, o + (p + j), none⟩ := by by_cases hq : j = 0 <;> simp [Addr.add, hq] <;> omega
  rw [e, hcell (p + j) (by omega)]
  rw [List.getElem?_map, List.getElem?_take, if_pos hjN, List.getElem?_drop, List.getElem?_eq_getElem (by omega)] at hj
  simp only [Option.map_some, bv] at hj
  rw [← hj]
  simp [List.getD_eq_getElem?_getD, show p + j < zs.length by omega]

theorem part_get {zs : List Nat} {p n j : Nat} (hj : j < n) : ((zs.drop p).take n).getD j 0 = zs.getD (p + j) 0 := by
  simp [List.getD_eq_getElem?_getD, hj, List.getElem?_drop]

theorem num_ok (h : NK w bb ub va vc zs p) (hn : p + 2 ≤ zs.length) : Calls Try.prog 23 #[nextV bb ub] w fun e w' => e = .returned (.tuple #[.int .i64 ((two zs p : Nat) : Int), .int .i64 0]) ∧ NK w' bb ub va vc zs (p + 2) ∧ But [ub] w w' := by
  have HC := hide (next_ok h 2 hn (by omega))
  have ht := two_le h.sm p
  have et : two zs p = zs.getD (p + 0) 0 * 256 + zs.getD (p + 1) 0 + 1 := rfl
  obtain ⟨T, hT⟩ : ∃ T, T = two zs p := ⟨_, rfl⟩
  rw [← hT] at ht et ⊢
  clear h hT
  unfold nextV
  go_enter Try.func23, Try.ntmps23
  go_wp2_with fail
  refine (unhide HC).mono ?_
  rintro e w1 ⟨g, o, rfl, rfl, h1, h2⟩
  have HD : Hid (Calls Try.prog 26 #[.slice (some ⟨g, o + p, none⟩) 2 (vc - p), .int .i64 0, .int .i64 2] w1 fun e w' => e = .returned (tri (T - 1, 2, 0)) ∧ Below w1.heap.size w1 w') := by
    obtain ⟨g', o', e', hcell⟩ := h1.own (by omega)
    injection e' with e'
    injection e' with e1 e2
    subst e1 e2
    have := high_two (.slice (some ⟨g, o + p, none⟩) 2 (vc - p)) ((zs.drop p).take 2) w1 (part_reads hcell hn) (fun z hz => h1.sm z (List.mem_of_mem_drop (List.mem_of_mem_take hz))) (by simp; omega)
    rw [part_get (by omega), part_get (by omega)] at this
    rw [et, Nat.add_sub_cancel]
    exact this
  have HN := hide (And.intro h1 h2)
  clear h1 h2 HC et hn
  unfold tri at HD
  have f1 : wrap64 ((T - 1 : Nat) : Int) = ((T - 1 : Nat) : Int) := by unfold wrap64; omega
  have f2 : wrap64 (((T - 1 : Nat) : Int) + 1) = (T : Int) := by unfold wrap64; omega
  generalize T - 1 = V at *
  clear ht
  go_wp2_with fail
  refine (unhide HD).mono ?_
  rintro e w2 ⟨rfl, hb⟩
  have HB := hide hb
  clear hb HD
  go_wp2_with fail
  go_ret2
  have h1 := (unhide HN).1
  have h2 := (unhide HN).2
  have hb := unhide HB
  refine ⟨by first | rfl | simp [f1, f2], h1.move (But.of_below (gs := []) hb) (fun g hg => by simp at hg) (by rw [hb.block ub (heap_lt h1.u)]; exact h1.u) h1.le, h2.trans (But.of_below hb)⟩
end
end Go.Proofs.Ythafoojlkaifkaa.K
