/- Rows: all turnings' places, put in one by one. -/
import Derived.Test.YtpemgjcgcmleiaaBa
namespace Go.Proofs.Ytpemgjcgcmleiaa
open Go.RowKit Suf
set_option maxRecDepth 100000
set_option linter.unusedVariables false

/-- a row of one's own, in a block that is known -/
structure RowAt (w0 w : World) (g n cap : Nat) (xs : List Nat) : Prop where
  own : w.ownsRow w0.heap.size 3 1 (.slice (some ⟨g, 0, none⟩) n cap) n (xs.map fun i : Nat => iv (i : Int))
  len : xs.length = n
  bel : Below w0.heap.size w0 w

theorem RowAt.cell {w0 w : World} {g n cap : Nat} {xs : List Nat} (h : RowAt w0 w g n cap xs) (j : Nat) (hj : j < n) : w.cell? ⟨g, j, none⟩ = some (.int .i64 ((xs.getD j 0 : Nat) : Int)) ∧ w.frozen? ⟨g, j, none⟩ = false := by
  rcases h.own.2 with ⟨e1, _⟩ | ⟨g', cap', cur, e1, hb, hg, hn, _, _, ht⟩
  · cases e1
  · injection e1 with e1 e2 e3
    injection e1 with e1
    injection e1 with e1
    subst e1
    have hx : (xs.map fun i : Nat => iv (i : Int))[j]? = some (.int .i64 ((xs.getD j 0 : Nat) : Int)) := by
      simp [List.getElem?_map, List.getElem?_eq_getElem (show j < xs.length by rw [h.len]; exact hj), iv, List.getD_eq_getElem?_getD]
    rw [← ht, List.getElem?_take] at hx
    split at hx
    · exact ⟨by simp only [World.cell?, hg]; simpa using hx, by simp [World.frozen?, hg]⟩
    · cases hx

theorem RowAt.set {w0 w : World} {g n cap : Nat} {xs : List Nat} (h : RowAt w0 w g n cap xs) (j x : Nat) (hj : j < n) : RowAt w0 (w.setCell ⟨g, j, none⟩ (.int .i64 (x : Int))) g n cap (xs.set j x) := by
  rcases h.own.2 with ⟨e1, _⟩ | ⟨g', cap', cur, e1, hb, hg, hn, hm, hs, ht⟩
  · cases e1
  · injection e1 with e1 e2 e3
    injection e1 with e1
    injection e1 with e1
    subst e1 e3
    refine ⟨⟨by rw [List.length_map, List.length_set, h.len]; omega, .inr ⟨g, cap, cur.setIfInBounds j (.int .i64 (x : Int)), rfl, hb, heap_setCell_same w g j _ _ _ hg, hn, hm, by simpa using hs, ?_⟩⟩, by rw [List.length_set]; exact h.len, h.bel.setCell hb _⟩
    have e : (cur.setIfInBounds j (.int .i64 (x : Int))).toList = cur.toList.set j (.int .i64 (x : Int)) := by simp
    rw [e, List.take_set, ht, List.map_set]
    rfl

theorem RowAt.drewN {w0 w : World} {g n cap : Nat} {xs : List Nat} (h : RowAt w0 w g n cap xs) (q : Nat) : RowAt w0 (w.drewN q) g n cap xs := ⟨h.own, h.len, ⟨h.bel.os, h.bel.tape, h.bel.output, h.bel.size, h.bel.block⟩⟩

/-- what is done, within a round: the place i is to be put in -/
structure InAt (b A B L : List Nat) (i k : Nat) : Prop where
  perm : (A ++ B).Perm (List.range i)
  sorted : (A ++ B).Pairwise (Ahead b)
  k : A.length = k
  row : ∃ z, L = A ++ z :: B
  beh : ∀ x ∈ B, Ahead b i x

theorem InAt.step {b A B L : List Nat} {i k x : Nat} (h : InAt b (A ++ [x]) B L i (k + 1)) (hx : Ahead b i x) : InAt b A (x :: B) (L.set (k + 1) (L.getD k 0)) i k := by
  obtain ⟨z, hz⟩ := h.row
  have hk : A.length = k := by have := h.k; simp at this; exact this
  have e1 : L.getD k 0 = x := by
    rw [hz, List.getD_eq_getElem?_getD, List.append_assoc, List.getElem?_append_right (by omega), hk]
    simp
  refine ⟨by simpa using h.perm, by simpa using h.sorted, hk, ⟨x, ?_⟩, ?_⟩
  · rw [e1, hz, List.set_append_right _ _ (by simp; omega)]
    simp [hk]
  · intro y hy
    rw [List.mem_cons] at hy
    rcases hy with rfl | hy
    · exact hx
    · exact h.beh y hy

theorem InAt.done {b A B L : List Nat} {i k : Nat} (h : InAt b A B L i k) (hA : A = [] ∨ ∃ A' x, A = A' ++ [x] ∧ Ahead b x i) : (L.set k i).Perm (List.range (i + 1)) ∧ (L.set k i).Pairwise (Ahead b) ∧ (L.set k i).length = i + 1 := by
  obtain ⟨z, hz⟩ := h.row
  have e : L.set k i = A ++ i :: B := by
    rw [hz, List.set_append_right _ _ (by rw [h.k]; exact Nat.le_refl _), h.k]
    simp
  have hp : (A ++ i :: B).Perm (List.range (i + 1)) := by
    rw [List.range_succ]
    refine (List.perm_middle).trans ?_
    refine ((List.Perm.cons i h.perm)).trans ?_
    exact (List.perm_append_singleton i (List.range i)).symm
  rw [e]
  refine ⟨hp, put_in h.sorted hA h.beh, ?_⟩
  rw [hp.length_eq, List.length_range]

/-- the rows of the first places -/
def RowsTo (b : List Nat) (i : Nat) (l : List Nat) : Prop := l.Perm (List.range i) ∧ l.Pairwise (Ahead b)

theorem RowsTo.start {b l : List Nat} {i : Nat} (h : RowsTo b i l) : InAt b l [] (l ++ [i]) i i := by
  refine ⟨by rw [List.append_nil]; exact h.1, by rw [List.append_nil]; exact h.2, by rw [h.1.length_eq, List.length_range], ⟨i, rfl⟩, fun x hx => by simp at hx⟩

theorem InAt.last {b A B L : List Nat} {i k : Nat} (h : InAt b A B L i (k + 1)) : ∃ A' x, A = A' ++ [x] ∧ L.getD k 0 = x ∧ x < i ∧ L.length = i + 1 ∧ k + 1 ≤ i := by
  have hne : A ≠ [] := fun e => by have := h.k; rw [e] at this; simp at this
  obtain ⟨z, hz⟩ := h.row
  have e0 : A = A.dropLast ++ [A.getLast hne] := (List.dropLast_concat_getLast hne).symm
  have hl := h.perm.length_eq
  rw [List.length_append, List.length_range, h.k] at hl
  refine ⟨A.dropLast, A.getLast hne, e0, ?_, ?_, ?_, by omega⟩
  · rw [hz, List.getD_eq_getElem?_getD, List.getElem?_append_left (by rw [h.k]; omega), List.getLast_eq_getElem, List.getElem?_eq_getElem (by rw [h.k]; omega)]
    simp [h.k]
  · exact List.mem_range.1 (h.perm.mem_iff.1 (List.mem_append_left _ (List.getLast_mem hne)))
  · rw [hz, List.length_append, List.length_cons, h.k]; omega

theorem st_row {w0 w : World} {v : Value} {l : List Nat} (h : St w0 w v (l.map fun i : Nat => iv (i : Int))) (h0 : 0 < l.length) : ∃ g c, v = .slice (some ⟨g, 0, none⟩) l.length c ∧ l.length ≤ c ∧ RowAt w0 w g l.length c l := by
  have ho := h.own
  rw [List.length_map] at ho
  rcases ho.2 with ⟨_, e2⟩ | ⟨g, cap, cur, e1, hb, hg, hn, r⟩
  · omega
  · subst e1
    exact ⟨g, cap, rfl, hn, ho, rfl, h.bel⟩

set_option maxHeartbeats 8000000 in
theorem rows_ok (b : List Nat) (g off cap : Nat) (w : World) (hc : ∀ j, j < b.length → w.cell? ⟨g, off + j, none⟩ = some (.int .u8 ((b.getD j 0 : Nat) : Int))) (hb : ∀ z ∈ b, z < 256) (hn : b.length ≤ 1048576) :
    Calls Try.prog 10 #[.slice (some ⟨g, off, none⟩) b.length cap] w fun e w' => ∃ v l, e = .returned (.tuple #[v, .int .i64 0]) ∧ IsRows b l ∧ St w w' v (l.map fun i : Nat => iv (i : Int)) := by
  have HL : Hid (∀ ws i k, Below w.heap.size w ws → i < b.length → k < b.length → Calls Try.prog 19 #[.slice (some ⟨g, off, none⟩) b.length cap, .int .i64 (i : Int), .int .i64 (k : Int)] ws fun e w' => LessIs b i k ws e w') := hide fun ws i k hbl hi hk => less_ok b g off cap i k ws (fun j hj => by rw [hbl.cell (cell_lt (hc j hj))]; exact hc j hj) hb hn hi hk
  obtain ⟨n, hN⟩ : ∃ n, n = b.length := ⟨_, rfl⟩
  have HN := hide hN
  rw [← hN] at hn HL ⊢
  have hd : ¬ 1048576 < (n : Int) := by omega
  have hd2 : decide (1048576 < (n : Int)) = false := by simp; omega
  clear hN hc
  go_enter Try.func10, Try.ntmps10
  go_wp2_with fail
  clear hd hd2
  go_loopg [4, 5] n (fun gk o c ws => ∃ (i : Nat) (l : List Nat), gk = n - i ∧ i ≤ n ∧ c = .int .i64 (i : Int) ∧ Hid (RowsTo b i l) ∧ Hid (St w ws o (l.map fun i : Nat => iv (i : Int))))
  case atStart => exact ⟨0, [], by omega, by omega, rfl, hide ⟨by simp, by simp⟩, hide (St.nil w)⟩
  case round =>
    obtain ⟨i, l, rfl, hin, rfl, HR, HS⟩ := hrel
    rename World => wo
    by_cases hil : i < n
    · have ti : (i : Int) < (n : Int) := by omega
      have hll : l.length = i := by rw [(unhide HR).1.length_eq, List.length_range]
      obtain ⟨xa, xc, rfl, hxc, _⟩ := st_cells (unhide HS)
      rw [hll] at hxc HS ⊢
      have HLL := hide hll
      clear hll
      go_wp2_with (at_builtin; refine wp_one rfl _ _ rfl _ _ (i : Int) (by rfl) (by rfl) (unhide HS) (by rw [List.length_map, unhide HLL]; omega) ?_; intro v3 w3 h3; obtain ⟨g1, c1, rfl, hc1, hrw⟩ := st_row (l := l ++ [i]) (by rw [List.map_append]; exact h3) (by simp); rw [List.length_append, unhide HLL, List.length_singleton] at hc1 hrw; rw [List.length_append, unhide HLL, List.length_singleton]; have HRW0 := hide hrw; clear h3 hrw)
      go_loopg [6] i (fun gk kv ws => ∃ (k : Nat) (A B L : List Nat), gk = k ∧ kv = .int .i64 (k : Int) ∧ Hid (InAt b A B L i k) ∧ Hid (RowAt w ws g1 (i + 1) c1 L) ∧ Hid (k ≤ i))
      case atStart => exact ⟨i, l, [], l ++ [i], by omega, rfl, hide (unhide HR).start, HRW0, hide (Nat.le_refl _)⟩
      case round =>
        clear HRW0
        obtain ⟨k, A, B, L, rfl, rfl, HIN, HRW, HKI⟩ := hrel
        rename World => wi
        by_cases hk0 : gk = 0
        · subst hk0
          have hA0 : A = [] := List.length_eq_zero_iff.1 (unhide HIN).k
          have DN := (unhide HIN).done (.inl hA0)
          have HDN := hide DN
          clear DN
          have cK := ((unhide HRW).cell 0 (by have := unhide HKI; omega)).2
          have cK1 := ((unhide HRW).cell 0 (by have := unhide HKI; omega)).1
          have hki : (0 : Int) < ((i + 1 : Nat) : Int) := by have := unhide HKI; omega
          have hki2 : ((0 : Nat) : Int) < (i : Int) + 1 := by have := unhide HKI; omega
          have HRS := hide ((unhide HRW).set 0 i (by have := unhide HKI; omega))
          go_wp2_with fail
          go_roundg (n - (i + 1))
          case measure => omega
          case rel =>
            refine ⟨i + 1, L.set 0 i, rfl, by omega, by go_num, hide ⟨(unhide HDN).1, (unhide HDN).2.1⟩, hide ⟨?_, (unhide HRS).bel⟩⟩
            rw [List.length_map, (unhide HDN).2.2]
            exact (unhide HRS).own
        · obtain ⟨k, rfl⟩ : ∃ k, gk = k + 1 := ⟨gk - 1, by omega⟩
          obtain ⟨A', x, rfl, hx1, hx2, hx3, hx4⟩ := (unhide HIN).last
          have f1 : (0 : Int) < ((k + 1 : Nat) : Int) := by omega
          have f2 : (0 : Int) < (k : Int) + 1 := by omega
          have f3 : ((k + 1 : Nat) : Int) - 1 = (k : Int) := by omega
          have f4 : (k : Int) + 1 - 1 = (k : Int) := by omega
          have f5 : (k : Int) < (i : Int) + 1 := by omega
          have f6 : (k : Int) + 1 < (i : Int) + 1 := by omega
          have cx := ((unhide HRW).cell k (by omega)).1
          have cK := ((unhide HRW).cell (k + 1) (by omega)).2
          have cK1 := ((unhide HRW).cell (k + 1) (by omega)).1
          rw [hx1] at cx
          have HLS := hide (unhide HL wi i x (unhide HRW).bel hil (by omega))
          go_wp2_with fail
          refine (unhide HLS).mono ?_
          rintro e w2 ⟨r, rfl, hr1, hr2, q, hq⟩
          have HRW2 := hide ((unhide HRW).drewN q)
          rw [← hq] at HRW2
          clear hq HLS cx cK cK1
          have cx := ((unhide HRW2).cell k (by omega)).1
          have cK := ((unhide HRW2).cell (k + 1) (by omega)).2
          have cK1 := ((unhide HRW2).cell (k + 1) (by omega)).1
          rw [hx1] at cx
          cases r
          · have HAX := hide (hr2 rfl (by omega))
            clear hr1 hr2 cx cK cK1
            have DN := (unhide HIN).done (.inr ⟨A', x, rfl, unhide HAX⟩)
            have HDN := hide DN
            clear DN
            have cK := ((unhide HRW2).cell (k + 1) (by have := unhide HKI; omega)).2
            have cK1 := ((unhide HRW2).cell (k + 1) (by have := unhide HKI; omega)).1
            have hki : ((k + 1 : Nat) : Int) < ((i + 1 : Nat) : Int) := by have := unhide HKI; omega
            have hki2 : ((k + 1 : Nat) : Int) < (i : Int) + 1 := by have := unhide HKI; omega
            have HRS := hide ((unhide HRW2).set (k + 1) i (by have := unhide HKI; omega))
            go_wp2_with fail
            go_roundg (n - (i + 1))
            case measure => omega
            case rel =>
              refine ⟨i + 1, L.set (k + 1) i, rfl, by omega, by go_num, hide ⟨(unhide HDN).1, (unhide HDN).2.1⟩, hide ⟨?_, (unhide HRS).bel⟩⟩
              rw [List.length_map, (unhide HDN).2.2]
              exact (unhide HRS).own
          · have HST := hide ((unhide HIN).step (hr1 rfl))
            have HRS := hide ((unhide HRW2).set (k + 1) (L.getD k 0) (by omega))
            rw [hx1] at HST HRS
            clear hr1 hr2
            go_wp2_with fail
            go_roundg k
            case measure => omega
            case rel => exact ⟨k, A', x :: B, _, rfl, by first | rfl | go_num, HST, HRS, hide (by omega)⟩
    · obtain rfl : i = n := by omega
      have ti : ¬ (i : Int) < (i : Int) := by omega
      go_wp2_with fail
      go_ret2
      exact ⟨_, rfl, l, by rw [unhide HN] at HR; exact rows_of (unhide HR).1 (unhide HR).2, unhide HS⟩

end Go.Proofs.Ytpemgjcgcmleiaa
