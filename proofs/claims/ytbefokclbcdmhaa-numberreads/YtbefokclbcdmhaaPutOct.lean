/-
  What number.PutOctal and the document's PutOctal tell.
-/
import Derived.Test.YtbefokclbcdmhaaBase
namespace Go.Proofs.Ytbefokclbcdmhaa
open Go.RowKit

/-- a field of d digits and a byte 0, of which the last i digits are written -/
def octRow (V d i : Nat) : List Nat := (List.range (d + 1)).map fun j => if d - i ≤ j ∧ j < d then 48 + V / 8 ^ (d - 1 - j) % 8 else 0

theorem octRow_length (V d i : Nat) : (octRow V d i).length = d + 1 := by simp [octRow]
theorem octRow_small (V d i : Nat) : ∀ z ∈ octRow V d i, z < 256 := by
  intro z hz
  simp only [octRow, List.mem_map] at hz
  obtain ⟨j, _, rfl⟩ := hz
  split <;> omega
theorem octRow_zero (V d : Nat) : octRow V d 0 = List.replicate (d + 1) 0 := by
  apply List.ext_getElem?
  intro j
  simp only [octRow, List.getElem?_map, List.getElem?_replicate]
  by_cases h : j < d + 1
  · rw [List.getElem?_range h]
    simp only [Option.map_some, if_pos h]
    rw [if_neg (by omega)]
  · rw [List.getElem?_eq_none (by simp; omega), if_neg h]; rfl
theorem octRow_set (V d i : Nat) (h : i < d) : (octRow V d i).set (d - 1 - i) (48 + V / 8 ^ i % 8) = octRow V d (i + 1) := by
  apply List.ext_getElem?
  intro j
  rw [List.getElem?_set, octRow_length]
  simp only [octRow, List.getElem?_map]
  by_cases hj : j < d + 1
  · rw [List.getElem?_range hj]
    simp only [Option.map_some]
    by_cases e : d - 1 - i = j
    · subst e
      rw [if_pos rfl, if_pos (by omega), if_pos (by omega), show d - 1 - (d - 1 - i) = i by omega]
    · rw [if_neg e]
      by_cases h2 : d - i ≤ j ∧ j < d
      · rw [if_pos h2, if_pos (by omega)]
      · rw [if_neg h2, if_neg (by omega)]
  · rw [List.getElem?_eq_none (by simp; omega), if_neg (by omega)]; rfl

theorem putOctal_arg (v n : Int) (h : n < 2 ∨ 64 < n ∨ v < 0) (w : World) :
    Calls Try.prog 19 #[.int .i64 v, .int .i64 n] w fun e w' => e = .returned (.tuple #[.slice none 0 0, .int .i64 2]) ∧ w' = w := by
  by_cases h1 : n < 2
  · go_enter Try.func19, Try.ntmps19
    go_wp2
    go_ret2
    exact ⟨rfl, rfl⟩
  · by_cases h2 : 64 < n
    · go_enter Try.func19, Try.ntmps19
      go_wp2
      go_ret2
      exact ⟨rfl, rfl⟩
    · have h3 : v < 0 := by omega
      clear h
      go_enter Try.func19, Try.ntmps19
      go_wp2
      go_ret2
      exact ⟨rfl, rfl⟩

theorem refPutOctal_arg (v n : Int) (h : n < 2 ∨ 64 < n ∨ v < 0) (w : World) :
    Calls Try.prog 20 #[.int .i64 v, .int .i64 n] w fun e w' => e = .returned (.tuple #[.slice none 0 0, .int .i64 2]) ∧ w' = w := by
  by_cases h1 : n < 2
  · go_enter Try.func20, Try.ntmps20
    go_wp2
    go_ret2
    exact ⟨rfl, rfl⟩
  · by_cases h2 : 64 < n
    · go_enter Try.func20, Try.ntmps20
      go_wp2
      go_ret2
      exact ⟨rfl, rfl⟩
    · have h3 : v < 0 := by omega
      clear h
      go_enter Try.func20, Try.ntmps20
      go_wp2
      go_ret2
      exact ⟨rfl, rfl⟩

theorem shr3 (V k : Nat) (hV : V < 9223372036854775808) : (V : Int) / 2 ^ min (3 * k) 64 = ((V / 8 ^ k : Nat) : Int) := by
  have h8 : 8 ^ k = 2 ^ (3 * k) := by rw [Nat.pow_mul]
  by_cases h : 3 * k ≤ 64
  · rw [Nat.min_eq_left h, h8]
    simp
  · rw [Nat.min_eq_right (by omega)]
    have h0 : 2 ^ 64 ≤ 2 ^ (3 * k) := Nat.pow_le_pow_right (by omega) (by omega)
    have h1 : V / 8 ^ k = 0 := Nat.div_eq_of_lt (by rw [h8]; omega)
    rw [h1]
    omega

theorem and7 (X : Nat) (h : X < 9223372036854775808) : bits .and .i64 (X : Int) 7 = ((X % 8 : Nat) : Int) := by
  have := bits_mask .i64 63 (by decide) (fun n h0 h1 => by rw [IntKind.wrap_i64]; omega) 3 (by decide) (X : Int) (by omega) (by omega)
  rw [show ((7 : Int)) = 2 ^ 3 - 1 by decide, this]
  omega

theorem made_octRow (V N : Nat) (h : 2 ≤ N) : (madeCells (Value.int .u8 0).cells (N * 1)).toList.toArray = ((octRow V (N - 1) 0).map bv).toArray := by
  rw [octRow_zero, show N - 1 + 1 = N by omega]
  apply Array.ext
  · simp [madeCells]
  · intro i h1 h2
    simp [madeCells, Value.cells, bv, Nat.mod_one]

theorem set_bv {w : World} {g p x : Nat} {l : List Nat} (h : w.heap[g]? = some (.cells (l.map bv).toArray 5 (0, 0))) : (w.setCell ⟨g, p, none⟩ (.int .u8 (x : Int))).heap[g]? = some (.cells ((l.set p x).map bv).toArray 5 (0, 0)) := by
  rw [heap_setCell_same w g p _ 5 _ h]
  simp [List.map_set, bv]

theorem wrap_mod8 (x : Nat) : ((48 : Int) + ((x % 8 : Nat) : Int)) = ((48 + x % 8 : Nat) : Int) := by omega

set_option maxRecDepth 100000 in
set_option maxHeartbeats 1000000 in
theorem putOctal_ok (V N : Nat) (hN : 2 ≤ N ∧ N ≤ 64) (hV : V < 9223372036854775808) (hb : V < 8 ^ (N - 1)) (w : World) :
    Calls Try.prog 19 #[.int .i64 (V : Int), .int .i64 (N : Int)] w fun e w' => e = .returned (.tuple #[.slice (some ⟨w.heap.size, 0, none⟩) N N, .int .i64 0]) ∧
      w'.heap[w.heap.size]? = some (.cells ((octRow V (N - 1) (N - 1)).map bv).toArray 5 (0, 0)) ∧ Below w.heap.size w w' := by
  obtain ⟨i0, hi, hz0, hz1, hz2⟩ := info_parts info5
  have h1 : ¬ (N : Int) < 2 := by omega
  have h2 : ¬ (64 : Int) < (N : Int) := by omega
  have h0 : (0 : Int) ≤ 3 * ((N : Int) - 1) := by omega
  have hsh : (V : Int) / 2 ^ min (3 * (N - 1)) 64 = 0 := by rw [shr3 V (N - 1) hV, Nat.div_eq_of_lt hb]; rfl
  have HV3 := hide (fun k => shr3 V k hV)
  clear hb
  go_enter Try.func19, Try.ntmps19
  go_wp2_with (at_make; go_must (refine wpList_make_full _ rfl _ _ 22 rfl w.heap.size 5 i0 (.int .u8 0) 1 Try.underlying22 hi hz0 hz1 _ _ _ _ N rfl rfl (by omega) (by omega) (by rw [hz2]; omega) (by unfold maxLen; omega) (Nat.le_refl _) ?_; intro w1 hown hgrow; have HO := hide (ownsRow_heap hown rfl).1; have HB := hide ((Below.refl w.heap.size w).grown hgrow (Nat.le_refl _) (by intro k h; cases h)); clear hown hgrow))
  go_loopg [8, 29] (N - 1) (fun gk u c ws => ∃ i : Nat, gk = N - 1 - i ∧ i ≤ N - 1 ∧ c = .int .i64 (i : Int) ∧ ws.heap[w.heap.size]? = some (.cells ((octRow V (N - 1) i).map bv).toArray 5 (0, 0)) ∧ Below w.heap.size w ws)
  case atStart => exact ⟨0, by omega, by omega, rfl, by rw [unhide HO, made_octRow V N hN.1], unhide HB⟩
  case round =>
    obtain ⟨i, rfl, hil, rfl, hrow, hbel⟩ := hrel
    clear HO HB
    by_cases hlt : i < N - 1
    · have hlt' : (i : Int) < (N : Int) - 1 := by omega
      have h3 : (0 : Int) ≤ 3 * (i : Int) := by omega
      have hsv : (V : Int) / 2 ^ min (3 * i) 64 = ((V / 8 ^ i : Nat) : Int) := unhide HV3 i
      have hx : V / 8 ^ i < 9223372036854775808 := Nat.lt_of_le_of_lt (Nat.div_le_self _ _) hV
      have HS := hide (octRow_set V (N - 1) i hlt)
      have hlen := octRow_length V (N - 1) i
      have hand := and7 _ hx
      have hd8 : V / 8 ^ i % 8 < 8 := Nat.mod_lt _ (by omega)
      generalize V / 8 ^ i % 8 = d at hand hd8 HS
      generalize V / 8 ^ i = X at hsv hx hand
      have hco : ∃ y : Int, wr.cell? ⟨w.heap.size, N - 1 - 1 - i, none⟩ = some (.int .u8 y) := ⟨_, by
        simp only [World.cell?, hrow]
        rw [List.getElem?_toArray, List.getElem?_map, List.getElem?_eq_getElem (by omega)]
        rfl⟩
      obtain ⟨y, hco⟩ := hco
      have hfo : wr.frozen? ⟨w.heap.size, N - 1 - 1 - i, none⟩ = false := by simp [World.frozen?, hrow]
      have HROW := hide hrow
      have HBEL := hide hbel
      clear hbel hrow hlen
      go_wp2_with fail
      go_roundg (N - 1 - (i + 1))
      case measure => omega
      case rel =>
        have e : ((48 : Int) + (d : Int)) = ((48 + d : Nat) : Int) := by omega
        refine ⟨i + 1, rfl, by omega, by go_num, ?_, ?_⟩
        · rw [← unhide HS, e]
          exact set_bv (unhide HROW)
        · exact (Only.set ⟨(unhide HBEL).os, (unhide HBEL).tape, (unhide HBEL).output, (unhide HBEL).size, fun x hx _ => (unhide HBEL).block x hx⟩ _ _).below (Nat.le_refl _) (Nat.le_refl _)
    · obtain rfl : i = N - 1 := by omega
      have HROW := hide hrow
      have HBEL := hide hbel
      have hlt' : ¬ (((N - 1 : Nat) : Int) < (N : Int) - 1) := by omega
      clear hbel hrow
      go_wp2_with fail
      go_ret2
      exact ⟨rfl, unhide HROW, unhide HBEL⟩
set_option maxRecDepth 100000 in
set_option maxHeartbeats 1000000 in
theorem putOctal_big (V N : Nat) (hN : 2 ≤ N ∧ N ≤ 64) (hV : V < 9223372036854775808) (hb : ¬ V < 8 ^ (N - 1)) (w : World) :
    Calls Try.prog 19 #[.int .i64 (V : Int), .int .i64 (N : Int)] w fun e w' => e = .returned (.tuple #[.slice none 0 0, .int .i64 3]) ∧ w' = w := by
  have h1 : ¬ (N : Int) < 2 := by omega
  have h2 : ¬ (64 : Int) < (N : Int) := by omega
  have h0 : (0 : Int) ≤ 3 * ((N : Int) - 1) := by omega
  have hq : 0 < V / 8 ^ (N - 1) := Nat.div_pos (by omega) (Nat.pow_pos (by omega))
  have hsh := shr3 V (N - 1) hV
  generalize V / 8 ^ (N - 1) = q at hq hsh
  have hq' : ((q : Int) != 0) = true := by simp; omega
  clear hb
  go_enter Try.func19, Try.ntmps19
  go_wp2_with fail
  go_ret2
  exact ⟨rfl, rfl⟩

/-- the field, in block g, or none -/
def octAns (V N g : Nat) : Value := if V < 8 ^ (N - 1) then .tuple #[.slice (some ⟨g, 0, none⟩) N N, .int .i64 0] else .tuple #[.slice none 0 0, .int .i64 3]

set_option maxRecDepth 100000 in
set_option maxHeartbeats 1000000 in
theorem refPutOctal_any (V N : Nat) (hN : 2 ≤ N ∧ N ≤ 64) (hV : V < 9223372036854775808) (w : World) :
    Calls Try.prog 20 #[.int .i64 (V : Int), .int .i64 (N : Int)] w fun e w' => e = .returned (octAns V N w.heap.size) ∧
      w'.heap[w.heap.size]? = some (.cells ((octRow V (N - 1) (N - 1)).map bv).toArray 5 (0, 0)) ∧ Below w.heap.size w w' := by
  obtain ⟨i0, hi, hz0, hz1, hz2⟩ := info_parts info5
  have h1 : ¬ (N : Int) < 2 := by omega
  have h2 : ¬ (64 : Int) < (N : Int) := by omega
  go_enter Try.func20, Try.ntmps20
  go_wp2_with (at_make; go_must (refine wpList_make_full _ rfl _ _ 22 rfl w.heap.size 5 i0 (.int .u8 0) 1 Try.underlying22 hi hz0 hz1 _ _ _ _ N rfl rfl (by omega) (by omega) (by rw [hz2]; omega) (by unfold maxLen; omega) (Nat.le_refl _) ?_; intro w1 hown hgrow; have HO := hide (ownsRow_heap hown rfl).1; have HB := hide ((Below.refl w.heap.size w).grown hgrow (Nat.le_refl _) (by intro k h; cases h)); clear hown hgrow))
  go_loopg [0, 7] (N - 1) (fun gk v c ws => ∃ i : Nat, gk = N - 1 - i ∧ i ≤ N - 1 ∧ v = .int .i64 ((V / 8 ^ i : Nat) : Int) ∧ c = .int .i64 ((N : Int) - 2 - i) ∧ ws.heap[w.heap.size]? = some (.cells ((octRow V (N - 1) i).map bv).toArray 5 (0, 0)) ∧ Below w.heap.size w ws)
  case atStart => exact ⟨0, by omega, by omega, by simp, by simp, by rw [unhide HO, made_octRow V N hN.1], unhide HB⟩
  case round =>
    obtain ⟨i, rfl, hil, rfl, rfl, hrow, hbel⟩ := hrel
    clear HO HB
    by_cases hlt : i < N - 1
    · have hlt' : (0 : Int) ≤ (N : Int) - 2 - i := by omega
      have hx : V / 8 ^ i < 9223372036854775808 := Nat.lt_of_le_of_lt (Nat.div_le_self _ _) hV
      have HS := hide (octRow_set V (N - 1) i hlt)
      have hlen := octRow_length V (N - 1) i
      have HX : Hid (V / 8 ^ (i + 1) = V / 8 ^ i / 8) := hide (by rw [Nat.pow_succ, Nat.div_div_eq_div_mul])
      have hd8 : V / 8 ^ i % 8 < 8 := Nat.mod_lt _ (by omega)
      have hdd : Int.tmod ((V / 8 ^ i : Nat) : Int) 8 = ((V / 8 ^ i % 8 : Nat) : Int) := rfl
      have hqq : Int.tdiv ((V / 8 ^ i : Nat) : Int) 8 = ((V / 8 ^ i / 8 : Nat) : Int) := rfl
      have hq9 : V / 8 ^ i / 8 < 9223372036854775808 := by omega
      have hdm : ((V / 8 ^ i : Nat) : Int) % 8 = ((V / 8 ^ i % 8 : Nat) : Int) := by omega
      have hdq : ((V / 8 ^ i : Nat) : Int) / 8 = ((V / 8 ^ i / 8 : Nat) : Int) := by omega
      generalize V / 8 ^ i % 8 = d at hd8 HS hdd hdm
      generalize V / 8 ^ i / 8 = q at HX hqq hq9 hdq
      generalize V / 8 ^ i = X at *
      have hco : ∃ y : Int, wr.cell? ⟨w.heap.size, N - 1 - 1 - i, none⟩ = some (.int .u8 y) := ⟨_, by
        simp only [World.cell?, hrow]
        rw [List.getElem?_toArray, List.getElem?_map, List.getElem?_eq_getElem (by omega)]
        rfl⟩
      obtain ⟨y, hco⟩ := hco
      have hfo : wr.frozen? ⟨w.heap.size, N - 1 - 1 - i, none⟩ = false := by simp [World.frozen?, hrow]
      rw [show N - 1 - 1 - i = N - 2 - i by omega] at hco hfo
      have HROW := hide hrow
      have HBEL := hide hbel
      clear hbel hrow hlen
      go_wp2_with fail
      go_roundg (N - 1 - (i + 1))
      case measure => omega
      case rel =>
        have e : ((48 : Int) + (d : Int)) = ((48 + d : Nat) : Int) := by omega
        refine ⟨i + 1, rfl, by omega, by rw [unhide HX], by go_num, ?_, ?_⟩
        · rw [← unhide HS, e, show N - 2 - i = N - 1 - 1 - i by omega]
          exact set_bv (unhide HROW)
        · exact (Only.set ⟨(unhide HBEL).os, (unhide HBEL).tape, (unhide HBEL).output, (unhide HBEL).size, fun x hx _ => (unhide HBEL).block x hx⟩ _ _).below (Nat.le_refl _) (Nat.le_refl _)
    · obtain rfl : i = N - 1 := by omega
      have HROW := hide hrow
      have HBEL := hide hbel
      have hlt' : ¬ ((0 : Int) ≤ (N : Int) - 2 - ((N - 1 : Nat) : Int)) := by omega
      clear hbel hrow
      by_cases hb : V < 8 ^ (N - 1)
      · have e0 : V / 8 ^ (N - 1) = 0 := Nat.div_eq_of_lt hb
        rw [e0]
        have HQ := hide hb
        clear e0 hb
        go_wp2_with fail
        go_ret2
        refine ⟨?_, unhide HROW, unhide HBEL⟩
        rw [octAns, if_pos (unhide HQ)]
        rfl
      · have e0 : 0 < V / 8 ^ (N - 1) := Nat.div_pos (by omega) (Nat.pow_pos (by omega))
        generalize V / 8 ^ (N - 1) = q at e0
        have HQ := hide hb
        clear hb
        go_wp2_with fail
        go_ret2
        refine ⟨?_, unhide HROW, unhide HBEL⟩
        rw [octAns, if_neg (unhide HQ)]
        rfl
end Go.Proofs.Ytbefokclbcdmhaa
