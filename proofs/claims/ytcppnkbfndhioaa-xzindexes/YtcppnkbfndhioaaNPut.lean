/-
  What number.PutLow and number.PutHigh tell: the bytes behind others, as new memory.
-/
import Derived.Test.YtcppnkbfndhioaaBase
namespace Go.Proofs.Ytcppnkbfndhioaa.N
open Go.RowKit
set_option maxRecDepth 100000

/-- zs, and behind it n bytes, of which i are written -/
def rowUp (zs : List Nat) (f : Nat → Nat) (n i : Nat) : List Nat := zs ++ (List.range n).map fun j => if j < i then f j else 0

theorem rowUp_length (zs : List Nat) (f : Nat → Nat) (n i : Nat) : (rowUp zs f n i).length = zs.length + n := by simp [rowUp]
theorem rowUp_zero (zs : List Nat) (f : Nat → Nat) (n : Nat) : rowUp zs f n 0 = zs ++ List.replicate n 0 := by
  unfold rowUp
  congr 1
  apply List.ext_getElem?
  intro j
  by_cases h : j < n <;> simp [h]
theorem rowUp_full (zs : List Nat) (f : Nat → Nat) (n : Nat) : rowUp zs f n n = zs ++ (List.range n).map f := by
  unfold rowUp
  congr 1
  apply List.map_congr_left
  intro j hj
  rw [if_pos (List.mem_range.1 hj)]
theorem rowUp_set (zs : List Nat) (f : Nat → Nat) (n i : Nat) (h : i < n) : (rowUp zs f n i).set (zs.length + i) (f i) = rowUp zs f n (i + 1) := by
  unfold rowUp
  rw [List.set_append_right _ _ (by omega), show zs.length + i - zs.length = i by omega]
  congr 1
  apply List.ext_getElem?
  intro j
  rw [List.getElem?_set]
  simp only [List.length_map, List.length_range, List.getElem?_map]
  by_cases hj : j < n
  · rw [List.getElem?_range hj]
    simp only [Option.map_some]
    by_cases e : i = j
    · subst e; rw [if_pos rfl, if_pos h, if_pos (by omega)]
    · rw [if_neg e]
      by_cases h2 : j < i
      · rw [if_pos h2, if_pos (by omega)]
      · rw [if_neg h2, if_neg (by omega)]
  · rw [List.getElem?_eq_none (by simp; omega), if_neg (by omega)]; rfl

theorem set_bvp {w : World} {g p x : Nat} {l : List Nat} (h : w.heap[g]? = some (.cells (l.map bv).toArray 5 (0, 0))) : (w.setCell ⟨g, p, none⟩ (.int .u8 (x : Int))).heap[g]? = some (.cells ((l.set p x).map bv).toArray 5 (0, 0)) := by
  rw [heap_setCell_same w g p _ 5 _ h]
  simp [List.map_set, bv]

theorem splice_front (zs : List Nat) (n : Nat) : splice (madeCells (Value.int .u8 0).cells ((zs.length + n) * 1)).toList 0 (zs.map bv) = (zs ++ List.replicate n 0).map bv := by
  unfold splice
  rw [List.take_zero, List.nil_append, List.map_append, Nat.zero_add, List.length_map]
  congr 1
  apply List.ext_getElem
  · simp [madeCells]
  · intro j h1 h2
    simp [madeCells, Value.cells, bv, Nat.mod_one]

set_option maxHeartbeats 1000000 in
theorem longer_ok (v : Value) (zs : List Nat) (n : Nat) (w : World) (hr : Reads w v zs) (hn : zs.length + n ≤ 140737488355328) :
    Calls Try.prog 35 #[v, .int .i64 (n : Int)] w fun e w' => e = .returned (.slice (some ⟨w.heap.size, 0, none⟩) (zs.length + n) (zs.length + n)) ∧ w'.heap[w.heap.size]? = some (.cells ((zs ++ List.replicate n 0).map bv).toArray 5 (0, 0)) ∧ Below w.heap.size w w' := by
  obtain ⟨a, cap, rfl, hsrc⟩ := hr
  obtain ⟨i0, hi, hz0, hz1, hz2⟩ := info_parts info5
  have HS := hide hsrc
  clear hsrc
  go_enter Try.func35, Try.ntmps35
  go_wp2_with (first | (at_make; go_must (refine wpList_make_full _ rfl _ _ 23 rfl w.heap.size 5 i0 (.int .u8 0) 1 Try.underlying23 hi hz0 hz1 _ _ _ _ (zs.length + n) (by rfl) (by rfl) (by omega) (by omega) (by rw [hz2]; omega) (by unfold maxLen; omega) (Nat.le_refl _) ?_; intro w1 hown hgrow; have HO := hide (ownsRow_heap hown rfl).1; have HB := hide ((Below.refl w.heap.size w).grown hgrow (Nat.le_refl _) (by intro k h; cases h)); clear hown hgrow)) | (refine wpList_copy_splice rfl (.tmp 11) (.tmp 12) 23 23 rfl 5 Try.underlying23 size5 _ _ _ _ _ _ (by rfl) (by rfl) w.heap.size 0 _ 5 (unhide HO) (zs.map bv) (by simp) (fun h0 => ⟨rfl, by obtain ⟨ad, e, h2⟩ := unhide HS (by simpa using h0); exact ⟨ad, e, fun j u hj => cell_stays (unhide HB) (h2 j u hj)⟩⟩) (by simp [madeCells]) (by intro u hu; simp at hu; obtain ⟨z, _, rfl⟩ := hu; rfl) w.heap.size w (unhide HB) (Nat.le_refl _) ?_; intro w2 H2 hb2))
  go_ret
  refine ⟨rfl, ?_, hb2⟩
  rw [unhide H2, splice_front]

theorem shr8 (V r : Nat) : (V : Int) / 2 ^ (8 * r) = ((V / 256 ^ r : Nat) : Int) := by
  have h8 : 256 ^ r = 2 ^ (8 * r) := by rw [Nat.pow_mul]
  rw [h8]
  simp

theorem which28 (i n : Int) (w : World) : Calls Try.prog 44 #[.int .i64 i, .int .i64 n] w fun e w' => e = .returned (.int .i64 i) ∧ w' = w := by
  go_enter Try.func44, Try.ntmps44
  go_wp2
  go_ret
  exact ⟨rfl, rfl⟩

theorem put_arg (F : Fn) (vb : Value) (V n : Int) (h : n < 1 ∨ 8 < n) (w : World) :
    Calls Try.prog 43 #[vb, .int .u64 V, .int .i64 n, .func F #[] #[]] w fun e w' => e = .returned (.tuple #[.slice none 0 0, .int .i64 2]) ∧ w' = w := by
  by_cases h1 : n < 1
  · go_enter Try.func43, Try.ntmps43
    go_wp2_with fail
    go_ret2
    exact ⟨rfl, rfl⟩
  · have h2 : 8 < n := by omega
    go_enter Try.func43, Try.ntmps43
    go_wp2_with fail
    go_ret2
    exact ⟨rfl, rfl⟩

theorem put_big (F : Fn) (vb : Value) (V n : Nat) (hn : 1 ≤ n ∧ n ≤ 8) (hb : ¬ V < 256 ^ n) (w : World) :
    Calls Try.prog 43 #[vb, .int .u64 (V : Int), .int .i64 (n : Int), .func F #[] #[]] w fun e w' => e = .returned (.tuple #[.slice none 0 0, .int .i64 3]) ∧ w' = w := by
  have h1 : ¬ (n : Int) < 1 := by omega
  have h2 : ¬ 8 < (n : Int) := by omega
  have h0 : (0 : Int) ≤ 8 * (n : Int) := by omega
  have hsh := shr8 V n
  have hq : 0 < V / 256 ^ n := Nat.div_pos (by omega) (Nat.pow_pos (by omega))
  generalize V / 256 ^ n = q at hsh hq
  have hq' : ((q : Int) != 0) = true := by simp; omega
  clear hb
  go_enter Try.func43, Try.ntmps43
  go_wp2_with fail
  go_ret2
  exact ⟨rfl, rfl⟩

set_option maxRecDepth 100000 in
set_option maxHeartbeats 1000000 in
theorem put_ok28 (v : Value) (zs : List Nat) (V n : Nat) (hn : 1 ≤ n ∧ n ≤ 8) (hb : V < 256 ^ n) (w : World) (hr : Reads w v zs) (hl : zs.length + n ≤ 140737488355328) :
    Calls Try.prog 43 #[v, .int .u64 (V : Int), .int .i64 (n : Int), .func (.func 44) #[] #[]] w fun e w' => e = .returned (.tuple #[.slice (some ⟨w.heap.size, 0, none⟩) (zs.length + n) (zs.length + n), .int .i64 0]) ∧
      w'.heap[w.heap.size]? = some (.cells ((rowUp zs (fun i => V / 256 ^ (i) % 256) n n).map bv).toArray 5 (0, 0)) ∧ Below w.heap.size w w' := by
  have h1 : ¬ (n : Int) < 1 := by omega
  have h2 : ¬ 8 < (n : Int) := by omega
  have h0 : (0 : Int) ≤ 8 * (n : Int) := by omega
  have hsh : (V : Int) / 2 ^ (8 * n) = 0 := by rw [shr8 V n, Nat.div_eq_of_lt hb]; rfl
  have HV8 := hide (fun r => shr8 V r)
  clear hb
  have hlg := fun w hr => longer_ok v zs n w hr hl
  have HR := hide hr
  obtain ⟨a, cap, rfl, _⟩ := hr
  go_enter Try.func43, Try.ntmps43
  go_wp2_with fail
  refine (hlg _ (unhide HR)).mono ?_
  rintro e w1 ⟨rfl, hrow, hbel⟩
  rw [← rowUp_zero zs (fun i => V / 256 ^ (i) % 256) n] at hrow
  have HROW := hide hrow
  have HB := hide hbel
  clear hrow hbel hlg HR
  go_wp2_with fail
  go_loopg [11, 27] n (fun gk u c ws => ∃ i : Nat, gk = n - i ∧ i ≤ n ∧ c = .int .i64 (i : Int) ∧ ws.heap[w.heap.size]? = some (.cells ((rowUp zs (fun i => V / 256 ^ (i) % 256) n i).map bv).toArray 5 (0, 0)) ∧ Below w.heap.size w ws)
  case atStart => exact ⟨0, by omega, by omega, rfl, unhide HROW, unhide HB⟩
  case round =>
    obtain ⟨i, rfl, hil, rfl, hrow, hbel⟩ := hrel
    clear HROW HB
    by_cases hlt : i < n
    · have hlt' : (i : Int) < (n : Int) := by omega
      have h3 : (0 : Int) ≤ 8 * ((i : Nat) : Int) := by omega
      have hsv := unhide HV8 (i)
      have HS : Hid ((rowUp zs (fun i => V / 256 ^ (i) % 256) n i).set (zs.length + i) (V / 256 ^ (i) % 256) = _) := hide (rowUp_set zs (fun i => V / 256 ^ (i) % 256) n i hlt)
      have hlen := rowUp_length zs (fun i => V / 256 ^ (i) % 256) n i
      have hmod : (((V / 256 ^ (i) : Nat)) : Int) % 256 = ((V / 256 ^ (i) % 256 : Nat) : Int) := by omega
      have hd8 : V / 256 ^ (i) % 256 < 256 := Nat.mod_lt _ (by omega)
      generalize V / 256 ^ (i) % 256 = d at hmod hd8 HS
      generalize V / 256 ^ (i) = X at hsv hmod
      have hco : ∃ y : Int, wr.cell? ⟨w.heap.size, zs.length + i, none⟩ = some (.int .u8 y) := ⟨_, by
        simp only [World.cell?, hrow]
        rw [List.getElem?_toArray, List.getElem?_map, List.getElem?_eq_getElem (by omega)]
        rfl⟩
      obtain ⟨y, hco⟩ := hco
      have hfo : wr.frozen? ⟨w.heap.size, zs.length + i, none⟩ = false := by simp [World.frozen?, hrow]
      have HROW := hide hrow
      have HBEL := hide hbel
      clear hbel hrow hlen
      go_wp2_with (go_at_call 44; refine (which28 _ _ _).mono ?_; rintro e w' ⟨rfl, hw⟩; rw [hw])
      go_roundg (n - (i + 1))
      case measure => omega
      case rel =>
        refine ⟨i + 1, rfl, by omega, by go_num, ?_, ?_⟩
        · rw [← unhide HS]
          exact set_bvp (unhide HROW)
        · exact (Only.set ⟨(unhide HBEL).os, (unhide HBEL).tape, (unhide HBEL).output, (unhide HBEL).size, fun x hx _ => (unhide HBEL).block x hx⟩ _ _).below (Nat.le_refl _) (Nat.le_refl _)
    · obtain rfl : i = n := by omega
      have HROW := hide hrow
      have HBEL := hide hbel
      clear hbel hrow
      go_wp2_with fail
      go_ret2
      exact ⟨rfl, unhide HROW, unhide HBEL⟩
end Go.Proofs.Ytcppnkbfndhioaa.N
