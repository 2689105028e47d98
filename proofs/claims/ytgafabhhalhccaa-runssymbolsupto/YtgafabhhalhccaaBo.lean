/- bytesOf: which bytes come in a text, rising. -/
import Derived.Test.YtgafabhhalhccaaIb
import Derived.Deep.MidRow
namespace Go.Proofs.Ytgafabhhalhccaa
open Go.RowKit Runs
set_option maxRecDepth 100000
set_option linter.unusedVariables false
attribute [local go_sem ↓] Go.wp_at_zero Go.wp_at_succ

def bcells (C : Nat → Bool) : List Value := (List.range 256).map fun i => Value.bool (C i)

def BoolsAt (w : World) (g : Nat) (C : Nat → Bool) : Prop := w.heap[g]? = some (.cells (bcells C).toArray 71 (0, 0))

theorem zero64 (w : World) : (zeroValue 71).run Try.prog w = .ok (.agg (bcells fun _ => false).toArray) w :=
  (zero_of_info (P := Try.prog) (t := 71) (v := .agg (bcells fun _ => false).toArray) (n := 256) (by kernel_rfl)).1 w

theorem bcells_at (C : Nat → Bool) (i : Nat) (hi : i < 256) : (bcells C)[i]? = some (.bool (C i)) := by
  unfold bcells
  rw [List.getElem?_map, List.getElem?_range hi]
  rfl
theorem bcells_len (C : Nat → Bool) : (bcells C).length = 256 := by simp [bcells]

theorem BoolsAt.cell {w : World} {g : Nat} {C : Nat → Bool} (h : BoolsAt w g C) (i : Nat) (hi : i < 256) : w.cell? ⟨g, i, none⟩ = some (.bool (C i)) := by
  simp only [World.cell?, show w.heap[g]? = _ from h, List.getElem?_toArray]
  exact bcells_at C i hi
theorem BoolsAt.free {w : World} {g : Nat} {C : Nat → Bool} (h : BoolsAt w g C) (i : Nat) : w.frozen? ⟨g, i, none⟩ = false := by
  simp [World.frozen?, show w.heap[g]? = _ from h]
theorem BoolsAt.lt {w : World} {g : Nat} {C : Nat → Bool} (h : BoolsAt w g C) : g < w.heap.size := heap_lt h
theorem BoolsAt.congr {w : World} {g : Nat} {C C' : Nat → Bool} (h : BoolsAt w g C) (hc : ∀ i, i < 256 → C i = C' i) : BoolsAt w g C' := by
  unfold BoolsAt
  rw [show bcells C' = bcells C from List.map_congr_left fun i hi => by rw [hc i (List.mem_range.1 hi)]]
  exact h
theorem BoolsAt.set {w : World} {g : Nat} {C : Nat → Bool} (h : BoolsAt w g C) (i : Nat) (x : Bool) : BoolsAt (w.setCell ⟨g, i, none⟩ (.bool x)) g (fun j => if j = i then x else C j) := by
  unfold BoolsAt
  rw [heap_setCell_same w g i _ 71 (.bool x) h]
  congr 2
  apply Array.ext (by simp [bcells])
  intro j j1 j2
  have hj : j < 256 := by simpa [bcells] using j2
  rw [Array.getElem_setIfInBounds (by simpa [bcells] using hj)]
  simp only [bcells, List.getElem_toArray, List.getElem_map, List.getElem_range]
  by_cases e : i = j
  · subst e; simp
  · rw [if_neg e, if_neg (fun q => e q.symm)]

theorem brange_of {w : World} {g : Nat} {C : Nat → Bool} (h : BoolsAt w g C) : w.rangeAt g 0 (bcells C) := by
  intro j v hv
  have hj : j < 256 := by
    have := (List.getElem?_eq_some_iff.1 hv).1
    rwa [bcells_len] at this
  rw [bcells_at C j hj] at hv
  cases hv
  rw [Nat.zero_add]
  exact h.cell j hj

theorem run_index_bool (C : Nat → Bool) (CS : List Value) (hCS : CS = bcells C) (v : Nat) (hv : v < 256) (w : World) : (Instr.index 71 (.agg CS.toArray) (.int .i64 (v : Int))).run Try.prog w = .ok (.bool (C v)) w := by
  have hz : (Go.sizeOf 4).run Try.prog w = .ok 1 w := Try.sizeOf4 w
  have h2 : CS[v]? = some (.bool (C v)) := by rw [hCS]; exact bcells_at C v hv
  simp [Instr.index, run_underlying Try.underlying71, asIntOf, hv, go_sem, hz, h2]

theorem take_mem {b : List Nat} {k : Nat} (hk : k < b.length) (i : Nat) : i ∈ b.take (k + 1) ↔ (i ∈ b.take k ∨ i = b.getD k 0) := by
  rw [List.take_add_one, List.getElem?_eq_getElem hk, List.mem_append, List.getD_eq_getElem?_getD, List.getElem?_eq_getElem hk]
  simp

/-- the bytes below one that come -/
def usedTo (b : List Nat) (c : Nat) : List Nat := (List.range c).filter fun c => decide (c ∈ b)

theorem usedTo_succ (b : List Nat) (c : Nat) : usedTo b (c + 1) = usedTo b c ++ if c ∈ b then [c] else [] := by
  unfold usedTo
  rw [List.range_succ, List.filter_append]
  congr 1
  by_cases h : c ∈ b
  · rw [if_pos h]; simp [h]
  · rw [if_neg h]; simp [h]

theorem usedTo_len (b : List Nat) (c : Nat) : (usedTo b c).length ≤ c := by
  have := List.length_filter_le (fun c => decide (c ∈ b)) (List.range c)
  rwa [List.length_range] at this

set_option maxHeartbeats 4000000 in
theorem bytesOf_ok (b : List Nat) (a0 : Option Addr) (cap : Nat) (w : World) (hc : BytesIn w a0 b) (hb : ∀ z ∈ b, z < 256) (hn : b.length ≤ 1048576) :
    Calls Try.prog 28 #[.slice a0 b.length cap] w fun e w' => ∃ v, e = .returned v ∧ StB w w' v (usedF b) := by
  have HC := hide hc
  have HBB := hide hb
  obtain ⟨n, hN⟩ : ∃ n, n = b.length := ⟨_, rfl⟩
  have HN := hide hN
  rw [← hN] at hn ⊢
  clear hN hc hb
  obtain ⟨H, hH⟩ : ∃ H, H = w.heap.size := ⟨_, rfl⟩
  have hz := zero64 w
  obtain ⟨ZC, hZC⟩ : ∃ ZC, ZC = (bcells fun _ => false).toArray := ⟨_, rfl⟩
  rw [← hZC] at hz
  have H0 : Hid (BoolsAt (w.alloc (.cells ZC 71)) H (fun i => decide (i ∈ b.take 0))) := hide (by
    rw [hZC, hH]
    exact BoolsAt.congr (C := fun _ => false) (heap_alloc_new _ _) (fun i _ => by simp))
  have HB : Hid (Below H w (w.alloc (.cells ZC 71))) := hide (by rw [hH]; exact (Below.refl _ _).alloc (Nat.le_refl _) _)
  have HH := hide hH
  clear hZC
  go_enter Try.func28, Try.ntmps28
  go_wp2_with fail
  rw [← hH]
  clear hH hz
  go_loopg [11] n (fun gk d ws => ∃ (k : Nat), gk = n - k ∧ k ≤ n ∧ d = .int .i64 (k : Int) ∧ Hid (BoolsAt ws H (fun i => decide (i ∈ b.take k))) ∧ Hid (Below H w ws))
  case atStart => exact ⟨0, by omega, by omega, rfl, H0, HB⟩
  case round =>
    clear H0 HB
    obtain ⟨k, rfl, hk, rfl, H0, HB⟩ := hrel
    by_cases hlt : k < n
    · have tl : (k : Int) < (n : Int) := by omega
      have hkb : k < b.length := by rw [← unhide HN]; exact hlt
      obtain ⟨g, off, rfl, c1⟩ := unhide HC k hkb
      have hx := unhide HBB _ (getD_mem hkb)
      have d1 : wr.cell? ⟨g, off + k, none⟩ = some (.int .u8 ((b.getD k 0 : Nat) : Int)) := by
        rw [(unhide HB).cell (by rw [unhide HH]; exact cell_lt c1)]; exact c1
      have HS : Hid (BoolsAt (wr.setCell ⟨H, b.getD k 0, none⟩ (.bool true)) H (fun i => decide (i ∈ b.take (k + 1)))) := hide (((unhide H0).set (b.getD k 0) true).congr fun i _ => by
        rw [decide_eq_decide.2 (take_mem hkb i)]
        by_cases e : i = b.getD k 0
        · rw [if_pos e, decide_eq_true (.inr e)]
        · rw [if_neg e, decide_eq_decide]
          exact ⟨.inl, fun h => h.resolve_right e⟩)
      have d2 := (unhide H0).cell (b.getD k 0) hx
      have d3 := (unhide H0).free (b.getD k 0)
      generalize b.getD k 0 = x at *
      generalize decide (x ∈ b.take k) = y at d2
      have hxi : (x : Int) < 256 := by omega
      clear c1
      go_wp2_with fail
      go_roundg (n - (k + 1))
      case measure => omega
      case rel => exact ⟨k + 1, rfl, by omega, by go_num, HS, hide ((unhide HB).setCell (Nat.le_refl _) _)⟩
    · obtain rfl : k = n := by omega
      have tl : ¬ (k : Int) < (k : Int) := by omega
      have H1 : Hid (BoolsAt wr H (fun i => decide (i ∈ b))) := hide (by
        have := unhide H0
        rw [unhide HN, List.take_length] at this
        exact this)
      obtain ⟨CS, hCS⟩ : ∃ CS, CS = bcells (fun i => decide (i ∈ b)) := ⟨_, rfl⟩
      have hrg := brange_of (unhide H1)
      have hln : (Try.prog.info? 71).map (·.size) = some CS.length := by rw [hCS, bcells_len]; kernel_rfl
      rw [← hCS] at hrg
      have HCS := hide hCS
      clear hCS H0
      go_wp2_with (refine wpList_load_mid rfl 71 _ rfl H 0 rfl CS (.array 256 4) hrg Try.underlying71 rfl hln ?_)
      clear hrg hln H1
      have HU0 : Hid (StB w wr (.slice none 0 0) (usedTo b 0)) := hide (StB.none w wr (by rw [← unhide HH]; exact unhide HB))
      clear HB
      go_loopg [6, 19] 256 (fun gk o d ws => ∃ (c : Nat), gk = 256 - c ∧ c ≤ 256 ∧ d = .int .i64 (c : Int) ∧ Hid (StB w ws o (usedTo b c)))
      case atStart => exact ⟨0, by omega, by omega, rfl, HU0⟩
      case round =>
        clear HU0
        obtain ⟨c, rfl, hc, rfl, HU⟩ := hrel
        rename World => wc
        by_cases hcl : c < 256
        · have tc : (c : Int) < 256 := by omega
          have c1 := run_index_bool (fun i => decide (i ∈ b)) CS (unhide HCS) c hcl wc
          have hus := usedTo_succ b c
          have hul := usedTo_len b c
          have f3 : IntKind.u8.wrap (c : Int) = (c : Int) := by rw [IntKind.wrap_u8']; omega
          have f4 : (c : Int) % 256 = (c : Int) := by omega
          by_cases hcb : c ∈ b
          · rw [if_pos hcb] at hus
            have hd : decide (c ∈ b) = true := decide_eq_true hcb
            rw [hd] at c1
            have HUS := hide hus
            clear hus hcb hd
            go_wp2_with (at_builtin; refine wp_oneB rfl _ _ rfl _ _ c (by rfl) (by rfl) (unhide HU) (by omega) ?_; intro v3 w3 h3 _ _ _; have H3 := hide h3; clear h3)
            go_roundg (256 - (c + 1))
            case measure => omega
            case rel => exact ⟨c + 1, rfl, by omega, by go_num, hide (by rw [unhide HUS]; exact unhide H3)⟩
          · rw [if_neg hcb, List.append_nil] at hus
            have hd : decide (c ∈ b) = false := decide_eq_false hcb
            rw [hd] at c1
            have HUS := hide hus
            clear hus hcb hd
            go_wp2_with fail
            go_roundg (256 - (c + 1))
            case measure => omega
            case rel => exact ⟨c + 1, rfl, by omega, by go_num, hide (by rw [unhide HUS]; exact unhide HU)⟩
        · obtain rfl : c = 256 := by omega
          go_wp2_with fail
          go_ret
          exact ⟨_, rfl, unhide HU⟩
end Go.Proofs.Ytgafabhhalhccaa
