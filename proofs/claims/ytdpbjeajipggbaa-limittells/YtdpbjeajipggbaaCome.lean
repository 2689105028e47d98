/- The symbols that come, in their order, in memory. -/
import Derived.Test.YtdpbjeajipggbaaOrder
import Derived.Test.YtdpbjeajipggbaaApp
namespace Go.Proofs.Ytdpbjeajipggbaa
open Go.RowKit Go.Sort Go.Lib
set_option linter.unusedVariables false

attribute [local go_sem ↓] Go.wp_at_zero Go.wp_at_succ

/-- their cells -/
def crow (os : List Int) (l : List Nat) : List Value := (List.range (2 * l.length)).map fun t => if t % 2 = 0 then iv (l.getD (t / 2) 0 : Nat) else iv (wt os (l.getD (t / 2) 0) : Nat)

theorem crow_len (os : List Int) (l : List Nat) : (crow os l).length = 2 * l.length := by simp [crow]

theorem crow_snoc (os : List Int) (l : List Nat) (i : Nat) : crow os (l ++ [i]) = crow os l ++ [iv (i : Nat), iv (wt os i : Nat)] := by
  unfold crow
  rw [List.length_append, show 2 * (l.length + [i].length) = 2 * l.length + 1 + 1 by simp; omega, List.range_succ, List.range_succ, List.map_append, List.map_append, List.append_assoc]
  congr 1
  · refine List.map_congr_left fun t ht => ?_
    simp at ht
    rw [List.getD_eq_getElem?_getD, List.getD_eq_getElem?_getD, List.getElem?_append_left (by omega)]
  · simp [show (2 * l.length + 1) % 2 = 1 by omega, show (2 * l.length + 1) / 2 = l.length by omega]

theorem crow_get (os : List Int) (l : List Nat) (t : Nat) (h : t < 2 * l.length) : (crow os l)[t]? = some (if t % 2 = 0 then iv (l.getD (t / 2) 0 : Nat) else iv (wt os (l.getD (t / 2) 0) : Nat)) := by
  unfold crow
  rw [List.getElem?_map, List.getElem?_range h]
  rfl

/-- A slice value that reads as the symbols that come. -/
def ComesAt (w : World) (v : Value) (os : List Int) (l : List Nat) : Prop :=
  ∃ a cap, v = .slice a l.length cap ∧ l.length ≤ cap ∧ (0 < l.length → ∃ g off, a = some ⟨g, off, none⟩ ∧ ∀ j, j < l.length → w.cell? ⟨g, off + j * 2, none⟩ = some (.int .i64 (l.getD j 0 : Nat)) ∧ w.cell? ⟨g, off + (j * 2 + 1), none⟩ = some (.int .i64 (wt os (l.getD j 0) : Nat)))

theorem ComesAt.stays {w w1 : World} (hb : Below w.heap.size w w1) {v : Value} {os : List Int} {l : List Nat} (h : ComesAt w v os l) : ComesAt w1 v os l := by
  obtain ⟨a, cap, rfl, hc, hs⟩ := h
  refine ⟨a, cap, rfl, hc, fun h0 => ?_⟩
  obtain ⟨g, off, rfl, h2⟩ := hs h0
  exact ⟨g, off, rfl, fun j hj => ⟨cell_stays hb (h2 j hj).1, cell_stays hb (h2 j hj).2⟩⟩

theorem info41 : (Try.prog.info? 41).map (fun i => (i.zero, i.size, i.bytes)) = some (some (.agg #[.int .i64 0, .int .i64 0]), 2, 16) := by kernel_rfl

theorem flat_get (os : List Int) (l : List Nat) (t : Nat) (h : t < 2 * l.length) : (flatK encC 2 (l.map (pair os)).toArray)[t]! = (if t % 2 = 0 then iv (l.getD (t / 2) 0 : Nat) else iv (wt os (l.getD (t / 2) 0) : Nat)) := by
  rw [get_flatK _ _ _ _ (by simp; omega)]
  have h2 : t / 2 < l.length := by omega
  have e : (l.map (pair os)).toArray[t / 2]! = pair os (l.getD (t / 2) 0) := by
    rw [getElem!_pos _ _ (by simpa using h2)]
    simp [h2]
  rw [e]
  by_cases h3 : t % 2 = 0
  · rw [if_pos h3, h3]; rfl
  · rw [if_neg h3, show t % 2 = 1 by omega]; rfl

theorem holds_own {w : World} {base k g cap : Nat} {os : List Int} {l : List Nat} (h : w.ownsRow base 41 2 (.slice (some ⟨g, 0, none⟩) k cap) k (crow os l)) (hk : k = l.length) : HoldsK encC 2 w g 0 (l.map (pair os)).toArray := by
  subst hk
  rcases h.2 with ⟨e, e'⟩ | ⟨g', cap', cur, e, hb, hh, hn, hc, hs, ht⟩
  · cases e
  · injection e with e1 e2 e3
    injection e1 with e1
    injection e1 with e1
    subst e1
    intro j hj
    have hj2 : j < 2 * l.length := by simp at hj; omega
    constructor
    · have h2 : (cur.toList.take (l.length * 2))[j]? = (crow os l)[j]? := by rw [ht]
      rw [List.getElem?_take, if_pos (by omega), crow_get os l j hj2] at h2
      simp only [World.cell?, hh, Nat.zero_add]
      rw [flat_get os l j hj2]
      simpa using h2
    · simp [World.frozen?, hh]

theorem below_sort {w : World} {B g n : Nat} {d : Array (Int × Int)} {ob : Array Obj} (hB : B ≤ g) (hs : B ≤ w.heap.size) : Below B w (sortWorldK encC 2 w g 0 n d ob) := by
  refine ⟨rfl, rfl, rfl, ?_, fun k hk => ?_⟩
  · exact size_sortWorldK_c encC 2 w g 0 n d ob
  · unfold sortWorldK grow
    simp only
    rw [Array.getElem?_append_left (by rw [size_putRowK]; exact Nat.lt_of_lt_of_le hk hs)]
    show (w.heap.modify g _)[k]? = w.heap[k]?
    rw [Array.getElem?_modify, if_neg (by omega)]

theorem comes_holds {w : World} {g k cap : Nat} {os : List Int} {l : List Nat} (h : HoldsK encC 2 w g 0 (l.map (pair os)).toArray) (hk : k = l.length) (hc : k ≤ cap) : ComesAt w (.slice (some ⟨g, 0, none⟩) k cap) os l := by
  subst hk
  refine ⟨_, cap, rfl, hc, fun h0 => ⟨g, 0, rfl, fun j hj => ⟨?_, ?_⟩⟩⟩
  · have := (h (j * 2) (by simp; omega)).1
    rw [flat_get os l (j * 2) (by omega), if_pos (by omega), show j * 2 / 2 = j by omega] at this
    exact this
  · have := (h (j * 2 + 1) (by simp; omega)).1
    rw [flat_get os l (j * 2 + 1) (by omega), if_neg (by omega), show (j * 2 + 1) / 2 = j by omega] at this
    exact this

theorem sort_ok (os : List Int) (base k : Nat) (v : Value) (w : World) (h : w.ownsRow base 41 2 v k (crow os (raw os os.length))) (hk : k = (raw os os.length).length) (hn : k ≤ 65536) :
    Calls Try.prog 19 #[v, .func (.func 20) #[] #[]] w fun e w' => e = .returned (.tuple #[]) ∧ ∃ l, IsOrder os l ∧ l.length = k ∧ ComesAt w' v os l ∧ (base ≤ w.heap.size → Below base w w') := by
  obtain ⟨l, hl, hlen, hm⟩ := sort_order os
  by_cases h0 : k = 0
  · have hl0 : l = [] := List.length_eq_zero_iff.1 (by omega)
    obtain ⟨a, c, rfl⟩ : ∃ a c, v = .slice a 0 c := by
      rcases h.2 with ⟨e, e'⟩ | ⟨g', cap', cur, e, _⟩
      · exact ⟨none, 0, e⟩
      · exact ⟨_, cap', by rw [e, h0]⟩
    have hcon := AnyF.slices_SortFunc_none (P := Try.prog) (ρ := Try.sortCome_ren) Try.sortCome a c (.func (.func 20) #[] #[]) w
    refine Calls.mono (f := 19) hcon fun e w' ⟨he, hw⟩ => ⟨he, l, hl, by omega, ⟨a, c, by rw [hl0]; rfl, by rw [hl0]; exact Nat.zero_le _, fun h => by rw [hl0] at h; cases h⟩, fun _ => by rw [hw]; exact Below.refl _ _⟩
  · obtain ⟨g, cap, cur, rfl, hb, hh, hcap⟩ : ∃ g cap cur, v = .slice (some ⟨g, 0, none⟩) k cap ∧ base ≤ g ∧ w.heap[g]? = some (.cells cur 41 (0, 0)) ∧ k ≤ cap := by
      rcases h.2 with ⟨e, e'⟩ | ⟨g', cap', cur, e, hb, hh, hn, _⟩
      · omega
      · exact ⟨g', cap', cur, e, hb, hh, hn⟩
    have hH := holds_own h hk
    have eg : ∀ args w, (callFunc 20 args).run Try.prog w = .ok (.enter 20 args) w := enters_of Try.func20 (by kernel_rfl) rfl
    have hcon := AnyQ.slices_SortFunc_total (P := Try.prog) (ρ := Try.sortCome_ren) Try.sortCome 2 Try.isAgg41 Try.sizeOf41 encC (fun _ => rfl) (fun x v hv => by simp [encC] at hv; rcases hv with rfl | rfl <;> rfl) cf cf_swo 20 #[] g 0 cap ((raw os os.length).map (pair os)).toArray w eg
      (fun _ _ _ _ x y => closure20 x y _) hH (heap_lt hh) (by simp; omega) cf_total
    have hsz : ((raw os os.length).map (pair os)).toArray.size = k := by simp [hk]
    rw [hsz] at hcon
    refine Calls.mono (f := 19) hcon fun e w' ⟨he, n, ob, hw⟩ => ⟨he, l, hl, by omega, ?_, fun hs => by rw [hw]; exact below_sort hb hs⟩
    have e2 : (((raw os os.length).map (pair os)).toArray.toList.mergeSort fun x y => !(ltOf cf) y x).toArray = (l.map (pair os)).toArray := by rw [← hm]
    rw [e2] at hw
    rw [hw]
    exact comes_holds (holdsK_sortWorldK_c encC 2 w g 0 _ _ n ob hH (heap_lt hh) (by simp [hlen])) (by omega) hcap

end Go.Proofs.Ytdpbjeajipggbaa
