/- What is written is read again: Unfront of Front, Places of Symbols (P11.7). -/
import Derived.Test.YtgafabhhalhccaaFo
import Derived.Test.YtgafabhhalhccaaPl
namespace Go.Proofs.Ytgafabhhalhccaa
open Go.RowKit Runs
set_option linter.unusedVariables false

/-- the places, as ints -/
def placesI (b : List Nat) : List Int := (frontF b).map fun k : Nat => (k : Int)

theorem placesI_len (b : List Nat) : (placesI b).length = b.length := by unfold placesI frontF; rw [List.length_map, front_len]

theorem used_up (b : List Nat) : Up (usedF b) := fun i hi => by
  have h := List.pairwise_iff_getElem.1 (used_sorted b) i (i + 1) (by omega) hi (by omega)
  rw [List.getD_eq_getElem?_getD, List.getD_eq_getElem?_getD, List.getElem?_eq_getElem (by omega), List.getElem?_eq_getElem hi]
  exact h

theorem all_used {b : List Nat} (hb : ∀ z ∈ b, z < 256) : ∀ z ∈ b, z ∈ usedF b := fun z hz => mem_used.2 ⟨hb z hz, hz⟩

theorem unfront_front {b : List Nat} (hb : ∀ z ∈ b, z < 256) : unfrontOut (usedF b) (placesI b) = (b, 0) := by
  unfold unfrontOut
  rw [if_pos (used_up b)]
  have := unf_front b (usedF b) [] (all_used hb)
  rw [List.nil_append] at this
  exact this

theorem used_pos {b : List Nat} (hb : ∀ z ∈ b, z < 256) (hne : b ≠ []) : 1 ≤ (usedF b).length := by
  cases b with
  | nil => exact absurd rfl hne
  | cons c r => exact List.length_pos_of_mem (all_used hb c (List.mem_cons_self ..))

/-- the symbols of a text's places -/
theorem sym_front {b : List Nat} (hb : ∀ z ∈ b, z < 256) (hne : b ≠ []) : symOut (placesI b) ((usedF b).length : Nat) = ((symG (usedF b).length (frontF b) 0).map (fun d : Nat => (d : Int)), 0) := by
  have h1 := used_pos hb hne
  have h2 := used_len b
  unfold symOut
  rw [if_neg (by omega)]
  have := symI_sym (usedF b).length (frontF b) 0 [] (front_lt b (usedF b) (all_used hb))
  rw [List.nil_append] at this
  exact this

theorem places_sym {b : List Nat} (hb : ∀ z ∈ b, z < 256) (hne : b ≠ []) (hn : b.length ≤ 1048576) : placesOut (symOut (placesI b) ((usedF b).length : Nat)).1 ((usedF b).length : Nat) (b.length : Nat) = (placesI b, 0) := by
  have h1 := used_pos hb hne
  have h2 := used_len b
  rw [sym_front hb hne]
  unfold placesOut
  rw [if_neg (by omega)]
  have h3 := plc_sym (usedF b).length (b.length : Int) (frontF b) 0 [] (front_lt b (usedF b) (all_used hb)) h1 (by unfold frontF; rw [front_len]; simp) (by unfold frontF; rw [front_len]; omega)
  have h4 := plcI_plc ((usedF b).length : Nat) (b.length : Int) ((symG (usedF b).length (frontF b) 0).map fun d : Nat => (d : Int)) 0 0 []
  rw [h3] at h4
  unfold placesI
  simpa using h4

end Go.Proofs.Ytgafabhhalhccaa
