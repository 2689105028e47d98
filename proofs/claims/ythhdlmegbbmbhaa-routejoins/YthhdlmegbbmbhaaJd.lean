/- The document's Join. -/
import Derived.Test.YthhdlmegbbmbhaaRi
namespace Go.Proofs.Ythhdlmegbbmbhaa
open Go.RowKit Go.Shelf
set_option linter.unusedVariables false

namespace Doc

theorem bsOf_take (xs : List ByteArray) (k : Nat) : bsOf (xs.take k) = (bsOf xs).take k := by unfold bsOf; rw [List.map_take]

/-- the text of the first names -/
def sofar (xs : List ByteArray) (k : Nat) : List UInt8 := jn ((bsOf xs).take k)

theorem sofar_len (xs : List ByteArray) (k : Nat) : (sofar xs k).length ≤ (jn (bsOf xs)).length := by
  have h : ∀ (a b : List (List UInt8)), (jn a).length ≤ (jn (a ++ b)).length := by
    intro a b
    by_cases ha : a = []
    · subst ha; simp [jn]
    by_cases hb : b = []
    · subst hb; simp
    rw [jn_app a b ha hb, List.length_append]
    omega
  have := h ((bsOf xs).take k) ((bsOf xs).drop k)
  rw [List.take_append_drop] at this
  exact this

theorem sofar_one {xs : List ByteArray} {x : ByteArray} (h : xs[0]? = some x) : sofar xs 1 = x.data.toList := by
  cases xs with
  | nil => simp at h
  | cons a r => simp at h; subst h; rfl

theorem jn_snoc (a : List (List UInt8)) (x : List UInt8) (h : a ≠ []) : jn (a ++ [x]) = jn a ++ 47 :: x := by
  have := jn_app a [x] h (by simp)
  rw [this]
  rfl

theorem sofar_next {xs : List ByteArray} {x : ByteArray} {k : Nat} (h : xs[k]? = some x) (hk : 0 < k) : sofar xs (k + 1) = sofar xs k ++ 47 :: x.data.toList := by
  have hl : k < xs.length := (List.getElem?_eq_some_iff.1 h).1
  have hx : xs[k] = x := (List.getElem?_eq_some_iff.1 h).2
  unfold sofar
  have hlb : k < (bsOf xs).length := by unfold bsOf; rw [List.length_map]; exact hl
  rw [List.take_succ_eq_append_getElem hlb, jn_snoc _ _ (by
    intro e
    have := congrArg List.length e
    rw [List.length_take] at this
    simp only [List.length_nil] at this
    omega)]
  congr 2
  simp only [bsOf, List.getElem_map, hx]

/-- too long already: no path -/
theorem join_long {xs : List ByteArray} {k : Nat} (h : 1024 < (sofar xs k).length) : joinOk xs = false := by
  unfold joinOk
  have h2 := sofar_len xs k
  have : validL (jn (bsOf xs)) = false := by
    unfold validL
    rw [decide_eq_false (by omega : ¬ (jn (bsOf xs)).length ≤ 1024), Bool.false_and, Bool.false_and]
  rw [this, Bool.and_false]

theorem join_end {xs : List ByteArray} (h : (bsOf xs).all nameL = true) (hv : validL (jn (bsOf xs)) = true) : joinOk xs = true := by
  unfold joinOk
  rw [h, hv]
  rfl

set_option maxHeartbeats 4000000 in
theorem join_ok (a : Option Addr) (cap : Nat) (xs : List ByteArray) (w : World) (h : 0 < xs.length → ∃ b off, a = some ⟨b, off, none⟩ ∧ StrsAt w b off xs ∧ b < w.heap.size) (hc : xs.length ≤ cap) (hn : xs.length ≤ 9223372036854775807) (hs : ∀ x, x ∈ xs → x.size ≤ 9223372036854775807) :
    Calls Try.prog 25 #[.slice a xs.length cap] w fun e w' => e = .returned (.tuple #[.string (joinS xs), .int .i64 (joinE xs)]) ∧ Below w.heap.size w w' := by
  have H := hide h
  have HS := hide hs
  clear h hs
  go_enter Try.func25, Try.ntmps25
  go_wp2_with fail
  go_loopw [4, 5] (fun t i wr => ∃ k : Nat, t = .string ⟨(sofar xs k).toArray⟩ ∧ i = .int .i64 (k : Int) ∧ k ≤ xs.length ∧ wr = w ∧ (sofar xs k).length ≤ 1300 ∧ ∀ (j : Nat) x, xs[j]? = some x → j < k → nameL x.data.toList = true) (fun _ i _ => ((xs.length : Int) - intOf i).toNat)
  case atStart => exact ⟨0, rfl, rfl, Nat.zero_le _, rfl, by simp [sofar, jn], fun j x _ h => absurd h (Nat.not_lt_zero _)⟩
  case round =>
    obtain ⟨k, rfl, rfl, hk, rfl, hle, hnm⟩ := hrel
    by_cases hlt : k < xs.length
    · obtain ⟨b, off, rfl, hst, hbl⟩ := (unhide H) (by omega)
      have hki : (k : Int) < (xs.length : Int) := by omega
      obtain ⟨x, hx⟩ : ∃ x, x = xs[k] := ⟨_, rfl⟩
      have hxk : xs[k]? = some x := by rw [hx, List.getElem?_eq_getElem hlt]
      have c0 := hst k x hxk
      have HN := hide (name_ok x wr ((unhide HS) x (List.mem_of_getElem? hxk)))
      have HNM := hide hnm
      have HX := hide hxk
      have HST := hide hst
      clear hnm hx hst
      obtain ⟨t, ht⟩ : ∃ t : ByteArray, t = ⟨(sofar xs k).toArray⟩ := ⟨_, rfl⟩
      have hts : t.size = (sofar xs k).length := by rw [ht]; exact List.size_toArray
      have htl : t.data.toList = sofar xs k := by rw [ht]
      rw [← ht]
      have htb : (t.size : Int) ≤ 1300 := by omega
      cases hnx : nameL x.data.toList with
      | false =>
        have hj := join_bad hxk hnx
        have e1 : joinS xs = ⟨#[]⟩ := by unfold joinS; rw [hj]; rfl
        have e2 : joinE xs = 20 := by unfold joinE; rw [hj]; rfl
        have E := hide (And.intro e1 e2)
        rw [hnx] at HN
        clear hj e1 e2 hnx hxk ht htl hle hts
        go_wp2_with fail
        refine (unhide HN).mono ?_
        rintro e w1 ⟨rfl, rfl⟩
        go_wp2_with fail
        go_ret2
        exact ⟨by rw [(unhide E).1, (unhide E).2]; rfl, Below.refl _ _⟩
      | true =>
        have hxs : x.size ≤ 255 := by have := nameL_le hnx; simpa using this
        have HNX := hide hnx
        rw [hnx] at HN
        by_cases hlong : 1024 < t.size
        · have hl2 : (1024 : Int) < (t.size : Int) := by omega
          have hj := join_long (xs := xs) (k := k) (by omega)
          have e1 : joinS xs = ⟨#[]⟩ := by unfold joinS; rw [hj]; rfl
          have e2 : joinE xs = 20 := by unfold joinE; rw [hj]; rfl
          have E := hide (And.intro e1 e2)
          clear hj e1 e2 hnx hxk ht htl hle hts
          go_wp2_with fail
          refine (unhide HN).mono ?_
          rintro e w1 ⟨rfl, rfl⟩
          go_wp2_with fail
          go_ret2
          exact ⟨by rw [(unhide E).1, (unhide E).2]; rfl, Below.refl _ _⟩
        · have hl2 : ¬ (1024 : Int) < (t.size : Int) := by omega
          by_cases hk0 : k = 0
          · subst hk0
            have ht0 : t = ⟨#[]⟩ := by rw [ht]; rfl
            have hs1 := sofar_one hxk
            have HS1 := hide hs1
            subst ht0
            rw [Nat.add_zero] at c0
            clear hnx hxk ht htl hle hts hs1
            go_wp2_with fail
            refine (unhide HN).mono ?_
            rintro e w1 ⟨rfl, rfl⟩
            go_wp2_with fail
            refine ⟨⟨1, ?_, by simp, by omega, by first | rfl | trivial, by rw [unhide HS1]; have e : x.data.toList.length = x.size := (by simp); omega, fun j y hy hj => ?_⟩, by simp [intOf]; try omega⟩
            · rw [unhide HS1]
              first
                | rfl
                | (congr 1
                   apply ByteArray.ext
                   apply Array.toList_inj.1
                   simp [ByteArray.data_append])
            · obtain rfl : j = 0 := by omega
              have e2 := (unhide HX).symm.trans hy
              injection e2 with e2
              subst e2
              exact unhide HNX
          · have hk1 : (0 : Int) < (k : Int) := by omega
            have hs1 := sofar_next hxk (by omega)
            have HS1 := hide hs1
            have HTL := hide htl
            clear hnx hxk ht htl hle hts hs1
            go_wp2_with fail
            refine (unhide HN).mono ?_
            rintro e w1 ⟨rfl, rfl⟩
            go_wp2_with fail
            refine ⟨⟨k + 1, ?_, by simp, by omega, by first | rfl | trivial, ?_, fun j y hy hj => ?_⟩, by simp [intOf]; omega⟩
            · rw [unhide HS1]
              congr 1
              apply ByteArray.ext
              apply Array.toList_inj.1
              rw [ByteArray.data_append, ByteArray.data_append, Array.toList_append, Array.toList_append, unhide HTL]
              simp
            · rw [unhide HS1, List.length_append, List.length_cons]
              have e1 : x.data.toList.length = x.size := (by simp)
              have e3 : (sofar xs k).length = t.size := by rw [← unhide HTL]; simp
              omega
            · rcases Nat.lt_or_ge j k with h | h
              · exact unhide HNM j y hy h
              · have e : j = k := by omega
                subst e
                have e2 := (unhide HX).symm.trans hy
                injection e2 with e2
                subst e2
                exact unhide HNX
    · obtain rfl : k = xs.length := by omega
      have hall := all_names (fun j x hx _ => hnm j x hx (List.getElem?_eq_some_iff.1 hx).1)
      have hsf : sofar xs xs.length = jn (bsOf xs) := by
        unfold sofar
        rw [List.take_of_length_le (by unfold bsOf; rw [List.length_map]; exact Nat.le_refl _)]
      have hki : ¬ (xs.length : Int) < (xs.length : Int) := by omega
      obtain ⟨t, ht⟩ : ∃ t : ByteArray, t = ⟨(sofar xs xs.length).toArray⟩ := ⟨_, rfl⟩
      have htl : t.data.toList = jn (bsOf xs) := by rw [ht, ← hsf]
      have hts : t.size = (sofar xs xs.length).length := by rw [ht]; exact List.size_toArray
      have HV := hide (fun w => valid_ok t w (by omega))
      rw [htl] at HV
      rw [← ht]
      have hok : joinOk xs = validL (jn (bsOf xs)) := by unfold joinOk; rw [hall, Bool.true_and]
      have hjt : (⟨(jn (bsOf xs)).toArray⟩ : ByteArray) = t := by rw [ht, hsf]
      have HOK := hide hok
      have HJT := hide hjt
      clear hnm hall hsf ht htl hts hok hjt hle
      cases hv : validL (jn (bsOf xs)) with
      | false =>
        have e1 : joinS xs = ⟨#[]⟩ := by unfold joinS; rw [unhide HOK, hv]; rfl
        have e2 : joinE xs = 20 := by unfold joinE; rw [unhide HOK, hv]; rfl
        have E := hide (And.intro e1 e2)
        rw [hv] at HV
        clear hv e1 e2
        go_wp2_with fail
        refine (unhide HV _).mono ?_
        rintro e w1 ⟨rfl, hb1⟩
        have HB := hide hb1
        clear hb1
        go_wp2_with fail
        go_ret2
        exact ⟨by rw [(unhide E).1, (unhide E).2]; rfl, unhide HB⟩
      | true =>
        have e1 : joinS xs = t := by unfold joinS; rw [unhide HOK, hv, if_pos rfl, unhide HJT]
        have e2 : joinE xs = 0 := by unfold joinE; rw [unhide HOK, hv]; rfl
        have E := hide (And.intro e1 e2)
        rw [hv] at HV
        clear hv e1 e2
        go_wp2_with fail
        refine (unhide HV _).mono ?_
        rintro e w1 ⟨rfl, hb1⟩
        have HB := hide hb1
        clear hb1
        go_wp2_with fail
        go_ret2
        exact ⟨by rw [(unhide E).1, (unhide E).2]; rfl, unhide HB⟩

end Doc
end Go.Proofs.Ythhdlmegbbmbhaa
