/- Join. -/
import Derived.Test.YthhdlmegbbmbhaaPa
namespace Go.Proofs.Ythhdlmegbbmbhaa
open Go.RowKit Go.Shelf
set_option linter.unusedVariables false

/-- texts that lie side by side -/
def StrsAt (w : World) (b off : Nat) (xs : List ByteArray) : Prop := ∀ (j : Nat) x, xs[j]? = some x → w.cell? ⟨b, off + j, none⟩ = some (.string x)

/-- the lists of their bytes -/
def bsOf (xs : List ByteArray) : List (List UInt8) := xs.map (·.data.toList)

/-- Join's answer -/
def joinOk (xs : List ByteArray) : Bool := (bsOf xs).all nameL && validL (jn (bsOf xs))
def joinS (xs : List ByteArray) : ByteArray := if joinOk xs = true then ⟨(jn (bsOf xs)).toArray⟩ else ⟨#[]⟩
def joinE (xs : List ByteArray) : Int := if joinOk xs = true then 0 else 20

theorem join_is (l : List (List UInt8)) : Lib.join l [47] = jn l := by
  unfold Lib.join
  induction l with
  | nil => rfl
  | cons a r ih =>
    cases r with
    | nil => simp [List.intercalate, jn]
    | cons b s =>
      rw [jn_cons (by simp), ← ih]
      simp [List.intercalate, List.intersperse]

theorem jn_len {l : List (List UInt8)} {m : Nat} (h : ∀ p, p ∈ l → p.length ≤ m) : (jn l).length ≤ (m + 1) * l.length := by
  induction l with
  | nil => simp [jn]
  | cons a r ih =>
    have h1 := h a (by simp)
    have h2 := ih (fun p hp => h p (by simp [hp]))
    cases r with
    | nil => simp [jn]; omega
    | cons b s =>
      rw [jn_cons (by simp), List.length_append, List.length_cons, List.length_cons]
      rw [Nat.mul_add, Nat.mul_one]
      omega

theorem nameL_le {p : List UInt8} (h : nameL p = true) : p.length ≤ 255 := by
  unfold nameL at h
  simp only [Bool.and_eq_true, decide_eq_true_eq] at h
  exact h.1.1.1.1.2

theorem nameL_free {p : List UInt8} (h : nameL p = true) : (47 : UInt8) ∉ p := by
  unfold nameL at h
  simp only [Bool.and_eq_true, decide_eq_true_eq] at h
  exact h.1.1.1.2

/-- more than 64 names are no path -/
theorem join_many {xs : List ByteArray} (h : 64 < xs.length) : joinOk xs = false := by
  unfold joinOk
  cases hn : (bsOf xs).all nameL with
  | false => rfl
  | true =>
    rw [Bool.true_and]
    have hl : (bsOf xs).length = xs.length := List.length_map _
    have h0 : bsOf xs ≠ [] := by intro e; rw [e] at hl; simp at hl; omega
    have hp := pcs_jn h0 (fun p hp => nameL_free (List.all_eq_true.1 hn p hp))
    unfold validL
    rw [hp, decide_eq_false (by omega : ¬ (bsOf xs).length ≤ 64), Bool.and_false]

theorem join_bad {xs : List ByteArray} {k : Nat} {x : ByteArray} (h : xs[k]? = some x) (hn : nameL x.data.toList = false) : joinOk xs = false := by
  unfold joinOk
  have : (bsOf xs).all nameL = false := by
    rw [List.all_eq_false]
    exact ⟨x.data.toList, List.mem_map.2 ⟨x, List.mem_of_getElem? h, rfl⟩, by rw [hn]; exact Bool.false_ne_true⟩
  rw [this, Bool.false_and]

theorem all_names {xs : List ByteArray} (h : ∀ (j : Nat) x, xs[j]? = some x → j < xs.length → nameL x.data.toList = true) : (bsOf xs).all nameL = true := by
  rw [List.all_eq_true]
  intro p hp
  obtain ⟨x, hx, rfl⟩ := List.mem_map.1 hp
  obtain ⟨j, hj, e⟩ := List.mem_iff_getElem.1 hx
  exact h j x (by rw [List.getElem?_eq_getElem hj, e]) hj

theorem StrsAt.below {w w' : World} {b off : Nat} {xs : List ByteArray} {B : Nat} (h : StrsAt w b off xs) (hb : Below B w w') (hB : b < B) : StrsAt w' b off xs := fun j x hx => by
  rw [World.cell?_of_block (hb.block b hB)]
  exact h j x hx

set_option maxHeartbeats 4000000 in
theorem join_ok (b off cap : Nat) (xs : List ByteArray) (w : World) (h : StrsAt w b off xs) (hbl : b < w.heap.size) (hc : xs.length ≤ cap) (hn : xs.length ≤ 9223372036854775807) (hs : ∀ x, x ∈ xs → x.size ≤ 9223372036854775807) :
    Calls Try.prog 24 #[.slice (some ⟨b, off, none⟩) xs.length cap] w fun e w' => e = .returned (.tuple #[.string (joinS xs), .int .i64 (joinE xs)]) ∧ Below w.heap.size w w' := by
  by_cases hbig : 64 < xs.length
  · have hj := join_many hbig
    have e1 : joinS xs = ⟨#[]⟩ := by unfold joinS; rw [hj]; rfl
    have e2 : joinE xs = 20 := by unfold joinE; rw [hj]; rfl
    rw [e1, e2]
    have h1 : (64 : Int) < (xs.length : Int) := by omega
    have H := hide h
    clear h hj e1 e2 hs
    go_enter Try.func24, Try.ntmps24
    go_wp2_with fail
    go_ret2
    exact ⟨rfl, Below.refl _ _⟩
  have h1 : ¬ (64 : Int) < (xs.length : Int) := by omega
  have H := hide h
  have HS := hide hs
  clear h hs
  go_enter Try.func24, Try.ntmps24
  go_wp2_with fail
  go_loopw [12] (fun i wr => ∃ k : Nat, i = .int .i64 (k : Int) ∧ k ≤ xs.length ∧ Below w.heap.size w wr ∧ ∀ (j : Nat) x, xs[j]? = some x → j < k → nameL x.data.toList = true) (fun i _ => ((xs.length : Int) - intOf i).toNat)
  case atStart => exact ⟨0, rfl, Nat.zero_le _, Below.refl _ _, fun j x _ h => absurd h (Nat.not_lt_zero _)⟩
  case round =>
    obtain ⟨k, rfl, hk, hb, hnm⟩ := hrel
    by_cases hlt : k < xs.length
    · have hki : (k : Int) < (xs.length : Int) := by omega
      obtain ⟨x, hx⟩ : ∃ x, x = xs[k] := ⟨_, rfl⟩
      have hxk : xs[k]? = some x := by rw [hx, List.getElem?_eq_getElem hlt]
      have c0 := ((unhide H).below hb hbl) k x hxk
      have HN := hide (isName_ok x wr ((unhide HS) x (List.mem_of_getElem? hxk)))
      have HB := hide hb
      have HNM := hide hnm
      have HX := hide hxk
      clear hb hnm hx hxk
      go_wp2_with fail
      refine (unhide HN).mono ?_
      rintro e w1 ⟨rfl, hb1⟩
      have HB1 := hide ((unhide HB).trans (hb1.mono (unhide HB).size))
      clear hb1
      cases hnx : nameL x.data.toList with
      | true =>
        go_wp2_with fail
        go_roundw
        case rel => exact ⟨k + 1, by simp, by omega, unhide HB1, fun j y hy hj => by
          rcases Nat.lt_or_ge j k with h | h
          · exact unhide HNM j y hy h
          · have e : j = k := by omega
            subst e
            have e2 := (unhide HX).symm.trans hy
            injection e2 with e2
            subst e2
            exact hnx⟩
        case measure => simp [intOf]; omega
      | false =>
        have hj := join_bad (unhide HX) hnx
        have e1 : joinS xs = ⟨#[]⟩ := by unfold joinS; rw [hj]; rfl
        have e2 : joinE xs = 20 := by unfold joinE; rw [hj]; rfl
        have E1 := hide e1
        have E2 := hide e2
        clear hj e1 e2
        go_wp2_with fail
        go_ret2
        exact ⟨by rw [unhide E1, unhide E2]; rfl, unhide HB1⟩
    · obtain rfl : k = xs.length := by omega
      have hall := all_names (fun j x hx _ => hnm j x hx (List.getElem?_eq_some_iff.1 hx).1)
      have hlen : (jn (bsOf xs)).length ≤ 16384 := by
        have := jn_len (l := bsOf xs) (m := 255) (fun p hp => nameL_le (List.all_eq_true.1 hall p hp))
        have hl : (bsOf xs).length = xs.length := List.length_map _
        rw [hl] at this
        omega
      have hslash : (⟨#[47]⟩ : ByteArray).data.toList = [47] := rfl
      have HJ := hide (Try.strings_Join b off cap xs ⟨#[47]⟩ wr ((unhide H).below hb hbl) (by have := hb.size; omega) (by omega) hc (by rw [hslash, join_is]; show (jn (bsOf xs)).length ≤ _; omega))
      rw [hslash, join_is] at HJ
      obtain ⟨p, hp⟩ : ∃ p : ByteArray, p = ⟨(jn (bsOf xs)).toArray⟩ := ⟨_, rfl⟩
      have hpl : p.data.toList = jn (bsOf xs) := by rw [hp]
      have hps : p.size ≤ 16384 := by rw [hp]; show (jn (bsOf xs)).toArray.size ≤ 16384; rw [List.size_toArray]; exact hlen
      have HJ2 : Hid (Calls Try.prog 38 #[.slice (some ⟨b, off, none⟩) xs.length cap, .string ⟨#[47]⟩] wr fun e w' => e = .returned (.string p) ∧ Below wr.heap.size wr w') := by
        rw [hp]
        exact HJ
      have HV := hide (fun w => valid_ok p w (by omega))
      rw [hpl] at HV
      have HC := hide (fun w => clone_ok p w (by omega))
      have hok : joinOk xs = validL (jn (bsOf xs)) := by unfold joinOk; rw [hall, Bool.true_and]
      have HOK := hide hok
      have HP := hide hp
      have HB := hide hb
      clear hb hnm hall hlen hslash HJ hp hpl hps hok
      go_wp2_with fail
      refine (unhide HJ2).mono ?_
      rintro e w1 ⟨rfl, hb1⟩
      have HB1 := hide ((unhide HB).trans (hb1.mono (unhide HB).size))
      clear hb1
      go_wp2_with fail
      refine (unhide HV w1).mono ?_
      rintro e w2 ⟨rfl, hb2⟩
      have HB2 := hide ((unhide HB1).trans (hb2.mono (unhide HB1).size))
      clear hb2
      cases hv : validL (jn (bsOf xs)) with
      | false =>
        have e1 : joinS xs = ⟨#[]⟩ := by unfold joinS; rw [unhide HOK, hv]; rfl
        have e2 : joinE xs = 20 := by unfold joinE; rw [unhide HOK, hv]; rfl
        have E1 := hide e1
        have E2 := hide e2
        clear hv e1 e2
        go_wp2_with fail
        go_ret2
        exact ⟨by rw [unhide E1, unhide E2]; rfl, unhide HB2⟩
      | true =>
        have e1 : joinS xs = p := by unfold joinS; rw [unhide HOK, hv, if_pos rfl, unhide HP]
        have e2 : joinE xs = 0 := by unfold joinE; rw [unhide HOK, hv]; rfl
        have E1 := hide e1
        have E2 := hide e2
        clear hv e1 e2
        go_wp2_with fail
        refine (unhide HC w2).mono ?_
        rintro e w3 ⟨rfl, hb3⟩
        have HB3 := hide ((unhide HB2).trans (hb3.mono (unhide HB2).size))
        clear hb3
        go_wp2_with fail
        go_ret2
        exact ⟨by rw [unhide E1, unhide E2]; rfl, unhide HB3⟩

/-- no names at all -/
theorem join_nil (a : Option Addr) (cap : Nat) (w : World) :
    Calls Try.prog 24 #[.slice a 0 cap] w fun e w' => e = .returned (.tuple #[.string ⟨#[]⟩, .int .i64 20]) ∧ Below w.heap.size w w' := by
  have HV := hide (fun w => valid_ok ⟨#[]⟩ w (by decide))
  have e0 : validL (⟨#[]⟩ : ByteArray).data.toList = false := by decide
  rw [e0] at HV
  clear e0
  go_enter Try.func24, Try.ntmps24
  go_wp2_with fail
  go_loopw [12] (fun i wr => i = .int .i64 0 ∧ wr = w) (fun i _ => 0)
  case atStart => exact ⟨rfl, rfl⟩
  case round =>
    obtain ⟨rfl, rfl⟩ := hrel
    go_wp2_with fail
    refine (Try.strings_Join_none a cap ⟨#[47]⟩ wr).mono ?_
    rintro e w1 ⟨rfl, rfl⟩
    go_wp2_with fail
    refine (unhide HV _).mono ?_
    rintro e w2 ⟨rfl, hb2⟩
    have HB := hide hb2
    clear hb2
    go_wp2_with fail
    go_ret2
    exact ⟨rfl, unhide HB⟩

end Go.Proofs.Ythhdlmegbbmbhaa
