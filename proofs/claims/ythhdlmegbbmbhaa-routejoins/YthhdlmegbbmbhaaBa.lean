/- Clone, Names, Base. -/
import Derived.Test.YthhdlmegbbmbhaaWi
namespace Go.Proofs.Ythhdlmegbbmbhaa
open Go.RowKit Go.Shelf
set_option linter.unusedVariables false

attribute [local go_sem] Oper.semAt_some

set_option maxHeartbeats 1000000 in
theorem clone_ok (s : ByteArray) (w : World) (hs : s.size ≤ 281474976710656) :
    Calls Try.prog 29 #[.string s] w fun e w' => e = .returned (.string s) ∧ Below w.heap.size w w' := by
  have H := hide (Try.stringslite_Clone s w hs)
  go_enter Try.func29, Try.ntmps29
  go_wp2_with fail
  refine (unhide H).mono ?_
  rintro e w' ⟨rfl, hb⟩
  have HB := hide hb
  clear hb
  go_wp2_with fail
  go_ret
  exact ⟨rfl, unhide HB⟩

/-- an iterator over nothing -/
theorem seq27 (F : Fence) (m : Nat) (h27 : F.fn 27) (hro : F.round = none) (encs : Nat → Array Value) (Kp : World → World → Prop) (w : World) : SeqAt F m Try.prog 27 #[] encs Kp 0 w := by
  intro l J Y W hW hJ hY hy h0
  refine callsIn_of_wp Try.func27 rfl h27 ?_ hro
  simp only [Try.ntmps27, List.size_toArray, List.length_cons, List.length_nil, Nat.reduceAdd, Nat.reduceSub, Array.replicate_succ, Array.replicate_zero, List.push_toArray, List.append_toArray, List.nil_append, List.cons_append]
  gi_wp2
  go_end0
  exact ⟨⟨_, rfl⟩, .inl h0⟩

theorem validL_small {s : ByteArray} (h : validL s.data.toList = true) : s.size ≤ 1024 := by
  unfold validL at h
  simp only [Bool.and_eq_true, decide_eq_true_eq] at h
  have := h.1.1
  simpa using this

/-- the names' iterator, as a value -/
def NamesIs (s : ByteArray) (B : Nat) (v : Value) (w' : World) : Prop :=
  (validL s.data.toList = true ∧ ∃ Bs, B ≤ Bs ∧ v = .func (.func 39) #[] #[.pointer (some ⟨Bs, 0, none⟩)] ∧ Var w' Bs 9 (.string s)) ∨ (validL s.data.toList = false ∧ v = .func (.func 27) #[] #[])

set_option maxHeartbeats 1000000 in
theorem names_ok (s : ByteArray) (w : World) (hs : s.size ≤ 9223372036854775807) :
    Calls Try.prog 10 #[.string s] w fun e w' => ∃ v, e = .returned v ∧ NamesIs s w.heap.size v w' ∧ Below w.heap.size w w' := by
  have H1 := hide (valid_ok s w hs)
  cases hv : validL s.data.toList with
  | false =>
    rw [hv] at H1
    have HV := hide hv
    clear hv
    go_enter Try.func10, Try.ntmps10
    go_wp2_with fail
    refine (unhide H1).mono ?_
    rintro e w1 ⟨rfl, hb1⟩
    have HB := hide hb1
    clear hb1
    go_wp2_with fail
    go_ret
    exact ⟨_, rfl, .inr ⟨unhide HV, rfl⟩, unhide HB⟩
  | true =>
    rw [hv] at H1
    have HV := hide hv
    have HS := hide (validL_small hv)
    clear hv
    go_enter Try.func10, Try.ntmps10
    go_wp2_with fail
    refine (unhide H1).mono ?_
    rintro e w1 ⟨rfl, hb1⟩
    have HB1 := hide hb1
    clear hb1
    go_wp2_with fail
    refine (clone_ok s w1 (by have := unhide HS; omega)).mono ?_
    rintro e w2 ⟨rfl, hb2⟩
    have HB2 := hide ((unhide HB1).trans (hb2.mono (unhide HB1).size))
    clear hb2
    go_wp2_with fail
    refine (pieces_ok s w2).mono ?_
    rintro e w3 ⟨rfl, hw3⟩
    have HB3 := hide ((unhide HB2).alloc (unhide HB2).size (.cells #[.string s] 9))
    have HN := hide (Var.new w2 9 (.string s))
    rw [← hw3] at HB3 HN
    clear hw3
    go_wp2_with fail
    go_ret
    exact ⟨_, rfl, .inl ⟨unhide HV, _, (unhide HB2).size, rfl, unhide HN⟩, unhide HB3⟩

/-- the last of the first k pieces -/
def lastB (l : List UInt8) : Nat → ByteArray
  | 0 => ⟨#[]⟩
  | k + 1 => pcAt l k

/-- Base's answer -/
def baseB (l : List UInt8) : ByteArray := if validL l = true then lastB l (pcs l).length else ⟨#[]⟩

structure BI (l : List UInt8) (H : Nat) (w : World) (k : Nat) (W : World) : Prop where
  last : Var W H 9 (.string (lastB l k))
  below : Below H w W
  le : H + 1 ≤ W.heap.size

theorem BI.grown {l : List UInt8} {H k B : Nat} {w W W' : World} {row : Option Nat} (h : BI l H w k W) (hB : H ≤ B) (hg : W.grownBy W' row) (hr : ∀ r, row = some r → B ≤ r ∧ ∃ o : Obj, W.heap[r]? = some o ∧ o.isCells = false) : BI l H w k W' :=
  ⟨h.last.grown hg hr, below_grown h.below hg (by have := h.le; omega) hB hr, Nat.le_trans h.le hg.size⟩

set_option maxHeartbeats 2000000 in
theorem base_ok (s : ByteArray) (w : World) (hs : s.size ≤ 9223372036854775807) :
    Calls Try.prog 18 #[.string s] w fun e w' => e = .returned (.string (baseB s.data.toList)) ∧ Below w.heap.size w w' := by
  obtain ⟨H, hH⟩ : ∃ H, H = w.heap.size := ⟨_, rfl⟩
  have HH := hide hH
  refine (callsIn_wide (n := 4)).1 (callsIn_of_wp_marks Try.func18 rfl trivial (wpIn_wide.2 ?_) rfl)
  simp only [Try.ntmps18, List.size_toArray, List.length_cons, List.length_nil, Nat.reduceAdd, Nat.reduceSub, Array.replicate_succ, Array.replicate_zero, List.push_toArray, List.append_toArray, List.nil_append, List.cons_append]
  go_wp2_with fail
  refine (names_ok s _ hs).mono ?_
  rintro e W3 ⟨v, rfl, hn, hb3⟩
  have h0 : Var W3 H 9 (.string ⟨#[]⟩) := by rw [hH]; exact (Var.new w _ _).belowAll hb3
  have hbel : Below H w W3 := by
    rw [hH]
    exact ((Below.refl _ w).alloc (Nat.le_refl _) _).trans (hb3.mono (by simp))
  have hsz : H + 1 ≤ W3.heap.size := by have := hb3.size; rw [World.size_alloc] at this; omega
  have HI0 := hide (show BI s.data.toList H w 0 W3 from ⟨h0, hbel, hsz⟩)
  rw [World.size_alloc, ← hH] at hn
  rw [← hH]
  clear h0 hbel hb3 hH
  have HSZ := hide hsz
  clear hsz
  rcases hn with ⟨hv, Bs, hBs, rfl, hbx⟩ | ⟨hv, rfl⟩
  · have HBX := hide hbx
    have HBS := hide hBs
    have HV := hide hv
    clear hbx hBs hv
    go_wp2_with fail
    refine (wpIn_wide (n := 4)).1 ?_
    refine range_at (F := Fence.wide) rfl (by omega) (gf := 39) (lb := #[.pointer (some ⟨Bs, 0, none⟩)]) rfl trivial (enters_of Try.func39 (by kernel_rfl) rfl) (fun k => #[.string (pcAt s.data.toList k)]) (KpB Bs (.string s)) (pcs s.data.toList).length
      (pieces1_at Fence.wide (4 - 1) trivial rfl (by omega) Bs s hs W3 (unhide HBX)) KpB.trans KpB.other (fun _ => rfl)
      (BI s.data.toList H w) (fun _ _ => False)
      (fun k W W' row h hg hr => h.grown (by have := unhide HSZ; omega) hg hr)
      (fun c W W' row h hg hr => h)
      (unhide HI0)
      (fun k a' => ∃ x8, a' = { tmps := #[.string s, undef, .string ⟨#[]⟩, .pointer (some ⟨H, 0, none⟩), .string (pcAt s.data.toList k), .string s, .func (.func 39) #[] #[.pointer (some ⟨Bs, 0, none⟩)], .string (pcAt s.data.toList k), x8, undef], defers := [] })
      ?assign ?body ?done ?stop
    case assign =>
      intro l k W K hk hi hK
      have HK := hide hK
      clear hK hi
      gi_wp2
      exact unhide HK _ ⟨_, rfl⟩
    case body =>
      rintro l k a' W hk hi ⟨x8, rfl⟩
      have c0 := hi.last.cell
      have f0 := hi.last.free
      have HI := hide hi
      clear hi
      gi_wp2
      have hi := unhide HI
      have hko : KeepsOthers W (W.setCell ⟨H, 0, none⟩ (.string (pcAt s.data.toList k))) := KeepsOthers.setCell _ _ _
      exact ⟨hko, ⟨hko.walks, fun x => (show Var W Bs 9 (.string s) from x).other H (by have := unhide HBS; omega) _⟩, hi.last.set _, hi.below.setCell (p := ⟨H, 0, none⟩) (Nat.le_refl _) _, by rw [World.size_setCell]; exact hi.le⟩
    case done =>
      rintro D W hD hi hK
      have c0 := hi.last.cell
      have HI := hide (hi.grown (B := W3.heap.size) (by have := unhide HSZ; omega) (grownBy_putObj' W D (.deferred none)) (fun r e => by
        injection e with e
        subst e
        exact ⟨hD, _, hK, rfl⟩))
      clear hi
      go_wp2_with fail
      refine ⟨by simp, .inl ⟨_, _, rfl, run_takeDeferred hK, ?_⟩⟩
      refine ⟨_, results_tmp rfl _ _ _, ?_, ?_⟩
      · unfold baseB
        rw [if_pos (unhide HV)]
        rfl
      · rw [← unhide HH]
        exact (unhide HI).below
    case stop => exact fun D c W hD hx => hx.elim
  · have HV := hide hv
    clear hv
    go_wp2_with fail
    refine (wpIn_wide (n := 4)).1 ?_
    refine range_at (F := Fence.wide) rfl (by omega) (gf := 27) (lb := #[]) rfl trivial (enters_of Try.func27 (by kernel_rfl) rfl) (fun k => #[.string (pcAt s.data.toList k)]) (fun _ _ => True) 0
      (seq27 Fence.wide (4 - 1) trivial rfl _ _ W3) (fun _ _ => trivial) (fun _ _ _ _ _ _ _ _ => trivial) (fun _ => rfl)
      (BI s.data.toList H w) (fun _ _ => False)
      (fun k W W' row h hg hr => h.grown (by have := unhide HSZ; omega) hg hr)
      (fun c W W' row h hg hr => h)
      (unhide HI0)
      (fun k a' => True)
      ?assign ?body ?done ?stop
    case assign => exact fun l k W K hk => absurd hk (Nat.not_lt_zero _)
    case body => exact fun l k a' W hk => absurd hk (Nat.not_lt_zero _)
    case done =>
      rintro D W hD hi hK
      have c0 := hi.last.cell
      have HI := hide (hi.grown (B := W3.heap.size) (by have := unhide HSZ; omega) (grownBy_putObj' W D (.deferred none)) (fun r e => by
        injection e with e
        subst e
        exact ⟨hD, _, hK, rfl⟩))
      clear hi
      go_wp2_with fail
      refine ⟨by simp, .inl ⟨_, _, rfl, run_takeDeferred hK, ?_⟩⟩
      refine ⟨_, results_tmp rfl _ _ _, ?_, ?_⟩
      · unfold baseB
        rw [if_neg (by rw [unhide HV]; exact Bool.false_ne_true)]
        rfl
      · rw [← unhide HH]
        exact (unhide HI).below
    case stop => exact fun D c W hD hx => hx.elim

end Go.Proofs.Ythhdlmegbbmbhaa
