/- bytes.IndexByte, and toFront. -/
import Derived.Test.YtgafabhhalhccaaOw
import Derived.Test.YtgafabhhalhccaaFo
import Derived.Lib.BytesEntry
import Derived.Deep.RegionLaw
namespace Go.Proofs.Ytgafabhhalhccaa
open Go.RowKit Runs
set_option maxRecDepth 100000
set_option linter.unusedVariables false
attribute [local go_sem ↓] Go.wp_at_zero Go.wp_at_succ

theorem index_place : ∀ (l : List Nat) (c : Nat), (∀ z ∈ l, z < 256) → c < 256 → c ∈ l → Lib.indexByte (Lib.bytesOf (l.map fun z : Nat => (z : Int))) (c : Int).toNat.toUInt8 = ((place c l : Nat) : Int)
  | [], c, _, _, h => by simp at h
  | x :: l, c, hl, hc, h => by
    have hx := hl x (List.mem_cons_self ..)
    have e : Lib.bytesOf ((x :: l).map fun z : Nat => (z : Int)) = UInt8.ofNat x :: Lib.bytesOf (l.map fun z : Nat => (z : Int)) := by simp [Lib.bytesOf]
    rw [e, Lib.indexByte, place]
    by_cases hxc : x = c
    · subst hxc
      rw [if_pos (by simp [Nat.toUInt8]), if_pos rfl]
      rfl
    · have hne : ¬ (UInt8.ofNat x == (c : Int).toNat.toUInt8) = true := by
        intro q
        have q := congrArg UInt8.toNat (eq_of_beq q)
        simp [Nat.toUInt8, Nat.mod_eq_of_lt hx, Nat.mod_eq_of_lt hc] at q
        exact hxc q
      have ih := index_place l c (fun z hz => hl z (List.mem_cons_of_mem _ hz)) hc (by
        rcases List.mem_cons.1 h with h | h
        · exact absurd h.symm hxc
        · exact h)
      rw [if_neg hne, if_neg hxc, ih, if_neg (by rw [beq_iff_eq]; omega)]
      omega

set_option maxHeartbeats 1000000 in
theorem index_ok (l : List Nat) (g o cap c : Nat) (w : World) (hc : BytesIn w (some ⟨g, o, none⟩) l) (hl : ∀ z ∈ l, z < 256) (hcm : c ∈ l) :
    Calls Try.prog 29 #[.slice (some ⟨g, o, none⟩) l.length cap, .int .u8 (c : Int)] w fun e w' => e = .returned (.int .i64 ((place c l : Nat) : Int)) ∧ w' = w := by
  have hi := Lib.run_indexByteSlice (P := Try.prog) w g o l.length cap (l.map fun z : Nat => (z : Int)) (by simp) (fun i hi => by
    obtain ⟨g', o', e, h⟩ := hc i hi
    cases e
    rw [h, List.getD_eq_getElem?_getD, List.getD_eq_getElem?_getD, List.getElem?_map, List.getElem?_eq_getElem hi]
    rfl) (c : Int)
  rw [index_place l c hl (hl c hcm) hcm] at hi
  go_enter Try.func29, Try.ntmps29
  go_wp2_with fail
  rw [run_callFunc_extern Try.func42 (by kernel_rfl) (by kernel_rfl) (by kernel_rfl) (e := Extern.BytealgIndexByte.indexByte) (by kernel_rfl), hi]
  simp only [Result.andThen]
  rw [Oper.upon_value]
  go_wp2_with fail
  go_ret
  exact ⟨rfl, rfl⟩

/-- bytes in an order, in a block of their own -/
def OrdAt (w : World) (g : Nat) (L : List Nat) : Prop := w.heap[g]? = some (.cells (L.map bv).toArray 57 (0, 0))

theorem OrdAt.cell {w : World} {g : Nat} {L : List Nat} (h : OrdAt w g L) (i : Nat) (hi : i < L.length) : w.cell? ⟨g, i, none⟩ = some (.int .u8 ((L.getD i 0 : Nat) : Int)) := by
  simp only [World.cell?, show w.heap[g]? = _ from h]
  simp [List.getElem?_map, List.getElem?_eq_getElem hi, bv, List.getD_eq_getElem?_getD]
theorem OrdAt.free {w : World} {g : Nat} {L : List Nat} (h : OrdAt w g L) (i : Nat) : w.frozen? ⟨g, i, none⟩ = false := by
  simp [World.frozen?, show w.heap[g]? = _ from h]
theorem OrdAt.bytes {w : World} {g : Nat} {L : List Nat} (h : OrdAt w g L) : BytesIn w (some ⟨g, 0, none⟩) L := fun j hj => ⟨g, 0, rfl, by rw [Nat.zero_add]; exact h.cell j hj⟩
theorem OrdAt.upto {w : World} {g : Nat} {L : List Nat} (h : OrdAt w g L) (n : Nat) (hn : n ≤ L.length) : BytesIn w (some ⟨g, 0, none⟩) (L.take n) := fun j hj => by
  rw [List.length_take] at hj
  refine ⟨g, 0, rfl, ?_⟩
  rw [Nat.zero_add, h.cell j (by omega)]
  rw [List.getD_eq_getElem?_getD (l := L.take n), List.getElem?_take, if_pos (by omega), List.getD_eq_getElem?_getD]

theorem setRow_chg {w w0 : World} {g : Nat} (cs : Array Value) (h : Chg g (g + 1) w0 w) : Chg g (g + 1) w0 (w.setRow g cs) :=
  ⟨h.os, h.tape, h.output, by simpa [World.setRow] using h.size, fun k hk hd => by rw [setRow_other w g k cs (by omega)]; exact h.keep k hk hd⟩

/-- copy within a region that draws: one row is changed -/
theorem step_copy_chg {P : Program} {ops : Array Oper} {o : Oper} {a : Act} {w w0 : World} {K : Act → World → Prop} {Q : Exit → Act → World → Prop} {E : Prop} (hgd : o.guard = none) (d s : Operand) (dT sT : TypeId)
    (ho : o.op = .call { callee := .builtin .copy, args := #[d, s], argTypes := #[dT, sT] }) (elem : TypeId) (hu : P.underlying dT = some (.slice elem)) (hsz : (P.info? elem).map (·.size) = some 1)
    (dp sp : Option Addr) (dLen dCap sLen sCap : Nat) (hd : a.eval d = .slice dp dLen dCap) (hs : a.eval s = .slice sp sLen sCap)
    (g off : Nat) (cur : List Value) (t : TypeId) (hg : w.heap[g]? = some (.cells cur.toArray t (0, 0))) (cs : List Value) (hn : cs.length = Nat.min sLen dLen)
    (hpos : 0 < cs.length → dp = some ⟨g, off, none⟩ ∧ ∃ ad, sp = some ad ∧ ∀ j v, cs[j]? = some v → w.cell? (ad.add j) = some v)
    (hfit : off + cs.length ≤ cur.length) (h1 : ∀ v ∈ cs, v.oneCell' = true) (hc : Chg g (g + 1) w0 w)
    (h : ∀ w', Hid (w'.heap[g]? = some (.cells (splice cur off cs).toArray t (0, 0))) → Hid (Chg g (g + 1) w0 w') → K (a.put o.dst (goInt cs.length)) w') :
    if Region.wanted o (yielded ops a.tmps) = true then Oper.wp P o a w K Q else E := by
  have hw : Region.wanted o (yielded ops a.tmps) = true := by simp [Region.wanted, hgd]
  rw [if_pos hw]
  by_cases h0 : cs.length = 0
  · obtain rfl : cs = [] := List.eq_nil_of_length_eq_zero h0
    have hrun := run_copy_none (P := P) w dT sT o.type elem dp sp dLen dCap sLen sCap hu hsz (by simpa using hn.symm)
    unfold Oper.wp
    simp [execOp, ho, resolve, invoke, builtin, hd, hs, hrun, Result.andThen]
    exact h w (show _ = _ by simpa [splice] using hg) hc
  · obtain ⟨rfl, ad, rfl, hsrc⟩ := hpos (by omega)
    have hrun := run_copy_row (P := P) w dT sT o.type elem g off dLen dCap ad sLen sCap cur.toArray t cs hu hsz hg hn hsrc (by simpa using hfit) h1
    unfold Oper.wp
    simp [execOp, ho, resolve, invoke, builtin, hd, hs, hrun, Result.andThen]
    exact h _ (show _ = _ by simpa [splice] using setRow_heap w g _ _ t _ hg) (setRow_chg _ hc)

theorem map_news {w : World} {g off : Nat} {ys : List Nat} (h : BytesIn w (some ⟨g, off, none⟩) ys) : ∀ (j : Nat) v, (ys.map bv)[j]? = some v → w.cell? ((⟨g, off, none⟩ : Addr).add j) = some v :=
  bytes_news fun j hj => by
    obtain ⟨g', o', e, c⟩ := h j hj
    cases e
    have e : (⟨g, off, none⟩ : Addr).add j = ⟨g, off + j, none⟩ := by simp [Addr.add]
    rw [e]; exact c

/-- what stands behind the copy and the store -/
theorem order_step {L : List Nat} {k : Nat} (hk : k < L.length) : (splice (L.map bv) 1 ((L.take k).map bv)).set 0 (bv (L.getD k 0)) = (toFront L k).map bv := by
  unfold splice toFront
  cases L with
  | nil => simp at hk
  | cons x l =>
    have hk' : k ≤ l.length := by simp only [List.length_cons] at hk; omega
    have e1 : ((x :: l).take k).length = k := by rw [List.length_take]; simp only [List.length_cons]; omega
    rw [List.length_map, e1, List.map_cons, List.take_succ_cons, List.take_zero, List.cons_append, List.set_cons_zero, List.map_cons, List.nil_append, List.map_append, List.map_drop]
    congr 3
    rw [Nat.add_comm]

set_option maxHeartbeats 2000000 in
theorem front27 (L : List Nat) (g k : Nat) (w : World) (hL : OrdAt w g L) (hl : L.length = 256) (hk : k < 256) :
    Calls Try.prog 30 #[.pointer (some ⟨g, 0, none⟩), .int .i64 (k : Int)] w fun e w' => e = .returned (.int .u8 ((L.getD k 0 : Nat) : Int)) ∧ OrdAt w' g (toFront L k) ∧ Chg g (g + 1) w w' := by
  have c1 := hL.cell k (by omega)
  have HL := hide hL
  have HST := hide (order_step (L := L) (k := k) (by omega))
  obtain ⟨c, hc⟩ : ∃ c, c = L.getD k 0 := ⟨_, rfl⟩
  rw [← hc] at c1 HST ⊢
  obtain ⟨LV, hLV⟩ : ∃ LV, LV = L.map bv := ⟨_, rfl⟩
  obtain ⟨CV, hCV⟩ : ∃ CV, CV = (L.take k).map bv := ⟨_, rfl⟩
  rw [← hLV, ← hCV] at HST
  have HG : Hid (∀ q, (w.drewN q).heap[g]? = some (.cells LV.toArray 57 (0, 0))) := hide fun q => by rw [hLV]; exact hL
  have HS : Hid (∀ q (j : Nat) v, CV[j]? = some v → (w.drewN q).cell? ((⟨g, 0, none⟩ : Addr).add j) = some v) := hide fun q => by rw [hCV]; exact map_news (hL.upto k (by omega))
  have HLL : Hid (LV.length = 256) := hide (by rw [hLV, List.length_map]; exact hl)
  have HCL : Hid (CV.length = k) := hide (by rw [hCV, List.length_map, List.length_take]; omega)
  have H1 : Hid (∀ v ∈ CV, v.oneCell' = true) := hide (by rw [hCV]; exact bytes_one _)
  clear hc hLV hCV hL hl
  have t1 : (k : Int) ≤ 256 := by omega
  have t2 : (k : Int) + 1 ≤ 256 := by omega
  have t3 : (1 : Int) ≤ (k : Int) + 1 := by omega
  have t4 : (0 : Int) ≤ (k : Int) + 1 := by omega
  have fw : IntKind.i64.wrap ((k : Int) + 1) = (k : Int) + 1 := by rw [IntKind.wrap_i64]; omega
  go_enter Try.func30, Try.ntmps30
  go_wp2_with fail
  go_region_law (refine step_copy_chg (w0 := w) rfl (.tmp 15) (.tmp 19) 22 22 rfl 5 Try.underlying22 (by kernel_rfl) (some ⟨g, 1, none⟩) (some ⟨g, 0, none⟩) k 255 k 256 (by simp [go_sem]) (by simp [go_sem]) g 1 LV 57 (unhide HG 1) CV (by rw [unhide HCL]; simp) (fun _ => ⟨rfl, _, rfl, unhide HS 1⟩) (by rw [unhide HCL, unhide HLL]; omega) (unhide H1) (drewN_chg (Chg.refl _ _ _) 1) ?_; intro w4 hg4 hc4)
  obtain ⟨S, hS⟩ : ∃ S, S = splice LV 1 CV := ⟨_, rfl⟩
  have hlen : 0 < S.length := by rw [hS, length_splice _ _ _ (by rw [unhide HCL, unhide HLL]; omega), unhide HLL]; omega
  rw [← hS] at hg4 HST
  clear hS HCL
  obtain ⟨cl, hcl⟩ : ∃ cl, cl = CV.length := ⟨_, rfl⟩
  rw [← hcl]
  clear hcl
  have d1 : w4.cell? ⟨g, 0, none⟩ = some S[0] := by
    simp only [World.cell?, show w4.heap[g]? = _ from hg4]
    simp [hlen]
  have d2 : w4.frozen? ⟨g, 0, none⟩ = false := by simp [World.frozen?, show w4.heap[g]? = _ from hg4]
  generalize S[0] = x0 at d1
  go_wp2_with fail
  go_ret
  refine ⟨rfl, ?_, (unhide hc4).set 0 _ (Nat.le_refl _) (by omega)⟩
  unfold OrdAt
  rw [heap_setCell_same w4 g 0 _ 57 _ (unhide hg4), ← unhide HST]
  simp [bv]
end Go.Proofs.Ytgafabhhalhccaa
