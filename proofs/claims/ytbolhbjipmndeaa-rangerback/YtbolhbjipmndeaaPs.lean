/- setEach, Set (the program's). -/
import Derived.Test.YtbolhbjipmndeaaPt
namespace Go.Proofs.Ytbolhbjipmndeaa.D
open Go.RowKit Rang
set_option maxRecDepth 100000
set_option linter.unusedVariables false
attribute [local go_sem ↓] Go.wp_at_zero Go.wp_at_succ

set_option maxHeartbeats 1000000 in
theorem set_ok (gc i p : Nat) (ch : List Nat) (w : World) (h : PCh w gc ch) (hi : i < ch.length) (hp : p < 65536) :
    Calls Try.prog 57 #[.slice (some ⟨gc, 0, none⟩) ch.length ch.length, .int .i64 (i : Int), .int .i64 (p : Int)] w fun e w' => e = .returned (.tuple #[]) ∧ w' = w.setCell ⟨gc, i, none⟩ (.int .u16 (p : Int)) := by
  have c1 := h.cell i hi
  have c2 := h.free i
  generalize ch.getD i 0 = x at c1
  obtain ⟨n, hn⟩ : ∃ n, n = ch.length := ⟨_, rfl⟩
  rw [← hn] at hi ⊢
  have ti : (i : Int) < (n : Int) := by omega
  have f1 : (p : Int) % 65536 = (p : Int) := by omega
  clear h hn
  go_enter Try.func57, Try.ntmps57
  go_wp2_with fail
  go_end0
  exact ⟨rfl, rfl⟩

/-- numbers of another block stay -/
theorem IntsIn.keepCh {w : World} {a0 : Option Addr} {l : List Int} {gc : Nat} {ch : List Nat} (h : IntsIn w a0 l) (hc : PCh w gc ch) (i : Nat) (v : Value) : IntsIn (w.setCell ⟨gc, i, none⟩ v) a0 l := fun j hj => by
  obtain ⟨g, off, e, c⟩ := h j hj
  refine ⟨g, off, e, ?_⟩
  have hne : g ≠ gc := by
    rintro rfl
    simp only [World.cell?, show w.heap[g]? = _ from hc] at c
    simp only [List.getElem?_toArray, List.getElem?_map] at c
    cases hx : ch[off + j]? with
    | none => rw [hx] at c; cases c
    | some x => rw [hx] at c; cases c
  simp only [World.cell?] at c ⊢
  rw [heap_setCell_other _ _ _ _ hne]
  exact c

/-- so many have been set -/
def setTo (ch : List Nat) (l : List Int) (i : Nat) : List Nat := (l.take i).map Int.toNat ++ ch.drop i

theorem setTo_len (ch : List Nat) (l : List Int) (i : Nat) (h : i ≤ ch.length) (hl : l.length = ch.length) : (setTo ch l i).length = ch.length := by simp [setTo]; omega

theorem setTo_set (ch : List Nat) (l : List Int) (i : Nat) (h : i < ch.length) (hl : l.length = ch.length) : (setTo ch l i).set i (l.getD i 0).toNat = setTo ch l (i + 1) := by
  unfold setTo
  have hi : i < l.length := by omega
  rw [List.drop_eq_getElem_cons h, List.set_append_right _ _ (by simp; omega), List.length_map, List.length_take, Nat.min_eq_left (by omega), Nat.sub_self, List.set_cons_zero, List.take_add_one, List.getElem?_eq_getElem hi, List.map_append, List.append_assoc, List.getD_eq_getElem?_getD, List.getElem?_eq_getElem hi]
  rfl

set_option maxHeartbeats 4000000 in
theorem each_ok (gc : Nat) (ch : List Nat) (l : List Int) (a0 : Option Addr) (cap : Nat) (w : World) (h : PCh w gc ch) (hc : IntsIn w a0 l) (hl : l.length = ch.length) (hf : ∀ p ∈ l, Fit1 p) (hn : ch.length ≤ 65536) :
    Calls Try.prog 56 #[.slice a0 l.length cap, .int .i64 (ch.length : Int), .func (.func 57) #[.slice (some ⟨gc, 0, none⟩) ch.length ch.length] #[]] w fun e w' => e = .returned (.int .i64 0) ∧ PCh w' gc (l.map Int.toNat) ∧ DT w w' gc gc 0 := by
  have HCT := hide (contains_ok l a0 cap w false hc (by omega) ⟨fun e => (by cases e), fun e => absurd hf e⟩)
  have HP := hide h
  have HC := hide hc
  have HF := hide hf
  rw [hl] at HCT ⊢
  obtain ⟨n, hnn⟩ : ∃ n, n = ch.length := ⟨_, rfl⟩
  have HN := hide hnn
  have HL := hide hl
  rw [← hnn] at hn HCT ⊢
  clear h hc hf hl hnn
  go_enter Try.func56, Try.ntmps56
  go_wp2_with (first | (go_at_call 76; refine (unhide HCT).mono ?_; rintro e w1 ⟨rfl, rfl⟩))
  clear HCT
  go_loopg [19] n (fun gk d ws => ∃ (i : Nat), gk = n - i ∧ i ≤ n ∧ d = .int .i64 (i : Int) ∧ Hid (PCh ws gc (setTo ch l i)) ∧ Hid (IntsIn ws a0 l) ∧ Hid (DT w1 ws gc gc 0))
  case atStart => exact ⟨0, by omega, by omega, rfl, hide (by simpa [setTo] using unhide HP), HC, hide (DT.refl _ _ _ _)⟩
  case round =>
    clear HP HC
    obtain ⟨i, rfl, hi, rfl, HP, HC, HT⟩ := hrel
    by_cases hlt : i < n
    · have tl : (i : Int) < (n : Int) := by omega
      have hic : i < ch.length := by rw [← unhide HN]; exact hlt
      have hil : i < l.length := by rw [unhide HL]; exact hic
      obtain ⟨g, off, rfl, c1⟩ := unhide HC i hil
      have hfit := unhide HF _ (getDi_mem hil)
      obtain ⟨z, hz⟩ : ∃ z, z = (l.getD i 0).toNat := ⟨_, rfl⟩
      have hz2 : l.getD i 0 = (z : Int) := by rw [hz]; have := hfit.1; omega
      have hz3 : z < 65536 := by have := hfit.2; omega
      have HS := hide (set_ok gc i z (setTo ch l i) wr (unhide HP) (by rw [setTo_len ch l i (by omega) (unhide HL)]; exact hic) hz3)
      have HP2 := hide ((unhide HP).set i z)
      rw [hz, setTo_set ch l i hic (unhide HL), ← hz] at HP2
      have HC2 := hide ((unhide HC).keepCh (unhide HP) i (.int .u16 (z : Int)))
      have HT2 : Hid (DT w1 (wr.setCell ⟨gc, i, none⟩ (.int .u16 (z : Int))) gc gc 0) := hide ((unhide HT).trans ⟨rfl, rfl, rfl, by simp, fun k h1 _ => heap_setCell_other _ _ _ _ h1⟩)
      rw [setTo_len ch l i (by omega) (unhide HL), ← unhide HN] at HS
      rw [hz2] at c1
      clear hz hz2 hfit HP HC HT hic hil
      go_wp2_with (first | (go_at_call 57; refine (unhide HS).mono ?_; rintro e w2 ⟨rfl, rfl⟩))
      go_roundg (n - (i + 1))
      case measure => omega
      case rel => exact ⟨i + 1, rfl, by omega, by go_num, HP2, HC2, HT2⟩
    · obtain rfl : n = i := by omega
      have tl : ¬ (n : Int) < (n : Int) := by omega
      go_wp2_with fail
      go_ret
      refine ⟨rfl, ?_, unhide HT⟩
      have := unhide HP
      unfold setTo at this
      rw [unhide HN, ← unhide HL, List.take_length, unhide HL, List.drop_length, List.append_nil] at this
      exact this

set_option maxHeartbeats 2000000 in
theorem each_bad (f : Value) (n : Nat) (l : List Int) (a0 : Option Addr) (cap : Nat) (w : World) (hc : IntsIn w a0 l) (hll : l.length ≤ 17592186044416) (hb : ¬ (l.length = n ∧ ∀ p ∈ l, Fit1 p)) (hn : n ≤ 65536) :
    Calls Try.prog 56 #[.slice a0 l.length cap, .int .i64 (n : Int), f] w fun e w' => e = .returned (.int .i64 2) ∧ w = w' := by
  by_cases hl : l.length = n
  · have HCT := hide (contains_ok l a0 cap w true hc hll ⟨fun _ => fun h => hb ⟨hl, h⟩, fun _ => rfl⟩)
    rw [hl] at HCT ⊢
    clear hc hb hl hll
    go_enter Try.func56, Try.ntmps56
    go_wp2_with (first | (go_at_call 76; refine (unhide HCT).mono ?_; rintro e w1 ⟨rfl, rfl⟩))
    go_ret
    exact ⟨rfl, rfl⟩
  · obtain ⟨m, hm⟩ : ∃ m, m = l.length := ⟨_, rfl⟩
    rw [← hm] at hl ⊢
    have t1 : ¬ (m : Int) = (n : Int) := by omega
    have t2 : ((m : Int) != (n : Int)) = true := by simp; omega
    have t3 : (m != n) = true := by simp [hl]
    clear hc hb hm hll
    go_enter Try.func56, Try.ntmps56
    go_wp2_with fail
    go_ret
    exact ⟨rfl, rfl⟩

theorem IntsIn.of {w w' : World} {a0 : Option Addr} {l : List Int} (h : IntsIn w a0 l) (hb : ∀ k, k < w.heap.size → w'.heap[k]? = w.heap[k]?) : IntsIn w' a0 l := fun j hj => by
  obtain ⟨g, off, e, c⟩ := h j hj
  refine ⟨g, off, e, ?_⟩
  simp only [World.cell?] at c ⊢
  rw [hb g (cell_lt (w := w) (p := ⟨g, off + j, none⟩) (u := .int .i64 (l.getD j 0)) (by simpa [World.cell?] using c))]
  exact c

theorem Chs.toNat {l : List Int} (h : ∀ p ∈ l, Fit1 p) : Chs (l.map Int.toNat) := fun p hp => by
  obtain ⟨z, hz, rfl⟩ := List.mem_map.1 hp
  have := h z hz
  have h1 := this.1
  have h2 := this.2
  omega

theorem PS.setAll {B : Nat} {w w' : World} {pb gc : Nat} {ov : Value} {c : Enc} {ch ch' : List Nat} {k : Nat} (h : PS B w pb gc ov c ch k) (h1 : PCh w' gc ch') (h2 : DT w w' gc gc 0) (hl : ch'.length = ch.length) (hc : Chs ch') : PS B w' pb gc ov c ch' k ∧ Tch w w' pb gc 0 ov ov := by
  have h3 := h.pc.enc.notch h.pc.chs
  refine ⟨⟨⟨⟨by rw [hl, h2.keep pb (fun e => h3.1 e.symm) (fun e => h3.1 e.symm)]; exact h.pc.enc.cells, own_keep h.pc.enc.row fun g e => h2.keep g (fun e' => h3.2 (by rw [e, e'])) (fun e' => h3.2 (by rw [e, e'])), h.pc.enc.lo⟩, h1, h.pc.lo⟩, h.wide, hc, by rw [h2.size]; exact h.base⟩, ⟨h2.os, h2.tape, h2.output, by rw [h2.size]; exact Nat.le_refl _, fun k hk _ hg _ => h2.keep k hg hg, fun b e => .inl e⟩⟩

set_option maxHeartbeats 4000000 in
theorem pset_ok (B pb gc : Nat) (w : World) (ov : Value) (c : Enc) (ch : List Nat) (k : Nat) (l : List Int) (a0 : Option Addr) (cap : Nat) (h : PS B w pb gc ov c ch k) (hc : IntsIn w a0 l) (hl : l.length = ch.length) (hf : ∀ p ∈ l, Fit1 p) (hn : ch.length ≤ 65536) :
    Calls Try.prog 23 #[.pointer (some ⟨pb, 0, none⟩), .slice a0 l.length cap] w fun e w' => e = .returned (.int .i64 0) ∧ PS B w' pb gc ov c (l.map Int.toNat) k ∧ Tch w w' pb gc 0 ov ov := by
  have HG := hide (good_ok pb w true h.pc.enc.made)
  have HEA := hide (each_ok gc ch l a0 cap w.drew h.pc.chs (hc.of (fun _ _ => rfl)) hl hf hn)
  have c1 : w.drew.cell? ⟨pb, 1, none⟩ = some (.slice (some ⟨gc, 0, none⟩) ch.length ch.length) := h.pc.enc.chs
  have HE := hide h
  have HF := hide hf
  have HL := hide hl
  rw [hl] at HEA ⊢
  obtain ⟨n, hnn⟩ : ∃ n, n = ch.length := ⟨_, rfl⟩
  rw [← hnn] at HEA c1 ⊢
  clear h hc hf hl hnn
  go_enter Try.func23, Try.ntmps23
  go_upto_region 3 with (first | (go_at_call 41; refine (unhide HG).mono ?_; rintro e w1 ⟨rfl, rfl⟩))
  refine wp_tail 11 (by kernel_rfl) (by kernel_rfl) ?_
  simp only [List.take_succ_cons, List.take_zero, List.drop_succ_cons, List.drop_zero]
  repeat still_step
  try refine wpStill_nil ?_
  go_wp2_with (first | (go_at_call 56; refine (unhide HEA).mono ?_; rintro e w2 ⟨rfl, h1, h2⟩; have H1 := hide h1; have H2 := hide h2; clear h1 h2))
  go_ret
  have h3 := (unhide HE).setAll (unhide H1) ((⟨rfl, rfl, rfl, rfl, fun _ _ _ => rfl⟩ : DT w1 w1.drew gc gc 0).trans (unhide H2)) (by rw [List.length_map]; exact unhide HL) (Chs.toNat (unhide HF))
  exact ⟨rfl, h3.1, h3.2⟩

theorem PC.drew {B : Nat} {w : World} {pb gc : Nat} {ov : Value} {c : Enc} {ch : List Nat} (h : PC B w pb gc ov c ch) : PC B w.drew pb gc ov c ch := h.drewN 1

set_option maxHeartbeats 4000000 in
theorem pset_bad (B pb gc : Nat) (w : World) (ov : Value) (c : Enc) (ch : List Nat) (l : List Int) (a0 : Option Addr) (cap : Nat) (h : PC B w pb gc ov c ch) (hc : IntsIn w a0 l) (hll : l.length ≤ 17592186044416) (hb : ¬ (l.length = ch.length ∧ ∀ p ∈ l, Fit1 p)) (hn : ch.length ≤ 65536) :
    Calls Try.prog 23 #[.pointer (some ⟨pb, 0, none⟩), .slice a0 l.length cap] w fun e w' => e = .returned (.int .i64 2) ∧ Refused B w w' pb gc ov c ch := by
  have HG := hide (good_ok pb w true h.enc.made)
  have HEA := hide (each_bad (.func (.func 57) #[.slice (some ⟨gc, 0, none⟩) ch.length ch.length] #[]) ch.length l a0 cap w.drew (hc.of (fun _ _ => rfl)) hll hb hn)
  have c1 : w.drew.cell? ⟨pb, 1, none⟩ = some (.slice (some ⟨gc, 0, none⟩) ch.length ch.length) := h.enc.chs
  have HE := hide h
  generalize l.length = m at HEA ⊢
  obtain ⟨n, hnn⟩ : ∃ n, n = ch.length := ⟨_, rfl⟩
  rw [← hnn] at HEA c1
  clear h hc hb hnn
  go_enter Try.func23, Try.ntmps23
  go_upto_region 3 with (first | (go_at_call 41; refine (unhide HG).mono ?_; rintro e w1 ⟨rfl, rfl⟩))
  refine wp_tail 11 (by kernel_rfl) (by kernel_rfl) ?_
  simp only [List.take_succ_cons, List.take_zero, List.drop_succ_cons, List.drop_zero]
  repeat still_step
  try refine wpStill_nil ?_
  go_wp2_with (first | (go_at_call 56; refine (unhide HEA).mono ?_; rintro e w2 ⟨rfl, rfl⟩))
  go_ret
  exact ⟨rfl, (unhide HE).drew, (Tch.refl w1 pb gc 0 ov).drewN 1⟩
end Go.Proofs.Ytbolhbjipmndeaa.D
