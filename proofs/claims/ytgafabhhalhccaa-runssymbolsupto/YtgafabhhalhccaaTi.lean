/- The two tellers of ints, and what is unrolled of a reading that tells them. -/
import Derived.Test.YtgafabhhalhccaaPu
import Derived.Test.YtgafabhhalhccaaSp
import Derived.Test.YtgafabhhalhccaaPl
namespace Go.Proofs.Ytgafabhhalhccaa
open Go.RowKit Runs
set_option maxRecDepth 100000
set_option linter.unusedVariables false
attribute [local go_sem ↓] Go.wp_at_zero Go.wp_at_succ

set_option maxHeartbeats 4000000 in
theorem tell1I_ok (w0 w : World) (gr : Nat) (most : Int) (k : Nat) (h : Cnt w0 gr most k w) (hm : most ≤ 9223372036854775807) (c : Value) (x : Nat) :
    Calls Try.prog 43 #[c, .int .i64 (x : Int), .pointer (some ⟨gr, 0, none⟩)] w fun e w' => ((k : Int) + (x : Int) ≤ most ∧ e = .returned (.int .i64 0) ∧ Cnt w0 gr most (k + x) w') ∨ (most < (k : Int) + (x : Int) ∧ e = .returned (.int .i64 3) ∧ w' = w) := by
  have c1 := h.box.cell
  have c2 := h.box.free
  have hle := h.le
  have H := hide h
  clear h
  by_cases hb : most - (k : Int) < (x : Int)
  · have HB : Hid (most < (k : Int) + (x : Int)) := hide (by omega)
    go_enter Try.func43, Try.ntmps43
    go_wp2_with fail
    go_ret
    exact .inr ⟨unhide HB, rfl, rfl⟩
  · have HB : Hid ((k : Int) + (x : Int) ≤ most) := hide (by omega)
    have fw : IntKind.i64.wrap (most - (k : Int) - (x : Int)) = most - (k : Int) - (x : Int) := by rw [IntKind.wrap_i64]; omega
    go_enter Try.func43, Try.ntmps43
    go_wp2_with fail
    go_ret
    refine .inl ⟨unhide HB, rfl, ?_, ?_, by have := unhide HB; omega⟩
    · have := (unhide H).box.set (.int .i64 (most - (k : Int) - (x : Int)))
      rw [show most - (k : Int) - (x : Int) = most - ((k + x : Nat) : Int) by omega] at this ⊢
      exact this
    · exact (unhide H).bel.setCell (Nat.le_refl _) _

theorem St.shape {w0 w : World} {v : Value} {xs : List Value} (h : St w0 w v xs) : ∃ a n c, v = .slice a n c := by
  obtain ⟨a, c, e⟩ := h.len
  exact ⟨a, _, c, e⟩

/-- so much has been made -/
structure MakI (w0 : World) (ga : Nat) (out : List Int) (va : Value) (w : World) : Prop where
  box : BoxAt w ga 32 va
  row : St w0 w va (out.map iv)
  lo : w0.heap.size ≤ ga

theorem MakI.apart {w0 w : World} {ga : Nat} {out : List Int} {va : Value} (h : MakI w0 ga out va w) : va.ownBlock ≠ some ga := by
  intro e
  rcases h.row.own.2 with ⟨e1, e2⟩ | ⟨g, cap, cur, e1, hb, hh, _⟩
  · rw [e1] at e; cases e
  · rw [e1] at e
    obtain rfl : g = ga := Option.some.inj e
    have := h.box
    unfold BoxAt at this
    rw [hh] at this
    injection this with this
    injection this with _ h2
    cases h2

theorem makI_box {w0 ws w' : World} {ga : Nat} {out : List Int} {va : Value} (h : MakI w0 ga out va ws) (hk : ∀ k, k < ws.heap.size → va.ownBlock ≠ some k → w'.heap[k]? = ws.heap[k]?) : BoxAt w' ga 32 va := by
  unfold BoxAt
  rw [hk ga h.box.lt h.apart]
  exact h.box

theorem makI_step {w0 ws w' : World} {ga : Nat} {out xs : List Int} {va v' : Value} (h : MakI w0 ga out va ws) (h3 : St w0 w' v' (xs.map iv)) (hk : ∀ k, k < ws.heap.size → va.ownBlock ≠ some k → w'.heap[k]? = ws.heap[k]?) (hb : ∀ b, v'.ownBlock = some b → va.ownBlock = some b ∨ ws.heap.size ≤ b) : MakI w0 ga xs v' (w'.setCell ⟨ga, 0, none⟩ v') := by
  refine ⟨(makI_box h hk).set v', ⟨own_keep h3.own fun g e => heap_setCell_other _ _ _ _ ?_, h3.bel.setCell h.lo _⟩, h.lo⟩
  show g ≠ ga
  rintro rfl
  rcases hb g e with h4 | h4
  · exact h.apart h4
  · have := h.box.lt; omega

set_option maxHeartbeats 4000000 in
theorem tell2I_ok (w0 w : World) (ga : Nat) (out : List Int) (va : Value) (c : Int) (x : Nat) (h : MakI w0 ga out va w) (hx : x ≤ 4194304) (hl : out.length + x ≤ 10000000000000) :
    Calls Try.prog 44 #[.int .i64 c, .int .i64 (x : Int), .pointer (some ⟨ga, 0, none⟩)] w fun e w' => e = .returned (.int .i64 0) ∧ ∃ v', MakI w0 ga (out ++ List.replicate x c) v' w' := by
  have H := hide h
  clear h
  go_enter Try.func44, Try.ntmps44
  go_wp2_with fail
  go_loopg [7] x (fun gk d ws => ∃ (k : Nat), gk = x - k ∧ k ≤ x ∧ d = .int .i64 (k : Int) ∧ Hid (∃ v', MakI w0 ga (out ++ List.replicate k c) v' ws))
  case atStart => exact ⟨0, by omega, by omega, rfl, hide ⟨va, by simpa using unhide H⟩⟩
  case round =>
    clear H
    obtain ⟨k, rfl, hk, rfl, H⟩ := hrel
    by_cases hlt : k < x
    · have tl : (k : Int) < (x : Int) := by omega
      obtain ⟨v1, h1⟩ := unhide H
      have c1 := h1.box.cell
      have H1 := hide h1
      clear h1 H
      go_wp2_with (at_builtin; refine wp_oneI rfl _ _ rfl _ _ c (by rfl) (by rfl) (unhide H1).row (by rw [List.length_map, List.length_append, List.length_replicate]; omega) ?_; intro v3 w3 h3 h4 h5 h6; have H3 : Hid (MakI w0 ga (out ++ List.replicate k c ++ [c]) v3 (w3.setCell ⟨ga, 0, none⟩ v3)) := hide (makI_step (unhide H1) (by rw [List.map_append]; exact h3) h4 h6); have c3 : w3.cell? ⟨ga, 0, none⟩ = some v1 := (makI_box (unhide H1) h4).cell; have c4 : w3.frozen? ⟨ga, 0, none⟩ = false := (makI_box (unhide H1) h4).free; obtain ⟨a3, n3, k3, e3⟩ := h3.shape; subst e3; clear h3 h4 h5 h6)
      go_roundg (x - (k + 1))
      case measure => omega
      case rel => exact ⟨k + 1, rfl, by omega, by go_num, hide ⟨_, by rw [List.replicate_succ', ← List.append_assoc]; exact unhide H3⟩⟩
    · obtain rfl : k = x := by omega
      have tl : ¬ (k : Int) < (k : Int) := by omega
      go_wp2_with fail
      go_ret
      exact ⟨rfl, unhide H⟩

/-- a function that is told ints; what it has been told is known of the memory -/
structure TellerI (fn : Nat) (cb : Array Value) (m : Int) (B : Prop) (I : List Int → World → Prop) (K : World → Prop) : Prop where
  enter : ∀ (args : Array Value) (x : World), Sem.run Try.prog (callFunc fn args) x = .ok (.enter fn args) x
  call : ∀ (out : List Int) (W : World) (c : Int) (k : Nat), I out W → k ≤ 4194304 → (((out.length : Int) + (k : Int) ≤ m) ∨ B) → Calls Try.prog fn (#[.int .i64 c, .int .i64 (k : Int)] ++ cb) W fun e W' =>
    ((out.length : Int) + (k : Int) ≤ m ∧ e = .returned (.int .i64 0) ∧ I (out ++ List.replicate k c) W') ∨ (m < (out.length : Int) + (k : Int) ∧ e = .returned (.int .i64 3) ∧ K W')
  keep : ∀ out W, I out W → K W

/-- what a reading answers -/
def RsIs (r : List Int × Nat) (I : List Int → World → Prop) (K : World → Prop) (e : Ending) (w' : World) : Prop := e = .returned (.int .i64 (r.2 : Int)) ∧ (r.2 = 0 → I r.1 w') ∧ K w'

theorem cntI_teller (w : World) (gr : Nat) (most : Int) (hm : most ≤ 9223372036854775807) : TellerI 43 #[.pointer (some ⟨gr, 0, none⟩)] most True (fun out W => Cnt w gr most out.length W) (fun W => Below gr w W) where
  enter := Try.call43
  call := fun out W c k h hk _ => by
    refine (tell1I_ok w W gr most out.length h hm (.int .i64 c) k).mono ?_
    rintro e w' (⟨h1, h2, h3⟩ | ⟨h1, h2, h3⟩)
    · exact .inl ⟨h1, h2, by rw [List.length_append, List.length_replicate]; exact h3⟩
    · exact .inr ⟨h1, h2, by rw [h3]; exact h.bel⟩
  keep := fun out W h => h.bel

theorem makI_teller (w : World) (ga : Nat) (m : Int) (hm : m ≤ 10000000000000) : TellerI 44 #[.pointer (some ⟨ga, 0, none⟩)] m False (fun out W => ∃ v, MakI w ga out v W) (fun W => Below w.heap.size w W) where
  enter := Try.call44
  call := fun out W c k h hk hB => by
    obtain ⟨v, h⟩ := h
    have hle : (out.length : Int) + (k : Int) ≤ m := by rcases hB with h | h; exact h; exact h.elim
    refine (tell2I_ok w W ga out v c k h hk (by omega)).mono ?_
    rintro e w' ⟨h1, h2⟩
    exact .inl ⟨hle, h1, h2⟩
  keep := fun out W ⟨v, h⟩ => h.row.bel

/-- a reading that is handed on: what it tells, of so many at most -/
structure Reading (w : World) (fr : Nat) (cr : Array Value) (PL : Int → List Int × Nat) : Prop where
  enter : ∀ (args : Array Value) (x : World), Sem.run Try.prog (callFunc fr args) x = .ok (.enter fr args) x
  call : ∀ (W : World) (fn : Nat) (cb : Array Value) (m : Int) (B : Prop) (I : List Int → World → Prop) (K : World → Prop), TellerI fn cb m B I K → I [] W → 0 ≤ m → (∀ out X, I out X → Below w.heap.size w X) → (B ∨ ∃ r, PL m = (r, 0)) →
    Calls Try.prog fr (#[.func (.func fn) #[] cb] ++ cr) W fun e w' => RsIs (PL m) I K e w'
  less : ∀ (m m' : Int) r, PL m = (r, 0) → (r.length : Int) ≤ m' → PL m' = (r, 0)
  err : ∀ m, (PL m).2 ≠ 0 → (PL m).1 = []
  small : ∀ (m : Int) r, PL m = (r, 0) → r.length ≤ 10000000000000

set_option maxHeartbeats 8000000 in
theorem unrI_ok (most : Int) (w : World) (fr : Nat) (cr : Array Value) (PL : Int → List Int × Nat) (hR : Reading w fr cr PL) (hm0 : 0 ≤ most) (hm : most ≤ 9223372036854775807) :
    Calls Try.prog 37 #[.int .i64 most, .func (.func fr) #[] cr] w fun e w' => ToldI w (PL most) e w' := by
  obtain ⟨i0, hi, hz0, hz1, hz2⟩ := info_parts info3'
  obtain ⟨gr, hgr⟩ : ∃ gr, gr = w.heap.size := ⟨_, rfl⟩
  have hE := hR.enter
  have hC0 : Cnt w gr most 0 (w.alloc (.cells #[.int .i64 most] 3)) := ⟨by
    unfold BoxAt
    rw [hgr, heap_alloc_new]
    simp, by rw [hgr]; exact (Below.refl _ _).alloc (Nat.le_refl _) _, by simpa using hm0⟩
  have HC1 := hide (hR.call (w.alloc (.cells #[.int .i64 most] 3)) 43 _ most True _ _ (cntI_teller w gr most hm) hC0 hm0 (fun out W h => by rw [← hgr]; exact h.bel) (.inl trivial))
  have HR := hide hR
  have HGR := hide hgr
  obtain ⟨U, hU⟩ : ∃ U, U = PL most := ⟨_, rfl⟩
  rw [← hU] at HC1 ⊢
  have HU := hide hU
  clear hU hC0 hR
  go_enter Try.func37, Try.ntmps37
  go_wp2_with fail
  rw [← hgr]
  clear hgr
  refine (unhide HC1).mono ?_
  rintro e w1 ⟨rfl, hC, hK⟩
  have HK := hide hK
  clear hK HC1
  obtain ⟨r, code⟩ := U
  by_cases hz : code = 0
  · subst hz
    have hC1 := hC rfl
    have HCN := hide hC1
    have c1 := hC1.box.cell
    have hT : r.length ≤ 10000000000000 := (unhide HR).small most r (unhide HU).symm
    have hle := hC1.le
    obtain ⟨T, hTT⟩ : ∃ T, T = r.length := ⟨_, rfl⟩
    obtain ⟨R, hR⟩ : ∃ R, R = most - (T : Int) := ⟨_, rfl⟩
    dsimp only at c1 hle
    rw [← hTT] at hT c1 hle
    rw [← hR] at c1
    have fR : IntKind.i64.wrap (most - R) = (T : Int) := by rw [IntKind.wrap_i64]; omega
    have HTT := hide hTT
    have hszr := hC1.box.lt
    obtain ⟨x2, hx2, hown, hgrow⟩ := run_make_own (P := Try.prog) w1 gr 32 3 i0 (.int .i64 0) 1 Try.underlying32 hi hz0 hz1 .i64 .i64 T (by rw [hz2]; omega) (by unfold maxLen; omega) (by omega)
    have HOWN := hide hown
    have HGROW := hide hgrow
    have hs2 : w1.heap.size < x2.heap.size := by
      rcases hown.2 with ⟨e1, _⟩ | ⟨g, cap', cur, e1, hb', hh, _⟩
      · cases e1
      · have h1 := heap_lt hh
        injection e1 with e1
        injection e1 with e1
        injection e1 with e1
        rw [← e1] at h1
        exact h1
    have HMK : Hid (MakI w x2.heap.size [] (.slice (some ⟨w1.heap.size, 0, none⟩) 0 T) (x2.alloc (.cells #[.slice (some ⟨w1.heap.size, 0, none⟩) 0 T] 32))) := hide (by
      have hg := unhide HGR
      have hb2 : Below w.heap.size w x2 := by rw [← hg]; exact (unhide HK).grown hgrow (by omega) (fun k e => by cases e)
      refine ⟨heap_alloc_new _ _, ⟨by rw [← hg]; exact hown.alloc _, hb2.alloc (by omega) _⟩, by omega⟩)
    have hU2 : PL (T : Int) = (r, 0) := (unhide HR).less most T r (unhide HU).symm (by omega)
    have HC2 := hide ((unhide HR).call (x2.alloc (.cells #[.slice (some ⟨w1.heap.size, 0, none⟩) 0 T] 32)) 44 _ (T : Int) False _ _ (makI_teller w x2.heap.size T (by omega)) ⟨_, unhide HMK⟩ (by omega) (fun out W ⟨v, h⟩ => h.row.bel) (.inr ⟨r, hU2⟩))
    rw [hU2] at HC2
    clear hC hC1 hTT hR hown hgrow hU2
    go_wp2_with fail
    refine (unhide HC2).mono ?_
    rintro e w3 ⟨rfl, h3, h4⟩
    obtain ⟨v3, h3⟩ := h3 rfl
    have c3 := h3.box.cell
    have H3 := hide h3
    clear h3 h4 HC2 HMK hx2 c1
    go_wp2_with fail
    go_ret2
    exact ⟨_, rfl, (unhide H3).row⟩
  · have hz1' : ((code : Int) != 0) = true := by rw [bne_iff_ne]; omega
    have hz2' : ¬ (code : Int) = 0 := by omega
    have hnil := (unhide HR).err most (by rw [← unhide HU]; exact hz)
    rw [← unhide HU] at hnil
    dsimp only at hnil
    subst hnil
    go_wp2_with fail
    go_ret2
    exact ⟨_, rfl, St.none w w1 (by rw [← unhide HGR]; exact unhide HK)⟩

set_option maxHeartbeats 2000000 in
/-- worth: of how many places 0 a run of symbols is -/
theorem worth_ok (ss : List Int) (a0 : Option Addr) (cap : Nat) (w : World) (hc : IntsIn w a0 ss) (hb : ∀ s ∈ ss, s = 0 ∨ s = 1) (hn : ss.length ≤ 20) (R : Nat → Nat) (h0 : R 0 = 0) (hs : ∀ i, i < ss.length → R (i + 1) = R i + ((ss.getD i 0).toNat + 1) * 2 ^ i) :
    Calls Try.prog 46 #[.slice a0 ss.length cap] w fun e w' => e = .returned (.int .i64 ((R ss.length : Nat) : Int)) ∧ w' = w := by
  have HC := hide hc
  have HBB := hide hb
  have HS := hide hs
  obtain ⟨n, hN⟩ : ∃ n, n = ss.length := ⟨_, rfl⟩
  have HN := hide hN
  rw [← hN] at hn HS ⊢
  clear hN hc hb hs
  go_enter Try.func46, Try.ntmps46
  have HRB : Hid (∀ i, i ≤ n → R i + 2 ≤ 2 * 2 ^ i) := hide fun i => by
    induction i with
    | zero => intro _; rw [h0]; decide
    | succ i ih =>
      intro hi
      have h1 := ih (by omega)
      have h2 := unhide HS i (by omega)
      have h3 : ss.getD i 0 ∈ ss := by
        rw [List.getD_eq_getElem?_getD, List.getElem?_eq_getElem (by rw [← unhide HN]; omega)]
        exact List.getElem_mem _
      have h4 : (ss.getD i 0).toNat + 1 ≤ 2 := by rcases unhide HBB _ h3 with h | h <;> rw [h] <;> decide
      have h5 : ((ss.getD i 0).toNat + 1) * 2 ^ i ≤ 2 * 2 ^ i := Nat.mul_le_mul_right _ h4
      rw [h2, Nat.pow_succ]
      omega
  go_wp2_with fail
  go_loopg [3, 8] n (fun gk kv d ws => ∃ (i : Nat), gk = n - i ∧ i ≤ n ∧ kv = .int .i64 ((R i : Nat) : Int) ∧ d = .int .i64 (i : Int) ∧ ws = w)
  case atStart => exact ⟨0, by omega, by omega, by rw [h0]; rfl, rfl, rfl⟩
  case round =>
    obtain ⟨i, rfl, hi, rfl, rfl, rfl⟩ := hrel
    by_cases hlt : i < n
    · have tl : (i : Int) < (n : Int) := by omega
      have hil : i < ss.length := by rw [← unhide HN]; exact hlt
      obtain ⟨g, off, rfl, c1⟩ := unhide HC i hil
      have hmem : ss.getD i 0 ∈ ss := by
        rw [List.getD_eq_getElem?_getD, List.getElem?_eq_getElem hil]
        exact List.getElem_mem hil
      have hx := unhide HBB _ hmem
      have hst := unhide HS i hlt
      have hb1 := unhide HRB i hi
      have hb2 := unhide HRB (i + 1) (by omega)
      obtain ⟨x, hxx⟩ : ∃ x, x = ss.getD i 0 := ⟨_, rfl⟩
      rw [← hxx] at c1 hx hst
      have hsh := shift_ok x i hx (by omega)
      have hp : 2 ^ i ≤ 2 ^ 19 := Nat.pow_le_pow_right (by omega) (by omega)
      have hp2 : 2 ^ (i + 1) ≤ 2 ^ 20 := Nat.pow_le_pow_right (by omega) (by omega)
      have ho : (R i : Int) + (x + 1) * 2 ^ i = ((R (i + 1) : Nat) : Int) := by rw [hsh.1, hst]; omega
      have fw1 : IntKind.i64.wrap ((R i : Int) + (x + 1) * 2 ^ i) = ((R (i + 1) : Nat) : Int) := by rw [ho, IntKind.wrap_i64]; omega
      have fw2 : IntKind.i64.wrap ((x + 1) * 2 ^ i) = (x + 1) * 2 ^ i := by rw [IntKind.wrap_i64]; omega
      have fw3 : IntKind.i64.wrap (x + 1) = x + 1 := by rw [IntKind.wrap_i64]; omega
      clear hxx hmem hst hb1 hb2 hsh hp hp2 hx
      have HO := hide ho
      clear ho
      go_wp2_with fail
      go_roundg (n - (i + 1))
      case measure => omega
      case rel => exact ⟨i + 1, rfl, by omega, by rfl, by go_num, rfl⟩
    · obtain rfl : n = i := by omega
      have tl : ¬ (n : Int) < (n : Int) := by omega
      go_wp2_with fail
      go_ret
      exact ⟨rfl, rfl⟩
end Go.Proofs.Ytgafabhhalhccaa
