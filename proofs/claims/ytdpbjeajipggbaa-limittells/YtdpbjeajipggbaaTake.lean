/- take: the coins that the code is made of, and the lengths. -/
import Derived.Test.YtdpbjeajipggbaaTakeI
namespace Go.Proofs.Ytdpbjeajipggbaa
open Go.RowKit Go.Shelf
set_option linter.unusedVariables false

attribute [local go_sem] Oper.semAt_some

set_option maxRecDepth 100000 in
set_option maxHeartbeats 2000000 in
theorem take_in (F : Fence) (n : Nat) (h16 : F.fn 16) (h23 : F.fn 23) (h30 : F.fn 30) (hro : F.round = none) (hn : 4 ≤ n) (os : List Int) (order : List Nat) (gr gl M nn N T : Nat) (sa : Option Addr) (scap : Nat) (v1 v2 : Nat → Value) (w : World) (hM : M ≤ 20) (hM1 : 1 ≤ M) (hN : N ≤ 65536) (hNo : N = order.length) (hsc : N ≤ scap) (hT : T = 2 * N - 2)
    (hw : TakeW os order w gr gl M sa v1 v2) (hl : IntsAt w .i64 3 gl nn (fun _ => 0)) (ho : ∀ i ∈ order, i < nn) (hTl : T ≤ (Merge.wr (worths os order) (M - 1)).length) (hnd : order.Nodup) :
    CallsIn F n Try.prog 16 #[.slice (some ⟨gr, 0, none⟩) M M, .slice sa N scap, .slice (some ⟨gl, 0, none⟩) nn nn] w fun e w' => e = .returned (.tuple #[]) ∧ IntsAt w' .i64 3 gl nn (Merge.len order (worths os order) M T M) ∧ (∀ x, x < w.heap.size → x ≠ gl → w'.heap[x]? = w.heap[x]?) ∧ w.heap.size ≤ w'.heap.size ∧ w'.os = w.os ∧ w'.tape = w.tape ∧ w'.output = w.output := by
  have h1 : 1 ≤ n := by omega
  have hmax : max (0 : Int) (2 * (N : Int) - 2) = (T : Int) := by omega
  have hw1 : IntKind.i64.wrap (2 * (N : Int)) = 2 * (N : Int) := IntWalk.i64_in _ (by omega)
  have hw2 : IntKind.i64.wrap (2 * (N : Int) - 2) = 2 * (N : Int) - 2 := IntWalk.i64_in _ (by omega)
  have hgl : gl < w.heap.size := hl.lt
  have HNO := hide hNo
  have HT := hide hT
  clear hT hNo
  refine callsIn_of_wp_marks Try.func16 rfl h16 ?_ hro
  simp only [Try.ntmps16, List.size_toArray, List.length_cons, List.length_nil, Nat.reduceAdd, Nat.reduceSub, Array.replicate_succ, Array.replicate_zero, List.push_toArray, List.append_toArray, List.nil_append, List.cons_append]
  gi_wp2_with (gi_at_call 23; refine (back_in F (n - 1) h23 hro _ _ _ _).mono ?_; rintro e w' ⟨rfl, rfl⟩)
  refine range_all hro h1 (gf := 30) (lb := #[.pointer (some ⟨w.heap.size + 1 + 1 + 1, 0, none⟩)]) rfl h30 (enters_of Try.func30 (by kernel_rfl) rfl) (encB M v1 v2) M (fun _ => rfl)
    (fun k W => TakeI w gr gl M nn N T sa scap order (worths os order) (Merge.len order (worths os order) M T k) (Merge.tk (worths os order) M T k) W)
    (fun k W W' row h hg hr => h.grown hg (fun r e => ⟨by have := (hr r e).1; simp at this; omega, (hr r e).2⟩))
    (by rw [show Merge.len order (worths os order) M T 0 = fun _ => 0 from funext fun _ => rfl]; exact TakeI.start hl)
    (fun l J W hJ h0 hY => back1_in F (n - 1) h30 hro (by omega) l (w.heap.size + 3) gr M hM v1 v2 J (fun k W h => (hJ k W h).back hw) hY W h0)
    (fun k a' W => ∃ Bx, W.heap[Bx]? = some (.cells #[v1 (M - 1 - k), v2 (M - 1 - k)] 57 (0, 0)) ∧ a' = { tmps := #[.slice (some ⟨gr, 0, none⟩) M M, .slice sa N scap, .slice (some ⟨gl, 0, none⟩) nn nn, undef, .pointer (some ⟨w.heap.size, 0, none⟩), .pointer (some ⟨w.heap.size + 1, 0, none⟩), .pointer (some ⟨w.heap.size + 1 + 1, 0, none⟩), undef, .pointer (some ⟨Bx, 0, none⟩), undef, undef, undef,
      .slice sa N scap, .int .i64 (N : Int), .int .i64 (2 * (N : Int)), .int .i64 (2 * (N : Int) - 2), .int .i64 (T : Int), .slice (some ⟨gr, 0, none⟩) M M, .func (.func 30) #[] #[.pointer (some ⟨w.heap.size + 1 + 1 + 1, 0, none⟩)], .int .i64 ((M - 1 - k : Nat) : Int), .agg #[v1 (M - 1 - k), v2 (M - 1 - k)], undef, undef, undef, undef, undef, undef, undef, undef, undef, undef, undef, undef, undef, undef, undef, undef, undef, undef, undef, undef, undef, undef, undef, undef, undef], defers := [] })
    (fun k a' _ W W' row h hg hr => by
      obtain ⟨Bx, hb, e⟩ := h
      refine ⟨Bx, ?_, e⟩
      rw [hg.block Bx (heap_lt hb) (fun e' => by
        obtain ⟨_, o, ho', hc⟩ := hr Bx e'.symm
        rw [hb] at ho'
        injection ho' with ho'
        subst ho'
        simp [Obj.isCells] at hc)]
      exact hb) ?assign ?body ?done
  case assign =>
    intro l k W K hk hi hK
    obtain ⟨x1, x2, x3, e1⟩ := hw.sh (M - 1 - k) (by omega)
    obtain ⟨y1, y2, y3, _, e2, _⟩ := hw.ahd (M - 1 - k) (by omega)
    have HK := hide hK
    have HI := hide hi
    clear hK hi
    simp only [encB]
    rw [e1, e2] at HK ⊢
    gi_wp2
    exact unhide HK _ _ (KeepsOthers.alloc _ _) ((unhide HI).alloc _) ⟨W.heap.size, heap_alloc_new _ _, rfl⟩
  case body =>
    rintro l k a' W hk hi ⟨Bx, hb, rfl⟩
    obtain ⟨y1, y2, y3, hy, e2, hcell⟩ := hw.ahd (M - 1 - k) (by omega)
    obtain ⟨A, hA⟩ : ∃ A, A = Merge.al (worths os order) M T k := ⟨_, rfl⟩
    have hAl := Merge.al_le (worths os order) M T k hTl hk
    have hAg := Merge.al_get (worths os order) M T k hTl hk
    have hlen2 : ∀ i, Merge.len order (worths os order) M T (k + 1) i = Merge.len order (worths os order) M T k i + (order.take A).count i := fun i => by rw [hA]; rfl
    have htk2 : Merge.tk (worths os order) M T (k + 1) = 2 * (Merge.tk (worths os order) M T k - A) := by rw [hA]; rfl
    have htl := Merge.tk_le (worths os order) M T hTl k hk
    have hle2 := Merge.len_le order (worths os order) hnd M T
    rw [Merge.wr_length, worths_length, ← unhide HNO] at htl
    have hbl := Merge.bk_length (worths os order) (M - 1 - k)
    rw [worths_length, ← unhide HNO] at hbl
    rw [← hA] at hAl hAg
    rw [worths_length, ← unhide HNO] at hAl
    obtain ⟨t, ht⟩ : ∃ t, t = Merge.tk (worths os order) M T k := ⟨_, rfl⟩
    rw [← ht] at hi hAl hAg htk2 htl
    obtain ⟨L, hL⟩ : ∃ L, L = (Merge.ahd (worths os order) (Merge.bk (worths os order) (M - 1 - k))).length := ⟨_, rfl⟩
    have hL2 : t < L := by rw [hL, Merge.ahd_length, worths_length, ← unhide HNO]; omega
    have ka := hi.cell (hcell t (by rw [← hL]; exact hL2)) hy
    rw [hAg] at ka
    rw [← hL] at e2
    have cb : W.cell? ⟨Bx, 1, none⟩ = some (.slice (some ⟨y1, y2, none⟩) L y3) := by simp only [World.cell?, hb]; rw [e2]; rfl
    have c0 := hi.c0
    have c2 := hi.c2
    have hA1 : (A : Int) ≤ (N : Int) := by omega
    have hA2 : (A : Int) ≤ (scap : Int) := by omega
    have hA3 : A ≤ scap := by omega
    have htL : (t : Int) < (L : Int) := by omega
    have HI := hide hi
    have HLEN := hide hlen2
    have HTK := hide htk2
    have HLE := hide hle2
    have hsm : t ≤ 131072 := by omega
    have hAt := hAl.2
    have hAN := hAl.1
    clear hi hlen2 htk2 hle2 hcell hAg hAl htl hbl hA ht hL e2 hL2 hb
    have HSY := hide hw.sym
    have HNN := hide ho
    clear hw hl ho hTl hnd hmax hw1 hw2
    cases sa with
    | none =>
      gi_wp2
      gi_loopw [30] (fun d ws => ∃ (q : Nat) (C : Nat → Nat), q ≤ A ∧ d = .int .i64 (q : Int) ∧ TakeI w gr gl M nn N T none scap order (worths os order) C t ws ∧ (∀ i, C i = Merge.len order (worths os order) M T k i + (order.take q).count i) ∧ KeepsOthers W ws) (fun d _ => A - (intOf d).toNat)
      case atStart => exact ⟨0, _, Nat.zero_le _, rfl, unhide HI, fun i => by simp, KeepsOthers.refl _⟩
      case round =>
        obtain ⟨q, C, hq, rfl, hat, hC, hko⟩ := hrel
        by_cases hlt : q < A
        · exfalso
          have := (unhide HSY) (by rw [← unhide HNO]; omega)
          obtain ⟨g, off, e, _⟩ := this
          cases e
        · obtain rfl : q = A := by omega
          have c2' := hat.c2
          have f2' := hat.f2
          have HC : Hid (C = Merge.len order (worths os order) M T (k + 1)) := hide (funext fun i => by rw [hC, unhide HLEN])
          have HT2 := hide (hat.taken hgl (2 * (t - q)))
          have HKO := hide hko
          have hqi : ¬ (q : Int) < (q : Int) := by omega
          obtain ⟨z, hz⟩ : ∃ z : Nat, z = t - q := ⟨_, rfl⟩
          have hz1 : (t : Int) - (q : Int) = (z : Int) := by omega
          rw [← hz] at HT2
          have HZ := hide hz
          have hzs : z ≤ 131072 := by omega
          clear hat hC hko c0 c2 ka cb hz
          gi_wp2
          refine ⟨(unhide HKO).trans (KeepsOthers.setCell _ _ _), ?_⟩
          have hfin := unhide HT2
          rw [unhide HC] at hfin
          rw [unhide HTK, ← unhide HZ]
          have e : ((2 * z : Nat) : Int) = 2 * (z : Int) := by omega
          rw [e] at hfin
          exact hfin
    | some ad =>
      gi_wp2
      gi_loopw [30] (fun d ws => ∃ (q : Nat) (C : Nat → Nat), q ≤ A ∧ d = .int .i64 (q : Int) ∧ TakeI w gr gl M nn N T (some ad) scap order (worths os order) C t ws ∧ (∀ i, C i = Merge.len order (worths os order) M T k i + (order.take q).count i) ∧ KeepsOthers W ws) (fun d _ => A - (intOf d).toNat)
      case atStart => exact ⟨0, _, Nat.zero_le _, rfl, unhide HI, fun i => by simp, KeepsOthers.refl _⟩
      case round =>
        obtain ⟨q, C, hq, rfl, hat, hC, hko⟩ := hrel
        by_cases hlt : q < A
        · obtain ⟨g, off, e, hne, hc⟩ := (unhide HSY) (by rw [← unhide HNO]; omega)
          injection e with e
          subst e
          have hqo : q < order.length := by rw [← unhide HNO]; omega
          have s1 := hat.cell (hc q hqo).1 hne
          have s2 := hat.cell (hc q hqo).2 hne
          obtain ⟨s, hs⟩ : ∃ s, s = order.getD q 0 := ⟨_, rfl⟩
          obtain ⟨u, hu⟩ : ∃ u, u = wt os (order.getD q 0) := ⟨_, rfl⟩
          rw [← hs] at s1
          rw [← hu] at s2
          have hsn : s < nn := unhide HNN s (by rw [hs]; simp [hqo])
          have hcs : order.take (q + 1) = order.take q ++ [s] := by rw [hs]; simp [hqo]
          have z1 : w.heap.size + 1 < wr.heap.size := heap_lt hat.b1
          have z2 : gl < wr.heap.size := hat.ln.lt
          have l1 := hat.ln.cell s hsn
          have l2 := hat.ln.free s
          have c1 := hat.c1
          have hcb : C s ≤ 1000000 := by have h1 := hC s; have h2 := unhide HLE s k; have h3 : (order.take q).count s ≤ q := Nat.le_trans List.count_le_length (by simp; omega); omega
          obtain ⟨cs, hcs2⟩ : ∃ cs, cs = C s := ⟨_, rfl⟩
          rw [← hcs2] at l1 hcb
          have hsni : (s : Int) < (nn : Int) := by omega
          have hqi : (q : Int) < (A : Int) := by omega
          have HX := hide (hat.inc hgl s (cs + 1))
          have HC2 : Hid (∀ i, upd C s (cs + 1) i = Merge.len order (worths os order) M T k i + (order.take (q + 1)).count i) := hide fun i => by
            rw [hcs, List.count_append]
            unfold upd
            by_cases e : i = s
            · subst e; rw [if_pos rfl, hcs2, hC]; simp; omega
            · rw [if_neg e, hC, List.count_singleton, if_neg (by simp; omega)]; omega
          have HKO := hide hko
          have hw3 : IntKind.i64.wrap ((cs : Int) + 1) = (cs : Int) + 1 := IntWalk.i64_in _ (by omega)
          clear hat hC hko hc hs hu hcs hcs2 c0 c2 ka cb
          gi_wp2
          have hx := unhide HX
          rw [show ((cs + 1 : Nat) : Int) = (cs : Int) + 1 by omega] at hx
          refine ⟨⟨q + 1, _, by omega, by congr 1, hx.alloc _, unhide HC2, ((unhide HKO).trans (KeepsOthers.setCell _ _ _)).trans (KeepsOthers.alloc _ _)⟩, by simp [intOf]; omega⟩
        · obtain rfl : q = A := by omega
          have c2' := hat.c2
          have f2' := hat.f2
          have HC : Hid (C = Merge.len order (worths os order) M T (k + 1)) := hide (funext fun i => by rw [hC, unhide HLEN])
          have HT2 := hide (hat.taken hgl (2 * (t - q)))
          have HKO := hide hko
          have hqi : ¬ (q : Int) < (q : Int) := by omega
          obtain ⟨z, hz⟩ : ∃ z : Nat, z = t - q := ⟨_, rfl⟩
          have hz1 : (t : Int) - (q : Int) = (z : Int) := by omega
          rw [← hz] at HT2
          have HZ := hide hz
          have hzs : z ≤ 131072 := by omega
          clear hat hC hko c0 c2 ka cb hz
          gi_wp2
          refine ⟨(unhide HKO).trans (KeepsOthers.setCell _ _ _), ?_⟩
          have hfin := unhide HT2
          rw [unhide HC] at hfin
          rw [unhide HTK, ← unhide HZ]
          have e : ((2 * z : Nat) : Int) = 2 * (z : Int) := by omega
          rw [e] at hfin
          exact hfin
  case done =>
    rintro D W hD hi hK
    gi_wp2
    refine ⟨by simp, .inl ⟨_, _, rfl, run_takeDeferred hK, ?_⟩⟩
    have hi2 := hi.grown (grownBy_putObj' W D (.deferred none)) (fun r e => by cases e; exact ⟨by simp at hD; omega, _, hK, rfl⟩)
    exact ⟨_, results_none rfl _ _ _, rfl, hi2.ln, hi2.kp, Nat.le_of_lt (heap_lt hi2.b0), hi2.st⟩

theorem take_ok (os : List Int) (order : List Nat) (gr gl M nn N T : Nat) (sa : Option Addr) (scap : Nat) (v1 v2 : Nat → Value) (w : World) (hM : M ≤ 20) (hM1 : 1 ≤ M) (hN : N ≤ 65536) (hNo : N = order.length) (hsc : N ≤ scap) (hT : T = 2 * N - 2)
    (hw : TakeW os order w gr gl M sa v1 v2) (hl : IntsAt w .i64 3 gl nn (fun _ => 0)) (ho : ∀ i ∈ order, i < nn) (hTl : T ≤ (Merge.wr (worths os order) (M - 1)).length) (hnd : order.Nodup) :
    Calls Try.prog 16 #[.slice (some ⟨gr, 0, none⟩) M M, .slice sa N scap, .slice (some ⟨gl, 0, none⟩) nn nn] w fun e w' => e = .returned (.tuple #[]) ∧ IntsAt w' .i64 3 gl nn (Merge.len order (worths os order) M T M) ∧ (∀ x, x < w.heap.size → x ≠ gl → w'.heap[x]? = w.heap[x]?) ∧ w.heap.size ≤ w'.heap.size ∧ w'.os = w.os ∧ w'.tape = w.tape ∧ w'.output = w.output :=
  (callsIn_wide (n := 4)).1 (take_in _ 4 trivial trivial trivial rfl (by omega) os order gr gl M nn N T sa scap v1 v2 w hM hM1 hN hNo hsc hT hw hl ho hTl hnd)

end Go.Proofs.Ytdpbjeajipggbaa
