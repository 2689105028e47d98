/- RouteTells. -/
import Derived.Test.YthhdlmegbbmbhaaRj
namespace Go.Proofs.Ythhdlmegbbmbhaa
open Go.RowKit Go.Shelf
set_option linter.unusedVariables false

attribute [local go_sem] Oper.semAt_some

theorem maxLen_le {n : Nat} (h : n ≤ maxLen) : n ≤ 9223372036854775807 := h

theorem eql_nilFunc {P : Program} {t : TypeId} {a b : Array TypeId} {c : Bool} (h : P.underlying t = some (.func a b c)) (f : Fn) (x y : Array Value) (W : World) :
    (binOp .eql t (.func f x y) .nilFunc).run P W = .ok (.bool false) W := by
  have hu : ∀ w, Sem.run P (underlying t) w = Result.ok (TypeDesc.func a b c) w := run_underlying h
  have he : ∀ w, Sem.run P (Op.equalIn Op.maxDepth t (Value.func f x y) Value.nilFunc) w = .ok false w := by
    intro w
    show Sem.run P (Op.equalIn (9999 + 1) t (Value.func f x y) Value.nilFunc) w = .ok false w
    unfold Op.equalIn
    simp [Sem.run_bind, hu, Result.andThen]
  simp [binOp, Op.equal, he]

/-- what is wanted, and the iterator, as values -/
structure Asked (s : ByteArray) (Bs Nn : Nat) (aa : Option Addr) (cap gf : Nat) (lb : Array Value) (W : World) : Prop where
  some_ : 0 < Nn → validL s.data.toList = true ∧ Nn = (pcs s.data.toList).length ∧ ∃ g, aa = some ⟨g, 0, none⟩ ∧ Doc.PcsAt W g s.data.toList ∧ Nn ≤ cap
  box : 0 < Nn → Var W Bs 9 (.string s)
  small : Nn ≤ 64
  enter : ∀ args w, (callFunc gf args).run Try.prog w = .ok (.enter gf args) w
  lt : Bs < W.heap.size
  seq : ∀ W' : World, (0 < Nn → Var W' Bs 9 (.string s)) → SeqAt Fence.wide 3 Try.prog gf lb (fun k => #[.string (pcAt s.data.toList k)]) (KpB Bs (.string s)) Nn W'

theorem Asked.below {s : ByteArray} {Bs Nn : Nat} {aa : Option Addr} {cap gf : Nat} {lb : Array Value} {W W' : World} (h : Asked s Bs Nn aa cap gf lb W) (hb : Below W.heap.size W W') : Asked s Bs Nn aa cap gf lb W' :=
  ⟨fun h0 => by
    obtain ⟨x, y, g, e, p, q⟩ := h.some_ h0
    exact ⟨x, y, g, e, p.belowAll hb, q⟩, fun h0 => (h.box h0).belowAll hb, h.small, h.enter, Nat.lt_of_lt_of_le h.lt hb.size, h.seq⟩

theorem names_slice {s : ByteArray} {B : Nat} {v : Value} {W : World} (h : Doc.NamesR s B v W) : ∃ aa n cap, v = .slice aa n cap ∧ Doc.NamesR s B (.slice aa n cap) W := by
  rcases h with ⟨hv, g, cap, rfl, hg⟩ | ⟨hv, rfl⟩
  · exact ⟨_, _, _, rfl, .inl ⟨hv, g, cap, rfl, hg⟩⟩
  · exact ⟨_, _, _, rfl, .inr ⟨hv, rfl⟩⟩

theorem asked {s : ByteArray} {w W1 W2 W3 : World} {v1 v3 : Value} (hs : s.size ≤ 9223372036854775807) (hn : Doc.NamesR s w.heap.size v1 W1) (h12 : Below W1.heap.size W1 W2) (h23 : Below W2.heap.size W2 W3) (hm : NamesIs s W2.heap.size v3 W3) (h0 : 0 < W3.heap.size) :
    ∃ Bs Nn aa cap gf lb, v1 = .slice aa Nn cap ∧ v3 = .func (.func gf) #[] lb ∧ Asked s Bs Nn aa cap gf lb W3 := by
  have h13 : Below W1.heap.size W1 W3 := h12.trans (h23.mono h12.size)
  rcases hn with ⟨hv, g, cap, rfl, hg, hpa, hcap⟩ | ⟨hv, rfl⟩
  · rcases hm with ⟨_, Bs, hBs, rfl, hbx⟩ | ⟨hv', _⟩
    · exact ⟨Bs, _, _, cap, 39, _, rfl, rfl, fun _ => ⟨hv, rfl, g, rfl, hpa.belowAll h13, hcap⟩, fun _ => hbx, validL_deep hv, enters_of Try.func39 (by kernel_rfl) rfl, hbx.lt,
        fun W' hb => pieces1_at Fence.wide 3 trivial rfl (by omega) Bs s hs W' (hb (List.length_pos_iff.2 (pcs_ne _)))⟩
    · rw [hv] at hv'; exact (Bool.false_ne_true hv'.symm).elim
  · rcases hm with ⟨hv', _⟩ | ⟨_, rfl⟩
    · rw [hv] at hv'; exact (Bool.false_ne_true hv').elim
    · exact ⟨0, 0, none, 0, 27, _, rfl, rfl, fun h => absurd h (Nat.lt_irrefl 0), fun h => absurd h (Nat.lt_irrefl 0), by omega, enters_of Try.func27 (by kernel_rfl) rfl, h0, fun W' _ => seq27 Fence.wide 3 trivial rfl _ _ W'⟩

/-- what a round's loop finds: the world W0 ahead of its counter, which lies in Bn -/
structure Rnd (s : ByteArray) (stop : Int) (H Bw Br Bs Nn : Nat) (aa : Option Addr) (cap gf : Nat) (lb : Array Value) (r : Int) (w W0 : World) : Prop where
  stop : Var W0 H 3 (.int .i64 stop)
  res : Var W0 (H + 1) 4 (.bool false)
  want : Var W0 Bw 22 (.slice aa Nn cap)
  round : Var W0 Br 3 (.int .i64 r)
  asked : Asked s Bs Nn aa cap gf lb W0
  below : Below H w W0

theorem Rnd.later {s : ByteArray} {stop : Int} {H Bw Br Bs Nn : Nat} {aa : Option Addr} {cap gf : Nat} {lb : Array Value} {r : Int} {w W0 W : World} (h : Rnd s stop H Bw Br Bs Nn aa cap gf lb r w W0) (hb : Below W0.heap.size W0 W) (hH : H ≤ W0.heap.size) : Rnd s stop H Bw Br Bs Nn aa cap gf lb r w W :=
  ⟨h.stop.belowAll hb, h.res.belowAll hb, h.want.belowAll hb, h.round.belowAll hb, h.asked.below hb, h.below.trans (hb.mono hH)⟩

/-- the counter's state -/
structure Cnt (W0 : World) (k : Nat) (W : World) : Prop where
  below : Below W0.heap.size W0 W
  count : Var W W0.heap.size 3 (.int .i64 (k : Int))

theorem Cnt.grown {W0 W W' : World} {k B : Nat} {row : Option Nat} (h : Cnt W0 k W) (hB : W0.heap.size ≤ B) (hg : W.grownBy W' row) (hr : ∀ r, row = some r → B ≤ r ∧ ∃ o : Obj, W.heap[r]? = some o ∧ o.isCells = false) : Cnt W0 k W' :=
  ⟨below_grown h.below hg h.below.size hB hr, h.count.grown hg hr⟩

set_option maxRecDepth 1000000 in
set_option maxHeartbeats 4000000 in
theorem tells_law (s : ByteArray) (stop : Int) (w : World) (hs : s.size ≤ 9223372036854775807) (hst : (Lit.int .i64 stop).wf = true) :
    Calls Try.prog 3 #[.string s, .int .i64 stop] w fun e w' => e = .returned (.bool true) ∧ Below w.heap.size w w' := by
  obtain ⟨H, hH⟩ : ∃ H, H = w.heap.size := ⟨_, rfl⟩
  have HH := hide hH
  refine (callsIn_wide (n := 4)).1 (callsIn_of_wp_marks Try.func3 rfl trivial (wpIn_wide.2 ?_) rfl)
  simp only [Try.ntmps3, List.size_toArray, List.length_cons, List.length_nil, Nat.reduceAdd, Nat.reduceSub, Array.replicate_succ, Array.replicate_zero, List.push_toArray, List.append_toArray, List.nil_append, List.cons_append]
  go_wp2_with fail
  obtain ⟨w0, hw0⟩ : ∃ w0, w0 = (w.alloc (.cells #[.int .i64 stop] 3)).alloc (.cells #[.bool false] 4) := ⟨_, rfl⟩
  have a0 : Var w0 H 3 (.int .i64 stop) := by rw [hw0, hH]; exact (Var.new w _ _).alloc _
  have a1 : Var w0 (H + 1) 4 (.bool false) := by
    rw [hw0, hH]
    have := Var.new (w.alloc (.cells #[.int .i64 stop] 3)) 4 (.bool false)
    rwa [World.size_alloc] at this
  have ab : Below H w w0 := by rw [hw0, hH]; exact ((Below.refl _ _).alloc (Nat.le_refl _) _).alloc (by simp) _
  have asz : w0.heap.size = H + 2 := by rw [hw0, hH]; simp
  rw [← hw0, ← hH]
  clear hw0
  refine (Doc.names_ok s w0 hs).mono ?_
  rintro e W1 ⟨v1', rfl, hn1', hb1⟩
  obtain ⟨aa, Nn, cap, rfl, hn1⟩ := names_slice hn1'
  clear hn1'
  have A0 := hide (a0.belowAll hb1)
  have A1 := hide (a1.belowAll hb1)
  have AB := hide (ab.trans (hb1.mono (by omega)))
  have AS : Hid (H + 2 ≤ W1.heap.size) := hide (by have := hb1.size; omega)
  have HN1 := hide hn1
  clear a0 a1 ab hb1 hn1
  go_wp2_with fail
  obtain ⟨Bw, hBw⟩ : ∃ Bw, Bw = W1.heap.size := ⟨_, rfl⟩
  obtain ⟨W2, hW2⟩ : ∃ W2, W2 = W1.alloc (.cells #[.slice aa Nn cap] 22) := ⟨_, rfl⟩
  have b0 : Var W2 Bw 22 (.slice aa Nn cap) := by rw [hW2, hBw]; exact Var.new W1 _ _
  have h12 : Below W1.heap.size W1 W2 := by rw [hW2]; exact (Below.refl _ _).alloc (Nat.le_refl _) _
  have hs2 : W2.heap.size = Bw + 1 := by rw [hW2, hBw]; simp
  rw [← hW2, ← hBw]
  refine (names_ok s W2 hs).mono ?_
  rintro e W3 ⟨v3, rfl, hn3, hb3⟩
  obtain ⟨Bs, Nn', aa', cap', gf, lb, e1, rfl, hask⟩ := asked hs (unhide HN1) h12 hb3 hn3 (by have := hb3.size; omega)
  injection e1 with e1 e2 e3
  subst e1 e2 e3
  have h13 := h12.trans (hb3.mono h12.size)
  have C0 := hide ((unhide A0).belowAll h13)
  have C1 := hide ((unhide A1).belowAll h13)
  have C2 := hide (b0.belowAll hb3)
  have CB := hide ((unhide AB).trans (h13.mono (by have := unhide AS; omega)))
  have CS : Hid (H + 2 ≤ Bw ∧ Bw + 1 ≤ W3.heap.size) := hide (by have := unhide AS; have := hb3.size; omega)
  have HA := hide hask
  have q25 := fun (f : Fn) (x y : Array Value) (W : World) => eql_nilFunc Try.underlying25 f x y W
  clear hn3 hb3 hW2 hBw b0 h12 hs2 h13 hask A0 A1 AB AS HN1
  have e0 : w.heap.size = H := (unhide HH).symm
  rw [e0]
  have HV1 := hide (fun w => valid_ok s w hs)
  have HV2 := hide (fun w => Doc.valid_ok s w hs)
  obtain ⟨q, hq⟩ : ∃ q, q = validL s.data.toList := ⟨_, rfl⟩
  rw [← hq] at HV1 HV2
  clear hq e0 asz hH
  go_wp2_with fail
  refine (unhide HV1 _).mono ?_
  rintro e W4 ⟨rfl, hb4⟩
  have B4 := hide hb4
  clear hb4
  go_wp2_with fail
  refine (unhide HV2 _).mono ?_
  rintro e W5 ⟨rfl, hb5⟩
  have B5 := hide ((unhide B4).trans (hb5.mono (unhide B4).size))
  clear hb5 B4
  have hqq : (q == q) = true := by simp
  go_wp2_with fail
  refine (consts_ok _).mono ?_
  rintro e W6 ⟨rfl, rfl⟩
  have D0 := hide ((unhide C0).belowAll (unhide B5))
  have D1 := hide ((unhide C1).belowAll (unhide B5))
  have D2 := hide ((unhide C2).belowAll (unhide B5))
  have DB := hide ((unhide CB).trans ((unhide B5).mono (by have := unhide CS; omega)))
  have DS : Hid (H + 2 ≤ Bw ∧ Bw + 1 ≤ W6.heap.size) := hide (by have := unhide CS; have := (unhide B5).size; omega)
  have DA := hide ((unhide HA).below (unhide B5))
  clear C0 C1 C2 CB CS HA B5 HV1 HV2
  go_wp2_with fail
  obtain ⟨Br, hBr⟩ : ∃ Br, Br = W6.heap.size := ⟨_, rfl⟩
  obtain ⟨W7, hW7⟩ : ∃ W7, W7 = W6.alloc (.cells #[.int .i64 0] 3) := ⟨_, rfl⟩
  rw [← hW7, ← hBr]
  have hb67 : Below W6.heap.size W6 W7 := by rw [hW7]; exact (Below.refl _ _).alloc (Nat.le_refl _) _
  have R0 := hide (show Rnd s stop H Bw Br Bs Nn aa cap gf lb 0 w W7 from ⟨(unhide D0).belowAll hb67, (unhide D1).belowAll hb67, (unhide D2).belowAll hb67, by rw [hW7, hBr]; exact Var.new W6 _ _, (unhide DA).below hb67, (unhide DB).trans (hb67.mono (by have := unhide DS; omega))⟩)
  have RS : Hid (H + 2 ≤ W7.heap.size) := hide (by have := hb67.size; have := unhide DS; omega)
  have c0 := (unhide R0).round.cell
  clear hb67 hW7 hBr D0 D1 D2 DB DS DA
  refine wp_loop_rounds 3 ?_
  rw [rounds_succ]
  go_wp2_with fail
  obtain ⟨Bn, hBn⟩ : ∃ Bn, Bn = W7.heap.size := ⟨_, rfl⟩
  obtain ⟨W8, hW8⟩ : ∃ W8, W8 = W7.alloc (.cells #[.int .i64 0] 3) := ⟨_, rfl⟩
  rw [← hW8, ← hBn]
  have RD := R0
  have RN := hide hBn
  have RH : Hid (H ≤ W7.heap.size) := hide (by have := unhide RS; omega)
  have hb78 : Below W7.heap.size W7 W8 := by rw [hW8]; exact (Below.refl _ _).alloc (Nat.le_refl _) _
  have RB := hide hb78
  have RZ : Hid (W7.heap.size ≤ W8.heap.size) := hide hb78.size
  have RC : Hid (Cnt W7 0 W8) := hide ⟨hb78, by rw [hW8]; exact Var.new W7 _ _⟩
  have WZ : Hid (W8.heap.size = W7.heap.size + 1) := hide (by rw [hW8]; simp)
  clear c0 hb78 hW8 hBn
  · refine (wpIn_wide (n := 4)).1 ?_
    refine range_at (F := Fence.wide) rfl (by omega) (gf := gf) (lb := lb) rfl trivial (unhide RD).asked.enter (fun k => #[.string (pcAt s.data.toList k)]) (KpB Bs (.string s)) Nn
      ((unhide RD).asked.seq W8 (fun h0 => ((unhide RD).asked.box h0).belowAll (unhide RB))) KpB.trans KpB.other (fun _ => rfl)
      (fun k W => Cnt W7 k W ∧ k ≤ Nn) (fun c W => c = .exit 2 ∧ (0 : Int) = 0 ∧ ∃ k : Nat, k ≤ Nn ∧ (k : Int) = stop ∧ Cnt W7 k W)
      (fun k W W' row h hg hr => ⟨h.1.grown (unhide RZ) hg hr, h.2⟩)
      (fun c W W' row h hg hr => by
        obtain ⟨h1, h2, k, h3, h4, h5⟩ := h
        exact ⟨h1, h2, k, h3, h4, h5.grown (unhide RZ) hg hr⟩)
      ⟨unhide RC, Nat.zero_le _⟩
      (fun k a' => a' = { tmps := #[.string s, .int .i64 stop, undef, .pointer (some ⟨H, 0, none⟩), .pointer (some ⟨H + 1, 0, none⟩), .pointer (some ⟨Bw, 0, none⟩), .func (.func gf) #[] lb, .pointer (some ⟨Br, 0, none⟩), .pointer (some ⟨Bn, 0, none⟩), .string (pcAt s.data.toList k), undef, undef, undef, undef, undef, undef, undef, undef, undef, undef, .string s, .slice aa Nn cap, .string s, .func (.func gf) #[] lb, .func (.func gf) #[] lb, .bool false, .bool false, .string s, .bool q, .string s, .bool q, .bool false, .bool false, .bool false, .bool true, .bool false, .bool false, .int .i64 0, .bool true, undef, undef, .func (.func gf) #[] lb, .string (pcAt s.data.toList k), undef, undef, undef, undef, undef, undef, undef, undef, undef, undef, undef, undef, undef, undef, undef, undef, undef, undef, undef, undef, undef, undef, undef, undef, undef, undef, undef, undef, undef, undef, undef, undef, undef, undef, undef, undef, undef, undef, undef, undef, undef, undef, undef, undef, undef, undef, undef, undef, undef, undef, undef, undef, undef, undef, undef, undef, undef, undef, undef, undef, undef, undef, undef, undef, undef, undef, undef, undef, undef, undef, undef, undef, undef, undef, undef, undef, undef, undef, undef, undef, undef, undef, undef, undef, undef, undef, undef, undef], defers := [] })
      ?assign ?body ?done ?stop
    case assign =>
      intro l k W K hk hi hK
      have HK := hide hK
      clear hK hi
      gi_wp2
      exact unhide HK _ rfl
    case body =>
      rintro l k a' W hk ⟨hi, hle⟩ rfl
      have hrd := (unhide RD).later hi.below (unhide RH)
      obtain ⟨hv, hNn, g, hag, hpa, hcap⟩ := hrd.asked.some_ (by omega)
      subst hag
      have n64 := hrd.asked.small
      have c0 := hi.count.cell
      have f0 := hi.count.free
      have c1 := hrd.want.cell
      have c2 := hpa.at_ k (by rw [← hNn]; exact hk)
      have c3 := hrd.stop.cell
      have c4 := hrd.round.cell
      have ne : (k : Int) < (Nn : Int) := by omega
      have heq : ((pcAt s.data.toList k).toList == (pcAt s.data.toList k).toList) = true := by simp
      rw [← unhide RN] at c0 f0
      obtain ⟨W', hW'⟩ : ∃ W', W' = W.setCell ⟨Bn, 0, none⟩ (.int .i64 ((k : Int) + 1)) := ⟨_, rfl⟩
      have hcnt : Cnt W7 (k + 1) W' := ⟨by rw [hW']; exact hi.below.setCell (p := ⟨Bn, 0, none⟩) (by rw [unhide RN]; exact Nat.le_refl _) _, by
        rw [hW', unhide RN]
        have := hi.count.set (.int .i64 ((k : Int) + 1))
        simpa using this⟩
      have hrd2 := (unhide RD).later hcnt.below (unhide RH)
      have d0 := hcnt.count.cell
      rw [← unhide RN] at d0
      have d3 := hrd2.stop.cell
      have d4 := hrd2.round.cell
      have HKO : Hid (KeepsOthers W W') := hide (by rw [hW']; exact KeepsOthers.setCell _ _ _)
      have HKB : Hid (Var W Bs 9 (.string s) → Var W' Bs 9 (.string s)) := hide (fun x => by
        rw [hW']
        refine x.other Bn ?_ _
        have h1 := (unhide RD).asked.lt
        have h2 := unhide RN
        omega)
      have HC := hide hcnt
      have HW := hide hW'
      rw [hW'] at d0 d3 d4
      clear hi hrd hpa hcnt hrd2 hW' hNn hv
      by_cases hks : ((k : Nat) : Int) + 1 = stop
      · have hkb : (((k : Nat) : Int) + 1 == stop) = true := by rw [hks]; simp
        have HKS := hide hks
        clear hks
        gi_wp2
        rw [← unhide HW]
        exact ⟨unhide HKO, _, .inr ⟨2, rfl, rfl⟩, rfl, k + 1, by omega, by have := unhide HKS; omega, unhide HC⟩
      · have hkb : (((k : Nat) : Int) + 1 == stop) = false := by simpa using hks
        have HKS := hide hks
        clear hks
        gi_wp2
        rw [← unhide HW]
        exact ⟨unhide HKO, .inl ⟨⟨(unhide HKO).walks, unhide HKB⟩, unhide HC, by omega⟩⟩
    case done =>
      rintro D W hD ⟨hi, hle⟩ hK
      have hrd := (unhide RD).later hi.below (unhide RH)
      have c0 := hi.count.cell
      rw [← unhide RN] at c0
      have c1 := hrd.want.cell
      have c3 := hrd.stop.cell
      have c4 := hrd.round.cell
      have RD1 := hide hrd
      have RI := hide hi
      clear hrd hi
      go_wp2_with fail
      obtain ⟨D0, hD0⟩ : ∃ D0, D0 = D := ⟨_, rfl⟩
      obtain ⟨WA, hWA⟩ : ∃ WA, WA = W := ⟨_, rfl⟩
      obtain ⟨Bq, hBq⟩ : ∃ Bq, Bq = W.heap.size := ⟨_, rfl⟩
      obtain ⟨W9, hW9⟩ : ∃ W9, W9 = W.alloc (.cells #[.int .i64 1] 3) := ⟨_, rfl⟩
      rw [← hW9, ← hBq]
      have hb9 : Below W.heap.size W W9 := by rw [hW9]; exact (Below.refl _ _).alloc (Nat.le_refl _) _
      have hHW : H + 2 ≤ W.heap.size := by have := (unhide RI).below.size; have := unhide RS; omega
      have R1 := hide (show Rnd s stop H Bw Bq Bs Nn aa cap gf lb 1 w W9 from ⟨(unhide RD1).stop.belowAll hb9, (unhide RD1).res.belowAll hb9, (unhide RD1).want.belowAll hb9, by rw [hW9, hBq]; exact Var.new W _ _, (unhide RD1).asked.below hb9, (unhide RD1).below.trans (hb9.mono (by omega))⟩)
      have RS1 : Hid (H + 2 ≤ W9.heap.size) := hide (by have := hb9.size; omega)
      have DD1 : Hid (W9.heap[D0]? = some (.deferred (some []))) := hide (by rw [hD0, hb9.block D (Array.getElem?_eq_some_iff.1 hK).1]; exact hK)
      have HD0 := hide hD0
      have HDH : Hid (H ≤ D0) := hide (by rw [hD0]; have := unhide WZ; have := unhide RS; omega)
      clear hD0
      clear R0 RS RD RN RH RB RZ RC WZ RD1 RI c0 c1 c3 c4 hb9 hHW hK hD hW9 hBq hWA
      have c0 := (unhide R1).round.cell
      rw [rounds_succ]
      go_wp2_with fail
      obtain ⟨Bm, hBm⟩ : ∃ Bm, Bm = W9.heap.size := ⟨_, rfl⟩
      obtain ⟨W10, hW10⟩ : ∃ W10, W10 = W9.alloc (.cells #[.int .i64 0] 3) := ⟨_, rfl⟩
      rw [← hW10, ← hBm]
      have RD := R1
      have RN := hide hBm
      have RH : Hid (H ≤ W9.heap.size) := hide (by have := unhide RS1; omega)
      have hb78 : Below W9.heap.size W9 W10 := by rw [hW10]; exact (Below.refl _ _).alloc (Nat.le_refl _) _
      have RB := hide hb78
      have RZ : Hid (W9.heap.size ≤ W10.heap.size) := hide hb78.size
      have RC : Hid (Cnt W9 0 W10) := hide ⟨hb78, by rw [hW10]; exact Var.new W9 _ _⟩
      have WW : Hid (W10.heap.size = W9.heap.size + 1) := hide (by rw [hW10]; simp)
      have DD1' : Hid (W9.heap[D0]? = some (.deferred (some []))) := DD1
      clear c0 hb78 hW10 hBm
      refine (wpIn_wide (n := 4)).1 ?_
      refine range_at (F := Fence.wide) rfl (by omega) (gf := gf) (lb := lb) rfl trivial (unhide RD).asked.enter (fun k => #[.string (pcAt s.data.toList k)]) (KpB Bs (.string s)) Nn
        ((unhide RD).asked.seq W10 (fun h0 => ((unhide RD).asked.box h0).belowAll (unhide RB))) KpB.trans KpB.other (fun _ => rfl)
        (fun k W => Cnt W9 k W ∧ k ≤ Nn) (fun c W => c = .exit 2 ∧ (1 : Int) = 0 ∧ ∃ k : Nat, k ≤ Nn ∧ (k : Int) = stop ∧ Cnt W9 k W)
        (fun k W W' row h hg hr => ⟨h.1.grown (unhide RZ) hg hr, h.2⟩)
        (fun c W W' row h hg hr => by
          obtain ⟨h1, h2, k, h3, h4, h5⟩ := h
          exact ⟨h1, h2, k, h3, h4, h5.grown (unhide RZ) hg hr⟩)
        ⟨unhide RC, Nat.zero_le _⟩
        (fun k a' => a' = { tmps := #[.string s, .int .i64 stop, undef, .pointer (some ⟨H, 0, none⟩), .pointer (some ⟨H + 1, 0, none⟩), .pointer (some ⟨Bw, 0, none⟩), .func (.func gf) #[] lb, .pointer (some ⟨Bq, 0, none⟩), .pointer (some ⟨Bm, 0, none⟩), .string (pcAt s.data.toList k), undef, undef, undef, undef, undef, undef, undef, undef, undef, undef, .string s, .slice aa Nn cap, .string s, .func (.func gf) #[] lb, .func (.func gf) #[] lb, .bool false, .bool false, .string s, .bool q, .string s, .bool q, .bool false, .bool false, .bool false, .bool true, .bool false, .bool false, .int .i64 1, .bool true, .int .i64 0, .int .i64 1, .func (.func gf) #[] lb, .string (pcAt s.data.toList k), undef, undef, undef, undef, undef, undef, undef, undef, undef, undef, undef, undef, undef, undef, undef, undef, undef, undef, undef, undef, undef, .int .i64 (Nn : Int), .slice aa Nn cap, .int .i64 (Nn : Int), .bool false, .bool false, undef, undef, undef, undef, undef, undef, undef, undef, .bool false, .int .i64 0, undef, undef, undef, undef, undef, undef, undef, undef, undef, undef, undef, undef, undef, undef, undef, undef, undef, undef, undef, undef, undef, undef, undef, undef, undef, undef, undef, undef, undef, undef, undef, undef, undef, undef, undef, undef, undef, undef, undef, undef, undef, undef, undef, undef, undef, undef, undef, undef, undef, undef, undef, undef], defers := [] })
        ?assign1 ?body1 ?done1 ?stop1
      case assign1 =>
        intro l k W K hk hi hK
        have HK := hide hK
        clear hK hi
        gi_wp2
        exact unhide HK _ rfl
      case body1 =>
        rintro l k a' W hk ⟨hi, hle⟩ rfl
        have hrd := (unhide RD).later hi.below (unhide RH)
        obtain ⟨hv, hNn, g, hag, hpa, hcap⟩ := hrd.asked.some_ (by omega)
        subst hag
        have n64 := hrd.asked.small
        have c0 := hi.count.cell
        have f0 := hi.count.free
        have c1 := hrd.want.cell
        have c2 := hpa.at_ k (by rw [← hNn]; exact hk)
        have c3 := hrd.stop.cell
        have c4 := hrd.round.cell
        have ne : (k : Int) < (Nn : Int) := by omega
        have heq : ((pcAt s.data.toList k).toList == (pcAt s.data.toList k).toList) = true := by simp
        rw [← unhide RN] at c0 f0
        obtain ⟨W', hW'⟩ : ∃ W', W' = W.setCell ⟨Bm, 0, none⟩ (.int .i64 ((k : Int) + 1)) := ⟨_, rfl⟩
        have hcnt : Cnt W9 (k + 1) W' := ⟨by rw [hW']; exact hi.below.setCell (p := ⟨Bm, 0, none⟩) (by rw [unhide RN]; exact Nat.le_refl _) _, by
          rw [hW', unhide RN]
          have := hi.count.set (.int .i64 ((k : Int) + 1))
          simpa using this⟩
        have hrd2 := (unhide RD).later hcnt.below (unhide RH)
        have d0 := hcnt.count.cell
        rw [← unhide RN] at d0
        have d3 := hrd2.stop.cell
        have d4 := hrd2.round.cell
        have HKO : Hid (KeepsOthers W W') := hide (by rw [hW']; exact KeepsOthers.setCell _ _ _)
        have HKB : Hid (Var W Bs 9 (.string s) → Var W' Bs 9 (.string s)) := hide (fun x => by
          rw [hW']
          refine x.other Bm ?_ _
          have h1 := (unhide RD).asked.lt
          have h2 := unhide RN
          omega)
        have HC := hide hcnt
        have HW := hide hW'
        rw [hW'] at d0 d3 d4
        clear hi hrd hpa hcnt hrd2 hW' hNn hv
        gi_wp2
        rw [← unhide HW]
        exact ⟨unhide HKO, ⟨(unhide HKO).walks, unhide HKB⟩, unhide HC, by omega⟩
      case done1 =>
        rintro D W hD ⟨hi, hle⟩ hK
        have hrd := (unhide RD).later hi.below (unhide RH)
        have c0 := hi.count.cell
        rw [← unhide RN] at c0
        have c1 := hrd.want.cell
        have c3 := hrd.stop.cell
        have c4 := hrd.round.cell
        have RE := hide hrd
        have RI2 := hide hi
        have DD2 : Hid (W.heap[D]? = some (.deferred (some []))) := hide hK
        have DD1b : Hid (W.heap[D0]? = some (.deferred (some []))) := hide ((hi.below.block D0 (Nat.lt_of_lt_of_le (Array.getElem?_eq_some_iff.1 (unhide DD1)).1 (by have := unhide WW; omega))).trans (unhide DD1'))
        clear hrd hi hK
        go_wp2_with fail
        obtain ⟨W11, hW11⟩ : ∃ W11, W11 = W.alloc (.cells #[.int .i64 2] 3) := ⟨_, rfl⟩
        have d5 : W11.cell? ⟨W.heap.size, 0, none⟩ = some (.int .i64 2) := by rw [hW11]; exact (Var.new W _ _).cell
        have hb11 : Below W.heap.size W W11 := by rw [hW11]; exact (Below.refl _ _).alloc (Nat.le_refl _) _
        have hHW : H + 2 ≤ W.heap.size := by have := (unhide RI2).below.size; have := unhide RS1; omega
        rw [← hW11]
        have f4 := ((unhide RE).res.belowAll hb11)
        have F4 := hide f4
        have E2 : Hid (W11.heap[D]? = some (.deferred (some []))) := hide (by rw [hb11.block D (Array.getElem?_eq_some_iff.1 (unhide DD2)).1]; exact unhide DD2)
        have E1 : Hid (W11.heap[D0]? = some (.deferred (some []))) := hide (by rw [hb11.block D0 (Array.getElem?_eq_some_iff.1 (unhide DD1b)).1]; exact unhide DD1b)
        have EB : Hid (Below H w W11) := hide ((unhide RE).below.trans (hb11.mono (by omega)))
        have EH : Hid (H + 2 ≤ W11.heap.size) := hide (by have := hb11.size; omega)
        have EP1 := hide (fun w => parent_ok s w hs)
        have EP2 := hide (fun w => Doc.parent_ok s w hs)
        have ER1 := hide (fun w => read_ok s w hs)
        have ER2 := hide (fun w => Doc.read_ok s w hs)
        have ES1 := hide (fun w => base_ok s w hs)
        have ES2 := hide (fun w => Doc.base_ok s w hs)
        obtain ⟨xp, hxp⟩ : ∃ xp : ByteArray, xp = ⟨(parentL s.data.toList).toArray⟩ := ⟨_, rfl⟩
        obtain ⟨xo, hxo⟩ : ∃ xo, xo = parentOk s.data.toList := ⟨_, rfl⟩
        obtain ⟨xr, hxr⟩ : ∃ xr : ByteArray, xr = ⟨(Doc.readL s.data.toList).toArray⟩ := ⟨_, rfl⟩
        obtain ⟨xf, hxf⟩ : ∃ xf, xf = Doc.readF s.data.toList := ⟨_, rfl⟩
        obtain ⟨xe, hxe⟩ : ∃ xe, xe = Doc.readE s.data.toList := ⟨_, rfl⟩
        obtain ⟨xb, hxb⟩ : ∃ xb, xb = baseB s.data.toList := ⟨_, rfl⟩
        rw [← hxp, ← hxo] at EP1 EP2
        rw [← hxr, ← hxf, ← hxe] at ER1 ER2
        rw [← hxb] at ES1 ES2
        clear hxp hxo hxr hxf hxe hxb hb11 hHW f4 hW11 c0 c1 c3 c4 RE RI2 DD2 DD1b
        rw [rounds_succ]
        go_wp2_with fail
        refine (unhide EP1 _).mono ?_
        rintro e V1 ⟨rfl, hv1⟩
        have U1 := hide hv1
        clear hv1 EP1 d5
        go_wp2_with fail
        refine (unhide EP2 _).mono ?_
        rintro e V2 ⟨rfl, hv2⟩
        have U2 := hide ((unhide U1).trans (hv2.mono (unhide U1).size))
        clear hv2 U1 EP2
        go_wp2_with fail
        refine (unhide ER1 _).mono ?_
        rintro e V3 ⟨rfl, hv3⟩
        have U3 := hide ((unhide U2).trans (hv3.mono (unhide U2).size))
        clear hv3 U2 ER1
        go_wp2_with fail
        refine (unhide ER2 _).mono ?_
        rintro e V4 ⟨rfl, hv4⟩
        have U4 := hide ((unhide U3).trans (hv4.mono (unhide U3).size))
        clear hv4 U3 ER2
        have x1 : (xp.toList == xp.toList) = true := by simp
        have x2 : (xo == xo) = true := by simp
        have x3 : (xr.toList == xr.toList) = true := by simp
        have x4 : (xf == xf) = true := by simp
        have x5 : (xe == xe) = true := by simp
        have x6 : (xb.toList == xb.toList) = true := by simp
        go_wp2_with fail
        refine (unhide ES1 _).mono ?_
        rintro e V5 ⟨rfl, hv5⟩
        have U5 := hide ((unhide U4).trans (hv5.mono (unhide U4).size))
        clear hv5 U4 ES1
        go_wp2_with fail
        refine (unhide ES2 _).mono ?_
        rintro e V6 ⟨rfl, hv6⟩
        have U6 := hide ((unhide U5).trans (hv6.mono (unhide U5).size))
        clear hv6 U5 ES2
        have g4 := ((unhide F4).belowAll (unhide U6)).cell
        have g5 := ((unhide F4).belowAll (unhide U6)).free
        go_wp2_with fail
        rw [← unhide HD0]
        have u6 := unhide U6
        have l2 := (Array.getElem?_eq_some_iff.1 (unhide E2)).1
        have l1 := (Array.getElem?_eq_some_iff.1 (unhide E1)).1
        have l3 := (Array.getElem?_eq_some_iff.1 (unhide DD1)).1
        have n1 : D ≠ H + 1 := fun e => by
          have h1 := unhide E2
          rw [e, show W11.heap[H + 1]? = _ from unhide F4] at h1
          cases h1
        have n2 : D0 ≠ H + 1 := fun e => by
          have h1 := unhide E1
          rw [e, show W11.heap[H + 1]? = _ from unhide F4] at h1
          cases h1
        have n3 : D0 ≠ D := by have := unhide WW; omega
        obtain ⟨Vz, hVz⟩ : ∃ Vz, Vz = V6.setCell ⟨H + 1, 0, none⟩ (.bool true) := ⟨_, rfl⟩
        have k1 : Vz.heap[D]? = some (.deferred (some [])) := by rw [hVz, Below.heap_setCell V6 ⟨H + 1, 0, none⟩ _ D n1, u6.block D l2]; exact unhide E2
        have k0' : Vz.heap[D0]? = some (.deferred (some [])) := by rw [hVz, Below.heap_setCell V6 ⟨H + 1, 0, none⟩ _ D0 n2, u6.block D0 l1]; exact unhide E1
        have k4 : Var Vz (H + 1) 4 (.bool true) := by rw [hVz]; exact ((unhide F4).belowAll u6).set _
        have kB : Below H w Vz := by rw [hVz]; exact ((unhide EB).trans (u6.mono (by have := unhide EH; omega))).setCell (p := ⟨H + 1, 0, none⟩) (by show H ≤ H + 1; omega) _
        have kH : H + 2 ≤ Vz.heap.size := by rw [hVz, World.size_setCell]; have := u6.size; have := unhide EH; omega
        rw [← hVz]
        have gg := grownBy_putObj' Vz D (.deferred none)
        have gr : ∀ r, some D = some r → H ≤ r ∧ ∃ o : Obj, Vz.heap[r]? = some o ∧ o.isCells = false := fun r e => by
          injection e with e
          subst e
          exact ⟨by have := unhide RS1; have := unhide WW; omega, _, k1, rfl⟩
        have k2 : (Vz.putObj D (.deferred none)).heap[D0]? = some (.deferred (some [])) := (World.putObj_heap_other n3).trans k0'
        have k5 := k4.grown gg gr
        have k6 := below_grown kB gg (by omega) (Nat.le_refl _) gr
        have gg2 := grownBy_putObj' (Vz.putObj D (.deferred none)) D0 (.deferred none)
        have hD0H : H ≤ D0 := unhide HDH
        have gr2 : ∀ r, some D0 = some r → H ≤ r ∧ ∃ o : Obj, (Vz.putObj D (.deferred none)).heap[r]? = some o ∧ o.isCells = false := fun r e => by
          injection e with e
          subst e
          exact ⟨hD0H, _, k2, rfl⟩
        refine ⟨by simp, .inl ⟨_, _, rfl, run_takeDeferred k1, by simp, .inl ⟨_, _, rfl, run_takeDeferred k2, ?_⟩⟩⟩
        refine ⟨_, results_var rfl _ _ ⟨H + 1, 0, none⟩ rfl _ (k5.grown gg2 gr2).cell (Try.isAgg4 _), rfl, ?_⟩
        rw [← unhide HH]
        exact below_grown k6 gg2 (by have := gg.size; omega) (Nat.le_refl _) gr2
      case stop1 =>
        rintro D c W hD ⟨rfl, hr0, k, hk, hks, hi⟩ hK
        exact absurd hr0 (by decide)
  
    case stop =>
      rintro D c W hD ⟨rfl, hr0, k, hk, hks, hi⟩ hK
      have hrd := (unhide RD).later hi.below (unhide RH)
      have c0 := hi.count.cell
      rw [← unhide RN] at c0
      have c1 := hrd.want.cell
      have c3 := hrd.stop.cell
      have c4 := hrd.round.cell
      have RD1 := hide hrd
      have RI := hide hi
      have HKS := hide hks
      have kb : ((k : Int) == stop) = true := by rw [hks]; simp
      clear hrd hi hks hr0
      refine wpIn_exit ?_
      by_cases hkn : k = Nn
      · have hkn' : Nn = k := hkn.symm
        subst hkn'
        go_wp2_with fail
        obtain ⟨D0, hD0⟩ : ∃ D0, D0 = D := ⟨_, rfl⟩
        obtain ⟨WA, hWA⟩ : ∃ WA, WA = W := ⟨_, rfl⟩
        obtain ⟨Bq, hBq⟩ : ∃ Bq, Bq = W.heap.size := ⟨_, rfl⟩
        obtain ⟨W9, hW9⟩ : ∃ W9, W9 = W.alloc (.cells #[.int .i64 1] 3) := ⟨_, rfl⟩
        rw [← hW9, ← hBq]
        have hb9 : Below W.heap.size W W9 := by rw [hW9]; exact (Below.refl _ _).alloc (Nat.le_refl _) _
        have hHW : H + 2 ≤ W.heap.size := by have := (unhide RI).below.size; have := unhide RS; omega
        have R1 := hide (show Rnd s stop H Bw Bq Bs Nn aa cap gf lb 1 w W9 from ⟨(unhide RD1).stop.belowAll hb9, (unhide RD1).res.belowAll hb9, (unhide RD1).want.belowAll hb9, by rw [hW9, hBq]; exact Var.new W _ _, (unhide RD1).asked.below hb9, (unhide RD1).below.trans (hb9.mono (by omega))⟩)
        have RS1 : Hid (H + 2 ≤ W9.heap.size) := hide (by have := hb9.size; omega)
        have DD1 : Hid (W9.heap[D0]? = some (.deferred (some []))) := hide (by rw [hD0, hb9.block D (Array.getElem?_eq_some_iff.1 hK).1]; exact hK)
        have HD0 := hide hD0
        have HDH : Hid (H ≤ D0) := hide (by rw [hD0]; have := unhide WZ; have := unhide RS; omega)
        clear hD0
        clear R0 RS RD RN RH RB RZ RC WZ RD1 RI c0 c1 c3 c4 hb9 hHW hK hD hW9 hBq hWA
        have c0 := (unhide R1).round.cell
        rw [rounds_succ]
        go_wp2_with fail
        obtain ⟨Bm, hBm⟩ : ∃ Bm, Bm = W9.heap.size := ⟨_, rfl⟩
        obtain ⟨W10, hW10⟩ : ∃ W10, W10 = W9.alloc (.cells #[.int .i64 0] 3) := ⟨_, rfl⟩
        rw [← hW10, ← hBm]
        have RD := R1
        have RN := hide hBm
        have RH : Hid (H ≤ W9.heap.size) := hide (by have := unhide RS1; omega)
        have hb78 : Below W9.heap.size W9 W10 := by rw [hW10]; exact (Below.refl _ _).alloc (Nat.le_refl _) _
        have RB := hide hb78
        have RZ : Hid (W9.heap.size ≤ W10.heap.size) := hide hb78.size
        have RC : Hid (Cnt W9 0 W10) := hide ⟨hb78, by rw [hW10]; exact Var.new W9 _ _⟩
        have WW : Hid (W10.heap.size = W9.heap.size + 1) := hide (by rw [hW10]; simp)
        have DD1' : Hid (W9.heap[D0]? = some (.deferred (some []))) := DD1
        clear c0 hb78 hW10 hBm
        refine (wpIn_wide (n := 4)).1 ?_
        refine range_at (F := Fence.wide) rfl (by omega) (gf := gf) (lb := lb) rfl trivial (unhide RD).asked.enter (fun k => #[.string (pcAt s.data.toList k)]) (KpB Bs (.string s)) Nn
          ((unhide RD).asked.seq W10 (fun h0 => ((unhide RD).asked.box h0).belowAll (unhide RB))) KpB.trans KpB.other (fun _ => rfl)
          (fun k W => Cnt W9 k W ∧ k ≤ Nn) (fun c W => c = .exit 2 ∧ (1 : Int) = 0 ∧ ∃ k : Nat, k ≤ Nn ∧ (k : Int) = stop ∧ Cnt W9 k W)
          (fun k W W' row h hg hr => ⟨h.1.grown (unhide RZ) hg hr, h.2⟩)
          (fun c W W' row h hg hr => by
            obtain ⟨h1, h2, k, h3, h4, h5⟩ := h
            exact ⟨h1, h2, k, h3, h4, h5.grown (unhide RZ) hg hr⟩)
          ⟨unhide RC, Nat.zero_le _⟩
          (fun k a' => a' = { tmps := #[.string s, .int .i64 stop, undef, .pointer (some ⟨H, 0, none⟩), .pointer (some ⟨H + 1, 0, none⟩), .pointer (some ⟨Bw, 0, none⟩), .func (.func gf) #[] lb, .pointer (some ⟨Bq, 0, none⟩), .pointer (some ⟨Bm, 0, none⟩), .string (pcAt s.data.toList k), undef, undef, undef, undef, undef, undef, undef, undef, undef, undef, .string s, .slice aa Nn cap, .string s, .func (.func gf) #[] lb, .func (.func gf) #[] lb, .bool false, .bool false, .string s, .bool q, .string s, .bool q, .bool false, .bool false, .bool false, .bool true, .bool false, .bool false, .int .i64 1, .bool true, .int .i64 0, .int .i64 1, .func (.func gf) #[] lb, .string (pcAt s.data.toList k), undef, undef, undef, undef, undef, undef, undef, undef, undef, undef, undef, undef, undef, undef, undef, undef, undef, undef, undef, undef, undef, .int .i64 (Nn : Int), .slice aa Nn cap, .int .i64 (Nn : Int), .bool false, .bool false, undef, undef, undef, undef, undef, undef, undef, undef, .bool false, .int .i64 0, undef, undef, undef, undef, undef, undef, undef, undef, undef, undef, undef, undef, undef, undef, undef, undef, undef, undef, undef, undef, undef, undef, undef, undef, undef, undef, undef, undef, undef, undef, undef, undef, undef, undef, undef, undef, undef, undef, undef, undef, undef, undef, undef, undef, undef, undef, undef, undef, undef, undef, undef, undef], defers := [] })
          ?assign1 ?body1 ?done1 ?stop1
        case assign1 =>
          intro l k W K hk hi hK
          have HK := hide hK
          clear hK hi
          gi_wp2
          exact unhide HK _ rfl
        case body1 =>
          rintro l k a' W hk ⟨hi, hle⟩ rfl
          have hrd := (unhide RD).later hi.below (unhide RH)
          obtain ⟨hv, hNn, g, hag, hpa, hcap⟩ := hrd.asked.some_ (by omega)
          subst hag
          have n64 := hrd.asked.small
          have c0 := hi.count.cell
          have f0 := hi.count.free
          have c1 := hrd.want.cell
          have c2 := hpa.at_ k (by rw [← hNn]; exact hk)
          have c3 := hrd.stop.cell
          have c4 := hrd.round.cell
          have ne : (k : Int) < (Nn : Int) := by omega
          have heq : ((pcAt s.data.toList k).toList == (pcAt s.data.toList k).toList) = true := by simp
          rw [← unhide RN] at c0 f0
          obtain ⟨W', hW'⟩ : ∃ W', W' = W.setCell ⟨Bm, 0, none⟩ (.int .i64 ((k : Int) + 1)) := ⟨_, rfl⟩
          have hcnt : Cnt W9 (k + 1) W' := ⟨by rw [hW']; exact hi.below.setCell (p := ⟨Bm, 0, none⟩) (by rw [unhide RN]; exact Nat.le_refl _) _, by
            rw [hW', unhide RN]
            have := hi.count.set (.int .i64 ((k : Int) + 1))
            simpa using this⟩
          have hrd2 := (unhide RD).later hcnt.below (unhide RH)
          have d0 := hcnt.count.cell
          rw [← unhide RN] at d0
          have d3 := hrd2.stop.cell
          have d4 := hrd2.round.cell
          have HKO : Hid (KeepsOthers W W') := hide (by rw [hW']; exact KeepsOthers.setCell _ _ _)
          have HKB : Hid (Var W Bs 9 (.string s) → Var W' Bs 9 (.string s)) := hide (fun x => by
            rw [hW']
            refine x.other Bm ?_ _
            have h1 := (unhide RD).asked.lt
            have h2 := unhide RN
            omega)
          have HC := hide hcnt
          have HW := hide hW'
          rw [hW'] at d0 d3 d4
          clear hi hrd hpa hcnt hrd2 hW' hNn hv
          gi_wp2
          rw [← unhide HW]
          exact ⟨unhide HKO, ⟨(unhide HKO).walks, unhide HKB⟩, unhide HC, by omega⟩
        case done1 =>
          rintro D W hD ⟨hi, hle⟩ hK
          have hrd := (unhide RD).later hi.below (unhide RH)
          have c0 := hi.count.cell
          rw [← unhide RN] at c0
          have c1 := hrd.want.cell
          have c3 := hrd.stop.cell
          have c4 := hrd.round.cell
          have RE := hide hrd
          have RI2 := hide hi
          have DD2 : Hid (W.heap[D]? = some (.deferred (some []))) := hide hK
          have DD1b : Hid (W.heap[D0]? = some (.deferred (some []))) := hide ((hi.below.block D0 (Nat.lt_of_lt_of_le (Array.getElem?_eq_some_iff.1 (unhide DD1)).1 (by have := unhide WW; omega))).trans (unhide DD1'))
          clear hrd hi hK
          go_wp2_with fail
          obtain ⟨W11, hW11⟩ : ∃ W11, W11 = W.alloc (.cells #[.int .i64 2] 3) := ⟨_, rfl⟩
          have d5 : W11.cell? ⟨W.heap.size, 0, none⟩ = some (.int .i64 2) := by rw [hW11]; exact (Var.new W _ _).cell
          have hb11 : Below W.heap.size W W11 := by rw [hW11]; exact (Below.refl _ _).alloc (Nat.le_refl _) _
          have hHW : H + 2 ≤ W.heap.size := by have := (unhide RI2).below.size; have := unhide RS1; omega
          rw [← hW11]
          have f4 := ((unhide RE).res.belowAll hb11)
          have F4 := hide f4
          have E2 : Hid (W11.heap[D]? = some (.deferred (some []))) := hide (by rw [hb11.block D (Array.getElem?_eq_some_iff.1 (unhide DD2)).1]; exact unhide DD2)
          have E1 : Hid (W11.heap[D0]? = some (.deferred (some []))) := hide (by rw [hb11.block D0 (Array.getElem?_eq_some_iff.1 (unhide DD1b)).1]; exact unhide DD1b)
          have EB : Hid (Below H w W11) := hide ((unhide RE).below.trans (hb11.mono (by omega)))
          have EH : Hid (H + 2 ≤ W11.heap.size) := hide (by have := hb11.size; omega)
          have EP1 := hide (fun w => parent_ok s w hs)
          have EP2 := hide (fun w => Doc.parent_ok s w hs)
          have ER1 := hide (fun w => read_ok s w hs)
          have ER2 := hide (fun w => Doc.read_ok s w hs)
          have ES1 := hide (fun w => base_ok s w hs)
          have ES2 := hide (fun w => Doc.base_ok s w hs)
          obtain ⟨xp, hxp⟩ : ∃ xp : ByteArray, xp = ⟨(parentL s.data.toList).toArray⟩ := ⟨_, rfl⟩
          obtain ⟨xo, hxo⟩ : ∃ xo, xo = parentOk s.data.toList := ⟨_, rfl⟩
          obtain ⟨xr, hxr⟩ : ∃ xr : ByteArray, xr = ⟨(Doc.readL s.data.toList).toArray⟩ := ⟨_, rfl⟩
          obtain ⟨xf, hxf⟩ : ∃ xf, xf = Doc.readF s.data.toList := ⟨_, rfl⟩
          obtain ⟨xe, hxe⟩ : ∃ xe, xe = Doc.readE s.data.toList := ⟨_, rfl⟩
          obtain ⟨xb, hxb⟩ : ∃ xb, xb = baseB s.data.toList := ⟨_, rfl⟩
          rw [← hxp, ← hxo] at EP1 EP2
          rw [← hxr, ← hxf, ← hxe] at ER1 ER2
          rw [← hxb] at ES1 ES2
          clear hxp hxo hxr hxf hxe hxb hb11 hHW f4 hW11 c0 c1 c3 c4 RE RI2 DD2 DD1b
          rw [rounds_succ]
          go_wp2_with fail
          refine (unhide EP1 _).mono ?_
          rintro e V1 ⟨rfl, hv1⟩
          have U1 := hide hv1
          clear hv1 EP1 d5
          go_wp2_with fail
          refine (unhide EP2 _).mono ?_
          rintro e V2 ⟨rfl, hv2⟩
          have U2 := hide ((unhide U1).trans (hv2.mono (unhide U1).size))
          clear hv2 U1 EP2
          go_wp2_with fail
          refine (unhide ER1 _).mono ?_
          rintro e V3 ⟨rfl, hv3⟩
          have U3 := hide ((unhide U2).trans (hv3.mono (unhide U2).size))
          clear hv3 U2 ER1
          go_wp2_with fail
          refine (unhide ER2 _).mono ?_
          rintro e V4 ⟨rfl, hv4⟩
          have U4 := hide ((unhide U3).trans (hv4.mono (unhide U3).size))
          clear hv4 U3 ER2
          have x1 : (xp.toList == xp.toList) = true := by simp
          have x2 : (xo == xo) = true := by simp
          have x3 : (xr.toList == xr.toList) = true := by simp
          have x4 : (xf == xf) = true := by simp
          have x5 : (xe == xe) = true := by simp
          have x6 : (xb.toList == xb.toList) = true := by simp
          go_wp2_with fail
          refine (unhide ES1 _).mono ?_
          rintro e V5 ⟨rfl, hv5⟩
          have U5 := hide ((unhide U4).trans (hv5.mono (unhide U4).size))
          clear hv5 U4 ES1
          go_wp2_with fail
          refine (unhide ES2 _).mono ?_
          rintro e V6 ⟨rfl, hv6⟩
          have U6 := hide ((unhide U5).trans (hv6.mono (unhide U5).size))
          clear hv6 U5 ES2
          have g4 := ((unhide F4).belowAll (unhide U6)).cell
          have g5 := ((unhide F4).belowAll (unhide U6)).free
          go_wp2_with fail
          rw [← unhide HD0]
          have u6 := unhide U6
          have l2 := (Array.getElem?_eq_some_iff.1 (unhide E2)).1
          have l1 := (Array.getElem?_eq_some_iff.1 (unhide E1)).1
          have l3 := (Array.getElem?_eq_some_iff.1 (unhide DD1)).1
          have n1 : D ≠ H + 1 := fun e => by
            have h1 := unhide E2
            rw [e, show W11.heap[H + 1]? = _ from unhide F4] at h1
            cases h1
          have n2 : D0 ≠ H + 1 := fun e => by
            have h1 := unhide E1
            rw [e, show W11.heap[H + 1]? = _ from unhide F4] at h1
            cases h1
          have n3 : D0 ≠ D := by have := unhide WW; omega
          obtain ⟨Vz, hVz⟩ : ∃ Vz, Vz = V6.setCell ⟨H + 1, 0, none⟩ (.bool true) := ⟨_, rfl⟩
          have k1 : Vz.heap[D]? = some (.deferred (some [])) := by rw [hVz, Below.heap_setCell V6 ⟨H + 1, 0, none⟩ _ D n1, u6.block D l2]; exact unhide E2
          have k0' : Vz.heap[D0]? = some (.deferred (some [])) := by rw [hVz, Below.heap_setCell V6 ⟨H + 1, 0, none⟩ _ D0 n2, u6.block D0 l1]; exact unhide E1
          have k4 : Var Vz (H + 1) 4 (.bool true) := by rw [hVz]; exact ((unhide F4).belowAll u6).set _
          have kB : Below H w Vz := by rw [hVz]; exact ((unhide EB).trans (u6.mono (by have := unhide EH; omega))).setCell (p := ⟨H + 1, 0, none⟩) (by show H ≤ H + 1; omega) _
          have kH : H + 2 ≤ Vz.heap.size := by rw [hVz, World.size_setCell]; have := u6.size; have := unhide EH; omega
          rw [← hVz]
          have gg := grownBy_putObj' Vz D (.deferred none)
          have gr : ∀ r, some D = some r → H ≤ r ∧ ∃ o : Obj, Vz.heap[r]? = some o ∧ o.isCells = false := fun r e => by
            injection e with e
            subst e
            exact ⟨by have := unhide RS1; have := unhide WW; omega, _, k1, rfl⟩
          have k2 : (Vz.putObj D (.deferred none)).heap[D0]? = some (.deferred (some [])) := (World.putObj_heap_other n3).trans k0'
          have k5 := k4.grown gg gr
          have k6 := below_grown kB gg (by omega) (Nat.le_refl _) gr
          have gg2 := grownBy_putObj' (Vz.putObj D (.deferred none)) D0 (.deferred none)
          have hD0H : H ≤ D0 := unhide HDH
          have gr2 : ∀ r, some D0 = some r → H ≤ r ∧ ∃ o : Obj, (Vz.putObj D (.deferred none)).heap[r]? = some o ∧ o.isCells = false := fun r e => by
            injection e with e
            subst e
            exact ⟨hD0H, _, k2, rfl⟩
          refine ⟨by simp, .inl ⟨_, _, rfl, run_takeDeferred k1, by simp, .inl ⟨_, _, rfl, run_takeDeferred k2, ?_⟩⟩⟩
          refine ⟨_, results_var rfl _ _ ⟨H + 1, 0, none⟩ rfl _ (k5.grown gg2 gr2).cell (Try.isAgg4 _), rfl, ?_⟩
          rw [← unhide HH]
          exact below_grown k6 gg2 (by have := gg.size; omega) (Nat.le_refl _) gr2
        case stop1 =>
          rintro D c W hD ⟨rfl, hr0, k, hk, hks, hi⟩ hK
          exact absurd hr0 (by decide)
    
      · have kn1 : ¬ (k : Int) = (Nn : Int) := by omega
        have kn2 : ((k : Int) != (Nn : Int)) = true := by simpa using kn1
        clear hkn
        go_wp2_with fail
        obtain ⟨k0, hk0⟩ : ∃ k0 : Nat, k0 = k := ⟨_, rfl⟩
        subst hk0
        obtain ⟨D0, hD0⟩ : ∃ D0, D0 = D := ⟨_, rfl⟩
        obtain ⟨WA, hWA⟩ : ∃ WA, WA = W := ⟨_, rfl⟩
        obtain ⟨Bq, hBq⟩ : ∃ Bq, Bq = W.heap.size := ⟨_, rfl⟩
        obtain ⟨W9, hW9⟩ : ∃ W9, W9 = W.alloc (.cells #[.int .i64 1] 3) := ⟨_, rfl⟩
        rw [← hW9, ← hBq]
        have hb9 : Below W.heap.size W W9 := by rw [hW9]; exact (Below.refl _ _).alloc (Nat.le_refl _) _
        have hHW : H + 2 ≤ W.heap.size := by have := (unhide RI).below.size; have := unhide RS; omega
        have R1 := hide (show Rnd s stop H Bw Bq Bs Nn aa cap gf lb 1 w W9 from ⟨(unhide RD1).stop.belowAll hb9, (unhide RD1).res.belowAll hb9, (unhide RD1).want.belowAll hb9, by rw [hW9, hBq]; exact Var.new W _ _, (unhide RD1).asked.below hb9, (unhide RD1).below.trans (hb9.mono (by omega))⟩)
        have RS1 : Hid (H + 2 ≤ W9.heap.size) := hide (by have := hb9.size; omega)
        have DD1 : Hid (W9.heap[D0]? = some (.deferred (some []))) := hide (by rw [hD0, hb9.block D (Array.getElem?_eq_some_iff.1 hK).1]; exact hK)
        have HD0 := hide hD0
        have HDH : Hid (H ≤ D0) := hide (by rw [hD0]; have := unhide WZ; have := unhide RS; omega)
        clear hD0
        clear R0 RS RD RN RH RB RZ RC WZ RD1 RI c0 c1 c3 c4 hb9 hHW hK hD hW9 hBq hWA
        have c0 := (unhide R1).round.cell
        rw [rounds_succ]
        go_wp2_with fail
        obtain ⟨Bm, hBm⟩ : ∃ Bm, Bm = W9.heap.size := ⟨_, rfl⟩
        obtain ⟨W10, hW10⟩ : ∃ W10, W10 = W9.alloc (.cells #[.int .i64 0] 3) := ⟨_, rfl⟩
        rw [← hW10, ← hBm]
        have RD := R1
        have RN := hide hBm
        have RH : Hid (H ≤ W9.heap.size) := hide (by have := unhide RS1; omega)
        have hb78 : Below W9.heap.size W9 W10 := by rw [hW10]; exact (Below.refl _ _).alloc (Nat.le_refl _) _
        have RB := hide hb78
        have RZ : Hid (W9.heap.size ≤ W10.heap.size) := hide hb78.size
        have RC : Hid (Cnt W9 0 W10) := hide ⟨hb78, by rw [hW10]; exact Var.new W9 _ _⟩
        have WW : Hid (W10.heap.size = W9.heap.size + 1) := hide (by rw [hW10]; simp)
        have DD1' : Hid (W9.heap[D0]? = some (.deferred (some []))) := DD1
        clear c0 hb78 hW10 hBm
        refine (wpIn_wide (n := 4)).1 ?_
        refine range_at (F := Fence.wide) rfl (by omega) (gf := gf) (lb := lb) rfl trivial (unhide RD).asked.enter (fun k => #[.string (pcAt s.data.toList k)]) (KpB Bs (.string s)) Nn
          ((unhide RD).asked.seq W10 (fun h0 => ((unhide RD).asked.box h0).belowAll (unhide RB))) KpB.trans KpB.other (fun _ => rfl)
          (fun k W => Cnt W9 k W ∧ k ≤ Nn) (fun c W => c = .exit 2 ∧ (1 : Int) = 0 ∧ ∃ k : Nat, k ≤ Nn ∧ (k : Int) = stop ∧ Cnt W9 k W)
          (fun k W W' row h hg hr => ⟨h.1.grown (unhide RZ) hg hr, h.2⟩)
          (fun c W W' row h hg hr => by
            obtain ⟨h1, h2, k, h3, h4, h5⟩ := h
            exact ⟨h1, h2, k, h3, h4, h5.grown (unhide RZ) hg hr⟩)
          ⟨unhide RC, Nat.zero_le _⟩
          (fun k a' => a' = { tmps := #[.string s, .int .i64 stop, undef, .pointer (some ⟨H, 0, none⟩), .pointer (some ⟨H + 1, 0, none⟩), .pointer (some ⟨Bw, 0, none⟩), .func (.func gf) #[] lb, .pointer (some ⟨Bq, 0, none⟩), .pointer (some ⟨Bm, 0, none⟩), .string (pcAt s.data.toList k), undef, undef, undef, undef, undef, undef, undef, undef, undef, undef, .string s, .slice aa Nn cap, .string s, .func (.func gf) #[] lb, .func (.func gf) #[] lb, .bool false, .bool false, .string s, .bool q, .string s, .bool q, .bool false, .bool false, .bool false, .bool true, .bool false, .bool false, .int .i64 1, .bool true, .int .i64 0, .int .i64 1, .func (.func gf) #[] lb, .string (pcAt s.data.toList k), undef, undef, undef, undef, undef, undef, undef, undef, undef, undef, undef, undef, undef, undef, undef, undef, undef, undef, undef, undef, undef, .int .i64 (k0 : Int), .slice aa Nn cap, .int .i64 (Nn : Int), .bool true, .bool true, .int .i64 0, .bool true, .bool true, .int .i64 (k0 : Int), .int .i64 stop, .bool true, .bool true, .bool false, .bool false, .int .i64 0, undef, undef, undef, undef, undef, undef, undef, undef, undef, undef, undef, undef, undef, undef, undef, undef, undef, undef, undef, undef, undef, undef, undef, undef, undef, undef, undef, undef, undef, undef, undef, undef, undef, undef, undef, undef, undef, undef, undef, undef, undef, undef, undef, undef, undef, undef, undef, undef, undef, undef, undef, undef], defers := [] })
          ?assign1 ?body1 ?done1 ?stop1
        case assign1 =>
          intro l k W K hk hi hK
          have HK := hide hK
          clear hK hi
          gi_wp2
          exact unhide HK _ rfl
        case body1 =>
          rintro l k a' W hk ⟨hi, hle⟩ rfl
          have hrd := (unhide RD).later hi.below (unhide RH)
          obtain ⟨hv, hNn, g, hag, hpa, hcap⟩ := hrd.asked.some_ (by omega)
          subst hag
          have n64 := hrd.asked.small
          have c0 := hi.count.cell
          have f0 := hi.count.free
          have c1 := hrd.want.cell
          have c2 := hpa.at_ k (by rw [← hNn]; exact hk)
          have c3 := hrd.stop.cell
          have c4 := hrd.round.cell
          have ne : (k : Int) < (Nn : Int) := by omega
          have heq : ((pcAt s.data.toList k).toList == (pcAt s.data.toList k).toList) = true := by simp
          rw [← unhide RN] at c0 f0
          obtain ⟨W', hW'⟩ : ∃ W', W' = W.setCell ⟨Bm, 0, none⟩ (.int .i64 ((k : Int) + 1)) := ⟨_, rfl⟩
          have hcnt : Cnt W9 (k + 1) W' := ⟨by rw [hW']; exact hi.below.setCell (p := ⟨Bm, 0, none⟩) (by rw [unhide RN]; exact Nat.le_refl _) _, by
            rw [hW', unhide RN]
            have := hi.count.set (.int .i64 ((k : Int) + 1))
            simpa using this⟩
          have hrd2 := (unhide RD).later hcnt.below (unhide RH)
          have d0 := hcnt.count.cell
          rw [← unhide RN] at d0
          have d3 := hrd2.stop.cell
          have d4 := hrd2.round.cell
          have HKO : Hid (KeepsOthers W W') := hide (by rw [hW']; exact KeepsOthers.setCell _ _ _)
          have HKB : Hid (Var W Bs 9 (.string s) → Var W' Bs 9 (.string s)) := hide (fun x => by
            rw [hW']
            refine x.other Bm ?_ _
            have h1 := (unhide RD).asked.lt
            have h2 := unhide RN
            omega)
          have HC := hide hcnt
          have HW := hide hW'
          rw [hW'] at d0 d3 d4
          clear hi hrd hpa hcnt hrd2 hW' hNn hv
          gi_wp2
          rw [← unhide HW]
          exact ⟨unhide HKO, ⟨(unhide HKO).walks, unhide HKB⟩, unhide HC, by omega⟩
        case done1 =>
          rintro D W hD ⟨hi, hle⟩ hK
          have hrd := (unhide RD).later hi.below (unhide RH)
          have c0 := hi.count.cell
          rw [← unhide RN] at c0
          have c1 := hrd.want.cell
          have c3 := hrd.stop.cell
          have c4 := hrd.round.cell
          have RE := hide hrd
          have RI2 := hide hi
          have DD2 : Hid (W.heap[D]? = some (.deferred (some []))) := hide hK
          have DD1b : Hid (W.heap[D0]? = some (.deferred (some []))) := hide ((hi.below.block D0 (Nat.lt_of_lt_of_le (Array.getElem?_eq_some_iff.1 (unhide DD1)).1 (by have := unhide WW; omega))).trans (unhide DD1'))
          clear hrd hi hK
          go_wp2_with fail
          obtain ⟨W11, hW11⟩ : ∃ W11, W11 = W.alloc (.cells #[.int .i64 2] 3) := ⟨_, rfl⟩
          have d5 : W11.cell? ⟨W.heap.size, 0, none⟩ = some (.int .i64 2) := by rw [hW11]; exact (Var.new W _ _).cell
          have hb11 : Below W.heap.size W W11 := by rw [hW11]; exact (Below.refl _ _).alloc (Nat.le_refl _) _
          have hHW : H + 2 ≤ W.heap.size := by have := (unhide RI2).below.size; have := unhide RS1; omega
          rw [← hW11]
          have f4 := ((unhide RE).res.belowAll hb11)
          have F4 := hide f4
          have E2 : Hid (W11.heap[D]? = some (.deferred (some []))) := hide (by rw [hb11.block D (Array.getElem?_eq_some_iff.1 (unhide DD2)).1]; exact unhide DD2)
          have E1 : Hid (W11.heap[D0]? = some (.deferred (some []))) := hide (by rw [hb11.block D0 (Array.getElem?_eq_some_iff.1 (unhide DD1b)).1]; exact unhide DD1b)
          have EB : Hid (Below H w W11) := hide ((unhide RE).below.trans (hb11.mono (by omega)))
          have EH : Hid (H + 2 ≤ W11.heap.size) := hide (by have := hb11.size; omega)
          have EP1 := hide (fun w => parent_ok s w hs)
          have EP2 := hide (fun w => Doc.parent_ok s w hs)
          have ER1 := hide (fun w => read_ok s w hs)
          have ER2 := hide (fun w => Doc.read_ok s w hs)
          have ES1 := hide (fun w => base_ok s w hs)
          have ES2 := hide (fun w => Doc.base_ok s w hs)
          obtain ⟨xp, hxp⟩ : ∃ xp : ByteArray, xp = ⟨(parentL s.data.toList).toArray⟩ := ⟨_, rfl⟩
          obtain ⟨xo, hxo⟩ : ∃ xo, xo = parentOk s.data.toList := ⟨_, rfl⟩
          obtain ⟨xr, hxr⟩ : ∃ xr : ByteArray, xr = ⟨(Doc.readL s.data.toList).toArray⟩ := ⟨_, rfl⟩
          obtain ⟨xf, hxf⟩ : ∃ xf, xf = Doc.readF s.data.toList := ⟨_, rfl⟩
          obtain ⟨xe, hxe⟩ : ∃ xe, xe = Doc.readE s.data.toList := ⟨_, rfl⟩
          obtain ⟨xb, hxb⟩ : ∃ xb, xb = baseB s.data.toList := ⟨_, rfl⟩
          rw [← hxp, ← hxo] at EP1 EP2
          rw [← hxr, ← hxf, ← hxe] at ER1 ER2
          rw [← hxb] at ES1 ES2
          clear hxp hxo hxr hxf hxe hxb hb11 hHW f4 hW11 c0 c1 c3 c4 RE RI2 DD2 DD1b
          rw [rounds_succ]
          go_wp2_with fail
          refine (unhide EP1 _).mono ?_
          rintro e V1 ⟨rfl, hv1⟩
          have U1 := hide hv1
          clear hv1 EP1 d5
          go_wp2_with fail
          refine (unhide EP2 _).mono ?_
          rintro e V2 ⟨rfl, hv2⟩
          have U2 := hide ((unhide U1).trans (hv2.mono (unhide U1).size))
          clear hv2 U1 EP2
          go_wp2_with fail
          refine (unhide ER1 _).mono ?_
          rintro e V3 ⟨rfl, hv3⟩
          have U3 := hide ((unhide U2).trans (hv3.mono (unhide U2).size))
          clear hv3 U2 ER1
          go_wp2_with fail
          refine (unhide ER2 _).mono ?_
          rintro e V4 ⟨rfl, hv4⟩
          have U4 := hide ((unhide U3).trans (hv4.mono (unhide U3).size))
          clear hv4 U3 ER2
          have x1 : (xp.toList == xp.toList) = true := by simp
          have x2 : (xo == xo) = true := by simp
          have x3 : (xr.toList == xr.toList) = true := by simp
          have x4 : (xf == xf) = true := by simp
          have x5 : (xe == xe) = true := by simp
          have x6 : (xb.toList == xb.toList) = true := by simp
          go_wp2_with fail
          refine (unhide ES1 _).mono ?_
          rintro e V5 ⟨rfl, hv5⟩
          have U5 := hide ((unhide U4).trans (hv5.mono (unhide U4).size))
          clear hv5 U4 ES1
          go_wp2_with fail
          refine (unhide ES2 _).mono ?_
          rintro e V6 ⟨rfl, hv6⟩
          have U6 := hide ((unhide U5).trans (hv6.mono (unhide U5).size))
          clear hv6 U5 ES2
          have g4 := ((unhide F4).belowAll (unhide U6)).cell
          have g5 := ((unhide F4).belowAll (unhide U6)).free
          go_wp2_with fail
          rw [← unhide HD0]
          have u6 := unhide U6
          have l2 := (Array.getElem?_eq_some_iff.1 (unhide E2)).1
          have l1 := (Array.getElem?_eq_some_iff.1 (unhide E1)).1
          have l3 := (Array.getElem?_eq_some_iff.1 (unhide DD1)).1
          have n1 : D ≠ H + 1 := fun e => by
            have h1 := unhide E2
            rw [e, show W11.heap[H + 1]? = _ from unhide F4] at h1
            cases h1
          have n2 : D0 ≠ H + 1 := fun e => by
            have h1 := unhide E1
            rw [e, show W11.heap[H + 1]? = _ from unhide F4] at h1
            cases h1
          have n3 : D0 ≠ D := by have := unhide WW; omega
          obtain ⟨Vz, hVz⟩ : ∃ Vz, Vz = V6.setCell ⟨H + 1, 0, none⟩ (.bool true) := ⟨_, rfl⟩
          have k1 : Vz.heap[D]? = some (.deferred (some [])) := by rw [hVz, Below.heap_setCell V6 ⟨H + 1, 0, none⟩ _ D n1, u6.block D l2]; exact unhide E2
          have k0' : Vz.heap[D0]? = some (.deferred (some [])) := by rw [hVz, Below.heap_setCell V6 ⟨H + 1, 0, none⟩ _ D0 n2, u6.block D0 l1]; exact unhide E1
          have k4 : Var Vz (H + 1) 4 (.bool true) := by rw [hVz]; exact ((unhide F4).belowAll u6).set _
          have kB : Below H w Vz := by rw [hVz]; exact ((unhide EB).trans (u6.mono (by have := unhide EH; omega))).setCell (p := ⟨H + 1, 0, none⟩) (by show H ≤ H + 1; omega) _
          have kH : H + 2 ≤ Vz.heap.size := by rw [hVz, World.size_setCell]; have := u6.size; have := unhide EH; omega
          rw [← hVz]
          have gg := grownBy_putObj' Vz D (.deferred none)
          have gr : ∀ r, some D = some r → H ≤ r ∧ ∃ o : Obj, Vz.heap[r]? = some o ∧ o.isCells = false := fun r e => by
            injection e with e
            subst e
            exact ⟨by have := unhide RS1; have := unhide WW; omega, _, k1, rfl⟩
          have k2 : (Vz.putObj D (.deferred none)).heap[D0]? = some (.deferred (some [])) := (World.putObj_heap_other n3).trans k0'
          have k5 := k4.grown gg gr
          have k6 := below_grown kB gg (by omega) (Nat.le_refl _) gr
          have gg2 := grownBy_putObj' (Vz.putObj D (.deferred none)) D0 (.deferred none)
          have hD0H : H ≤ D0 := unhide HDH
          have gr2 : ∀ r, some D0 = some r → H ≤ r ∧ ∃ o : Obj, (Vz.putObj D (.deferred none)).heap[r]? = some o ∧ o.isCells = false := fun r e => by
            injection e with e
            subst e
            exact ⟨hD0H, _, k2, rfl⟩
          refine ⟨by simp, .inl ⟨_, _, rfl, run_takeDeferred k1, by simp, .inl ⟨_, _, rfl, run_takeDeferred k2, ?_⟩⟩⟩
          refine ⟨_, results_var rfl _ _ ⟨H + 1, 0, none⟩ rfl _ (k5.grown gg2 gr2).cell (Try.isAgg4 _), rfl, ?_⟩
          rw [← unhide HH]
          exact below_grown k6 gg2 (by have := gg.size; omega) (Nat.le_refl _) gr2
        case stop1 =>
          rintro D c W hD ⟨rfl, hr0, k, hk, hks, hi⟩ hK
          exact absurd hr0 (by decide)
    

end Go.Proofs.Ythhdlmegbbmbhaa
