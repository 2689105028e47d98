/- part: a group is cut into pieces. -/
import Derived.Test.YtpemgjcgcmleiaaTa
import Derived.RegionTactic
import Derived.ChangeAlike
namespace Go.Proofs.Ytpemgjcgcmleiaa
open Go.RowKit Suf
set_option maxRecDepth 100000
set_option linter.unusedVariables false
attribute [local go_sem ↓] Go.wp_at_zero Go.wp_at_succ

/-- what a function that tells a number of a place may stand on -/
structure NumFn (w : World) (tb pg rg n : Nat) (vo vp : Value) (fn : Nat) (cb : Array Value) (f : Nat → Nat) : Prop where
  enter : ∀ (args : Array Value) (x : World), Sem.run Try.prog (callFunc fn args) x = .ok (.enter fn args) x
  call : ∀ (x : Nat) (W : World) (vp' : Value), x < n → Kp (fun k => k = tb ∨ vp.ownBlock = some k) w W → W.heap[tb]? = some (.cells #[.slice (some ⟨pg, 0, none⟩) n n, .slice (some ⟨rg, 0, none⟩) n n, vo, vp'] 54 (0, 0)) →
    Calls Try.prog fn (#[.int .i64 (x : Int)] ++ cb) W fun e W' => e = .returned (.int .i64 (f x : Int)) ∧ ∃ q, W' = W.drewN q

/-- what part leaves -/
def PartIs (H : Nat) (w : World) (tb pg rg n : Nat) (p R : Nat → Nat) (vo vp : Value) (os : List (Nat × Nat)) (f : Nat → Nat) (a c : Nat) (e : Ending) (w' : World) : Prop :=
  ∃ ps R' vo' vp', e = .returned (.bool (decide (1 < ps.length))) ∧ Cut f p a c ps ∧ Ranked n p R R' a c ps ∧ TAt H w' tb pg rg n p R' vo' vp' (os ++ wide ps) ps ∧
    Kp (fun k => k = tb ∨ k = rg ∨ vo.ownBlock = some k ∨ vp.ownBlock = some k) w w' ∧ (∀ k, vo'.ownBlock = some k → vo.ownBlock = some k ∨ w.heap.size ≤ k) ∧ (∀ k, vp'.ownBlock = some k → vp.ownBlock = some k ∨ w.heap.size ≤ k)

theorem news_two (w : World) (x y : Value) (t : TypeId) : ∀ (j : Nat) u, [x, y][j]? = some u → (w.alloc (.cells #[x, y] t)).cell? ((⟨w.heap.size, 0, none⟩ : Addr).add j) = some u := by
  intro j u hj
  rw [Addr.add_mid, Nat.zero_add]
  simp only [World.cell?, heap_alloc_new]
  match j, hj with
  | 0, hj => simpa using hj
  | 1, hj => simpa using hj

theorem grown_cell {w x2 : World} {O : Obj} {r : Option Nat} (h : (w.alloc O).grownBy x2 r) {k : Nat} (hk : k < w.heap.size) (hr : r ≠ some k) : x2.heap[k]? = w.heap[k]? := by
  rw [h.block k (by simp; omega) (fun e => hr e.symm)]; exact Below.heap_alloc _ _ _ hk

/-- one place more has its rank -/
theorem rank_step {n : Nat} {p R Ri : Nat → Nat} {a c q1 q2 i : Nat} {f : Nat → Nat} {D ps : List (Nat × Nat)} (h : Ranked n p R Ri a c (D ++ [(q1, q1 + i)])) (hinj : ∀ r s, r < n → s < n → p r = p s → r = s) (hc : c ≤ n) (hq : a ≤ q1 ∧ q1 + i < c) (hD : ∀ q, q ∈ D → q.2 ≤ q1) : Ranked n p R (upd Ri (p (q1 + i)) q1) a c (D ++ [(q1, q1 + (i + 1))]) := by
  constructor
  · intro q hq1 r h1 h2
    unfold upd
    rcases List.mem_append.1 hq1 with hq1 | hq1
    · have := hD q hq1
      rw [if_neg (fun e => by have := hinj _ _ (by omega) (by omega) e; omega)]
      exact h.new q (List.mem_append_left _ hq1) r h1 h2
    · simp at hq1
      subst hq1
      dsimp only at h1 h2 ⊢
      by_cases e : r = q1 + i
      · rw [e, if_pos rfl]
      · rw [if_neg (fun e' => e (hinj _ _ (by omega) (by omega) e'))]
        exact h.new (q1, q1 + i) (by simp) r h1 (by dsimp only; omega)
  · intro x hx hn
    unfold upd
    rw [if_neg (fun e => hn (q1 + i) (by omega) (by omega) e.symm)]
    exact h.old x hx hn

theorem take_snoc {l : List (Nat × Nat)} {k : Nat} (hk : k < l.length) {q : Nat × Nat} (hq : q = l.getD k (0, 0)) : l.take (k + 1) = l.take k ++ [q] := by
  rw [List.take_add_one, List.getElem?_eq_getElem hk, hq, List.getD_eq_getElem?_getD, List.getElem?_eq_getElem hk]
  rfl

theorem wide_snoc (l : List (Nat × Nat)) (q : Nat × Nat) : wide (l ++ [q]) = if 1 < q.2 - q.1 then wide l ++ [q] else wide l := by
  unfold wide
  rw [List.filter_append]
  by_cases h : 1 < q.2 - q.1
  · rw [if_pos h, List.filter_cons, if_pos (by simpa using h), List.filter_nil]
  · rw [if_neg h, List.filter_cons, if_neg (by simpa using h), List.filter_nil, List.append_nil]

theorem wide_le (l : List (Nat × Nat)) : (wide l).length ≤ l.length := List.length_filter_le _ _

theorem take_ahead {f p : Nat → Nat} {a c : Nat} {ps : List (Nat × Nat)} (h : Cut f p a c ps) {k : Nat} (hk : k < ps.length) {q : Nat × Nat} (hq : q = ps.getD k (0, 0)) : ∀ q', q' ∈ ps.take k → q'.2 ≤ q.1 := by
  intro q' hq'
  have h1 := h.dis
  rw [← List.take_append_drop k ps, List.pairwise_append] at h1
  refine h1.2.2 q' hq' q ?_
  rw [hq, List.drop_eq_getElem_cons hk, List.getD_eq_getElem?_getD, List.getElem?_eq_getElem hk]
  exact List.mem_cons_self ..

set_option maxHeartbeats 8000000 in
theorem part_ok (H : Nat) (w : World) (tb pg rg n : Nat) (p R : Nat → Nat) (vo vp : Value) (os ps0 : List (Nat × Nat)) (f : Nat → Nat) (fn : Nat) (cb : Array Value) (a c : Nat) (hT : TAt H w tb pg rg n p R vo vp os ps0) (hF : NumFn w tb pg rg n vo vp fn cb f) (hac : a ≤ c) (hc : c ≤ n) (hn : n ≤ 1048576) (hos : os.length ≤ 1048576)
    (hmem : ∀ r, r < n → p r < n) (hinj : ∀ r s, r < n → s < n → p r = p s → r = s) :
    Calls Try.prog 27 #[.pointer (some ⟨tb, 0, none⟩), .agg #[.int .i64 (a : Int), .int .i64 (c : Int)], .func (.func fn) #[] cb] w fun e w' => PartIs H w tb pg rg n p R vo vp os f a c e w' := by
  have hE := hF.enter
  have HF := hide hF
  have HT := hide hT
  obtain ⟨va, vc, rfl, _⟩ := own_group hT.pc
  obtain ⟨gb, hgb⟩ : ∃ gb, gb = w.heap.size := ⟨_, rfl⟩
  obtain ⟨W0, hW0⟩ : ∃ W0, W0 = w.alloc (.cells #[.int .i64 (a : Int), .int .i64 (c : Int)] 56) := ⟨_, rfl⟩
  have hT0 : TAt H W0 tb pg rg n p R vo (.slice va ps0.length vc) os ps0 := by rw [hW0]; exact hT.alloc _
  have hg0 : W0.heap[gb]? = some (.cells #[.int .i64 (a : Int), .int .i64 (c : Int)] 56 (0, 0)) := by rw [hW0, hgb]; exact heap_alloc_new _ _
  have hgt : tb < gb := by rw [hgb]; exact heap_lt hT.blk
  have hgv : ∀ k, (Value.slice va ps0.length vc).ownBlock = some k → k < gb := fun k hk => by rw [hgb]; exact (hT.pc.lt k hk).2
  have hgo : ∀ k, vo.ownBlock = some k → k < gb := fun k hk => by rw [hgb]; exact (hT.op.lt k hk).2
  obtain ⟨W1, hW1⟩ : ∃ W1, W1 = W0.setCell ⟨tb, 3, none⟩ (.slice va 0 vc) := ⟨_, rfl⟩
  have hT1 : TAt H W1 tb pg rg n p R vo (.slice va 0 vc) os [] := by rw [hW1]; exact hT0.setP (ps' := []) (own_clear hT0.pc) fun k h1 h2 => hT0.d2 k h1 (by cases va <;> exact h2)
  have hg1 : W1.heap[gb]? = some (.cells #[.int .i64 (a : Int), .int .i64 (c : Int)] 56 (0, 0)) := by rw [hW1, heap_setCell_other _ _ _ _ (by show gb ≠ tb; omega)]; exact hg0
  have hk1 : Kp (fun k => k = tb ∨ (Value.slice va ps0.length vc).ownBlock = some k) w W1 := by
    rw [hW1, hW0]
    exact ((Kp.refl _ w).alloc _).set 3 _ (.inl (.inl rfl))
  have q1 := hT0.c3
  have q2 := hT0.fz 3
  have q3 : W1.cell? ⟨gb, 0, none⟩ = some (.int .i64 (a : Int)) := by simp [World.cell?, hg1]
  have hsz0 : W0.heap.size = gb + 1 := by rw [hW0, hgb]; simp
  rw [hW0] at q1 q2
  rw [hW1, hW0, hgb] at q3
  have HT1 := hide hT1
  have HG1 := hide hg1
  have HK1 := hide hk1
  have HM := hide hmem
  have HJ := hide hinj
  have HGB := hide hgb
  have HGV := hide hgv
  have HGO := hide hgo
  clear hF hT0 hT hT1 hg0 hg1 hk1 hgb hgv hgo hmem hinj
  go_enter Try.func27, Try.ntmps27
  go_wp2_with fail
  rw [← hW0, ← hW1, ← unhide HGB]
  rw [← hW0, ← hW1, ← unhide HGB] at q3
  clear q1 q2 q3 hW0 hW1
  obtain ⟨ob, hob⟩ : ∃ ob, ob = (Value.slice va ps0.length vc).ownBlock := ⟨_, rfl⟩
  have HOB0 : Hid (∀ k, (Value.slice va 0 vc).ownBlock = some k → ob = some k ∨ w.heap.size ≤ k) := hide fun k hk => .inl (by rw [hob]; cases va <;> exact hk)
  have HOBG0 : Hid (∀ k, (Value.slice va 0 vc).ownBlock = some k → k ≠ gb) := hide fun k hk => by have := unhide HGV k (by cases va <;> exact hk); omega
  rw [← hob] at HK1 HGV
  have HFC := (unhide HF).call
  rw [← hob] at HFC
  have HFC := hide HFC
  have HOB := hide hob
  clear hob
  go_loopg [7, 8] (c + 1 - (a + 1)) (fun gk cv rv ws => ∃ (cur row : Nat) (ps : List (Nat × Nat)) (vp' : Value), gk = c + 1 - row ∧ row ≤ c + 1 ∧ cur < row ∧ cv = .int .i64 (cur : Int) ∧ rv = .int .i64 (row : Int) ∧ Hid (ps.length + a + 1 ≤ row) ∧ Hid ((row ≤ c ∧ CutTo f p a cur row ps) ∨ (row = c + 1 ∧ Cut f p a c ps)) ∧ Hid (TAt H ws tb pg rg n p R vo vp' os ps) ∧ Hid (ws.heap[gb]? = some (.cells #[.int .i64 (a : Int), .int .i64 (c : Int)] 56 (0, 0))) ∧ Hid (Kp (fun k => k = tb ∨ ob = some k) w ws) ∧ Hid (∀ k, vp'.ownBlock = some k → ob = some k ∨ w.heap.size ≤ k) ∧ Hid (∀ k, vp'.ownBlock = some k → k ≠ gb))
  case atStart =>
    refine ⟨a, a + 1, [], .slice va 0 vc, rfl, by omega, by omega, rfl, rfl, hide (by simp), hide ?_, HT1, HG1, HK1, HOB0, HOBG0⟩
    by_cases h : a < c
    · exact .inl ⟨by omega, CutTo.start f p a⟩
    · exact .inr ⟨by omega, ⟨fun r h1 h2 => by omega, fun q hq => by simp at hq, fun q hq => by simp at hq, fun q hq => by simp at hq, List.Pairwise.nil⟩⟩
  case round =>
    clear HT1 HG1 HK1 HOB0 HOBG0
    obtain ⟨cur, row, ps, vp', rfl, hrow, hcr, rfl, rfl, HPL, HC, HT1, HG1, HK1, HOB1, HOBG⟩ := hrel
    rename World => wr
    have g0 : ∀ q, (wr.drewN q).cell? ⟨gb, 0, none⟩ = some (.int .i64 (a : Int)) := fun q => by show wr.cell? _ = _; simp [World.cell?, unhide HG1]
    have g1 : ∀ q, (wr.drewN q).cell? ⟨gb, 1, none⟩ = some (.int .i64 (c : Int)) := fun q => by show wr.cell? _ = _; simp [World.cell?, unhide HG1]
    have k1 : wr.cell? ⟨gb, 1, none⟩ = some (.int .i64 (c : Int)) := g1 0
    obtain ⟨r1, rfl⟩ : ∃ r1, row = r1 + 1 := ⟨row - 1, by omega⟩
    by_cases hlt : r1 + 1 ≤ c
    · have tl : (r1 : Int) + 1 ≤ (c : Int) := by omega
      by_cases heq : r1 + 1 = c
      · subst heq
        go_upto_region 6 with fail
        go_quiet (fail)
        obtain ⟨wx, hwx⟩ : ∃ wx, wx = wr.drewN nq := ⟨_, rfl⟩
        have HTX : Hid (TAt H wx tb pg rg n p R vo vp' os ps) := hide (by rw [hwx]; exact (unhide HT1).drewN nq)
        have HKX : Hid (Kp (fun k => k = tb ∨ ob = some k) w wx) := hide (by rw [hwx]; exact (unhide HK1).drewN nq)
        have HGX : Hid (wx.heap[gb]? = some (.cells #[.int .i64 (a : Int), .int .i64 ((r1 + 1 : Nat) : Int)] 56 (0, 0))) := hide (by rw [hwx]; exact unhide HG1)
        rw [← hwx]
        clear hwx HT1 HK1 HG1
        have z3 := (unhide HTX).c3
        obtain ⟨i0, hii, hz0, hz1, hz2⟩ := info_parts info56
        have HPO := hide ((unhide HTX).alloc (.cells #[.int .i64 (cur : Int), .int .i64 ((r1 : Int) + 1)] 56)).pc
        have HNW := hide (news_two wx (iv (cur : Int)) (iv ((r1 : Int) + 1)) 56)
        have hbs : H ≤ (wx.alloc (.cells #[.int .i64 (cur : Int), .int .i64 ((r1 : Int) + 1)] 56)).heap.size := by
          have := (unhide HTX).ht.1
          have := heap_lt (unhide HTX).blk
          simp
          omega
        have hpl2 : ps.length + 1 ≤ 1048576 := by have := unhide HPL; omega
        have HWS : Hid (wx.heap.size + 1 = (wx.alloc (.cells #[.int .i64 (cur : Int), .int .i64 ((r1 : Int) + 1)] 56)).heap.size) := hide (by simp)
        go_wp2_with (at_builtin; go_must (refine wpList_append_lies _ rfl _ _ 52 rfl H 56 i0 _ 2 16 Try.underlying52 hii hz0 hz1 hz2 rfl (by decide) vp' ps.length (gv ps) (by rfl) (unhide HPO) ⟨wx.heap.size, 0, none⟩ 1 1 [iv (cur : Int), iv ((r1 : Int) + 1)] (by rfl) rfl (unhide HNW) (by intro u hu; simp at hu; rcases hu with rfl | rfl <;> rfl) (by omega) (by unfold maxLen; omega) (by omega) hbs (wx.heap.size + 1) (unhide HWS).symm ?_; intro g' cap' x2 h1 h2 h3 h4; have s1 : x2.cell? ⟨tb, 3, none⟩ = some vp' := (World.cell?_of_block (grown_cell h2 (heap_lt (unhide HTX).blk) (unhide HTX).vp_t.1)).trans (unhide HTX).c3; have s2 : x2.frozen? ⟨tb, 3, none⟩ = false := (World.frozen?_of_block (grown_cell h2 (heap_lt (unhide HTX).blk) (unhide HTX).vp_t.1)).trans ((unhide HTX).fz 3); have H1 := hide h1; have H2 := hide h2; have H3 := hide h3; clear h1 h2 h3 h4))
        go_roundg (r1 + 1 + 1 - (r1 + 1 + 1))
        case measure => omega
        case rel =>
          have hT3 := (unhide HTX).pushP (a := cur) (c := r1 + 1) (by have := unhide H1; rw [show ((r1 : Int) + 1) = ((r1 + 1 : Nat) : Int) by omega] at this; exact this) (unhide H2) (unhide H3)
          have hgw : gb < wx.heap.size := heap_lt (unhide HGX)
          have hvb : ∀ k, vp'.ownBlock = some k → ob = some k ∨ w.heap.size ≤ k := unhide HOB1
          refine ⟨r1 + 1, r1 + 1 + 1, ps ++ [(cur, r1 + 1)], _, rfl, by omega, by omega, by go_num, by go_num, hide (by rw [List.length_append]; have := unhide HPL; simp; omega), hide ?_, hide hT3, hide ?_, hide ?_, hide fun k hk => ?_, hide fun k hk => ?_⟩
          · rcases unhide HC with ⟨_, h⟩ | ⟨h, _⟩
            · exact .inr ⟨by omega, h.push⟩
            · omega
          · rw [heap_setCell_other _ _ _ _ (by show gb ≠ tb; omega), grown_cell (unhide H2) hgw ?_]
            · exact unhide HGX
            · intro e
              exact unhide HOBG gb e rfl
          · refine Kp.set ?_ 3 _ (.inl (.inl rfl))
            exact ((unhide HKX).alloc _).grown (unhide H2) fun k hk => by
              rcases hvb k hk with q | q
              · exact .inl (.inr q)
              · exact .inr q
          · simp [Value.ownBlock] at hk
            subst hk
            rcases unhide H3 with q | q
            · exact hvb _ q
            · right; have := (unhide HKX).size; omega
          · simp [Value.ownBlock] at hk
            subst hk
            rcases unhide H3 with q | q
            · exact unhide HOBG _ q
            · omega
      · have e1 : ((r1 : Int) + 1 == (c : Int)) = false := by rw [beq_eq_false_iff_ne]; omega
        have e2 : ¬ (r1 : Int) + 1 = (c : Int) := by omega
        have p0 : ∀ q, (wr.drewN q).cell? ⟨tb, 0, none⟩ = some (.slice (some ⟨pg, 0, none⟩) n n) := fun q => (unhide HT1).c0
        have p1 : ∀ q, (wr.drewN q).cell? ⟨pg, r1, none⟩ = some (.int .i64 ((p r1 : Nat) : Int)) := fun q => (unhide HT1).pl.cell r1 (by omega)
        have p2 : ∀ q, (wr.drewN q).cell? ⟨pg, r1 + 1, none⟩ = some (.int .i64 ((p (r1 + 1) : Nat) : Int)) := fun q => (unhide HT1).pl.cell (r1 + 1) (by omega)
        have hm1 := unhide HM r1 (by omega)
        have hm2 := unhide HM (r1 + 1) (by omega)
        have HC1 : Hid (∀ q, Calls Try.prog fn (#[.int .i64 ((p r1 : Nat) : Int)] ++ cb) (wr.drewN q) fun e W' => e = .returned (.int .i64 (f (p r1) : Int)) ∧ ∃ q', W' = (wr.drewN q).drewN q') := hide fun q => unhide HFC _ _ vp' hm1 ((unhide HK1).drewN q) (unhide HT1).blk
        have HC2 : Hid (∀ q, Calls Try.prog fn (#[.int .i64 ((p (r1 + 1) : Nat) : Int)] ++ cb) (wr.drewN q) fun e W' => e = .returned (.int .i64 (f (p (r1 + 1)) : Int)) ∧ ∃ q', W' = (wr.drewN q).drewN q') := hide fun q => unhide HFC _ _ vp' hm2 ((unhide HK1).drewN q) (unhide HT1).blk
        have hr2 : (r1 : Int) < (n : Int) := by omega
        have hr3 : (r1 : Int) + 1 < (n : Int) := by omega
        obtain ⟨x1, hx1⟩ : ∃ x1, x1 = p r1 := ⟨_, rfl⟩
        obtain ⟨x2, hx2⟩ : ∃ x2, x2 = p (r1 + 1) := ⟨_, rfl⟩
        obtain ⟨y1, hy1⟩ : ∃ y1, y1 = f x1 := ⟨_, rfl⟩
        obtain ⟨y2, hy2⟩ : ∃ y2, y2 = f x2 := ⟨_, rfl⟩
        rw [← hx1] at p1 HC1
        rw [← hx2] at p2 HC2
        rw [← hy1] at HC1
        rw [← hy2] at HC2
        have HY1 : Hid (y1 = f (p r1)) := hide (by rw [hy1, hx1])
        have HY2 : Hid (y2 = f (p (r1 + 1))) := hide (by rw [hy2, hx2])
        clear hx1 hx2 hy1 hy2 hm1 hm2
        have hwr : IntKind.i64.wrap (r1 : Int) = (r1 : Int) := by rw [IntKind.wrap_i64]; omega
        go_upto_region 6 with fail
        go_quiet (first | exact Calls.quiet_of (unhide HC1 _) | exact Calls.quiet_of (unhide HC2 _))
        by_cases hyy : y1 = y2
        · have t1 : ((y1 : Int) != (y2 : Int)) = false := by simp; omega
          have t2 : (y1 : Int) = (y2 : Int) := by omega
          go_wp2_with fail
          go_roundg (c + 1 - (r1 + 1 + 1))
          case measure => omega
          case rel =>
            refine ⟨cur, r1 + 1 + 1, ps, vp', rfl, by omega, by omega, rfl, by go_num, hide (by have := unhide HPL; omega), hide ?_, hide ((unhide HT1).drewN nq), hide (unhide HG1), hide ((unhide HK1).drewN nq), HOB1, HOBG⟩
            rcases unhide HC with ⟨_, h⟩ | ⟨h, _⟩
            · exact .inl ⟨by omega, h.keep (by rw [show r1 + 1 - 1 = r1 by omega, ← unhide HY1, ← unhide HY2, hyy])⟩
            · omega
        · have t1 : ((y1 : Int) != (y2 : Int)) = true := by simp; omega
          have t2 : ¬ (y1 : Int) = (y2 : Int) := by omega
          obtain ⟨wx, hwx⟩ : ∃ wx, wx = wr.drewN nq := ⟨_, rfl⟩
          have HTX : Hid (TAt H wx tb pg rg n p R vo vp' os ps) := hide (by rw [hwx]; exact (unhide HT1).drewN nq)
          have HKX : Hid (Kp (fun k => k = tb ∨ ob = some k) w wx) := hide (by rw [hwx]; exact (unhide HK1).drewN nq)
          have HGX : Hid (wx.heap[gb]? = some (.cells #[.int .i64 (a : Int), .int .i64 (c : Int)] 56 (0, 0))) := hide (by rw [hwx]; exact unhide HG1)
          rw [← hwx]
          clear hwx HT1 HK1 HG1
          have z3 := (unhide HTX).c3
          obtain ⟨i0, hii, hz0, hz1, hz2⟩ := info_parts info56
          have HPO := hide ((unhide HTX).alloc (.cells #[.int .i64 (cur : Int), .int .i64 ((r1 : Int) + 1)] 56)).pc
          have HNW := hide (news_two wx (iv (cur : Int)) (iv ((r1 : Int) + 1)) 56)
          have hbs : H ≤ (wx.alloc (.cells #[.int .i64 (cur : Int), .int .i64 ((r1 : Int) + 1)] 56)).heap.size := by
            have := (unhide HTX).ht.1
            have := heap_lt (unhide HTX).blk
            simp
            omega
          have hpl2 : ps.length + 1 ≤ 1048576 := by have := unhide HPL; omega
          have HWS : Hid (wx.heap.size + 1 = (wx.alloc (.cells #[.int .i64 (cur : Int), .int .i64 ((r1 : Int) + 1)] 56)).heap.size) := hide (by simp)
          go_wp2_with (at_builtin; go_must (refine wpList_append_lies _ rfl _ _ 52 rfl H 56 i0 _ 2 16 Try.underlying52 hii hz0 hz1 hz2 rfl (by decide) vp' ps.length (gv ps) (by rfl) (unhide HPO) ⟨wx.heap.size, 0, none⟩ 1 1 [iv (cur : Int), iv ((r1 : Int) + 1)] (by rfl) rfl (unhide HNW) (by intro u hu; simp at hu; rcases hu with rfl | rfl <;> rfl) (by omega) (by unfold maxLen; omega) (by omega) hbs (wx.heap.size + 1) (unhide HWS).symm ?_; intro g' cap' x2 h1 h2 h3 h4; have s1 : x2.cell? ⟨tb, 3, none⟩ = some vp' := (World.cell?_of_block (grown_cell h2 (heap_lt (unhide HTX).blk) (unhide HTX).vp_t.1)).trans (unhide HTX).c3; have s2 : x2.frozen? ⟨tb, 3, none⟩ = false := (World.frozen?_of_block (grown_cell h2 (heap_lt (unhide HTX).blk) (unhide HTX).vp_t.1)).trans ((unhide HTX).fz 3); have H1 := hide h1; have H2 := hide h2; have H3 := hide h3; clear h1 h2 h3 h4))
          go_roundg (c + 1 - (r1 + 1 + 1))
          case measure => omega
          case rel =>
            have hT3 := (unhide HTX).pushP (a := cur) (c := r1 + 1) (by have := unhide H1; rw [show ((r1 : Int) + 1) = ((r1 + 1 : Nat) : Int) by omega] at this; exact this) (unhide H2) (unhide H3)
            have hgw : gb < wx.heap.size := heap_lt (unhide HGX)
            have hvb : ∀ k, vp'.ownBlock = some k → ob = some k ∨ w.heap.size ≤ k := unhide HOB1
            refine ⟨r1 + 1, r1 + 1 + 1, ps ++ [(cur, r1 + 1)], _, rfl, by omega, by omega, by go_num, by go_num, hide (by rw [List.length_append]; have := unhide HPL; simp; omega), hide ?_, hide hT3, hide ?_, hide ?_, hide fun k hk => ?_, hide fun k hk => ?_⟩
            · rcases unhide HC with ⟨_, h⟩ | ⟨h, _⟩
              · exact .inl ⟨by omega, h.next (by rw [show r1 + 1 - 1 = r1 by omega, ← unhide HY1, ← unhide HY2]; exact hyy)⟩
              · omega
            · rw [heap_setCell_other _ _ _ _ (by show gb ≠ tb; omega), grown_cell (unhide H2) hgw ?_]
              · exact unhide HGX
              · intro e
                exact unhide HOBG gb e rfl
            · refine Kp.set ?_ 3 _ (.inl (.inl rfl))
              exact ((unhide HKX).alloc _).grown (unhide H2) fun k hk => by
                rcases hvb k hk with q | q
                · exact .inl (.inr q)
                · exact .inr q
            · simp [Value.ownBlock] at hk
              subst hk
              rcases unhide H3 with q | q
              · exact hvb _ q
              · right; have := (unhide HKX).size; omega
            · simp [Value.ownBlock] at hk
              subst hk
              rcases unhide H3 with q | q
              · exact unhide HOBG _ q
              · omega
    · have tl : ¬ (r1 : Int) + 1 ≤ (c : Int) := by omega
      obtain ⟨xa, xc, rfl, _⟩ := own_group (unhide HT1).pc
      have z3 := (unhide HT1).c3
      have HCUT : Hid (Cut f p a c ps) := hide (by rcases unhide HC with ⟨h, _⟩ | ⟨_, h⟩; omega; exact h)
      have hpsl : ps.length ≤ 1048576 := by have := unhide HPL; omega
      go_wp2_with fail
      clear z3 tl
      go_loopg [76] ps.length (fun gk kv ws => ∃ (k : Nat) (Rk : Nat → Nat) (vo' : Value), gk = ps.length - k ∧ k ≤ ps.length ∧ kv = .int .i64 (k : Int) ∧ Hid (TAt H ws tb pg rg n p Rk vo' (.slice xa ps.length xc) (os ++ wide (ps.take k)) ps) ∧ Hid (Ranked n p R Rk a c (ps.take k)) ∧ Hid (Kp (fun k => k = tb ∨ k = rg ∨ vo.ownBlock = some k ∨ ob = some k) w ws) ∧ Hid (∀ k, vo'.ownBlock = some k → vo.ownBlock = some k ∨ w.heap.size ≤ k))
      case atStart =>
        refine ⟨0, R, vo, rfl, by omega, rfl, hide ?_, hide ⟨fun q hq => by simp at hq, fun x _ _ => rfl⟩, hide ((unhide HK1).mono fun k _ h => ?_), hide fun k hk => .inl hk⟩
        · rw [List.take_zero, show wide [] = [] from rfl, List.append_nil]; exact unhide HT1
        · rcases h with h | h
          · exact .inl h
          · exact .inr (.inr (.inr h))
      case round =>
        clear HT1 HG1 HK1 g0 g1 k1
        obtain ⟨k, Rk, vo', rfl, hk, rfl, HT2, HRK, HK2, HVO⟩ := hrel
        rename World => wk
        by_cases hkl : k < ps.length
        · have tk : (k : Int) < (ps.length : Int) := by omega
          obtain ⟨_, _, e, hgr⟩ := own_group (unhide HT2).pc
          injection e with e1 e2 e3
          subst e1 e3
          obtain ⟨g, rfl, hgo2, d1, d2⟩ := hgr k hkl
          rw [Nat.mul_comm] at d1 d2
          obtain ⟨q, hq⟩ : ∃ q, q = ps.getD k (0, 0) := ⟨_, rfl⟩
          rw [← hq] at d1 d2
          have HQ := hide hq
          have hrg := (unhide HCUT).rng q (by rw [hq, List.getD_eq_getElem?_getD, List.getElem?_eq_getElem hkl]; exact List.getElem_mem _)
          clear hq hgr
          obtain ⟨q1, q2⟩ := q
          dsimp only at hrg d1 d2
          have z0 : (wk.alloc (.cells #[.int .i64 0, .int .i64 0] 56)).cell? ⟨wk.heap.size, 0, none⟩ = some (.int .i64 0) := by simp only [World.cell?, heap_alloc_new]; rfl
          have z1 : (wk.alloc (.cells #[.int .i64 0, .int .i64 0] 56)).cell? ⟨wk.heap.size, 1, none⟩ = some (.int .i64 0) := by simp only [World.cell?, heap_alloc_new]; rfl
          have z2 : ∀ o, (wk.alloc (.cells #[.int .i64 0, .int .i64 0] 56)).frozen? ⟨wk.heap.size, o, none⟩ = false := fun o => by simp only [World.frozen?, heap_alloc_new]; simp
          go_upto_region 12 with fail
          obtain ⟨pb, hpb⟩ : ∃ pb, pb = wk.heap.size := ⟨_, rfl⟩
          obtain ⟨W3, hW3⟩ : ∃ W3, W3 = wk.alloc (.cells #[.int .i64 (q1 : Int), .int .i64 (q2 : Int)] 56) := ⟨_, rfl⟩
          have HT3 : Hid (TAt H W3 tb pg rg n p Rk vo' (.slice (some ⟨g, 0, none⟩) ps.length xc) (os ++ wide (ps.take k)) ps) := hide (by rw [hW3]; exact (unhide HT2).alloc _)
          have HP3 : Hid (W3.heap[pb]? = some (.cells #[.int .i64 (q1 : Int), .int .i64 (q2 : Int)] 56 (0, 0))) := hide (by rw [hW3, hpb]; exact heap_alloc_new _ _)
          have HK3 : Hid (Kp (fun k => k = tb ∨ k = rg ∨ vo.ownBlock = some k ∨ ob = some k) w W3) := hide (by rw [hW3]; exact (unhide HK2).alloc _)
          have hpbr : rg < pb ∧ tb < pb ∧ pg < pb := by rw [hpb]; exact ⟨(unhide HT2).rk.lt, heap_lt (unhide HT2).blk, (unhide HT2).pl.lt⟩
          have HPV : Hid (∀ k, vo'.ownBlock = some k → k < pb) := hide fun k hk => by rw [hpb]; exact ((unhide HT2).op.lt k hk).2
          have HPP : Hid (g < pb) := hide (by rw [hpb]; exact ((unhide HT2).pc.lt g rfl).2)
          have hpw : w.heap.size ≤ pb := by rw [hpb]; exact (unhide HK2).size
          have HRI : Hid (Ranked n p R Rk a c (ps.take k ++ [(q1, q1 + 0)])) := hide ⟨fun q hq r h1 h2 => by
            rcases List.mem_append.1 hq with hq | hq
            · exact (unhide HRK).new q hq r h1 h2
            · simp at hq; subst hq; dsimp only at h1 h2; omega, (unhide HRK).old⟩
          rw [← hW3, ← hpb]
          clear hW3 hpb z0 z1 z2 d1 d2 HT2 HK2 HRK hgo2
          have t0 : ∀ q, (W3.drewN q).cell? ⟨tb, 0, none⟩ = some (.slice (some ⟨pg, 0, none⟩) n n) := fun q => (unhide HT3).c0
          have t1 : ∀ q, (W3.drewN q).cell? ⟨pb, 0, none⟩ = some (.int .i64 (q1 : Int)) := fun q => by show W3.cell? _ = _; simp [World.cell?, unhide HP3]
          have t2 : ∀ q, (W3.drewN q).cell? ⟨pb, 1, none⟩ = some (.int .i64 (q2 : Int)) := fun q => by show W3.cell? _ = _; simp [World.cell?, unhide HP3]
          have b1 : (q1 : Int) ≤ (q2 : Int) := by omega
          have b2 : (q2 : Int) ≤ (n : Int) := by omega
          have b3 : ¬ n = q1 := by omega
          have b4 : (q1 : Int) ≤ (n : Int) := by omega
          have b5 : q1 ≤ q2 := by omega
          have b6 : q2 ≤ n := by omega
          go_quiet (fail)
          go_wp2_with fail
          clear t0 t1 t2
          obtain ⟨m, hm⟩ : ∃ m, m = q2 - q1 := ⟨_, rfl⟩
          rw [← hm]
          go_loopg [90] m (fun gk iv' ws => ∃ (i : Nat) (Ri : Nat → Nat), gk = m - i ∧ i ≤ m ∧ iv' = .int .i64 (i : Int) ∧ Hid (TAt H ws tb pg rg n p Ri vo' (.slice (some ⟨g, 0, none⟩) ps.length xc) (os ++ wide (ps.take k)) ps) ∧ Hid (ws.heap[pb]? = some (.cells #[.int .i64 (q1 : Int), .int .i64 (q2 : Int)] 56 (0, 0))) ∧ Hid (Kp (fun k => k = tb ∨ k = rg ∨ vo.ownBlock = some k ∨ ob = some k) w ws) ∧ Hid (Ranked n p R Ri a c (ps.take k ++ [(q1, q1 + i)])))
          case atStart => exact ⟨0, Rk, rfl, by omega, rfl, hide ((unhide HT3).drewN nq), HP3, hide ((unhide HK3).drewN nq), HRI⟩
          case round =>
            clear HT3 HP3 HK3 HRI
            obtain ⟨i, Ri, rfl, him, rfl, HT3, HP3, HK3, HRI⟩ := hrel
            rename World => wi
            by_cases hil : i < m
            · have ti : (i : Int) < (m : Int) := by omega
              have d1 := (unhide HT3).pl.cell (q1 + i) (by omega)
              have hx := unhide HM (q1 + i) (by omega)
              have t1 : wi.cell? ⟨tb, 1, none⟩ = some (.slice (some ⟨rg, 0, none⟩) n n) := (unhide HT3).c1
              have t2 : wi.cell? ⟨pb, 0, none⟩ = some (.int .i64 (q1 : Int)) := by simp [World.cell?, unhide HP3]
              obtain ⟨x, hxe⟩ : ∃ x, x = p (q1 + i) := ⟨_, rfl⟩
              rw [← hxe] at d1 hx
              have HXE := hide hxe
              clear hxe
              have t3 : wi.cell? ⟨rg, x, none⟩ = some (.int .i64 ((Ri x : Nat) : Int)) := (unhide HT3).rk.cell x hx
              have t4 : wi.frozen? ⟨rg, x, none⟩ = false := (unhide HT3).rk.free x
              have hxi : (x : Int) < (n : Int) := by omega
              go_wp2_with fail
              go_region
              go_wp2_with fail
              go_roundg (m - (i + 1))
              case measure => omega
              case rel =>
                refine ⟨i + 1, upd Ri x q1, rfl, by omega, by go_num, hide (((unhide HT3).drewN 1).setRank x q1), hide ?_, hide (((unhide HK3).drewN 1).set x _ (.inl (.inr (.inl rfl)))), hide ?_⟩
                · show (wi.setCell ⟨rg, x, none⟩ (.int .i64 (q1 : Int))).heap[pb]? = _
                  rw [heap_setCell_other _ _ _ _ (by show pb ≠ rg; omega)]
                  exact unhide HP3
                · rw [unhide HXE]
                  exact rank_step (f := f) (q2 := q2) (ps := ps) (unhide HRI) (unhide HJ) hc (by omega) (take_ahead (unhide HCUT) hkl (unhide HQ))
            · obtain rfl : i = m := by omega
              have ti : ¬ (i : Int) < (i : Int) := by omega
              have t1 : wi.cell? ⟨pb, 0, none⟩ = some (.int .i64 (q1 : Int)) := by simp [World.cell?, unhide HP3]
              have t2 : wi.cell? ⟨pb, 1, none⟩ = some (.int .i64 (q2 : Int)) := by simp [World.cell?, unhide HP3]
              have HRN : Hid (Ranked n p R Ri a c (ps.take (k + 1))) := hide (by
                have h := unhide HRI
                rw [take_snoc hkl (unhide HQ)]
                rw [show q1 + i = q2 by omega] at h
                exact h)
              have HWD := hide (wide_snoc (ps.take k) (q1, q2))
              rw [← take_snoc hkl (unhide HQ)] at HWD
              by_cases hwd : 1 < q2 - q1
              · have w1 : 1 < (q2 : Int) - (q1 : Int) := by omega
                rw [if_pos hwd] at HWD
                go_upto_region 18 with fail
                obtain ⟨L, hL⟩ : ∃ L, L = os ++ wide (ps.take k) := ⟨_, rfl⟩
                have hLl : L.length + 1 ≤ 1000000000 := by rw [hL, List.length_append]; have h1 := wide_le (ps.take k); rw [List.length_take] at h1; omega
                rw [← hL] at HT3
                have HLL := hide hL
                clear hL
                refine wp_region_noPanic ?_
                refine wp_region_held_drew (S := fun x => x.heap[pb]? = some (.cells #[.int .i64 (q1 : Int), .int .i64 (q2 : Int)] 56 (0, 0))) (by kernel_rfl) (unhide HP3) (fun hHeld => ?_)
                obtain ⟨x1, hx1⟩ : ∃ x1, x1 = wi.drew := ⟨_, rfl⟩
                have HTX : Hid (TAt H x1 tb pg rg n p Ri vo' (.slice (some ⟨g, 0, none⟩) ps.length xc) L ps) := hide (by rw [hx1]; exact (unhide HT3).drewN 1)
                have HKX : Hid (Kp (fun k => k = tb ∨ k = rg ∨ vo.ownBlock = some k ∨ ob = some k) w x1) := hide (by rw [hx1]; exact (unhide HK3).drewN 1)
                have HPV2 : Hid (vo'.ownBlock ≠ some pb) := hide fun e => by have := unhide HPV pb e; omega
                show wpAnyH _ _ _ _ _ _ _ _ wi.drew
                rw [← hx1] at hHeld ⊢
                have HBS : Hid (H ≤ (x1.alloc (.cells #[.int .i64 (q1 : Int), .int .i64 (q2 : Int)] 56)).heap.size) := hide (by have := (unhide HTX).ht.1; have := heap_lt (unhide HTX).blk; simp; omega)
                clear hx1 HT3 HK3 HP3 t1 t2
                refine held_take 0 109 rfl rfl (by kernel_rfl) (by kernel_rfl) (by kernel_rfl) (by rfl) hHeld noPanic_panic (v := ?_) (fun x hSx => ?_) ?_
                rotate_left 1
                · go_simp <;> with_reducible rfl
                simp only [List.set_cons_zero, List.set_cons_succ]
                refine held_take 1 110 rfl rfl (by kernel_rfl) (by kernel_rfl) (by kernel_rfl) (by rfl) hHeld noPanic_panic (v := ?_) (fun x hSx => ?_) ?_
                rotate_left 1
                · go_simp <;> with_reducible rfl
                simp only [List.set_cons_zero, List.set_cons_succ]
                refine held_take 2 111 rfl rfl (by kernel_rfl) (by kernel_rfl) (by kernel_rfl) (by rfl) hHeld noPanic_panic (v := ?_) (fun x hSx => ?_) ?_
                rotate_left 1
                · go_simp <;> with_reducible rfl
                simp only [List.set_cons_zero, List.set_cons_succ]
                refine held_take 3 112 rfl rfl (by kernel_rfl) (by kernel_rfl) (by kernel_rfl) (by rfl) hHeld noPanic_panic (v := ?_) (fun x hSx => ?_) ?_
                rotate_left 1
                · go_simp <;> with_reducible rfl
                simp only [List.set_cons_zero, List.set_cons_succ]
                refine held_take 5 114 rfl rfl (by kernel_rfl) (by kernel_rfl) (by kernel_rfl) (by rfl) hHeld noPanic_panic (v := ?_) (fun x hSx => ?_) ?_
                rotate_left 1
                · (have s0 : x.cell? ⟨pb, 0, none⟩ = some (.int .i64 (q1 : Int)) := by simp [World.cell?, hSx]); (have s1 : x.cell? ⟨pb, 1, none⟩ = some (.int .i64 (q2 : Int)) := by simp [World.cell?, hSx]); clear hSx; go_simp <;> with_reducible rfl
                simp only [List.set_cons_zero, List.set_cons_succ]
                refine held_two (i := 4) (j := 6) (by kernel_rfl) rfl rfl (fun K hK => ?_) (fun K hK => ?_)
                · refine held_go 4 113 hK rfl (by rfl) (v := vo') (w' := x1) ?_ hHeld ?_
                  · have q0 := (unhide HTX).c2; go_simp
                  simp only [List.set_cons_zero, List.set_cons_succ]
                  refine held_one 6 115 (by kernel_rfl) rfl rfl (by rfl) (v := .slice (some ⟨x1.heap.size, 0, none⟩) 1 1) (w' := (x1.alloc (.cells #[.int .i64 (q1 : Int), .int .i64 (q2 : Int)] 56))) ?_ (by rw [Below.heap_alloc _ _ _ (heap_lt hHeld)]; exact hHeld) ?_
                  · go_simp <;> exact ⟨rfl, rfl⟩
                  simp only [List.set_cons_zero, List.set_cons_succ]
                  refine held_append 7 116 (.tmp 113) (.tmp 115) (by kernel_rfl) rfl rfl (by rfl) rfl rfl H vo' L.length (gv L) (by rfl) ((unhide HTX).alloc _).op ⟨x1.heap.size, 0, none⟩ (q1 : Int) (q2 : Int) (by rfl) (news_two x1 _ _ 56) (by omega) (unhide HBS) (x1.heap.size + 1) (by simp) (fun x' hg' => by rw [grown_cell hg' (heap_lt hHeld) (unhide HPV2)]; exact hHeld) ?_
                  intro g' cap' x2 h1 h2 h3 h4
                  simp only [List.set_cons_zero, List.set_cons_succ]
                  have e2 : x2.heap[pb]? = some (.cells #[.int .i64 (q1 : Int), .int .i64 (q2 : Int)] 56 (0, 0)) := by rw [grown_cell h2 (heap_lt hHeld) (unhide HPV2)]; exact hHeld
                  have hgb2 := grown_cell h2 (heap_lt (unhide HTX).blk) (unhide HTX).vo_t.1
                  have s1 : x2.cell? ⟨tb, 2, none⟩ = some vo' := (World.cell?_of_block hgb2).trans (unhide HTX).c2
                  have s2 : x2.frozen? ⟨tb, 2, none⟩ = false := (World.frozen?_of_block hgb2).trans ((unhide HTX).fz 2)
                  have hT4 := (unhide HTX).pushO h1 h2 h3
                  have hK4 : Kp (fun k => k = tb ∨ k = rg ∨ vo.ownBlock = some k ∨ ob = some k) w (x2.setCell ⟨tb, 2, none⟩ (.slice (some ⟨g', 0, none⟩) (L.length + 1) cap')) := (((unhide HKX).alloc _).grown h2 (fun k hk => by rcases unhide HVO k hk with q | q; exact .inl (.inr (.inr (.inl q))); exact .inr q)).set 2 _ (.inl (.inl rfl))
                  have HT4 := hide hT4
                  have HK4 := hide hK4
                  have H3 := hide h3
                  have HSX : Hid (w.heap.size ≤ x1.heap.size) := hide (unhide HKX).size
                  clear h1 h2 h3 h4 hgb2 hT4 hK4 hHeld
                  have hHeld := e2
                  refine held_take 8 117 rfl rfl (by kernel_rfl) (by kernel_rfl) (by kernel_rfl) (by rfl) hHeld noPanic_panic (v := ?_) (fun x hSx => ?_) ?_
                  rotate_left 1
                  · go_simp <;> with_reducible rfl
                  simp only [List.set_cons_zero, List.set_cons_succ]
                  refine held_take 9 118 rfl rfl (by kernel_rfl) (by kernel_rfl) (by kernel_rfl) (by rfl) hHeld noPanic_panic (v := ?_) (fun x hSx => ?_) ?_
                  rotate_left 1
                  · go_simp <;> with_reducible rfl
                  simp only [List.set_cons_zero, List.set_cons_succ]
                  refine held_skip 10 (by kernel_rfl) rfl rfl (by rfl) (w' := x2.setCell ⟨tb, 2, none⟩ (.slice (some ⟨g', 0, none⟩) (L.length + 1) cap')) ?_ ?_ ?_
                  · go_simp
                  · rw [heap_setCell_other _ _ _ _ (by show pb ≠ tb; omega)]; exact e2
                  refine wpAnyH_done (by kernel_rfl) ?_ _
                  refine NoPanic.normal ?_
                  clear hHeld e2 s1 s2
                  obtain ⟨x3, hx3⟩ : ∃ x3, x3 = x2.setCell ⟨tb, 2, none⟩ (.slice (some ⟨g', 0, none⟩) (L.length + 1) cap') := ⟨_, rfl⟩
                  rw [← hx3] at HT4 HK4 ⊢
                  clear hx3
                  go_wp2_with fail
                  go_roundg (ps.length - (k + 1))
                  case measure => omega
                  case rel =>
                    refine ⟨k + 1, Ri, _, rfl, by omega, by go_num, hide (by rw [unhide HWD, ← List.append_assoc, ← unhide HLL]; exact unhide HT4), HRN, HK4, hide fun k' hk' => ?_⟩
                    simp [Value.ownBlock] at hk'
                    subst hk'
                    rcases unhide H3 with q | q
                    · exact unhide HVO _ q
                    · right; have := unhide HSX; omega
                · refine held_go 6 115 hK rfl (by rfl) (v := .slice (some ⟨x1.heap.size, 0, none⟩) 1 1) (w' := (x1.alloc (.cells #[.int .i64 (q1 : Int), .int .i64 (q2 : Int)] 56))) ?_ (by rw [Below.heap_alloc _ _ _ (heap_lt hHeld)]; exact hHeld) ?_
                  · go_simp <;> exact ⟨rfl, rfl⟩
                  simp only [List.set_cons_zero, List.set_cons_succ]
                  refine held_one 4 113 (by kernel_rfl) rfl rfl (by rfl) (v := vo') (w' := (x1.alloc (.cells #[.int .i64 (q1 : Int), .int .i64 (q2 : Int)] 56))) ?_ (by rw [Below.heap_alloc _ _ _ (heap_lt hHeld)]; exact hHeld) ?_
                  · have q0 := ((unhide HTX).alloc (.cells #[.int .i64 (q1 : Int), .int .i64 (q2 : Int)] 56)).c2; go_simp
                  simp only [List.set_cons_zero, List.set_cons_succ]
                  refine held_append 7 116 (.tmp 113) (.tmp 115) (by kernel_rfl) rfl rfl (by rfl) rfl rfl H vo' L.length (gv L) (by rfl) ((unhide HTX).alloc _).op ⟨x1.heap.size, 0, none⟩ (q1 : Int) (q2 : Int) (by rfl) (news_two x1 _ _ 56) (by omega) (unhide HBS) (x1.heap.size + 1) (by simp) (fun x' hg' => by rw [grown_cell hg' (heap_lt hHeld) (unhide HPV2)]; exact hHeld) ?_
                  intro g' cap' x2 h1 h2 h3 h4
                  simp only [List.set_cons_zero, List.set_cons_succ]
                  have e2 : x2.heap[pb]? = some (.cells #[.int .i64 (q1 : Int), .int .i64 (q2 : Int)] 56 (0, 0)) := by rw [grown_cell h2 (heap_lt hHeld) (unhide HPV2)]; exact hHeld
                  have hgb2 := grown_cell h2 (heap_lt (unhide HTX).blk) (unhide HTX).vo_t.1
                  have s1 : x2.cell? ⟨tb, 2, none⟩ = some vo' := (World.cell?_of_block hgb2).trans (unhide HTX).c2
                  have s2 : x2.frozen? ⟨tb, 2, none⟩ = false := (World.frozen?_of_block hgb2).trans ((unhide HTX).fz 2)
                  have hT4 := (unhide HTX).pushO h1 h2 h3
                  have hK4 : Kp (fun k => k = tb ∨ k = rg ∨ vo.ownBlock = some k ∨ ob = some k) w (x2.setCell ⟨tb, 2, none⟩ (.slice (some ⟨g', 0, none⟩) (L.length + 1) cap')) := (((unhide HKX).alloc _).grown h2 (fun k hk => by rcases unhide HVO k hk with q | q; exact .inl (.inr (.inr (.inl q))); exact .inr q)).set 2 _ (.inl (.inl rfl))
                  have HT4 := hide hT4
                  have HK4 := hide hK4
                  have H3 := hide h3
                  have HSX : Hid (w.heap.size ≤ x1.heap.size) := hide (unhide HKX).size
                  clear h1 h2 h3 h4 hgb2 hT4 hK4 hHeld
                  have hHeld := e2
                  refine held_take 8 117 rfl rfl (by kernel_rfl) (by kernel_rfl) (by kernel_rfl) (by rfl) hHeld noPanic_panic (v := ?_) (fun x hSx => ?_) ?_
                  rotate_left 1
                  · go_simp <;> with_reducible rfl
                  simp only [List.set_cons_zero, List.set_cons_succ]
                  refine held_take 9 118 rfl rfl (by kernel_rfl) (by kernel_rfl) (by kernel_rfl) (by rfl) hHeld noPanic_panic (v := ?_) (fun x hSx => ?_) ?_
                  rotate_left 1
                  · go_simp <;> with_reducible rfl
                  simp only [List.set_cons_zero, List.set_cons_succ]
                  refine held_skip 10 (by kernel_rfl) rfl rfl (by rfl) (w' := x2.setCell ⟨tb, 2, none⟩ (.slice (some ⟨g', 0, none⟩) (L.length + 1) cap')) ?_ ?_ ?_
                  · go_simp
                  · rw [heap_setCell_other _ _ _ _ (by show pb ≠ tb; omega)]; exact e2
                  refine wpAnyH_done (by kernel_rfl) ?_ _
                  refine NoPanic.normal ?_
                  clear hHeld e2 s1 s2
                  obtain ⟨x3, hx3⟩ : ∃ x3, x3 = x2.setCell ⟨tb, 2, none⟩ (.slice (some ⟨g', 0, none⟩) (L.length + 1) cap') := ⟨_, rfl⟩
                  rw [← hx3] at HT4 HK4 ⊢
                  clear hx3
                  go_wp2_with fail
                  go_roundg (ps.length - (k + 1))
                  case measure => omega
                  case rel =>
                    refine ⟨k + 1, Ri, _, rfl, by omega, by go_num, hide (by rw [unhide HWD, ← List.append_assoc, ← unhide HLL]; exact unhide HT4), HRN, HK4, hide fun k' hk' => ?_⟩
                    simp [Value.ownBlock] at hk'
                    subst hk'
                    rcases unhide H3 with q | q
                    · exact unhide HVO _ q
                    · right; have := unhide HSX; omega
              · have w1 : ¬ 1 < (q2 : Int) - (q1 : Int) := by omega
                rw [if_neg hwd] at HWD
                go_wp2_with fail
                go_roundg (ps.length - (k + 1))
                case measure => omega
                case rel => exact ⟨k + 1, Ri, vo', rfl, by omega, by go_num, hide (by rw [unhide HWD]; exact unhide HT3), HRN, HK3, HVO⟩
        · obtain rfl : k = ps.length := by omega
          have tk : ¬ (ps.length : Int) < (ps.length : Int) := by omega
          have z3 := (unhide HT2).c3
          go_wp2_with fail
          go_ret
          refine ⟨ps, Rk, vo', .slice xa ps.length xc, ?_, unhide HCUT, ?_, ?_, ?_, unhide HVO, ?_⟩
          · show Ending.returned (.bool (decide (1 < (ps.length : Int)))) = _
            rw [show decide (1 < (ps.length : Int)) = decide (1 < ps.length) from decide_eq_decide.2 (by omega)]
          · rw [List.take_length] at HRK; exact unhide HRK
          · rw [List.take_length] at HT2; exact unhide HT2
          · rw [← unhide HOB]; exact unhide HK2
          · rw [← unhide HOB]; exact unhide HOB1
end Go.Proofs.Ytpemgjcgcmleiaa
