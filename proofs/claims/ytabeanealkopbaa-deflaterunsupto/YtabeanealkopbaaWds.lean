/- The words by which lengths are told: runWords. -/
import Derived.Test.YtabeanealkopbaaRun
namespace Go.Proofs.Ytabeanealkopbaa
open Go.RowKit Infl Defl
set_option maxRecDepth 100000
set_option linter.unusedVariables false

attribute [local go_sem ↓] Go.wp_at_zero Go.wp_at_succ

/-- a word: a symbol, what goes with it, in how many bits -/
abbrev Wd := Int × Nat × Nat

def wcs : List Wd → List Value
  | [] => []
  | r :: rs => .int .i64 r.1 :: .int .i64 (r.2.1 : Int) :: .int .i64 (r.2.2 : Int) :: wcs rs

theorem wcs_length : ∀ l : List Wd, (wcs l).length = l.length * 3
  | [] => rfl
  | r :: rs => by simp [wcs, wcs_length rs]; omega

theorem wcs_append : ∀ a b : List Wd, wcs (a ++ b) = wcs a ++ wcs b
  | [], b => rfl
  | r :: rs, b => by simp [wcs, wcs_append rs b]

theorem wcs_one : ∀ l : List Wd, ∀ u ∈ wcs l, u.oneCell' = true
  | [] => fun u h => by cases h
  | r :: rs => fun u h => by
    simp [wcs] at h
    rcases h with rfl | rfl | rfl | h
    · rfl
    · rfl
    · rfl
    · exact wcs_one rs u h

theorem info34 : (Try.prog.info? 34).map (fun i => (i.zero, i.size, i.bytes)) = some (some (.agg #[.int .i64 0, .int .i64 0, .int .i64 0]), 3, 24) := by kernel_rfl

theorem wpList_append_word {w : World} {ops : Array Oper} {rest : List Oper} {o : Oper} {a : Act} {Q : Exit → Act → World → Prop} (hgd : o.guard = none) (s x : Operand)
    (ho : o.op = .call { callee := .builtin .append, args := #[s, x], argTypes := #[36, 36] })
    (base : Nat) (v : Value) (n : Nat) (xs : List Wd) (hs : a.eval s = v) (hown : w.ownsRow base 34 3 v n (wcs xs))
    (g : Nat) (r : Wd) (hx : a.eval x = .slice (some ⟨g, 0, none⟩) 1 1) (hg : w.heap[g]? = some (.cells #[.int .i64 r.1, .int .i64 (r.2.1 : Int), .int .i64 (r.2.2 : Int)] 34 (0, 0))) (h63 : (n + 1) * 24 ≤ 140737488355328) (hbase : base ≤ w.heap.size)
    (h : ∀ v' w', w'.ownsRow base 34 3 v' (n + 1) (wcs (xs ++ [r])) → w.grownBy w' v.ownBlock → wpList Try.prog ops Q rest (a.put o.dst v') w') : wpList Try.prog ops Q (o :: rest) a w := by
  obtain ⟨i0, hii, hz0, hz1, hz2⟩ := info_parts info34
  refine wpList_append_own (w := w) hgd s x 36 ho base 34 i0 _ 3 24 Try.underlying36 hii hz0 hz1 hz2 rfl (by decide) v n (wcs xs) hs hown ⟨g, 0, none⟩ 1 1 (wcs [r]) hx (by rw [wcs_length]; rfl) (fun j u hj => ?_)
      (wcs_one _) (by unfold maxLen; omega) h63 hbase (fun v' w' h1 h2 h3 => h v' w' (by rw [wcs_append]; exact h1) h2)
  have ea : (⟨g, 0, none⟩ : Addr).add j = ⟨g, j, none⟩ := by by_cases hq : j = 0 <;> simp [Addr.add, hq]
  rw [ea]
  simp only [World.cell?, hg]
  simpa [wcs] using hj

/-- is the length ahead like the one there -/
def againB (l : List Int) (a : Nat) : Bool := decide (0 < a ∧ l.getD (a - 1) 0 = l.getD a 0)

def step4 (l : List Int) (a : Nat) : Int × Nat × Nat × Nat := stepW (l.drop a) (againB l a)

theorem step4_is (l : List Int) (a : Nat) : (step4 l a).1 = (stepR l a).1 ∧ (step4 l a).2.1 = (stepR l a).2.1 ∧ (step4 l a).2.2.2 = (stepR l a).2.2 := by
  have e : (l.drop a).getD 0 0 = l.getD a 0 := by simp [List.getD_eq_getElem?_getD]
  unfold step4 stepW stepR againB
  rw [e]
  generalize cntRun (l.getD a 0) (l.drop a) = c
  generalize l.getD a 0 = v
  by_cases h1 : v = 0 ∧ 11 ≤ c
  · rw [if_pos h1, if_pos h1]; exact ⟨rfl, rfl, rfl⟩
  · rw [if_neg h1, if_neg h1]
    by_cases h2 : v = 0 ∧ 3 ≤ c
    · rw [if_pos h2, if_pos h2]; exact ⟨rfl, rfl, rfl⟩
    · rw [if_neg h2, if_neg h2]
      by_cases h3 : 0 < v ∧ 0 < a ∧ l.getD (a - 1) 0 = v ∧ 3 ≤ c
      · rw [if_pos h3, if_pos ⟨h3.1, decide_eq_true ⟨h3.2.1, h3.2.2.1⟩, h3.2.2.2⟩]; exact ⟨rfl, rfl, rfl⟩
      · rw [if_neg h3, if_neg (fun h => h3 ⟨h.1, by have := of_decide_eq_true h.2.1; exact this.1, by have := of_decide_eq_true h.2.1; exact this.2, h.2.2⟩)]; exact ⟨rfl, rfl, rfl⟩

/-- from a place on -/
def wordsF (l : List Int) : Nat → Nat → List Wd
  | 0, _ => []
  | k + 1, a => if a < l.length then ((step4 l a).1, (step4 l a).2.1, (step4 l a).2.2.1) :: wordsF l k (a + (step4 l a).2.2.2) else []

def wordsL (l : List Int) : List Wd := wordsF l l.length 0

theorem wordsF_runs (l : List Int) : ∀ k a, (wordsF l k a).map (fun r => (r.1, r.2.1)) = runsF l k a
  | 0, _ => rfl
  | k + 1, a => by
    obtain ⟨h1, h2, h3⟩ := step4_is l a
    unfold wordsF runsF
    by_cases h : a < l.length
    · rw [if_pos h, if_pos h, List.map_cons, h1, h2, h3, wordsF_runs l k]
    · rw [if_neg h, if_neg h]; rfl

theorem wordsL_runs (l : List Int) : (wordsL l).map (fun r => (r.1, r.2.1)) = runsL l := wordsF_runs l _ _

/-- within runWords -/
structure WdAt (w ws : World) (l : List Int) (a : Nat) (rs : List Wd) (v : Value) : Prop where
  on : ∃ k, wordsL l = rs ++ wordsF l k a ∧ l.length ≤ a + k
  own : ws.ownsRow w.heap.size 34 3 v rs.length (wcs rs)
  bel : Below w.heap.size w ws
  cnt : rs.length ≤ a

theorem WdAt.start (w : World) (l : List Int) : WdAt w w l 0 [] (.slice none 0 0) :=
  ⟨⟨l.length, rfl, by omega⟩, World.ownsRow_nil _ _ _ _, Below.refl _ _, by simp⟩

theorem WdAt.below {w ws ws' : World} {l : List Int} {a : Nat} {rs : List Wd} {v : Value} (h : WdAt w ws l a rs v) (hb : Below ws.heap.size ws ws') : WdAt w ws' l a rs v :=
  ⟨h.on, own_keep h.own (fun g e => hb.block _ (h.own.lt g e).2), h.bel.trans (hb.mono h.bel.size), h.cnt⟩

theorem WdAt.next {w ws w' : World} {l : List Int} {a : Nat} {rs : List Wd} {v v' : Value} (h : WdAt w ws l a rs v) (ha : a < l.length)
    (hown : w'.ownsRow w.heap.size 34 3 v' (rs.length + 1) (wcs (rs ++ [((step4 l a).1, (step4 l a).2.1, (step4 l a).2.2.1)]))) (hg : ws.grownBy w' v.ownBlock) :
    WdAt w w' l (a + (step4 l a).2.2.2) (rs ++ [((step4 l a).1, (step4 l a).2.1, (step4 l a).2.2.1)]) v' := by
  have hp := (stepR_n l a ha).1
  rw [← (step4_is l a).2.2] at hp
  refine ⟨?_, by simpa using hown, h.bel.grown hg h.bel.size (fun k e => (h.own.lt k e).1), by have := h.cnt; simp; omega⟩
  obtain ⟨k, h1, h2⟩ := h.on
  obtain ⟨k', rfl⟩ : ∃ k', k = k' + 1 := ⟨k - 1, by omega⟩
  refine ⟨k', ?_, by omega⟩
  rw [h1, wordsF, if_pos ha, List.append_assoc]
  rfl

theorem WdAt.fin {w ws : World} {l : List Int} {a : Nat} {rs : List Wd} {v : Value} (h : WdAt w ws l a rs v) (ha : l.length ≤ a) : rs = wordsL l := by
  obtain ⟨k, h1, h2⟩ := h.on
  rw [h1]
  cases k with
  | zero => simp [wordsF]
  | succ k => rw [wordsF, if_neg (by omega)]; simp

theorem ReadsI.spot {w : World} {a0 : Option Addr} {cap : Nat} {l : List Int} (h : ReadsI w (.slice a0 l.length cap) l) (h0 : 0 < l.length) : ∃ b off, a0 = some ⟨b, off, none⟩ ∧ ∀ j, j < l.length → w.cell? ⟨b, off + j, none⟩ = some (.int .i64 (l.getD j 0)) := by
  obtain ⟨a, c, e, hc⟩ := h
  injection e with e1 e2 e3
  subst e1
  exact hc h0

set_option maxHeartbeats 2000000 in
theorem runWords_ok (l : List Int) (a0 : Option Addr) (cap : Nat) (w : World) (hr : ReadsI w (.slice a0 l.length cap) l) (hcap : l.length ≤ cap) (hlen : l.length * 24 ≤ 140737488351232) :
    Calls Try.prog 16 #[.slice a0 l.length cap] w fun e w' => ∃ wv, e = .returned wv ∧ w'.ownsRow w.heap.size 34 3 wv (wordsL l).length (wcs (wordsL l)) ∧ Below w.heap.size w w' := by
  have HC : Hid (0 < l.length → _) := hide hr.spot
  have HF : Hid (∀ (a b off : Nat) (W : World), a < l.length → Below w.heap.size w W → a0 = some ⟨b, off, none⟩ → Calls Try.prog 20 #[.slice (some ⟨b, off + a, none⟩) (l.length - a) (cap - a), .bool (againB l a)] W fun e w' => e = .returned (.tuple #[wordI (step4 l a).1 (step4 l a).2.1 (step4 l a).2.2.1, .int .i64 ((step4 l a).2.2.2 : Int)]) ∧ Below W.heap.size W w') := hide (fun a b off W ha hb e0 => by
    obtain ⟨b', off', e1, hc⟩ := hr.spot (by omega)
    rw [e0] at e1
    injection e1 with e1
    injection e1 with e1 e2
    subst e1 e2
    have := firstRun_ok (l.drop a) (againB l a) b (off + a) (cap - a) W (by simp; omega) (by simp; omega) (fun j hj => by
      simp at hj
      rw [Nat.add_assoc]
      have := cell_stays hb (hc (a + j) (by omega))
      rw [this]
      simp [List.getD_eq_getElem?_getD])
    rw [List.length_drop] at this
    exact this)
  have HS : Hid (∀ a, a < l.length → 1 ≤ (step4 l a).2.2.2 ∧ a + (step4 l a).2.2.2 ≤ l.length) := hide (fun a ha => by
    rw [(step4_is l a).2.2]
    have h1 := stepR_n l a ha
    have h2 := cntRun_le (l.getD a 0) (l.drop a)
    rw [List.length_drop] at h2
    omega)
  obtain ⟨n, hn⟩ : ∃ n, n = l.length := ⟨_, rfl⟩
  have HN := hide hn
  rw [← hn] at hlen hcap HC HF HS ⊢
  clear hr hn
  go_enter Try.func16, Try.ntmps16
  go_wp2_with fail
  go_loopg [3, 4] n (fun gk wv av ws => ∃ (a : Nat) (rs : List Wd), gk = n - a ∧ a ≤ n ∧ av = .int .i64 (a : Int) ∧ WdAt w ws l a rs wv)
  case atStart => exact ⟨0, [], by omega, by omega, rfl, WdAt.start w l⟩
  case round =>
    obtain ⟨a, rs, rfl, han, rfl, hat⟩ := hrel
    by_cases hlt : a < n
    · have e1 : (a : Int) < (n : Int) := by omega
      obtain ⟨b, off, rfl, hc⟩ := unhide HC (by omega)
      have k1 := cell_stays hat.bel (hc a (by have := unhide HN; omega))
      have HF2 : Hid (∀ W : World, Below w.heap.size w W → _) := hide (fun W hb => unhide HF a b off W hlt hb rfl)
      have hst := unhide HS a hlt
      have HNX : Hid (∀ (W w' : World) (v' : Value), WdAt w W l a rs u3 → w'.ownsRow w.heap.size 34 3 v' (rs.length + 1) (wcs (rs ++ [((step4 l a).1, (step4 l a).2.1, (step4 l a).2.2.1)])) → W.grownBy w' u3.ownBlock → WdAt w w' l (a + (step4 l a).2.2.2) (rs ++ [((step4 l a).1, (step4 l a).2.1, (step4 l a).2.2.1)]) v') := hide (fun W w' v' h h1 h2 => h.next (by rw [← unhide HN]; exact hlt) h1 h2)
      have hcnt := hat.cnt
      have HAG : Hid (againB l a = decide (0 < a ∧ l.getD (a - 1) 0 = l.getD a 0)) := hide rfl
      generalize againB l a = ag at HF2 HAG
      generalize (step4 l a).2.2.2 = t at HF2 HNX hst
      generalize (step4 l a).2.2.1 = x at HF2 HNX
      generalize (step4 l a).2.1 = m at HF2 HNX
      generalize (step4 l a).1 = sy at HF2 HNX
      unfold wordI at HF2
      clear HF HS
      have HAT := hide hat
      clear hat
      have hca : ¬ cap = a := by omega
      by_cases ha0 : 0 < a
      · have g0 : (0 : Int) < (a : Int) := by omega
        have k0 := cell_stays (unhide HAT).bel (hc (a - 1) (by have := unhide HN; omega))
        have e2 : (a : Int) - 1 = ((a - 1 : Nat) : Int) := by omega
        have e3 : ((a - 1 : Nat) : Int) < (n : Int) := by omega
        obtain ⟨y, hy⟩ : ∃ y, y = l.getD a 0 := ⟨_, rfl⟩
        obtain ⟨z, hz⟩ : ∃ z, z = l.getD (a - 1) 0 := ⟨_, rfl⟩
        rw [← hy] at k1
        rw [← hz] at k0
        obtain ⟨p, hp⟩ : ∃ p, p = a - 1 := ⟨_, rfl⟩
        rw [← hp] at k0 e2 e3
        have hag : (z == y) = ag := by
          rw [unhide HAG, ← hy, ← hz]
          by_cases h : z = y
          · simp [h, ha0]
          · simp [h]
        have HP := hide hp
        clear hy hz hc HC hp
        go_wp2_with fail
        go_quiet (fail)
        go_wp2_with fail
        refine (unhide HF2 _ (below_q (unhide HAT).bel nq)).mono ?_
        rintro e W2 ⟨rfl, hb2⟩
        have HAT3 : Hid (WdAt w ((W2.alloc (.cells #[.int .i64 sy, .int .i64 (m : Int), .int .i64 (x : Int)] 34)).alloc (.cells #[.int .i64 sy, .int .i64 (m : Int), .int .i64 (x : Int)] 34)) l a rs u3) := hide (((unhide HAT).below ((below_q (Below.refl _ _) nq).trans hb2)).below (((Below.refl _ _).alloc (Nat.le_refl _) _).alloc (by simp) _))
        have HSZ : Hid (w.heap.size ≤ W2.heap.size) := hide (((unhide HAT).below ((below_q (Below.refl _ _) nq).trans hb2)).bel.size)
        have HG : Hid (((W2.alloc (.cells #[.int .i64 sy, .int .i64 (m : Int), .int .i64 (x : Int)] 34)).alloc (.cells #[.int .i64 sy, .int .i64 (m : Int), .int .i64 (x : Int)] 34)).heap[W2.heap.size + 1]? = some (.cells #[.int .i64 sy, .int .i64 (m : Int), .int .i64 (x : Int)] 34 (0, 0))) := hide (by
          rw [show W2.heap.size + 1 = (W2.alloc (.cells #[.int .i64 sy, .int .i64 (m : Int), .int .i64 (x : Int)] 34)).heap.size by simp]
          exact heap_alloc_new _ _)
        obtain ⟨K, hK⟩ : ∃ K, K = rs.length := ⟨_, rfl⟩
        have HOWN := hide (unhide HAT3).own
        rw [← hK] at hcnt HNX HOWN
        have hat2 : a + t ≤ n := hst.2
        have ht1 : 1 ≤ t := hst.1
        clear hb2 HAT HF2 hst hK
        obtain ⟨a2, ha2⟩ : ∃ a2, a2 = a + t := ⟨_, rfl⟩
        have e9 : (a : Int) + (t : Int) = (a2 : Int) := by omega
        rw [← ha2] at hat2 HNX
        have ha3 : a < a2 := by omega
        clear ha2
        go_wp2_with (at_builtin; go_must (refine wpList_append_word rfl _ _ rfl w.heap.size u3 K rs (by rfl) (unhide HOWN) (W2.heap.size + 1) (sy, m, x) (by rfl) (unhide HG) (by omega) (by have := unhide HSZ; simp; omega) ?_; intro v' w' h1 h2; have HN2 := hide (unhide HNX _ _ _ (unhide HAT3) h1 h2); clear h1 h2 HNX HAT3 HOWN HG))
        go_roundg (n - a2)
        case measure => omega
        case rel => exact ⟨a2, _, rfl, by omega, by go_num, unhide HN2⟩
      · obtain rfl : a = 0 := by omega
        have hag : ag = false := by rw [unhide HAG]; simp
        subst hag
        have kz : wr.cell? ⟨b, off, none⟩ = some (.int .i64 (l.getD 0 0)) := by simpa using k1
        clear hc HC k1
        go_wp2_with fail
        go_quiet (fail)
        go_wp2_with fail
        simp only [Nat.add_zero, Nat.sub_zero] at HF2
        rw [Nat.zero_add] at hst
        refine (unhide HF2 _ (below_q (unhide HAT).bel nq)).mono ?_
        rintro e W2 ⟨rfl, hb2⟩
        have HAT3 : Hid (WdAt w ((W2.alloc (.cells #[.int .i64 sy, .int .i64 (m : Int), .int .i64 (x : Int)] 34)).alloc (.cells #[.int .i64 sy, .int .i64 (m : Int), .int .i64 (x : Int)] 34)) l 0 rs u3) := hide (((unhide HAT).below ((below_q (Below.refl _ _) nq).trans hb2)).below (((Below.refl _ _).alloc (Nat.le_refl _) _).alloc (by simp) _))
        have HSZ : Hid (w.heap.size ≤ W2.heap.size) := hide (((unhide HAT).below ((below_q (Below.refl _ _) nq).trans hb2)).bel.size)
        have HG : Hid (((W2.alloc (.cells #[.int .i64 sy, .int .i64 (m : Int), .int .i64 (x : Int)] 34)).alloc (.cells #[.int .i64 sy, .int .i64 (m : Int), .int .i64 (x : Int)] 34)).heap[W2.heap.size + 1]? = some (.cells #[.int .i64 sy, .int .i64 (m : Int), .int .i64 (x : Int)] 34 (0, 0))) := hide (by
          rw [show W2.heap.size + 1 = (W2.alloc (.cells #[.int .i64 sy, .int .i64 (m : Int), .int .i64 (x : Int)] 34)).heap.size by simp]
          exact heap_alloc_new _ _)
        obtain ⟨K, hK⟩ : ∃ K, K = rs.length := ⟨_, rfl⟩
        have HOWN := hide (unhide HAT3).own
        rw [← hK] at hcnt HNX HOWN
        have hat2 : t ≤ n := hst.2
        have ht1 : 1 ≤ t := hst.1
        clear hb2 HAT HF2 hst hK
        rw [Nat.zero_add] at HNX
        go_wp2_with (at_builtin; go_must (refine wpList_append_word rfl _ _ rfl w.heap.size u3 K rs (by rfl) (unhide HOWN) (W2.heap.size + 1) (sy, m, x) (by rfl) (unhide HG) (by omega) (by have := unhide HSZ; simp; omega) ?_; intro v' w' h1 h2; have HN2 := hide (unhide HNX _ _ _ (unhide HAT3) h1 h2); clear h1 h2 HNX HAT3 HOWN HG))
        go_roundg (n - t)
        case measure => omega
        case rel => exact ⟨t, _, rfl, by omega, by go_num, unhide HN2⟩
    · obtain rfl : a = n := by omega
      have HE := hide (hat.fin (by rw [← unhide HN]; omega))
      have HO := hide hat.own
      have HB := hide hat.bel
      clear hat
      go_wp2_with fail
      go_ret
      exact ⟨_, rfl, by rw [← unhide HE]; exact unhide HO, unhide HB⟩

end Go.Proofs.Ytabeanealkopbaa
