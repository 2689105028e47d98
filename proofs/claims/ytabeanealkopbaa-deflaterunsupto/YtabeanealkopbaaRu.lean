/- The document's Runs. -/
import Derived.Test.YtabeanealkopbaaSy
import Derived.Test.YtabeanealkopbaaRunM
namespace Go.Proofs.Ytabeanealkopbaa
open Go.RowKit Infl Defl
set_option maxRecDepth 100000
set_option linter.unusedVariables false

/-- A slice value that reads as the ints zs. -/
def ReadsI (w : World) (v : Value) (zs : List Int) : Prop :=
  ∃ a cap, v = .slice a zs.length cap ∧ (0 < zs.length → ∃ b off, a = some ⟨b, off, none⟩ ∧ ∀ j, j < zs.length → w.cell? ⟨b, off + j, none⟩ = some (.int .i64 (zs.getD j 0)))

/-- within Runs: what is told so far, and where -/
structure RuAt (w ws : World) (l : List Int) (a : Nat) (rs : List (Int × Nat)) (sv mv : Value) : Prop where
  on : ∃ k, runsL l = rs ++ runsF l k a ∧ l.length ≤ a + k
  own1 : ws.ownsRow w.heap.size 3 1 sv rs.length (rs.map fun r : Int × Nat => iv r.1)
  own2 : ws.ownsRow w.heap.size 3 1 mv rs.length (rs.map fun r : Int × Nat => iv (r.2 : Int))
  bel : Below w.heap.size w ws
  ne : ∀ g, sv.ownBlock = some g → mv.ownBlock ≠ some g
  cnt : rs.length ≤ a

theorem RuAt.start (w : World) (l : List Int) : RuAt w w l 0 [] (.slice none 0 0) (.slice none 0 0) :=
  ⟨⟨l.length, rfl, by omega⟩, World.ownsRow_nil _ _ _ _, World.ownsRow_nil _ _ _ _, Below.refl _ _, fun g e => (by cases e), (by simp)⟩

theorem RuAt.step {w ws : World} {l : List Int} {a : Nat} {rs : List (Int × Nat)} {sv mv : Value} (h : RuAt w ws l a rs sv mv) (ha : a < l.length) : ∃ k, runsL l = (rs ++ [((stepR l a).1, (stepR l a).2.1)]) ++ runsF l k (a + (stepR l a).2.2) ∧ l.length ≤ a + (stepR l a).2.2 + k := by
  obtain ⟨k, h1, h2⟩ := h.on
  obtain ⟨k', rfl⟩ : ∃ k', k = k' + 1 := ⟨k - 1, by omega⟩
  refine ⟨k', ?_, by have := (stepR_n l a ha).1; omega⟩
  rw [h1, runsF, if_pos ha, List.append_assoc]
  rfl

/-- how many like it have been counted -/
def Cnt (l : List Int) (a n : Nat) (v : Int) : Prop := cntRun v (l.drop a) = n + cntRun v (l.drop (a + n))

theorem Cnt.next {l : List Int} {a n : Nat} {v : Int} (h : Cnt l a n v) (hl : a + n < l.length) (hv : l.getD (a + n) 0 = v) : Cnt l a (n + 1) v := by
  unfold Cnt at *
  rw [h, List.drop_eq_getElem_cons hl]
  rw [List.getD_eq_getElem?_getD, List.getElem?_eq_getElem hl] at hv
  rw [cntRun, if_pos (by simpa using hv), show a + (n + 1) = a + n + 1 from by omega]
  omega

theorem Cnt.stop {l : List Int} {a n : Nat} {v : Int} (h : Cnt l a n v) (hl : a + n < l.length) (hv : ¬ l.getD (a + n) 0 = v) : cntRun v (l.drop a) = n := by
  unfold Cnt at h
  rw [h, List.drop_eq_getElem_cons hl, cntRun, if_neg (fun e => hv (by rw [List.getD_eq_getElem?_getD, List.getElem?_eq_getElem hl]; simpa using e))]
  rfl

theorem Cnt.fin {l : List Int} {a n : Nat} {v : Int} (h : Cnt l a n v) (hl : l.length ≤ a + n) : cntRun v (l.drop a) = n := by
  unfold Cnt at h
  rw [h, List.drop_of_length_le hl]
  rfl

theorem RuAt.next {w ws w1 w2 w3 w4 : World} {l : List Int} {a : Nat} {rs : List (Int × Nat)} {sv mv : Value} {g1 c1 g2 c2 : Nat} {x : Int} {y n : Nat} {o1 o2 : Obj} (h : RuAt w ws l a rs sv mv) (ha : a < l.length) (hst : stepR l a = (x, y, n))
    (e1 : w1 = ws.alloc o1) (hown1 : w2.ownsRow w.heap.size 3 1 (.slice (some ⟨g1, 0, none⟩) (rs.length + 1) c1) (rs.length + 1) ((rs.map fun r : Int × Nat => iv r.1) ++ [iv x])) (hg1 : w1.grownBy w2 sv.ownBlock) (hat1 : sv.ownBlock = some g1 ∨ g1 = ws.heap.size + 1)
    (e2 : w3 = w2.alloc o2) (hown2 : w4.ownsRow w.heap.size 3 1 (.slice (some ⟨g2, 0, none⟩) (rs.length + 1) c2) (rs.length + 1) ((rs.map fun r : Int × Nat => iv (r.2 : Int)) ++ [iv (y : Int)])) (hg2 : w3.grownBy w4 mv.ownBlock) (hat2 : mv.ownBlock = some g2 ∨ g2 = w2.heap.size + 1) :
    RuAt w w4 l (a + n) (rs ++ [(x, y)]) (.slice (some ⟨g1, 0, none⟩) (rs.length + 1) c1) (.slice (some ⟨g2, 0, none⟩) (rs.length + 1) c2) := by
  have hs := h.bel.size
  have l1 := fun k e => h.own1.lt k e
  have l2 := fun k e => h.own2.lt k e
  have s1 : ws.heap.size + 1 ≤ w2.heap.size := by have := hg1.size; rw [e1] at this; simpa using this
  have hb1 : Below w.heap.size w w2 := (by rw [e1] at hg1; exact (h.bel.alloc hs _).grown hg1 (by simp; omega) (fun k e => (l1 k e).1))
  have hg1lt := hown1.lt g1 rfl
  have hne1 : mv.ownBlock ≠ some g1 := fun e => by
    rcases hat1 with e' | e'
    · exact h.ne g1 e' e
    · have := (l2 g1 e).2; omega
  obtain ⟨k, hk1, hk2⟩ := h.step ha
  rw [hst] at hk1 hk2
  refine ⟨⟨k, hk1, by simp only at hk2; omega⟩, ?_, ?_, ?_, ?_, ?_⟩
  · rw [List.length_append, List.map_append]
    refine own_keep hown1 (fun b e => ?_)
    have eb : b = g1 := by simp only [Value.ownBlock, Option.some.injEq] at e; exact e.symm
    subst eb
    rw [hg2.block b (by rw [e2]; simp; omega) (fun e => hne1 e.symm), e2, Below.heap_alloc _ _ _ hg1lt.2]
  · rw [List.length_append, List.map_append]; exact hown2
  · rw [e2] at hg2; exact (hb1.alloc (by have := hb1.size; omega) _).grown hg2 (by have := hb1.size; simp; omega) (fun k e => (l2 k e).1)
  · intro b e e'
    have eb : b = g1 := by simp only [Value.ownBlock, Option.some.injEq] at e; exact e.symm
    have eb2 : b = g2 := by simp only [Value.ownBlock, Option.some.injEq] at e'; exact e'.symm
    rcases hat2 with h2 | h2
    · exact hne1 (by rw [h2, ← eb2, eb])
    · omega
  · have hn := (stepR_n l a ha).1
    rw [hst] at hn
    have := h.cnt
    simp only at hn
    rw [List.length_append, List.length_singleton]
    omega


set_option maxHeartbeats 4000000 in
theorem runs_ok (l : List Int) (v : Value) (w : World) (hr : ReadsI w v l) (hlen : l.length * 8 ≤ 140737488351232) :
    Calls Try.prog 10 #[v] w fun e w' => ∃ sv mv, e = .returned (.tuple #[sv, mv]) ∧ w'.ownsRow w.heap.size 3 1 sv (runsL l).length ((runsL l).map fun r => iv r.1) ∧ w'.ownsRow w.heap.size 3 1 mv (runsL l).length ((runsL l).map fun r => iv (r.2 : Int)) ∧ Below w.heap.size w w' ∧ ∀ g, sv.ownBlock = some g → mv.ownBlock ≠ some g := by
  obtain ⟨i0, hi, hz0, hz1, hz2⟩ := info_parts info3'
  obtain ⟨av, cap, rfl, hcells⟩ := hr
  obtain ⟨N, hN⟩ : ∃ N, N = l.length := ⟨_, rfl⟩
  have HST := hide (RuAt.start w l)
  have HCELLS := hide hcells
  rw [← hN] at hlen ⊢
  have HNN := hide hN
  clear hcells hN
  go_enter Try.func10, Try.ntmps10
  go_wp2_with fail
  go_loopg [4, 5, 6] N (fun gk s4 s5 c ws => ∃ (a : Nat) (rs : List (Int × Nat)) (L : Nat) (sv mv : Value), gk = N - a ∧ a ≤ N ∧ sv = s4 ∧ mv = s5 ∧ c = .int .i64 (a : Int) ∧ Hid (L = rs.length) ∧ Hid (RuAt w ws l a rs sv mv))
  case atStart => exact ⟨0, [], 0, _, _, by omega, by omega, rfl, rfl, rfl, hide rfl, HST⟩
  case round =>
    obtain ⟨a, rs, L, sv, mv, rfl, haN', rfl, rfl, rfl, HL, hat⟩ := hrel
    clear HST
    have hLa : L ≤ a := by have := (unhide hat).cnt; have := unhide HL; omega
    by_cases haN : a < N
    · have taN : (a : Int) < (N : Int) := by omega
      obtain ⟨b, off, rfl, hc0⟩ := unhide HCELLS (by rw [← unhide HNN]; omega)
      rename World => wo
      have HC : Hid (∀ j, j < N → wo.cell? ⟨b, off + j, none⟩ = some (.int .i64 (l.getD j 0))) := hide fun j hj => cell_stays (unhide hat).bel (hc0 j (by rw [← unhide HNN]; exact hj))
      have k1 := unhide HC a haN
      obtain ⟨V, hV⟩ : ∃ V, V = l.getD a 0 := ⟨_, rfl⟩
      rw [← hV] at k1
      have HV := hide hV
      clear hc0 hV
      go_upto_region 6 with fail
      go_loopg [8] (N - a) (fun gk c ws => ∃ n : Nat, gk = N - (a + n) ∧ a + n ≤ N ∧ c = .int .i64 (n : Int) ∧ ws = wo ∧ Hid (Cnt l a n V))
      case atStart => exact ⟨0, by omega, by omega, rfl, rfl, hide (by unfold Cnt; simp)⟩
      case round =>
        obtain ⟨n, rfl, hn, rfl, hws, HCN⟩ := hrel
        subst hws
        rename World => wo
        by_cases hlt : a + n < N
        · have tlt : (a : Int) + (n : Int) < (N : Int) := by omega
          have tltb : decide ((a : Int) + (n : Int) < (N : Int)) = true := by simp; omega
          have k2 := unhide HC (a + n) hlt
          by_cases heq : l.getD (a + n) 0 = V
          · rw [heq] at k2
            have HCN2 := hide ((unhide HCN).next (by rw [← unhide HNN]; exact hlt) heq)
            clear heq
            go_wp2_with fail
            go_roundg (N - (a + (n + 1)))
            case measure => omega
            case rel => exact ⟨n + 1, rfl, by omega, by go_num, rfl, HCN2⟩
          · have hcnt := (unhide HCN).stop (by rw [← unhide HNN]; exact hlt) heq
            have hn1 : 1 ≤ n := by have := cnt_pos l a (by rw [← unhide HNN]; exact haN); rw [← unhide HV, hcnt] at this; exact this
            have qe : (l.getD (a + n) 0 == V) = false := by simpa using heq
            generalize l.getD (a + n) 0 = q at k2 qe heq
            by_cases hv : V = 0
            · subst hv
              have hv : (0 : Int) = 0 := rfl
              by_cases h138 : 138 < n
              · have t1 : (11 : Int) ≤ (n : Int) := by omega
                have t2 : decide ((11 : Int) ≤ (n : Int)) = true := by simp; omega
                have t3 : (138 : Int) < (n : Int) := by omega
                have HSTEP : Hid (stepR l a = ((18 : Int), 127, 138)) := hide (by unfold stepR; rw [← unhide HV]; rw [hcnt, if_pos ⟨hv, by omega⟩, show min n 138 = 138 from by omega])
                have hye : ((127 : Nat) : Int) = (127 : Int) := by omega
                have HNEW1 : Hid (∀ (j : Nat) u, [iv (18 : Int)][j]? = some u → (wo.alloc (.cells #[iv (18 : Int)] 3)).cell? ((⟨wo.heap.size, 0, none⟩ : Addr).add j) = some u) := hide (news_one _ _)
                have HNEW2 : Hid (∀ (w2 : World) (j : Nat) u, [iv (127 : Int)][j]? = some u → (w2.alloc (.cells #[iv (127 : Int)] 3)).cell? ((⟨w2.heap.size, 0, none⟩ : Addr).add j) = some u) := hide (fun w2 => news_one _ _)
                have HOW1 : Hid ((wo.alloc (.cells #[iv (18 : Int)] 3)).ownsRow w.heap.size 3 1 sv L (rs.map fun r : Int × Nat => iv r.1)) := hide (by rw [unhide HL]; exact (unhide hat).own1.alloc _)
                have hsz := (unhide hat).bel.size
                clear hcnt
                go_wp2_with (at_builtin; first | (refine wpList_append_lies _ rfl (.tmp 82) (.tmp 84) 28 rfl w.heap.size 3 i0 (.int .i64 0) 1 8 Try.underlying28 hi hz0 hz1 hz2 rfl (by decide) sv L (rs.map fun r : Int × Nat => iv r.1) (by rfl) (unhide HOW1) ⟨wo.heap.size, 0, none⟩ 1 1 [iv (18 : Int)] (by rfl) rfl (unhide HNEW1) (by intro u hu; simp at hu; subst hu; rfl) (by decide) (by unfold maxLen; omega) (by omega) (by simp; omega) (wo.heap.size + 1) (by simp) ?_; intro g1 c1 w2 hown1 hgrow1 hat1 hglt1; have HO1 := hide hown1; have HG1 := hide hgrow1; have HA1 := hide hat1; have hb2 : w.heap.size ≤ w2.heap.size := (by have := hgrow1.size; simp at this; omega); have HOW2 : Hid ((w2.alloc (.cells #[iv (127 : Int)] 3)).ownsRow w.heap.size 3 1 mv L (rs.map fun r : Int × Nat => iv (r.2 : Int))) := hide ((own_keep (by rw [unhide HL]; exact (unhide hat).own2) (fun b e => by (have hlt := (unhide hat).own2.lt b e; rw [hgrow1.block b (by simp; omega) (fun e' => (unhide hat).ne b e'.symm e), Below.heap_alloc _ _ _ hlt.2]))).alloc _); clear hown1 hgrow1 hat1 hglt1) | (refine wpList_append_lies _ rfl (.tmp 86) (.tmp 88) 28 rfl w.heap.size 3 i0 (.int .i64 0) 1 8 Try.underlying28 hi hz0 hz1 hz2 rfl (by decide) mv L (rs.map fun r : Int × Nat => iv (r.2 : Int)) (by rfl) (unhide HOW2) ⟨w2.heap.size, 0, none⟩ 1 1 [iv (127 : Int)] (by rfl) rfl (unhide HNEW2 w2) (by intro u hu; simp at hu; subst hu; rfl) (by decide) (by unfold maxLen; omega) (by omega) (by simp; omega) (w2.heap.size + 1) (by simp) ?_; intro g2 c2 w4 hown2 hgrow2 hat2 hglt2; have HN := hide ((unhide hat).next (by rw [← unhide HNN]; exact haN) (unhide HSTEP) rfl (by rw [← unhide HL]; exact unhide HO1) (unhide HG1) (unhide HA1) rfl (by rw [← unhide HL, hye]; exact hown2) hgrow2 hat2); clear hown2 hgrow2 hat2 hglt2))
                rw [← unhide HL] at HN
                go_roundg (N - (a + 138))
                case measure => omega
                case rel => exact ⟨a + 138, rs ++ [((18 : Int), 127)], L + 1, _, _, rfl, by first | omega | (have := unhide HLE; omega), rfl, rfl, by go_num, hide (by rw [List.length_append, ← unhide HL]; rfl), HN⟩
              · by_cases h11 : 11 ≤ n
                · have t1 : (11 : Int) ≤ (n : Int) := by omega
                  have t2 : decide ((11 : Int) ≤ (n : Int)) = true := by simp; omega
                  have t3 : ¬ (138 : Int) < (n : Int) := by omega
                  have HSTEP : Hid (stepR l a = ((18 : Int), (n - 11), n)) := hide (by unfold stepR; rw [← unhide HV]; rw [hcnt, if_pos ⟨hv, by omega⟩, show min n 138 = n from by omega])
                  have hye : (((n - 11) : Nat) : Int) = ((n : Int) - 11) := by omega
                  have HNEW1 : Hid (∀ (j : Nat) u, [iv (18 : Int)][j]? = some u → (wo.alloc (.cells #[iv (18 : Int)] 3)).cell? ((⟨wo.heap.size, 0, none⟩ : Addr).add j) = some u) := hide (news_one _ _)
                  have HNEW2 : Hid (∀ (w2 : World) (j : Nat) u, [iv ((n : Int) - 11)][j]? = some u → (w2.alloc (.cells #[iv ((n : Int) - 11)] 3)).cell? ((⟨w2.heap.size, 0, none⟩ : Addr).add j) = some u) := hide (fun w2 => news_one _ _)
                  have HOW1 : Hid ((wo.alloc (.cells #[iv (18 : Int)] 3)).ownsRow w.heap.size 3 1 sv L (rs.map fun r : Int × Nat => iv r.1)) := hide (by rw [unhide HL]; exact (unhide hat).own1.alloc _)
                  have hsz := (unhide hat).bel.size
                  clear hcnt
                  go_wp2_with (at_builtin; first | (refine wpList_append_lies _ rfl (.tmp 82) (.tmp 84) 28 rfl w.heap.size 3 i0 (.int .i64 0) 1 8 Try.underlying28 hi hz0 hz1 hz2 rfl (by decide) sv L (rs.map fun r : Int × Nat => iv r.1) (by rfl) (unhide HOW1) ⟨wo.heap.size, 0, none⟩ 1 1 [iv (18 : Int)] (by rfl) rfl (unhide HNEW1) (by intro u hu; simp at hu; subst hu; rfl) (by decide) (by unfold maxLen; omega) (by omega) (by simp; omega) (wo.heap.size + 1) (by simp) ?_; intro g1 c1 w2 hown1 hgrow1 hat1 hglt1; have HO1 := hide hown1; have HG1 := hide hgrow1; have HA1 := hide hat1; have hb2 : w.heap.size ≤ w2.heap.size := (by have := hgrow1.size; simp at this; omega); have HOW2 : Hid ((w2.alloc (.cells #[iv ((n : Int) - 11)] 3)).ownsRow w.heap.size 3 1 mv L (rs.map fun r : Int × Nat => iv (r.2 : Int))) := hide ((own_keep (by rw [unhide HL]; exact (unhide hat).own2) (fun b e => by (have hlt := (unhide hat).own2.lt b e; rw [hgrow1.block b (by simp; omega) (fun e' => (unhide hat).ne b e'.symm e), Below.heap_alloc _ _ _ hlt.2]))).alloc _); clear hown1 hgrow1 hat1 hglt1) | (refine wpList_append_lies _ rfl (.tmp 86) (.tmp 88) 28 rfl w.heap.size 3 i0 (.int .i64 0) 1 8 Try.underlying28 hi hz0 hz1 hz2 rfl (by decide) mv L (rs.map fun r : Int × Nat => iv (r.2 : Int)) (by rfl) (unhide HOW2) ⟨w2.heap.size, 0, none⟩ 1 1 [iv ((n : Int) - 11)] (by rfl) rfl (unhide HNEW2 w2) (by intro u hu; simp at hu; subst hu; rfl) (by decide) (by unfold maxLen; omega) (by omega) (by simp; omega) (w2.heap.size + 1) (by simp) ?_; intro g2 c2 w4 hown2 hgrow2 hat2 hglt2; have HN := hide ((unhide hat).next (by rw [← unhide HNN]; exact haN) (unhide HSTEP) rfl (by rw [← unhide HL]; exact unhide HO1) (unhide HG1) (unhide HA1) rfl (by rw [← unhide HL, hye]; exact hown2) hgrow2 hat2); clear hown2 hgrow2 hat2 hglt2))
                  rw [← unhide HL] at HN
                  go_roundg (N - (a + n))
                  case measure => omega
                  case rel => exact ⟨a + n, rs ++ [((18 : Int), (n - 11))], L + 1, _, _, rfl, by first | omega | (have := unhide HLE; omega), rfl, rfl, by go_num, hide (by rw [List.length_append, ← unhide HL]; rfl), HN⟩
                · by_cases h3 : 3 ≤ n
                  · have t1 : ¬ (11 : Int) ≤ (n : Int) := by omega
                    have t2 : decide ((11 : Int) ≤ (n : Int)) = false := by simp; omega
                    have t3 : (3 : Int) ≤ (n : Int) := by omega
                    have t4 : decide ((3 : Int) ≤ (n : Int)) = true := by simp; omega
                    have HSTEP : Hid (stepR l a = ((17 : Int), (n - 3), n)) := hide (by unfold stepR; rw [← unhide HV]; rw [hcnt, if_neg (by omega), if_pos ⟨hv, by omega⟩])
                    have hye : (((n - 3) : Nat) : Int) = ((n : Int) - 3) := by omega
                    have HNEW1 : Hid (∀ (j : Nat) u, [iv (17 : Int)][j]? = some u → (wo.alloc (.cells #[iv (17 : Int)] 3)).cell? ((⟨wo.heap.size, 0, none⟩ : Addr).add j) = some u) := hide (news_one _ _)
                    have HNEW2 : Hid (∀ (w2 : World) (j : Nat) u, [iv ((n : Int) - 3)][j]? = some u → (w2.alloc (.cells #[iv ((n : Int) - 3)] 3)).cell? ((⟨w2.heap.size, 0, none⟩ : Addr).add j) = some u) := hide (fun w2 => news_one _ _)
                    have HOW1 : Hid ((wo.alloc (.cells #[iv (17 : Int)] 3)).ownsRow w.heap.size 3 1 sv L (rs.map fun r : Int × Nat => iv r.1)) := hide (by rw [unhide HL]; exact (unhide hat).own1.alloc _)
                    have hsz := (unhide hat).bel.size
                    clear hcnt
                    go_wp2_with (at_builtin; first | (refine wpList_append_lies _ rfl (.tmp 82) (.tmp 84) 28 rfl w.heap.size 3 i0 (.int .i64 0) 1 8 Try.underlying28 hi hz0 hz1 hz2 rfl (by decide) sv L (rs.map fun r : Int × Nat => iv r.1) (by rfl) (unhide HOW1) ⟨wo.heap.size, 0, none⟩ 1 1 [iv (17 : Int)] (by rfl) rfl (unhide HNEW1) (by intro u hu; simp at hu; subst hu; rfl) (by decide) (by unfold maxLen; omega) (by omega) (by simp; omega) (wo.heap.size + 1) (by simp) ?_; intro g1 c1 w2 hown1 hgrow1 hat1 hglt1; have HO1 := hide hown1; have HG1 := hide hgrow1; have HA1 := hide hat1; have hb2 : w.heap.size ≤ w2.heap.size := (by have := hgrow1.size; simp at this; omega); have HOW2 : Hid ((w2.alloc (.cells #[iv ((n : Int) - 3)] 3)).ownsRow w.heap.size 3 1 mv L (rs.map fun r : Int × Nat => iv (r.2 : Int))) := hide ((own_keep (by rw [unhide HL]; exact (unhide hat).own2) (fun b e => by (have hlt := (unhide hat).own2.lt b e; rw [hgrow1.block b (by simp; omega) (fun e' => (unhide hat).ne b e'.symm e), Below.heap_alloc _ _ _ hlt.2]))).alloc _); clear hown1 hgrow1 hat1 hglt1) | (refine wpList_append_lies _ rfl (.tmp 86) (.tmp 88) 28 rfl w.heap.size 3 i0 (.int .i64 0) 1 8 Try.underlying28 hi hz0 hz1 hz2 rfl (by decide) mv L (rs.map fun r : Int × Nat => iv (r.2 : Int)) (by rfl) (unhide HOW2) ⟨w2.heap.size, 0, none⟩ 1 1 [iv ((n : Int) - 3)] (by rfl) rfl (unhide HNEW2 w2) (by intro u hu; simp at hu; subst hu; rfl) (by decide) (by unfold maxLen; omega) (by omega) (by simp; omega) (w2.heap.size + 1) (by simp) ?_; intro g2 c2 w4 hown2 hgrow2 hat2 hglt2; have HN := hide ((unhide hat).next (by rw [← unhide HNN]; exact haN) (unhide HSTEP) rfl (by rw [← unhide HL]; exact unhide HO1) (unhide HG1) (unhide HA1) rfl (by rw [← unhide HL, hye]; exact hown2) hgrow2 hat2); clear hown2 hgrow2 hat2 hglt2))
                    rw [← unhide HL] at HN
                    go_roundg (N - (a + n))
                    case measure => omega
                    case rel => exact ⟨a + n, rs ++ [((17 : Int), (n - 3))], L + 1, _, _, rfl, by first | omega | (have := unhide HLE; omega), rfl, rfl, by go_num, hide (by rw [List.length_append, ← unhide HL]; rfl), HN⟩
                  · have t1 : ¬ (11 : Int) ≤ (n : Int) := by omega
                    have t2 : decide ((11 : Int) ≤ (n : Int)) = false := by simp; omega
                    have t3 : ¬ (3 : Int) ≤ (n : Int) := by omega
                    have t4 : decide ((3 : Int) ≤ (n : Int)) = false := by simp; omega
                    have HSTEP : Hid (stepR l a = ((0 : Int), 0, 1)) := hide (by unfold stepR; rw [← unhide HV]; rw [hcnt, if_neg (by omega), if_neg (by omega), if_neg (by omega), hv])
                    have hye : ((0 : Nat) : Int) = (0 : Int) := by omega
                    have HNEW1 : Hid (∀ (j : Nat) u, [iv (0 : Int)][j]? = some u → (wo.alloc (.cells #[iv (0 : Int)] 3)).cell? ((⟨wo.heap.size, 0, none⟩ : Addr).add j) = some u) := hide (news_one _ _)
                    have HNEW2 : Hid (∀ (w2 : World) (j : Nat) u, [iv (0 : Int)][j]? = some u → (w2.alloc (.cells #[iv (0 : Int)] 3)).cell? ((⟨w2.heap.size, 0, none⟩ : Addr).add j) = some u) := hide (fun w2 => news_one _ _)
                    have HOW1 : Hid ((wo.alloc (.cells #[iv (0 : Int)] 3)).ownsRow w.heap.size 3 1 sv L (rs.map fun r : Int × Nat => iv r.1)) := hide (by rw [unhide HL]; exact (unhide hat).own1.alloc _)
                    have hsz := (unhide hat).bel.size
                    clear hcnt
                    go_wp2_with (at_builtin; first | (refine wpList_append_lies _ rfl (.tmp 82) (.tmp 84) 28 rfl w.heap.size 3 i0 (.int .i64 0) 1 8 Try.underlying28 hi hz0 hz1 hz2 rfl (by decide) sv L (rs.map fun r : Int × Nat => iv r.1) (by rfl) (unhide HOW1) ⟨wo.heap.size, 0, none⟩ 1 1 [iv (0 : Int)] (by rfl) rfl (unhide HNEW1) (by intro u hu; simp at hu; subst hu; rfl) (by decide) (by unfold maxLen; omega) (by omega) (by simp; omega) (wo.heap.size + 1) (by simp) ?_; intro g1 c1 w2 hown1 hgrow1 hat1 hglt1; have HO1 := hide hown1; have HG1 := hide hgrow1; have HA1 := hide hat1; have hb2 : w.heap.size ≤ w2.heap.size := (by have := hgrow1.size; simp at this; omega); have HOW2 : Hid ((w2.alloc (.cells #[iv (0 : Int)] 3)).ownsRow w.heap.size 3 1 mv L (rs.map fun r : Int × Nat => iv (r.2 : Int))) := hide ((own_keep (by rw [unhide HL]; exact (unhide hat).own2) (fun b e => by (have hlt := (unhide hat).own2.lt b e; rw [hgrow1.block b (by simp; omega) (fun e' => (unhide hat).ne b e'.symm e), Below.heap_alloc _ _ _ hlt.2]))).alloc _); clear hown1 hgrow1 hat1 hglt1) | (refine wpList_append_lies _ rfl (.tmp 86) (.tmp 88) 28 rfl w.heap.size 3 i0 (.int .i64 0) 1 8 Try.underlying28 hi hz0 hz1 hz2 rfl (by decide) mv L (rs.map fun r : Int × Nat => iv (r.2 : Int)) (by rfl) (unhide HOW2) ⟨w2.heap.size, 0, none⟩ 1 1 [iv (0 : Int)] (by rfl) rfl (unhide HNEW2 w2) (by intro u hu; simp at hu; subst hu; rfl) (by decide) (by unfold maxLen; omega) (by omega) (by simp; omega) (w2.heap.size + 1) (by simp) ?_; intro g2 c2 w4 hown2 hgrow2 hat2 hglt2; have HN := hide ((unhide hat).next (by rw [← unhide HNN]; exact haN) (unhide HSTEP) rfl (by rw [← unhide HL]; exact unhide HO1) (unhide HG1) (unhide HA1) rfl (by rw [← unhide HL, hye]; exact hown2) hgrow2 hat2); clear hown2 hgrow2 hat2 hglt2))
                    rw [← unhide HL] at HN
                    go_roundg (N - (a + 1))
                    case measure => omega
                    case rel => exact ⟨a + 1, rs ++ [((0 : Int), 0)], L + 1, _, _, rfl, by first | omega | (have := unhide HLE; omega), rfl, rfl, by go_num, hide (by rw [List.length_append, ← unhide HL]; rfl), HN⟩
            · by_cases hp : 0 < V
              · by_cases ha0 : a = 0
                · have t1 : ¬ V = 0 := by omega
                  have t2 : (V == 0) = false := by simp; omega
                  have p1 : (0 : Int) < V := by omega
                  have p2 : decide ((0 : Int) < V) = true := by simp; omega
                  have p3 : ¬ (0 : Int) < (a : Int) := by omega
                  have p4 : decide ((0 : Int) < (a : Int)) = false := by simp; omega
                  clear ha0
                  have HSTEP : Hid (stepR l a = (V, 0, 1)) := hide (by unfold stepR; rw [← unhide HV]; rw [hcnt, if_neg (by omega), if_neg (by omega), if_neg (by omega)])
                  have hye : ((0 : Nat) : Int) = (0 : Int) := by omega
                  have HNEW1 : Hid (∀ (j : Nat) u, [iv V][j]? = some u → (wo.alloc (.cells #[iv V] 3)).cell? ((⟨wo.heap.size, 0, none⟩ : Addr).add j) = some u) := hide (news_one _ _)
                  have HNEW2 : Hid (∀ (w2 : World) (j : Nat) u, [iv (0 : Int)][j]? = some u → (w2.alloc (.cells #[iv (0 : Int)] 3)).cell? ((⟨w2.heap.size, 0, none⟩ : Addr).add j) = some u) := hide (fun w2 => news_one _ _)
                  have HOW1 : Hid ((wo.alloc (.cells #[iv V] 3)).ownsRow w.heap.size 3 1 sv L (rs.map fun r : Int × Nat => iv r.1)) := hide (by rw [unhide HL]; exact (unhide hat).own1.alloc _)
                  have hsz := (unhide hat).bel.size
                  clear hcnt
                  go_wp2_with (at_builtin; first | (refine wpList_append_lies _ rfl (.tmp 82) (.tmp 84) 28 rfl w.heap.size 3 i0 (.int .i64 0) 1 8 Try.underlying28 hi hz0 hz1 hz2 rfl (by decide) sv L (rs.map fun r : Int × Nat => iv r.1) (by rfl) (unhide HOW1) ⟨wo.heap.size, 0, none⟩ 1 1 [iv V] (by rfl) rfl (unhide HNEW1) (by intro u hu; simp at hu; subst hu; rfl) (by decide) (by unfold maxLen; omega) (by omega) (by simp; omega) (wo.heap.size + 1) (by simp) ?_; intro g1 c1 w2 hown1 hgrow1 hat1 hglt1; have HO1 := hide hown1; have HG1 := hide hgrow1; have HA1 := hide hat1; have hb2 : w.heap.size ≤ w2.heap.size := (by have := hgrow1.size; simp at this; omega); have HOW2 : Hid ((w2.alloc (.cells #[iv (0 : Int)] 3)).ownsRow w.heap.size 3 1 mv L (rs.map fun r : Int × Nat => iv (r.2 : Int))) := hide ((own_keep (by rw [unhide HL]; exact (unhide hat).own2) (fun b e => by (have hlt := (unhide hat).own2.lt b e; rw [hgrow1.block b (by simp; omega) (fun e' => (unhide hat).ne b e'.symm e), Below.heap_alloc _ _ _ hlt.2]))).alloc _); clear hown1 hgrow1 hat1 hglt1) | (refine wpList_append_lies _ rfl (.tmp 86) (.tmp 88) 28 rfl w.heap.size 3 i0 (.int .i64 0) 1 8 Try.underlying28 hi hz0 hz1 hz2 rfl (by decide) mv L (rs.map fun r : Int × Nat => iv (r.2 : Int)) (by rfl) (unhide HOW2) ⟨w2.heap.size, 0, none⟩ 1 1 [iv (0 : Int)] (by rfl) rfl (unhide HNEW2 w2) (by intro u hu; simp at hu; subst hu; rfl) (by decide) (by unfold maxLen; omega) (by omega) (by simp; omega) (w2.heap.size + 1) (by simp) ?_; intro g2 c2 w4 hown2 hgrow2 hat2 hglt2; have HN := hide ((unhide hat).next (by rw [← unhide HNN]; exact haN) (unhide HSTEP) rfl (by rw [← unhide HL]; exact unhide HO1) (unhide HG1) (unhide HA1) rfl (by rw [← unhide HL, hye]; exact hown2) hgrow2 hat2); clear hown2 hgrow2 hat2 hglt2))
                  rw [← unhide HL] at HN
                  go_roundg (N - (a + 1))
                  case measure => omega
                  case rel => exact ⟨a + 1, rs ++ [(V, 0)], L + 1, _, _, rfl, by first | omega | (have := unhide HLE; omega), rfl, rfl, by go_num, hide (by rw [List.length_append, ← unhide HL]; rfl), HN⟩
                · by_cases hpv : ¬ l.getD (a - 1) 0 = V
                  · have t1 : ¬ V = 0 := by omega
                    have t2 : (V == 0) = false := by simp; omega
                    have p1 : (0 : Int) < V := by omega
                    have p2 : decide ((0 : Int) < V) = true := by simp; omega
                    have p3 : (0 : Int) < (a : Int) := by omega
                    have p4 : decide ((0 : Int) < (a : Int)) = true := by simp; omega
                    have kp := unhide HC (a - 1) (by omega)
                    have p5 : (l.getD (a - 1) 0 == V) = false := by simpa using hpv
                    have hpv' := hpv
                    generalize l.getD (a - 1) 0 = pv at kp p5 hpv
                    have HSTEP : Hid (stepR l a = (V, 0, 1)) := hide (by unfold stepR; rw [← unhide HV]; rw [hcnt, if_neg (by omega), if_neg (by omega), if_neg (fun c => hpv' c.2.2.1)])
                    have hye : ((0 : Nat) : Int) = (0 : Int) := by omega
                    have HNEW1 : Hid (∀ (j : Nat) u, [iv V][j]? = some u → (wo.alloc (.cells #[iv V] 3)).cell? ((⟨wo.heap.size, 0, none⟩ : Addr).add j) = some u) := hide (news_one _ _)
                    have HNEW2 : Hid (∀ (w2 : World) (j : Nat) u, [iv (0 : Int)][j]? = some u → (w2.alloc (.cells #[iv (0 : Int)] 3)).cell? ((⟨w2.heap.size, 0, none⟩ : Addr).add j) = some u) := hide (fun w2 => news_one _ _)
                    have HOW1 : Hid ((wo.alloc (.cells #[iv V] 3)).ownsRow w.heap.size 3 1 sv L (rs.map fun r : Int × Nat => iv r.1)) := hide (by rw [unhide HL]; exact (unhide hat).own1.alloc _)
                    have hsz := (unhide hat).bel.size
                    clear hcnt
                    go_wp2_with (at_builtin; first | (refine wpList_append_lies _ rfl (.tmp 82) (.tmp 84) 28 rfl w.heap.size 3 i0 (.int .i64 0) 1 8 Try.underlying28 hi hz0 hz1 hz2 rfl (by decide) sv L (rs.map fun r : Int × Nat => iv r.1) (by rfl) (unhide HOW1) ⟨wo.heap.size, 0, none⟩ 1 1 [iv V] (by rfl) rfl (unhide HNEW1) (by intro u hu; simp at hu; subst hu; rfl) (by decide) (by unfold maxLen; omega) (by omega) (by simp; omega) (wo.heap.size + 1) (by simp) ?_; intro g1 c1 w2 hown1 hgrow1 hat1 hglt1; have HO1 := hide hown1; have HG1 := hide hgrow1; have HA1 := hide hat1; have hb2 : w.heap.size ≤ w2.heap.size := (by have := hgrow1.size; simp at this; omega); have HOW2 : Hid ((w2.alloc (.cells #[iv (0 : Int)] 3)).ownsRow w.heap.size 3 1 mv L (rs.map fun r : Int × Nat => iv (r.2 : Int))) := hide ((own_keep (by rw [unhide HL]; exact (unhide hat).own2) (fun b e => by (have hlt := (unhide hat).own2.lt b e; rw [hgrow1.block b (by simp; omega) (fun e' => (unhide hat).ne b e'.symm e), Below.heap_alloc _ _ _ hlt.2]))).alloc _); clear hown1 hgrow1 hat1 hglt1) | (refine wpList_append_lies _ rfl (.tmp 86) (.tmp 88) 28 rfl w.heap.size 3 i0 (.int .i64 0) 1 8 Try.underlying28 hi hz0 hz1 hz2 rfl (by decide) mv L (rs.map fun r : Int × Nat => iv (r.2 : Int)) (by rfl) (unhide HOW2) ⟨w2.heap.size, 0, none⟩ 1 1 [iv (0 : Int)] (by rfl) rfl (unhide HNEW2 w2) (by intro u hu; simp at hu; subst hu; rfl) (by decide) (by unfold maxLen; omega) (by omega) (by simp; omega) (w2.heap.size + 1) (by simp) ?_; intro g2 c2 w4 hown2 hgrow2 hat2 hglt2; have HN := hide ((unhide hat).next (by rw [← unhide HNN]; exact haN) (unhide HSTEP) rfl (by rw [← unhide HL]; exact unhide HO1) (unhide HG1) (unhide HA1) rfl (by rw [← unhide HL, hye]; exact hown2) hgrow2 hat2); clear hown2 hgrow2 hat2 hglt2))
                    rw [← unhide HL] at HN
                    go_roundg (N - (a + 1))
                    case measure => omega
                    case rel => exact ⟨a + 1, rs ++ [(V, 0)], L + 1, _, _, rfl, by first | omega | (have := unhide HLE; omega), rfl, rfl, by go_num, hide (by rw [List.length_append, ← unhide HL]; rfl), HN⟩
                  · by_cases h6 : 6 < n
                    · have t1 : ¬ V = 0 := by omega
                      have t2 : (V == 0) = false := by simp; omega
                      have p1 : (0 : Int) < V := by omega
                      have p2 : decide ((0 : Int) < V) = true := by simp; omega
                      have p3 : (0 : Int) < (a : Int) := by omega
                      have p4 : decide ((0 : Int) < (a : Int)) = true := by simp; omega
                      have kp := unhide HC (a - 1) (by omega)
                      have hpe : l.getD (a - 1) 0 = V := Classical.byContradiction fun c => hpv c
                      rw [hpe] at kp
                      clear hpv
                      have p6 : (3 : Int) ≤ (n : Int) := by omega
                      have p7 : decide ((3 : Int) ≤ (n : Int)) = true := by simp; omega
                      have p8 : (6 : Int) < (n : Int) := by omega
                      have HSTEP : Hid (stepR l a = ((16 : Int), 3, 6)) := hide (by unfold stepR; rw [← unhide HV]; rw [hcnt, if_neg (by omega), if_neg (by omega), if_pos ⟨by omega, by omega, hpe, by omega⟩, show min n 6 = 6 from by omega])
                      have hye : ((3 : Nat) : Int) = (3 : Int) := by omega
                      have HNEW1 : Hid (∀ (j : Nat) u, [iv (16 : Int)][j]? = some u → (wo.alloc (.cells #[iv (16 : Int)] 3)).cell? ((⟨wo.heap.size, 0, none⟩ : Addr).add j) = some u) := hide (news_one _ _)
                      have HNEW2 : Hid (∀ (w2 : World) (j : Nat) u, [iv (3 : Int)][j]? = some u → (w2.alloc (.cells #[iv (3 : Int)] 3)).cell? ((⟨w2.heap.size, 0, none⟩ : Addr).add j) = some u) := hide (fun w2 => news_one _ _)
                      have HOW1 : Hid ((wo.alloc (.cells #[iv (16 : Int)] 3)).ownsRow w.heap.size 3 1 sv L (rs.map fun r : Int × Nat => iv r.1)) := hide (by rw [unhide HL]; exact (unhide hat).own1.alloc _)
                      have hsz := (unhide hat).bel.size
                      clear hcnt
                      go_wp2_with (at_builtin; first | (refine wpList_append_lies _ rfl (.tmp 82) (.tmp 84) 28 rfl w.heap.size 3 i0 (.int .i64 0) 1 8 Try.underlying28 hi hz0 hz1 hz2 rfl (by decide) sv L (rs.map fun r : Int × Nat => iv r.1) (by rfl) (unhide HOW1) ⟨wo.heap.size, 0, none⟩ 1 1 [iv (16 : Int)] (by rfl) rfl (unhide HNEW1) (by intro u hu; simp at hu; subst hu; rfl) (by decide) (by unfold maxLen; omega) (by omega) (by simp; omega) (wo.heap.size + 1) (by simp) ?_; intro g1 c1 w2 hown1 hgrow1 hat1 hglt1; have HO1 := hide hown1; have HG1 := hide hgrow1; have HA1 := hide hat1; have hb2 : w.heap.size ≤ w2.heap.size := (by have := hgrow1.size; simp at this; omega); have HOW2 : Hid ((w2.alloc (.cells #[iv (3 : Int)] 3)).ownsRow w.heap.size 3 1 mv L (rs.map fun r : Int × Nat => iv (r.2 : Int))) := hide ((own_keep (by rw [unhide HL]; exact (unhide hat).own2) (fun b e => by (have hlt := (unhide hat).own2.lt b e; rw [hgrow1.block b (by simp; omega) (fun e' => (unhide hat).ne b e'.symm e), Below.heap_alloc _ _ _ hlt.2]))).alloc _); clear hown1 hgrow1 hat1 hglt1) | (refine wpList_append_lies _ rfl (.tmp 86) (.tmp 88) 28 rfl w.heap.size 3 i0 (.int .i64 0) 1 8 Try.underlying28 hi hz0 hz1 hz2 rfl (by decide) mv L (rs.map fun r : Int × Nat => iv (r.2 : Int)) (by rfl) (unhide HOW2) ⟨w2.heap.size, 0, none⟩ 1 1 [iv (3 : Int)] (by rfl) rfl (unhide HNEW2 w2) (by intro u hu; simp at hu; subst hu; rfl) (by decide) (by unfold maxLen; omega) (by omega) (by simp; omega) (w2.heap.size + 1) (by simp) ?_; intro g2 c2 w4 hown2 hgrow2 hat2 hglt2; have HN := hide ((unhide hat).next (by rw [← unhide HNN]; exact haN) (unhide HSTEP) rfl (by rw [← unhide HL]; exact unhide HO1) (unhide HG1) (unhide HA1) rfl (by rw [← unhide HL, hye]; exact hown2) hgrow2 hat2); clear hown2 hgrow2 hat2 hglt2))
                      rw [← unhide HL] at HN
                      go_roundg (N - (a + 6))
                      case measure => omega
                      case rel => exact ⟨a + 6, rs ++ [((16 : Int), 3)], L + 1, _, _, rfl, by first | omega | (have := unhide HLE; omega), rfl, rfl, by go_num, hide (by rw [List.length_append, ← unhide HL]; rfl), HN⟩
                    · by_cases h3 : 3 ≤ n
                      · have t1 : ¬ V = 0 := by omega
                        have t2 : (V == 0) = false := by simp; omega
                        have p1 : (0 : Int) < V := by omega
                        have p2 : decide ((0 : Int) < V) = true := by simp; omega
                        have p3 : (0 : Int) < (a : Int) := by omega
                        have p4 : decide ((0 : Int) < (a : Int)) = true := by simp; omega
                        have kp := unhide HC (a - 1) (by omega)
                        have hpe : l.getD (a - 1) 0 = V := Classical.byContradiction fun c => hpv c
                        rw [hpe] at kp
                        clear hpv
                        have p6 : (3 : Int) ≤ (n : Int) := by omega
                        have p7 : decide ((3 : Int) ≤ (n : Int)) = true := by simp; omega
                        have p8 : ¬ (6 : Int) < (n : Int) := by omega
                        have HSTEP : Hid (stepR l a = ((16 : Int), (n - 3), n)) := hide (by unfold stepR; rw [← unhide HV]; rw [hcnt, if_neg (by omega), if_neg (by omega), if_pos ⟨by omega, by omega, hpe, by omega⟩, show min n 6 = n from by omega])
                        have hye : (((n - 3) : Nat) : Int) = ((n : Int) - 3) := by omega
                        have HNEW1 : Hid (∀ (j : Nat) u, [iv (16 : Int)][j]? = some u → (wo.alloc (.cells #[iv (16 : Int)] 3)).cell? ((⟨wo.heap.size, 0, none⟩ : Addr).add j) = some u) := hide (news_one _ _)
                        have HNEW2 : Hid (∀ (w2 : World) (j : Nat) u, [iv ((n : Int) - 3)][j]? = some u → (w2.alloc (.cells #[iv ((n : Int) - 3)] 3)).cell? ((⟨w2.heap.size, 0, none⟩ : Addr).add j) = some u) := hide (fun w2 => news_one _ _)
                        have HOW1 : Hid ((wo.alloc (.cells #[iv (16 : Int)] 3)).ownsRow w.heap.size 3 1 sv L (rs.map fun r : Int × Nat => iv r.1)) := hide (by rw [unhide HL]; exact (unhide hat).own1.alloc _)
                        have hsz := (unhide hat).bel.size
                        clear hcnt
                        go_wp2_with (at_builtin; first | (refine wpList_append_lies _ rfl (.tmp 82) (.tmp 84) 28 rfl w.heap.size 3 i0 (.int .i64 0) 1 8 Try.underlying28 hi hz0 hz1 hz2 rfl (by decide) sv L (rs.map fun r : Int × Nat => iv r.1) (by rfl) (unhide HOW1) ⟨wo.heap.size, 0, none⟩ 1 1 [iv (16 : Int)] (by rfl) rfl (unhide HNEW1) (by intro u hu; simp at hu; subst hu; rfl) (by decide) (by unfold maxLen; omega) (by omega) (by simp; omega) (wo.heap.size + 1) (by simp) ?_; intro g1 c1 w2 hown1 hgrow1 hat1 hglt1; have HO1 := hide hown1; have HG1 := hide hgrow1; have HA1 := hide hat1; have hb2 : w.heap.size ≤ w2.heap.size := (by have := hgrow1.size; simp at this; omega); have HOW2 : Hid ((w2.alloc (.cells #[iv ((n : Int) - 3)] 3)).ownsRow w.heap.size 3 1 mv L (rs.map fun r : Int × Nat => iv (r.2 : Int))) := hide ((own_keep (by rw [unhide HL]; exact (unhide hat).own2) (fun b e => by (have hlt := (unhide hat).own2.lt b e; rw [hgrow1.block b (by simp; omega) (fun e' => (unhide hat).ne b e'.symm e), Below.heap_alloc _ _ _ hlt.2]))).alloc _); clear hown1 hgrow1 hat1 hglt1) | (refine wpList_append_lies _ rfl (.tmp 86) (.tmp 88) 28 rfl w.heap.size 3 i0 (.int .i64 0) 1 8 Try.underlying28 hi hz0 hz1 hz2 rfl (by decide) mv L (rs.map fun r : Int × Nat => iv (r.2 : Int)) (by rfl) (unhide HOW2) ⟨w2.heap.size, 0, none⟩ 1 1 [iv ((n : Int) - 3)] (by rfl) rfl (unhide HNEW2 w2) (by intro u hu; simp at hu; subst hu; rfl) (by decide) (by unfold maxLen; omega) (by omega) (by simp; omega) (w2.heap.size + 1) (by simp) ?_; intro g2 c2 w4 hown2 hgrow2 hat2 hglt2; have HN := hide ((unhide hat).next (by rw [← unhide HNN]; exact haN) (unhide HSTEP) rfl (by rw [← unhide HL]; exact unhide HO1) (unhide HG1) (unhide HA1) rfl (by rw [← unhide HL, hye]; exact hown2) hgrow2 hat2); clear hown2 hgrow2 hat2 hglt2))
                        rw [← unhide HL] at HN
                        go_roundg (N - (a + n))
                        case measure => omega
                        case rel => exact ⟨a + n, rs ++ [((16 : Int), (n - 3))], L + 1, _, _, rfl, by first | omega | (have := unhide HLE; omega), rfl, rfl, by go_num, hide (by rw [List.length_append, ← unhide HL]; rfl), HN⟩
                      · have t1 : ¬ V = 0 := by omega
                        have t2 : (V == 0) = false := by simp; omega
                        have p1 : (0 : Int) < V := by omega
                        have p2 : decide ((0 : Int) < V) = true := by simp; omega
                        have p3 : (0 : Int) < (a : Int) := by omega
                        have p4 : decide ((0 : Int) < (a : Int)) = true := by simp; omega
                        have kp := unhide HC (a - 1) (by omega)
                        have hpe : l.getD (a - 1) 0 = V := Classical.byContradiction fun c => hpv c
                        rw [hpe] at kp
                        clear hpv
                        have p6 : ¬ (3 : Int) ≤ (n : Int) := by omega
                        have p7 : decide ((3 : Int) ≤ (n : Int)) = false := by simp; omega
                        have HSTEP : Hid (stepR l a = (V, 0, 1)) := hide (by unfold stepR; rw [← unhide HV]; rw [hcnt, if_neg (by omega), if_neg (by omega), if_neg (by omega)])
                        have hye : ((0 : Nat) : Int) = (0 : Int) := by omega
                        have HNEW1 : Hid (∀ (j : Nat) u, [iv V][j]? = some u → (wo.alloc (.cells #[iv V] 3)).cell? ((⟨wo.heap.size, 0, none⟩ : Addr).add j) = some u) := hide (news_one _ _)
                        have HNEW2 : Hid (∀ (w2 : World) (j : Nat) u, [iv (0 : Int)][j]? = some u → (w2.alloc (.cells #[iv (0 : Int)] 3)).cell? ((⟨w2.heap.size, 0, none⟩ : Addr).add j) = some u) := hide (fun w2 => news_one _ _)
                        have HOW1 : Hid ((wo.alloc (.cells #[iv V] 3)).ownsRow w.heap.size 3 1 sv L (rs.map fun r : Int × Nat => iv r.1)) := hide (by rw [unhide HL]; exact (unhide hat).own1.alloc _)
                        have hsz := (unhide hat).bel.size
                        clear hcnt
                        go_wp2_with (at_builtin; first | (refine wpList_append_lies _ rfl (.tmp 82) (.tmp 84) 28 rfl w.heap.size 3 i0 (.int .i64 0) 1 8 Try.underlying28 hi hz0 hz1 hz2 rfl (by decide) sv L (rs.map fun r : Int × Nat => iv r.1) (by rfl) (unhide HOW1) ⟨wo.heap.size, 0, none⟩ 1 1 [iv V] (by rfl) rfl (unhide HNEW1) (by intro u hu; simp at hu; subst hu; rfl) (by decide) (by unfold maxLen; omega) (by omega) (by simp; omega) (wo.heap.size + 1) (by simp) ?_; intro g1 c1 w2 hown1 hgrow1 hat1 hglt1; have HO1 := hide hown1; have HG1 := hide hgrow1; have HA1 := hide hat1; have hb2 : w.heap.size ≤ w2.heap.size := (by have := hgrow1.size; simp at this; omega); have HOW2 : Hid ((w2.alloc (.cells #[iv (0 : Int)] 3)).ownsRow w.heap.size 3 1 mv L (rs.map fun r : Int × Nat => iv (r.2 : Int))) := hide ((own_keep (by rw [unhide HL]; exact (unhide hat).own2) (fun b e => by (have hlt := (unhide hat).own2.lt b e; rw [hgrow1.block b (by simp; omega) (fun e' => (unhide hat).ne b e'.symm e), Below.heap_alloc _ _ _ hlt.2]))).alloc _); clear hown1 hgrow1 hat1 hglt1) | (refine wpList_append_lies _ rfl (.tmp 86) (.tmp 88) 28 rfl w.heap.size 3 i0 (.int .i64 0) 1 8 Try.underlying28 hi hz0 hz1 hz2 rfl (by decide) mv L (rs.map fun r : Int × Nat => iv (r.2 : Int)) (by rfl) (unhide HOW2) ⟨w2.heap.size, 0, none⟩ 1 1 [iv (0 : Int)] (by rfl) rfl (unhide HNEW2 w2) (by intro u hu; simp at hu; subst hu; rfl) (by decide) (by unfold maxLen; omega) (by omega) (by simp; omega) (w2.heap.size + 1) (by simp) ?_; intro g2 c2 w4 hown2 hgrow2 hat2 hglt2; have HN := hide ((unhide hat).next (by rw [← unhide HNN]; exact haN) (unhide HSTEP) rfl (by rw [← unhide HL]; exact unhide HO1) (unhide HG1) (unhide HA1) rfl (by rw [← unhide HL, hye]; exact hown2) hgrow2 hat2); clear hown2 hgrow2 hat2 hglt2))
                        rw [← unhide HL] at HN
                        go_roundg (N - (a + 1))
                        case measure => omega
                        case rel => exact ⟨a + 1, rs ++ [(V, 0)], L + 1, _, _, rfl, by first | omega | (have := unhide HLE; omega), rfl, rfl, by go_num, hide (by rw [List.length_append, ← unhide HL]; rfl), HN⟩
              · have t1 : ¬ V = 0 := by omega
                have t2 : (V == 0) = false := by simp; omega
                have p1 : ¬ (0 : Int) < V := by omega
                have p2 : decide ((0 : Int) < V) = false := by simp; omega
                have HSTEP : Hid (stepR l a = (V, 0, 1)) := hide (by unfold stepR; rw [← unhide HV]; rw [hcnt, if_neg (by omega), if_neg (by omega), if_neg (by omega)])
                have hye : ((0 : Nat) : Int) = (0 : Int) := by omega
                have HNEW1 : Hid (∀ (j : Nat) u, [iv V][j]? = some u → (wo.alloc (.cells #[iv V] 3)).cell? ((⟨wo.heap.size, 0, none⟩ : Addr).add j) = some u) := hide (news_one _ _)
                have HNEW2 : Hid (∀ (w2 : World) (j : Nat) u, [iv (0 : Int)][j]? = some u → (w2.alloc (.cells #[iv (0 : Int)] 3)).cell? ((⟨w2.heap.size, 0, none⟩ : Addr).add j) = some u) := hide (fun w2 => news_one _ _)
                have HOW1 : Hid ((wo.alloc (.cells #[iv V] 3)).ownsRow w.heap.size 3 1 sv L (rs.map fun r : Int × Nat => iv r.1)) := hide (by rw [unhide HL]; exact (unhide hat).own1.alloc _)
                have hsz := (unhide hat).bel.size
                clear hcnt
                go_wp2_with (at_builtin; first | (refine wpList_append_lies _ rfl (.tmp 82) (.tmp 84) 28 rfl w.heap.size 3 i0 (.int .i64 0) 1 8 Try.underlying28 hi hz0 hz1 hz2 rfl (by decide) sv L (rs.map fun r : Int × Nat => iv r.1) (by rfl) (unhide HOW1) ⟨wo.heap.size, 0, none⟩ 1 1 [iv V] (by rfl) rfl (unhide HNEW1) (by intro u hu; simp at hu; subst hu; rfl) (by decide) (by unfold maxLen; omega) (by omega) (by simp; omega) (wo.heap.size + 1) (by simp) ?_; intro g1 c1 w2 hown1 hgrow1 hat1 hglt1; have HO1 := hide hown1; have HG1 := hide hgrow1; have HA1 := hide hat1; have hb2 : w.heap.size ≤ w2.heap.size := (by have := hgrow1.size; simp at this; omega); have HOW2 : Hid ((w2.alloc (.cells #[iv (0 : Int)] 3)).ownsRow w.heap.size 3 1 mv L (rs.map fun r : Int × Nat => iv (r.2 : Int))) := hide ((own_keep (by rw [unhide HL]; exact (unhide hat).own2) (fun b e => by (have hlt := (unhide hat).own2.lt b e; rw [hgrow1.block b (by simp; omega) (fun e' => (unhide hat).ne b e'.symm e), Below.heap_alloc _ _ _ hlt.2]))).alloc _); clear hown1 hgrow1 hat1 hglt1) | (refine wpList_append_lies _ rfl (.tmp 86) (.tmp 88) 28 rfl w.heap.size 3 i0 (.int .i64 0) 1 8 Try.underlying28 hi hz0 hz1 hz2 rfl (by decide) mv L (rs.map fun r : Int × Nat => iv (r.2 : Int)) (by rfl) (unhide HOW2) ⟨w2.heap.size, 0, none⟩ 1 1 [iv (0 : Int)] (by rfl) rfl (unhide HNEW2 w2) (by intro u hu; simp at hu; subst hu; rfl) (by decide) (by unfold maxLen; omega) (by omega) (by simp; omega) (w2.heap.size + 1) (by simp) ?_; intro g2 c2 w4 hown2 hgrow2 hat2 hglt2; have HN := hide ((unhide hat).next (by rw [← unhide HNN]; exact haN) (unhide HSTEP) rfl (by rw [← unhide HL]; exact unhide HO1) (unhide HG1) (unhide HA1) rfl (by rw [← unhide HL, hye]; exact hown2) hgrow2 hat2); clear hown2 hgrow2 hat2 hglt2))
                rw [← unhide HL] at HN
                go_roundg (N - (a + 1))
                case measure => omega
                case rel => exact ⟨a + 1, rs ++ [(V, 0)], L + 1, _, _, rfl, by first | omega | (have := unhide HLE; omega), rfl, rfl, by go_num, hide (by rw [List.length_append, ← unhide HL]; rfl), HN⟩
        · have hcnt := (unhide HCN).fin (by rw [← unhide HNN]; omega)
          have hn1 : 1 ≤ n := by have := cnt_pos l a (by rw [← unhide HNN]; exact haN); rw [← unhide HV, hcnt] at this; exact this
          have tlt : ¬ (a : Int) + (n : Int) < (N : Int) := by omega
          have tltb : decide ((a : Int) + (n : Int) < (N : Int)) = false := by simp; omega
          by_cases hv : V = 0
          · subst hv
            have hv : (0 : Int) = 0 := rfl
            by_cases h138 : 138 < n
            · have t1 : (11 : Int) ≤ (n : Int) := by omega
              have t2 : decide ((11 : Int) ≤ (n : Int)) = true := by simp; omega
              have t3 : (138 : Int) < (n : Int) := by omega
              have HSTEP : Hid (stepR l a = ((18 : Int), 127, 138)) := hide (by unfold stepR; rw [← unhide HV]; rw [hcnt, if_pos ⟨hv, by omega⟩, show min n 138 = 138 from by omega])
              have hye : ((127 : Nat) : Int) = (127 : Int) := by omega
              have HNEW1 : Hid (∀ (j : Nat) u, [iv (18 : Int)][j]? = some u → (wo.alloc (.cells #[iv (18 : Int)] 3)).cell? ((⟨wo.heap.size, 0, none⟩ : Addr).add j) = some u) := hide (news_one _ _)
              have HNEW2 : Hid (∀ (w2 : World) (j : Nat) u, [iv (127 : Int)][j]? = some u → (w2.alloc (.cells #[iv (127 : Int)] 3)).cell? ((⟨w2.heap.size, 0, none⟩ : Addr).add j) = some u) := hide (fun w2 => news_one _ _)
              have HOW1 : Hid ((wo.alloc (.cells #[iv (18 : Int)] 3)).ownsRow w.heap.size 3 1 sv L (rs.map fun r : Int × Nat => iv r.1)) := hide (by rw [unhide HL]; exact (unhide hat).own1.alloc _)
              have hsz := (unhide hat).bel.size
              clear hcnt
              go_wp2_with (at_builtin; first | (refine wpList_append_lies _ rfl (.tmp 82) (.tmp 84) 28 rfl w.heap.size 3 i0 (.int .i64 0) 1 8 Try.underlying28 hi hz0 hz1 hz2 rfl (by decide) sv L (rs.map fun r : Int × Nat => iv r.1) (by rfl) (unhide HOW1) ⟨wo.heap.size, 0, none⟩ 1 1 [iv (18 : Int)] (by rfl) rfl (unhide HNEW1) (by intro u hu; simp at hu; subst hu; rfl) (by decide) (by unfold maxLen; omega) (by omega) (by simp; omega) (wo.heap.size + 1) (by simp) ?_; intro g1 c1 w2 hown1 hgrow1 hat1 hglt1; have HO1 := hide hown1; have HG1 := hide hgrow1; have HA1 := hide hat1; have hb2 : w.heap.size ≤ w2.heap.size := (by have := hgrow1.size; simp at this; omega); have HOW2 : Hid ((w2.alloc (.cells #[iv (127 : Int)] 3)).ownsRow w.heap.size 3 1 mv L (rs.map fun r : Int × Nat => iv (r.2 : Int))) := hide ((own_keep (by rw [unhide HL]; exact (unhide hat).own2) (fun b e => by (have hlt := (unhide hat).own2.lt b e; rw [hgrow1.block b (by simp; omega) (fun e' => (unhide hat).ne b e'.symm e), Below.heap_alloc _ _ _ hlt.2]))).alloc _); clear hown1 hgrow1 hat1 hglt1) | (refine wpList_append_lies _ rfl (.tmp 86) (.tmp 88) 28 rfl w.heap.size 3 i0 (.int .i64 0) 1 8 Try.underlying28 hi hz0 hz1 hz2 rfl (by decide) mv L (rs.map fun r : Int × Nat => iv (r.2 : Int)) (by rfl) (unhide HOW2) ⟨w2.heap.size, 0, none⟩ 1 1 [iv (127 : Int)] (by rfl) rfl (unhide HNEW2 w2) (by intro u hu; simp at hu; subst hu; rfl) (by decide) (by unfold maxLen; omega) (by omega) (by simp; omega) (w2.heap.size + 1) (by simp) ?_; intro g2 c2 w4 hown2 hgrow2 hat2 hglt2; have HN := hide ((unhide hat).next (by rw [← unhide HNN]; exact haN) (unhide HSTEP) rfl (by rw [← unhide HL]; exact unhide HO1) (unhide HG1) (unhide HA1) rfl (by rw [← unhide HL, hye]; exact hown2) hgrow2 hat2); clear hown2 hgrow2 hat2 hglt2))
              rw [← unhide HL] at HN
              go_roundg (N - (a + 138))
              case measure => omega
              case rel => exact ⟨a + 138, rs ++ [((18 : Int), 127)], L + 1, _, _, rfl, by first | omega | (have := unhide HLE; omega), rfl, rfl, by go_num, hide (by rw [List.length_append, ← unhide HL]; rfl), HN⟩
            · by_cases h11 : 11 ≤ n
              · have t1 : (11 : Int) ≤ (n : Int) := by omega
                have t2 : decide ((11 : Int) ≤ (n : Int)) = true := by simp; omega
                have t3 : ¬ (138 : Int) < (n : Int) := by omega
                have HSTEP : Hid (stepR l a = ((18 : Int), (n - 11), n)) := hide (by unfold stepR; rw [← unhide HV]; rw [hcnt, if_pos ⟨hv, by omega⟩, show min n 138 = n from by omega])
                have hye : (((n - 11) : Nat) : Int) = ((n : Int) - 11) := by omega
                have HNEW1 : Hid (∀ (j : Nat) u, [iv (18 : Int)][j]? = some u → (wo.alloc (.cells #[iv (18 : Int)] 3)).cell? ((⟨wo.heap.size, 0, none⟩ : Addr).add j) = some u) := hide (news_one _ _)
                have HNEW2 : Hid (∀ (w2 : World) (j : Nat) u, [iv ((n : Int) - 11)][j]? = some u → (w2.alloc (.cells #[iv ((n : Int) - 11)] 3)).cell? ((⟨w2.heap.size, 0, none⟩ : Addr).add j) = some u) := hide (fun w2 => news_one _ _)
                have HOW1 : Hid ((wo.alloc (.cells #[iv (18 : Int)] 3)).ownsRow w.heap.size 3 1 sv L (rs.map fun r : Int × Nat => iv r.1)) := hide (by rw [unhide HL]; exact (unhide hat).own1.alloc _)
                have hsz := (unhide hat).bel.size
                clear hcnt
                go_wp2_with (at_builtin; first | (refine wpList_append_lies _ rfl (.tmp 82) (.tmp 84) 28 rfl w.heap.size 3 i0 (.int .i64 0) 1 8 Try.underlying28 hi hz0 hz1 hz2 rfl (by decide) sv L (rs.map fun r : Int × Nat => iv r.1) (by rfl) (unhide HOW1) ⟨wo.heap.size, 0, none⟩ 1 1 [iv (18 : Int)] (by rfl) rfl (unhide HNEW1) (by intro u hu; simp at hu; subst hu; rfl) (by decide) (by unfold maxLen; omega) (by omega) (by simp; omega) (wo.heap.size + 1) (by simp) ?_; intro g1 c1 w2 hown1 hgrow1 hat1 hglt1; have HO1 := hide hown1; have HG1 := hide hgrow1; have HA1 := hide hat1; have hb2 : w.heap.size ≤ w2.heap.size := (by have := hgrow1.size; simp at this; omega); have HOW2 : Hid ((w2.alloc (.cells #[iv ((n : Int) - 11)] 3)).ownsRow w.heap.size 3 1 mv L (rs.map fun r : Int × Nat => iv (r.2 : Int))) := hide ((own_keep (by rw [unhide HL]; exact (unhide hat).own2) (fun b e => by (have hlt := (unhide hat).own2.lt b e; rw [hgrow1.block b (by simp; omega) (fun e' => (unhide hat).ne b e'.symm e), Below.heap_alloc _ _ _ hlt.2]))).alloc _); clear hown1 hgrow1 hat1 hglt1) | (refine wpList_append_lies _ rfl (.tmp 86) (.tmp 88) 28 rfl w.heap.size 3 i0 (.int .i64 0) 1 8 Try.underlying28 hi hz0 hz1 hz2 rfl (by decide) mv L (rs.map fun r : Int × Nat => iv (r.2 : Int)) (by rfl) (unhide HOW2) ⟨w2.heap.size, 0, none⟩ 1 1 [iv ((n : Int) - 11)] (by rfl) rfl (unhide HNEW2 w2) (by intro u hu; simp at hu; subst hu; rfl) (by decide) (by unfold maxLen; omega) (by omega) (by simp; omega) (w2.heap.size + 1) (by simp) ?_; intro g2 c2 w4 hown2 hgrow2 hat2 hglt2; have HN := hide ((unhide hat).next (by rw [← unhide HNN]; exact haN) (unhide HSTEP) rfl (by rw [← unhide HL]; exact unhide HO1) (unhide HG1) (unhide HA1) rfl (by rw [← unhide HL, hye]; exact hown2) hgrow2 hat2); clear hown2 hgrow2 hat2 hglt2))
                rw [← unhide HL] at HN
                go_roundg (N - (a + n))
                case measure => omega
                case rel => exact ⟨a + n, rs ++ [((18 : Int), (n - 11))], L + 1, _, _, rfl, by first | omega | (have := unhide HLE; omega), rfl, rfl, by go_num, hide (by rw [List.length_append, ← unhide HL]; rfl), HN⟩
              · by_cases h3 : 3 ≤ n
                · have t1 : ¬ (11 : Int) ≤ (n : Int) := by omega
                  have t2 : decide ((11 : Int) ≤ (n : Int)) = false := by simp; omega
                  have t3 : (3 : Int) ≤ (n : Int) := by omega
                  have t4 : decide ((3 : Int) ≤ (n : Int)) = true := by simp; omega
                  have HSTEP : Hid (stepR l a = ((17 : Int), (n - 3), n)) := hide (by unfold stepR; rw [← unhide HV]; rw [hcnt, if_neg (by omega), if_pos ⟨hv, by omega⟩])
                  have hye : (((n - 3) : Nat) : Int) = ((n : Int) - 3) := by omega
                  have HNEW1 : Hid (∀ (j : Nat) u, [iv (17 : Int)][j]? = some u → (wo.alloc (.cells #[iv (17 : Int)] 3)).cell? ((⟨wo.heap.size, 0, none⟩ : Addr).add j) = some u) := hide (news_one _ _)
                  have HNEW2 : Hid (∀ (w2 : World) (j : Nat) u, [iv ((n : Int) - 3)][j]? = some u → (w2.alloc (.cells #[iv ((n : Int) - 3)] 3)).cell? ((⟨w2.heap.size, 0, none⟩ : Addr).add j) = some u) := hide (fun w2 => news_one _ _)
                  have HOW1 : Hid ((wo.alloc (.cells #[iv (17 : Int)] 3)).ownsRow w.heap.size 3 1 sv L (rs.map fun r : Int × Nat => iv r.1)) := hide (by rw [unhide HL]; exact (unhide hat).own1.alloc _)
                  have hsz := (unhide hat).bel.size
                  clear hcnt
                  go_wp2_with (at_builtin; first | (refine wpList_append_lies _ rfl (.tmp 82) (.tmp 84) 28 rfl w.heap.size 3 i0 (.int .i64 0) 1 8 Try.underlying28 hi hz0 hz1 hz2 rfl (by decide) sv L (rs.map fun r : Int × Nat => iv r.1) (by rfl) (unhide HOW1) ⟨wo.heap.size, 0, none⟩ 1 1 [iv (17 : Int)] (by rfl) rfl (unhide HNEW1) (by intro u hu; simp at hu; subst hu; rfl) (by decide) (by unfold maxLen; omega) (by omega) (by simp; omega) (wo.heap.size + 1) (by simp) ?_; intro g1 c1 w2 hown1 hgrow1 hat1 hglt1; have HO1 := hide hown1; have HG1 := hide hgrow1; have HA1 := hide hat1; have hb2 : w.heap.size ≤ w2.heap.size := (by have := hgrow1.size; simp at this; omega); have HOW2 : Hid ((w2.alloc (.cells #[iv ((n : Int) - 3)] 3)).ownsRow w.heap.size 3 1 mv L (rs.map fun r : Int × Nat => iv (r.2 : Int))) := hide ((own_keep (by rw [unhide HL]; exact (unhide hat).own2) (fun b e => by (have hlt := (unhide hat).own2.lt b e; rw [hgrow1.block b (by simp; omega) (fun e' => (unhide hat).ne b e'.symm e), Below.heap_alloc _ _ _ hlt.2]))).alloc _); clear hown1 hgrow1 hat1 hglt1) | (refine wpList_append_lies _ rfl (.tmp 86) (.tmp 88) 28 rfl w.heap.size 3 i0 (.int .i64 0) 1 8 Try.underlying28 hi hz0 hz1 hz2 rfl (by decide) mv L (rs.map fun r : Int × Nat => iv (r.2 : Int)) (by rfl) (unhide HOW2) ⟨w2.heap.size, 0, none⟩ 1 1 [iv ((n : Int) - 3)] (by rfl) rfl (unhide HNEW2 w2) (by intro u hu; simp at hu; subst hu; rfl) (by decide) (by unfold maxLen; omega) (by omega) (by simp; omega) (w2.heap.size + 1) (by simp) ?_; intro g2 c2 w4 hown2 hgrow2 hat2 hglt2; have HN := hide ((unhide hat).next (by rw [← unhide HNN]; exact haN) (unhide HSTEP) rfl (by rw [← unhide HL]; exact unhide HO1) (unhide HG1) (unhide HA1) rfl (by rw [← unhide HL, hye]; exact hown2) hgrow2 hat2); clear hown2 hgrow2 hat2 hglt2))
                  rw [← unhide HL] at HN
                  go_roundg (N - (a + n))
                  case measure => omega
                  case rel => exact ⟨a + n, rs ++ [((17 : Int), (n - 3))], L + 1, _, _, rfl, by first | omega | (have := unhide HLE; omega), rfl, rfl, by go_num, hide (by rw [List.length_append, ← unhide HL]; rfl), HN⟩
                · have t1 : ¬ (11 : Int) ≤ (n : Int) := by omega
                  have t2 : decide ((11 : Int) ≤ (n : Int)) = false := by simp; omega
                  have t3 : ¬ (3 : Int) ≤ (n : Int) := by omega
                  have t4 : decide ((3 : Int) ≤ (n : Int)) = false := by simp; omega
                  have HSTEP : Hid (stepR l a = ((0 : Int), 0, 1)) := hide (by unfold stepR; rw [← unhide HV]; rw [hcnt, if_neg (by omega), if_neg (by omega), if_neg (by omega), hv])
                  have hye : ((0 : Nat) : Int) = (0 : Int) := by omega
                  have HNEW1 : Hid (∀ (j : Nat) u, [iv (0 : Int)][j]? = some u → (wo.alloc (.cells #[iv (0 : Int)] 3)).cell? ((⟨wo.heap.size, 0, none⟩ : Addr).add j) = some u) := hide (news_one _ _)
                  have HNEW2 : Hid (∀ (w2 : World) (j : Nat) u, [iv (0 : Int)][j]? = some u → (w2.alloc (.cells #[iv (0 : Int)] 3)).cell? ((⟨w2.heap.size, 0, none⟩ : Addr).add j) = some u) := hide (fun w2 => news_one _ _)
                  have HOW1 : Hid ((wo.alloc (.cells #[iv (0 : Int)] 3)).ownsRow w.heap.size 3 1 sv L (rs.map fun r : Int × Nat => iv r.1)) := hide (by rw [unhide HL]; exact (unhide hat).own1.alloc _)
                  have hsz := (unhide hat).bel.size
                  clear hcnt
                  go_wp2_with (at_builtin; first | (refine wpList_append_lies _ rfl (.tmp 82) (.tmp 84) 28 rfl w.heap.size 3 i0 (.int .i64 0) 1 8 Try.underlying28 hi hz0 hz1 hz2 rfl (by decide) sv L (rs.map fun r : Int × Nat => iv r.1) (by rfl) (unhide HOW1) ⟨wo.heap.size, 0, none⟩ 1 1 [iv (0 : Int)] (by rfl) rfl (unhide HNEW1) (by intro u hu; simp at hu; subst hu; rfl) (by decide) (by unfold maxLen; omega) (by omega) (by simp; omega) (wo.heap.size + 1) (by simp) ?_; intro g1 c1 w2 hown1 hgrow1 hat1 hglt1; have HO1 := hide hown1; have HG1 := hide hgrow1; have HA1 := hide hat1; have hb2 : w.heap.size ≤ w2.heap.size := (by have := hgrow1.size; simp at this; omega); have HOW2 : Hid ((w2.alloc (.cells #[iv (0 : Int)] 3)).ownsRow w.heap.size 3 1 mv L (rs.map fun r : Int × Nat => iv (r.2 : Int))) := hide ((own_keep (by rw [unhide HL]; exact (unhide hat).own2) (fun b e => by (have hlt := (unhide hat).own2.lt b e; rw [hgrow1.block b (by simp; omega) (fun e' => (unhide hat).ne b e'.symm e), Below.heap_alloc _ _ _ hlt.2]))).alloc _); clear hown1 hgrow1 hat1 hglt1) | (refine wpList_append_lies _ rfl (.tmp 86) (.tmp 88) 28 rfl w.heap.size 3 i0 (.int .i64 0) 1 8 Try.underlying28 hi hz0 hz1 hz2 rfl (by decide) mv L (rs.map fun r : Int × Nat => iv (r.2 : Int)) (by rfl) (unhide HOW2) ⟨w2.heap.size, 0, none⟩ 1 1 [iv (0 : Int)] (by rfl) rfl (unhide HNEW2 w2) (by intro u hu; simp at hu; subst hu; rfl) (by decide) (by unfold maxLen; omega) (by omega) (by simp; omega) (w2.heap.size + 1) (by simp) ?_; intro g2 c2 w4 hown2 hgrow2 hat2 hglt2; have HN := hide ((unhide hat).next (by rw [← unhide HNN]; exact haN) (unhide HSTEP) rfl (by rw [← unhide HL]; exact unhide HO1) (unhide HG1) (unhide HA1) rfl (by rw [← unhide HL, hye]; exact hown2) hgrow2 hat2); clear hown2 hgrow2 hat2 hglt2))
                  rw [← unhide HL] at HN
                  go_roundg (N - (a + 1))
                  case measure => omega
                  case rel => exact ⟨a + 1, rs ++ [((0 : Int), 0)], L + 1, _, _, rfl, by first | omega | (have := unhide HLE; omega), rfl, rfl, by go_num, hide (by rw [List.length_append, ← unhide HL]; rfl), HN⟩
          · by_cases hp : 0 < V
            · by_cases ha0 : a = 0
              · have t1 : ¬ V = 0 := by omega
                have t2 : (V == 0) = false := by simp; omega
                have p1 : (0 : Int) < V := by omega
                have p2 : decide ((0 : Int) < V) = true := by simp; omega
                have p3 : ¬ (0 : Int) < (a : Int) := by omega
                have p4 : decide ((0 : Int) < (a : Int)) = false := by simp; omega
                clear ha0
                have HSTEP : Hid (stepR l a = (V, 0, 1)) := hide (by unfold stepR; rw [← unhide HV]; rw [hcnt, if_neg (by omega), if_neg (by omega), if_neg (by omega)])
                have hye : ((0 : Nat) : Int) = (0 : Int) := by omega
                have HNEW1 : Hid (∀ (j : Nat) u, [iv V][j]? = some u → (wo.alloc (.cells #[iv V] 3)).cell? ((⟨wo.heap.size, 0, none⟩ : Addr).add j) = some u) := hide (news_one _ _)
                have HNEW2 : Hid (∀ (w2 : World) (j : Nat) u, [iv (0 : Int)][j]? = some u → (w2.alloc (.cells #[iv (0 : Int)] 3)).cell? ((⟨w2.heap.size, 0, none⟩ : Addr).add j) = some u) := hide (fun w2 => news_one _ _)
                have HOW1 : Hid ((wo.alloc (.cells #[iv V] 3)).ownsRow w.heap.size 3 1 sv L (rs.map fun r : Int × Nat => iv r.1)) := hide (by rw [unhide HL]; exact (unhide hat).own1.alloc _)
                have hsz := (unhide hat).bel.size
                clear hcnt
                go_wp2_with (at_builtin; first | (refine wpList_append_lies _ rfl (.tmp 82) (.tmp 84) 28 rfl w.heap.size 3 i0 (.int .i64 0) 1 8 Try.underlying28 hi hz0 hz1 hz2 rfl (by decide) sv L (rs.map fun r : Int × Nat => iv r.1) (by rfl) (unhide HOW1) ⟨wo.heap.size, 0, none⟩ 1 1 [iv V] (by rfl) rfl (unhide HNEW1) (by intro u hu; simp at hu; subst hu; rfl) (by decide) (by unfold maxLen; omega) (by omega) (by simp; omega) (wo.heap.size + 1) (by simp) ?_; intro g1 c1 w2 hown1 hgrow1 hat1 hglt1; have HO1 := hide hown1; have HG1 := hide hgrow1; have HA1 := hide hat1; have hb2 : w.heap.size ≤ w2.heap.size := (by have := hgrow1.size; simp at this; omega); have HOW2 : Hid ((w2.alloc (.cells #[iv (0 : Int)] 3)).ownsRow w.heap.size 3 1 mv L (rs.map fun r : Int × Nat => iv (r.2 : Int))) := hide ((own_keep (by rw [unhide HL]; exact (unhide hat).own2) (fun b e => by (have hlt := (unhide hat).own2.lt b e; rw [hgrow1.block b (by simp; omega) (fun e' => (unhide hat).ne b e'.symm e), Below.heap_alloc _ _ _ hlt.2]))).alloc _); clear hown1 hgrow1 hat1 hglt1) | (refine wpList_append_lies _ rfl (.tmp 86) (.tmp 88) 28 rfl w.heap.size 3 i0 (.int .i64 0) 1 8 Try.underlying28 hi hz0 hz1 hz2 rfl (by decide) mv L (rs.map fun r : Int × Nat => iv (r.2 : Int)) (by rfl) (unhide HOW2) ⟨w2.heap.size, 0, none⟩ 1 1 [iv (0 : Int)] (by rfl) rfl (unhide HNEW2 w2) (by intro u hu; simp at hu; subst hu; rfl) (by decide) (by unfold maxLen; omega) (by omega) (by simp; omega) (w2.heap.size + 1) (by simp) ?_; intro g2 c2 w4 hown2 hgrow2 hat2 hglt2; have HN := hide ((unhide hat).next (by rw [← unhide HNN]; exact haN) (unhide HSTEP) rfl (by rw [← unhide HL]; exact unhide HO1) (unhide HG1) (unhide HA1) rfl (by rw [← unhide HL, hye]; exact hown2) hgrow2 hat2); clear hown2 hgrow2 hat2 hglt2))
                rw [← unhide HL] at HN
                go_roundg (N - (a + 1))
                case measure => omega
                case rel => exact ⟨a + 1, rs ++ [(V, 0)], L + 1, _, _, rfl, by first | omega | (have := unhide HLE; omega), rfl, rfl, by go_num, hide (by rw [List.length_append, ← unhide HL]; rfl), HN⟩
              · by_cases hpv : ¬ l.getD (a - 1) 0 = V
                · have t1 : ¬ V = 0 := by omega
                  have t2 : (V == 0) = false := by simp; omega
                  have p1 : (0 : Int) < V := by omega
                  have p2 : decide ((0 : Int) < V) = true := by simp; omega
                  have p3 : (0 : Int) < (a : Int) := by omega
                  have p4 : decide ((0 : Int) < (a : Int)) = true := by simp; omega
                  have kp := unhide HC (a - 1) (by omega)
                  have p5 : (l.getD (a - 1) 0 == V) = false := by simpa using hpv
                  have hpv' := hpv
                  generalize l.getD (a - 1) 0 = pv at kp p5 hpv
                  have HSTEP : Hid (stepR l a = (V, 0, 1)) := hide (by unfold stepR; rw [← unhide HV]; rw [hcnt, if_neg (by omega), if_neg (by omega), if_neg (fun c => hpv' c.2.2.1)])
                  have hye : ((0 : Nat) : Int) = (0 : Int) := by omega
                  have HNEW1 : Hid (∀ (j : Nat) u, [iv V][j]? = some u → (wo.alloc (.cells #[iv V] 3)).cell? ((⟨wo.heap.size, 0, none⟩ : Addr).add j) = some u) := hide (news_one _ _)
                  have HNEW2 : Hid (∀ (w2 : World) (j : Nat) u, [iv (0 : Int)][j]? = some u → (w2.alloc (.cells #[iv (0 : Int)] 3)).cell? ((⟨w2.heap.size, 0, none⟩ : Addr).add j) = some u) := hide (fun w2 => news_one _ _)
                  have HOW1 : Hid ((wo.alloc (.cells #[iv V] 3)).ownsRow w.heap.size 3 1 sv L (rs.map fun r : Int × Nat => iv r.1)) := hide (by rw [unhide HL]; exact (unhide hat).own1.alloc _)
                  have hsz := (unhide hat).bel.size
                  clear hcnt
                  go_wp2_with (at_builtin; first | (refine wpList_append_lies _ rfl (.tmp 82) (.tmp 84) 28 rfl w.heap.size 3 i0 (.int .i64 0) 1 8 Try.underlying28 hi hz0 hz1 hz2 rfl (by decide) sv L (rs.map fun r : Int × Nat => iv r.1) (by rfl) (unhide HOW1) ⟨wo.heap.size, 0, none⟩ 1 1 [iv V] (by rfl) rfl (unhide HNEW1) (by intro u hu; simp at hu; subst hu; rfl) (by decide) (by unfold maxLen; omega) (by omega) (by simp; omega) (wo.heap.size + 1) (by simp) ?_; intro g1 c1 w2 hown1 hgrow1 hat1 hglt1; have HO1 := hide hown1; have HG1 := hide hgrow1; have HA1 := hide hat1; have hb2 : w.heap.size ≤ w2.heap.size := (by have := hgrow1.size; simp at this; omega); have HOW2 : Hid ((w2.alloc (.cells #[iv (0 : Int)] 3)).ownsRow w.heap.size 3 1 mv L (rs.map fun r : Int × Nat => iv (r.2 : Int))) := hide ((own_keep (by rw [unhide HL]; exact (unhide hat).own2) (fun b e => by (have hlt := (unhide hat).own2.lt b e; rw [hgrow1.block b (by simp; omega) (fun e' => (unhide hat).ne b e'.symm e), Below.heap_alloc _ _ _ hlt.2]))).alloc _); clear hown1 hgrow1 hat1 hglt1) | (refine wpList_append_lies _ rfl (.tmp 86) (.tmp 88) 28 rfl w.heap.size 3 i0 (.int .i64 0) 1 8 Try.underlying28 hi hz0 hz1 hz2 rfl (by decide) mv L (rs.map fun r : Int × Nat => iv (r.2 : Int)) (by rfl) (unhide HOW2) ⟨w2.heap.size, 0, none⟩ 1 1 [iv (0 : Int)] (by rfl) rfl (unhide HNEW2 w2) (by intro u hu; simp at hu; subst hu; rfl) (by decide) (by unfold maxLen; omega) (by omega) (by simp; omega) (w2.heap.size + 1) (by simp) ?_; intro g2 c2 w4 hown2 hgrow2 hat2 hglt2; have HN := hide ((unhide hat).next (by rw [← unhide HNN]; exact haN) (unhide HSTEP) rfl (by rw [← unhide HL]; exact unhide HO1) (unhide HG1) (unhide HA1) rfl (by rw [← unhide HL, hye]; exact hown2) hgrow2 hat2); clear hown2 hgrow2 hat2 hglt2))
                  rw [← unhide HL] at HN
                  go_roundg (N - (a + 1))
                  case measure => omega
                  case rel => exact ⟨a + 1, rs ++ [(V, 0)], L + 1, _, _, rfl, by first | omega | (have := unhide HLE; omega), rfl, rfl, by go_num, hide (by rw [List.length_append, ← unhide HL]; rfl), HN⟩
                · by_cases h6 : 6 < n
                  · have t1 : ¬ V = 0 := by omega
                    have t2 : (V == 0) = false := by simp; omega
                    have p1 : (0 : Int) < V := by omega
                    have p2 : decide ((0 : Int) < V) = true := by simp; omega
                    have p3 : (0 : Int) < (a : Int) := by omega
                    have p4 : decide ((0 : Int) < (a : Int)) = true := by simp; omega
                    have kp := unhide HC (a - 1) (by omega)
                    have hpe : l.getD (a - 1) 0 = V := Classical.byContradiction fun c => hpv c
                    rw [hpe] at kp
                    clear hpv
                    have p6 : (3 : Int) ≤ (n : Int) := by omega
                    have p7 : decide ((3 : Int) ≤ (n : Int)) = true := by simp; omega
                    have p8 : (6 : Int) < (n : Int) := by omega
                    have HSTEP : Hid (stepR l a = ((16 : Int), 3, 6)) := hide (by unfold stepR; rw [← unhide HV]; rw [hcnt, if_neg (by omega), if_neg (by omega), if_pos ⟨by omega, by omega, hpe, by omega⟩, show min n 6 = 6 from by omega])
                    have hye : ((3 : Nat) : Int) = (3 : Int) := by omega
                    have HNEW1 : Hid (∀ (j : Nat) u, [iv (16 : Int)][j]? = some u → (wo.alloc (.cells #[iv (16 : Int)] 3)).cell? ((⟨wo.heap.size, 0, none⟩ : Addr).add j) = some u) := hide (news_one _ _)
                    have HNEW2 : Hid (∀ (w2 : World) (j : Nat) u, [iv (3 : Int)][j]? = some u → (w2.alloc (.cells #[iv (3 : Int)] 3)).cell? ((⟨w2.heap.size, 0, none⟩ : Addr).add j) = some u) := hide (fun w2 => news_one _ _)
                    have HOW1 : Hid ((wo.alloc (.cells #[iv (16 : Int)] 3)).ownsRow w.heap.size 3 1 sv L (rs.map fun r : Int × Nat => iv r.1)) := hide (by rw [unhide HL]; exact (unhide hat).own1.alloc _)
                    have hsz := (unhide hat).bel.size
                    clear hcnt
                    go_wp2_with (at_builtin; first | (refine wpList_append_lies _ rfl (.tmp 82) (.tmp 84) 28 rfl w.heap.size 3 i0 (.int .i64 0) 1 8 Try.underlying28 hi hz0 hz1 hz2 rfl (by decide) sv L (rs.map fun r : Int × Nat => iv r.1) (by rfl) (unhide HOW1) ⟨wo.heap.size, 0, none⟩ 1 1 [iv (16 : Int)] (by rfl) rfl (unhide HNEW1) (by intro u hu; simp at hu; subst hu; rfl) (by decide) (by unfold maxLen; omega) (by omega) (by simp; omega) (wo.heap.size + 1) (by simp) ?_; intro g1 c1 w2 hown1 hgrow1 hat1 hglt1; have HO1 := hide hown1; have HG1 := hide hgrow1; have HA1 := hide hat1; have hb2 : w.heap.size ≤ w2.heap.size := (by have := hgrow1.size; simp at this; omega); have HOW2 : Hid ((w2.alloc (.cells #[iv (3 : Int)] 3)).ownsRow w.heap.size 3 1 mv L (rs.map fun r : Int × Nat => iv (r.2 : Int))) := hide ((own_keep (by rw [unhide HL]; exact (unhide hat).own2) (fun b e => by (have hlt := (unhide hat).own2.lt b e; rw [hgrow1.block b (by simp; omega) (fun e' => (unhide hat).ne b e'.symm e), Below.heap_alloc _ _ _ hlt.2]))).alloc _); clear hown1 hgrow1 hat1 hglt1) | (refine wpList_append_lies _ rfl (.tmp 86) (.tmp 88) 28 rfl w.heap.size 3 i0 (.int .i64 0) 1 8 Try.underlying28 hi hz0 hz1 hz2 rfl (by decide) mv L (rs.map fun r : Int × Nat => iv (r.2 : Int)) (by rfl) (unhide HOW2) ⟨w2.heap.size, 0, none⟩ 1 1 [iv (3 : Int)] (by rfl) rfl (unhide HNEW2 w2) (by intro u hu; simp at hu; subst hu; rfl) (by decide) (by unfold maxLen; omega) (by omega) (by simp; omega) (w2.heap.size + 1) (by simp) ?_; intro g2 c2 w4 hown2 hgrow2 hat2 hglt2; have HN := hide ((unhide hat).next (by rw [← unhide HNN]; exact haN) (unhide HSTEP) rfl (by rw [← unhide HL]; exact unhide HO1) (unhide HG1) (unhide HA1) rfl (by rw [← unhide HL, hye]; exact hown2) hgrow2 hat2); clear hown2 hgrow2 hat2 hglt2))
                    rw [← unhide HL] at HN
                    go_roundg (N - (a + 6))
                    case measure => omega
                    case rel => exact ⟨a + 6, rs ++ [((16 : Int), 3)], L + 1, _, _, rfl, by first | omega | (have := unhide HLE; omega), rfl, rfl, by go_num, hide (by rw [List.length_append, ← unhide HL]; rfl), HN⟩
                  · by_cases h3 : 3 ≤ n
                    · have t1 : ¬ V = 0 := by omega
                      have t2 : (V == 0) = false := by simp; omega
                      have p1 : (0 : Int) < V := by omega
                      have p2 : decide ((0 : Int) < V) = true := by simp; omega
                      have p3 : (0 : Int) < (a : Int) := by omega
                      have p4 : decide ((0 : Int) < (a : Int)) = true := by simp; omega
                      have kp := unhide HC (a - 1) (by omega)
                      have hpe : l.getD (a - 1) 0 = V := Classical.byContradiction fun c => hpv c
                      rw [hpe] at kp
                      clear hpv
                      have p6 : (3 : Int) ≤ (n : Int) := by omega
                      have p7 : decide ((3 : Int) ≤ (n : Int)) = true := by simp; omega
                      have p8 : ¬ (6 : Int) < (n : Int) := by omega
                      have HSTEP : Hid (stepR l a = ((16 : Int), (n - 3), n)) := hide (by unfold stepR; rw [← unhide HV]; rw [hcnt, if_neg (by omega), if_neg (by omega), if_pos ⟨by omega, by omega, hpe, by omega⟩, show min n 6 = n from by omega])
                      have hye : (((n - 3) : Nat) : Int) = ((n : Int) - 3) := by omega
                      have HNEW1 : Hid (∀ (j : Nat) u, [iv (16 : Int)][j]? = some u → (wo.alloc (.cells #[iv (16 : Int)] 3)).cell? ((⟨wo.heap.size, 0, none⟩ : Addr).add j) = some u) := hide (news_one _ _)
                      have HNEW2 : Hid (∀ (w2 : World) (j : Nat) u, [iv ((n : Int) - 3)][j]? = some u → (w2.alloc (.cells #[iv ((n : Int) - 3)] 3)).cell? ((⟨w2.heap.size, 0, none⟩ : Addr).add j) = some u) := hide (fun w2 => news_one _ _)
                      have HOW1 : Hid ((wo.alloc (.cells #[iv (16 : Int)] 3)).ownsRow w.heap.size 3 1 sv L (rs.map fun r : Int × Nat => iv r.1)) := hide (by rw [unhide HL]; exact (unhide hat).own1.alloc _)
                      have hsz := (unhide hat).bel.size
                      clear hcnt
                      go_wp2_with (at_builtin; first | (refine wpList_append_lies _ rfl (.tmp 82) (.tmp 84) 28 rfl w.heap.size 3 i0 (.int .i64 0) 1 8 Try.underlying28 hi hz0 hz1 hz2 rfl (by decide) sv L (rs.map fun r : Int × Nat => iv r.1) (by rfl) (unhide HOW1) ⟨wo.heap.size, 0, none⟩ 1 1 [iv (16 : Int)] (by rfl) rfl (unhide HNEW1) (by intro u hu; simp at hu; subst hu; rfl) (by decide) (by unfold maxLen; omega) (by omega) (by simp; omega) (wo.heap.size + 1) (by simp) ?_; intro g1 c1 w2 hown1 hgrow1 hat1 hglt1; have HO1 := hide hown1; have HG1 := hide hgrow1; have HA1 := hide hat1; have hb2 : w.heap.size ≤ w2.heap.size := (by have := hgrow1.size; simp at this; omega); have HOW2 : Hid ((w2.alloc (.cells #[iv ((n : Int) - 3)] 3)).ownsRow w.heap.size 3 1 mv L (rs.map fun r : Int × Nat => iv (r.2 : Int))) := hide ((own_keep (by rw [unhide HL]; exact (unhide hat).own2) (fun b e => by (have hlt := (unhide hat).own2.lt b e; rw [hgrow1.block b (by simp; omega) (fun e' => (unhide hat).ne b e'.symm e), Below.heap_alloc _ _ _ hlt.2]))).alloc _); clear hown1 hgrow1 hat1 hglt1) | (refine wpList_append_lies _ rfl (.tmp 86) (.tmp 88) 28 rfl w.heap.size 3 i0 (.int .i64 0) 1 8 Try.underlying28 hi hz0 hz1 hz2 rfl (by decide) mv L (rs.map fun r : Int × Nat => iv (r.2 : Int)) (by rfl) (unhide HOW2) ⟨w2.heap.size, 0, none⟩ 1 1 [iv ((n : Int) - 3)] (by rfl) rfl (unhide HNEW2 w2) (by intro u hu; simp at hu; subst hu; rfl) (by decide) (by unfold maxLen; omega) (by omega) (by simp; omega) (w2.heap.size + 1) (by simp) ?_; intro g2 c2 w4 hown2 hgrow2 hat2 hglt2; have HN := hide ((unhide hat).next (by rw [← unhide HNN]; exact haN) (unhide HSTEP) rfl (by rw [← unhide HL]; exact unhide HO1) (unhide HG1) (unhide HA1) rfl (by rw [← unhide HL, hye]; exact hown2) hgrow2 hat2); clear hown2 hgrow2 hat2 hglt2))
                      rw [← unhide HL] at HN
                      go_roundg (N - (a + n))
                      case measure => omega
                      case rel => exact ⟨a + n, rs ++ [((16 : Int), (n - 3))], L + 1, _, _, rfl, by first | omega | (have := unhide HLE; omega), rfl, rfl, by go_num, hide (by rw [List.length_append, ← unhide HL]; rfl), HN⟩
                    · have t1 : ¬ V = 0 := by omega
                      have t2 : (V == 0) = false := by simp; omega
                      have p1 : (0 : Int) < V := by omega
                      have p2 : decide ((0 : Int) < V) = true := by simp; omega
                      have p3 : (0 : Int) < (a : Int) := by omega
                      have p4 : decide ((0 : Int) < (a : Int)) = true := by simp; omega
                      have kp := unhide HC (a - 1) (by omega)
                      have hpe : l.getD (a - 1) 0 = V := Classical.byContradiction fun c => hpv c
                      rw [hpe] at kp
                      clear hpv
                      have p6 : ¬ (3 : Int) ≤ (n : Int) := by omega
                      have p7 : decide ((3 : Int) ≤ (n : Int)) = false := by simp; omega
                      have HSTEP : Hid (stepR l a = (V, 0, 1)) := hide (by unfold stepR; rw [← unhide HV]; rw [hcnt, if_neg (by omega), if_neg (by omega), if_neg (by omega)])
                      have hye : ((0 : Nat) : Int) = (0 : Int) := by omega
                      have HNEW1 : Hid (∀ (j : Nat) u, [iv V][j]? = some u → (wo.alloc (.cells #[iv V] 3)).cell? ((⟨wo.heap.size, 0, none⟩ : Addr).add j) = some u) := hide (news_one _ _)
                      have HNEW2 : Hid (∀ (w2 : World) (j : Nat) u, [iv (0 : Int)][j]? = some u → (w2.alloc (.cells #[iv (0 : Int)] 3)).cell? ((⟨w2.heap.size, 0, none⟩ : Addr).add j) = some u) := hide (fun w2 => news_one _ _)
                      have HOW1 : Hid ((wo.alloc (.cells #[iv V] 3)).ownsRow w.heap.size 3 1 sv L (rs.map fun r : Int × Nat => iv r.1)) := hide (by rw [unhide HL]; exact (unhide hat).own1.alloc _)
                      have hsz := (unhide hat).bel.size
                      clear hcnt
                      go_wp2_with (at_builtin; first | (refine wpList_append_lies _ rfl (.tmp 82) (.tmp 84) 28 rfl w.heap.size 3 i0 (.int .i64 0) 1 8 Try.underlying28 hi hz0 hz1 hz2 rfl (by decide) sv L (rs.map fun r : Int × Nat => iv r.1) (by rfl) (unhide HOW1) ⟨wo.heap.size, 0, none⟩ 1 1 [iv V] (by rfl) rfl (unhide HNEW1) (by intro u hu; simp at hu; subst hu; rfl) (by decide) (by unfold maxLen; omega) (by omega) (by simp; omega) (wo.heap.size + 1) (by simp) ?_; intro g1 c1 w2 hown1 hgrow1 hat1 hglt1; have HO1 := hide hown1; have HG1 := hide hgrow1; have HA1 := hide hat1; have hb2 : w.heap.size ≤ w2.heap.size := (by have := hgrow1.size; simp at this; omega); have HOW2 : Hid ((w2.alloc (.cells #[iv (0 : Int)] 3)).ownsRow w.heap.size 3 1 mv L (rs.map fun r : Int × Nat => iv (r.2 : Int))) := hide ((own_keep (by rw [unhide HL]; exact (unhide hat).own2) (fun b e => by (have hlt := (unhide hat).own2.lt b e; rw [hgrow1.block b (by simp; omega) (fun e' => (unhide hat).ne b e'.symm e), Below.heap_alloc _ _ _ hlt.2]))).alloc _); clear hown1 hgrow1 hat1 hglt1) | (refine wpList_append_lies _ rfl (.tmp 86) (.tmp 88) 28 rfl w.heap.size 3 i0 (.int .i64 0) 1 8 Try.underlying28 hi hz0 hz1 hz2 rfl (by decide) mv L (rs.map fun r : Int × Nat => iv (r.2 : Int)) (by rfl) (unhide HOW2) ⟨w2.heap.size, 0, none⟩ 1 1 [iv (0 : Int)] (by rfl) rfl (unhide HNEW2 w2) (by intro u hu; simp at hu; subst hu; rfl) (by decide) (by unfold maxLen; omega) (by omega) (by simp; omega) (w2.heap.size + 1) (by simp) ?_; intro g2 c2 w4 hown2 hgrow2 hat2 hglt2; have HN := hide ((unhide hat).next (by rw [← unhide HNN]; exact haN) (unhide HSTEP) rfl (by rw [← unhide HL]; exact unhide HO1) (unhide HG1) (unhide HA1) rfl (by rw [← unhide HL, hye]; exact hown2) hgrow2 hat2); clear hown2 hgrow2 hat2 hglt2))
                      rw [← unhide HL] at HN
                      go_roundg (N - (a + 1))
                      case measure => omega
                      case rel => exact ⟨a + 1, rs ++ [(V, 0)], L + 1, _, _, rfl, by first | omega | (have := unhide HLE; omega), rfl, rfl, by go_num, hide (by rw [List.length_append, ← unhide HL]; rfl), HN⟩
            · have t1 : ¬ V = 0 := by omega
              have t2 : (V == 0) = false := by simp; omega
              have p1 : ¬ (0 : Int) < V := by omega
              have p2 : decide ((0 : Int) < V) = false := by simp; omega
              have HSTEP : Hid (stepR l a = (V, 0, 1)) := hide (by unfold stepR; rw [← unhide HV]; rw [hcnt, if_neg (by omega), if_neg (by omega), if_neg (by omega)])
              have hye : ((0 : Nat) : Int) = (0 : Int) := by omega
              have HNEW1 : Hid (∀ (j : Nat) u, [iv V][j]? = some u → (wo.alloc (.cells #[iv V] 3)).cell? ((⟨wo.heap.size, 0, none⟩ : Addr).add j) = some u) := hide (news_one _ _)
              have HNEW2 : Hid (∀ (w2 : World) (j : Nat) u, [iv (0 : Int)][j]? = some u → (w2.alloc (.cells #[iv (0 : Int)] 3)).cell? ((⟨w2.heap.size, 0, none⟩ : Addr).add j) = some u) := hide (fun w2 => news_one _ _)
              have HOW1 : Hid ((wo.alloc (.cells #[iv V] 3)).ownsRow w.heap.size 3 1 sv L (rs.map fun r : Int × Nat => iv r.1)) := hide (by rw [unhide HL]; exact (unhide hat).own1.alloc _)
              have hsz := (unhide hat).bel.size
              clear hcnt
              go_wp2_with (at_builtin; first | (refine wpList_append_lies _ rfl (.tmp 82) (.tmp 84) 28 rfl w.heap.size 3 i0 (.int .i64 0) 1 8 Try.underlying28 hi hz0 hz1 hz2 rfl (by decide) sv L (rs.map fun r : Int × Nat => iv r.1) (by rfl) (unhide HOW1) ⟨wo.heap.size, 0, none⟩ 1 1 [iv V] (by rfl) rfl (unhide HNEW1) (by intro u hu; simp at hu; subst hu; rfl) (by decide) (by unfold maxLen; omega) (by omega) (by simp; omega) (wo.heap.size + 1) (by simp) ?_; intro g1 c1 w2 hown1 hgrow1 hat1 hglt1; have HO1 := hide hown1; have HG1 := hide hgrow1; have HA1 := hide hat1; have hb2 : w.heap.size ≤ w2.heap.size := (by have := hgrow1.size; simp at this; omega); have HOW2 : Hid ((w2.alloc (.cells #[iv (0 : Int)] 3)).ownsRow w.heap.size 3 1 mv L (rs.map fun r : Int × Nat => iv (r.2 : Int))) := hide ((own_keep (by rw [unhide HL]; exact (unhide hat).own2) (fun b e => by (have hlt := (unhide hat).own2.lt b e; rw [hgrow1.block b (by simp; omega) (fun e' => (unhide hat).ne b e'.symm e), Below.heap_alloc _ _ _ hlt.2]))).alloc _); clear hown1 hgrow1 hat1 hglt1) | (refine wpList_append_lies _ rfl (.tmp 86) (.tmp 88) 28 rfl w.heap.size 3 i0 (.int .i64 0) 1 8 Try.underlying28 hi hz0 hz1 hz2 rfl (by decide) mv L (rs.map fun r : Int × Nat => iv (r.2 : Int)) (by rfl) (unhide HOW2) ⟨w2.heap.size, 0, none⟩ 1 1 [iv (0 : Int)] (by rfl) rfl (unhide HNEW2 w2) (by intro u hu; simp at hu; subst hu; rfl) (by decide) (by unfold maxLen; omega) (by omega) (by simp; omega) (w2.heap.size + 1) (by simp) ?_; intro g2 c2 w4 hown2 hgrow2 hat2 hglt2; have HN := hide ((unhide hat).next (by rw [← unhide HNN]; exact haN) (unhide HSTEP) rfl (by rw [← unhide HL]; exact unhide HO1) (unhide HG1) (unhide HA1) rfl (by rw [← unhide HL, hye]; exact hown2) hgrow2 hat2); clear hown2 hgrow2 hat2 hglt2))
              rw [← unhide HL] at HN
              go_roundg (N - (a + 1))
              case measure => omega
              case rel => exact ⟨a + 1, rs ++ [(V, 0)], L + 1, _, _, rfl, by first | omega | (have := unhide HLE; omega), rfl, rfl, by go_num, hide (by rw [List.length_append, ← unhide HL]; rfl), HN⟩
    · obtain rfl : a = N := by omega
      have taN : ¬ (a : Int) < (a : Int) := by omega
      have HE : Hid (wr.ownsRow w.heap.size 3 1 sv (runsL l).length ((runsL l).map fun r => iv r.1) ∧ wr.ownsRow w.heap.size 3 1 mv (runsL l).length ((runsL l).map fun r => iv (r.2 : Int)) ∧ Below w.heap.size w wr ∧ ∀ g, sv.ownBlock = some g → mv.ownBlock ≠ some g) := hide (by
        obtain ⟨k, h1, h2⟩ := (unhide hat).on
        have e : runsL l = rs := by
          rw [h1]
          cases k with
          | zero => rw [runsF, List.append_nil]
          | succ k => rw [runsF, if_neg (by rw [← unhide HNN]; omega), List.append_nil]
        rw [e]
        exact ⟨(unhide hat).own1, (unhide hat).own2, (unhide hat).bel, (unhide hat).ne⟩)
      clear hat
      go_wp2_with fail
      go_ret2
      exact ⟨sv, mv, rfl, unhide HE⟩

end Go.Proofs.Ytabeanealkopbaa
