/- What layWords does: each symbol's word, through a closure. -/
import Derived.Test.YtppbnodgnphaaaaCount
namespace Go.Proofs.Ytppbnodgnphaaaa
open Go.RowKit
set_option maxRecDepth 100000
set_option linter.unusedVariables false

section
variable {w w' : World} {t : TypeId} {g n B : Nat} {W L W' L' : Nat → Nat}
theorem WordsAt.lt (h : WordsAt w t g n W L) : g < w.heap.size := heap_lt h
theorem WordsAt.other (h : WordsAt w t g n W L) (a : Addr) (v : Value) (hg : g ≠ a.block) : WordsAt (w.setCell a v) t g n W L := by
  unfold WordsAt
  rw [heap_setCell_other _ _ _ _ hg]
  exact h
theorem WordsAt.alloc (h : WordsAt w t g n W L) (o : Obj) : WordsAt (w.alloc o) t g n W L := by
  unfold WordsAt
  rw [Below.heap_alloc _ _ _ h.lt]
  exact h
theorem WordsAt.congr (h : WordsAt w t g n W L) (h1 : ∀ i, i < n → W i = W' i) (h2 : ∀ i, i < n → L i = L' i) : WordsAt w t g n W' L' := by
  unfold WordsAt
  rw [← wcells_congr h1 h2]
  exact h
end

theorem cell_other {w : World} {a b : Addr} {v : Value} (h : b.block ≠ a.block) : (w.setCell a v).cell? b = w.cell? b := by
  have : (w.setCell a v).heap[b.block]? = w.heap[b.block]? := heap_setCell_other _ _ _ _ h
  simp only [World.cell?, this]

/-- The closure's variables, and what they lead to. -/
structure LayAt (w0 ws : World) (nb wb ng wg M n : Nat) (X W L : Nat → Nat) : Prop where
  cn : ws.cell? ⟨nb, 0, none⟩ = some (.slice (some ⟨ng, 0, none⟩) (M + 1) (M + 1))
  cw : ws.cell? ⟨wb, 0, none⟩ = some (.slice (some ⟨wg, 0, none⟩) n n)
  nx : IntsAt ws .u32 64 ng (M + 1) X
  wd : WordsAt ws 110 wg n W L
  bel : Below w0.heap.size w0 ws
  o1 : w0.heap.size ≤ ng
  o2 : w0.heap.size ≤ wg
  a1 : nb ≠ ng
  a2 : nb ≠ wg
  a3 : wb ≠ ng
  a4 : wb ≠ wg
  a5 : ng ≠ wg

theorem LayAt.step {w0 ws : World} {nb wb ng wg M n : Nat} {X W L : Nat → Nat} (h : LayAt w0 ws nb wb ng wg M n X W L) (s l x : Nat) (hx : x = X l) :
    LayAt w0 (((ws.setCell ⟨wg, s * 2, none⟩ (.int .u32 (x : Int))).setCell ⟨wg, s * 2 + 1, none⟩ (.int .i64 (l : Int))).setCell ⟨ng, l, none⟩ (.int .u32 ((x + 1 : Nat) : Int))) nb wb ng wg M n (upd X l (x + 1)) (upd W s x) (upd L s l) := by
  subst hx
  refine ⟨?_, ?_, ?_, ?_, ?_, h.o1, h.o2, h.a1, h.a2, h.a3, h.a4, h.a5⟩
  · rw [cell_other (by exact h.a1), cell_other (by exact h.a2), cell_other (by exact h.a2)]; exact h.cn
  · rw [cell_other (by exact h.a3), cell_other (by exact h.a4), cell_other (by exact h.a4)]; exact h.cw
  · exact ((h.nx.other _ _ (by exact h.a5)).other _ _ (by exact h.a5)).set l _
  · exact (h.wd.set s _ _).other _ _ (by exact h.a5.symm)
  · exact ((h.bel.setCell (by exact h.o2) _).setCell (by exact h.o2) _).setCell (by exact h.o1) _

theorem LayAt.drew {w0 ws : World} {nb wb ng wg M n : Nat} {X W L : Nat → Nat} (h : LayAt w0 ws nb wb ng wg M n X W L) : LayAt w0 ws.drew nb wb ng wg M n X W L :=
  ⟨h.cn, h.cw, h.nx, h.wd, h.bel.drew, h.o1, h.o2, h.a1, h.a2, h.a3, h.a4, h.a5⟩

set_option maxRecDepth 100000 in
set_option maxHeartbeats 1000000 in
theorem lay_one (w0 : World) (s l nb wb ng wg M n : Nat) (X W L : Nat → Nat) (w : World) (h : LayAt w0 w nb wb ng wg M n X W L) (hl : l < M + 1) (hM : M ≤ 20) (hs : s < n) (hn : n ≤ 65536) (hx : X l < 100000000) :
    Calls Try.prog 68 #[.int .i64 (s : Int), .int .i64 (l : Int), .pointer (some ⟨nb, 0, none⟩), .pointer (some ⟨wb, 0, none⟩)] w fun e w' => e = .returned (.tuple #[]) ∧ LayAt w0 w' nb wb ng wg M n (upd X l (X l + 1)) (upd W s (X l)) (upd L s l) := by
  have H := hide h.drew
  have c1 := h.cn
  have c2 := h.cw
  have k1 := h.nx.cell l hl
  have k2 := h.nx.free l
  have k3 := h.wd.word s hs
  have k4 := h.wd.len s hs
  have k5 := h.wd.free (s * 2)
  have k6 := h.wd.free (s * 2 + 1)
  have a1 := h.a1
  have a2 := h.a2
  have a3 := h.a3
  have a4 := h.a4
  have a5 := h.a5
  have hl2 := h.nx.lt
  have hl3 := h.wd.lt
  have hln : (l : Int) < (M : Int) + 1 := by omega
  have hsn : (s : Int) < (n : Int) := by omega
  obtain ⟨x, hx'⟩ : ∃ x, x = X l := ⟨_, rfl⟩
  rw [← hx'] at k1 hx ⊢
  have HX := hide hx'
  clear h hx'
  go_enter Try.func68, Try.ntmps68
  go_wp2_with fail
  refine wp_tail 9 (by kernel_rfl) (by kernel_rfl) ?_
  simp only [List.take_succ_cons, List.take_zero, List.drop_succ_cons, List.drop_zero]
  repeat still_step
  try refine wpStill_nil ?_
  replace c1 : w.drew.cell? ⟨nb, 0, none⟩ = some (.slice (some ⟨ng, 0, none⟩) (M + 1) (M + 1)) := c1
  replace c2 : w.drew.cell? ⟨wb, 0, none⟩ = some (.slice (some ⟨wg, 0, none⟩) n n) := c2
  replace k1 : w.drew.cell? ⟨ng, l, none⟩ = some (.int .u32 (x : Int)) := k1
  replace k2 : w.drew.frozen? ⟨ng, l, none⟩ = false := k2
  replace k3 : w.drew.cell? ⟨wg, s * 2, none⟩ = some (.int .u32 (W s : Int)) := k3
  replace k4 : w.drew.cell? ⟨wg, s * 2 + 1, none⟩ = some (.int .i64 (L s : Int)) := k4
  replace k5 : w.drew.frozen? ⟨wg, s * 2, none⟩ = false := k5
  replace k6 : w.drew.frozen? ⟨wg, s * 2 + 1, none⟩ = false := k6
  replace hl2 : ng < w.drew.heap.size := hl2
  replace hl3 : wg < w.drew.heap.size := hl3
  generalize w.drew = wq at *
  go_wp2_with fail
  go_end0
  refine ⟨rfl, ?_⟩
  have := (unhide H).step s l x (unhide HX)
  rw [show ((x + 1 : Nat) : Int) = (x : Int) + 1 by omega] at this
  exact this


set_option maxRecDepth 100000 in
set_option maxHeartbeats 1000000 in
theorem each_lay (w0 : World) (v : Value) (zs : List Int) (nb wb ng wg M : Nat) (w : World) (hr : ReadsI w0 v zs) (hn : zs.length ≤ 65536) (hz : ∀ z ∈ zs, okLen (M : Int) z) (hM : M ≤ 20) (hsum : Canon.sum (nat zs) ≤ 1048576)
    (h : LayAt w0 w nb wb ng wg M zs.length (Canon.fst (nat zs)) (fun _ => 0) (fun _ => 0)) :
    Calls Try.prog 66 #[v, .func (.func 68) #[] #[.pointer (some ⟨nb, 0, none⟩), .pointer (some ⟨wb, 0, none⟩)]] w fun e w' => e = .returned (.tuple #[]) ∧ ∃ X, LayAt w0 w' nb wb ng wg M zs.length X (wdz (nat zs)) (Canon.ln (nat zs)) := by
  obtain ⟨a, cap, rfl, hsp⟩ := hr
  obtain ⟨n, hn'⟩ : ∃ n, n = zs.length := ⟨_, rfl⟩
  have HL : Hid (∀ i, i < n → zs.getD i 0 = (Canon.ln (nat zs) i : Int) ∧ (Canon.ln (nat zs) i : Int) ≤ (M : Int)) := hide (fun i hi => getD_ln zs _ hz i (by omega))
  have HLEN : Hid ((nat zs).length = n) := hide (by simp [nat, hn'])
  have HSP := hide hsp
  rw [← hn'] at hn HSP h ⊢
  generalize hls : nat zs = ls at HL HLEN h hsum ⊢
  have HF := hide (fun l hl => fst_le (ls := ls) hsum l hl)
  have H0 := hide h
  have HN := hide hn'
  clear hsp hz h hls hn' hsum
  go_enter Try.func66, Try.ntmps66
  go_wp2_with fail
  go_loopg [8] n (fun gk d ws => ∃ (k : Nat), gk = n - k ∧ k ≤ n ∧ d = .int .i64 (k : Int) ∧ LayAt w0 ws nb wb ng wg M n (fun l => Canon.fst ls l + Canon.cn (ls.take k) l) (fun i => if i < k then wdz ls i else 0) (fun i => if i < k then Canon.ln ls i else 0))
  case atStart =>
    refine ⟨0, by omega, by omega, rfl, ?_⟩
    have := unhide H0
    refine ⟨this.cn, this.cw, this.nx.congr (fun i _ => by simp [Canon.cn]), this.wd.congr (fun i _ => by simp) (fun i _ => by simp), this.bel, this.o1, this.o2, this.a1, this.a2, this.a3, this.a4, this.a5⟩
  case round =>
    obtain ⟨k, rfl, hk, rfl, hst⟩ := hrel
    clear H0
    by_cases hlt : k < n
    · obtain ⟨b, off, rfl, hcell⟩ := unhide HSP (by omega)
      have k1 := cell_stays hst.bel (hcell k (by have := unhide HN; omega))
      obtain ⟨h1, h2⟩ := unhide HL k hlt
      rw [h1] at k1
      have hki : (k : Int) < (n : Int) := by omega
      have HLN := unhide HLEN
      by_cases h0 : 0 < Canon.ln ls k
      · have hcn := cn_take_succ ls k (by omega) h0
        have hfl := unhide HF (Canon.ln ls k) (by omega)
        have hcl : Canon.cn (ls.take k) (Canon.ln ls k) ≤ Canon.cn ls (Canon.ln ls k) := by
          unfold Canon.cn
          rw [if_neg (by omega), if_neg (by omega)]
          have := Canon.count_take_le ls (Canon.ln ls k) (show k ≤ ls.length by omega)
          rw [List.take_length] at this
          exact this
        have hxl : Canon.fst ls (Canon.ln ls k) + Canon.cn (ls.take k) (Canon.ln ls k) < 100000000 := by omega
        have hwd : Canon.fst ls (Canon.ln ls k) + Canon.cn (ls.take k) (Canon.ln ls k) = wdz ls k := by
          rw [wdz, if_neg (by omega), Canon.wd, Canon.rk, Canon.cn, if_neg (by omega)]
        have HN2 : Hid (∀ w', LayAt w0 w' nb wb ng wg M n (upd (fun l => Canon.fst ls l + Canon.cn (ls.take k) l) (Canon.ln ls k) (Canon.fst ls (Canon.ln ls k) + Canon.cn (ls.take k) (Canon.ln ls k) + 1)) (upd (fun i => if i < k then wdz ls i else 0) k (Canon.fst ls (Canon.ln ls k) + Canon.cn (ls.take k) (Canon.ln ls k))) (upd (fun i => if i < k then Canon.ln ls i else 0) k (Canon.ln ls k)) →
            LayAt w0 w' nb wb ng wg M n (fun l => Canon.fst ls l + Canon.cn (ls.take (k + 1)) l) (fun i => if i < k + 1 then wdz ls i else 0) (fun i => if i < k + 1 then Canon.ln ls i else 0)) := by
          intro w' h
          refine ⟨h.cn, h.cw, h.nx.congr (fun i _ => ?_), h.wd.congr (fun i _ => ?_) (fun i _ => ?_), h.bel, h.o1, h.o2, h.a1, h.a2, h.a3, h.a4, h.a5⟩
          · rw [hcn i]
            unfold upd
            by_cases e : i = Canon.ln ls k
            · rw [if_pos e, if_pos e, e]; omega
            · rw [if_neg e, if_neg e]
          · unfold upd
            by_cases e : i = k
            · rw [if_pos e, if_pos (by omega), e]; exact hwd
            · rw [if_neg e]
              dsimp only
              by_cases e2 : i < k
              · rw [if_pos e2, if_pos (by omega)]
              · rw [if_neg e2, if_neg (by omega)]
          · unfold upd
            by_cases e : i = k
            · rw [if_pos e, if_pos (by omega), e]
            · rw [if_neg e]
              dsimp only
              by_cases e2 : i < k
              · rw [if_pos e2, if_pos (by omega)]
              · rw [if_neg e2, if_neg (by omega)]
        have HXL := hide hxl
        have HST := hide hst
        have hlM : Canon.ln ls k < M + 1 := by omega
        have HLK : Hid (∀ w', LayAt w0 w' nb wb ng wg M n (fun l => Canon.fst ls l + Canon.cn (ls.take k) l) (fun i => if i < k then wdz ls i else 0) (fun i => if i < k then Canon.ln ls i else 0) →
            Calls Try.prog 68 #[.int .i64 (k : Int), .int .i64 (Canon.ln ls k : Int), .pointer (some ⟨nb, 0, none⟩), .pointer (some ⟨wb, 0, none⟩)] w' fun e w' => e = .returned (.tuple #[]) ∧ LayAt w0 w' nb wb ng wg M n (upd (fun l => Canon.fst ls l + Canon.cn (ls.take k) l) (Canon.ln ls k) (Canon.fst ls (Canon.ln ls k) + Canon.cn (ls.take k) (Canon.ln ls k) + 1)) (upd (fun i => if i < k then wdz ls i else 0) k (Canon.fst ls (Canon.ln ls k) + Canon.cn (ls.take k) (Canon.ln ls k))) (upd (fun i => if i < k then Canon.ln ls i else 0) k (Canon.ln ls k))) := by
          intro w' h
          exact lay_one w0 k (Canon.ln ls k) nb wb ng wg M n _ _ _ w' h hlM hM hlt hn (unhide HXL)
        have e0 : (0 : Int) < (Canon.ln ls k : Int) := by omega
        clear hcell h1 hst HLN hcn hfl hcl hxl hwd h0 HXL
        go_wp2_with (go_at_call 68; go_must (refine (unhide HLK _ (unhide HST)).mono ?_; rintro e w' ⟨rfl, hq⟩; have HQ := hide hq; clear hq))
        go_roundg (n - (k + 1))
        case measure => omega
        case rel => exact ⟨k + 1, rfl, by omega, by go_num, unhide HN2 _ (unhide HQ)⟩
      · have e0 : ¬ (0 : Int) < (Canon.ln ls k : Int) := by omega
        have hcn := cn_take_same ls k (by omega) h0
        have HN2 : Hid (LayAt w0 wr nb wb ng wg M n (fun l => Canon.fst ls l + Canon.cn (ls.take (k + 1)) l) (fun i => if i < k + 1 then wdz ls i else 0) (fun i => if i < k + 1 then Canon.ln ls i else 0)) := by
          have h := hst
          refine ⟨h.cn, h.cw, h.nx.congr (fun i _ => ?_), h.wd.congr (fun i _ => ?_) (fun i _ => ?_), h.bel, h.o1, h.o2, h.a1, h.a2, h.a3, h.a4, h.a5⟩
          · rw [hcn i]
          · by_cases e : i = k
            · rw [if_neg (by omega), if_pos (by omega), e, wdz, if_pos (by omega)]
            · by_cases e2 : i < k
              · rw [if_pos e2, if_pos (by omega)]
              · rw [if_neg e2, if_neg (by omega)]
          · by_cases e : i = k
            · rw [if_neg (by omega), if_pos (by omega), e]; omega
            · by_cases e2 : i < k
              · rw [if_pos e2, if_pos (by omega)]
              · rw [if_neg e2, if_neg (by omega)]
        clear hcell h1 hst HLN hcn h0
        go_wp2_with fail
        go_roundg (n - (k + 1))
        case measure => omega
        case rel => exact ⟨k + 1, rfl, by omega, by go_num, unhide HN2⟩
    · obtain rfl : k = n := by omega
      have HST := hide hst
      clear hst
      go_wp2_with fail
      go_end0
      have h := unhide HST
      exact ⟨rfl, _, h.cn, h.cw, h.nx, h.wd.congr (fun i hi => by rw [if_pos hi]) (fun i hi => by rw [if_pos hi]), h.bel, h.o1, h.o2, h.a1, h.a2, h.a3, h.a4, h.a5⟩


theorem alloc_cell (w : World) (o : Obj) (a : Addr) (h : a.block < w.heap.size) : (w.alloc o).cell? a = w.cell? a := by
  simp only [World.cell?, Below.heap_alloc _ _ _ h]

/-- The first words of the lengths below k. -/
structure NextAt (w ws : World) (ng M : Nat) (ls : List Nat) (k : Nat) : Prop where
  hg : ng = w.heap.size
  var : ws.cell? ⟨ng + 1, 0, none⟩ = some (.slice (some ⟨ng, 0, none⟩) (M + 1) (M + 1))
  nx : IntsAt ws .u32 64 ng (M + 1) (fun l => if l < k then Canon.fst ls l else 0)
  bel : Below w.heap.size w ws
  size : ws.heap.size = ng + 2

theorem NextAt.start (w : World) (M : Nat) (ls : List Nat) : NextAt w ((w.alloc (.cells (icells .u32 (M + 1) fun _ => 0) 64)).alloc (.cells #[.slice (some ⟨w.heap.size, 0, none⟩) (M + 1) (M + 1)] 108)) w.heap.size M ls 1 := by
  refine ⟨rfl, ?_, ?_, ((Below.refl _ _).alloc (Nat.le_refl _) _).alloc (by simp) _, by simp⟩
  · have h1 : ((w.alloc (.cells (icells .u32 (M + 1) fun _ => 0) 64)).alloc (.cells #[.slice (some ⟨w.heap.size, 0, none⟩) (M + 1) (M + 1)] 108)).heap[w.heap.size + 1]? = some (.cells #[.slice (some ⟨w.heap.size, 0, none⟩) (M + 1) (M + 1)] 108 (0, 0)) := by
      rw [show w.heap.size + 1 = (w.alloc (.cells (icells .u32 (M + 1) fun _ => 0) 64)).heap.size by simp]
      exact heap_alloc_new _ _
    simp only [World.cell?, h1]
    rfl
  · refine (IntsAt.alloc (show IntsAt _ _ _ _ _ _ from heap_alloc_new w _) _).congr (fun i _ => ?_)
    by_cases e : i < 1
    · obtain rfl : i = 0 := by omega
      simp [Canon.fst]
    · rw [if_neg e]

theorem NextAt.step {w ws : World} {ng M : Nat} {ls : List Nat} {m : Nat} (h : NextAt w ws ng M ls (m + 1)) (hm : m + 1 < M + 1) :
    NextAt w (ws.setCell ⟨ng, m + 1, none⟩ (.int .u32 (((Canon.fst ls m + Canon.cn ls m) * 2 : Nat) : Int))).drew ng M ls (m + 1 + 1) := by
  refine ⟨h.hg, ?_, ?_, (h.bel.setCell (by rw [h.hg]; exact Nat.le_refl _) _).drew, by simpa using h.size⟩
  · show (ws.setCell _ _).cell? _ = _
    rw [cell_other (by simp)]; exact h.var
  · refine (h.nx.set (m + 1) _).congr (fun i _ => ?_)
    unfold upd
    by_cases e : i = m + 1
    · rw [if_pos e, if_pos (by omega), e]; rfl
    · rw [if_neg e]
      dsimp only
      by_cases e2 : i < m + 1
      · rw [if_pos e2, if_pos (by omega)]
      · rw [if_neg e2, if_neg (by omega)]

theorem NextAt.lay {w wr : World} {ng M : Nat} {zs : List Int} (h : NextAt w wr ng M (nat zs) (M + 1)) :
    LayAt w ((wr.alloc (.cells (wcells zs.length (fun _ => 0) fun _ => 0) 110)).alloc (.cells #[.slice (some ⟨wr.heap.size, 0, none⟩) zs.length zs.length] 95)) (ng + 1) (wr.heap.size + 1) ng wr.heap.size M zs.length (Canon.fst (nat zs)) (fun _ => 0) (fun _ => 0) := by
  have hg := h.hg
  have hsz := h.size
  refine ⟨?_, ?_, ?_, ?_, ?_, by omega, by omega, by omega, by omega, by omega, by omega, by omega⟩
  · rw [alloc_cell _ _ _ (by simp [hsz]), alloc_cell _ _ _ (by simp [hsz])]; exact h.var
  · have h1 : ((wr.alloc (.cells (wcells zs.length (fun _ => 0) fun _ => 0) 110)).alloc (.cells #[.slice (some ⟨wr.heap.size, 0, none⟩) zs.length zs.length] 95)).heap[wr.heap.size + 1]? = some (.cells #[.slice (some ⟨wr.heap.size, 0, none⟩) zs.length zs.length] 95 (0, 0)) := by
      rw [show wr.heap.size + 1 = (wr.alloc (.cells (wcells zs.length (fun _ => 0) fun _ => 0) 110)).heap.size by simp]
      exact heap_alloc_new _ _
    simp only [World.cell?, h1]
    rfl
  · exact ((h.nx.congr (fun i hi => by rw [if_pos hi])).alloc _).alloc _
  · exact WordsAt.alloc (show WordsAt _ _ _ _ _ _ from heap_alloc_new wr _) _
  · exact (h.bel.alloc h.bel.size _).alloc (by simp; omega) _

end Go.Proofs.Ytppbnodgnphaaaa
