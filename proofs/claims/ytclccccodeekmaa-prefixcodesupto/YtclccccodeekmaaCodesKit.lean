/- The document's Put; what PrefixCodes keeps. -/
import Derived.Test.YtclccccodeekmaaBack
import Derived.Test.YtclccccodeekmaaRefTwo
import Derived.Test.YtclccccodeekmaaRefGet
namespace Go.Proofs.Ytclccccodeekmaa
open Go.RowKit Mth
set_option linter.unusedVariables false

set_option maxRecDepth 100000 in
set_option maxHeartbeats 1000000 in
theorem refput_ok (ls : List Nat) (rg n s : Nat) (w : World) (hg : Good ls) (hlen : ls.length = n) (hs : s < n) (h0 : 0 < Canon.ln ls s) (hw : WordsAt w 43 rg n (wdz ls) (Canon.ln ls)) :
    Calls Try.prog 18 #[.slice (some ⟨rg, 0, none⟩) n n, .int .i64 (s : Int)] w fun e w' => ∃ lv, e = .returned lv ∧ w'.ownsRow w.heap.size 3 1 lv (Canon.ln ls s) ((bitsOf true (Canon.wd ls s) (Canon.ln ls s)).map bi) ∧ Below w.heap.size w w' := by
  have hh := hg.has (i := s) (by omega) h0
  have hl20 := hh.2.2
  have hwd := Canon.wd_lt hh hg.sum
  have k1 := hw.word s hs
  have k2 := hw.len s hs
  rw [show wdz ls s = Canon.wd ls s from if_neg (by omega)] at k1
  have hW : Canon.wd ls s < 1048576 := Nat.lt_of_lt_of_le hwd (Nat.pow_le_pow_right (by decide) hl20)
  generalize Canon.wd ls s = W at *
  generalize Canon.ln ls s = L at *
  have hsn : (s : Int) < (n : Int) := by omega
  have HB := hide (bits_ok W L true w.drew (by omega) (by omega))
  have hu : IntKind.u64.wrap (W : Int) = (W : Int) := IntWalk.u64_in _ (by omega)
  clear hh hwd hw
  go_enter Try.func18, Try.ntmps18
  go_wp2_with fail
  refine wp_tail 11 (by kernel_rfl) (by kernel_rfl) ?_
  simp only [List.take_succ_cons, List.take_zero, List.drop_succ_cons, List.drop_zero]
  repeat still_step
  try refine wpStill_nil ?_
  go_wp2_with (go_at_call 37; go_must (refine (unhide HB).mono ?_; rintro e w' ⟨lv, rfl, h1, h2⟩; have H1 := hide h1; have H2 := hide h2; clear h1 h2))
  go_ret
  exact ⟨lv, rfl, unhide H1, ⟨(unhide H2).os, (unhide H2).tape, (unhide H2).output, (unhide H2).size, (unhide H2).block⟩⟩

/-- bits as ints -/
def ti (L : List Bool) : List Int := L.map fun b => (b.toNat : Int)
theorem ti_bi (L : List Bool) : (ti L).map iv = L.map bi := by simp [ti, iv, bi, List.map_map, Function.comp_def]
theorem ti_length (L : List Bool) : (ti L).length = L.length := by simp [ti]

section
variable {ls : List Nat} {w ws w' w1 : World} {cp lo hi bx pb m f rg n : Nat} {box : Array Value} {high : Bool} {v : Value} {L : List Bool} {v10 : Value} {ss ts : List Int}

theorem BackAt.below (h : BackAt ls w ws cp lo hi bx box pb high v m f L v10 ss) (hb : Below ws.heap.size ws w') : BackAt ls w w' cp lo hi bx box pb high v m f L v10 ss := by
  have hpb := h.wr.lt
  have hb1 := h.b1
  have hb2 := h.b2
  exact ⟨h.code.below hb (by omega), by rw [hb.block _ (by omega)]; exact h.box, h.wr.below hb, h.f7, own_keep h.own (fun g hg => hb.block g (h.own.lt g hg).2), h.bel.trans (hb.mono h.bel.size), h.b1, h.b2, h.b3, h.dis⟩

theorem BackAt.appN (h : BackAt ls w ws cp lo hi bx box pb high v m f L v10 ss) {k g cap : Nat} (hk : ts.length = k) (hown : w1.ownsRow (pb + 1) 3 1 (.slice (some ⟨g, 0, none⟩) (ss.length + k) cap) (ss.length + k) (ss.map iv ++ ts.map iv)) (hg : ws.grownBy w1 v10.ownBlock) (hat : v10.ownBlock = some g ∨ g = ws.heap.size) :
    BackAt ls w w1 cp lo hi bx box pb high v m f L (.slice (some ⟨g, 0, none⟩) (ss.length + k) cap) (ss ++ ts) := by
  have hpb := h.wr.lt
  have hv10 : ∀ k, v10.ownBlock = some k → pb + 1 ≤ k := fun k e => (h.own.lt k e).1
  have kp : ∀ k, k ≤ pb → w1.heap[k]? = ws.heap[k]? := fun k hk => hg.block k (by omega) (fun e => by have := hv10 k e.symm; omega)
  refine ⟨h.code.keep (fun k _ h2 => kp k (by have := h.b1; omega)), by rw [kp _ (by have := h.b2; omega)]; exact h.box, h.wr.keep (kp _ (Nat.le_refl _)) (fun k hk => hg.block k (h.wr.row.lt k hk).2 (fun e => h.dis k e.symm hk)), h.f7, ?_, ?_, h.b1, h.b2, h.b3, fun k hk => ?_⟩
  · rw [List.length_append, List.map_append, hk]; exact hown
  · exact h.bel.trans ⟨hg.os, hg.tape, hg.output, hg.size, fun k hk => hg.block k (by have := h.b3; omega) (fun e => by have := hv10 k e.symm; have := h.b3; omega)⟩
  · injection hk with hk
    subst hk
    rcases hat with e | e
    · exact h.dis _ e
    · intro c; have h2 : g < ws.heap.size := (h.wr.row.lt g c).2; omega

theorem words_chg {v' : Value} (h : BackAt ls w ws cp lo hi bx box pb high v m f L v10 ss) (hr : rg < pb) (hw : WordsAt ws 43 rg n (wdz ls) (Canon.ln ls)) (hc : Chg pb v ws v' w') : WordsAt w' 43 rg n (wdz ls) (Canon.ln ls) := by
  have hpb := h.wr.lt
  unfold WordsAt
  rw [hc.keep rg (by omega) (by omega) (fun e => by have := (h.wr.row.lt rg e).1; omega)]
  exact hw

theorem words_app (h : BackAt ls w ws cp lo hi bx box pb high v m f L v10 ss) (hr : rg < pb) (hw : WordsAt ws 43 rg n (wdz ls) (Canon.ln ls)) (hg : ws.grownBy w1 v10.ownBlock) : WordsAt w1 43 rg n (wdz ls) (Canon.ln ls) := by
  have hpb := h.wr.lt
  unfold WordsAt
  rw [hg.block rg (by omega) (fun e => by have := (h.own.lt rg e.symm).1; omega)]
  exact hw

end

theorem row_some {w : World} {base N : Nat} {lv : Value} {xs : List Value} (h : w.ownsRow base 3 1 lv N xs) (h0 : 0 < N) : ∃ g c, lv = .slice (some ⟨g, 0, none⟩) N c ∧ ∀ (j : Nat) u, xs[j]? = some u → w.cell? ((⟨g, 0, none⟩ : Addr).add j) = some u := by
  rcases h.2 with ⟨_, rfl⟩ | ⟨g, c, cur, e, _⟩
  · omega
  · refine ⟨g, c, e, fun j u hj => h.cells (by rw [e]; rfl) j u hj⟩

theorem conv_block {w : World} {g n cap : Nat} {zs : List Nat} (h : w.heap[g]? = some (.cells (zs.map bv).toArray 5 (0, 0))) (hn : zs.length = n) (hs : ∀ z ∈ zs, z < 256) :
    (convert 45 9 (.slice (some ⟨g, 0, none⟩) n cap)).run Try.prog w = .ok (.string ⟨(zs.map UInt8.ofNat).toArray⟩) w := by
  subst hn
  exact conv_run w g cap zs hs h

end Go.Proofs.Ytclccccodeekmaa
