/- The program's Places. -/
import Derived.Test.YtgafabhhalhccaaRs
namespace Go.Proofs.Ytgafabhhalhccaa
open Go.RowKit Runs
set_option maxRecDepth 100000
set_option linter.unusedVariables false
attribute [local go_sem ↓] Go.wp_at_zero Go.wp_at_succ

theorem IntsIn.stays {w w' : World} {a0 : Option Addr} {b : List Int} (h : IntsIn w a0 b) (hb : Below w.heap.size w w') : IntsIn w' a0 b := fun j hj => by
  obtain ⟨g, off, e, hc⟩ := h j hj
  exact ⟨g, off, e, by rw [hb.cell (cell_lt hc)]; exact hc⟩

theorem BoxAt.stays {w w' : World} {g : Nat} {t : TypeId} {v : Value} (h : BoxAt w g t v) (hb : Below w.heap.size w w') : BoxAt w' g t v := by
  have hl := h.lt
  unfold BoxAt at h ⊢
  rw [hb.block g hl]
  exact h

set_option maxHeartbeats 4000000 in
theorem ps1_ok (ss : List Int) (a0 : Option Addr) (cap gs gn : Nat) (n : Int) (w : World) (fn : Nat) (cb : Array Value) (m : Int) (B : Prop) (I : List Int → World → Prop) (K : World → Prop) (hs : BoxAt w gs 32 (.slice a0 ss.length cap)) (hg : BoxAt w gn 3 (.int .i64 n)) (hT : TellerI fn cb m B I K) (hI : I [] w) (hm : 0 ≤ m)
    (hc : ∀ out W, I out W → IntsIn W a0 ss) (hcap : ss.length ≤ cap) (hn1 : 1 ≤ n) (hn2 : n ≤ 256) (hN : ss.length ≤ 2000000) (hB : B ∨ ∃ r, plcI n m ss 0 0 [] = (r, 0)) :
    Calls Try.prog 38 #[.func (.func fn) #[] cb, .pointer (some ⟨gs, 0, none⟩), .pointer (some ⟨gn, 0, none⟩)] w fun e w' => RsIs (plcI n m ss 0 0 []) I K e w' := by
  have c1 := hs.cell
  have c2 := hg.cell
  have HR := hide (rs_ok ss a0 cap n w fn cb m B I K hT hI hm hc hcap hn1 hn2 hN hB)
  obtain ⟨N, hNN⟩ : ∃ N, N = ss.length := ⟨_, rfl⟩
  obtain ⟨U, hU⟩ : ∃ U, U = plcI n m ss 0 0 [] := ⟨_, rfl⟩
  rw [← hNN] at HR c1
  rw [← hU] at HR ⊢
  clear hs hg hT hI hc hB hNN hU hN hcap
  go_enter Try.func38, Try.ntmps38
  go_wp2_with fail
  refine (unhide HR).mono ?_
  rintro e w1 ⟨rfl, h2, h3⟩
  have H2 := hide h2
  have H3 := hide h3
  clear h2 h3
  go_wp2_with fail
  go_ret
  exact ⟨rfl, unhide H2, unhide H3⟩

theorem ps_reading (ss : List Int) (a0 : Option Addr) (cap gs gn : Nat) (n : Int) (w : World) (hs : BoxAt w gs 32 (.slice a0 ss.length cap)) (hg : BoxAt w gn 3 (.int .i64 n)) (hc : IntsIn w a0 ss) (hcap : ss.length ≤ cap) (hn1 : 1 ≤ n) (hn2 : n ≤ 256) (hN : ss.length ≤ 2000000) :
    Reading w 38 #[.pointer (some ⟨gs, 0, none⟩), .pointer (some ⟨gn, 0, none⟩)] (fun m => plcI n m ss 0 0 []) where
  enter := Try.call38
  call := fun W fn cb m B I K hT hI hm hbel hB => ps1_ok ss a0 cap gs gn n W fn cb m B I K (hs.stays (hbel _ _ hI)) (hg.stays (hbel _ _ hI)) hT hI hm (fun out X h => hc.stays (hbel _ _ h)) hcap hn1 hn2 hN hB
  less := fun m m' r h hm => plcI_less n m m' ss 0 0 [] r (by omega) h hm
  err := fun m h => plcI_err n m ss 0 0 [] h
  small := fun m r h => by
    have := (plcI_mono n m ss 0 0 [] r (by omega) h).2
    simp at this
    omega

theorem St.base {w0 w1 w : World} {v : Value} {xs : List Value} (h : St w1 w v xs) (hb : Below w0.heap.size w0 w1) : St w0 w v xs := by
  refine ⟨⟨h.own.1, ?_⟩, hb.trans (h.bel.mono hb.size)⟩
  rcases h.own.2 with e | ⟨g, cap, cur, e, hg, r⟩
  · exact .inl e
  · exact .inr ⟨g, cap, cur, e, Nat.le_trans hb.size hg, r⟩

set_option maxHeartbeats 4000000 in
theorem pplaces_ok (ss : List Int) (a0 : Option Addr) (cap : Nat) (n most : Int) (w : World) (hc : IntsIn w a0 ss) (hcap : ss.length ≤ cap) (hN : ss.length ≤ 2000000) (hm2 : most ≤ 9223372036854775807) :
    Calls Try.prog 21 #[.slice a0 ss.length cap, .int .i64 n, .int .i64 most] w fun e w' => ToldI w (placesOut ss n most) e w' := by
  obtain ⟨w1, hw1⟩ : ∃ w1, w1 = (w.alloc (.cells #[.slice a0 ss.length cap] 32)).alloc (.cells #[.int .i64 n] 3) := ⟨_, rfl⟩
  have hbel : Below w.heap.size w w1 := by rw [hw1]; exact ((Below.refl _ _).alloc (Nat.le_refl _) _).alloc (by simp) _
  have hs : BoxAt w1 w.heap.size 32 (.slice a0 ss.length cap) := by
    unfold BoxAt
    rw [hw1, Below.heap_alloc _ _ _ (by simp), heap_alloc_new]
  have hg : BoxAt w1 (w.alloc (.cells #[.slice a0 ss.length cap] 32)).heap.size 3 (.int .i64 n) := by
    unfold BoxAt
    rw [hw1, heap_alloc_new]
  rw [show (w.alloc (.cells #[.slice a0 ss.length cap] 32)).heap.size = w.heap.size + 1 by simp] at hg
  have HX := hide (fun (h0 : 0 ≤ most) (h1 : 1 ≤ n) (h2 : n ≤ 256) => unrI_ok most w1 38 _ _ (ps_reading ss a0 cap w.heap.size (w.heap.size + 1) n w1 hs hg (hc.stays hbel) hcap h1 h2 hN) h0 hm2)
  have HBEL := hide hbel
  have HMB := hide (mayBe_ok n w1)
  have c2 := hg.cell
  obtain ⟨N, hNN⟩ : ∃ N, N = ss.length := ⟨_, rfl⟩
  rw [← hNN] at hw1 ⊢
  clear hc hbel hs hg hNN hN hcap
  by_cases hn : 1 ≤ n ∧ n ≤ 256
  case neg =>
    have hb : (decide (1 ≤ n) && decide (n ≤ 256)) = false := by
      rw [Bool.and_eq_false_iff, decide_eq_false_iff_not, decide_eq_false_iff_not]; omega
    rw [hb] at HMB
    have e1 : placesOut ss n most = ([], 2) := by unfold placesOut; rw [if_pos (by omega)]
    rw [e1]
    clear hb HX hn e1
    go_enter Try.func21, Try.ntmps21
    go_wp2_with fail
    rw [← hw1]
    clear hw1
    refine (unhide HMB).mono ?_
    rintro e w2 ⟨rfl, rfl⟩
    go_wp2_with fail
    go_ret2
    exact ⟨_, rfl, St.none w _ (unhide HBEL)⟩
  have hb : (decide (1 ≤ n) && decide (n ≤ 256)) = true := by
    rw [Bool.and_eq_true, decide_eq_true_iff, decide_eq_true_iff]; exact hn
  rw [hb] at HMB
  clear hb
  by_cases hneg : most < 0
  · have e1 : placesOut ss n most = ([], 2) := by unfold placesOut; rw [if_pos (by omega)]
    have d1 : decide (most < 0) = true := decide_eq_true hneg
    rw [e1]
    clear HX hn e1
    go_enter Try.func21, Try.ntmps21
    go_wp2_with fail
    rw [← hw1]
    clear hw1
    refine (unhide HMB).mono ?_
    rintro e w2 ⟨rfl, rfl⟩
    go_wp2_with fail
    go_ret2
    exact ⟨_, rfl, St.none w _ (unhide HBEL)⟩
  · have e1 : placesOut ss n most = plcI n most ss 0 0 [] := by unfold placesOut; rw [if_neg (by omega)]
    have d1 : decide (most < 0) = false := decide_eq_false hneg
    rw [e1]
    have HX2 := hide (unhide HX (by omega) hn.1 hn.2)
    generalize plcI n most ss 0 0 [] = U at *
    clear HX hn e1
    go_enter Try.func21, Try.ntmps21
    go_wp2_with fail
    rw [← hw1]
    clear hw1
    refine (unhide HMB).mono ?_
    rintro e w2 ⟨rfl, rfl⟩
    go_wp2_with fail
    refine (unhide HX2).mono ?_
    rintro e w3 ⟨v, rfl, h2⟩
    have H2 := hide h2
    clear h2 HX2
    go_wp2_with fail
    go_ret2
    exact ⟨_, rfl, (unhide H2).base (unhide HBEL)⟩
end Go.Proofs.Ytgafabhhalhccaa
