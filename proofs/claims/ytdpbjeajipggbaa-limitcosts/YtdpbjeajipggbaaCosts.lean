/- LimitCosts: any numbers and lengths have the document's cost, or none. -/
import Derived.Test.YtdpbjeajipggbaaRefCost
import Derived.Test.YtdpbjeajipggbaaApp
namespace Go.Proofs.Ytdpbjeajipggbaa
open Go.RowKit
set_option linter.unusedVariables false

attribute [local go_sem ↓] Go.wp_at_zero Go.wp_at_succ

set_option maxRecDepth 100000 in
set_option maxHeartbeats 2000000 in
theorem costs_walk (a b : Option Addr) (ca cb : Nat) (os ls : List Int) (w : World) (h1 : ReadsN w a ca os) (h2 : ReadsN w b cb ls) (hn1 : os.length * 8 ≤ 140737488351232) (hn2 : ls.length * 8 ≤ 140737488351232) :
    Calls Try.prog 4 #[.slice a os.length ca, .slice b ls.length cb] w fun e w' => e = .returned (.bool true) ∧ Below w.heap.size w w' := by
  obtain ⟨n, hn⟩ : ∃ n, n = os.length := ⟨_, rfl⟩
  obtain ⟨m, hm⟩ : ∃ m, m = ls.length := ⟨_, rfl⟩
  have HR1 := hide h1.reads
  have HR2 := hide h2.reads
  have H1 := hide h1
  have H2 := hide h2
  rw [← hn] at hn1 HR1 ⊢
  rw [← hm] at hn2 HR2 ⊢
  have HN := hide hn
  have HM := hide hm
  clear h1 h2 hn hm
  go_enter Try.func4, Try.ntmps4
  go_upto_region 1 with fail
  have HA0 : Hid (ReadsN (w.alloc (.cells #[] 3)) a ca os) := hide ((unhide H1).stays ((Below.refl _ _).alloc (Nat.le_refl _) _))
  go_wp2_with (first | (at_builtin; refine wpList_append_ints rfl (.tmp 10) (.tmp 11) rfl w.heap.size (.slice (some ⟨w.heap.size, 0, none⟩) 0 0) 0 [] (by rfl) (built_own w _ (Nat.le_refl _)) a n ca os (unhide HN) (by rfl) (unhide HA0) (by omega) (by simp) ?_; intro v1 w1 hown1 hgrow1 _; have HO1 := hide hown1; have HB1 : Hid (Below w.heap.size w w1) := hide (((Below.refl _ _).alloc (Nat.le_refl _) _).trans (grown_below hgrow1 (by simp) (Nat.le_refl _))); clear hown1 hgrow1; have HA1 : Hid (ReadsN (w1.alloc (.cells #[] 3)) b cb ls) := hide ((unhide H2).stays ((unhide HB1).trans ((Below.refl _ _).alloc (unhide HB1).size _)))) | (at_builtin; go_must (refine wpList_append_ints rfl (.tmp 13) (.tmp 14) rfl w1.heap.size (.slice (some ⟨w1.heap.size, 0, none⟩) 0 0) 0 [] (by rfl) (built_own w1 _ (Nat.le_refl _)) b m cb ls (unhide HM) (by rfl) (unhide HA1) (by omega) (by simp) ?_; intro v2 w2 hown2 hgrow2 _; have HO2 := hide hown2; have HB2 : Hid (Below w1.heap.size w1 w2) := hide (((Below.refl _ _).alloc (Nat.le_refl _) _).trans (grown_below hgrow2 (by simp) (Nat.le_refl _))); clear hown2 hgrow2)))
  have HRA : Hid (ReadsI w2 v1 os) := hide ((own_reads (by simpa using unhide HO1) (by simpa using unhide HN)).stays (unhide HB2))
  have HRB : Hid (ReadsI w2 v2 ls) := hide (own_reads (by simpa using unhide HO2) (by simpa using unhide HM))
  have HB : Hid (Below w.heap.size w w2) := hide ((unhide HB1).trans ((unhide HB2).mono (unhide HB1).size))
  have HL1 : Hid (os.length ≤ 140737488355328) := hide (by rw [← unhide HN]; omega)
  have HL2 : Hid (ls.length ≤ 140737488355328) := hide (by rw [← unhide HM]; omega)
  have HRC := hide ((unhide HR1).stays (unhide HB))
  have HRD := hide ((unhide HR2).stays (unhide HB))
  clear HB1 HB2 HO1 HO2 HR1 HR2 H1 H2
  go_wp2_with (first | (go_at_call 10; refine (names_ok _).mono ?_; rintro e w' ⟨rfl, rfl⟩) | (go_at_call 11; go_must (refine (cost_ok os ls _ _ _ (unhide HRA) (unhide HRB) (unhide HL1) (unhide HL2)).mono ?_; rintro e w' ⟨x1, e1, rfl, hc, rfl⟩; have HC := hide hc; clear hc)) | (go_at_call 12; go_must (refine (refcost_ok os ls _ _ _ (unhide HRC) (unhide HRD) (unhide HL1) (unhide HL2)).mono ?_; rintro e w' ⟨x2, e2, rfl, hc, q, rfl⟩; obtain ⟨rfl, rfl⟩ := (unhide HC).one hc; clear hc)))
  go_ret
  exact ⟨rfl, below_drewN (unhide HB) q⟩

end Go.Proofs.Ytdpbjeajipggbaa
