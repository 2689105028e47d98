/- The program's Front: bytes by how lately they came. -/
import Derived.Test.YtgafabhhalhccaaBo
import Derived.Deep.RegionWith
import Derived.StillTailTactics
namespace Go.Proofs.Ytgafabhhalhccaa
open Go.RowKit Runs
set_option maxRecDepth 100000
set_option linter.unusedVariables false
attribute [local go_sem ↓] Go.wp_at_zero Go.wp_at_succ

theorem zero51 (w : World) : (zeroValue 57).run Try.prog w = .ok (.agg ((List.replicate 256 0).map bv).toArray) w :=
  (zero_of_info (P := Try.prog) (t := 57) (v := .agg ((List.replicate 256 0).map bv).toArray) (n := 256) (by kernel_rfl)).1 w

theorem toFront_app {l : List Nat} {k : Nat} (hk : k < l.length) (z : List Nat) : toFront (l ++ z) k = toFront l k ++ z := by
  unfold toFront
  rw [List.getD_eq_getElem?_getD, List.getElem?_append_left hk, ← List.getD_eq_getElem?_getD, List.take_append_of_le_length (by omega), List.drop_append_of_le_length (by omega)]
  simp

theorem splice_used (u : List Nat) (hu : u.length ≤ 256) : splice ((List.replicate 256 0).map bv) 0 (u.map bv) = (u ++ List.replicate (256 - u.length) 0).map bv := by
  unfold splice
  rw [List.take_zero, List.nil_append, List.map_replicate, List.drop_replicate, List.length_map, Nat.zero_add, List.map_append, List.map_replicate]

set_option maxHeartbeats 4000000 in
theorem pfront_ok (b : List Nat) (a0 : Option Addr) (cap : Nat) (w : World) (hc : BytesIn w a0 b) (hb : ∀ z ∈ b, z < 256) (hn : b.length ≤ 1048576) :
    Calls Try.prog 14 #[.slice a0 b.length cap] w fun e w' => ∃ v g, e = .returned (.tuple #[v, .slice (some ⟨g, 0, none⟩) b.length b.length]) ∧ Row w.heap.size g w' v .u8 5 (usedF b) ∧ w.heap.size ≤ g ∧ IntsAt w' .i64 3 g b.length (fun i => (frontF b).getD i 0) ∧ Below w.heap.size w w' := by
  have HC := hide hc
  have HBB := hide hb
  have HB0 := hide (fun W (hW : Below w.heap.size w W) => bytesOf_ok b a0 cap W (hc.stays hW) hb hn)
  obtain ⟨n, hN⟩ : ∃ n, n = b.length := ⟨_, rfl⟩
  have HN := hide hN
  rw [← hN] at hn HB0 ⊢
  clear hN hc hb
  go_enter Try.func14, Try.ntmps14
  go_wp2_with fail
  refine (unhide HB0 w (Below.refl _ _)).mono ?_
  rintro e w1 ⟨u, rfl, hu⟩
  have HU := hide hu
  clear HB0
  have hz := zero51 w1
  obtain ⟨ZL, hZL⟩ : ∃ ZL, ZL = (List.replicate 256 0).map bv := ⟨_, rfl⟩
  rw [← hZL] at hz
  have HZL := hide hZL
  obtain ⟨ua, uc, rfl, huc, hub, hug⟩ := hu.lies
  have HUB := hide hub
  have hml := used_len b
  obtain ⟨m, hm⟩ : ∃ m, m = (usedF b).length := ⟨_, rfl⟩
  rw [← hm] at hml huc HU ⊢
  have HM := hide hm
  obtain ⟨gl, hgl⟩ : ∃ gl, gl = w1.heap.size := ⟨_, rfl⟩
  have hwg : w.heap.size ≤ gl := by rw [hgl]; exact hu.bel.size
  have HB1 : Hid (Below gl w1 (w1.alloc (.cells ZL.toArray 57))) := hide (by rw [hgl]; exact (Below.refl _ _).alloc (Nat.le_refl _) _)
  have HG1 : Hid ((w1.alloc (.cells ZL.toArray 57)).heap[gl]? = some (.cells ZL.toArray 57 (0, 0))) := hide (by rw [hgl]; exact heap_alloc_new _ _)
  have HGL := hide hgl
  have hzl : ZL.length = 256 := by rw [hZL]; simp
  have HZ := hide hzl
  obtain ⟨CV, hCV⟩ : ∃ CV, CV = (usedF b).map bv := ⟨_, rfl⟩
  have HCV := hide hCV
  have HCL : Hid (CV.length = m) := hide (by rw [hCV, List.length_map, hm])
  have H1 : Hid (∀ v ∈ CV, v.oneCell' = true) := hide (by rw [hCV]; exact bytes_one _)
  have HPOS : Hid (0 < m → ∃ ad, ua = some ad ∧ ∀ (j : Nat) v, CV[j]? = some v → (w1.alloc (.cells ZL.toArray 57)).cell? (ad.add j) = some v) := hide fun h0 => by
    obtain ⟨g, off, e, _⟩ := hub 0 (by omega)
    subst e
    refine ⟨_, rfl, ?_⟩
    rw [hCV]
    exact map_news (hub.stays (by rw [← hgl]; exact unhide HB1))
  clear hu hub hZL hm hCV hzl hug
  go_upto_region 3 with fail
  rw [← hgl]
  clear hgl hz
  have hmk := fun W => ints_made W n (by omega)
  go_wp2_with (refine wpList_copy_splice rfl (.tmp 10) (.tmp 11) 22 22 rfl 5 Try.underlying22 (by kernel_rfl) (some ⟨gl, 0, none⟩) ua 256 256 m uc (by rfl) (by rfl) gl 0 ZL 57 (unhide HG1) CV (by rw [unhide HCL]; exact (Nat.min_eq_left hml).symm) (fun h => ⟨rfl, unhide HPOS (by rw [← unhide HCL]; exact h)⟩) (by rw [unhide HCL, unhide HZ]; omega) (unhide H1) gl w1 (unhide HB1) (Nat.le_refl _) ?_; intro w2 hg2 hb2; have HB2 := hide hb2; clear hb2; rw [unhide HCL])
  have HO2 : Hid (OrdAt w2 gl (usedF b ++ List.replicate (256 - m) 0)) := hide (by
    unfold OrdAt
    rw [unhide hg2, unhide HCV, unhide HZL, unhide HM, splice_used _ (by rw [← unhide HM]; exact hml)])
  clear hg2 HPOS HCL H1 HG1 HB1 HCV HZL HZ CV ZL hmk
  obtain ⟨gp, hgp⟩ : ∃ gp, gp = w2.heap.size := ⟨_, rfl⟩
  have hlp : gl < gp := by rw [hgp]; exact heap_lt (unhide HO2)
  have HI0 : Hid (IntsAt (w2.alloc (.cells (icells .i64 n (fun _ => 0)) 3)) .i64 3 gp n (fun j => if j < 0 then (frontF b).getD j 0 else 0)) := hide (by
    rw [hgp]
    exact IntsAt.congr (C := fun _ => 0) (heap_alloc_new _ _) (fun i _ => by simp))
  have HB3 : Hid (Below gl w1 (w2.alloc (.cells (icells .i64 n (fun _ => 0)) 3))) := hide ((unhide HB2).alloc (by omega) _)
  have HO3 : Hid (OrdAt (w2.alloc (.cells (icells .i64 n (fun _ => 0)) 3)) gl (usedF b ++ List.replicate (256 - m) 0)) := hide (by
    unfold OrdAt
    rw [Below.heap_alloc _ _ _ (by omega)]
    exact unhide HO2)
  rw [← hgp]
  clear hgp HB2 HO2
  go_loopg [18] n (fun gk d ws => ∃ (i : Nat) (l : List Nat), gk = n - i ∧ i ≤ n ∧ d = .int .i64 (i : Int) ∧ Hid (OrdAt ws gl (l ++ List.replicate (256 - m) 0)) ∧ Hid (l.Perm (usedF b)) ∧ Hid (IntsAt ws .i64 3 gp n (fun j => if j < i then (frontF b).getD j 0 else 0)) ∧ Hid (Below gl w1 ws) ∧ Hid (frontG l (b.drop i) = (frontF b).drop i))
  case atStart => exact ⟨0, usedF b, by omega, by omega, rfl, HO3, hide (List.Perm.refl _), HI0, HB3, hide rfl⟩
  case round =>
    clear HO3 HI0 HB3
    obtain ⟨i, l, rfl, hi, rfl, HO, HP, HI, HB, HF⟩ := hrel
    rename World => wi
    have HBW : Hid (Below w.heap.size w wi) := hide ((unhide HU).bel.trans ((unhide HB).mono hwg))
    by_cases hlt : i < n
    · have tl : (i : Int) < (n : Int) := by omega
      have hib : i < b.length := by rw [← unhide HN]; exact hlt
      obtain ⟨g, off, rfl, c1⟩ := ((unhide HC).stays (unhide HBW)) i hib
      have hmem : b.getD i 0 ∈ l := (unhide HP).mem_iff.2 (mem_used.2 ⟨unhide HBB _ (getD_mem hib), getD_mem hib⟩)
      have hF := unhide HF
      rw [drop_cons hib, frontG] at hF
      obtain ⟨c, hcc⟩ : ∃ c, c = b.getD i 0 := ⟨_, rfl⟩
      rw [← hcc] at c1 hmem hF
      have hll : l.length = m := by rw [unhide HM]; exact (unhide HP).length_eq
      have hls : ∀ z ∈ l, z < 256 := fun z hz => (mem_used.1 ((unhide HP).mem_iff.1 hz)).1
      have hpl := place_lt hmem
      have HX := hide (index_ok l gl 0 m c wi (by
        have := (unhide HO).upto m (by rw [List.length_append, hll]; omega)
        rwa [List.take_append_of_le_length (by omega), ← hll, List.take_length] at this) hls hmem)
      have hkk := place_lt hmem
      have hfi : (frontF b).length = n := by unfold frontF; rw [front_len, unhide HN]
      have hF1 : (frontF b).getD i 0 = place c l := by
        have := congrArg (fun q => q.getD 0 0) hF
        simp only [List.getD_cons_zero] at this
        rw [this, drop_getD]
        rfl
      have HF2 : Hid (frontG (toFront l (place c l)) (b.drop (i + 1)) = (frontF b).drop (i + 1)) := hide (by
        have := congrArg List.tail hF
        simpa [List.tail_drop] using this)
      have HP2 := hide (((toFront_perm hkk.1).trans (unhide HP)))
      have HTA := hide (toFront_app hkk.1 (List.replicate (256 - m) 0))
      rw [hll] at HX hkk
      obtain ⟨k, hk⟩ : ∃ k, k = place c l := ⟨_, rfl⟩
      rw [← hk] at HX hkk hF1 HF2 HP2 HTA
      have d1 := (unhide HI).cell i hlt
      rw [if_neg (Nat.lt_irrefl i)] at d1
      have d2 := (unhide HI).free i
      have HI2 : Hid (IntsAt (wi.setCell ⟨gp, i, none⟩ (.int .i64 (k : Int))) .i64 3 gp n (fun j => if j < i + 1 then (frontF b).getD j 0 else 0)) := hide (((unhide HI).set i k).congr fun j _ => by
        unfold upd
        by_cases e : j = i
        · subst e; rw [if_pos rfl, if_pos (by omega), hF1]
        · rw [if_neg e]
          dsimp only
          by_cases e2 : j < i
          · rw [if_pos e2, if_pos (by omega)]
          · rw [if_neg e2, if_neg (by omega)])
      have d3 : (wi.setCell ⟨gp, i, none⟩ (.int .i64 (k : Int))).cell? ⟨gp, i, none⟩ = some (.int .i64 (k : Int)) := by
        have := (unhide HI2).cell i hlt
        rw [if_pos (by omega), hF1] at this
        exact this
      have HX2 := hide (front27 (l ++ List.replicate (256 - m) 0) gl k (wi.setCell ⟨gp, i, none⟩ (.int .i64 (k : Int))) (by
        unfold OrdAt
        rw [heap_setCell_other _ _ _ _ (by show gl ≠ gp; omega)]
        exact unhide HO) (by rw [List.length_append, List.length_replicate, hll]; omega) (by omega))
      have HB2 : Hid (Below gl w1 (wi.setCell ⟨gp, i, none⟩ (.int .i64 (k : Int)))) := hide ((unhide HB).setCell (by show gl ≤ gp; omega) _)
      have t3 : (m : Int) ≤ 256 := by omega
      have hgs := (unhide HI).lt
      clear hcc hmem hF hll hls hpl hfi hF1 hk HO HP HI HB HF HBW
      go_wp2_with fail
      refine (unhide HX).mono ?_
      rintro e w3 ⟨rfl, rfl⟩
      go_wp2_with fail
      refine (unhide HX2).mono ?_
      rintro e w4 ⟨rfl, h4, h5⟩
      have H4 := hide h4
      have H5 := hide h5
      clear h4 h5
      go_wp2_with fail
      go_roundg (n - (i + 1))
      case measure => omega
      case rel =>
        refine ⟨i + 1, _, rfl, by omega, by go_num, hide (by rw [← unhide HTA]; exact unhide H4), HP2, hide ((unhide HI2).of ((unhide H5).keep gp (by simpa using hgs) (.inr (by omega)))), hide ((unhide H5).below (unhide HB2) (Nat.le_refl _) (by have := (unhide HB2).size; simp at this; simp; omega)), HF2⟩
    · obtain rfl : i = n := by omega
      have tl : ¬ (i : Int) < (i : Int) := by omega
      go_wp2_with fail
      go_ret2
      refine ⟨_, gp, rfl, ?_, by omega, (unhide HI).congr fun j hj => if_pos hj, unhide HBW⟩
      have h1 := row_own (n := 0) (k := .u8) rfl (unhide HU).own
      exact (h1.of_below (by rw [← unhide HGL]; exact unhide HB)).wide (Nat.le_refl _) (by rw [← unhide HGL]; omega)
end Go.Proofs.Ytgafabhhalhccaa
