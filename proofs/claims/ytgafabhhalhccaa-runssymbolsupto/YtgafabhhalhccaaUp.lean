/- The program's Unfront: places are turned to bytes again. -/
import Derived.Test.YtgafabhhalhccaaRi
namespace Go.Proofs.Ytgafabhhalhccaa
open Go.RowKit Runs
set_option maxRecDepth 100000
set_option linter.unusedVariables false
attribute [local go_sem ↓] Go.wp_at_zero Go.wp_at_succ

/-- the bytes of places -/
def unfL : List Nat → List Nat → List Nat
  | _, [] => []
  | l, k :: r => l.getD k 0 :: unfL (toFront l k) r

theorem unfL_len : ∀ (ps l : List Nat), (unfL l ps).length = ps.length
  | [], l => rfl
  | k :: r, l => by rw [unfL, List.length_cons, unfL_len r, List.length_cons]

theorem unf_in : ∀ (ps : List Int) (l out : List Nat), (∀ p ∈ ps, 0 ≤ p ∧ p < (l.length : Int)) → unf l ps out = (out ++ unfL l (ps.map Int.toNat), 0)
  | [], l, out, _ => by rw [unf]; simp [unfL]
  | k :: r, l, out, h => by
    have hk := h k (List.mem_cons_self ..)
    have hl : (toFront l k.toNat).length = l.length := toFront_len (by omega)
    rw [unf, if_neg (by omega), unf_in r _ _ (fun p hp => by rw [hl]; exact h p (List.mem_cons_of_mem _ hp)), List.map_cons, unfL, List.append_assoc]
    rfl

theorem unf_bad : ∀ (ps : List Int) (l out : List Nat), ¬ (∀ p ∈ ps, 0 ≤ p ∧ p < (l.length : Int)) → unf l ps out = ([], 2)
  | [], l, out, h => absurd (fun p hp => by simp at hp) h
  | k :: r, l, out, h => by
    rw [unf]
    by_cases hk : k < 0 ∨ (l.length : Int) ≤ k
    · rw [if_pos hk]
    · have hl : (toFront l k.toNat).length = l.length := toFront_len (by omega)
      rw [if_neg hk]
      refine unf_bad r _ _ fun q => h fun p hp => ?_
      rcases List.mem_cons.1 hp with rfl | hp
      · omega
      · have := q p hp
        rwa [hl] at this

/-- bytes that rise are at most 256 -/
theorem up_bound {u : List Nat} (h : Up u) (hs : ∀ z ∈ u, z < 256) : u.length ≤ 256 := by
  have h1 : ∀ i, i < u.length → i ≤ u.getD i 0 := by
    intro i
    induction i with
    | zero => intro _; omega
    | succ i ih =>
      intro hi
      have := h i hi
      have := ih (by omega)
      omega
  rcases Nat.lt_or_ge 256 u.length with h2 | h2
  · have h3 := h1 256 h2
    have h4 := hs _ (getD_mem (r := 256) h2)
    omega
  · exact h2

set_option maxHeartbeats 4000000 in
theorem punfront_ok (u : List Nat) (a0 : Option Addr) (cap : Nat) (ps : List Int) (p0 : Option Addr) (pcap : Nat) (w : World) (hu : BytesIn w a0 u) (hus : ∀ z ∈ u, z < 256) (hp : IntsIn w p0 ps) (hn : u.length ≤ 1048576) (hP : ps.length ≤ 1048576) :
    Calls Try.prog 16 #[.slice a0 u.length cap, .slice p0 ps.length pcap] w fun e w' => ∃ v, e = .returned (.tuple #[v, .int .i64 ((unfrontOut u ps).2 : Int)]) ∧ Row w.heap.size w'.heap.size w' v .u8 5 (unfrontOut u ps).1 ∧ Below w.heap.size w w' := by
  have HR := hide (rising_ok u a0 cap w hu hn)
  have HWI := hide (fun q m => within_ok ps p0 pcap m (w.drewN q) hp hP)
  obtain ⟨m, hM⟩ : ∃ m, m = u.length := ⟨_, rfl⟩
  obtain ⟨n, hN⟩ : ∃ n, n = ps.length := ⟨_, rfl⟩
  have HM := hide hM
  have HN := hide hN
  have HUB := hide hu
  have HPI := hide hp
  have HUS := hide hus
  rw [← hM] at hn HR ⊢
  rw [← hN] at hP HWI ⊢
  clear hM hN hu hp hus
  have z51 : ∀ W, (zeroValue 57).run Try.prog W = .ok (.agg ((List.replicate 256 0).map bv).toArray) W := zero51
  obtain ⟨ZL, hZL⟩ : ∃ ZL, ZL = (List.replicate 256 0).map bv := ⟨_, rfl⟩
  rw [← hZL] at z51
  have HZL := hide hZL
  clear hZL
  go_enter Try.func16, Try.ntmps16
  go_wp2_with fail
  refine (unhide HR).mono ?_
  rintro e w1 ⟨r, q, rfl, hr, rfl⟩
  by_cases hup : Up u
  case neg =>
    obtain rfl : r = false := by cases r; rfl; exact absurd (hr.1 rfl) hup
    have E1 : Hid (unfrontOut u ps = ([], 2)) := hide (by unfold unfrontOut; rw [if_neg hup])
    clear hr z51
    go_wp2_with fail
    go_ret2
    rw [unhide E1]
    exact ⟨_, rfl, Row.nil _ _ _ _ _, drewN_below (Below.refl _ _) q⟩
  obtain rfl : r = true := hr.2 hup
  have E1 : Hid (unfrontOut u ps = unf u ps []) := hide (by unfold unfrontOut; rw [if_pos hup])
  have hm256 := up_bound hup (unhide HUS)
  rw [← unhide HM] at hm256
  clear hr HR
  go_wp2_with fail
  refine (unhide HWI q (m : Int)).mono ?_
  rintro e w2 ⟨r, q2, rfl, hr, rfl⟩
  rw [World.drewN_drewN]
  obtain ⟨qq, hqq⟩ : ∃ qq, qq = q + q2 := ⟨_, rfl⟩
  rw [← hqq]
  clear hqq HWI
  have hB2 : Below w.heap.size w (w.drewN qq) := drewN_below (Below.refl _ _) qq
  have HUB2 := hide ((unhide HUB).stays hB2)
  have HPI2 : Hid (IntsIn (w.drewN qq) p0 ps) := unhide HPI
  have HB2 := hide hB2
  have hsz : (w.drewN qq).heap.size = w.heap.size := rfl
  have HSZ := hide hsz
  clear hB2 hsz
  generalize w.drewN qq = x1 at *
  by_cases hin : ∀ p ∈ ps, 0 ≤ p ∧ p < (m : Int)
  case neg =>
    obtain rfl : r = false := by cases r; rfl; exact absurd (hr.1 rfl) hin
    have E2 := hide (unf_bad ps u [] (by rw [← unhide HM]; exact hin))
    clear hr hin z51
    go_wp2_with fail
    go_ret2
    rw [unhide E1, unhide E2]
    exact ⟨_, rfl, Row.nil _ _ _ _ _, unhide HB2⟩
  obtain rfl : r = true := hr.2 hin
  have E2 : Hid (unfrontOut u ps = (unfL u (ps.map Int.toNat), 0)) := hide (by rw [unhide E1, unf_in ps u [] (by rw [← unhide HM]; exact hin), List.nil_append])
  clear E1
  have HIN := hide hin
  clear hr hin
  have hz := z51 x1
  clear z51
  obtain ⟨gl, hgl⟩ : ∃ gl, gl = x1.heap.size := ⟨_, rfl⟩
  have HB1 : Hid (Below gl x1 (x1.alloc (.cells ZL.toArray 57))) := hide (by rw [hgl]; exact (Below.refl _ _).alloc (Nat.le_refl _) _)
  have HG1 : Hid ((x1.alloc (.cells ZL.toArray 57)).heap[gl]? = some (.cells ZL.toArray 57 (0, 0))) := hide (by rw [hgl]; exact heap_alloc_new _ _)
  have HGL := hide hgl
  have HZ : Hid (ZL.length = 256) := hide (by rw [unhide HZL]; simp)
  obtain ⟨CV, hCV⟩ : ∃ CV, CV = u.map bv := ⟨_, rfl⟩
  have HCV := hide hCV
  have HCL : Hid (CV.length = m) := hide (by rw [hCV, List.length_map, unhide HM])
  have H1 : Hid (∀ v ∈ CV, v.oneCell' = true) := hide (by rw [hCV]; exact bytes_one _)
  have HPOS : Hid (0 < m → ∃ ad, a0 = some ad ∧ ∀ (j : Nat) v, CV[j]? = some v → (x1.alloc (.cells ZL.toArray 57)).cell? (ad.add j) = some v) := hide fun h0 => by
    obtain ⟨g, off, e, _⟩ := unhide HUB2 0 (by rw [← unhide HM]; omega)
    subst e
    refine ⟨_, rfl, ?_⟩
    rw [hCV]
    exact map_news ((unhide HUB2).stays (by rw [← hgl]; exact unhide HB1))
  clear hCV
  have hmk := fun W => bytes_made W n (by omega)
  go_upto_region 4 with fail
  rw [← hgl]
  clear hgl hz
  go_wp2_with (refine wpList_copy_splice rfl (.tmp 20) (.tmp 21) 22 22 rfl 5 Try.underlying22 (by kernel_rfl) (some ⟨gl, 0, none⟩) a0 256 256 m cap (by rfl) (by rfl) gl 0 ZL 57 (unhide HG1) CV (by rw [unhide HCL]; exact (Nat.min_eq_left hm256).symm) (fun h => ⟨rfl, unhide HPOS (by rw [← unhide HCL]; exact h)⟩) (by rw [unhide HCL, unhide HZ]; omega) (unhide H1) gl x1 (unhide HB1) (Nat.le_refl _) ?_; intro w2 hg2 hb2; have HBX := hide hb2; clear hb2; rw [unhide HCL])
  have HO2 : Hid (OrdAt w2 gl (u ++ List.replicate (256 - m) 0)) := hide (by
    unfold OrdAt
    rw [unhide hg2, unhide HCV, unhide HZL, unhide HM, splice_used _ (by rw [← unhide HM]; exact hm256)])
  clear hg2 HPOS HCL H1 HG1 HB1 HCV HZL HZ CV ZL hmk
  obtain ⟨gt, hgt⟩ : ∃ gt, gt = w2.heap.size := ⟨_, rfl⟩
  have hlp : gl < gt := by rw [hgt]; exact heap_lt (unhide HO2)
  obtain ⟨T, hT⟩ : ∃ T, T = unfL u (ps.map Int.toNat) := ⟨_, rfl⟩
  have HTL : Hid (T.length = n) := hide (by rw [hT, unfL_len, List.length_map, unhide HN])
  have HI0 : Hid (IntsAt (w2.alloc (.cells (icells .u8 n (fun _ => 0)) 5)) .u8 5 gt n (fun j => if j < 0 then T.getD j 0 else 0)) := hide (by
    rw [hgt]
    exact IntsAt.congr (C := fun _ => 0) (heap_alloc_new _ _) (fun i _ => by simp))
  have HB3 : Hid (Below gl x1 (w2.alloc (.cells (icells .u8 n (fun _ => 0)) 5))) := hide ((unhide HBX).alloc (by omega) _)
  have HO3 : Hid (OrdAt (w2.alloc (.cells (icells .u8 n (fun _ => 0)) 5)) gl (u ++ List.replicate (256 - m) 0)) := hide (by
    unfold OrdAt
    rw [Below.heap_alloc _ _ _ (by omega)]
    exact unhide HO2)
  have HF0 : Hid (unfL u ((ps.map Int.toNat).drop 0) = T.drop 0) := hide hT.symm
  rw [← hT] at E2
  rw [← hgt]
  clear hgt HBX HO2 hT
  go_loopg [28] n (fun gk d ws => ∃ (i : Nat) (l : List Nat), gk = n - i ∧ i ≤ n ∧ d = .int .i64 (i : Int) ∧ Hid (OrdAt ws gl (l ++ List.replicate (256 - m) 0)) ∧ Hid (l.length = m) ∧ Hid (IntsAt ws .u8 5 gt n (fun j => if j < i then T.getD j 0 else 0)) ∧ Hid (Below gl x1 ws) ∧ Hid (unfL l ((ps.map Int.toNat).drop i) = T.drop i))
  case atStart => exact ⟨0, u, by omega, by omega, rfl, HO3, hide (unhide HM).symm, HI0, HB3, HF0⟩
  case round =>
    clear HO3 HI0 HB3 HF0
    obtain ⟨i, l, rfl, hi, rfl, HO, HLM, HI, HB, HF⟩ := hrel
    rename World => wi
    have HBX : Hid (Below x1.heap.size x1 wi) := hide (by rw [← unhide HGL]; exact unhide HB)
    by_cases hlt : i < n
    · have tl : (i : Int) < (n : Int) := by omega
      have hib : i < ps.length := by rw [← unhide HN]; exact hlt
      obtain ⟨g, off, rfl, c1⟩ := unhide HPI2 i hib
      have c1 : wi.cell? ⟨g, off + i, none⟩ = some (.int .i64 (ps.getD i 0)) := by rw [(unhide HBX).cell (cell_lt c1)]; exact c1
      have hmem : ps.getD i 0 ∈ ps := by
        rw [List.getD_eq_getElem?_getD, List.getElem?_eq_getElem hib]
        exact List.getElem_mem hib
      have hin := unhide HIN _ hmem
      obtain ⟨k, hk⟩ := Int.eq_ofNat_of_zero_le hin.1
      rw [hk] at c1 hin
      have hkm : k < m := by omega
      have hF := unhide HF
      have hd : (ps.map Int.toNat).drop i = k :: (ps.map Int.toNat).drop (i + 1) := by
        rw [drop_cons (by rw [List.length_map]; exact hib)]
        congr 1
        rw [List.getD_eq_getElem?_getD, List.getElem?_map, List.getElem?_eq_getElem hib]
        rw [List.getD_eq_getElem?_getD, List.getElem?_eq_getElem hib] at hk
        simp at hk
        simp [hk]
      rw [hd, unfL] at hF
      have hll := unhide HLM
      have hF1 : T.getD i 0 = l.getD k 0 := by
        have := congrArg (fun q => q.getD 0 0) hF
        simp only [List.getD_cons_zero] at this
        rw [this, drop_getD]
        rfl
      have HF2 : Hid (unfL (toFront l k) ((ps.map Int.toNat).drop (i + 1)) = T.drop (i + 1)) := hide (by
        have := congrArg List.tail hF
        simpa [List.tail_drop] using this)
      have HLM2 : Hid ((toFront l k).length = m) := hide (by rw [toFront_len (by omega)]; exact hll)
      have HTA := hide (toFront_app (show k < l.length by omega) (List.replicate (256 - m) 0))
      have hgd : (l ++ List.replicate (256 - m) 0).getD k 0 = T.getD i 0 := by
        rw [hF1, List.getD_eq_getElem?_getD, List.getElem?_append_left (by omega), ← List.getD_eq_getElem?_getD]
      have HX2 := hide (front27 (l ++ List.replicate (256 - m) 0) gl k wi (unhide HO) (by rw [List.length_append, List.length_replicate, hll]; omega) (by omega))
      rw [hgd, unhide HTA] at HX2
      obtain ⟨x, hx⟩ : ∃ x, x = T.getD i 0 := ⟨_, rfl⟩
      rw [← hx] at HX2
      have HXX := hide hx
      have hgs := (unhide HI).lt
      have e1 := (unhide HI).cell i hlt
      rw [if_neg (Nat.lt_irrefl i)] at e1
      have e2 := (unhide HI).free i
      clear hmem hin hk hF hd hll hF1 HTA hgd hx HO HLM HF HBX
      go_wp2_with fail
      refine (unhide HX2).mono ?_
      rintro e w4 ⟨rfl, h4, h5⟩
      have HI4 := hide ((unhide HI).of (h5.keep gt hgs (.inr (by omega))))
      have d1 := (unhide HI4).cell i hlt
      rw [if_neg (Nat.lt_irrefl i)] at d1
      have d2 := (unhide HI4).free i
      have H4 := hide h4
      have H5 := hide h5
      clear h4 h5 e1 e2
      go_wp2_with fail
      go_roundg (n - (i + 1))
      case measure => omega
      case rel =>
        refine ⟨i + 1, _, rfl, by omega, by go_num, hide ?_, HLM2, hide (((unhide HI4).set i x).congr fun j _ => ?_), hide (((unhide H5).below (unhide HB) (Nat.le_refl _) (by have := (unhide HB).size; rw [unhide HGL]; exact this)).setCell (by show gl ≤ gt; omega) _), HF2⟩
        · unfold OrdAt
          rw [heap_setCell_other _ _ _ _ (by show gl ≠ gt; omega)]
          exact unhide H4
        · unfold upd
          by_cases e : j = i
          · subst e; rw [if_pos rfl, if_pos (by omega), unhide HXX]
          · rw [if_neg e]
            dsimp only
            by_cases e2 : j < i
            · rw [if_pos e2, if_pos (by omega)]
            · rw [if_neg e2, if_neg (by omega)]
    · obtain rfl : i = n := by omega
      have tl : ¬ (i : Int) < (i : Int) := by omega
      go_wp2_with fail
      go_ret2
      rw [unhide E2]
      refine ⟨_, rfl, row_ints (unhide HTL) ((unhide HI).congr fun j hj => if_pos hj) ?_, (unhide HB2).trans ((unhide HB).mono ?_)⟩
      · have := unhide HSZ; have := unhide HGL; omega
      · have := unhide HSZ; have := unhide HGL; omega
end Go.Proofs.Ytgafabhhalhccaa
