/- The document's New. -/
import Derived.Test.YtclccccodeekmaaLens
import Derived.Deep.DeepCutAuto
namespace Go.Proofs.Ytclccccodeekmaa
open Go.RowKit

def newPost (zs : List Int) (most : Int) (loose : Bool) (w : World) (e : Ending) (w' : World) : Prop :=
  (¬ (okArgs zs.length most ∧ ∀ z ∈ zs, okLen most z) → e = .returned (.tuple #[.slice none 0 0, .int .i64 2])) ∧
  ((okArgs zs.length most ∧ ∀ z ∈ zs, okLen most z) → ¬ okSum (nat zs) loose → e = .returned (.tuple #[.slice none 0 0, .int .i64 13])) ∧
  ((okArgs zs.length most ∧ ∀ z ∈ zs, okLen most z) → okSum (nat zs) loose → ∃ g, w.heap.size ≤ g ∧ e = .returned (.tuple #[.slice (some ⟨g, 0, none⟩) zs.length zs.length, .int .i64 0]) ∧ WordsAt w' 43 g zs.length (wdz (nat zs)) (Canon.ln (nat zs))) ∧
  Below w.heap.size w w'

theorem newPost.bad {zs : List Int} {most : Int} {loose : Bool} {w : World} (h : ¬ (okArgs zs.length most ∧ ∀ z ∈ zs, okLen most z)) : newPost zs most loose w (.returned (.tuple #[.slice none 0 0, .int .i64 2])) w :=
  ⟨fun _ => rfl, fun h' => absurd h' h, fun h' => absurd h' h, Below.refl _ _⟩

set_option maxHeartbeats 4000000 in
theorem refnew_args (a : Option Addr) (n cap : Nat) (most : Int) (loose : Bool) (w : World) (h : ¬ okArgs n most) :
    Calls Try.prog 9 #[.slice a n cap, .int .i64 most, .bool loose] w fun e w' => e = .returned (.tuple #[.slice none 0 0, .int .i64 2]) ∧ w' = w := by
  by_cases h1 : most < 1
  · clear h
    go_enter Try.func9, Try.ntmps9
    go_wp2_with fail
    go_ret2
    exact ⟨rfl, rfl⟩
  · by_cases h2 : 20 < most
    · clear h
      go_enter Try.func9, Try.ntmps9
      go_wp2_with fail
      go_ret2
      exact ⟨rfl, rfl⟩
    · by_cases h3 : (n : Int) < 1
      · clear h
        go_enter Try.func9, Try.ntmps9
        go_wp2_with fail
        go_ret2
        exact ⟨rfl, rfl⟩
      · have h4 : (65536 : Int) < (n : Int) := by unfold okArgs at h; omega
        clear h
        go_enter Try.func9, Try.ntmps9
        go_wp2_with fail
        go_ret2
        exact ⟨rfl, rfl⟩

theorem meas {k i i' : Nat} (h1 : i' = i + 1) (h2 : i' ≤ k) : k - i' < k - i := by omega
theorem meas1 {M l l' : Nat} (h1 : l' = l + 1) (h2 : l ≤ M) : M + 1 - l' < M + 1 - l := by omega

theorem fin_words {w : World} {g k l M : Nat} {W L : Nat → Nat} {ls : List Nat} (hrow : WordsAt w 43 g k W L) (hdone : ∀ i, i < k → 0 < Canon.ln ls i → Canon.ln ls i < l → W i = Canon.wd ls i ∧ L i = Canon.ln ls i)
    (hnot : ∀ i, i < k → Canon.ln ls i = 0 ∨ l ≤ Canon.ln ls i → W i = 0 ∧ L i = 0) (hlm : ∀ i, i < k → Canon.ln ls i ≤ M) (hl : ¬ l ≤ M) : WordsAt w 43 g k (wdz ls) (Canon.ln ls) := by
  have e : wcells k W L = wcells k (wdz ls) (Canon.ln ls) := wcells_congr (fun i hi => by
      unfold wdz
      by_cases h0 : Canon.ln ls i = 0
      · rw [if_pos h0]; exact (hnot i hi (.inl h0)).1
      · rw [if_neg h0]; exact (hdone i hi (by omega) (by have := hlm i hi; omega)).1) (fun i hi => by
      by_cases h0 : Canon.ln ls i = 0
      · rw [h0]; exact (hnot i hi (.inl h0)).2
      · exact (hdone i hi (by omega) (by have := hlm i hi; omega)).2)
  unfold WordsAt
  rw [← e]
  exact hrow

set_option maxRecDepth 100000 in
set_option maxHeartbeats 4000000 in
theorem refnew_good (v : Value) (zs : List Int) (most : Int) (loose : Bool) (w : World) (hr : ReadsI w v zs) (hok : okArgs zs.length most) :
    Calls Try.prog 9 #[v, .int .i64 most, .bool loose] w fun e w' => newPost zs most loose w e w' := by
  obtain ⟨a, cap, rfl, hsp⟩ := hr
  have HSP := hide hsp
  have HOK := hide hok
  obtain ⟨h1, h2, h3, h4⟩ := hok
  obtain ⟨n, hn⟩ : ∃ n, n = zs.length := ⟨_, rfl⟩
  rw [← hn] at HSP h3 h4 ⊢
  have HN := hide hn
  have g1 : ¬ most < 1 := by omega
  have g2 : ¬ 20 < most := by omega
  have g3 : ¬ (n : Int) < 1 := by omega
  have g4 : ¬ (65536 : Int) < (n : Int) := by omega
  clear hsp hn
  go_enter Try.func9, Try.ntmps9
  go_wp2_with fail
  go_loopg [8, 9, 10, 11] n (fun gk s c o i ws => ∃ (k : Nat), gk = n - k ∧ k ≤ n ∧ (∀ j, j < k → okLen most (zs.getD j 0)) ∧ Canon.sum ((nat zs).take k) ≤ k * 524288 ∧ words ((nat zs).take k) ≤ k ∧ ((nat zs).take k).count 1 ≤ k ∧ s = .int .i64 (Canon.sum ((nat zs).take k) : Int) ∧ c = .int .i64 (words ((nat zs).take k) : Int) ∧ o = .int .i64 (((nat zs).take k).count 1 : Int) ∧ i = .int .i64 (k : Int) ∧ ws = w)
  case atStart => exact ⟨0, by omega, by omega, by omega, by rw [List.take_zero, Canon.sum_nil]; omega, by simp [words], by simp, by rw [List.take_zero, Canon.sum_nil]; rfl, rfl, rfl, rfl, rfl⟩
  case round =>
    obtain ⟨k, rfl, hk, hgood, hsb, hwb, hob, rfl, rfl, rfl, rfl, rfl⟩ := hrel
    by_cases hlt : k < n
    · obtain ⟨b, off, rfl, hcell⟩ := unhide HSP (by omega)
      have hlz : k < zs.length := by rw [← unhide HN]; exact hlt
      obtain ⟨z, hz⟩ : ∃ z, z = zs.getD k 0 := ⟨_, rfl⟩
      have hcc := hcell k (by first | exact hlz | omega)
      rw [← hz] at hcc
      have hki : (k : Int) < (n : Int) := by omega
      by_cases hbad : okLen most z
      · obtain ⟨hz0, hzm⟩ := hbad
        obtain ⟨l, rfl⟩ := Int.eq_ofNat_of_zero_le hz0
        have e0 : ¬ (l : Int) < 0 := by omega
        have e1 : ¬ most < (l : Int) := by omega
        have ht := nat_take zs k hlz
        rw [← hz, Int.toNat_natCast] at ht
        have hl20 : l ≤ 20 := by omega
        have HS := hide (Canon.sum_snoc ((nat zs).take k) l hl20)
        have HW := hide (words_snoc ((nat zs).take k) l)
        have HO := hide (count_snoc ((nat zs).take k) l)
        rw [← ht] at HS HW HO
        have HGOOD : Hid (∀ j, j < k + 1 → okLen most (zs.getD j 0)) := hide fun j hj => by
          by_cases e : j = k
          · rw [e, ← hz]; exact ⟨hz0, hzm⟩
          · exact hgood j (by omega)
        obtain ⟨s, hs⟩ : ∃ s, s = Canon.sum ((nat zs).take k) := ⟨_, rfl⟩
        obtain ⟨c, hc⟩ : ∃ c, c = words ((nat zs).take k) := ⟨_, rfl⟩
        obtain ⟨o, ho⟩ : ∃ o, o = ((nat zs).take k).count 1 := ⟨_, rfl⟩
        rw [← hs] at hsb HS ⊢
        rw [← hc] at hwb HW ⊢
        rw [← ho] at hob HO ⊢
        obtain ⟨k', ek⟩ : ∃ k', k' = k + 1 := ⟨_, rfl⟩
        have w5 : (k : Int) + 1 = (k' : Int) := by omega
        have w6 : wrap64 (k' : Int) = (k' : Int) := w64 (by omega) (by omega)
        rw [← ek] at HS HW HO HGOOD
        clear hcell hz hlz hgood hs hc ho ht hz0 hzm
        by_cases hl0 : 0 < l
        · have e2 : (0 : Int) < (l : Int) := by omega
          obtain ⟨P, hP⟩ : ∃ P, P = 2 ^ (20 - l) := ⟨_, rfl⟩
          have hPb : P ≤ 524288 := by rw [hP]; exact pow_small hl0
          obtain ⟨m, hm⟩ : ∃ m, m = 20 - l := ⟨_, rfl⟩
          have HMI : Hid ((20 : Int) - (l : Int) = (m : Int)) := hide (by clear hP; omega)
          have HM := hide hm
          clear hm
          have HPE : Hid ((2 : Int) ^ m = (P : Int)) := hide (by rw [hP, unhide HM]; simp)
          rw [if_pos hl0, ← hP] at HS
          clear hP
          have HPI : Hid (wrap64 ((2 : Int) ^ m) = (P : Int)) := hide (by rw [unhide HPE]; exact w64 (by omega) (by omega))
          rw [if_pos hl0] at HW
          obtain ⟨s', es⟩ : ∃ s', s' = s + P := ⟨_, rfl⟩
          obtain ⟨c', ec⟩ : ∃ c', c' = c + 1 := ⟨_, rfl⟩
          have w1 : (s : Int) + (P : Int) = (s' : Int) := by omega
          have w2 : (c : Int) + 1 = (c' : Int) := by omega
          have w3 : wrap64 (s' : Int) = (s' : Int) := w64 (by omega) (by omega)
          have w4 : wrap64 (c' : Int) = (c' : Int) := w64 (by omega) (by omega)
          rw [← es] at HS
          rw [← ec] at HW
          by_cases hl1 : l = 1
          · rw [if_pos hl1] at HO
            obtain ⟨o', eo⟩ : ∃ o', o' = o + 1 := ⟨_, rfl⟩
            have w7 : (o : Int) + 1 = (o' : Int) := by omega
            have w8 : wrap64 (o' : Int) = (o' : Int) := w64 (by omega) (by omega)
            rw [← eo] at HO
            have e3 : ((l : Int) == 1) = true := by simp; omega
            have HB : Hid (k' ≤ n ∧ s' ≤ k' * 524288 ∧ c' ≤ k' ∧ o' ≤ k') := hide (by clear w1 w2 w3 w4 w5 w6 w7 w8; exact ⟨by omega, by omega, by omega, by omega⟩)
            have HEK := hide ek
            have hPi := unhide HPI
            have hmi := unhide HMI
            have hm21 : (m : Int) < 21 := by have := unhide HM; clear hPi; omega
            clear ek hPb hl1 hsb hwb hob hl0 hlt hk es ec eo
            go_wp2_with fail
            go_roundg (n - k')
            case measure => exact meas (unhide HEK) (unhide HB).1
            case rel =>
              obtain ⟨b1, b2, b3, b4⟩ := unhide HB
              exact ⟨k', rfl, b1, unhide HGOOD, by rw [unhide HS]; exact b2, by rw [unhide HW]; exact b3, by rw [unhide HO]; exact b4, by rw [unhide HS], by rw [unhide HW], by rw [unhide HO], rfl, rfl⟩
          · rw [if_neg hl1, Nat.add_zero] at HO
            have e3 : ((l : Int) == 1) = false := by simp; omega
            have HB : Hid (k' ≤ n ∧ s' ≤ k' * 524288 ∧ c' ≤ k' ∧ o ≤ k') := hide (by clear w1 w2 w3 w4 w5 w6; exact ⟨by omega, by omega, by omega, by omega⟩)
            have HEK := hide ek
            have hPi := unhide HPI
            have hmi := unhide HMI
            have hm21 : (m : Int) < 21 := by have := unhide HM; clear hPi; omega
            clear ek hPb hl1 hsb hwb hob hl0 hlt hk es ec
            go_wp2_with fail
            go_roundg (n - k')
            case measure => exact meas (unhide HEK) (unhide HB).1
            case rel =>
              obtain ⟨b1, b2, b3, b4⟩ := unhide HB
              exact ⟨k', rfl, b1, unhide HGOOD, by rw [unhide HS]; exact b2, by rw [unhide HW]; exact b3, by rw [unhide HO]; exact b4, by rw [unhide HS], by rw [unhide HW], by rw [unhide HO], rfl, rfl⟩
        · rw [if_neg hl0, Nat.add_zero] at HS HW
          rw [if_neg (show ¬ l = 1 by omega), Nat.add_zero] at HO
          have e2 : ¬ (0 : Int) < (l : Int) := by omega
          have e3 : ((l : Int) == 1) = false := by simp; omega
          have HB : Hid (k' ≤ n ∧ s ≤ k' * 524288 ∧ c ≤ k' ∧ o ≤ k') := hide (by omega)
          have HEK := hide ek
          clear ek hsb hwb hob hl0 hlt hk
          go_wp2_with fail
          go_roundg (n - k')
          case measure => exact meas (unhide HEK) (unhide HB).1
          case rel =>
            obtain ⟨b1, b2, b3, b4⟩ := unhide HB
            exact ⟨k', rfl, b1, unhide HGOOD, by rw [unhide HS]; exact b2, by rw [unhide HW]; exact b3, by rw [unhide HO]; exact b4, by rw [unhide HS], by rw [unhide HW], by rw [unhide HO], rfl, rfl⟩
      · have HBAD : Hid (¬ (okArgs zs.length most ∧ ∀ z ∈ zs, okLen most z)) := hide fun h => hbad (by
          rw [hz]
          have : zs.getD k 0 ∈ zs := by rw [List.getD_eq_getElem?_getD, List.getElem?_eq_getElem hlz]; exact List.getElem_mem _
          exact h.2 _ this)
        by_cases e0 : z < 0
        · clear hcell hz hlz hgood hsb hwb hob hbad hlt hk
          go_wp2_with fail
          go_ret2
          exact newPost.bad (unhide HBAD)
        · have e1 : most < z := by unfold okLen at hbad; omega
          clear hcell hz hlz hgood hsb hwb hob hbad hlt hk
          go_wp2_with fail
          go_ret2
          exact newPost.bad (unhide HBAD)
    · obtain rfl : k = n := by omega
      have hall : ∀ z ∈ zs, okLen most z := fun z hz => by
        obtain ⟨j, hj, rfl⟩ := List.getElem_of_mem hz
        have := hgood j (by rw [unhide HN]; exact hj)
        rw [List.getD_eq_getElem?_getD, List.getElem?_eq_getElem hj] at this
        exact this
      have HALL := hide hall
      have htk : (nat zs).take k = nat zs := List.take_of_length_le (by simp [nat]; rw [← unhide HN]; exact Nat.le_refl _)
      rw [htk] at hsb hwb hob ⊢
      obtain ⟨s, hs⟩ : ∃ s, s = Canon.sum (nat zs) := ⟨_, rfl⟩
      obtain ⟨c, hc⟩ : ∃ c, c = words (nat zs) := ⟨_, rfl⟩
      obtain ⟨o, ho⟩ : ∃ o, o = (nat zs).count 1 := ⟨_, rfl⟩
      have HSUM : Hid (okSum (nat zs) loose ↔ s = 1048576 ∨ loose = true ∧ (c = 0 ∨ c = 1 ∧ o = 1)) := hide (by unfold okSum; rw [hs, hc, ho])
      rw [← hs] at hsb ⊢
      rw [← hc] at hwb ⊢
      rw [← ho] at hob ⊢
      have HS := hide hs
      clear hgood hsb hwb hob hs hc ho hlt hk hall htk
      obtain ⟨V, hV⟩ : ∃ V : Bool, V = !decide (s = 1048576 ∨ loose = true ∧ (c = 0 ∨ c = 1 ∧ o = 1)) := ⟨_, rfl⟩
      have HV := hide hV
      clear hV
      go_upto_region 16 with fail
      go_cut [91] (fun v91 wc => v91 = .bool V ∧ wc = wr)
      case first =>
        by_cases c1 : s = 1048576
        · have f1 : ((s : Int) != 1048576) = false := by simp; omega
          have HR : Hid (V = false) := hide (by rw [unhide HV]; simp [c1])
          clear c1
          go_wp2_with fail
          go_meet
          exact ⟨by rw [unhide HR], rfl⟩
        · have f1 : ((s : Int) != 1048576) = true := by simp; omega
          cases loose with
          | false =>
            have HR : Hid (V = true) := hide (by rw [unhide HV]; simp [c1])
            clear c1
            go_wp2_with fail
            go_meet
            exact ⟨by rw [unhide HR], rfl⟩
          | true =>
            by_cases c2 : c = 0
            · have f2 : ((c : Int) == 0) = true := by simp; omega
              have HR : Hid (V = false) := hide (by rw [unhide HV]; simp [c2])
              clear c1 c2
              go_wp2_with fail
              go_meet
              exact ⟨by rw [unhide HR], rfl⟩
            · have f2 : ((c : Int) == 0) = false := by simp; omega
              by_cases c3 : c = 1
              · have f3 : ((c : Int) == 1) = true := by simp; omega
                by_cases c4 : o = 1
                · have f4 : ((o : Int) == 1) = true := by simp; omega
                  have HR : Hid (V = false) := hide (by rw [unhide HV]; simp [c3, c4])
                  clear c1 c2 c3 c4
                  go_wp2_with fail
                  go_meet
                  exact ⟨by rw [unhide HR], rfl⟩
                · have f4 : ((o : Int) == 1) = false := by simp; omega
                  have HR : Hid (V = true) := hide (by rw [unhide HV]; simp [c1, c2, c4])
                  clear c1 c2 c3 c4
                  go_wp2_with fail
                  go_meet
                  exact ⟨by rw [unhide HR], rfl⟩
              · have f3 : ((c : Int) == 1) = false := by simp; omega
                have HR : Hid (V = true) := hide (by rw [unhide HV]; simp [c1, c2, c3])
                clear c1 c2 c3
                go_wp2_with fail
                go_meet
                exact ⟨by rw [unhide HR], rfl⟩
      case rest =>
        obtain ⟨rfl, rfl⟩ := hcut
        cases V with
        | true =>
          have HNO : Hid (¬ okSum (nat zs) loose) := hide (fun h => by
            have h2 := (unhide HSUM).1 h
            have h3 := unhide HV
            simp [h2] at h3)
          go_wp2_with fail
          go_ret2
          exact ⟨fun h => absurd ⟨unhide HOK, unhide HALL⟩ h, fun _ _ => rfl, fun _ h => absurd h (unhide HNO), Below.refl _ _⟩
        | false =>
          have HYES : Hid (okSum (nat zs) loose) := hide ((unhide HSUM).2 (by
            have h3 := unhide HV
            simp only [Bool.false_eq, Bool.not_eq_false', decide_eq_true_eq] at h3
            exact h3))
          obtain ⟨M, hM⟩ := Int.eq_ofNat_of_zero_le (show 0 ≤ most by omega)
          subst hM
          have hl20 : ∀ l ∈ nat zs, l ≤ M ∧ l ≤ 20 := fun l hl => by
            obtain ⟨z, hz, rfl⟩ := List.mem_map.1 hl
            have := unhide HALL z hz
            unfold okLen at this
            omega
          have hsum := okSum.le (fun l hl => (hl20 l hl).2) (unhide HYES)
          obtain ⟨ls, hls⟩ : ∃ ls, ls = nat zs := ⟨_, rfl⟩
          have hzl : ∀ i, i < k → zs.getD i 0 = (Canon.ln ls i : Int) := fun i hi => by
            have hi' : i < zs.length := by rw [← unhide HN]; exact hi
            have h0 := unhide HALL zs[i] (List.getElem_mem _)
            unfold okLen at h0
            rw [hls]
            simp [Canon.ln, nat, hi']
            omega
          have hlen : ls.length = k := by rw [hls, unhide HN]; simp [nat]
          rw [← hls] at hl20 hsum
          have hlnM : ∀ i, i < k → Canon.ln ls i ≤ M := fun i hi => by
            have : Canon.ln ls i ∈ ls := by rw [Canon.ln, List.getD_eq_getElem?_getD, List.getElem?_eq_getElem (by omega)]; exact List.getElem_mem _
            exact (hl20 _ this).1
          have HLS := hide hls
          have HZL := hide hzl
          have HLEN := hide hlen
          have HLM := hide hlnM
          have HSUML := hide hsum
          have hmk := words_made wc k (by omega)
          clear hls hzl hlen hlnM hsum hl20
          go_wp2_with fail
          have HROW : Hid (WordsAt (wc.alloc (.cells (wcells k (fun _ => 0) (fun _ => 0)) 43)) 43 wc.heap.size k (fun _ => 0) (fun _ => 0)) := hide (heap_alloc_last wc _)
          have HBE : Hid (Below wc.heap.size wc (wc.alloc (.cells (wcells k (fun _ => 0) (fun _ => 0)) 43))) := hide ((Below.refl _ _).alloc (Nat.le_refl _) _)
          clear hmk
          generalize wc.alloc (.cells (wcells k (fun _ => 0) (fun _ => 0)) 43) = w0 at *
          obtain ⟨g, hg⟩ : ∃ g, g = wc.heap.size := ⟨_, rfl⟩
          rw [← hg] at HROW HBE ⊢
          have HG := hide hg
          clear hg
          go_loopg [13, 14] M (fun gk nx lv ws => ∃ (l : Nat) (W L : Nat → Nat), gk = M + 1 - l ∧ 1 ≤ l ∧ l ≤ M + 1 ∧ nx = .int .u32 ((Canon.fst ls (l - 1) + Canon.cn ls (l - 1) : Nat) : Int) ∧ lv = .int .i64 (l : Int) ∧ WordsAt ws 43 g k W L ∧ Below g wc ws ∧ (∀ i, i < k → 0 < Canon.ln ls i → Canon.ln ls i < l → W i = Canon.wd ls i ∧ L i = Canon.ln ls i) ∧ (∀ i, i < k → Canon.ln ls i = 0 ∨ l ≤ Canon.ln ls i → W i = 0 ∧ L i = 0))
          case atStart => exact ⟨1, _, _, by omega, by omega, by omega, rfl, rfl, unhide HROW, unhide HBE, fun i _ h1 h2 => by omega, fun _ _ _ => ⟨rfl, rfl⟩⟩
          case round =>
            obtain ⟨l, W, L, rfl, hl1, hlM, rfl, rfl, hrow, hbel, hdone, hnot⟩ := hrel
            by_cases hle : l ≤ M
            · have hli : (l : Int) ≤ (M : Int) := by omega
              have hM20 : M ≤ 20 := by omega
              have hf1 := fst_le (unhide HSUML) (l - 1) (by omega)
              have hf2 := fst_le (unhide HSUML) l (by omega)
              have hfs : (Canon.fst ls (l - 1) + Canon.cn ls (l - 1)) * 2 = Canon.fst ls l := by
                have : l = (l - 1) + 1 := by omega
                rw [this, Canon.fst]; rfl
              obtain ⟨x, hx⟩ : ∃ x, x = Canon.fst ls (l - 1) + Canon.cn ls (l - 1) := ⟨_, rfl⟩
              obtain ⟨y, hy⟩ : ∃ y, y = Canon.fst ls l := ⟨_, rfl⟩
              rw [← hx] at hf1 hfs ⊢
              rw [← hy] at hf2 hfs
              have m1 : (x : Int) * 2 = (y : Int) := by omega
              have m2 : (y : Int) % 4294967296 = (y : Int) := by omega
              have HY := hide hy
              have HF2 := hide hf2
              have HROWI := hide hrow
              have HBELI := hide hbel
              have HDONE := hide hdone
              have HNOT := hide hnot
              have HLE : Hid (1 ≤ l ∧ l ≤ M ∧ M ≤ 20 ∧ k ≤ 65536) := hide ⟨hl1, hle, hM20, by omega⟩
              clear hx hy hf1 hf2 hfs hrow hbel hdone hnot hle hl1 hlM hM20
              go_wp2_with fail
              go_loopg [13, 15] k (fun gk nx iv ws => ∃ (i : Nat) (W L : Nat → Nat), gk = k - i ∧ i ≤ k ∧ nx = .int .u32 ((y + (ls.take i).count l : Nat) : Int) ∧ iv = .int .i64 (i : Int) ∧ WordsAt ws 43 g k W L ∧ Below g wc ws ∧ (∀ x, x < k → 0 < Canon.ln ls x → Canon.ln ls x < l → W x = Canon.wd ls x ∧ L x = Canon.ln ls x) ∧ (∀ x, x < i → Canon.ln ls x = l → W x = Canon.wd ls x ∧ L x = Canon.ln ls x) ∧ (∀ x, x < k → Canon.ln ls x = 0 ∨ l < Canon.ln ls x ∨ Canon.ln ls x = l ∧ i ≤ x → W x = 0 ∧ L x = 0))
              case atStart => exact ⟨0, W, L, by omega, by omega, rfl, rfl, unhide HROWI, unhide HBELI, unhide HDONE, fun x h => by omega, fun x hx h => unhide HNOT x hx (by omega)⟩
              case round =>
                obtain ⟨i, W, L, rfl, hi, rfl, rfl, hrow, hbel, hdone, hlev, hnot⟩ := hrel
                obtain ⟨q1, q2, q3, q4⟩ := unhide HLE
                by_cases hlt : i < k
                · obtain ⟨b, off, rfl, hcell⟩ := unhide HSP (by omega)
                  have hz := unhide HZL i hlt
                  have hgk : g = wc.heap.size := unhide HG
                  have hcc : _ = _ := cell_stays (by rw [← hgk]; exact hbel) (hcell i (by have := unhide HN; omega))
                  rw [hz] at hcc
                  have htk := Canon.take_succ_count ls i l (by have := unhide HLEN; omega)
                  have hcl : (ls.take i).count l ≤ Canon.cn ls l := by
                    rw [Canon.cn, if_neg (by omega)]
                    have := Canon.count_take_le ls l (show i ≤ ls.length by have := unhide HLEN; omega)
                    rw [List.take_length] at this
                    exact this
                  have hyb := unhide HF2
                  have hil : (i : Int) < (k : Int) := by omega
                  obtain ⟨i', ei⟩ : ∃ i', i' = i + 1 := ⟨_, rfl⟩
                  have w5 : (i : Int) + 1 = (i' : Int) := by omega
                  have HIK : Hid (i' ≤ k) := hide (by omega)
                  have HW6 : Hid (wrap64 (i' : Int) = (i' : Int)) := hide (w64 (by omega) (by omega))
                  have HEI := hide ei
                  have HROWJ := hide hrow
                  have HBELJ := hide hbel
                  by_cases he : Canon.ln ls i = l
                  · rw [if_pos he] at htk
                    rw [he] at hcc
                    have hwd : y + (ls.take i).count l = Canon.wd ls i := by rw [Canon.wd, Canon.rk, he, unhide HY]
                    have k1 := hrow.word i hlt
                    have k2 := hrow.len i hlt
                    have k3 := hrow.free (i * 2)
                    have k4 := hrow.free (i * 2 + 1)
                    obtain ⟨x, hx⟩ : ∃ x, x = y + (ls.take i).count l := ⟨_, rfl⟩
                    obtain ⟨x', hx'⟩ : ∃ x', x' = y + (ls.take (i + 1)).count l := ⟨_, rfl⟩
                    rw [← hx] at hwd ⊢
                    have m1 : (x : Int) + 1 = (x' : Int) := by omega
                    have m2 : (x' : Int) % 4294967296 = (x' : Int) := by omega
                    have e1 : ((l : Int) == (l : Int)) = true := by simp
                    have HX' : Hid (x' = y + (ls.take i').count l) := hide (by rw [hx', ei])
                    have HREL : Hid (∃ W2 L2 : Nat → Nat, (∀ ws, WordsAt ws 43 g k W L → WordsAt ((ws.setCell ⟨g, i * 2, none⟩ (.int .u32 (x : Int))).setCell ⟨g, i * 2 + 1, none⟩ (.int .i64 (l : Int))) 43 g k W2 L2) ∧ (∀ x, x < k → 0 < Canon.ln ls x → Canon.ln ls x < l → W2 x = Canon.wd ls x ∧ L2 x = Canon.ln ls x) ∧ (∀ x, x < i' → Canon.ln ls x = l → W2 x = Canon.wd ls x ∧ L2 x = Canon.ln ls x) ∧ (∀ x, x < k → Canon.ln ls x = 0 ∨ l < Canon.ln ls x ∨ Canon.ln ls x = l ∧ i' ≤ x → W2 x = 0 ∧ L2 x = 0)) := by
                      refine hide ⟨upd W i x, upd L i l, fun ws h => h.set i x l, fun z hz h1 h2 => ?_, fun z hz h1 => ?_, fun z hz h1 => ?_⟩
                      · have : z ≠ i := by rintro rfl; exact absurd he (Nat.ne_of_lt h2)
                        simp only [upd, if_neg this]; exact hdone z hz h1 h2
                      · by_cases e : z = i
                        · subst e; simp only [upd, if_pos]; exact ⟨hwd, he.symm⟩
                        · simp only [upd, if_neg e]; exact hlev z (lt_b ei hz e) h1
                      · have : z ≠ i := by rintro rfl; exact ne_c he q1 ei h1
                        simp only [upd, if_neg this]; exact hnot z hz (or_d ei h1)
                    have w6 := unhide HW6
                    clear hcell hz hgk htk hcl hyb hrow hbel hdone hlev hnot hx hx' hwd he ei hlt hi q1 q2 q3 q4
                    go_wp2_with fail
                    go_roundg (k - i')
                    case measure => exact meas (unhide HEI) (unhide HIK)
                    case rel =>
                      obtain ⟨W2, L2, r1, r2, r3, r4⟩ := unhide HREL
                      exact ⟨i', W2, L2, rfl, unhide HIK, by rw [← unhide HX'], by first | rfl | exact congrArg (Value.int .i64) (unhide HW6) | (rw [w5]; exact congrArg (Value.int .i64) (unhide HW6)), r1 _ (unhide HROWJ), ((unhide HBELJ).setCell (by exact Nat.le_refl _) _).setCell (by exact Nat.le_refl _) _, r2, r3, r4⟩
                  · rw [if_neg he] at htk
                    have e1 : (((Canon.ln ls i : Nat) : Int) == (l : Int)) = false := by simp; omega
                    have HX' : Hid ((ls.take i').count l = (ls.take i).count l) := hide (by rw [ei, htk]; try rw [Nat.add_zero])
                    have HREL : Hid ((∀ x, x < i' → Canon.ln ls x = l → W x = Canon.wd ls x ∧ L x = Canon.ln ls x) ∧ (∀ x, x < k → Canon.ln ls x = 0 ∨ l < Canon.ln ls x ∨ Canon.ln ls x = l ∧ i' ≤ x → W x = 0 ∧ L x = 0)) := by
                      refine hide ⟨fun z hz h1 => ?_, fun z hz h1 => hnot z hz (or_d ei h1)⟩
                      by_cases e : z = i
                      · subst e; exact absurd h1 he
                      · exact hlev z (lt_b ei hz e) h1
                    have HDN := hide hdone
                    have w6 := unhide HW6
                    clear hcell hz hgk htk hcl hyb hrow hbel hdone hlev hnot he ei hlt hi q1 q2 q3 q4
                    go_wp2_with fail
                    go_roundg (k - i')
                    case measure => exact meas (unhide HEI) (unhide HIK)
                    case rel =>
                      obtain ⟨r3, r4⟩ := unhide HREL
                      exact ⟨i', W, L, rfl, unhide HIK, by rw [unhide HX'], by first | rfl | exact congrArg (Value.int .i64) (unhide HW6) | (rw [w5]; exact congrArg (Value.int .i64) (unhide HW6)), unhide HROWJ, unhide HBELJ, unhide HDN, r3, r4⟩
                · obtain rfl : i = k := by omega
                  have hil : ¬ (i : Int) < (i : Int) := by omega
                  have htl : ls.take i = ls := List.take_of_length_le (by have := unhide HLEN; omega)
                  rw [htl]
                  have hcn : y + ls.count l = Canon.fst ls l + Canon.cn ls l := by rw [unhide HY, Canon.cn, if_neg (by omega)]
                  rw [hcn]
                  obtain ⟨l', el⟩ : ∃ l', l' = l + 1 := ⟨_, rfl⟩
                  have w5 : (l : Int) + 1 = (l' : Int) := by omega
                  have HW6 : Hid (wrap64 (l' : Int) = (l' : Int)) := hide (w64 (by omega) (by omega))
                  have HEL := hide el
                  have HLB : Hid (1 ≤ l ∧ l ≤ M) := hide ⟨q1, q2⟩
                  have HROWJ := hide hrow
                  have HBELJ := hide hbel
                  have HREL : Hid ((∀ x, x < i → 0 < Canon.ln ls x → Canon.ln ls x < l' → W x = Canon.wd ls x ∧ L x = Canon.ln ls x) ∧ (∀ x, x < i → Canon.ln ls x = 0 ∨ l' ≤ Canon.ln ls x → W x = 0 ∧ L x = 0)) := by
                    refine hide ⟨fun z hz h1 h2 => ?_, fun z hz h1 => hnot z hz (by omega)⟩
                    by_cases e : Canon.ln ls z = l
                    · exact hlev z hz e
                    · exact hdone z hz h1 (by omega)
                  obtain ⟨X, hX⟩ : ∃ X, X = Canon.fst ls l + Canon.cn ls l := ⟨_, rfl⟩
                  rw [← hX]
                  have HX := hide hX
                  have w6 := unhide HW6
                  clear hrow hbel hdone hlev hnot htl hcn el hX hlt hi q1 q2 q3 q4 m1 m2
                  go_wp2_with fail
                  go_roundg (M + 1 - l')
                  case measure => exact meas1 (unhide HEL) (unhide HLB).2
                  case rel =>
                    obtain ⟨r3, r4⟩ := unhide HREL
                    have e' := unhide HEL
                    have b' := unhide HLB
                    exact ⟨l', W, L, rfl, by omega, by omega, by rw [show l' - 1 = l by omega, ← unhide HX], by first | rfl | exact congrArg (Value.int .i64) (unhide HW6) | (rw [w5]; exact congrArg (Value.int .i64) (unhide HW6)), unhide HROWJ, unhide HBELJ, r3, r4⟩
            · have hli : ¬ (l : Int) ≤ (M : Int) := by omega
              have HFIN := hide (fin_words hrow hdone hnot (unhide HLM) hle)
              have HBELJ := hide hbel
              clear hrow hbel hdone hnot hle hl1 hlM
              go_wp2_with fail
              go_ret2
              have hgk := unhide HG
              have hnk := unhide HN
              refine ⟨fun h => absurd ⟨unhide HOK, unhide HALL⟩ h, fun _ h => absurd (unhide HYES) h, fun _ _ => ⟨g, by rw [hgk]; exact Nat.le_refl _, by rw [hnk]; rfl, ?_⟩, by rw [← hgk]; exact unhide HBELJ⟩
              rw [← hnk, ← unhide HLS]
              exact unhide HFIN
end Go.Proofs.Ytclccccodeekmaa
