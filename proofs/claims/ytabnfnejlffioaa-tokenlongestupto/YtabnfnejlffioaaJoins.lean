/- TokenJoins: what tokens make, behind what others made, is what both make. -/
import Derived.Test.YtabnfnejlffioaaTMem
namespace Go.Proofs.Ytabnfnejlffioaa
open Go.RowKit
set_option linter.unusedVariables false

attribute [local go_sem ↓] Go.wp_at_zero Go.wp_at_succ

/-- a text as a string -/
def str (zs : List Nat) : ByteArray := ⟨(zs.map UInt8.ofNat).toArray⟩

theorem str_app (a b : List Nat) : str a ++ str b = str (a ++ b) := by
  apply ByteArray.ext
  simp [str, ByteArray.data_append]

set_option maxRecDepth 100000 in
set_option maxHeartbeats 2000000 in
theorem joins_walk (bs : List Nat) (ta tb : List Tok) (ab aa at' : Option Addr) (cb ca ct : Nat) (w : World) (hb : ReadsB w ab cb bs) (hcb : bs.length ≤ cb) (hta : ReadsTN w aa ca ta) (htb : ReadsTN w at' ct tb)
    (hsm : ∀ z ∈ bs, z < 256) (hia : InT ta) (hib : InT tb) (hsa : SmallT ta) (hsb : SmallT tb) (hbl : bs.length ≤ 1048576) (hal : ta.length ≤ 1048576) (htl : tb.length ≤ 1048576) :
    Calls Try.prog 7 #[.slice ab bs.length cb, .slice aa ta.length ca, .slice at' tb.length ct] w fun e w' => e = .returned (.bool true) ∧ Below w.heap.size w w' := by
  have HRB := hide hb
  have HTA := hide hta
  have HTB := hide htb
  have HC1 := hide (expand_ok bs ta _ _ w.heap.size w (hb.reads.u hcb) hta.t (Nat.le_refl _) hia (by omega) (by omega))
  have HSM := hide hsm
  have HIA := hide hia
  have HIB := hide hib
  have HSA := hide hsa
  have HSB := hide hsb
  clear hb hta htb hsm hia hib hsa hsb
  obtain ⟨N, hN⟩ : ∃ N, N = bs.length := ⟨_, rfl⟩
  obtain ⟨P, hP⟩ : ∃ P, P = ta.length := ⟨_, rfl⟩
  obtain ⟨R, hR⟩ : ∃ R, R = tb.length := ⟨_, rfl⟩
  rw [← hN] at hcb hbl HC1 ⊢
  rw [← hP] at hal HC1 ⊢
  rw [← hR] at htl ⊢
  have HN := hide hN
  have HP := hide hP
  have HR := hide hR
  clear hN hP hR
  go_enter Try.func7, Try.ntmps7
  go_upto_region 2 with (go_at_call 14; go_must (refine (unhide HC1).mono ?_; rintro e w1 ⟨vx, ex, rfl, h1, h2⟩; have HX1 := hide h1; have HB1 := hide h2; clear h1 h2))
  clear HC1
  have HPB := hide (probe_exp w1)
  have hcx := conv_x w1
  go_wp2_with fail
  refine (unhide HPB).mono ?_
  rintro e w2 ⟨vone, rfl, h1, h2⟩
  have HB2 := hide (below_next (unhide HB1) h2)
  have HB12 := hide h2
  have hcv := conv_reads h1 (by decide)
  rw [show ((([120, 120, 120] : List Nat).map UInt8.ofNat).toArray) = #[120, 120, 120] by decide] at hcv
  clear h1 h2 HPB hcx
  go_upto_region 5 with fail
  have hb2s := (unhide HB2).size
  have HBA : Hid (Below w.heap.size w (w2.alloc (.cells #[] 37))) := hide ((unhide HB2).alloc hb2s _)
  have HTA2 : Hid (ReadsTN (w2.alloc (.cells #[] 37)) aa ca ta) := hide ((unhide HTA).stays (unhide HBA))
  have HOB := hide (built_toks w2 w2.heap.size (Nat.le_refl _))
  have HB2A : Hid (Below w2.heap.size w2 (w2.alloc (.cells #[] 37))) := hide ((Below.refl _ _).alloc (Nat.le_refl _) _)
  clear hcv
  go_wp2_with (at_builtin; first | (refine wpList_append_toks rfl (.tmp 41) (.tmp 42) rfl w2.heap.size (.slice (some ⟨w2.heap.size, 0, none⟩) 0 0) 0 [] (by rfl) (unhide HOB) aa P ca ta (unhide HP) (by rfl) (unhide HTA2) (by omega) (by simp) ?_; intro v3 w3 ho3 hg3; have HO3 : Hid (w3.ownsRow w2.heap.size 37 3 v3 P (tcells ta)) := hide (by simpa using ho3); have HB23 : Hid (Below w2.heap.size w2 w3) := hide ((unhide HB2A).grown hg3 (by simp) (fun x e => by simp [Value.ownBlock] at e; omega)); have HB3 : Hid (Below w.heap.size w w3) := hide (below_next (unhide HB2) (unhide HB23)); have hb3s := (unhide HB23).size; clear ho3 hg3) | (refine wpList_append_toks rfl (.tmp 43) (.tmp 44) rfl w2.heap.size v3 P ta (by rfl) (unhide HO3) at' R ct tb (unhide HR) (by rfl) ((unhide HTB).stays (unhide HB3)) (by omega) hb3s ?_; intro v4 w4 ho4 hg4; have HO4 := hide ho4; have HB24 : Hid (Below w2.heap.size w2 w4) := hide ((unhide HB23).grown hg4 hb3s (fun x e => ((unhide HO3).lt x e).1)); have HB4 : Hid (Below w.heap.size w w4) := hide (below_next (unhide HB2) (unhide HB24)); clear ho4 hg4))
  obtain ⟨a4, c4, rfl, hr4⟩ := own_toks (unhide HO4) (by rw [List.length_append, unhide HP, unhide HR])
  have HC5 := hide (expand_ok bs (ta ++ tb) (.slice ab N cb) (.slice a4 (P + R) c4) w4.heap.size w4 (by rw [unhide HN] at hcb ⊢; exact ((unhide HRB).stays (unhide HB4)).reads.u hcb) (by have := hr4.t; rw [List.length_append, ← unhide HP, ← unhide HR] at this; exact this) (Nat.le_refl _) ((unhide HIA).app (unhide HIB)) (by rw [← unhide HN]; omega) (by rw [List.length_append, ← unhide HP, ← unhide HR]; omega))
  clear hr4 HO4 HO3 HOB HTA2 HB2A HBA HB23 HB3 hb3s
  refine (unhide HC5).mono ?_
  rintro e w5 ⟨va, f, rfl, h1, h2⟩
  have HX5 := hide h1
  have HB5 := hide (below_next (unhide HB4) h2)
  have HB25 := hide ((unhide HB24).trans (h2.mono (unhide HB24).size))
  clear h1 h2 HC5 HB4 HB24
  rcases unhide HX1 with ⟨hf, rfl⟩ | ⟨hg, rfl, ho⟩
  · have hfl := fails_left tb hf
    have hne : (ex != 0) = true := by have := hf.1; simpa using this
    rcases unhide HX5 with ⟨hf5, rfl⟩ | ⟨hg5, _, _⟩
    · obtain rfl := hf5.one hfl
      have hee : (f == f) = true := by simp
      clear hf hfl hf5 HX1 HX5
      go_wp2_with fail
      go_ret
      exact ⟨rfl, unhide HB5⟩
    · exact absurd hg5 hfl.not
  · obtain ⟨ax, cx, rfl, hxc, hxl, hrx⟩ := own_readsB ho
    have HG := hide hg
    have HB15 : Hid (Below w1.heap.size w1 w5) := hide ((unhide HB12).trans ((unhide HB25).mono (unhide HB12).size))
    have HRX := hide (hrx.stays (unhide HB15))
    have hmx := mades_length bs ta ta.length
    have hsum := hg.sum
    obtain ⟨mx, hmm⟩ : ∃ mx, mx = mades bs ta ta.length := ⟨_, rfl⟩
    rw [← hmm] at HRX hmx hxc hxl ⊢
    obtain ⟨X, hX⟩ : ∃ X, X = mx.length := ⟨_, rfl⟩
    rw [← hX] at hmx hxc ⊢
    have HMX := hide hmm
    have HXL := hide hX
    have HXS := hide hmx
    have hXb : X ≤ 268435456 := by omega
    have hb5s := (unhide HB5).size
    have HB5A : Hid (Below w5.heap.size w5 (w5.alloc (.cells #[] 5))) := hide ((Below.refl _ _).alloc (Nat.le_refl _) _)
    have HRB2 : Hid (ReadsB (w5.alloc (.cells #[] 5)) ab cb bs) := hide ((unhide HRB).stays ((unhide HB5).alloc hb5s _))
    have HOB := hide (built_none w5 w5.heap.size (Nat.le_refl _))
    clear hg ho hrx hmm hX HX1 hxl hsum hmx
    go_upto_region 8 with fail
    go_wp2_with (at_builtin; first | (refine wpList_append_bytes rfl (.tmp 60) (.tmp 61) rfl w5.heap.size (.slice (some ⟨w5.heap.size, 0, none⟩) 0 0) 0 [] (by rfl) (unhide HOB) ab N cb bs (unhide HN) (by rfl) (unhide HRB2) (by omega) (by simp) ?_; intro v6 w6 ho6 hg6; have HO6 : Hid (w6.ownsRow w5.heap.size 5 1 v6 N (bs.map bv)) := hide (by simpa using ho6); have HB56 : Hid (Below w5.heap.size w5 w6) := hide ((unhide HB5A).grown hg6 (by simp) (fun x e => by simp [Value.ownBlock] at e; omega)); have hb6s := (unhide HB56).size; clear ho6 hg6) | (refine wpList_append_bytes rfl (.tmp 62) (.tmp 63) rfl w5.heap.size v6 N bs (by rfl) (unhide HO6) ax X cx mx (unhide HXL) (by rfl) ((unhide HRX).stays (unhide HB56)) (by omega) hb6s ?_; intro v7 w7 ho7 hg7; have HO7 := hide ho7; have HB57 : Hid (Below w5.heap.size w5 w7) := hide ((unhide HB56).grown hg7 hb6s (fun x e => ((unhide HO6).lt x e).1)); clear ho7 hg7))
    obtain ⟨a7, c7, rfl, hc7, hl7, hr7⟩ := own_readsB (unhide HO7)
    have HB7 := hide (below_next (unhide HB5) (unhide HB57))
    have HC8 := hide (expand_ok (bs ++ mx) tb (.slice a7 (N + X) c7) (.slice at' R ct) w7.heap.size w7 (by rw [hl7] at hc7 ⊢; exact hr7.reads.u hc7) (by have := ((unhide HTB).stays (unhide HB7)).t; rw [← unhide HR] at this; exact this) (Nat.le_refl _) (unhide HIB) (by rw [List.length_append, ← unhide HN, ← unhide HXL]; omega) (by rw [← unhide HR]; omega))
    clear hr7 HO7 HO6 HOB HRB2 HB5A HB56 hb6s hl7
    refine (unhide HC8).mono ?_
    rintro e w8 ⟨vy, gy, rfl, h1, h2⟩
    have HX8 := hide h1
    have HB8 := hide (below_next (unhide HB7) h2)
    have HB58 := hide ((unhide HB57).trans (h2.mono (unhide HB57).size))
    clear h1 h2 HC8 HB7 HB57
    have hah : ((bs ++ mx).length : Int) = (bs.length : Int) + (tsum ta ta.length : Nat) := by rw [List.length_append, ← unhide HXL, unhide HXS]; simp
    rcases unhide HX8 with ⟨hf8, rfl⟩ | ⟨hg8, rfl, ho8⟩
    · rw [hah] at hf8
      obtain ⟨f', hf', hor⟩ := fails_right rfl (unhide HG) hf8
      have hne : (gy != 0) = true := by have := hf8.1; simpa using this
      rcases unhide HX5 with ⟨hf5, rfl⟩ | ⟨hg5, _, _⟩
      · obtain rfl := hf5.one hf'
        clear hf8 hf' hf5 HX5 HX8 hah
        rcases hor with rfl | ⟨rfl, hp⟩
        · have hee : (f == f) = true := by simp
          go_wp2_with fail
          go_ret
          exact ⟨rfl, unhide HB8⟩
        · have hPi : (0 : Int) < (P : Int) := by have := unhide HP; omega
          have hPn : 0 < P := by omega
          clear hp
          by_cases h3 : gy = 3
          · subst h3
            go_wp2_with fail
            go_ret
            exact ⟨by first | rfl | trivial, unhide HB8⟩
          · have h3b : ((3 : Int) == gy) = false := by simp; omega
            go_wp2_with fail
            go_ret
            exact ⟨by first | rfl | trivial, unhide HB8⟩
      · exact absurd hg5 hf'.not
    · rw [hah] at hg8
      have HGB := hide (good_both rfl (unhide HG) hg8)
      have hgw := (unhide HG).wide (a' := 9223372036854775807) (by rw [← unhide HN]; omega)
      have hgw2 : Good 9223372036854775807 tb tb.length := hg8.wide (by rw [← unhide HN, ← unhide HXS]; omega)
      have hs8 := hg8.sum
      obtain ⟨ay, cy, rfl, hyc, hyl, hry⟩ := own_readsB ho8
      have hmy := mades_length (bs ++ mx) tb tb.length
      obtain ⟨my, hmm⟩ : ∃ my, my = mades (bs ++ mx) tb tb.length := ⟨_, rfl⟩
      rw [← hmm] at hmy hyl hry hyc ⊢
      obtain ⟨Y, hY⟩ : ∃ Y, Y = tsum tb tb.length := ⟨_, rfl⟩
      rw [← hY] at hmy hs8
      rw [hmy] at hyc ⊢
      have HMY := hide hmm
      have HYS := hide hY
      have HRY := hide hry
      have HMYL := hide hmy
      have HC9 := hide (length_ok ta (.slice aa P ca) w8.heap.size w8 (by have := ((unhide HTA).stays (unhide HB8)).t; rw [← unhide HP] at this; exact this) (Nat.le_refl _) (unhide HIA) (by rw [← unhide HP]; omega))
      have HXI : Hid (LenIs ta (X : Int) 0) := hide (.inr ⟨hgw, by rw [unhide HXS], rfl⟩)
      have HYI : Hid (LenIs tb (Y : Int) 0) := hide (.inr ⟨hgw2, by rw [unhide HYS], rfl⟩)
      clear hg8 hgw hgw2 ho8 hry hmm hY hyl hmy HX8 hah
      go_upto_region 12 with (go_at_call 16; go_must (refine (unhide HC9).mono ?_; rintro e w9 ⟨n9, x9, rfl, h1, h2⟩; obtain ⟨h3, h4⟩ := h1.one (unhide HXI); have HB89 := hide h2; have HB9 := hide (below_next (unhide HB8) h2); clear h1 h2))
      subst h3 h4
      have HC10 := hide (length_ok tb (.slice at' R ct) w9.heap.size w9 (by have := ((unhide HTB).stays (unhide HB9)).t; rw [← unhide HR] at this; exact this) (Nat.le_refl _) (unhide HIB) (by rw [← unhide HR]; omega))
      clear HC9 HXI
      go_upto_region 13 with (go_at_call 16; go_must (refine (unhide HC10).mono ?_; rintro e w10 ⟨n10, x10, rfl, h1, h2⟩; obtain ⟨h3, h4⟩ := h1.one (unhide HYI); have HB8X := hide ((unhide HB89).trans (h2.mono (unhide HB89).size)); have HBX := hide (below_next (unhide HB9) h2); clear h1 h2))
      subst h3 h4
      clear HC10 HYI
      rcases unhide HX5 with ⟨hf5, rfl⟩ | ⟨hg5, rfl, ho5⟩
      · rcases unhide HGB with hgb | ⟨hfb, hbig⟩
        · exact absurd hgb hf5.not
        · obtain rfl := hf5.one hfb
          have hbi : (268435456 : Int) < (X : Int) + (Y : Int) := by rw [← unhide HXS, ← unhide HYS] at hbig; omega
          clear hf5 hfb hbig HGB HX5
          go_wp2_with fail
          go_ret
          exact ⟨rfl, unhide HBX⟩
      · obtain ⟨aA, cA, rfl, _, hlA, hrA⟩ := own_readsB ho5
        have hB5X : Below w5.heap.size w5 w10 := (unhide HB58).trans ((unhide HB8X).mono (unhide HB58).size)
        have hB1X : Below w1.heap.size w1 w10 := (unhide HB15).trans (hB5X.mono (unhide HB15).size)
        have hka := conv_reads (hrA.stays hB5X).reads (mades_small (unhide HSM) ((unhide HSA).app (unhide HSB)) _)
        have hmxs : ∀ z ∈ mx, z < 256 := by rw [unhide HMX]; exact mades_small (unhide HSM) (unhide HSA) _
        have hkx := conv_reads ((unhide HRX).stays hB5X).reads hmxs
        have hky := conv_reads ((unhide HRY).stays (unhide HB8X)).reads (by rw [unhide HMY]; exact mades_small (by intro z hz; rw [List.mem_append] at hz; rcases hz with hz | hz; exact unhide HSM z hz; exact hmxs z hz) (unhide HSB) _)
        have hall := mades_both bs ta tb
        rw [← unhide HMX, ← unhide HMY] at hall
        rw [hall] at hka ⊢
        have hcat := str_app mx my
        rw [← unhide HXL] at hkx
        rw [unhide HMYL] at hky
        obtain ⟨L, hL⟩ : ∃ L, L = (mx ++ my).length := ⟨_, rfl⟩
        rw [← hL] at hka ⊢
        unfold str at hcat
        obtain ⟨SX, hSX⟩ : ∃ S : ByteArray, S = ⟨(mx.map UInt8.ofNat).toArray⟩ := ⟨_, rfl⟩
        obtain ⟨SY, hSY⟩ : ∃ S : ByteArray, S = ⟨(my.map UInt8.ofNat).toArray⟩ := ⟨_, rfl⟩
        obtain ⟨SA, hSA⟩ : ∃ S : ByteArray, S = ⟨((mx ++ my).map UInt8.ofNat).toArray⟩ := ⟨_, rfl⟩
        rw [← hSX] at hkx hcat
        rw [← hSY] at hky hcat
        rw [← hSA] at hka hcat
        have hbig : ¬ 9223372036854775807 < SX.size + SY.size := by
          have h1 : SX.size = mx.length := by rw [hSX]; simp [ByteArray.size]
          have h2 : SY.size = my.length := by rw [hSY]; simp [ByteArray.size]
          rw [h1, h2, ← unhide HXL, unhide HMYL]
          omega
        clear hSX hSY hSA hL hall hmxs hrA hB5X hB1X ho5 hg5 HX5 HGB hlA
        go_wp2_with fail
        go_ret
        exact ⟨rfl, unhide HBX⟩

end Go.Proofs.Ytabnfnejlffioaa
