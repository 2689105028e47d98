/- The law SumsTurned, walked. -/
import Derived.Test.YtnijllkafakoiaaTell
import Derived.Test.YtnijllkafakoiaaSumMath
namespace Go.Proofs.Ytnijllkafakoiaa
open Go.RowKit

theorem sum32_nil (f : Nat → Nat) (s : Nat) : sum32 f s 0 [] = 0 := by simp [sum32, crc]
theorem adler_nil : adler 1 [] = 1 := rfl

set_option maxRecDepth 100000 in
set_option maxHeartbeats 4000000 in
theorem turned_nil (place : Int) (ba : Option Addr) (bcap : Nat) (w : World) (hr : Reads w (.slice ba 0 bcap) []) :
    Calls Try.prog 7 #[.slice ba 0 bcap, .int .i64 place] w fun e w' => e = .returned (.bool true) ∧ Below w.heap.size w w' := by
  have HR := hide hr
  clear hr
  go_enter Try.func7, Try.ntmps7
  go_wp2_with fail
  refine (crc32_walk 0 _ [] _ (by omega) (unhide HR) (by simp) (by simp)).mono ?_
  rintro e w1 ⟨rfl, hb1⟩
  rw [sum32_nil]
  have HB1 := hide hb1
  clear hb1
  go_wp2_with fail
  refine (adler_walk 1 _ _ [] _ (by omega) ((unhide HR).stays (unhide HB1)) (by simp) (by simp) (by simp)).mono ?_
  rintro e w2 ⟨rfl, hw⟩
  subst hw
  rw [adler_nil]
  go_wp2_with fail
  go_ret
  exact ⟨rfl, unhide HB1⟩

/-- the nine digits, laid in new memory -/
def nineCells : Array Value := #[.int .u8 49, .int .u8 50, .int .u8 51, .int .u8 52, .int .u8 53, .int .u8 54, .int .u8 55, .int .u8 56, .int .u8 57]

theorem reads_nine (w : World) : Reads (w.alloc (.cells nineCells 5 (9, 10))) (.slice (some ⟨w.heap.size, 0, none⟩) 9 9) nine := by
  refine ⟨_, _, rfl, fun _ => ⟨_, rfl, fun j u hj => ?_⟩⟩
  have ea : (⟨w.heap.size, 0, none⟩ : Addr).add j = ⟨w.heap.size, j, none⟩ := by by_cases hq : j = 0 <;> simp [Addr.add, hq]
  have e2 : nineCells = (nine.map bv).toArray := rfl
  rw [ea]
  simp only [World.cell?, heap_alloc_last w]
  rw [e2]
  simpa using hj

theorem conv_nine (w : World) : (convert 24 24 (.slice (some ⟨w.heap.size, 0, none⟩) 9 9)).run Try.prog (w.alloc (.cells #[.int .u8 49, .int .u8 50, .int .u8 51, .int .u8 52, .int .u8 53, .int .u8 54, .int .u8 55, .int .u8 56, .int .u8 57] 5)) = .ok (.slice (some ⟨w.heap.size, 0, none⟩) 9 9) (w.alloc (.cells nineCells 5 (9, 10))) :=
  Lib.run_convert_bytes_const w 24 5 nineCells 9 9 Try.underlying24 Try.underlying5

theorem nine_small : ∀ z ∈ nine, z < 256 := by decide

/-- the place of the bit -/
theorem place_at (place : Int) (M : Nat) (h0 : 0 < M) (hM : M ≤ 1125899906842624) : ∃ K : Nat, K < M ∧ (wrap64 (place.tmod (M : Int) + (M : Int))).tmod (M : Int) = (K : Int) := by
  have h1 : place.tmod (M : Int) < (M : Int) := Int.tmod_lt_of_pos _ (by omega)
  have h2 : -(M : Int) < place.tmod (M : Int) := by
    have := Int.lt_tmod_of_pos place (b := (M : Int)) (by omega)
    exact this
  have h3 : wrap64 (place.tmod (M : Int) + (M : Int)) = place.tmod (M : Int) + (M : Int) := by
    unfold wrap64; omega
  rw [h3]
  generalize place.tmod (M : Int) = t at h1 h2
  rw [Int.tmod_eq_emod_of_nonneg (by omega)]
  have h4 := Int.emod_nonneg (t + (M : Int)) (b := (M : Int)) (by omega)
  have h5 := Int.emod_lt_of_pos (t + (M : Int)) (b := (M : Int)) (by omega)
  obtain ⟨K, hK⟩ := Int.eq_ofNat_of_zero_le h4
  exact ⟨K, by omega, hK⟩

theorem reads_set {w : World} {base n cap g : Nat} {zs : List Nat} (h : w.ownsRow base 5 1 (.slice (some ⟨g, 0, none⟩) n cap) n (zs.map bv)) (hn : zs.length = n) (i y : Nat) (hi : i < n) :
    Reads (w.setCell ⟨g, i, none⟩ (.int .u8 (y : Int))) (.slice (some ⟨g, 0, none⟩) n cap) (zs.set i y) := by
  obtain ⟨hl, hr⟩ := h
  rcases hr with ⟨e, _⟩ | ⟨g', cap', cur, e, hb, hh, hle, hc, hs, ht⟩
  · cases e
  · injection e with e1 e2 e3
    injection e1 with e1
    injection e1 with e1
    subst e1 e3
    refine ⟨some ⟨g, 0, none⟩, cap, by simp [hn], fun _ => ⟨⟨g, 0, none⟩, rfl, fun j u hj => ?_⟩⟩
    have hj' : j < n := by
      have := (List.getElem?_eq_some_iff.1 hj).1
      simp at this; omega
    have ea : (⟨g, 0, none⟩ : Addr).add j = ⟨g, j, none⟩ := by by_cases hq : j = 0 <;> simp [Addr.add, hq]
    have hcur : cur[j]? = (zs.map bv)[j]? := by
      have h2 : (cur.toList.take (n * 1))[j]? = (zs.map bv)[j]? := by rw [ht]
      rw [List.getElem?_take, if_pos (by omega)] at h2
      rw [← Array.getElem?_toList, h2]
    rw [ea]
    simp only [World.cell?, heap_setCell_same w g i cur 5 _ hh]
    by_cases hij : i = j
    · subst hij
      have hu : u = bv y := by
        rw [List.map_set, List.getElem?_set_self (by simp; omega)] at hj
        exact (Option.some.inj hj).symm
      have hlt : i < cur.size := by
        have : cur[i]? = some (bv zs[i]) := by rw [hcur]; simp [show i < zs.length by omega]
        exact (Array.getElem?_eq_some_iff.1 this).1
      simp [hlt, hu, bv]
    · rw [List.map_set, List.getElem?_set_ne hij] at hj
      simp only [Array.getElem?_setIfInBounds_ne hij]
      rw [hcur]
      simpa using hj

set_option maxRecDepth 100000 in
set_option maxHeartbeats 4000000 in
theorem turned_walk (place : Int) (ad : Addr) (bcap : Nat) (zs : List Nat) (w : World) (h0 : 0 < zs.length)
    (hr : ∀ (j : Nat) u, (zs.map bv)[j]? = some u → w.cell? (ad.add j) = some u) (hs : ∀ z ∈ zs, z < 256) (hl : zs.length ≤ 140737488351232) :
    Calls Try.prog 7 #[.slice (some ad) zs.length bcap, .int .i64 place] w fun e w' => e = .returned (.bool true) ∧ Below w.heap.size w w' := by
  obtain ⟨i0, hi, hz0, hz1, hz2⟩ := info_parts info5
  have HR := hide (reads_of (.inr ⟨ad, rfl, hr⟩) : Reads w (.slice (some ad) zs.length bcap) zs)
  have HC := hide hr
  have HSM := hide hs
  have HLN : Hid (zs.length ≤ 140737488355328) := hide (by omega)
  obtain ⟨M, hM⟩ : ∃ M, M = 8 * zs.length := ⟨_, rfl⟩
  have hMi : 8 * (zs.length : Int) = (M : Int) := by omega
  have hMb : (M : Int) ≤ 1125899906842624 := by omega
  have hM0 : (0 : Int) < (M : Int) := by omega
  have hL0 : ((zs.length : Int) == 0) = false := beq_false_of_ne (by omega)
  have HM := hide hM
  have HL0 := hide h0
  have HLL := hide hl
  clear hr hs hM h0 hl
  obtain ⟨K, hKM, hk⟩ := place_at place M (by omega) (by omega)
  obtain ⟨i, hii⟩ : ∃ i, i = K / 8 := ⟨_, rfl⟩
  obtain ⟨m, hmm⟩ : ∃ m, m = K % 8 := ⟨_, rfl⟩
  obtain ⟨d, hdd⟩ : ∃ d, d = 2 ^ m := ⟨_, rfl⟩
  have hki : (K : Int) / 8 = (i : Int) := by omega
  have hkm : (K : Int) % 8 = (m : Int) := by omega
  have hd1 : 0 < d ∧ d < 256 := by
    rw [hdd]
    exact ⟨Nat.two_pow_pos m, Nat.pow_lt_pow_right (a := 2) (n := 8) (by omega) (by omega)⟩
  have hdi : (2 : Int) ^ m % 256 = (d : Int) := by
    have : (2 : Int) ^ m = (d : Int) := by rw [hdd]; simp
    rw [this]; omega
  have hil : i < zs.length := by have := unhide HM; omega
  obtain ⟨c, hc⟩ : ∃ c, c = zs.getD i 0 := ⟨_, rfl⟩
  have hc256 : c < 256 := by rw [hc]; exact unhide HSM _ (getD_mem zs i hil)
  obtain ⟨y, hy⟩ : ∃ y, c ^^^ d = y := ⟨_, rfl⟩
  have hy256 : y < 256 := by rw [← hy]; exact Nat.xor_lt_two_pow (n := 8) (by omega) (by omega)
  have hx : bits .xor .u8 (c : Int) (d : Int) = (y : Int) := by rw [u8_xor_nat c d hc256 (by omega), hy]
  have hili : (i : Int) < (zs.length : Int) := by omega
  have HIL := hide hil
  have H32 : Hid (sum32 (lstep pl) 1 0 zs ≠ sum32 (lstep pl) 1 0 (zs.set i y)) := hide (by
    have := sum32_turned (lstep_lin pl) (lstep_sharp pl 31 (by decide)) (fun r hr => lstep_lt (w := 32) (by decide) hr) 0 zs i d hil (by omega) hd1.1
    rw [← hc, hy] at this; exact this)
  have HHI : Hid (sum32 (hstep ph) 16777216 0 zs ≠ sum32 (hstep ph) 16777216 0 (zs.set i y)) := hide (by
    have := sum32_turned (hstep_lin ph) (hstep_sharp ph (by decide)) (fun r _ => hstep_lt (by decide)) 24 zs i d hil (by omega) hd1.1
    rw [← hc, hy] at this; exact this)
  have H64 : Hid (sum64 (lstep pw) 1 0 zs ≠ sum64 (lstep pw) 1 0 (zs.set i y)) := hide (by
    have := sum64_turned (lstep_lin pw) (lstep_sharp pw 63 (by decide)) (fun r hr => lstep_lt (w := 64) (by decide) hr) 0 zs i d hil (by omega) hd1.1
    rw [← hc, hy] at this; exact this)
  have HS2 : Hid (∀ z ∈ zs.set i y, z < 256) := hide fun z hz => by
    rcases List.mem_or_eq_of_mem_set hz with h | h
    · exact unhide HSM z h
    · omega
  have HCC := hide hc
  clear hc hy hy256 hc256 hd1 hdd hii hmm hKM hil
  go_enter Try.func7, Try.ntmps7
  go_upto_region 5 with fail
  go_cut [7] (fun v7 wc => wc.ownsRow w.heap.size 5 1 v7 zs.length (zs.map bv) ∧ Below w.heap.size w wc)
  case first =>
    go_wp2_with (at_builtin; (refine wpList_append_own _ rfl (.tmp 29) (.tmp 30) 24 rfl w.heap.size 5 i0 (.int .u8 0) 1 1 Try.underlying24 hi hz0 hz1 hz2 rfl (by decide) _ 0 [] (by rfl) (World.ownsRow_made w #[] 0 (Nat.le_refl _) (by unfold maxLen; omega) rfl) ad zs.length bcap (zs.map bv) (by rfl) (by simp) (by intro j u hj; exact cell_stays (by exact (Below.refl _ _).alloc (Nat.le_refl _) _) (unhide HC j u hj)) (by intro u hu; simp at hu; obtain ⟨z, _, rfl⟩ := hu; rfl) (by have := unhide HLL; unfold maxLen; omega) (by have := unhide HLL; omega) (by simp) ?_; intro v' w1 hown' hgrow _; have HO' : Hid (w1.ownsRow w.heap.size 5 1 v' zs.length (zs.map bv)) := hide (by simpa using hown'); have HB1 : Hid (Below w.heap.size w w1) := hide (((Below.refl _ _).alloc (Nat.le_refl _) _).grown hgrow (by simp) (fun k e => by simp [Value.ownBlock] at e; omega)); clear hown' hgrow))
    go_meet
    exact ⟨unhide HO', unhide HB1⟩
  case rest =>
    obtain ⟨hown, hbel⟩ := hcut
    obtain ⟨g, cap, rfl, hcap2, hg1, hg2⟩ := own_block hown (unhide HL0)
    have HOWN := hide hown
    have HB0 := hide hbel
    obtain ⟨_, hfz⟩ := (RowB.of hown rfl).cell i (unhide HIL)
    have hcell := hown.cells (g := g) rfl i (.int .u8 (c : Int)) (by rw [unhide HCC]; simp [bv, unhide HIL])
    have ea : (⟨g, 0, none⟩ : Addr).add i = ⟨g, i, none⟩ := by by_cases hq : i = 0 <;> simp [Addr.add, hq]
    rw [ea] at hcell
    have HRB := hide (reads_set hown rfl i y (unhide HIL))
    have HB2 : Hid (Below w.heap.size w (wc.setCell ⟨g, i, none⟩ (.int .u8 (y : Int)))) := hide (hbel.setCell (by exact hg1) _)
    clear hown hbel ea hg1 hg2 hcap2
    go_wp2_with fail
    have hsz2 := (unhide HB2).size
    have HX0 := hide (Below.refl (wc.setCell ⟨g, i, none⟩ (.int .u8 (y : Int))).heap.size (wc.setCell ⟨g, i, none⟩ (.int .u8 (y : Int))))
    refine (crc32_walk 0 _ zs _ (by omega) ((unhide HR).stays ((unhide HB2).trans ((unhide HX0).mono hsz2))) (unhide HSM) (unhide HLN)).mono ?_
    rintro e w1 ⟨rfl, hb⟩
    have HX1 := hide ((unhide HX0).trans (hb.mono (unhide HX0).size))
    clear hb
    obtain ⟨A, hA⟩ : ∃ A, A = sum32 (lstep pl) 1 0 zs := ⟨_, rfl⟩
    rw [← hA] at H32 ⊢
    clear hA
    go_wp2_with fail
    refine (crc32_walk 0 _ (zs.set i y) _ (by omega) ((unhide HRB).stays (unhide HX1)) (unhide HS2) (by simpa using unhide HLN)).mono ?_
    rintro e w2 ⟨rfl, hb⟩
    have HX2 := hide ((unhide HX1).trans (hb.mono (unhide HX1).size))
    clear hb
    obtain ⟨A', hA'⟩ : ∃ A', A' = sum32 (lstep pl) 1 0 (zs.set i y) := ⟨_, rfl⟩
    rw [← hA'] at H32 ⊢
    clear hA'
    have hneA : ¬ A = A' := unhide H32
    go_wp2_with fail
    refine (high_walk 0 _ zs _ (by omega) ((unhide HR).stays ((unhide HB2).trans ((unhide HX2).mono hsz2))) (unhide HSM) (unhide HLN)).mono ?_
    rintro e w3 ⟨rfl, hb⟩
    have HX3 := hide ((unhide HX2).trans (hb.mono (unhide HX2).size))
    clear hb
    obtain ⟨B, hB⟩ : ∃ B, B = sum32 (hstep ph) 16777216 0 zs := ⟨_, rfl⟩
    rw [← hB] at HHI ⊢
    clear hB
    go_wp2_with fail
    refine (high_walk 0 _ (zs.set i y) _ (by omega) ((unhide HRB).stays (unhide HX3)) (unhide HS2) (by simpa using unhide HLN)).mono ?_
    rintro e w4 ⟨rfl, hb⟩
    have HX4 := hide ((unhide HX3).trans (hb.mono (unhide HX3).size))
    clear hb
    obtain ⟨B', hB'⟩ : ∃ B', B' = sum32 (hstep ph) 16777216 0 (zs.set i y) := ⟨_, rfl⟩
    rw [← hB'] at HHI ⊢
    clear hB'
    have hneB : ¬ B = B' := unhide HHI
    go_wp2_with fail
    refine (crc64_walk 0 _ zs _ (by omega) ((unhide HR).stays ((unhide HB2).trans ((unhide HX4).mono hsz2))) (unhide HSM) (unhide HLN)).mono ?_
    rintro e w5 ⟨rfl, hb⟩
    have HX5 := hide ((unhide HX4).trans (hb.mono (unhide HX4).size))
    clear hb
    obtain ⟨C, hC⟩ : ∃ C, C = sum64 (lstep pw) 1 0 zs := ⟨_, rfl⟩
    rw [← hC] at H64 ⊢
    clear hC
    go_wp2_with fail
    refine (crc64_walk 0 _ (zs.set i y) _ (by omega) ((unhide HRB).stays (unhide HX5)) (unhide HS2) (by simpa using unhide HLN)).mono ?_
    rintro e w6 ⟨rfl, hb⟩
    have HX6 := hide ((unhide HX5).trans (hb.mono (unhide HX5).size))
    clear hb
    obtain ⟨C', hC'⟩ : ∃ C', C' = sum64 (lstep pw) 1 0 (zs.set i y) := ⟨_, rfl⟩
    rw [← hC'] at H64 ⊢
    clear hC'
    have hneC : ¬ C = C' := unhide H64
    have hcn := conv_nine w6
    go_wp2_with fail
    refine (crc32_walk 0 _ nine _ (by omega) (reads_nine w6) nine_small (by decide)).mono ?_
    rintro e w7 ⟨rfl, hb⟩
    have HX7 : Hid (Below w.heap.size w w7) := hide (((unhide HB2).trans ((unhide HX6).mono hsz2)).trans ((((Below.refl w6.heap.size w6).alloc (Nat.le_refl _) _).trans (hb.mono (by simp))).mono (by have h1 := (unhide HX6).size; omega)))
    rw [nine32, show ((3421780262 : Nat) : Int) = 3421780262 from rfl]
    clear hb hcn
    go_wp2_with fail
    go_ret
    refine ⟨?_, unhide HX7⟩
    have e1 : ((A : Int) != (A' : Int)) = true := bne_iff_ne.2 (by omega)
    have e2 : ((B : Int) != (B' : Int)) = true := bne_iff_ne.2 (by omega)
    have e3 : ((C : Int) != (C' : Int)) = true := bne_iff_ne.2 (by omega)
    show Ending.returned (Value.bool ((A : Int) != (A' : Int) && (B : Int) != (B' : Int) && (C : Int) != (C' : Int))) = _
    rw [e1, e2, e3]
    rfl

theorem turned_all (place : Int) (ba : Option Addr) (bcap : Nat) (zs : List Nat) (w : World)
    (hr : (ba = none ∧ bcap = 0 ∧ zs = []) ∨ ∃ ad, ba = some ad ∧ ∀ (j : Nat) u, (zs.map bv)[j]? = some u → w.cell? (ad.add j) = some u) (hs : ∀ z ∈ zs, z < 256) (hl : zs.length ≤ 140737488351232) :
    Calls Try.prog 7 #[.slice ba zs.length bcap, .int .i64 place] w fun e w' => e = .returned (.bool true) ∧ Below w.heap.size w w' := by
  by_cases h0 : zs.length = 0
  · obtain rfl : zs = [] := List.eq_nil_of_length_eq_zero h0
    exact turned_nil place ba bcap w (reads_of hr)
  · rcases hr with ⟨_, _, rfl⟩ | ⟨ad, rfl, hr⟩
    · exact absurd rfl h0
    · exact turned_walk place ad bcap zs w (by omega) hr hs hl
end Go.Proofs.Ytnijllkafakoiaa
