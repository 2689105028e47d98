/-
  The law NumberPuts, walked.
-/
import Derived.Test.YtnjjpmomdbhjjaaPutVar
namespace Go.Proofs.Ytnjjpmomdbhjjaa
open Go.RowKit

theorem fits_puts {E : Int} {N : Nat} {zb zw : List Nat} {vx vy vw vb : Value} {w w1 w2 w3 : World} (hN : E = 0 → N = (zb ++ zw).length) (hl : E = 0 → (zb ++ zw).length ≤ 140737488355328) (hs : ∀ z ∈ zb ++ zw, z < 256)
    (h1 : Ans E N (zb ++ zw) w.heap.size vx w1) (b1 : Below w.heap.size w w1) (h2 : Ans E N (zb ++ zw) w1.heap.size vy w2) (b2 : Below w1.heap.size w1 w2) (h3 : Wants E zw vw w3) (b3 : Below w2.heap.size w2 w3) (hb : Reads w vb zb) :
    Calls Try.prog 9 #[vx, vy, .int .i64 E, vb, vw, .int .i64 E] w3 fun r w4 => r = .returned (.bool true) ∧ Below w.heap.size w w4 := by
  have s1 := b1.size
  have s2 := b2.size
  have s3 := b3.size
  have b13 : Below w.heap.size w w3 := (b1.trans (b2.mono s1)).trans (b3.mono (by omega))
  rcases h1 with ⟨he, rfl⟩ | ⟨he, rfl, m1⟩
  · rcases h2 with ⟨_, rfl⟩ | ⟨he2, _⟩
    · rcases h3 with ⟨_, rfl⟩ | ⟨he3, _⟩
      · refine (behind_bad E he _ _ w3).mono ?_
        rintro r w4 ⟨rfl, h⟩
        exact ⟨rfl, b13.trans (h.mono (by omega))⟩
      · exact absurd he3 he
    · exact absurd he2 he
  · rcases h2 with ⟨he2, _⟩ | ⟨_, rfl, m2⟩
    · exact absurd he he2
    · rcases h3 with ⟨he3, _⟩ | ⟨_, m3⟩
      · exact absurd he he3
      · have hN' := hN he
        have hl' := hl he
        subst hN'
        rw [he]
        have e1 : w3.heap[w.heap.size]? = some (.cells ((zb ++ zw).map bv).toArray 5 (0, 0)) := by rw [b3.block _ (by have := heap_lt m1; omega), b2.block _ (heap_lt m1)]; exact m1
        have e2 : w3.heap[w1.heap.size]? = some (.cells ((zb ++ zw).map bv).toArray 5 (0, 0)) := by rw [b3.block _ (heap_lt m2)]; exact m2
        refine (behind_good w.heap.size _ _ _ zb zw w3 e1 (fun w4 ho => Reads.only e2 (by have := heap_lt m1; omega) _ rfl ho) (hb.stays b13) m3 hs hl').mono ?_
        rintro r w4 ⟨rfl, h⟩
        exact ⟨rfl, b13.trans (h.below (Nat.le_refl _) (by omega))⟩

theorem lowB_sm {zs : List Nat} (hs : ∀ z ∈ zs, z < 256) (V n : Nat) : ∀ z ∈ zs ++ lowB V n, z < 256 := by
  intro z hz
  rcases List.mem_append.1 hz with h | h
  · exact hs z h
  · exact lowB_small V n z h
theorem highB_sm {zs : List Nat} (hs : ∀ z ∈ zs, z < 256) (V n : Nat) : ∀ z ∈ zs ++ highB V n, z < 256 := by
  intro z hz
  rcases List.mem_append.1 hz with h | h
  · exact hs z h
  · exact highB_small V n z h
theorem varB_sm {zs : List Nat} (hs : ∀ z ∈ zs, z < 256) (V : Nat) : ∀ z ∈ zs ++ varB V, z < 256 := by
  intro z hz
  rcases List.mem_append.1 hz with h | h
  · exact hs z h
  · exact varB_small V z h
theorem putErr_n {V : Nat} {n : Int} (h : putErr V n = 0) : n.toNat ≤ 8 := by
  by_cases h1 : n < 1 ∨ 8 < n
  · rw [putErr_arg h1] at h; cases h
  · omega
theorem varErr_n {V : Nat} (h : varErr V = 0) : V < 9223372036854775808 := by
  by_cases h1 : V < 9223372036854775808
  · exact h1
  · rw [varErr_big h1] at h; cases h

theorem refPutVar_any (V : Nat) (hV : V < 18446744073709551616) (w : World) :
    Calls Try.prog 12 #[.int .u64 (V : Int)] w fun e w' => ∃ vx, e = .returned (.tuple #[vx, .int .i64 (varErr V)]) ∧ Wants (varErr V) (varB V) vx w' ∧ Below w.heap.size w w' := by
  by_cases h : V < 9223372036854775808
  · rw [varErr_ok h]
    refine (refPutVar_ok V h w).mono ?_
    rintro e w' ⟨lv, rfl, h3, h4⟩
    exact ⟨_, rfl, .inr ⟨rfl, own_reads h3 (varB_length V (nb_le V h).1)⟩, h4⟩
  · rw [varErr_big h]
    refine (refPutVar_big V h hV w).mono ?_
    rintro e w' ⟨rfl, rfl⟩
    exact ⟨_, rfl, .inl ⟨by decide, rfl⟩, Below.refl _ _⟩

theorem own_block {w : World} {base n : Nat} {v : Value} {xs : List Value} (h : w.ownsRow base 5 1 v n xs) (hn : 0 < n) : ∃ g cap, v = .slice (some ⟨g, 0, none⟩) n cap ∧ n ≤ cap ∧ base ≤ g ∧ g < w.heap.size := by
  rcases h.2 with ⟨_, e'⟩ | ⟨g, cap, cur, e, hb, hh, hle, _⟩
  · omega
  · exact ⟨g, cap, e, by simpa using hle, hb, heap_lt hh⟩

theorem take_reads {w : World} {base n cap g : Nat} {zs : List Nat} {z : Nat} (h : w.ownsRow base 5 1 (.slice (some ⟨g, 0, none⟩) n cap) n ((zs ++ [z]).map bv)) : Reads w (.slice (some ⟨g, 0, none⟩) zs.length cap) zs := by
  refine ⟨_, _, rfl, fun _ => ⟨_, rfl, fun j u hj => ?_⟩⟩
  refine h.cells rfl j u ?_
  rw [List.map_append, List.getElem?_append_left (by have := (List.getElem?_eq_some_iff.1 hj).1; omega)]
  exact hj

set_option maxRecDepth 100000 in
set_option maxHeartbeats 4000000 in
theorem puts_walk (ba : Option Addr) (bcap : Nat) (zs : List Nat) (V : Nat) (n : Int) (w : World) (hV : V < 18446744073709551616)
    (hr : (ba = none ∧ bcap = 0 ∧ zs = []) ∨ ∃ ad, ba = some ad ∧ ∀ (j : Nat) u, (zs.map bv)[j]? = some u → w.cell? (ad.add j) = some u) (hs : ∀ z ∈ zs, z < 256) (hl : zs.length ≤ 140737488351232) :
    Calls Try.prog 3 #[.slice ba zs.length bcap, .int .u64 (V : Int), .int .i64 n] w fun e w' => e = .returned (.bool true) ∧ Below w.heap.size w w' := by
  obtain ⟨i0, hi, hz0, hz1, hz2⟩ := info_parts info5
  have HR := hide (reads_of hr)
  have HSRC := hide hr
  have FL : Hid (∀ (vx vy vw vb : Value) (w w1 w2 w3 : World), Ans (putErr V n) (zs.length + n.toNat) (zs ++ lowB V n.toNat) w.heap.size vx w1 → Below w.heap.size w w1 → Ans (putErr V n) (zs.length + n.toNat) (zs ++ lowB V n.toNat) w1.heap.size vy w2 → Below w1.heap.size w1 w2 → Wants (putErr V n) (lowB V n.toNat) vw w3 → Below w2.heap.size w2 w3 → Reads w vb zs →
      Calls Try.prog 9 #[vx, vy, .int .i64 (putErr V n), vb, vw, .int .i64 (putErr V n)] w3 fun r w4 => r = .returned (.bool true) ∧ Below w.heap.size w w4) :=
    hide (fun vx vy vw vb w w1 w2 w3 h1 b1 h2 b2 h3 b3 hb => fits_puts (fun he => by rw [List.length_append, lowB_length]) (fun he => by rw [List.length_append, lowB_length]; have := putErr_n he; omega) (lowB_sm hs V _) h1 b1 h2 b2 h3 b3 hb)
  have FH : Hid (∀ (vx vy vw vb : Value) (w w1 w2 w3 : World), Ans (putErr V n) (zs.length + n.toNat) (zs ++ highB V n.toNat) w.heap.size vx w1 → Below w.heap.size w w1 → Ans (putErr V n) (zs.length + n.toNat) (zs ++ highB V n.toNat) w1.heap.size vy w2 → Below w1.heap.size w1 w2 → Wants (putErr V n) (highB V n.toNat) vw w3 → Below w2.heap.size w2 w3 → Reads w vb zs →
      Calls Try.prog 9 #[vx, vy, .int .i64 (putErr V n), vb, vw, .int .i64 (putErr V n)] w3 fun r w4 => r = .returned (.bool true) ∧ Below w.heap.size w w4) :=
    hide (fun vx vy vw vb w w1 w2 w3 h1 b1 h2 b2 h3 b3 hb => fits_puts (fun he => by rw [List.length_append, highB_length]) (fun he => by rw [List.length_append, highB_length]; have := putErr_n he; omega) (highB_sm hs V _) h1 b1 h2 b2 h3 b3 hb)
  have FV : Hid (∀ (vx vy vw vb : Value) (w w1 w2 w3 : World), Ans (varErr V) (zs.length + nb V) (zs ++ varB V) w.heap.size vx w1 → Below w.heap.size w w1 → Ans (varErr V) (zs.length + nb V) (zs ++ varB V) w1.heap.size vy w2 → Below w1.heap.size w1 w2 → Wants (varErr V) (varB V) vw w3 → Below w2.heap.size w2 w3 → Reads w vb zs →
      Calls Try.prog 9 #[vx, vy, .int .i64 (varErr V), vb, vw, .int .i64 (varErr V)] w3 fun r w4 => r = .returned (.bool true) ∧ Below w.heap.size w w4) :=
    hide (fun vx vy vw vb w w1 w2 w3 h1 b1 h2 b2 h3 b3 hb => fits_puts (fun he => by rw [List.length_append, varB_length V (nb_le V (varErr_n he)).1]) (fun he => by rw [List.length_append, varB_length V (nb_le V (varErr_n he)).1]; have := nb_le V (varErr_n he); omega) (varB_sm hs V) h1 b1 h2 b2 h3 b3 hb)
  have cL := fun (v : Value) (w : World) (hr : Reads w v zs) => putLow_any v zs V n w hr (by omega)
  have cH := fun (v : Value) (w : World) (hr : Reads w v zs) => putHigh_any v zs V n w hr (by omega)
  have cV := fun (v : Value) (w : World) (hr : Reads w v zs) => putVar_any v zs V hV w hr (by omega)
  have rL := refPut_low V n hV
  have rH := refPut_high V n hV
  have rV := refPutVar_any V hV
  generalize putErr V n = E at *
  generalize varErr V = EV at *
  generalize lowB V n.toNat = zl at *
  generalize highB V n.toNat = zh at *
  generalize varB V = zv at *
  generalize zs.length + n.toNat = N at *
  generalize zs.length + nb V = NV at *
  have HSM := hide hs
  clear hr hs
  go_enter Try.func3, Try.ntmps3
  go_upto_region 1 with fail
  go_cut [7] (fun v7 wc => wc.ownsRow w.heap.size 5 1 v7 (zs.length + 1) ((zs ++ [90]).map bv) ∧ Below w.heap.size w wc)
  case first =>
    rcases unhide HSRC with ⟨rfl, rfl, rfl⟩ | ⟨ad, rfl, hcell⟩
    · have HN0 : Hid (∀ (j : Nat) u, [bv 90][j]? = some u → ((w.alloc (.cells #[] 5)).alloc (.cells #[bv 90] 5)).cell? ((⟨w.heap.size + 1, 0, none⟩ : Addr).add j) = some u) := hide (by have := news_one (w := w.alloc (.cells #[] 5)) (bv 90) 5; simpa using this)
      go_wp2_with (at_builtin; first | (refine wpList_append_own_none rfl (.tmp 16) (.tmp 17) 22 rfl w.heap.size 5 i0 1 Try.underlying22 hi _ 0 [] (by rfl) (World.ownsRow_made w #[] 0 (Nat.le_refl _) (by unfold maxLen; omega) rfl) (by rfl) ?_) | (refine wpList_append_own _ rfl (.tmp 18) (.tmp 19) 22 rfl w.heap.size 5 i0 (.int .u8 0) 1 1 Try.underlying22 hi hz0 hz1 hz2 rfl (by decide) _ 0 [] (by rfl) ((World.ownsRow_made w #[] 0 (Nat.le_refl _) (by unfold maxLen; omega) rfl).alloc _) ⟨w.heap.size + 1, 0, none⟩ 1 1 [bv 90] (by rfl) rfl (by exact unhide HN0) (by intro u hu; simp at hu; subst hu; rfl) (by unfold maxLen; omega) (by omega) (by simp; omega) ?_; intro v' w1 hown' hgrow _; have HO' := hide hown'; have HG := hide hgrow; clear hown' hgrow))
      go_meet
      exact ⟨by simpa using unhide HO', (((Below.refl _ _).alloc (Nat.le_refl _) _).alloc (by simp) _).grown (unhide HG) (by simp; omega) (fun k e => by simp [Value.ownBlock] at e; omega)⟩
    · have HC := hide hcell
      clear hcell
      go_wp2_with (at_builtin; first | (refine wpList_append_own _ rfl (.tmp 16) (.tmp 17) 22 rfl w.heap.size 5 i0 (.int .u8 0) 1 1 Try.underlying22 hi hz0 hz1 hz2 rfl (by decide) _ 0 [] (by rfl) (World.ownsRow_made w #[] 0 (Nat.le_refl _) (by unfold maxLen; omega) rfl) ad zs.length bcap (zs.map bv) (by rfl) (by simp) (by intro j u hj; exact cell_stays (by exact (Below.refl _ _).alloc (Nat.le_refl _) _) (unhide HC j u hj)) (by intro u hu; simp at hu; obtain ⟨z, _, rfl⟩ := hu; rfl) (by unfold maxLen; omega) (by omega) (by simp) ?_; intro v' w1 hown' hgrow _; have HO' : Hid (w1.ownsRow w.heap.size 5 1 v' zs.length (zs.map bv)) := hide (by simpa using hown'); have HB1 : Hid (Below w.heap.size w w1) := hide (((Below.refl _ _).alloc (Nat.le_refl _) _).grown hgrow (by simp) (fun k e => by simp [Value.ownBlock] at e; omega)); have hsz1 : w.heap.size ≤ w1.heap.size := (unhide HB1).size; have HN1 : Hid (∀ (j : Nat) u, [bv 90][j]? = some u → (w1.alloc (.cells #[bv 90] 5)).cell? ((⟨w1.heap.size, 0, none⟩ : Addr).add j) = some u) := hide (news_one _ _); clear hown' hgrow) | (refine wpList_append_own _ rfl (.tmp 18) (.tmp 19) 22 rfl w.heap.size 5 i0 (.int .u8 0) 1 1 Try.underlying22 hi hz0 hz1 hz2 rfl (by decide) _ zs.length (zs.map bv) (by rfl) ((unhide HO').alloc _) ⟨w1.heap.size, 0, none⟩ 1 1 [bv 90] (by rfl) rfl (by exact unhide HN1) (by intro u hu; simp at hu; subst hu; rfl) (by unfold maxLen; omega) (by omega) (by simp; omega) ?_; intro v2 w2 hown' hgrow _; have HO2 := hide hown'; have HG2 := hide hgrow; clear hown' hgrow))
      go_meet
      exact ⟨by have := unhide HO2; rw [List.map_append]; exact this, ((unhide HB1).alloc hsz1 _).grown (unhide HG2) (by simp; omega) (fun k e => ((unhide HO').lt k e).1)⟩
  case rest =>
    obtain ⟨hown, hbel⟩ := hcut
    obtain ⟨g, cap, rfl, hcap, hg1, hg2⟩ := own_block hown (by omega)
    have HOWN := hide hown
    have HRo0 := hide (take_reads hown)
    have HB0 := hide hbel
    have hsz0 := hbel.size
    have hcap' : (zs.length : Int) ≤ (cap : Int) := by omega
    clear hown hbel
    go_wp2_with fail
    refine (cL _ _ (unhide HRo0)).mono ?_
    rintro e w1 ⟨vx1, rfl, ha1, hb1⟩
    go_wp2_with fail
    refine (cL _ _ ((unhide HRo0).stays hb1)).mono ?_
    rintro e w2 ⟨vy1, rfl, ha2, hb2⟩
    go_wp2_with fail
    refine (rL _).mono ?_
    rintro e w3 ⟨vw1, rfl, ha3, hb3⟩
    go_wp2_with fail
    refine (unhide FL _ _ _ _ _ _ _ _ ha1 hb1 ha2 hb2 ha3 hb3 ((unhide HR).stays (unhide HB0))).mono ?_
    rintro e w4 ⟨rfl, hb4⟩
    have HB4 : Hid (Below wc.heap.size wc w4) := hide hb4
    have HRo4 := hide ((unhide HRo0).stays hb4)
    clear ha1 ha2 ha3 hb1 hb2 hb3 hb4 cL rL FL
    go_wp2_with fail
    refine (cH _ _ (unhide HRo4)).mono ?_
    rintro e w5 ⟨vx2, rfl, ha1, hb1⟩
    go_wp2_with fail
    refine (cH _ _ ((unhide HRo4).stays hb1)).mono ?_
    rintro e w6 ⟨vy2, rfl, ha2, hb2⟩
    go_wp2_with fail
    refine (rH _).mono ?_
    rintro e w7 ⟨vw2, rfl, ha3, hb3⟩
    have HA := hide (unhide FH _ _ _ _ _ _ _ _ ha1 hb1 ha2 hb2 ha3 hb3 ((unhide HR).stays ((unhide HB0).trans ((unhide HB4).mono hsz0))))
    clear ha1 ha2 ha3 hb1 hb2 hb3 cH rH FH
    go_wp2_with fail
    refine (unhide HA).mono ?_
    rintro e w8 ⟨rfl, hb8⟩
    have HB8 : Hid (Below wc.heap.size wc w8) := hide ((unhide HB4).trans (hb8.mono (unhide HB4).size))
    have HRo8 := hide ((unhide HRo0).stays (unhide HB8))
    clear HA hb8
    go_wp2_with fail
    refine (cV _ _ (unhide HRo8)).mono ?_
    rintro e w9 ⟨vx3, rfl, ha1, hb1⟩
    go_wp2_with fail
    refine (cV _ _ ((unhide HRo8).stays hb1)).mono ?_
    rintro e w10 ⟨vy3, rfl, ha2, hb2⟩
    go_wp2_with fail
    refine (rV _).mono ?_
    rintro e w11 ⟨vw3, rfl, ha3, hb3⟩
    have HA := hide (unhide FV _ _ _ _ _ _ _ _ ha1 hb1 ha2 hb2 ha3 hb3 ((unhide HR).stays ((unhide HB0).trans ((unhide HB8).mono hsz0))))
    clear ha1 ha2 ha3 hb1 hb2 hb3 cV rV FV
    go_wp2_with fail
    refine (unhide HA).mono ?_
    rintro e w12 ⟨rfl, hb12⟩
    have HB12 : Hid (Below wc.heap.size wc w12) := hide ((unhide HB8).trans (hb12.mono (unhide HB8).size))
    have HBW : Hid (Below w.heap.size w w12) := hide ((unhide HB0).trans ((unhide HB12).mono hsz0))
    have hci := conv_bs ((reads_row (unhide HOWN) (by simp)).stays (unhide HB12)) (zs := zs ++ [90]) (by intro z hz; rcases List.mem_append.1 hz with h | h; exact unhide HSM z h; simp at h; omega)
    have hcb := conv_bs ((unhide HR).stays (unhide HBW)) (unhide HSM)
    have hsum : bs zs ++ (⟨#[90]⟩ : ByteArray) = bs (zs ++ [90]) := bs_append zs [90]
    have hszz : (bs zs).size ≤ 140737488351232 := by rw [bs_size]; omega
    clear HA hb12
    go_wp2_with (go_at_call 13; refine (names_ok _).mono ?_; rintro e w' ⟨rfl, hw⟩; rw [hw])
    go_ret
    exact ⟨rfl, unhide HBW⟩
end Go.Proofs.Ytnjjpmomdbhjjaa
