/-
  The law NumberBack, walked.
-/
import Derived.Test.YtbefokclbcdmhaaDoorOne
namespace Go.Proofs.YtbefokclbcdmhaaDoor
open Go.RowKit Go.Lib

theorem reads_nil (w : World) : Reads w (.slice none 0 0) [] := ⟨none, 0, rfl, fun h => absurd h (by simp)⟩
theorem reads_block {w : World} {g : Nat} {zs : List Nat} (hx : w.heap[g]? = some (.cells (zs.map bv).toArray 5 (0, 0))) (n : Nat) (hn : n = zs.length) : Reads w (.slice (some ⟨g, 0, none⟩) n n) zs := by
  subst hn
  exact ⟨_, _, rfl, fun _ => ⟨_, rfl, fun j u hj => by
    have e : (⟨g, 0, none⟩ : Addr).add j = ⟨g, j, none⟩ := by by_cases hq : j = 0 <;> simp [Addr.add, hq]
    rw [e]
    simp only [World.cell?, hx]
    simpa using hj⟩⟩

theorem Errs.stays {w w' : World} (h : Errs w) (hb : Below w.heap.size w w') : Errs w' := by
  obtain ⟨⟨t0, p0, h0⟩, t1, p1, h1⟩ := h
  obtain ⟨g0, e0⟩ := gSyn
  obtain ⟨g1, e1⟩ := gRng
  exact ⟨⟨t0, p0, Go.Joins.var_stays e0 h0 hb (Nat.le_refl _)⟩, t1, p1, Go.Joins.var_stays e1 h1 hb (Nat.le_refl _)⟩

theorem rd_zero {l : List UInt8} (h : rdB l = 0) : itoa (rdA l) = l ∧ I64 (rdA l) := by
  unfold rdB at h
  cases e : atoiAll l with
  | «syntax» => rw [e] at h; simp at h
  | range => rw [e] at h; simp at h
  | ok v =>
    rw [e] at h
    simp only at h
    by_cases c : itoa v = l
    · have : rdA l = v := by simp [rdA, e, c]
      rw [this]
      exact ⟨c, atoiAll_bounds e⟩
    · rw [if_neg c] at h; cases h

set_option maxHeartbeats 1000000 in
theorem putHigh8 (v : Value) (zs : List Nat) (V : Nat) (hV : V < 18446744073709551616) (w : World) (hr : Reads w v zs) (hl : zs.length + 8 ≤ 140737488355328) :
    Calls Tryd.prog 12 #[v, .int .u64 (V : Int), .int .i64 8] w fun e w' => e = .returned (.tuple #[.slice (some ⟨w.heap.size, 0, none⟩) (zs.length + 8) (zs.length + 8), .int .i64 0]) ∧
      w'.heap[w.heap.size]? = some (.cells ((zs ++ highB V 8).map bv).toArray 5 (0, 0)) ∧ Below w.heap.size w w' := by
  have c := put_ok31 v zs V 8 (by omega) (by omega) w hr hl
  have e8 : ((8 : Nat) : Int) = 8 := rfl
  rw [e8] at c
  have c2 : Calls Tryd.prog 19 #[v, .int .u64 (V : Int), .int .i64 8, .func (.func 20) #[] #[]] w fun e w' => e = .returned (.tuple #[.slice (some ⟨w.heap.size, 0, none⟩) (zs.length + 8) (zs.length + 8), .int .i64 0]) ∧
      w'.heap[w.heap.size]? = some (.cells ((zs ++ highB V 8).map bv).toArray 5 (0, 0)) ∧ Below w.heap.size w w' := c.mono (by
    rintro e w' ⟨rfl, h3, h4⟩
    rw [rowUp_full] at h3
    exact ⟨rfl, h3, h4⟩)
  clear c
  go_enter Tryd.func12, Tryd.ntmps12
  go_wp2_with fail
  refine c2.mono ?_
  rintro e w' ⟨rfl, h1, h2⟩
  have H1 := hide h1
  have H2 := hide h2
  clear h1 h2 c2
  go_wp2_with fail
  go_ret2
  exact ⟨rfl, unhide H1, unhide H2⟩

set_option maxRecDepth 100000 in
set_option maxHeartbeats 4000000 in
theorem back_walk (ba : Option Addr) (bcap : Nat) (zs : List Nat) (V : Nat) (s : ByteArray) (w : World) (hV : V < 18446744073709551616) (hr : Reads w (.slice ba zs.length bcap) zs) (hs : ∀ z ∈ zs, z < 256) (hl : zs.length ≤ 140737488351232) (hcap : zs.length ≤ bcap)
    (hsl : s.size ≤ 281474976710656) (ht : Tab w) (he : Errs w) :
    Calls Tryd.prog 4 #[.slice ba zs.length bcap, .int .u64 (V : Int), .string s] w fun e w' => e = .returned (.bool true) ∧ Below w.heap.size w w' := by
  have HR := hide hr
  have HSM := hide hs
  have HT := hide ht
  have HE := hide he
  obtain ⟨W, hW⟩ : ∃ W, W = V / 2 := ⟨_, rfl⟩
  have hW63 : W < 9223372036854775808 := by omega
  have hWI : (V : Int) / 2 = (W : Int) := by omega
  have hnb := nb_le W hW63
  clear hr hs ht he hW
  go_enter Tryd.func4, Tryd.ntmps4
  go_wp2_with fail
  refine (putVar_ok _ zs W hW63 _ (unhide HR) (by omega)).mono ?_
  rintro e w1 ⟨rfl, hx1, hb1⟩
  have HR1 := hide ((unhide HR).stays hb1)
  have HX := hide (reads_block hx1 (zs.length + nb W) (by rw [List.length_append, varB_length W hnb.1]))
  have HB1 := hide hb1
  clear hx1 hb1
  go_wp2_with fail
  refine (var_ok _ (zs ++ varB W) zs.length _ (unhide HX) (by simp) (by intro z hz; rcases List.mem_append.1 hz with h | h; exact unhide HSM z h; exact varB_small W z h) (by rw [List.length_append, varB_length W hnb.1]; omega)).mono ?_
  rintro e w2 ⟨rfl, hb2⟩
  rw [var_back zs W hW63]
  unfold tri
  have HB2 := hide ((unhide HB1).trans (hb2.mono (unhide HB1).size))
  have HR2 := hide ((unhide HR).stays (unhide HB2))
  clear hb2 HB1 HX HR1
  go_wp2_with fail
  refine (putHigh8 _ zs V hV _ (unhide HR2) (by omega)).mono ?_
  rintro e w3 ⟨rfl, hx3, hb3⟩
  have HX3 := hide (reads_block hx3 (zs.length + 8) (by rw [List.length_append, highB_length]))
  have HB3 := hide ((unhide HB2).trans (hb3.mono (unhide HB2).size))
  clear hx3 hb3 HB2 HR2
  go_wp2_with fail
  refine (high_ok _ (zs ++ highB V 8) zs.length 8 _ (unhide HX3) (by rw [List.length_append, highB_length]; omega) (by omega) (by intro z hz; rcases List.mem_append.1 hz with h | h; exact unhide HSM z h; exact highB_small V 8 z h) (by rw [List.length_append, highB_length]; omega)).mono ?_
  rintro e w4 ⟨rfl, hb4⟩
  rw [hi_back_all zs V 8 (by omega)]
  unfold tri
  have HB4 := hide ((unhide HB3).trans (hb4.mono (unhide HB3).size))
  clear hb4 HB3 HX3
  go_wp2_with fail
  refine (readDec_ok s hsl _ ((unhide HT).stays (unhide HB4)) ((unhide HE).stays (unhide HB4))).mono ?_
  rintro e w5 ⟨rfl, hb5⟩
  have HBK := hide ((unhide HB4).trans (hb5.mono (unhide HB4).size))
  clear hb5 HB4
  by_cases hB : rdB s.data.toList = 0
  · obtain ⟨hA, hAi⟩ := rd_zero hB
    have hS : str (itoa (rdA s.data.toList)) = s := (str_eq _ _).2 hA
    rw [hB]
    clear hB hA
    generalize rdA s.data.toList = A at *
    have cd := decimal_ok A hAi w5 ((unhide HT).stays (unhide HBK))
    rw [hS] at cd
    clear hS hAi
    go_wp2_with fail
    refine cd.mono ?_
    rintro e w6 ⟨rfl, hb6⟩
    have HBK := hide ((unhide HBK).trans (hb6.mono (unhide HBK).size))
    clear hb6 cd
    go_wp2_with fail
    refine (decimal_ok (wrap64 (V : Int)) (wrap64_I64 _) _ ((unhide HT).stays (unhide HBK))).mono ?_
    rintro e w7 ⟨rfl, hb7⟩
    have HB7 := hide ((unhide HBK).trans (hb7.mono (unhide HBK).size))
    clear hb7 HBK
    go_wp2_with fail
    refine (readDec_ok (str (itoa (wrap64 (V : Int)))) (by rw [str_size]; have := itoa_len _ (wrap64_I64 (V : Int)); omega) _ ((unhide HT).stays (unhide HB7)) ((unhide HE).stays (unhide HB7))).mono ?_
    rintro e w8 ⟨rfl, hb8⟩
    have hrd : rdA (str (itoa (wrap64 (V : Int)))).data.toList = wrap64 (V : Int) ∧ rdB (str (itoa (wrap64 (V : Int)))).data.toList = 0 := rd_of (wrap64_I64 _) (by simp [str])
    rw [hrd.1, hrd.2]
    have HB8 := hide ((unhide HB7).trans (hb8.mono (unhide HB7).size))
    clear hb8 HB7 hrd
    go_wp2_with fail
    refine (var_ok _ zs 0 _ ((unhide HR).stays (unhide HB8)) (by omega) (unhide HSM) (by omega)).mono ?_
    rintro e w9 ⟨rfl, hb9⟩
    have HB9 := hide ((unhide HB8).trans (hb9.mono (unhide HB8).size))
    clear hb9 HB8
    obtain ⟨⟨u, q, f⟩, hR⟩ : ∃ R, R = varRd zs 0 9 0 0 := ⟨_, rfl⟩
    rw [← hR]
    unfold tri
    simp only
    by_cases hf : f = 0
    · subst hf
      obtain ⟨m, hq, hsp⟩ := var_spells zs 0 (getD_small (unhide HSM)) 9 0 0 u q rfl (by omega) (by omega) (fun j hj => by omega) hR.symm
      obtain ⟨hform, hnu⟩ := spells_form hsp
      have hu63 := spells_lt hsp
      have hroom := hsp.room
      rw [Nat.zero_add] at hq hroom
      subst hq
      obtain ⟨b0, o0, rfl⟩ : ∃ b0 o0, ba = some ⟨b0, o0, none⟩ := by
        obtain ⟨a, cap, e, h2⟩ := (unhide HR).spot
        injection e with e1 e2 e3
        subst e1
        obtain ⟨b0, o0, h3, _⟩ := h2 (by have := hsp.pos; omega)
        exact ⟨b0, o0, h3⟩
      have hqI : (q : Int) ≤ (bcap : Int) := by omega
      have HFORM := hide hform
      clear hR hsp hform
      go_wp2_with fail
      refine (putVar_ok (.slice none 0 0) [] u hu63 _ (reads_nil _) (by simp)).mono ?_
      rintro e w10 ⟨rfl, hx10, hb10⟩
      have HB10 := hide ((unhide HB9).trans (hb10.mono (unhide HB9).size))
      have hnu1 := nb_le u hu63
      have hvl : (varB u).length = q := by rw [varB_length u hnu1.1, hnu]
      rw [hnu] at *
      simp only [List.nil_append, List.length_nil, Nat.zero_add] at hx10 ⊢
      have hrx := reads_block hx10 q (by rw [hvl])
      have hcx := fun n => conv_reads (w := w10.drewN n) (show Reads (w10.drewN n) _ _ from hrx) (varB_small u)
      have hrb : Reads w10 (.slice (some ⟨b0, o0, none⟩) q bcap) (zs.take q) := by
        obtain ⟨a, cap, e, h2⟩ := (unhide HR).stays (unhide HB10)
        injection e with e1 e2 e3
        subst e1 e3
        refine ⟨_, bcap, by rw [List.length_take, Nat.min_eq_left hroom], fun h0 => ?_⟩
        obtain ⟨ad, e4, h3⟩ := h2 (by rw [List.length_take] at h0; omega)
        refine ⟨ad, e4, fun j x hj => h3 j x ?_⟩
        rw [List.map_take, List.getElem?_take] at hj
        split at hj
        · exact hj
        · cases hj
      rw [unhide HFORM] at hrb
      have hcb := fun n => conv_reads (w := w10.drewN n) (show Reads (w10.drewN n) _ _ from hrb) (varB_small u)
      have hpos := hnu1.1
      clear hx10 hb10 hrb hrx HB9
      go_wp2_with fail
      go_quiet (fail)
      go_wp2_with fail
      go_ret
      exact ⟨rfl, (unhide HB10).trans ⟨rfl, rfl, rfl, Nat.le_refl _, fun _ _ => rfl⟩⟩
    · have hfI : ((f : Int) == 0) = false := by simp; omega
      clear hR hf
      go_wp2_with fail
      go_ret
      exact ⟨rfl, unhide HB9⟩
  · have hBI : (rdB s.data.toList == 0) = false := by simpa using hB
    clear hB
    generalize rdB s.data.toList = B at *
    generalize rdA s.data.toList = A at *
    go_wp2_with fail
    refine (decimal_ok (wrap64 (V : Int)) (wrap64_I64 _) _ ((unhide HT).stays (unhide HBK))).mono ?_
    rintro e w7 ⟨rfl, hb7⟩
    have HB7 := hide ((unhide HBK).trans (hb7.mono (unhide HBK).size))
    clear hb7 HBK
    go_wp2_with fail
    refine (readDec_ok (str (itoa (wrap64 (V : Int)))) (by rw [str_size]; have := itoa_len _ (wrap64_I64 (V : Int)); omega) _ ((unhide HT).stays (unhide HB7)) ((unhide HE).stays (unhide HB7))).mono ?_
    rintro e w8 ⟨rfl, hb8⟩
    have hrd : rdA (str (itoa (wrap64 (V : Int)))).data.toList = wrap64 (V : Int) ∧ rdB (str (itoa (wrap64 (V : Int)))).data.toList = 0 := rd_of (wrap64_I64 _) (by simp [str])
    rw [hrd.1, hrd.2]
    have HB8 := hide ((unhide HB7).trans (hb8.mono (unhide HB7).size))
    clear hb8 HB7 hrd
    go_wp2_with fail
    refine (var_ok _ zs 0 _ ((unhide HR).stays (unhide HB8)) (by omega) (unhide HSM) (by omega)).mono ?_
    rintro e w9 ⟨rfl, hb9⟩
    have HB9 := hide ((unhide HB8).trans (hb9.mono (unhide HB8).size))
    clear hb9 HB8
    obtain ⟨⟨u, q, f⟩, hR⟩ : ∃ R, R = varRd zs 0 9 0 0 := ⟨_, rfl⟩
    rw [← hR]
    unfold tri
    simp only
    by_cases hf : f = 0
    · subst hf
      obtain ⟨m, hq, hsp⟩ := var_spells zs 0 (getD_small (unhide HSM)) 9 0 0 u q rfl (by omega) (by omega) (fun j hj => by omega) hR.symm
      obtain ⟨hform, hnu⟩ := spells_form hsp
      have hu63 := spells_lt hsp
      have hroom := hsp.room
      rw [Nat.zero_add] at hq hroom
      subst hq
      obtain ⟨b0, o0, rfl⟩ : ∃ b0 o0, ba = some ⟨b0, o0, none⟩ := by
        obtain ⟨a, cap, e, h2⟩ := (unhide HR).spot
        injection e with e1 e2 e3
        subst e1
        obtain ⟨b0, o0, h3, _⟩ := h2 (by have := hsp.pos; omega)
        exact ⟨b0, o0, h3⟩
      have hqI : (q : Int) ≤ (bcap : Int) := by omega
      have HFORM := hide hform
      clear hR hsp hform
      go_wp2_with fail
      refine (putVar_ok (.slice none 0 0) [] u hu63 _ (reads_nil _) (by simp)).mono ?_
      rintro e w10 ⟨rfl, hx10, hb10⟩
      have HB10 := hide ((unhide HB9).trans (hb10.mono (unhide HB9).size))
      have hnu1 := nb_le u hu63
      have hvl : (varB u).length = q := by rw [varB_length u hnu1.1, hnu]
      rw [hnu] at *
      simp only [List.nil_append, List.length_nil, Nat.zero_add] at hx10 ⊢
      have hrx := reads_block hx10 q (by rw [hvl])
      have hcx := fun n => conv_reads (w := w10.drewN n) (show Reads (w10.drewN n) _ _ from hrx) (varB_small u)
      have hrb : Reads w10 (.slice (some ⟨b0, o0, none⟩) q bcap) (zs.take q) := by
        obtain ⟨a, cap, e, h2⟩ := (unhide HR).stays (unhide HB10)
        injection e with e1 e2 e3
        subst e1 e3
        refine ⟨_, bcap, by rw [List.length_take, Nat.min_eq_left hroom], fun h0 => ?_⟩
        obtain ⟨ad, e4, h3⟩ := h2 (by rw [List.length_take] at h0; omega)
        refine ⟨ad, e4, fun j x hj => h3 j x ?_⟩
        rw [List.map_take, List.getElem?_take] at hj
        split at hj
        · exact hj
        · cases hj
      rw [unhide HFORM] at hrb
      have hcb := fun n => conv_reads (w := w10.drewN n) (show Reads (w10.drewN n) _ _ from hrb) (varB_small u)
      have hpos := hnu1.1
      clear hx10 hb10 hrb hrx HB9
      go_wp2_with fail
      go_quiet (fail)
      go_wp2_with fail
      go_ret
      exact ⟨rfl, (unhide HB10).trans ⟨rfl, rfl, rfl, Nat.le_refl _, fun _ _ => rfl⟩⟩
    · have hfI : ((f : Int) == 0) = false := by simp; omega
      clear hR hf
      go_wp2_with fail
      go_ret
      exact ⟨rfl, unhide HB9⟩
end Go.Proofs.YtbefokclbcdmhaaDoor
