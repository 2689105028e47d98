/-
  The law BitsWrites, walked.
-/
import Derived.Test.YtcplockmnabccaaWrFour
import Derived.Lib.SmallJoins
namespace Go.Proofs.Ytcplockmnabccaa.Wrs
open Go.RowKit Go.Joins Mth

/-- What is known of the acts: their cells, and their bytes. -/
structure Acts (w : World) (b off len : Nat) (Kf : Nat → Int) (Vf : Nat → Nat) (Nf : Nat → Int) (Ep : Nat → Option Addr) (Ec : Nat → Nat) (Zf : Nat → List Nat) : Prop where
  k : ∀ i, i < len → w.cell? ⟨b, off + i * 4, none⟩ = some (.int .i64 (Kf i))
  v : ∀ i, i < len → w.cell? ⟨b, off + i * 4 + 1, none⟩ = some (.int .u64 (Vf i : Int))
  n : ∀ i, i < len → w.cell? ⟨b, off + i * 4 + 2, none⟩ = some (.int .i64 (Nf i))
  b : ∀ i, i < len → w.cell? ⟨b, off + i * 4 + 3, none⟩ = some (.slice (Ep i) (Zf i).length (Ec i))
  lt : ∀ i, i < len → Vf i < 2 ^ 64
  rd : ∀ i, i < len → (Ep i = none ∧ Ec i = 0 ∧ Zf i = []) ∨ ∃ ad, Ep i = some ad ∧ ∀ (j : Nat) u, ((Zf i).map bv)[j]? = some u → w.cell? (ad.add j) = some u
  small : ∀ i, i < len → ∀ z ∈ Zf i, z < 256

theorem Acts.below {w w' : World} {b off len : Nat} {Kf Nf : Nat → Int} {Vf : Nat → Nat} {Ep : Nat → Option Addr} {Ec : Nat → Nat} {Zf : Nat → List Nat} (h : Acts w b off len Kf Vf Nf Ep Ec Zf) (hb : Below w.heap.size w w') : Acts w' b off len Kf Vf Nf Ep Ec Zf :=
  ⟨fun i hi => cell_stays hb (h.k i hi), fun i hi => cell_stays hb (h.v i hi), fun i hi => cell_stays hb (h.n i hi), fun i hi => cell_stays hb (h.b i hi), h.lt, fun i hi => by
    rcases h.rd i hi with e | ⟨ad, e, hc⟩
    · exact .inl e
    · exact .inr ⟨ad, e, fun j u hj => cell_stays hb (hc j u hj)⟩, h.small⟩

set_option maxHeartbeats 400000 in
theorem names_ok (w : World) : Calls Try.prog 18 #[] w fun e w' => e = .returned (.bool true) ∧ w' = w := by
  go_enter Try.func18, Try.ntmps18
  go_wp2
  go_ret
  exact ⟨rfl, rfl⟩

theorem conv_block {w : World} {g n cap : Nat} {zs : List Nat} (h : w.heap[g]? = some (.cells (zs.map bv).toArray 5 (0, 0))) (hn : zs.length = n) (hs : ∀ z ∈ zs, z < 256) :
    (convert 26 9 (.slice (some ⟨g, 0, none⟩) n cap)).run Try.prog w = .ok (.string ⟨(zs.map UInt8.ofNat).toArray⟩) w := by
  subst hn
  exact conv_run w g cap zs hs h

theorem own_block {w : World} {base n : Nat} {v : Value} {xs : List Value} (h : w.ownsRow base 5 1 v n xs) (hn : 0 < n) : ∃ g cap, v = .slice (some ⟨g, 0, none⟩) n cap ∧ n ≤ cap ∧ base ≤ g ∧ g < w.heap.size := by
  rcases h.2 with ⟨_, e'⟩ | ⟨g, cap, cur, e, hb, hh, hle, _⟩
  · omega
  · exact ⟨g, cap, e, by simpa using hle, hb, heap_lt hh⟩

theorem take_reads {w : World} {base n cap g : Nat} {zs : List Nat} {z : Nat} (h : w.ownsRow base 5 1 (.slice (some ⟨g, 0, none⟩) n cap) n ((zs ++ [z]).map bv)) : ∀ (j : Nat) u, (zs.map bv)[j]? = some u → w.cell? ((⟨g, 0, none⟩ : Addr).add j) = some u := by
  intro j u hj
  refine h.cells rfl j u ?_
  rw [List.map_append, List.getElem?_append_left (by have := (List.getElem?_eq_some_iff.1 hj).1; omega)]
  exact hj

set_option maxRecDepth 100000 in
set_option maxHeartbeats 16000000 in
theorem walk (high : Bool) (a : Option Addr) (b off len cap : Nat) (hal : 0 < len → a = some ⟨b, off, none⟩) (Kf Nf : Nat → Int) (Vf : Nat → Nat) (Ep : Nat → Option Addr) (Ec : Nat → Nat) (Zf : Nat → List Nat) (w : World) (ha : Acts w b off len Kf Vf Nf Ep Ec Zf) (hlen : len ≤ 2000000) (htot : tot Zf len ≤ 2000000) :
    Calls Try.prog 3 #[.bool high, .slice a len cap] w fun e w' => e = .returned (.bool true) ∧ Below w.heap.size w w' := by
  obtain ⟨i0, hi, hz0, hz1, hz2⟩ := info_parts info3
  obtain ⟨j0, hj0, jz0, jz1, jz2⟩ := info_parts info5
  have HAL := hide hal
  have HA := hide ha
  have HTOT := hide htot
  have HN := hide (new_ok high w)
  clear hal ha htot
  go_enter Try.func3, Try.ntmps3
  go_wp2_with (go_at_call 8; refine (new_any _ _).mono ?_; rintro e w' ⟨rfl, rfl⟩)
  go_loopg [6, 7] len (fun gk lvv c ws => ∃ i v m f L la lcap, gk = len - i ∧ i ≤ len ∧ c = .int .i64 (i : Int) ∧ lvv = .slice la L.length lcap ∧ St w ws w.heap.size high v m f L la lcap ∧ L.length ≤ 64 * i + 8 * tot Zf i)
  case atStart =>
    exact ⟨0, .slice none 0 0, 0, 0, [], none, 0, by omega, by omega, rfl, rfl, ⟨unhide HN, by omega, World.ownsRow_nil _ _ _ _, fun g e => (by cases e), (Below.refl _ _).alloc (Nat.le_refl _) _, Nat.le_refl _⟩, by simp⟩
  case round =>
    obtain ⟨i, v, m, f, L, la, lcap, rfl, hil, rfl, rfl, hst, hLb⟩ := hrel
    clear HN
    have htm := Nat.le_trans (tot_mono Zf i len hil) (unhide HTOT)
    have hL12 : L.length ≤ 1000000000 := by omega
    have hmm := hst.bytes
    have hm12 : m ≤ 1000000000 := by omega
    have HS := hide hst
    have HLB := hide hLb
    have HMM := hide hmm
    clear hst hLb htm hmm
    have hleI : (i : Int) ≤ (len : Int) := by omega
    go_wp2_with fail
    refine (bytes_ok w.heap.size m f high v L wr (unhide HS).wok (by omega)).mono ?_
    rintro e w1 ⟨rfl, hx1, hb1⟩
    have HS1 := hide ((unhide HS).below hb1)
    have HX1 := hide hx1
    have HB1 := hide hb1
    clear hx1 hb1
    go_wp2_with fail
    refine (bytes_ok w.heap.size m f high v L w1 (unhide HS1).wok (by omega)).mono ?_
    rintro e w2 ⟨rfl, hy2, hb2⟩
    have HS2 := hide ((unhide HS1).below hb2)
    have HX2 := hide ((hb2.block _ (heap_lt (unhide HX1))).trans (unhide HX1))
    have hXY : wr.heap.size < w1.heap.size := heap_lt (unhide HX1)
    have HY2 := hide hy2
    clear hy2 hb2 HX1 HB1 HS1
    go_wp2_with fail
    refine (refBytes_ok la lcap L high w2 (unhide HS2).ints (by omega)).mono ?_
    rintro e w3 ⟨rfl, hr3, hb3⟩
    rw [← unhide HMM] at hr3 ⊢
    have HS3 := hide ((unhide HS2).below hb3)
    have hX3 := (hb3.block _ (heap_lt (unhide HX2))).trans (unhide HX2)
    have hY3 := (hb3.block _ (heap_lt (unhide HY2))).trans (unhide HY2)
    have hcr := conv_block (cap := m) hr3 (pk_length _ _ _) (pk_lt _ _ _)
    obtain ⟨X, hX⟩ : ∃ X, X = wr.heap.size := ⟨_, rfl⟩
    obtain ⟨Y, hY⟩ : ∃ Y, Y = w1.heap.size := ⟨_, rfl⟩
    have HX3 : Hid (w3.heap[X]? = some (.cells ((pk high m L).map bv).toArray 5 (0, 0))) := hide (by rw [hX]; exact hX3)
    have HY3 : Hid (w3.heap[Y]? = some (.cells ((pk high m L).map bv).toArray 5 (0, 0))) := hide (by rw [hY]; exact hY3)
    rw [← hX, ← hY]
    rw [← hX, ← hY] at hXY
    have hpX : w.heap.size < X := by rw [hX]; exact (unhide HS).lt
    have HvX : Hid (v.ownBlock ≠ some X ∧ (Value.slice la L.length lcap).ownBlock ≠ some X) := hide ⟨fun e => by have := ((unhide HS).vlt e).2; omega, fun e => by have := ((unhide HS).llt e).2; omega⟩
    clear hr3 hb3 hX3 hY3 hX hY HX2 HY2 HS2 HS
    go_wp2_with fail
    refine (len_ok w.heap.size m f high v L w3 (unhide HS3).wok (by omega) (unhide HS3).fle).mono ?_
    rintro e w4 ⟨rfl, nq, hw4⟩
    have HS4 := hide ((unhide HS3).only (x := X) (ws' := w4) (by rw [hw4]; exact Only.drewN _ _ _) hpX (unhide HvX).1 (unhide HvX).2)
    have hX4 : w4.heap[X]? = some (.cells ((pk high m L).map bv).toArray 5 (0, 0)) := by rw [hw4]; exact unhide HX3
    have hY4 : w4.heap[Y]? = some (.cells ((pk high m L).map bv).toArray 5 (0, 0)) := by rw [hw4]; exact unhide HY3
    have hcx := conv_block (cap := m) hX4 (pk_length _ _ _) (pk_lt _ _ _)
    have HRB : Hid (RowB w4 X m) := hide (by have := RowB.block hX4; rw [pk_length] at this; exact this)
    have HY4 := hide hY4
    clear hX4 hY4 hw4 HX3 HY3 HS3 hcr
    go_wp2_with fail
    go_loopg [11] m (fun gj c ws => ∃ j, gj = m - j ∧ j ≤ m ∧ c = .int .i64 (j : Int) ∧ RowB ws X m ∧ Only X w4 ws)
    case atStart => exact ⟨0, by omega, by omega, rfl, unhide HRB, Only.refl _ _⟩
    case round =>
      obtain ⟨j, rfl, hj, rfl, hrb, hon⟩ := hrel
      clear HRB hcx
      by_cases hjm : j < m
      · obtain ⟨⟨y, hcy⟩, hfy⟩ := hrb.cell j hjm
        have hjI : (j : Int) < (m : Int) := by omega
        have HRB := hide hrb
        have HON := hide hon
        clear hrb hon
        as_aux_lemma =>
          go_wp2
          go_roundg (m - (j + 1))
          case measure => omega
          case rel => exact ⟨j + 1, rfl, by omega, by go_num, (unhide HRB).set j _, (unhide HON).set j _⟩
      · have hY5 : wr.heap[Y]? = some (.cells ((pk high m L).map bv).toArray 5 (0, 0)) := by
          rw [hon.keep Y (heap_lt (unhide HY4)) (by omega)]; exact unhide HY4
        have hcy := conv_block (cap := m) hY5 (pk_length _ _ _) (pk_lt _ _ _)
        have HS5 := hide ((unhide HS4).only hon hpX (unhide HvX).1 (unhide HvX).2)
        clear hrb hon hY5 HY4 HS4 HvX
        by_cases hlt : i < len
        · obtain rfl := unhide HAL (by omega)
          have hA2 := (unhide HA).below (unhide HS5).bel
          have ck := hA2.k i hlt
          have cv := hA2.v i hlt
          have cn := hA2.n i hlt
          have cb := hA2.b i hlt
          have hV64 := hA2.lt i hlt
          have hne : ((i : Int) == (len : Int)) = false := by simp; omega
          have hltI : (i : Int) < (len : Int) := by omega
          have HBX : Hid (Sm w (wr.alloc (.cells #[.int .i64 (Kf i), .int .u64 (Vf i : Int), .int .i64 (Nf i), .slice (Ep i) (Zf i).length (Ec i)] 32)) w.heap.size high v m f L L la lcap) := hide ((unhide HS5).sm.below ((Below.refl _ _).alloc (Nat.le_refl _) _))
          have HLB1 : Hid (L.length + 64 + 8 * (Zf i).length ≤ 64 * (i + 1) + 8 * tot Zf (i + 1)) := hide (by have := unhide HLB; simp only [tot]; omega)
          have HRDB : Hid ((Ep i = none ∧ Ec i = 0 ∧ Zf i = []) ∨ ∃ ad, Ep i = some ad ∧ ∀ (j : Nat) u, ((Zf i).map bv)[j]? = some u → (wr.alloc (.cells #[.int .i64 (Kf i), .int .u64 (Vf i : Int), .int .i64 (Nf i), .slice (Ep i) (Zf i).length (Ec i)] 32)).cell? (ad.add j) = some u) := by
            rcases hA2.rd i hlt with e | ⟨ad, e, hc⟩
            · exact hide (.inl e)
            · exact hide (.inr ⟨ad, e, fun j u hj => cell_stays ((Below.refl _ _).alloc (Nat.le_refl _) _) (hc j u hj)⟩)
          have HSMZ := hide (hA2.small i hlt)
          have hZl : (Zf i).length ≤ 2000000 := by have h1 := tot_mono Zf (i + 1) len hlt; have h2 := unhide HTOT; simp only [tot] at h1; omega
          have HPW := hide (unhide HS5).lt
          have HVW : Hid (∀ g, v.ownBlock = some g → g < wr.heap.size) := hide fun g e => ((unhide HS5).vlt e).2
          clear hA2 HS5
          by_cases hk0 : Kf i = 0
          · have e0 : (Kf i == 0) = true := by simpa using hk0
            clear hk0
            by_cases hmay : 0 ≤ Nf i ∧ Nf i ≤ 64 ∧ Vf i < 2 ^ (Nf i).toNat
            · as_aux_lemma =>
                have hdm : decide (0 ≤ Nf i ∧ Nf i ≤ 64 ∧ Vf i < 2 ^ (Nf i).toNat) = true := decide_eq_true hmay
                have HMAY := hide hmay
                have HV := hide hV64
                have hn0 := hmay.1
                have hn1 := hmay.2.1
                clear hmay hV64
                go_wp2_with fail
                refine (put_ok w.heap.size m f high v L (Vf i : Int) (Nf i) _ (unhide HBX).wok (unhide HBX).fle hn0 hn1 (by omega) (by rw [Int.toNat_natCast]; exact (unhide HMAY).2.2) (by omega)).mono ?_
                rintro e w6 ⟨rfl, v6, m6, f6, hw6, hf6, hc6⟩
                rw [Int.toNat_natCast] at hw6
                have HS6 := hide ((unhide HBX).put hw6 hf6 hc6)
                have hk6 : w6.heap[wr.heap.size]? = (wr.alloc (.cells #[.int .i64 (Kf i), .int .u64 (Vf i : Int), .int .i64 (Nf i), .slice (Ep i) (Zf i).length (Ec i)] 32)).heap[wr.heap.size]? := hc6.keep _ (by simp) (by have := (unhide HBX).wok.lt; have := unhide HPW; omega) (fun e => by have := unhide HVW _ e; omega)
                have cV6 : w6.cell? ⟨wr.heap.size, 1, none⟩ = some (.int .u64 (Vf i : Int)) := by rw [World.cell?_of_block (w := (wr.alloc (.cells #[.int .i64 (Kf i), .int .u64 (Vf i : Int), .int .i64 (Nf i), .slice (Ep i) (Zf i).length (Ec i)] 32))) hk6]; simp
                have cN6 : w6.cell? ⟨wr.heap.size, 2, none⟩ = some (.int .i64 (Nf i)) := by rw [World.cell?_of_block (w := (wr.alloc (.cells #[.int .i64 (Kf i), .int .u64 (Vf i : Int), .int .i64 (Nf i), .slice (Ep i) (Zf i).length (Ec i)] 32))) hk6]; simp
                clear hw6 hc6 hk6 HBX
                go_wp2_with fail
                refine (may_ok (Vf i) (Nf i) _ (unhide HV)).mono ?_
                rintro e w6' ⟨rfl, rfl⟩
                rw [hdm]
                go_wp2_with fail
                obtain ⟨N, hN⟩ := Int.eq_ofNat_of_zero_le hn0
                rw [hN] at cN6 HS6 ⊢
                simp only [Int.toNat_natCast] at HS6
                have hN64 : N ≤ 64 := by omega
                clear hn0 hn1 hdm HMAY hN cn
                refine (bits_ok (Vf i) N high _ (unhide HV) hN64).mono ?_
                rintro e w7 ⟨lv, rfl, hown7, hb7⟩
                have HS7 := hide ((unhide HS6).below hb7)
                have hT := bitsOf_length high (Vf i) N
                have hpw7 := (unhide HS7).wok.lt
                clear HS6 hb7
                generalize bitsOf high (Vf i) N = T at HS7 hown7 hT
                subst hT
                rcases hown7.2 with ⟨rfl, hT0⟩ | ⟨g7, c7, cur7, rfl, _⟩
                · obtain rfl : T = [] := List.eq_nil_of_length_eq_zero hT0
                  clear hown7 hT0
                  have HS8 : Hid (Sm w w7 w.heap.size high v6 m6 f6 L L la lcap) := by have := unhide HS7; rw [List.append_nil] at this; exact hide this
                  clear HS7
                  go_wp2_with (at_builtin; go_must (refine wpList_append_own_none rfl (.tmp 93) (.tmp 99) 25 rfl (w.heap.size + 1) 3 i0 1 Try.underlying25 hi _ L.length _ (by rfl) (unhide HS8).own (by rfl) ?_))
                  go_roundg (len - (i + 1))
                  case measure => omega
                  case rel => exact ⟨i + 1, v6, m6, f6, L, la, lcap, rfl, by omega, by go_num, rfl, (unhide HS8).st, by have := unhide HLB1; omega⟩
                · have HC7 := hide (hown7.cells (g := g7) rfl)
                  clear hown7
                  go_wp2_with (at_builtin; go_must (refine wpList_append_own_at _ rfl (.tmp 93) (.tmp 99) 25 rfl (w.heap.size + 1) 3 i0 (.int .i64 0) 1 8 Try.underlying25 hi hz0 hz1 hz2 rfl (by decide) _ L.length _ (by rfl) (unhide HS7).own ⟨g7, 0, none⟩ T.length c7 (T.map bi) (by rfl) (by simp) (unhide HC7) (by intro u hu; simp at hu; rcases hu with ⟨_, rfl⟩ | ⟨_, rfl⟩ <;> rfl) (by unfold maxLen; omega) (by omega) (by omega) ?_; intro v' w8 hown hgrow _ hat; have HO := hide hown; have HG := hide hgrow; have HAT := hide hat; clear hown hgrow hat))
                  obtain ⟨la3, lcap3, rfl⟩ := own_len (unhide HO)
                  go_roundg (len - (i + 1))
                  case measure => omega
                  case rel =>
                    have hlM : L.length + T.length = (L ++ T).length := by simp
                    refine ⟨i + 1, v6, m6, f6, L ++ T, la3, lcap3, rfl, by omega, by go_num, by rw [← hlM], ?_, by have := unhide HLB1; rw [← hlM]; omega⟩
                    refine Sm.st ((unhide HS7).grow (T := T) ?_ (unhide HG) ?_)
                    · rw [← hlM, List.map_append]; exact unhide HO
                    · rw [← hlM]; exact unhide HAT
            · as_aux_lemma =>
                have hdm : decide (0 ≤ Nf i ∧ Nf i ≤ 64 ∧ Vf i < 2 ^ (Nf i).toNat) = false := decide_eq_false hmay
                have HMAY := hide hmay
                have HV := hide hV64
                clear hmay hV64
                go_wp2_with fail
                refine (put_arg w.heap.size m f high v L (Vf i) (Nf i) _ (unhide HBX).wok (unhide HMAY)).mono ?_
                rintro e w6 ⟨rfl, rfl⟩
                go_wp2_with fail
                refine (may_ok (Vf i) (Nf i) _ (unhide HV)).mono ?_
                rintro e w6 ⟨rfl, rfl⟩
                rw [hdm]
                go_wp2
                go_roundg (len - (i + 1))
                case measure => omega
                case rel => exact ⟨i + 1, v, m, f, L, la, lcap, rfl, by omega, by go_num, rfl, (unhide HBX).st, by have := unhide HLB1; omega⟩
          · by_cases hk1 : Kf i = 1
            · have e0 : (Kf i == 0) = false := by simpa using hk0
              have e1 : (Kf i == 1) = true := by simpa using hk1
              clear hk0 hk1
              as_aux_lemma =>
                go_wp2_with fail
                refine (walign_ok w.heap.size m f high v L _ (unhide HBX).wok).mono ?_
                rintro e w6 ⟨rfl, hw6, hc6⟩
                have hfl := (unhide HBX).fle
                have h8m := (unhide HBX).wok.len
                have HS6 := hide ((unhide HBX).put hw6 (by omega) hc6)
                clear hw6 hc6
                go_wp2_with fail
                go_loopg [6] f (fun gk lvv ws => ∃ k la2 lcap2, gk = f - k ∧ k ≤ f ∧ lvv = .slice la2 (L ++ List.replicate k false).length lcap2 ∧ Sm w ws w.heap.size high v m 0 (L ++ List.replicate f false) (L ++ List.replicate k false) la2 lcap2)
                case atStart => exact ⟨0, la, lcap, by omega, by omega, by simp, by simpa using unhide HS6⟩
                case round =>
                  obtain ⟨k, la2, lcap2, rfl, hkf, rfl, hsm⟩ := hrel
                  clear HS6
                  obtain ⟨M, hM⟩ : ∃ M, M = L ++ List.replicate k false := ⟨_, rfl⟩
                  have hMl : M.length = L.length + k := by rw [hM]; simp
                  rw [← hM] at hsm ⊢
                  have HM := hide hM
                  have HSM := hide hsm
                  have hpw := hsm.wok.lt
                  clear hM hsm
                  by_cases hkl : k < f
                  · have hr : ((M.length : Int) % 8 != 0) = true := by simp; omega
                    have HMl := hide hMl
                    have hMb : M.length ≤ 2000000000 := by omega
                    clear hMl h8m
                    have HN : Hid (∀ (j : Nat) u, [bi false][j]? = some u → (wr.alloc (.cells #[bi false] 3)).cell? ((⟨wr.heap.size, 0, none⟩ : Addr).add j) = some u) := hide (news_one _ _)
                    go_wp2_with (at_builtin; go_must (refine wpList_append_own_at _ rfl (.tmp 110) (.tmp 111) 25 rfl (w.heap.size + 1) 3 i0 (.int .i64 0) 1 8 Try.underlying25 hi hz0 hz1 hz2 rfl (by decide) _ M.length _ (by rfl) ((unhide HSM).own.alloc _) ⟨wr.heap.size, 0, none⟩ 1 1 [bi false] (by rfl) rfl (by exact unhide HN) (by intro u hu; simp at hu; subst hu; rfl) (by unfold maxLen; omega) (by omega) (by simp; omega) ?_; intro v' w7 hown hgrow _ hat; have HO := hide hown; have HG := hide hgrow; have HAT := hide hat; clear hown hgrow hat))
                    obtain ⟨la3, lcap3, rfl⟩ := own_len (unhide HO)
                    go_roundg (f - (k + 1))
                    case measure => omega
                    case rel =>
                      have hlM : M.length + 1 = (M ++ [false]).length := by simp
                      have e9 : L ++ List.replicate (k + 1) false = M ++ [false] := by rw [unhide HM, List.replicate_succ', List.append_assoc]
                      refine ⟨k + 1, la3, lcap3, rfl, by omega, by rw [e9, ← hlM], ?_⟩
                      rw [e9]
                      refine ((unhide HSM).below ((Below.refl _ _).alloc (Nat.le_refl _) _)).grow (T := [false]) ?_ (unhide HG) ?_
                      · rw [← hlM, List.map_append]; exact unhide HO
                      · rw [← hlM]; exact unhide HAT
                  · obtain rfl : k = f := by omega
                    have hr : ((M.length : Int) % 8 != 0) = false := by simp; omega
                    have HMl := hide hMl
                    clear hMl h8m
                    go_wp2
                    go_roundg (len - (i + 1))
                    case measure => omega
                    case rel =>
                      rw [← unhide HM] at HSM
                      exact ⟨i + 1, v, m, 0, M, la2, lcap2, rfl, by omega, by go_num, rfl, (unhide HSM).st, by have := unhide HLB1; have := unhide HMl; omega⟩
            · by_cases hk2 : Kf i = 2
              · have e0 : (Kf i == 0) = false := by simpa using hk0
                have e1 : (Kf i == 1) = false := by simpa using hk1
                have e2 : (Kf i == 2) = true := by simpa using hk2
                have HRD : Hid (∀ w', Below w.heap.size w w' → ((Ep i = none ∧ Ec i = 0 ∧ Zf i = []) ∨ ∃ ad, Ep i = some ad ∧ ∀ (j : Nat) u, ((Zf i).map bv)[j]? = some u → w'.cell? (ad.add j) = some u)) := hide (fun w' hb => ((unhide HA).below hb).rd i hlt)
                clear hk0 hk1 hk2
                as_aux_lemma =>
                  generalize Ep i = ep at cb HBX HRDB HRD ⊢
                  generalize Ec i = ec at cb HBX HRDB HRD ⊢
                  generalize Zf i = zs at cb HBX HRDB HRD HLB1 HSMZ hZl ⊢
                  rcases unhide HRDB with ⟨rfl, rfl, rfl⟩ | ⟨ad, rfl, hc⟩
                  · have HM : Hid (((wr.alloc (.cells #[.int .i64 (Kf i), .int .u64 (Vf i : Int), .int .i64 (Nf i), .slice none ([] : List Nat).length 0] 32)).alloc (.cells #[] 5)).ownsRow (wr.heap.size + 1) 5 1 (.slice (some ⟨wr.heap.size + 1, 0, none⟩) 0 0) 0 []) := hide (by have h := World.ownsRow_made (base := (wr.alloc (.cells #[.int .i64 (Kf i), .int .u64 (Vf i : Int), .int .i64 (Nf i), .slice none ([] : List Nat).length 0] 32)).heap.size) (e := 5) (size := 1) (wr.alloc (.cells #[.int .i64 (Kf i), .int .u64 (Vf i : Int), .int .i64 (Nf i), .slice none ([] : List Nat).length 0] 32)) #[] 0 (Nat.le_refl _) (by unfold maxLen; omega) rfl; rw [show (wr.alloc (.cells #[.int .i64 (Kf i), .int .u64 (Vf i : Int), .int .i64 (Nf i), .slice none ([] : List Nat).length 0] 32)).heap.size = wr.heap.size + 1 by simp] at h; exact h)
                    have HN0 : Hid (∀ (j : Nat) u, [bv 90][j]? = some u → (((wr.alloc (.cells #[.int .i64 (Kf i), .int .u64 (Vf i : Int), .int .i64 (Nf i), .slice none ([] : List Nat).length 0] 32)).alloc (.cells #[] 5)).alloc (.cells #[bv 90] 5)).cell? ((⟨wr.heap.size + 2, 0, none⟩ : Addr).add j) = some u) := hide (by have := news_one (w := (wr.alloc (.cells #[.int .i64 (Kf i), .int .u64 (Vf i : Int), .int .i64 (Nf i), .slice none ([] : List Nat).length 0] 32)).alloc (.cells #[] 5)) (bv 90) 5; simpa using this)
                    clear HRDB
                    go_wp2_with (at_builtin; go_must (first | (refine wpList_append_own_none rfl (.tmp 115) (.tmp 117) 26 rfl (wr.heap.size + 1) 5 j0 1 Try.underlying26 hj0 _ 0 [] (by rfl) (unhide HM) (by rfl) ?_) | (refine wpList_append_own _ rfl (.tmp 118) (.tmp 119) 26 rfl (wr.heap.size + 1) 5 j0 (.int .u8 0) 1 1 Try.underlying26 hj0 jz0 jz1 jz2 rfl (by decide) _ 0 [] (by rfl) ((unhide HM).alloc _) ⟨wr.heap.size + 2, 0, none⟩ 1 1 [bv 90] (by rfl) rfl (by exact unhide HN0) (by intro u hu; simp at hu; subst hu; rfl) (by unfold maxLen; omega) (by omega) (by first | (simp; done) | (simp; omega)) ?_; intro v6 w6 hown' hgrow _; have HO6 : Hid (w6.ownsRow (wr.heap.size + 1) 5 1 v6 (([] : List Nat).length + 1) ((([] : List Nat) ++ [90]).map bv)) := hide (by simpa using hown'); have HB6 : Hid (Below (wr.heap.size + 1) (wr.alloc (.cells #[.int .i64 (Kf i), .int .u64 (Vf i : Int), .int .i64 (Nf i), .slice none ([] : List Nat).length 0] 32)) w6) := hide ((((Below.refl _ _).alloc (by simp) _).alloc (by first | (simp; done) | (simp; omega)) _).grown hgrow (by first | (simp; done) | (simp; omega)) (fun k e => by simp [Value.ownBlock] at e; omega)); clear hown' hgrow; obtain ⟨g, icap, rfl, hcap, hg1, hg2⟩ := own_block (unhide HO6) (by first | omega | (simp; done)); have HRI := hide (take_reads (unhide HO6)); have hw6 : wr.heap.size + 1 ≤ w6.heap.size := (by have := (unhide HB6).size; simpa using this); have HS6 : Hid (Sm w w6 w.heap.size high v m f L L la lcap) := hide ((unhide HBX).below (by have := unhide HB6; simpa using this)); have cB6 : w6.cell? ⟨wr.heap.size, 3, none⟩ = some (.slice none ([] : List Nat).length 0) := (by rw [World.cell?_of_block (w := (wr.alloc (.cells #[.int .i64 (Kf i), .int .u64 (Vf i : Int), .int .i64 (Nf i), .slice none ([] : List Nat).length 0] 32))) ((unhide HB6).block wr.heap.size (by omega))]; simp); have hcapI : ((([] : List Nat).length : Nat) : Int) ≤ (icap : Int) := (by first | (simp; done) | (simp at hcap ⊢; omega)))))
                    have HCV : Hid (∀ w7 : World, (∀ k, wr.heap.size ≤ k → k < w6.heap.size → w7.heap[k]? = w6.heap[k]?) → Below w.heap.size w w7 → ∃ S1 S2 : ByteArray, (convert 26 9 (.slice (some ⟨g, 0, none⟩) (([] : List Nat).length + 1) icap)).run Try.prog w7 = .ok (.string S2) w7 ∧ (convert 26 9 (.slice none ([] : List Nat).length 0)).run Try.prog w7 = .ok (.string S1) w7 ∧ S1 ++ (⟨#[90]⟩ : ByteArray) = S2 ∧ S1.size ≤ 2000000 ∧ w7.cell? ⟨wr.heap.size, 3, none⟩ = some (.slice none ([] : List Nat).length 0) ∧ Reads w7 (.slice none ([] : List Nat).length 0) ([] : List Nat)) := by
                      refine hide fun w7 hkeep hbel => ?_
                      have ho7 := own_keep (w' := w7) (unhide HO6) (fun k e => by simp [Value.ownBlock] at e; subst e; exact hkeep _ (by omega) hg2)
                      have hr7 := reads_of (w := w7) (.inl ⟨rfl, rfl, rfl⟩)
                      refine ⟨⟨(([] : List Nat).map UInt8.ofNat).toArray⟩, ⟨((([] : List Nat) ++ [90]).map UInt8.ofNat).toArray⟩, conv_reads (reads_row ho7 (by simp)) ?_, conv_reads hr7 (unhide HSMZ), ?_, ?_, ?_, hr7⟩
                      · intro z hz
                        rcases List.mem_append.1 hz with h | h
                        · exact unhide HSMZ z h
                        · simp at h; omega
                      · apply ByteArray.ext
                        rw [ByteArray.data_append]
                        simp
                      · simp [ByteArray.size] <;> omega
                      · rw [World.cell?_of_block (w := w6) (hkeep wr.heap.size (Nat.le_refl _) (by omega))]; exact cB6
                    by_cases hf0 : f = 0
                    · subst hf0
                      have HL8 : (((L.length : Nat) : Int) % 8 == 0) = true := by have := (unhide HS6).wok.len; simp; omega
                      refine (putBytes_ok w.heap.size m high v L ⟨g, 0, none⟩ icap ([] : List Nat) w6 (unhide HS6).wok (unhide HSMZ) (unhide HRI) (by first | omega | (simp; omega))).mono ?_
                      rintro e w7 ⟨rfl, v7, hw7, hc7⟩
                      have HS7 := hide ((unhide HS6).put hw7 (by omega) hc7)
                      obtain ⟨S1, S2, hci, hcb, hsum, hs1, cB7, hr7⟩ := unhide HCV w7 (fun k h1 h2 => hc7.keep k h2 (by have := unhide HPW; omega) (fun e => by have := unhide HVW _ e; omega)) (unhide HS7).bel
                      have HR7 := hide hr7
                      try simp only [List.length_nil, Nat.zero_add] at hci hcb cB7
                      clear HCV HRI HO6 hc7 hw7 cB6 HS6 hr7
                      go_wp2_with fail
                      refine (of_ok (.slice none ([] : List Nat).length 0) ([] : List Nat) high w7 (unhide HR7) (by first | omega | (simp; done)) (unhide HSMZ)).mono ?_
                      rintro e w8 ⟨lv, rfl, hown8, hb8⟩
                      have HS8 := hide ((unhide HS7).below hb8)
                      have hT := ofBytes_length high ([] : List Nat)
                      have hown9 : w8.ownsRow w7.heap.size 3 1 lv (ofBytes high ([] : List Nat)).length ((ofBytes high ([] : List Nat)).map bi) := by
                        rw [hT]
                        have e9 : (ofBytes high ([] : List Nat)).map bi = (List.range (8 * ([] : List Nat).length)).map fun i => bi (bitIn high ([] : List Nat) i) := by simp [ofBytes]
                        rw [e9]
                        exact hown8
                      have hpw8 := (unhide HS8).wok.lt
                      clear HS7 hb8 hown8
                      generalize ofBytes high ([] : List Nat) = T at HS8 hown9 hT
                      have hT2 : T.length ≤ 16000000 := by first | omega | (simp at hT; omega) | (simp at hT; subst hT; simp)
                      have HT := hide hT
                      clear hT
                      rcases hown9.2 with ⟨rfl, hT0⟩ | ⟨g7, c7, cur7, rfl, _⟩
                      · obtain rfl : T = [] := List.eq_nil_of_length_eq_zero hT0
                        clear hown9 hT0
                        have HS9 := unhide HS8
                        rw [List.append_nil] at HS9
                        have HS9 := hide HS9
                        clear HS8
                        go_wp2_with (at_builtin; go_must (refine wpList_append_own_none rfl (.tmp 154) (.tmp 158) 25 rfl (w.heap.size + 1) 3 i0 1 Try.underlying25 hi _ L.length _ (by rfl) (unhide HS9).own (by rfl) ?_))
                        go_roundg (len - (i + 1))
                        case measure => omega
                        case rel => exact ⟨i + 1, v7, m + ([] : List Nat).length, 0, L, la, lcap, rfl, by omega, by go_num, rfl, (unhide HS9).st, by have := unhide HLB1; omega⟩
                      · have HC7 := hide (hown9.cells (g := g7) rfl)
                        clear hown9
                        go_wp2_with (at_builtin; go_must (refine wpList_append_own_at _ rfl (.tmp 154) (.tmp 158) 25 rfl (w.heap.size + 1) 3 i0 (.int .i64 0) 1 8 Try.underlying25 hi hz0 hz1 hz2 rfl (by decide) _ L.length _ (by rfl) (unhide HS8).own ⟨g7, 0, none⟩ T.length c7 (T.map bi) (by rfl) (by simp) (unhide HC7) (by intro u hu; simp at hu; rcases hu with ⟨_, rfl⟩ | ⟨_, rfl⟩ <;> rfl) (by unfold maxLen; omega) (by omega) (by omega) ?_; intro v' w9 hown hgrow _ hat; have HO := hide hown; have HG := hide hgrow; have HAT := hide hat; clear hown hgrow hat))
                        obtain ⟨la3, lcap3, rfl⟩ := own_len (unhide HO)
                        go_roundg (len - (i + 1))
                        case measure => omega
                        case rel =>
                          have hlM : L.length + T.length = (L ++ T).length := by simp
                          refine ⟨i + 1, v7, m + ([] : List Nat).length, 0, L ++ T, la3, lcap3, rfl, by omega, by go_num, by rw [← hlM], ?_, by have h1 := unhide HLB1; have h2 := unhide HT; rw [← hlM]; first | omega | (simp at h1 h2; omega)⟩
                          refine Sm.st ((unhide HS8).grow (T := T) ?_ (unhide HG) ?_)
                          · rw [← hlM, List.map_append]; exact unhide HO
                          · rw [← hlM]; exact unhide HAT
                    · have HL8 : (((L.length : Nat) : Int) % 8 == 0) = false := by have := (unhide HS6).wok.len; have := (unhide HS6).fle; simp; omega
                      refine (putBytes_no w.heap.size m f high v L _ w6 (unhide HS6).wok hf0).mono ?_
                      rintro e w7 ⟨rfl, rfl⟩
                      obtain ⟨S1, S2, hci, hcb, hsum, hs1, cB7, hr7⟩ := unhide HCV w7 (fun k h1 h2 => rfl) (unhide HS6).bel
                      try simp only [List.length_nil, Nat.zero_add] at hci hcb cB7
                      clear HCV HRI HO6 hr7 cB6
                      go_wp2_with fail
                      go_roundg (len - (i + 1))
                      case measure => omega
                      case rel => exact ⟨i + 1, v, m, f, L, la, lcap, rfl, by omega, by go_num, rfl, (unhide HS6).st, by have := unhide HLB1; omega⟩
                  · have HM : Hid (((wr.alloc (.cells #[.int .i64 (Kf i), .int .u64 (Vf i : Int), .int .i64 (Nf i), .slice (some ad) zs.length ec] 32)).alloc (.cells #[] 5)).ownsRow (wr.heap.size + 1) 5 1 (.slice (some ⟨wr.heap.size + 1, 0, none⟩) 0 0) 0 []) := hide (by have h := World.ownsRow_made (base := (wr.alloc (.cells #[.int .i64 (Kf i), .int .u64 (Vf i : Int), .int .i64 (Nf i), .slice (some ad) zs.length ec] 32)).heap.size) (e := 5) (size := 1) (wr.alloc (.cells #[.int .i64 (Kf i), .int .u64 (Vf i : Int), .int .i64 (Nf i), .slice (some ad) zs.length ec] 32)) #[] 0 (Nat.le_refl _) (by unfold maxLen; omega) rfl; rw [show (wr.alloc (.cells #[.int .i64 (Kf i), .int .u64 (Vf i : Int), .int .i64 (Nf i), .slice (some ad) zs.length ec] 32)).heap.size = wr.heap.size + 1 by simp] at h; exact h)
                    have HC : Hid (∀ (j : Nat) u, (zs.map bv)[j]? = some u → ((wr.alloc (.cells #[.int .i64 (Kf i), .int .u64 (Vf i : Int), .int .i64 (Nf i), .slice (some ad) zs.length ec] 32)).alloc (.cells #[] 5)).cell? (ad.add j) = some u) := hide (fun j u hj => cell_stays ((Below.refl _ _).alloc (Nat.le_refl _) _) (hc j u hj))
                    clear HRDB hc
                    go_wp2_with (at_builtin; first | (refine wpList_append_own _ rfl (.tmp 115) (.tmp 117) 26 rfl (wr.heap.size + 1) 5 j0 (.int .u8 0) 1 1 Try.underlying26 hj0 jz0 jz1 jz2 rfl (by decide) _ 0 [] (by rfl) (unhide HM) ad zs.length ec (zs.map bv) (by rfl) (by simp) (by exact unhide HC) (by intro u hu; simp at hu; obtain ⟨z, _, rfl⟩ := hu; rfl) (by unfold maxLen; omega) (by omega) (by first | (simp; done) | (simp; omega)) ?_; intro v5 w5 hown' hgrow _; have HO5 : Hid (w5.ownsRow (wr.heap.size + 1) 5 1 v5 zs.length (zs.map bv)) := hide (by simpa using hown'); have HB5 : Hid (Below (wr.heap.size + 1) (wr.alloc (.cells #[.int .i64 (Kf i), .int .u64 (Vf i : Int), .int .i64 (Nf i), .slice (some ad) zs.length ec] 32)) w5) := hide (((Below.refl _ _).alloc (by simp) _).grown hgrow (by first | (simp; done) | (simp; omega)) (fun k e => by simp [Value.ownBlock] at e; omega)); have hsz5 : wr.heap.size + 1 ≤ w5.heap.size := (by have := (unhide HB5).size; simpa using this); have HN1 : Hid (∀ (j : Nat) u, [bv 90][j]? = some u → (w5.alloc (.cells #[bv 90] 5)).cell? ((⟨w5.heap.size, 0, none⟩ : Addr).add j) = some u) := hide (news_one _ _); clear hown' hgrow) | (refine wpList_append_own _ rfl (.tmp 118) (.tmp 119) 26 rfl (wr.heap.size + 1) 5 j0 (.int .u8 0) 1 1 Try.underlying26 hj0 jz0 jz1 jz2 rfl (by decide) _ zs.length (zs.map bv) (by rfl) ((unhide HO5).alloc _) ⟨w5.heap.size, 0, none⟩ 1 1 [bv 90] (by rfl) rfl (by exact unhide HN1) (by intro u hu; simp at hu; subst hu; rfl) (by unfold maxLen; omega) (by omega) (by first | (simp; done) | (simp; omega)) ?_; intro v6 w6 hown' hgrow _; have HO6 : Hid (w6.ownsRow (wr.heap.size + 1) 5 1 v6 (zs.length + 1) ((zs ++ [90]).map bv)) := hide (by rw [List.map_append]; exact hown'); have HB6 : Hid (Below (wr.heap.size + 1) (wr.alloc (.cells #[.int .i64 (Kf i), .int .u64 (Vf i : Int), .int .i64 (Nf i), .slice (some ad) zs.length ec] 32)) w6) := hide (((unhide HB5).alloc hsz5 _).grown hgrow (by first | (simp; done) | (simp; omega)) (fun k e => ((unhide HO5).lt k e).1)); clear hown' hgrow; obtain ⟨g, icap, rfl, hcap, hg1, hg2⟩ := own_block (unhide HO6) (by first | omega | (simp; done)); have HRI := hide (take_reads (unhide HO6)); have hw6 : wr.heap.size + 1 ≤ w6.heap.size := (by have := (unhide HB6).size; simpa using this); have HS6 : Hid (Sm w w6 w.heap.size high v m f L L la lcap) := hide ((unhide HBX).below (by have := unhide HB6; simpa using this)); have cB6 : w6.cell? ⟨wr.heap.size, 3, none⟩ = some (.slice (some ad) zs.length ec) := (by rw [World.cell?_of_block (w := (wr.alloc (.cells #[.int .i64 (Kf i), .int .u64 (Vf i : Int), .int .i64 (Nf i), .slice (some ad) zs.length ec] 32))) ((unhide HB6).block wr.heap.size (by omega))]; simp); have hcapI : ((zs.length : Nat) : Int) ≤ (icap : Int) := (by first | (simp; done) | (simp at hcap ⊢; omega))))
                    have HCV : Hid (∀ w7 : World, (∀ k, wr.heap.size ≤ k → k < w6.heap.size → w7.heap[k]? = w6.heap[k]?) → Below w.heap.size w w7 → ∃ S1 S2 : ByteArray, (convert 26 9 (.slice (some ⟨g, 0, none⟩) (zs.length + 1) icap)).run Try.prog w7 = .ok (.string S2) w7 ∧ (convert 26 9 (.slice (some ad) zs.length ec)).run Try.prog w7 = .ok (.string S1) w7 ∧ S1 ++ (⟨#[90]⟩ : ByteArray) = S2 ∧ S1.size ≤ 2000000 ∧ w7.cell? ⟨wr.heap.size, 3, none⟩ = some (.slice (some ad) zs.length ec) ∧ Reads w7 (.slice (some ad) zs.length ec) zs) := by
                      refine hide fun w7 hkeep hbel => ?_
                      have ho7 := own_keep (w' := w7) (unhide HO6) (fun k e => by simp [Value.ownBlock] at e; subst e; exact hkeep _ (by omega) hg2)
                      have hr7 := reads_of (unhide HRD w7 hbel)
                      refine ⟨⟨(zs.map UInt8.ofNat).toArray⟩, ⟨((zs ++ [90]).map UInt8.ofNat).toArray⟩, conv_reads (reads_row ho7 (by simp)) ?_, conv_reads hr7 (unhide HSMZ), ?_, ?_, ?_, hr7⟩
                      · intro z hz
                        rcases List.mem_append.1 hz with h | h
                        · exact unhide HSMZ z h
                        · simp at h; omega
                      · apply ByteArray.ext
                        rw [ByteArray.data_append]
                        simp
                      · simp [ByteArray.size] <;> omega
                      · rw [World.cell?_of_block (w := w6) (hkeep wr.heap.size (Nat.le_refl _) (by omega))]; exact cB6
                    by_cases hf0 : f = 0
                    · subst hf0
                      have HL8 : (((L.length : Nat) : Int) % 8 == 0) = true := by have := (unhide HS6).wok.len; simp; omega
                      refine (putBytes_ok w.heap.size m high v L ⟨g, 0, none⟩ icap zs w6 (unhide HS6).wok (unhide HSMZ) (unhide HRI) (by first | omega | (simp; omega))).mono ?_
                      rintro e w7 ⟨rfl, v7, hw7, hc7⟩
                      have HS7 := hide ((unhide HS6).put hw7 (by omega) hc7)
                      obtain ⟨S1, S2, hci, hcb, hsum, hs1, cB7, hr7⟩ := unhide HCV w7 (fun k h1 h2 => hc7.keep k h2 (by have := unhide HPW; omega) (fun e => by have := unhide HVW _ e; omega)) (unhide HS7).bel
                      have HR7 := hide hr7
                      try simp only [List.length_nil, Nat.zero_add] at hci hcb cB7
                      clear HCV HRI HO6 hc7 hw7 cB6 HS6 hr7
                      go_wp2_with fail
                      refine (of_ok (.slice (some ad) zs.length ec) zs high w7 (unhide HR7) (by first | omega | (simp; done)) (unhide HSMZ)).mono ?_
                      rintro e w8 ⟨lv, rfl, hown8, hb8⟩
                      have HS8 := hide ((unhide HS7).below hb8)
                      have hT := ofBytes_length high zs
                      have hown9 : w8.ownsRow w7.heap.size 3 1 lv (ofBytes high zs).length ((ofBytes high zs).map bi) := by
                        rw [hT]
                        have e9 : (ofBytes high zs).map bi = (List.range (8 * zs.length)).map fun i => bi (bitIn high zs i) := by simp [ofBytes]
                        rw [e9]
                        exact hown8
                      have hpw8 := (unhide HS8).wok.lt
                      clear HS7 hb8 hown8
                      generalize ofBytes high zs = T at HS8 hown9 hT
                      have hT2 : T.length ≤ 16000000 := by first | omega | (simp at hT; omega) | (simp at hT; subst hT; simp)
                      have HT := hide hT
                      clear hT
                      rcases hown9.2 with ⟨rfl, hT0⟩ | ⟨g7, c7, cur7, rfl, _⟩
                      · obtain rfl : T = [] := List.eq_nil_of_length_eq_zero hT0
                        clear hown9 hT0
                        have HS9 := unhide HS8
                        rw [List.append_nil] at HS9
                        have HS9 := hide HS9
                        clear HS8
                        go_wp2_with (at_builtin; go_must (refine wpList_append_own_none rfl (.tmp 154) (.tmp 158) 25 rfl (w.heap.size + 1) 3 i0 1 Try.underlying25 hi _ L.length _ (by rfl) (unhide HS9).own (by rfl) ?_))
                        go_roundg (len - (i + 1))
                        case measure => omega
                        case rel => exact ⟨i + 1, v7, m + zs.length, 0, L, la, lcap, rfl, by omega, by go_num, rfl, (unhide HS9).st, by have := unhide HLB1; omega⟩
                      · have HC7 := hide (hown9.cells (g := g7) rfl)
                        clear hown9
                        go_wp2_with (at_builtin; go_must (refine wpList_append_own_at _ rfl (.tmp 154) (.tmp 158) 25 rfl (w.heap.size + 1) 3 i0 (.int .i64 0) 1 8 Try.underlying25 hi hz0 hz1 hz2 rfl (by decide) _ L.length _ (by rfl) (unhide HS8).own ⟨g7, 0, none⟩ T.length c7 (T.map bi) (by rfl) (by simp) (unhide HC7) (by intro u hu; simp at hu; rcases hu with ⟨_, rfl⟩ | ⟨_, rfl⟩ <;> rfl) (by unfold maxLen; omega) (by omega) (by omega) ?_; intro v' w9 hown hgrow _ hat; have HO := hide hown; have HG := hide hgrow; have HAT := hide hat; clear hown hgrow hat))
                        obtain ⟨la3, lcap3, rfl⟩ := own_len (unhide HO)
                        go_roundg (len - (i + 1))
                        case measure => omega
                        case rel =>
                          have hlM : L.length + T.length = (L ++ T).length := by simp
                          refine ⟨i + 1, v7, m + zs.length, 0, L ++ T, la3, lcap3, rfl, by omega, by go_num, by rw [← hlM], ?_, by have h1 := unhide HLB1; have h2 := unhide HT; rw [← hlM]; first | omega | (simp at h1 h2; omega)⟩
                          refine Sm.st ((unhide HS8).grow (T := T) ?_ (unhide HG) ?_)
                          · rw [← hlM, List.map_append]; exact unhide HO
                          · rw [← hlM]; exact unhide HAT
                    · have HL8 : (((L.length : Nat) : Int) % 8 == 0) = false := by have := (unhide HS6).wok.len; have := (unhide HS6).fle; simp; omega
                      refine (putBytes_no w.heap.size m f high v L _ w6 (unhide HS6).wok hf0).mono ?_
                      rintro e w7 ⟨rfl, rfl⟩
                      obtain ⟨S1, S2, hci, hcb, hsum, hs1, cB7, hr7⟩ := unhide HCV w7 (fun k h1 h2 => rfl) (unhide HS6).bel
                      try simp only [List.length_nil, Nat.zero_add] at hci hcb cB7
                      clear HCV HRI HO6 hr7 cB6
                      go_wp2_with fail
                      go_roundg (len - (i + 1))
                      case measure => omega
                      case rel => exact ⟨i + 1, v, m, f, L, la, lcap, rfl, by omega, by go_num, rfl, (unhide HS6).st, by have := unhide HLB1; omega⟩
              · have e0 : (Kf i == 0) = false := by simpa using hk0
                have e1 : (Kf i == 1) = false := by simpa using hk1
                have e2 : (Kf i == 2) = false := by simpa using hk2
                as_aux_lemma =>
                  go_wp2_with fail
                  go_roundg (len - (i + 1))
                  case measure => omega
                  case rel => exact ⟨i + 1, v, m, f, L, la, lcap, rfl, by omega, by go_num, rfl, (unhide HBX).st, by have := unhide HLB1; omega⟩
        · obtain rfl : i = len := by omega
          go_wp2_with (go_at_call 18; refine (names_ok _).mono ?_; rintro e w' ⟨rfl, rfl⟩)
          go_ret
          exact ⟨rfl, (unhide HS5).bel⟩
end Go.Proofs.Ytcplockmnabccaa.Wrs
