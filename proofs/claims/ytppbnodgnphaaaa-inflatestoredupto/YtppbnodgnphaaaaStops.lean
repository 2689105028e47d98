/- InflateStops, walked. -/
import Derived.Test.YtppbnodgnphaaaaInf
namespace Go.Proofs.Ytppbnodgnphaaaa
open Go.RowKit Mth Infl
set_option maxRecDepth 100000
set_option linter.unusedVariables false

theorem inflate_is (a : Option Addr) (cap : Nat) (zs : List Nat) (most : Nat) (w : World) (r : Res (List Nat)) (hr : Bytes w a cap zs) (hz : zs.length ≤ 140737488355328) (hs : ∀ z ∈ zs, z < 256) (hm : most ≤ 268435456) (ht : Tells gg ce (Infl.bitsOf zs) most r) :
    Calls Try.prog 7 #[.slice a zs.length cap, .int .i64 (most : Int)] w fun e w' => ReadIs r most zs w e w' :=
  (inflate_ok a cap zs most w hr hz hs hm).mono fun e w' ⟨r', h1, h2⟩ => by rw [ht.one h1]; exact h2

theorem tells_pos {zs : List Nat} {most q : Nat} {o : List Nat} (h : Tells gg ce (Infl.bitsOf zs) most (.ok o q)) : 1 ≤ q := by
  obtain ⟨_, f, k, e⟩ := h
  cases k with
  | zero => cases e
  | succ k =>
    rw [Infl.blocks] at e
    obtain ⟨r, p1, h1, h2⟩ := bind_ok e
    rw [block_by] at h1
    obtain ⟨last, p2, h3, h4⟩ := bind_ok h1
    have hp2 : p2 = 0 + 1 := by
      unfold Infl.get at h3
      split at h3
      · injection h3 with _ h3; exact h3.symm
      · cases h3
    obtain ⟨kind, p3, h5, h6⟩ := bind_ok h4
    have l0 : p2 ≤ (Infl.bitsOf zs).m := ((Infl.Loc.get 1).le _ _ _ _ (Nat.zero_le _) h3).2
    have l1 := (Infl.Loc.get 2).le _ _ _ _ l0 h5
    have l2 := ((loc_byKind kind most f []).bind (fun o => Infl.Loc.pure (last, o))).le _ _ _ _ l1.2 h6
    have l3 : p1 ≤ q := by
      by_cases hr : r.1 = 1
      · simp only [if_pos hr, Rd.pure, Res.ok.injEq] at h2; omega
      · simp only [if_neg hr] at h2; exact ((Infl.Loc.blocks gg_gl most f k r.2).le _ _ _ _ l2.2 h2).1
    omega

theorem agree_join (zs hs : List Nat) (n : Nat) (hn : n ≤ zs.length) : Agree (Infl.bitsOf zs) (Infl.bitsOf (zs.take n ++ hs)) (8 * n) := by
  intro i hi
  unfold Infl.bitsOf
  simp only [List.getD_eq_getElem?_getD]
  rw [List.getElem?_append_left (by rw [List.length_take]; omega), List.getElem?_take, if_pos (by omega)]

/-- what stands behind is not looked at -/
theorem tells_join {zs hs o : List Nat} {most q n : Nat} (h : Tells gg ce (Infl.bitsOf zs) most (.ok o q)) (hn : n = (q + 7) / 8) : Tells gg ce (Infl.bitsOf (zs.take n ++ hs)) most (.ok o q) := by
  have hq := h.le gg_gl
  rw [bitsOf_m] at hq
  exact h.ext gg_gl ((agree_join zs hs n (by omega)).mono (by omega)) (by rw [bitsOf_m, List.length_append, List.length_take]; omega)

/-- fewer bytes never tell a text -/
theorem tells_less {zs o : List Nat} {most q n : Nat} (h : Tells gg ce (Infl.bitsOf zs) most (.ok o q)) (hn : n = (q + 7) / 8) : Tells gg ce (Infl.bitsOf (zs.take (n - 1))) most (.bad 10) := by
  have hq := h.le gg_gl
  have hp := tells_pos h
  rw [bitsOf_m] at hq
  refine h.cut gg_gl (fun i hi => ((agree_take zs (n - 1)) i hi).symm) ?_
  rw [bitsOf_m, List.length_take]
  omega

/-- the string of bytes -/
def strOf (o : List Nat) : ByteArray := ⟨(o.map UInt8.ofNat).toArray⟩

theorem ReadIs.ok {o : List Nat} {q most : Nat} {zs : List Nat} {w w' : World} {e : Ending} (h : ReadIs (.ok o q) most zs w e w') : Below w.heap.size w w' ∧ ∃ v', e = .returned (.tuple #[v', .int .i64 (((q + 7) / 8 : Nat) : Int), .int .i64 0]) ∧ (∃ a c, v' = .slice a o.length c) ∧ Reads w' v' o ∧ (∀ z ∈ o, z < 256) ∧ o.length ≤ most := by
  obtain ⟨hb, h⟩ := h
  rcases h with ⟨o', q', v', e1, e2, e3, e4, e5, e6⟩ | ⟨b, e1, _⟩
  · injection e1 with e1 e1'
    subst e1 e1'
    obtain ⟨a, c, hv⟩ : ∃ a c, v' = .slice a o.length c := by
      rcases e3.2 with ⟨e, hn⟩ | ⟨g, c, cur, e, _⟩
      · exact ⟨none, 0, by rw [e, hn]⟩
      · exact ⟨_, c, e⟩
    refine ⟨hb, v', e2, ⟨a, c, hv⟩, ?_, e4, e5⟩
    subst hv
    exact reads_row e3 rfl
  · cases e1

theorem ReadIs.bad {b most : Nat} {zs : List Nat} {w w' : World} {e : Ending} (h : ReadIs (.bad b) most zs w e w') : Below w.heap.size w w' ∧ e = .returned (.tuple #[.slice none 0 0, .int .i64 0, .int .i64 (b : Int)]) ∧ b ≠ 0 ∧ b < 100 := by
  obtain ⟨hb, h⟩ := h
  rcases h with ⟨o', q', v', e1, _⟩ | ⟨b', e1, e2, e3, e4⟩
  · cases e1
  · injection e1 with e1
    subst e1
    exact ⟨hb, e4, e2, e3⟩

theorem conv_str {w : World} {v : Value} {o : List Nat} (h : Reads w v o) (hs : ∀ z ∈ o, z < 256) : (convert 22 9 v).run Try.prog w = .ok (.string (strOf o)) w := conv_reads h hs

theorem own_le {w : World} {base g n cap : Nat} {xs : List Value} (h : w.ownsRow base 5 1 (.slice (some ⟨g, 0, none⟩) n cap) n xs) : n ≤ cap := by
  rcases h.2 with ⟨e, _⟩ | ⟨g', c', cur, e, hb, hh, hle, _⟩
  · cases e
  · injection e with _ _ e3
    omega

set_option maxHeartbeats 4000000 in
theorem stops_walk (a b : Option Addr) (ca cb : Nat) (zs hs : List Nat) (most : Int) (w : World) (h1 : Bytes w a ca zs) (h2 : Bytes w b cb hs) (hz : zs.length ≤ 1048576) (hh : hs.length ≤ 1048576) (sz : ∀ z ∈ zs, z < 256) (sh : ∀ z ∈ hs, z < 256) :
    Calls Try.prog 5 #[.slice a zs.length ca, .slice b hs.length cb, .int .i64 most] w fun e w' => e = .returned (.bool true) ∧ Below w.heap.size w w' := by
  obtain ⟨i0, hi, hz0, hz1, hz2⟩ := info_parts info5
  have HI1 := hide (inflate_ok a ca zs 268435456 w h1 (by omega) sz (by decide))
  have H1 := hide h1
  have H2 := hide h2
  have SZ := hide sz
  have SH := hide sh
  obtain ⟨N, hN⟩ : ∃ N, N = zs.length := ⟨_, rfl⟩
  obtain ⟨M, hM⟩ : ∃ M, M = hs.length := ⟨_, rfl⟩
  have hNc : N ≤ ca := by have := h1.1; omega
  rw [← hN] at hz HI1 ⊢
  rw [← hM] at hh ⊢
  have HN := hide hN
  have HM := hide hM
  clear h1 h2 sz sh hN hM
  go_enter Try.func5, Try.ntmps5
  go_wp2_with fail
  refine (unhide HI1).mono ?_
  rintro e w1 ⟨r, ht, hri⟩
  have HB1 := hide hri.1
  obtain ⟨x, n, eb, rfl, HX⟩ : ∃ (x : Value) (n eb : Nat), e = .returned (.tuple #[x, .int .i64 (n : Int), .int .i64 (eb : Int)]) ∧ Hid ((eb ≠ 0 ∧ x = .slice none 0 0 ∧ n = 0) ∨ (eb = 0 ∧ ∃ o q, r = .ok o q ∧ n = (q + 7) / 8 ∧ (∃ a c, x = .slice a o.length c) ∧ Reads w1 x o ∧ (∀ z ∈ o, z < 256) ∧ o.length ≤ 268435456)) := by
    cases r with
    | ok o q =>
      obtain ⟨_, v', e1, e2, e3, e4, e5⟩ := hri.ok
      exact ⟨v', _, 0, e1, .inr ⟨rfl, o, q, rfl, rfl, e2, e3, e4, e5⟩⟩
    | bad b =>
      obtain ⟨_, e1, e2, e3⟩ := hri.bad
      exact ⟨_, 0, b, e1, .inl ⟨e2, rfl, rfl⟩⟩
    | more => exact absurd rfl ht.1
  have HT := hide ht
  clear ht hri HI1
  go_wp2_with fail
  have HL := hide (inflate_is (some ⟨w1.heap.size, 0, none⟩) 3 [75, 4, 0] 9 (w1.alloc (.cells #[.int .u8 75, .int .u8 4, .int .u8 0] 5)) _ ⟨by decide, some ⟨w1.heap.size, 0, none⟩, 3, rfl, fun _ => ⟨_, rfl, fun j u hj => World.news_of_block (heap_alloc_new _ _) j u hj⟩⟩ (by decide) (by decide) (by decide) (one_a ce))
  refine (unhide HL).mono ?_
  rintro e w2 hri
  obtain ⟨hb2, v2, rfl, -, hr2, -, -⟩ := hri.ok
  rw [show (((18 + 7) / 8 : Nat) : Int) = 3 from rfl]
  have hc2 : (convert 22 9 v2).run Try.prog w2 = .ok (.string ⟨#[97]⟩) w2 := conv_str hr2 (by decide)
  have HB2 : Hid (Below w.heap.size w w2) := hide ((unhide HB1).trans ((((Below.refl _ _).alloc (Nat.le_refl _) _).trans (hb2.mono (by simp))).mono (unhide HB1).size))
  have HB12 : Hid (Below w1.heap.size w1 w2) := hide (((Below.refl _ _).alloc (Nat.le_refl _) _).trans (hb2.mono (by simp)))
  clear hb2 hr2 hri HL
  rcases unhide HX with ⟨he, rfl, rfl⟩ | ⟨rfl, o, q, rfl, hnq, ⟨xa, xc, rfl⟩, hrx, hso, hol⟩
  · have t1 : ¬ (eb : Int) = 0 := by omega
    have t2 : ((eb : Int) == 0) = false := by simp; omega
    clear he HX
    go_wp2_with fail
    go_ret
    exact ⟨rfl, unhide HB2⟩
  · have hq1 := tells_pos (unhide HT)
    have hqN := (unhide HT).le gg_gl
    rw [bitsOf_m, ← unhide HN] at hqN
    obtain ⟨K, hK⟩ : ∃ K, n = K + 1 := ⟨n - 1, by omega⟩
    subst hK
    have hKN : K + 1 ≤ N := by omega
    have HNQ := hide hnq
    have HRX := hide hrx
    have HSO := hide hso
    have HOL := hide hol
    clear HX hnq hrx hso hol hq1 hqN
    obtain ⟨O, hO⟩ : ∃ O, O = o.length := ⟨_, rfl⟩
    rw [← hO] at HRX ⊢
    have HO := hide hO
    clear hO
    have tK : ((K + 1 : Nat) : Int) ≤ (ca : Int) := by omega
    have hlt : (zs.take (K + 1)).length = K + 1 := by rw [List.length_take, ← unhide HN]; omega
    have HLT := hide hlt
    have hB2N := ((unhide H1).stays (unhide HB2)).take (K + 1) (by rw [← unhide HN]; exact hKN)
    obtain ⟨a', cap', ea, hra⟩ := hB2N
    rw [hlt] at ea hra
    injection ea with ea1 ea2 ea3
    subst ea1 ea3
    obtain ⟨ad, rfl, hcells⟩ := hra (by omega)
    have HCELLS := hide hcells
    have HROW0 : Hid ((w2.alloc (.cells #[] 5)).ownsRow w2.heap.size 5 1 (.slice (some ⟨w2.heap.size, 0, none⟩) 0 0) 0 []) := hide (World.ownsRow_made w2 #[] 0 (Nat.le_refl _) (by decide) (by simp))
    have HAL : Hid (Below w2.heap.size w2 (w2.alloc (.cells #[] 5))) := hide ((Below.refl _ _).alloc (Nat.le_refl _) _)
    clear hlt hcells
    by_cases hM0 : M = 0
    · subst hM0
      have hsnil : hs = [] := List.eq_nil_of_length_eq_zero (unhide HM).symm
      have HNIL := hide hsnil
      clear hsnil
      go_wp2_with (at_builtin; first | (refine wpList_append_lies _ rfl (.tmp 53) (.tmp 56) 22 rfl w2.heap.size 5 i0 (.int .u8 0) 1 1 Try.underlying22 hi hz0 hz1 hz2 rfl (by decide) _ 0 [] (by rfl) (unhide HROW0) ad (K + 1) ca ((zs.take (K + 1)).map bv) (by rfl) (by rw [List.length_map, unhide HLT, Nat.mul_one]) (fun j u hj => cell_stays (unhide HAL) (unhide HCELLS j u hj)) (one_cells _) (by omega) (by unfold maxLen; omega) (by omega) (by simp) _ rfl ?_; intro g3 c3 w3 hown3 hgrow3 hat3 hglt3; simp only [Nat.zero_add, List.nil_append] at hown3 ⊢; have HO3 := hide hown3; have HB3 : Hid (Below w2.heap.size w2 w3) := hide ((unhide HAL).grown hgrow3 (by simp) (fun k e => (by simp only [Value.ownBlock, Option.some.injEq] at e; omega))); clear hown3 hgrow3 hat3 hglt3) | (refine wpList_append_zero rfl (.tmp 57) (.tmp 58) rfl (some ⟨g3, 0, none⟩) b (K + 1) c3 cb (own_le (unhide HO3)) (by rfl) (by rfl) ?_))
      have hlen : (zs.take (K + 1) ++ hs).length = K + 1 := by rw [unhide HNIL, List.append_nil, unhide HLT]
      have HJ : Hid (Bytes w3 (some ⟨g3, 0, none⟩) c3 (zs.take (K + 1) ++ hs)) := hide (by rw [unhide HNIL, List.append_nil]; exact ⟨by rw [unhide HLT]; exact own_le (unhide HO3), by rw [unhide HLT]; exact reads_row (unhide HO3) (unhide HLT)⟩)
      have HI5 := inflate_is (some ⟨g3, 0, none⟩) c3 (zs.take (K + 1) ++ hs) 268435456 w3 _ (unhide HJ) (by rw [hlen]; omega) (fun z hz => (List.mem_append.1 hz).elim (fun h => unhide SZ z (List.mem_of_mem_take h)) (fun h => unhide SH z h)) (by decide) (tells_join (unhide HT) (unhide HNQ))
      rw [hlen] at HI5
      have HI := hide HI5
      clear hlen HI5 HJ
      refine (unhide HI).mono ?_
      rintro e w5 hri
      obtain ⟨hb5, y, rfl, -, hry, -, -⟩ := hri.ok
      rw [← unhide HNQ]
      have HB25 : Hid (Below w2.heap.size w2 w5) := hide ((unhide HB3).trans (hb5.mono (unhide HB3).size))
      have HB5 : Hid (Below w.heap.size w w5) := hide ((unhide HB2).trans ((unhide HB25).mono (unhide HB2).size))
      have HB15 : Hid (Below w1.heap.size w1 w5) := hide ((unhide HB12).trans ((unhide HB25).mono (unhide HB12).size))
      have hcy := conv_str hry (unhide HSO)
      have hcx := conv_str ((unhide HRX).stays (unhide HB15)) (unhide HSO)
      have HLK : Hid ((zs.take K).length = K) := hide (by rw [List.length_take, ← unhide HN]; omega)
      have HI6 := inflate_is (some ad) ca (zs.take K) 268435456 w5 (.bad 10) ⟨by rw [unhide HLK]; omega, by have := ((unhide H1).stays (unhide HB5)).take K (by rw [← unhide HN]; omega); rw [unhide HLK]; exact this⟩ (by rw [unhide HLK]; omega) (fun z hz => unhide SZ z (List.mem_of_mem_take hz)) (by decide) (by have := tells_less (unhide HT) (unhide HNQ); rwa [Nat.add_sub_cancel] at this)
      rw [unhide HLK] at HI6
      have HI6 := hide HI6
      generalize strOf o = S at hcx hcy
      have tKc : (K : Int) ≤ (ca : Int) := by omega
      have tK0 : (0 : Int) < (K : Int) + 1 := by omega
      clear hri hb5 hry HI HO3
      go_wp2_with fail
      refine (unhide HI6).mono ?_
      rintro e w6 hri
      obtain ⟨hb6, rfl, -, -⟩ := hri.bad
      have HB6 : Hid (Below w.heap.size w w6) := hide ((unhide HB5).trans (hb6.mono (unhide HB5).size))
      have HB16 : Hid (Below w1.heap.size w1 w6) := hide ((unhide HB15).trans (hb6.mono (unhide HB15).size))
      clear hri hb6 HI6 hcy hcx
      by_cases hout : most < 0 ∨ 268435456 < most
      · have HI7 := hide (inflate_arg (.slice (some ad) N ca) most w6 hout)
        by_cases hneg : most < 0
        · have hnb : decide (most < 0) = true := by simp; omega
          clear hout
          go_wp2_with fail
          refine (unhide HI7).mono ?_
          rintro e w7 ⟨rfl, rfl⟩
          go_wp2_with fail
          go_ret
          exact ⟨rfl, unhide HB6⟩
        · have hnb : decide (most < 0) = false := by simp; omega
          have hgt : 268435456 < most := by omega
          have hgb : decide (268435456 < most) = true := by simp; omega
          clear hout
          go_wp2_with fail
          refine (unhide HI7).mono ?_
          rintro e w7 ⟨rfl, rfl⟩
          go_wp2_with fail
          go_ret
          exact ⟨rfl, unhide HB6⟩
      · obtain ⟨m, rfl⟩ := Int.eq_ofNat_of_zero_le (show 0 ≤ most by omega)
        have hm : m ≤ 268435456 := by omega
        have hneg : ¬ (m : Int) < 0 := by omega
        have hnb : decide ((m : Int) < 0) = false := by simp
        have hgt : ¬ 268435456 < (m : Int) := by omega
        have hgb : decide (268435456 < (m : Int)) = false := by simp; omega
        clear hout
        have HBY : Hid (Bytes w6 (some ad) ca zs) := hide ((unhide H1).stays (unhide HB6))
        by_cases hroom : O ≤ m
        · have HI7' := inflate_is (some ad) ca zs m w6 _ (unhide HBY) (by rw [← unhide HN]; omega) (unhide SZ) hm ((unhide HT).room.1 (by rw [← unhide HO]; exact hroom))
          rw [← unhide HN] at HI7'
          have HI7 := hide HI7'
          have tOm : (O : Int) ≤ (m : Int) := by omega
          have tOmb : decide ((O : Int) ≤ (m : Int)) = true := by simp; omega
          clear HI7'
          go_wp2_with fail
          refine (unhide HI7).mono ?_
          rintro e w7 hri
          obtain ⟨hb7, z, rfl, -, hrz, -, -⟩ := hri.ok
          have HB7 : Hid (Below w.heap.size w w7) := hide ((unhide HB6).trans (hb7.mono (unhide HB6).size))
          have hcz := conv_str hrz (unhide HSO)
          have hcx := conv_str ((unhide HRX).stays ((unhide HB16).trans (hb7.mono (unhide HB16).size))) (unhide HSO)
          generalize strOf o = S at hcx hcz
          generalize ((q + 7) / 8 : Nat) = u7
          clear hri hb7 hrz HI7
          go_wp2_with fail
          go_ret
          exact ⟨rfl, unhide HB7⟩
        · have HI7' := inflate_is (some ad) ca zs m w6 _ (unhide HBY) (by rw [← unhide HN]; omega) (unhide SZ) hm ((unhide HT).room.2 (by rw [← unhide HO]; omega))
          rw [← unhide HN] at HI7'
          have HI7 := hide HI7'
          have tOm : (m : Int) < (O : Int) := by omega
          have tOmb : decide ((m : Int) < (O : Int)) = true := by simp; omega
          clear HI7'
          go_wp2_with fail
          refine (unhide HI7).mono ?_
          rintro e w7 hri
          obtain ⟨hb7, rfl, -, -⟩ := hri.bad
          have HB7 : Hid (Below w.heap.size w w7) := hide ((unhide HB6).trans (hb7.mono (unhide HB6).size))
          clear hri hb7 HI7
          go_wp2_with fail
          go_ret
          exact ⟨rfl, unhide HB7⟩
    · have hM1 : 0 < M := by omega
      obtain ⟨_, b', cb', eb', hrb⟩ := (unhide H2).stays (unhide HB2)
      rw [← unhide HM] at eb' hrb
      injection eb' with eb1 eb2 eb3
      subst eb1 eb3
      obtain ⟨bd, rfl, hcellsb⟩ := hrb hM1
      have HCELLSB := hide hcellsb
      clear hcellsb
      go_wp2_with (at_builtin; first | (refine wpList_append_lies _ rfl (.tmp 53) (.tmp 56) 22 rfl w2.heap.size 5 i0 (.int .u8 0) 1 1 Try.underlying22 hi hz0 hz1 hz2 rfl (by decide) _ 0 [] (by rfl) (unhide HROW0) ad (K + 1) ca ((zs.take (K + 1)).map bv) (by rfl) (by rw [List.length_map, unhide HLT, Nat.mul_one]) (fun j u hj => cell_stays (unhide HAL) (unhide HCELLS j u hj)) (one_cells _) (by omega) (by unfold maxLen; omega) (by omega) (by simp) _ rfl ?_; intro g3 c3 w3 hown3 hgrow3 hat3 hglt3; simp only [Nat.zero_add, List.nil_append] at hown3 ⊢; have HO3 := hide hown3; have HB3 : Hid (Below w2.heap.size w2 w3) := hide ((unhide HAL).grown hgrow3 (by simp) (fun k e => (by simp only [Value.ownBlock, Option.some.injEq] at e; omega))); clear hown3 hgrow3 hat3 hglt3) | (refine wpList_append_lies _ rfl (.tmp 57) (.tmp 58) 22 rfl w2.heap.size 5 i0 (.int .u8 0) 1 1 Try.underlying22 hi hz0 hz1 hz2 rfl (by decide) _ (K + 1) _ (by rfl) (unhide HO3) bd M cb (hs.map bv) (by rfl) (by rw [List.length_map, Nat.mul_one, unhide HM]) (fun j u hj => cell_stays (unhide HB3) (unhide HCELLSB j u hj)) (one_cells _) hM1 (by unfold maxLen; omega) (by omega) (unhide HB3).size _ rfl ?_; intro g4 c4 w4 hown4 hgrow4 hat4 hglt4; have HO4 := hide hown4; have HB4 : Hid (Below w2.heap.size w2 w4) := hide ((unhide HB3).grown hgrow4 (unhide HB3).size (fun k e => ((unhide HO3).lt k e).1)); clear hown4 hgrow4 hat4 hglt4))
      have hlen : (zs.take (K + 1) ++ hs).length = K + 1 + M := by rw [List.length_append, unhide HLT, unhide HM]
      have HJ : Hid (Bytes w4 (some ⟨g4, 0, none⟩) c4 (zs.take (K + 1) ++ hs)) := hide ⟨by have := own_le (unhide HO4); rw [List.length_append, unhide HLT, ← unhide HM]; exact this, by rw [List.length_append, unhide HLT, ← unhide HM]; exact reads_row (by rw [List.map_append]; exact unhide HO4) (by rw [List.length_append, unhide HLT, ← unhide HM])⟩
      have HI5 := inflate_is (some ⟨g4, 0, none⟩) c4 (zs.take (K + 1) ++ hs) 268435456 w4 _ (unhide HJ) (by rw [hlen]; omega) (fun z hz => (List.mem_append.1 hz).elim (fun h => unhide SZ z (List.mem_of_mem_take h)) (fun h => unhide SH z h)) (by decide) (tells_join (unhide HT) (unhide HNQ))
      rw [hlen] at HI5
      have HI := hide HI5
      clear hlen HI5 HJ
      refine (unhide HI).mono ?_
      rintro e w5 hri
      obtain ⟨hb5, y, rfl, -, hry, -, -⟩ := hri.ok
      rw [← unhide HNQ]
      have HB25 : Hid (Below w2.heap.size w2 w5) := hide ((unhide HB4).trans (hb5.mono (unhide HB4).size))
      have HB5 : Hid (Below w.heap.size w w5) := hide ((unhide HB2).trans ((unhide HB25).mono (unhide HB2).size))
      have HB15 : Hid (Below w1.heap.size w1 w5) := hide ((unhide HB12).trans ((unhide HB25).mono (unhide HB12).size))
      have hcy := conv_str hry (unhide HSO)
      have hcx := conv_str ((unhide HRX).stays (unhide HB15)) (unhide HSO)
      have HLK : Hid ((zs.take K).length = K) := hide (by rw [List.length_take, ← unhide HN]; omega)
      have HI6 := inflate_is (some ad) ca (zs.take K) 268435456 w5 (.bad 10) ⟨by rw [unhide HLK]; omega, by have := ((unhide H1).stays (unhide HB5)).take K (by rw [← unhide HN]; omega); rw [unhide HLK]; exact this⟩ (by rw [unhide HLK]; omega) (fun z hz => unhide SZ z (List.mem_of_mem_take hz)) (by decide) (by have := tells_less (unhide HT) (unhide HNQ); rwa [Nat.add_sub_cancel] at this)
      rw [unhide HLK] at HI6
      have HI6 := hide HI6
      generalize strOf o = S at hcx hcy
      have tKc : (K : Int) ≤ (ca : Int) := by omega
      have tK0 : (0 : Int) < (K : Int) + 1 := by omega
      clear hri hb5 hry HI HO4
      go_wp2_with fail
      refine (unhide HI6).mono ?_
      rintro e w6 hri
      obtain ⟨hb6, rfl, -, -⟩ := hri.bad
      have HB6 : Hid (Below w.heap.size w w6) := hide ((unhide HB5).trans (hb6.mono (unhide HB5).size))
      have HB16 : Hid (Below w1.heap.size w1 w6) := hide ((unhide HB15).trans (hb6.mono (unhide HB15).size))
      clear hri hb6 HI6 hcy hcx
      by_cases hout : most < 0 ∨ 268435456 < most
      · have HI7 := hide (inflate_arg (.slice (some ad) N ca) most w6 hout)
        by_cases hneg : most < 0
        · have hnb : decide (most < 0) = true := by simp; omega
          clear hout
          go_wp2_with fail
          refine (unhide HI7).mono ?_
          rintro e w7 ⟨rfl, rfl⟩
          go_wp2_with fail
          go_ret
          exact ⟨rfl, unhide HB6⟩
        · have hnb : decide (most < 0) = false := by simp; omega
          have hgt : 268435456 < most := by omega
          have hgb : decide (268435456 < most) = true := by simp; omega
          clear hout
          go_wp2_with fail
          refine (unhide HI7).mono ?_
          rintro e w7 ⟨rfl, rfl⟩
          go_wp2_with fail
          go_ret
          exact ⟨rfl, unhide HB6⟩
      · obtain ⟨m, rfl⟩ := Int.eq_ofNat_of_zero_le (show 0 ≤ most by omega)
        have hm : m ≤ 268435456 := by omega
        have hneg : ¬ (m : Int) < 0 := by omega
        have hnb : decide ((m : Int) < 0) = false := by simp
        have hgt : ¬ 268435456 < (m : Int) := by omega
        have hgb : decide (268435456 < (m : Int)) = false := by simp; omega
        clear hout
        have HBY : Hid (Bytes w6 (some ad) ca zs) := hide ((unhide H1).stays (unhide HB6))
        by_cases hroom : O ≤ m
        · have HI7' := inflate_is (some ad) ca zs m w6 _ (unhide HBY) (by rw [← unhide HN]; omega) (unhide SZ) hm ((unhide HT).room.1 (by rw [← unhide HO]; exact hroom))
          rw [← unhide HN] at HI7'
          have HI7 := hide HI7'
          have tOm : (O : Int) ≤ (m : Int) := by omega
          have tOmb : decide ((O : Int) ≤ (m : Int)) = true := by simp; omega
          clear HI7'
          go_wp2_with fail
          refine (unhide HI7).mono ?_
          rintro e w7 hri
          obtain ⟨hb7, z, rfl, -, hrz, -, -⟩ := hri.ok
          have HB7 : Hid (Below w.heap.size w w7) := hide ((unhide HB6).trans (hb7.mono (unhide HB6).size))
          have hcz := conv_str hrz (unhide HSO)
          have hcx := conv_str ((unhide HRX).stays ((unhide HB16).trans (hb7.mono (unhide HB16).size))) (unhide HSO)
          generalize strOf o = S at hcx hcz
          generalize ((q + 7) / 8 : Nat) = u7
          clear hri hb7 hrz HI7
          go_wp2_with fail
          go_ret
          exact ⟨rfl, unhide HB7⟩
        · have HI7' := inflate_is (some ad) ca zs m w6 _ (unhide HBY) (by rw [← unhide HN]; omega) (unhide SZ) hm ((unhide HT).room.2 (by rw [← unhide HO]; omega))
          rw [← unhide HN] at HI7'
          have HI7 := hide HI7'
          have tOm : (m : Int) < (O : Int) := by omega
          have tOmb : decide ((m : Int) < (O : Int)) = true := by simp; omega
          clear HI7'
          go_wp2_with fail
          refine (unhide HI7).mono ?_
          rintro e w7 hri
          obtain ⟨hb7, rfl, -, -⟩ := hri.bad
          have HB7 : Hid (Below w.heap.size w w7) := hide ((unhide HB6).trans (hb7.mono (unhide HB6).size))
          clear hri hb7 HI7
          go_wp2_with fail
          go_ret
          exact ⟨rfl, unhide HB7⟩

end Go.Proofs.Ytppbnodgnphaaaa
