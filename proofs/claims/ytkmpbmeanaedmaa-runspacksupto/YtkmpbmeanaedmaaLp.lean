/- The law RunsPacks, walked. -/
import Derived.Test.YtkmpbmeanaedmaaPu
import Derived.Test.YtkmpbmeanaedmaaIn
namespace Go.Proofs.Ytkmpbmeanaedmaa
open Go.RowKit Runs
set_option maxRecDepth 100000
set_option linter.unusedVariables false
attribute [local go_sem ↓] Go.wp_at_zero Go.wp_at_succ

theorem StB.toRow {w w' : World} {v : Value} {xs : List Nat} (h : StB w w' v xs) : Row w.heap.size w'.heap.size w' v .u8 5 xs := row_own (n := 0) rfl h.own

theorem piece_small {c n : Nat} (hc : c < 256) (hn : n ≤ 259) : ∀ z ∈ piece c n, z < 256 := by
  intro z hz
  unfold piece at hz
  split at hz
  · rw [List.mem_replicate] at hz; omega
  · rw [List.mem_append, List.mem_replicate, List.mem_singleton] at hz; omega

theorem packF_small : ∀ (k : Nat) (b : List Nat), b.length ≤ k → (∀ z ∈ b, z < 256) → ∀ z ∈ packF b, z < 256
  | 0, b, h, _ => by
    obtain rfl : b = [] := List.eq_nil_of_length_eq_zero (by omega)
    intro z hz; simp [packF, packG] at hz
  | k + 1, [], _, _ => by intro z hz; simp [packF, packG] at hz
  | k + 1, c :: l, h, hs => by
    have h1 := lead_le c 258 l
    intro z hz
    rw [packF_cons, List.mem_append] at hz
    rcases hz with hz | hz
    · exact piece_small (hs c (List.mem_cons_self ..)) (by omega) z hz
    · exact packF_small k (l.drop (lead c 258 l)) (by simp at h ⊢; omega) (fun z hz => hs z (List.mem_cons_of_mem _ (List.mem_of_mem_drop hz))) z hz

theorem unp_small (m : Int) : ∀ (l : List Nat) (like last : Nat) (out : List Nat), (∀ z ∈ l, z < 256) → (∀ z ∈ out, z < 256) → (like = 0 ∨ last < 256) → ∀ z ∈ (unp m l like last out).1, z < 256
  | [], like, last, out, _, ho, _ => by
    rw [unp]
    split
    · intro z hz; simp at hz
    · exact ho
  | c :: l, like, last, out, hl, ho, hk => by
    have hc := hl c (List.mem_cons_self ..)
    have hl' : ∀ z ∈ l, z < 256 := fun z hz => hl z (List.mem_cons_of_mem _ hz)
    rw [unp]
    by_cases h4 : like = 4
    · rw [if_pos h4]
      by_cases hb : m - (out.length : Int) < (c : Int)
      · rw [if_pos hb]; intro z hz; simp at hz
      · rw [if_neg hb]
        refine unp_small m l _ _ _ hl' (fun z hz => ?_) (.inl rfl)
        rw [List.mem_append, List.mem_replicate] at hz
        rcases hz with hz | hz
        · exact ho z hz
        · omega
    · rw [if_neg h4]
      by_cases hb : (out.length : Int) = m
      · rw [if_pos hb]; intro z hz; simp at hz
      · rw [if_neg hb]
        refine unp_small m l _ _ _ hl' (fun z hz => ?_) (.inr hc)
        rw [List.mem_append, List.mem_singleton] at hz
        rcases hz with hz | hz
        · exact ho z hz
        · omega

theorem unpackF_small {b : List Nat} (hb : ∀ z ∈ b, z < 256) (most : Int) : ∀ z ∈ (unpackF b most).1, z < 256 := by
  unfold unpackF
  split
  · intro z hz; simp at hz
  · exact unp_small most b 0 0 [] hb (fun z hz => by simp at hz) (.inl rfl)

theorem unpackF_len {b : List Nat} (hb : ∀ z ∈ b, z < 256) (hn : b.length ≤ 1048576) (most : Int) : (unpackF b most).1.length ≤ 1000000000 := by
  unfold unpackF
  split
  · simp
  · by_cases h0 : (unp most b 0 0 []).2 = 0
    · rcases unp_mono most b 0 0 [] (unp most b 0 0 []).1 (Prod.ext rfl h0) with h | ⟨z, hz, h⟩
      · have := h.2; simp at this; omega
      · have := hb z hz; omega
    · rw [unp_err _ _ _ _ _ h0]; simp

theorem toldB_row {w w' : World} {out : List Nat × Nat} {e : Ending} (h : ToldB w out e w') : ∃ v, e = .returned (.tuple #[v, .int .i64 (out.2 : Int)]) ∧ Row w.heap.size w'.heap.size w' v .u8 5 out.1 ∧ Below w.heap.size w w' := by
  obtain ⟨v, h1, h2⟩ := h
  exact ⟨v, h1, h2.toRow, h2.bel⟩

set_option maxHeartbeats 8000000 in
theorem packs_law (ba : Option Addr) (bcap : Nat) (zs : List Nat) (most : Int) (w : World)
    (hr : (ba = none ∧ bcap = 0 ∧ zs = []) ∨ ∃ ad, ba = some ad ∧ ∀ (j : Nat) u, (zs.map bv)[j]? = some u → w.cell? (ad.add j) = some u) (hs : ∀ z ∈ zs, z < 256) (hl : zs.length ≤ 1048576) (hcap : zs.length ≤ bcap) (hm1 : -9223372036854775808 ≤ most) (hm2 : most ≤ 9223372036854775807) :
    Calls Try.prog 3 #[.slice ba zs.length bcap, .int .i64 most] w fun e w' => e = .returned (.bool true) ∧ Below w.heap.size w w' := by
  obtain ⟨i0, hi, hz0, hz1, hz2⟩ := info_parts info5
  have HR := hide (reads_of hr)
  have HSRC := hide hr
  have HSM := hide hs
  clear hr hs
  go_enter Try.func3, Try.ntmps3
  go_upto_region 1 with fail
  go_cut [5] (fun v7 wc => wc.ownsRow w.heap.size 5 1 v7 (zs.length + 1) ((zs ++ [90]).map bv) ∧ Below w.heap.size w wc)
  case first =>
    rcases unhide HSRC with ⟨rfl, rfl, rfl⟩ | ⟨ad, rfl, hcell⟩
    · have HN0 : Hid (∀ (j : Nat) u, [bv 90][j]? = some u → ((w.alloc (.cells #[] 5)).alloc (.cells #[bv 90] 5)).cell? ((⟨w.heap.size + 1, 0, none⟩ : Addr).add j) = some u) := hide (by have := news_one (w := w.alloc (.cells #[] 5)) (bv 90) 5; simpa using this)
      go_wp2_with (at_builtin; first | (refine wpList_append_own_none rfl (.tmp 14) (.tmp 15) 22 rfl w.heap.size 5 i0 1 Try.underlying22 hi _ 0 [] (by rfl) (World.ownsRow_made w #[] 0 (Nat.le_refl _) (by unfold maxLen; omega) rfl) (by rfl) ?_) | (refine wpList_append_own _ rfl (.tmp 16) (.tmp 17) 22 rfl w.heap.size 5 i0 (.int .u8 0) 1 1 Try.underlying22 hi hz0 hz1 hz2 rfl (by decide) _ 0 [] (by rfl) ((World.ownsRow_made w #[] 0 (Nat.le_refl _) (by unfold maxLen; omega) rfl).alloc _) ⟨w.heap.size + 1, 0, none⟩ 1 1 [bv 90] (by rfl) rfl (by exact unhide HN0) (by intro u hu; simp at hu; subst hu; rfl) (by unfold maxLen; omega) (by omega) (by simp; omega) ?_; intro v' w1 hown' hgrow _; have HO' := hide hown'; have HG := hide hgrow; clear hown' hgrow))
      go_meet
      exact ⟨by simpa using unhide HO', (((Below.refl _ _).alloc (Nat.le_refl _) _).alloc (by simp) _).grown (unhide HG) (by simp; omega) (fun k e => by simp [Value.ownBlock] at e; omega)⟩
    · have HC := hide hcell
      clear hcell
      go_wp2_with (at_builtin; first | (refine wpList_append_own _ rfl (.tmp 14) (.tmp 15) 22 rfl w.heap.size 5 i0 (.int .u8 0) 1 1 Try.underlying22 hi hz0 hz1 hz2 rfl (by decide) _ 0 [] (by rfl) (World.ownsRow_made w #[] 0 (Nat.le_refl _) (by unfold maxLen; omega) rfl) ad zs.length bcap (zs.map bv) (by rfl) (by simp) (by intro j u hj; exact cell_stays (by exact (Below.refl _ _).alloc (Nat.le_refl _) _) (unhide HC j u hj)) (by intro u hu; simp at hu; obtain ⟨z, _, rfl⟩ := hu; rfl) (by unfold maxLen; omega) (by omega) (by simp) ?_; intro v' w1 hown' hgrow _; have HO' : Hid (w1.ownsRow w.heap.size 5 1 v' zs.length (zs.map bv)) := hide (by simpa using hown'); have HB1 : Hid (Below w.heap.size w w1) := hide (((Below.refl _ _).alloc (Nat.le_refl _) _).grown hgrow (by simp) (fun k e => by simp [Value.ownBlock] at e; omega)); have hsz1 : w.heap.size ≤ w1.heap.size := (unhide HB1).size; have HN1 : Hid (∀ (j : Nat) u, [bv 90][j]? = some u → (w1.alloc (.cells #[bv 90] 5)).cell? ((⟨w1.heap.size, 0, none⟩ : Addr).add j) = some u) := hide (news_one _ _); clear hown' hgrow) | (refine wpList_append_own _ rfl (.tmp 16) (.tmp 17) 22 rfl w.heap.size 5 i0 (.int .u8 0) 1 1 Try.underlying22 hi hz0 hz1 hz2 rfl (by decide) _ zs.length (zs.map bv) (by rfl) ((unhide HO').alloc _) ⟨w1.heap.size, 0, none⟩ 1 1 [bv 90] (by rfl) rfl (by exact unhide HN1) (by intro u hu; simp at hu; subst hu; rfl) (by unfold maxLen; omega) (by omega) (by simp; omega) ?_; intro v2 w2 hown' hgrow _; have HO2 := hide hown'; have HG2 := hide hgrow; clear hown' hgrow))
      go_meet
      exact ⟨by have := unhide HO2; rw [List.map_append]; exact this, ((unhide HB1).alloc hsz1 _).grown (unhide HG2) (by simp; omega) (fun k e => ((unhide HO').lt k e).1)⟩
  case rest =>
    obtain ⟨hown, hbel⟩ := hcut
    obtain ⟨g, cap, rfl, hcap2, hg1, hg2⟩ := own_block hown (by omega)
    have HBI := hide (take_reads hown).bytes
    have HRI := hide (reads_row hown (by simp))
    have HB0 := hide hbel
    have hsz0 := hbel.size
    have hcap' : (zs.length : Int) ≤ (cap : Int) := by omega
    clear hown hbel
    have HB_wc := hide (Below.refl wc.heap.size wc)
    have HO1 := hide (unpackF_small (unhide HSM) most)
    have HO2 := hide (unpackF_len (unhide HSM) hl most)
    have HP1 := hide (packF_small zs.length zs (Nat.le_refl _) (unhide HSM))
    have HP2 : Hid ((packF zs).length ≤ 1000000000) := hide (by have := packF_len zs.length zs (Nat.le_refl _); omega)
    obtain ⟨U, hU⟩ : ∃ U, U = unpackF zs most := ⟨_, rfl⟩
    rw [← hU] at HO1 HO2
    have HCU := hide (fun a c W h => punpack_ok zs a c most W h (unhide HSM) hl hm2 hm1)
    have HCR := hide (fun a c W h => unpack_ok zs a c most W h (unhide HSM) hl hm2 hm1)
    rw [← hU] at HCU HCR
    clear hU
    obtain ⟨ul, uc⟩ := U
    go_wp2_with fail
    refine (unhide HCU _ _ _ ((unhide HBI).stays (unhide HB_wc))).mono ?_
    rintro e w1 he
    obtain ⟨x, rfl, hrow, hbl⟩ := toldB_row he
    have HV_x := hide hrow
    have HB_w1 := hide ((unhide HB_wc).trans (hbl.mono (unhide HB_wc).size))
    have HL_w1 := hide hbl
    clear hrow hbl he
    go_wp2_with fail
    refine (unhide HCU _ _ _ ((unhide HBI).stays (unhide HB_w1))).mono ?_
    rintro e w2 he
    obtain ⟨y, rfl, hrow, hbl⟩ := toldB_row he
    have HV_y := hide hrow
    have HB_w2 := hide ((unhide HB_w1).trans (hbl.mono (unhide HB_w1).size))
    have HL_w2 := hide hbl
    clear hrow hbl he
    go_wp2_with fail
    refine (unhide HCR _ _ _ ((unhide HR).stays ((unhide HB0).trans ((unhide HB_w2).mono hsz0))).bytes).mono ?_
    rintro e w3 he
    obtain ⟨want, rfl, hrow, hbl⟩ := toldB_row he
    have HV_want := hide hrow
    have HB_w3 := hide ((unhide HB_w2).trans (hbl.mono (unhide HB_w2).size))
    have HL_w3 := hide hbl
    clear hrow hbl he
    go_wp2_with fail
    refine (pack_ok zs _ _ _ ((unhide HR).stays ((unhide HB0).trans ((unhide HB_w3).mono hsz0))).bytes (unhide HSM) hl).mono ?_
    rintro e w4 ⟨packed, rfl, hst⟩
    have HV_p := hide hst.toRow
    have HB_w4 := hide ((unhide HB_w3).trans (hst.bel.mono (unhide HB_w3).size))
    have HL_w4 := hide hst.bel
    clear hst
    go_wp2_with fail
    refine (ppack_ok zs _ _ _ ((unhide HBI).stays (unhide HB_w4)) hl (by omega)).mono ?_
    rintro e w5 ⟨p1, rfl, hst⟩
    have HV_1 := hide hst.toRow
    have HB_w5 := hide ((unhide HB_w4).trans (hst.bel.mono (unhide HB_w4).size))
    have HL_w5 := hide hst.bel
    clear hst
    have s1 := (unhide HL_w1).size
    have s2 := (unhide HL_w2).size
    have s3 := (unhide HL_w3).size
    have s4 := (unhide HL_w4).size
    have s5 := (unhide HL_w5).size
    have HX := hide (((((unhide HV_x).of_below (unhide HL_w2)).of_below (unhide HL_w3)).of_below (unhide HL_w4)).of_below (unhide HL_w5))
    have HY := hide ((((unhide HV_y).of_below (unhide HL_w3)).of_below (unhide HL_w4)).of_below (unhide HL_w5))
    have HW := hide (((unhide HV_want).of_below (unhide HL_w4)).of_below (unhide HL_w5))
    have HP := hide ((unhide HV_p).of_below (unhide HL_w5))
    clear HV_x HV_y HV_want HV_p
    go_wp2_with fail
    refine (spoilt_ok _ _ _ _ p1 packed _ _ (unhide HV_1) (unhide HP) (unhide HP1) (unhide HP2)).mono ?_
    rintro e w6 ⟨rfl, c6⟩
    have HX6 := hide ((unhide HX).of_chg c6 (.inl (by omega)))
    have HY6 := hide ((unhide HY).of_chg c6 (.inl (by omega)))
    have HW6 := hide ((unhide HW).of_chg c6 (.inl (by omega)))
    have HP6 := hide ((unhide HP).of_chg c6 (.inl (by omega)))
    have HB_w6 := hide (c6.below (unhide HB_w5) (by omega) (unhide HB_w5).size)
    have s6 := c6.size
    clear c6 HX HY HW HP HV_1
    go_wp2_with fail
    refine (ppack_ok zs _ _ _ ((unhide HBI).stays (unhide HB_w6)) hl (by omega)).mono ?_
    rintro e w7 ⟨p2, rfl, hst⟩
    have HV_2 := hide hst.toRow
    have HB_w7 := hide ((unhide HB_w6).trans (hst.bel.mono (unhide HB_w6).size))
    have HX7 := hide ((unhide HX6).of_below hst.bel)
    have HY7 := hide ((unhide HY6).of_below hst.bel)
    have HW7 := hide ((unhide HW6).of_below hst.bel)
    have HP7 := hide ((unhide HP6).of_below hst.bel)
    have s7 := hst.bel.size
    clear hst HX6 HY6 HW6 HP6
    go_wp2_with fail
    refine (spoilt_ok _ _ _ _ p2 packed _ _ (unhide HV_2) (unhide HP7) (unhide HP1) (unhide HP2)).mono ?_
    rintro e w8 ⟨rfl, c8⟩
    have HX8 := hide ((unhide HX7).of_chg c8 (.inl (by omega)))
    have HY8 := hide ((unhide HY7).of_chg c8 (.inl (by omega)))
    have HW8 := hide ((unhide HW7).of_chg c8 (.inl (by omega)))
    have HB_w8 := hide (c8.below (unhide HB_w7) (by omega) (unhide HB_w7).size)
    clear c8 HX7 HY7 HW7 HP7 HV_2
    go_wp2_with fail
    refine (spoilt_ok _ _ _ _ x want _ _ (unhide HX8) (unhide HW8) (unhide HO1) (unhide HO2)).mono ?_
    rintro e w9 ⟨rfl, c9⟩
    have HY9 := hide ((unhide HY8).of_chg c9 (.inr (by omega)))
    have HW9 := hide ((unhide HW8).of_chg c9 (.inr (by omega)))
    have HB_w9 := hide (c9.below (unhide HB_w8) (by omega) (unhide HB_w8).size)
    clear c9 HX8 HY8 HW8
    go_wp2_with fail
    refine (spoilt_ok _ _ _ _ y want _ _ (unhide HY9) (unhide HW9) (unhide HO1) (unhide HO2)).mono ?_
    rintro e w10 ⟨rfl, c10⟩
    have HBZ := hide (c10.below (unhide HB_w9) (by omega) (unhide HB_w9).size)
    have HBW := hide ((unhide HB0).trans ((unhide HBZ).mono hsz0))
    clear c10
    have hci := conv_reads ((unhide HRI).stays (unhide HBZ)) (big_small (unhide HSM))
    have hcb := conv_reads ((unhide HR).stays (unhide HBW)) (unhide HSM)
    have hsum : bs zs ++ (⟨#[90]⟩ : ByteArray) = bs (zs ++ [90]) := bs_append zs [90]
    have hszz : (bs zs).size ≤ 140737488351232 := by rw [bs_size]; omega
    go_wp2_with fail
    refine (names_ok _).mono ?_
    rintro e w11 ⟨rfl, rfl⟩
    go_wp2_with fail
    go_ret
    exact ⟨rfl, unhide HBW⟩
end Go.Proofs.Ytkmpbmeanaedmaa
