/- The program's Unpack: packed bytes are read twice, counted and then made. -/
import Derived.Test.YtgafabhhalhccaaRp
namespace Go.Proofs.Ytgafabhhalhccaa
open Go.RowKit Runs
set_option maxRecDepth 100000
set_option linter.unusedVariables false
attribute [local go_sem ↓] Go.wp_at_zero Go.wp_at_succ

theorem unp_mono (m : Int) : ∀ (l : List Nat) (like last : Nat) (out r : List Nat), unp m l like last out = (r, 0) → out.length ≤ r.length ∧ r.length ≤ out.length + 255 * l.length ∨ ∃ z ∈ l, 256 ≤ z
  | [], like, last, out, r, h => by
    rw [unp] at h
    split at h
    · cases h
    · cases h; exact .inl ⟨Nat.le_refl _, by simp⟩
  | c :: l, like, last, out, r, h => by
    rw [unp] at h
    rcases Nat.lt_or_ge c 256 with hc | hc
    · split at h
      · split at h
        · cases h
        · rcases unp_mono m l _ _ _ r h with h1 | ⟨z, hz, h1⟩
          · rw [List.length_append, List.length_replicate] at h1
            exact .inl ⟨by omega, by simp only [List.length_cons]; omega⟩
          · exact .inr ⟨z, List.mem_cons_of_mem _ hz, h1⟩
      · split at h
        · cases h
        · rcases unp_mono m l _ _ _ r h with h1 | ⟨z, hz, h1⟩
          · rw [List.length_append, List.length_singleton] at h1
            exact .inl ⟨by omega, by simp only [List.length_cons]; omega⟩
          · exact .inr ⟨z, List.mem_cons_of_mem _ hz, h1⟩
    · exact .inr ⟨c, List.mem_cons_self .., hc⟩

/-- less room that is enough tells the same -/
theorem unp_less (m m' : Int) : ∀ (l : List Nat) (like last : Nat) (out r : List Nat), (∀ z ∈ l, z < 256) → unp m l like last out = (r, 0) → (r.length : Int) ≤ m' → unp m' l like last out = (r, 0)
  | [], like, last, out, r, _, h, hm => by
    rw [unp] at h ⊢
    exact h
  | c :: l, like, last, out, r, hl, h, hm => by
    rw [unp] at h ⊢
    have hl' : ∀ z ∈ l, z < 256 := fun z hz => hl z (List.mem_cons_of_mem _ hz)
    have hmono : ∀ like last out, unp m l like last out = (r, 0) → out.length ≤ r.length := fun like last out h => by
      rcases unp_mono m l like last out r h with h1 | ⟨z, hz, h1⟩
      · exact h1.1
      · have := hl' z hz; omega
    by_cases h4 : like = 4
    · rw [if_pos h4] at h ⊢
      by_cases hb : m - (out.length : Int) < (c : Int)
      · rw [if_pos hb] at h; cases h
      · rw [if_neg hb] at h
        have h1 := hmono _ _ _ h
        rw [List.length_append, List.length_replicate] at h1
        rw [if_neg (by omega)]
        exact unp_less m m' l _ _ _ r hl' h hm
    · rw [if_neg h4] at h ⊢
      by_cases hb : (out.length : Int) = m
      · rw [if_pos hb] at h; cases h
      · rw [if_neg hb] at h
        have h1 := hmono _ _ _ h
        rw [List.length_append, List.length_singleton] at h1
        rw [if_neg (by omega)]
        exact unp_less m m' l _ _ _ r hl' h hm

theorem unp_err (m : Int) : ∀ (l : List Nat) (like last : Nat) (out : List Nat), (unp m l like last out).2 ≠ 0 → (unp m l like last out).1 = []
  | [], like, last, out, h => by
    rw [unp] at h ⊢
    split <;> simp_all
  | c :: l, like, last, out, h => by
    rw [unp] at h ⊢
    by_cases h4 : like = 4
    · rw [if_pos h4] at h ⊢
      by_cases hb : m - (out.length : Int) < (c : Int)
      · rw [if_pos hb]
      · rw [if_neg hb] at h ⊢
        exact unp_err m l _ _ _ h
    · rw [if_neg h4] at h ⊢
      by_cases hb : (out.length : Int) = m
      · rw [if_pos hb]
      · rw [if_neg hb] at h ⊢
        exact unp_err m l _ _ _ h

theorem unp_code (m : Int) : ∀ (l : List Nat) (like last : Nat) (out : List Nat), (unp m l like last out).2 = 0 ∨ (unp m l like last out).2 = 3 ∨ (unp m l like last out).2 = 10
  | [], like, last, out => by
    rw [unp]
    split <;> simp
  | c :: l, like, last, out => by
    rw [unp]
    by_cases h4 : like = 4
    · rw [if_pos h4]
      by_cases hb : m - (out.length : Int) < (c : Int)
      · rw [if_pos hb]; simp
      · rw [if_neg hb]
        exact unp_code m l _ _ _
    · rw [if_neg h4]
      by_cases hb : (out.length : Int) = m
      · rw [if_pos hb]; simp
      · rw [if_neg hb]
        exact unp_code m l _ _ _

set_option maxHeartbeats 4000000 in
theorem up1_ok (b : List Nat) (a0 : Option Addr) (cap gb : Nat) (w : World) (fn : Nat) (cb : Array Value) (m : Int) (B : Prop) (I : List Nat → World → Prop) (K : World → Prop) (hbox : BoxAt w gb 22 (.slice a0 b.length cap)) (hT : Teller fn cb m B I K) (hI : I [] w) (hm : 0 ≤ m)
    (hc : ∀ out W, I out W → BytesIn W a0 b) (hb : ∀ z ∈ b, z < 256) (hn : b.length ≤ 2000000) (hB : B ∨ ∃ r, unp m b 0 0 [] = (r, 0)) :
    Calls Try.prog 24 #[.func (.func fn) #[] cb, .pointer (some ⟨gb, 0, none⟩)] w fun e w' => RpIs (unp m b 0 0 []) I K e w' := by
  have c1 := hbox.cell
  have HR := hide (rp_ok b a0 cap w fn cb m B I K hT hI hm hc hb hn hB)
  obtain ⟨n, hN⟩ : ∃ n, n = b.length := ⟨_, rfl⟩
  obtain ⟨U, hU⟩ : ∃ U, U = unp m b 0 0 [] := ⟨_, rfl⟩
  rw [← hN] at HR c1
  rw [← hU] at HR ⊢
  clear hbox hT hI hc hb hB hN hU hn
  go_enter Try.func24, Try.ntmps24
  go_wp2_with fail
  refine (unhide HR).mono ?_
  rintro e w1 ⟨rfl, h2, h3⟩
  have H2 := hide h2
  have H3 := hide h3
  clear h2 h3
  go_wp2_with fail
  go_ret
  exact ⟨rfl, unhide H2, unhide H3⟩

theorem cnt_teller (w : World) (gr : Nat) (most : Int) (hm : most ≤ 9223372036854775807) (hg : gr = w.heap.size) : Teller 40 #[.pointer (some ⟨gr, 0, none⟩)] most True (fun out W => Cnt w gr most out.length W) (fun W => Below gr w W) where
  enter := Try.call40
  call := fun out W c k h hk _ => by
    refine (tell1_ok w W gr most out.length h hm (.int .u8 (c : Int)) k).mono ?_
    rintro e w' (⟨h1, h2, h3⟩ | ⟨h1, h2, h3⟩)
    · exact .inl ⟨h1, h2, by rw [List.length_append, List.length_replicate]; exact h3⟩
    · exact .inr ⟨h1, h2, by rw [h3]; exact h.bel⟩
  keep := fun out W h => h.bel

theorem mak_teller (w : World) (ga : Nat) (m : Int) (hm : m ≤ 1000000000) : Teller 41 #[.pointer (some ⟨ga, 0, none⟩)] m False (fun out W => ∃ v, Mak w ga out v W) (fun W => Below w.heap.size w W) where
  enter := Try.call41
  call := fun out W c k h hk hB => by
    obtain ⟨v, h⟩ := h
    have hle : (out.length : Int) + (k : Int) ≤ m := by rcases hB with h | h; exact h; exact h.elim
    refine (tell2_ok w W ga out v c k h hk (by omega)).mono ?_
    rintro e w' ⟨h1, h2⟩
    exact .inl ⟨hle, h1, h2⟩
  keep := fun out W ⟨v, h⟩ => h.row.bel

set_option maxHeartbeats 8000000 in
theorem unr_ok (b : List Nat) (a0 : Option Addr) (cap gb : Nat) (most : Int) (w : World) (hbox : BoxAt w gb 22 (.slice a0 b.length cap)) (hc : BytesIn w a0 b) (hb : ∀ z ∈ b, z < 256) (hn : b.length ≤ 2000000) (hm0 : 0 ≤ most) (hm : most ≤ 9223372036854775807) :
    Calls Try.prog 23 #[.int .i64 most, .func (.func 24) #[] #[.pointer (some ⟨gb, 0, none⟩)]] w fun e w' => ToldB w (unp most b 0 0 []) e w' := by
  obtain ⟨i0, hi, hz0, hz1, hz2⟩ := info_parts info5
  obtain ⟨gr, hgr⟩ : ∃ gr, gr = w.heap.size := ⟨_, rfl⟩
  have hbg := hbox.lt
  have hC0 : Cnt w gr most 0 (w.alloc (.cells #[.int .i64 most] 3)) := ⟨by
    unfold BoxAt
    rw [hgr, heap_alloc_new]
    simp, by rw [hgr]; exact (Below.refl _ _).alloc (Nat.le_refl _) _, by simpa using hm0⟩
  have HC1 := hide (up1_ok b a0 cap gb (w.alloc (.cells #[.int .i64 most] 3)) 40 _ most True _ _ (by unfold BoxAt; rw [Below.heap_alloc _ _ _ hbg]; exact hbox) (cnt_teller w gr most hm hgr) hC0 hm0 (fun out W h => hc.stays (by rw [← hgr]; exact h.bel)) hb hn (.inl trivial))
  have HMONO := hide (fun r => unp_mono most b 0 0 [] r)
  have HERR := hide (unp_err most b 0 0 [])
  have HLESS := hide (fun (T : Int) r => unp_less most T b 0 0 [] r hb)
  have HBOX := hide hbox
  have HC := hide hc
  have HBB := hide hb
  have HNN := hide hn
  have HGR := hide hgr
  obtain ⟨U, hU⟩ : ∃ U, U = unp most b 0 0 [] := ⟨_, rfl⟩
  rw [← hU] at HC1 HMONO HERR HLESS ⊢
  have HU := hide hU
  clear hbox hc hb hn hU hC0
  go_enter Try.func23, Try.ntmps23
  go_wp2_with fail
  rw [← hgr]
  clear hgr
  refine (unhide HC1).mono ?_
  rintro e w1 ⟨rfl, hC, hK⟩
  have HK := hide hK
  clear hK HC1
  obtain ⟨r, code⟩ := U
  by_cases hz : code = 0
  · subst hz
    have hC1 := hC rfl
    have HCN := hide hC1
    have c1 := hC1.box.cell
    have hT : r.length ≤ 510000000 := by
      rcases unhide HMONO r rfl with h | ⟨z, hz, h⟩
      · have := unhide HNN; have := h.2; simp at this; omega
      · have := unhide HBB z hz; omega
    have hle := hC1.le
    obtain ⟨T, hTT⟩ : ∃ T, T = r.length := ⟨_, rfl⟩
    obtain ⟨R, hR⟩ : ∃ R, R = most - (T : Int) := ⟨_, rfl⟩
    dsimp only at c1 hle
    rw [← hTT] at hT c1 hle
    rw [← hR] at c1
    have fR : IntKind.i64.wrap (most - R) = (T : Int) := by rw [IntKind.wrap_i64]; omega
    have HTT := hide hTT
    have hszr := hC1.box.lt
    obtain ⟨x2, hx2, hown, hgrow⟩ := run_make_own (P := Try.prog) w1 gr 22 5 i0 (.int .u8 0) 1 Try.underlying22 hi hz0 hz1 .i64 .i64 T (by rw [hz2]; omega) (by unfold maxLen; omega) (by omega)
    have HOWN := hide hown
    have HGROW := hide hgrow
    have hs2 : w1.heap.size < x2.heap.size := by
      rcases hown.2 with ⟨e1, _⟩ | ⟨g, cap', cur, e1, hb', hh, _⟩
      · cases e1
      · have h1 := heap_lt hh
        injection e1 with e1
        injection e1 with e1
        injection e1 with e1
        rw [← e1] at h1
        exact h1
    have HMK : Hid (Mak w x2.heap.size [] (.slice (some ⟨w1.heap.size, 0, none⟩) 0 T) (x2.alloc (.cells #[.slice (some ⟨w1.heap.size, 0, none⟩) 0 T] 22))) := hide (by
      have hg := unhide HGR
      have hb2 : Below w.heap.size w x2 := by rw [← hg]; exact (unhide HK).grown hgrow (by omega) (fun k e => by cases e)
      refine ⟨heap_alloc_new _ _, ⟨by rw [← hg]; exact hown.alloc _, hb2.alloc (by omega) _⟩, by omega⟩)
    have hU2 : unp (T : Int) b 0 0 [] = (r, 0) := unhide HLESS T r rfl (by omega)
    have HC2 := hide (up1_ok b a0 cap gb (x2.alloc (.cells #[.slice (some ⟨w1.heap.size, 0, none⟩) 0 T] 22)) 41 _ (T : Int) False _ _ (by unfold BoxAt; rw [(unhide HMK).row.bel.block gb hbg]; exact unhide HBOX) (mak_teller w x2.heap.size T (by omega)) ⟨_, unhide HMK⟩ (by omega) (fun out W ⟨v, h⟩ => (unhide HC).stays h.row.bel) (unhide HBB) (unhide HNN) (.inr ⟨r, hU2⟩))
    rw [hU2] at HC2
    clear hC hC1 hTT hR hown hgrow hU2
    go_wp2_with fail
    refine (unhide HC2).mono ?_
    rintro e w3 ⟨rfl, h3, h4⟩
    obtain ⟨v3, h3⟩ := h3 rfl
    have c3 := h3.box.cell
    have H3 := hide h3
    clear h3 h4 HC2 HMK hx2 c1
    go_wp2_with fail
    go_ret2
    exact ⟨_, rfl, (unhide H3).row⟩
  · have hz1' : ((code : Int) != 0) = true := by rw [bne_iff_ne]; omega
    have hz2' : ¬ (code : Int) = 0 := by omega
    have hnil := unhide HERR hz
    dsimp only at hnil
    subst hnil
    go_wp2_with fail
    go_ret2
    exact ⟨_, rfl, StB.none w w1 (by rw [← unhide HGR]; exact unhide HK)⟩

theorem StB.base {w0 w1 w : World} {v : Value} {xs : List Nat} (h : StB w1 w v xs) (hb : Below w0.heap.size w0 w1) : StB w0 w v xs := by
  refine ⟨⟨h.own.1, ?_⟩, hb.trans (h.bel.mono hb.size)⟩
  rcases h.own.2 with e | ⟨g, cap, cur, e, hg, r⟩
  · exact .inl e
  · exact .inr ⟨g, cap, cur, e, Nat.le_trans hb.size hg, r⟩

set_option maxHeartbeats 4000000 in
theorem punpack_ok (b : List Nat) (a0 : Option Addr) (cap : Nat) (most : Int) (w : World) (hc : BytesIn w a0 b) (hb : ∀ z ∈ b, z < 256) (hn : b.length ≤ 2000000) (hm2 : most ≤ 9223372036854775807) (hm1 : -9223372036854775808 ≤ most) :
    Calls Try.prog 8 #[.slice a0 b.length cap, .int .i64 most] w fun e w' => ToldB w (unpackF b most) e w' := by
  have HC := hide hc
  have HBB := hide hb
  have HNN := hide hn
  have hbel : Below w.heap.size w (w.alloc (.cells #[.slice a0 b.length cap] 22)) := (Below.refl _ _).alloc (Nat.le_refl _) _
  have HBEL := hide hbel
  have HX := hide (fun h0 => unr_ok b a0 cap w.heap.size most (w.alloc (.cells #[.slice a0 b.length cap] 22)) (heap_alloc_new _ _) (hc.stays hbel) hb hn h0 hm2)
  obtain ⟨n, hN⟩ : ∃ n, n = b.length := ⟨_, rfl⟩
  rw [← hN] at HX HBEL ⊢
  clear hc hb hbel hN hn
  by_cases hneg : most < 0
  · have e1 : unpackF b most = ([], 2) := by unfold unpackF; rw [if_pos hneg]
    rw [e1]
    go_enter Try.func8, Try.ntmps8
    go_wp2_with fail
    go_ret2
    exact ⟨_, rfl, StB.none w _ (unhide HBEL)⟩
  · have e1 : unpackF b most = unp most b 0 0 [] := by unfold unpackF; rw [if_neg hneg]
    rw [e1]
    have HX2 := hide (unhide HX (by omega))
    generalize unp most b 0 0 [] = U at *
    clear e1 HX
    go_enter Try.func8, Try.ntmps8
    go_wp2_with fail
    refine (unhide HX2).mono ?_
    rintro e w1 ⟨v, rfl, h2⟩
    have H2 := hide h2
    clear h2 HX2
    go_wp2_with fail
    go_ret2
    exact ⟨_, rfl, (unhide H2).base (unhide HBEL)⟩
end Go.Proofs.Ytgafabhhalhccaa
