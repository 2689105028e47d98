/- The law RunsBack, walked. -/
import Derived.Test.YtgafabhhalhccaaSa
import Derived.Test.YtgafabhhalhccaaPp
import Derived.Test.YtgafabhhalhccaaBk
namespace Go.Proofs.Ytgafabhhalhccaa
open Go.RowKit Runs
set_option maxRecDepth 100000
set_option linter.unusedVariables false
attribute [local go_sem ↓] Go.wp_at_zero Go.wp_at_succ

theorem piece_small {c n : Nat} (hc : c < 256) (hn : n ≤ 259) : ∀ z ∈ piece c n, z < 256 := by
  intro z hz
  unfold piece at hz
  split at hz
  · rw [List.mem_replicate] at hz; omega
  · rw [List.mem_append, List.mem_replicate, List.mem_singleton] at hz; omega

theorem packF_small : ∀ (k : Nat) (b : List Nat), b.length ≤ k → (∀ z ∈ b, z < 256) → ∀ z ∈ packF b, z < 256
  | 0, b, h, _ => by
    obtain rfl : b = [] := List.eq_nil_of_length_eq_zero (by omega)
    intro z hz; simp [packF, packG] at hz
  | k + 1, [], _, _ => by intro z hz; simp [packF, packG] at hz
  | k + 1, c :: l, h, hs => by
    have h1 := lead_le c 258 l
    intro z hz
    rw [packF_cons, List.mem_append] at hz
    rcases hz with hz | hz
    · exact piece_small (hs c (List.mem_cons_self ..)) (by omega) z hz
    · exact packF_small k (l.drop (lead c 258 l)) (by simp at h ⊢; omega) (fun z hz => hs z (List.mem_cons_of_mem _ (List.mem_of_mem_drop hz))) z hz

def sixA : List Nat := [97, 97, 97, 97, 97, 97]
def sixC : Array Value := #[.int .u8 97, .int .u8 97, .int .u8 97, .int .u8 97, .int .u8 97, .int .u8 97]

theorem conv_six (w : World) : (convert 22 22 (.slice (some ⟨w.heap.size, 0, none⟩) 6 6)).run Try.prog (w.alloc (.cells #[.int .u8 97, .int .u8 97, .int .u8 97, .int .u8 97, .int .u8 97, .int .u8 97] 5)) = .ok (.slice (some ⟨w.heap.size, 0, none⟩) 6 6) (w.alloc (.cells sixC 5 (6, 7))) :=
  Lib.run_convert_bytes_const w 22 5 #[.int .u8 97, .int .u8 97, .int .u8 97, .int .u8 97, .int .u8 97, .int .u8 97] 6 6 Try.underlying22 Try.underlying5

theorem six_in (w : World) : BytesIn (w.alloc (.cells sixC 5 (6, 7))) (some ⟨w.heap.size, 0, none⟩) sixA := by
  intro j hj
  refine ⟨w.heap.size, 0, rfl, ?_⟩
  rw [Nat.zero_add]
  simp only [World.cell?, heap_alloc_new]
  have hj6 : j < 6 := hj
  obtain rfl | rfl | rfl | rfl | rfl | rfl : j = 0 ∨ j = 1 ∨ j = 2 ∨ j = 3 ∨ j = 4 ∨ j = 5 := by omega
  all_goals rfl

theorem six_pack : packF sixA = [97, 97, 97, 97, 2] := by decide

theorem rowI_ints {lo hi : Nat} {w : World} {a : Option Addr} {n cap : Nat} {l : List Int} (h : RowI lo hi w (.slice a n cap) l) : IntsIn w a l := by
  obtain ⟨a', cap', e, hs⟩ := h
  injection e with e1 e2 e3
  subst e1
  intro j hj
  obtain ⟨g, cs, rfl, _, _, h3, h4⟩ := hs (by omega)
  exact ⟨g, 0, rfl, by rw [Nat.zero_add]; simp only [World.cell?, h3]; exact h4 j hj⟩

theorem row_bytes {lo hi : Nat} {w : World} {a : Option Addr} {n cap : Nat} {l : List Nat} (h : Row lo hi w (.slice a n cap) .u8 5 l) : BytesIn w a l := by
  obtain ⟨a', cap', e, hs⟩ := h
  injection e with e1 e2 e3
  subst e1
  intro j hj
  obtain ⟨g, cs, rfl, _, _, h3, h4⟩ := hs (by omega)
  exact ⟨g, 0, rfl, by rw [Nat.zero_add]; simp only [World.cell?, h3]; exact h4 j hj⟩

theorem stI_lies {w0 w : World} {v : Value} {xs : List Int} (h : St w0 w v (xs.map iv)) : ∃ a0 cap, v = .slice a0 xs.length cap ∧ xs.length ≤ cap ∧ IntsIn w a0 xs := by
  obtain ⟨a0, cap, e, hi⟩ := h.lies
  refine ⟨a0, cap, e, ?_, hi⟩
  rcases h.own.2 with ⟨e1, e2⟩ | ⟨g, cap', cur, e1, hb, hh, hn, _⟩
  · rw [List.length_map] at e2; omega
  · rw [List.length_map] at hn
    rw [e1] at e
    injection e with _ _ e3
    omega

set_option maxHeartbeats 8000000 in
theorem back_law (a0 : Option Addr) (c0 : Nat) (zs : List Nat) (w : World) (hr0 : SrcB w a0 c0 zs) (hs0 : ∀ z ∈ zs, z < 256) (hl0 : zs.length ≤ 1048576) (hc0 : zs.length ≤ c0) :
    Calls Try.prog 6 #[.slice a0 zs.length c0] w fun e w' => e = .returned (.bool true) ∧ Below w.heap.size w w' := by
  have HPK := hide (ppack_ok zs a0 c0 w hr0.bytes hl0 hc0)
  have HPL := hide (packF_len zs.length zs (Nat.le_refl _))
  have HPS := hide (packF_small zs.length zs (Nat.le_refl _) hs0)
  have HUP := hide (unpack_pack zs)
  have HPF := hide (fun W (h : Below w.heap.size w W) => pfront_ok zs a0 c0 W (hr0.bytes.stays h) hs0 hl0)
  have HSR := hide (reads_of hr0)
  have HSM := hide hs0
  have HUS : Hid (∀ z ∈ usedF zs, z < 256) := hide (fun z hz => (mem_used.1 hz).1)
  have HUF := hide (unfront_front hs0)
  have HUL := hide (used_len zs)
  have HPI := hide (placesI_len zs)
  have HSP := hide (fun h : zs ≠ [] => sym_front hs0 h)
  have HPP := hide (fun h : zs ≠ [] => places_sym hs0 h hl0)
  have HFN : Hid ((frontF zs).length = zs.length) := hide (front_len zs (usedF zs))
  obtain ⟨n, hn⟩ : ∃ n, n = zs.length := ⟨_, rfl⟩
  have HN := hide hn
  rw [← hn] at HPK HPF HPL hl0 hc0 HFN HUP HSR HPI HPP ⊢
  clear hn hr0 hs0
  go_enter Try.func6, Try.ntmps6
  go_wp2_with fail
  refine (unhide HPK).mono ?_
  rintro e w1 ⟨x, rfl, hst⟩
  have HB1 := hide hst.bel
  obtain ⟨xa, xc, rfl, hxc, hxb, -⟩ := hst.lies
  have HPU := hide (punpack_ok (packF zs) xa xc (n : Int) w1 hxb (unhide HPS) (by have := unhide HPL; omega) (by omega) (by omega))
  rw [unhide HUP] at HPU
  generalize (packF zs).length = xl at *
  clear hst hxb hxc HPK HPS HPL
  go_wp2_with fail
  refine (unhide HPU).mono ?_
  rintro e w2 ⟨x, rfl, hst⟩
  clear HPU
  have HX := hide hst.toRow
  have HB2 := hide ((unhide HB1).trans (hst.bel.mono (unhide HB1).size))
  have hs2 := hst.bel.size
  clear hst
  go_wp2_with fail
  refine (unhide HPF w2 (unhide HB2)).mono ?_
  rintro e w3 ⟨u, g, rfl, hu, hg, hp, hbl⟩
  have HB3 := hide ((unhide HB2).trans (hbl.mono (unhide HB2).size))
  have HX3 := hide ((unhide HX).of_below hbl)
  have HP := hide (row_intsI (unhide HFN) hp)
  have HU := hide hu
  have hgl := hp.lt
  obtain ⟨ua, uc, e1, -⟩ := hu
  subst e1
  clear hp hbl HX
  have HPUF := hide (punfront_ok (usedF zs) ua uc (placesI zs) (some ⟨g, 0, none⟩) n w3 (row_bytes (unhide HU)) (unhide HUS) (rowI_ints (unhide HP)) (by have := unhide HUL; omega) (by rw [unhide HPI]; exact hl0))
  rw [unhide HUF, unhide HPI] at HPUF
  obtain ⟨m, hm⟩ : ∃ m, m = (usedF zs).length := ⟨_, rfl⟩
  have HM := hide hm
  rw [← hm] at HPUF HUL HSP HPP ⊢
  clear hm
  go_wp2_with fail
  refine (unhide HPUF).mono ?_
  rintro e w4 ⟨y, rfl, hy, hbl⟩
  have HB4 := hide ((unhide HB3).trans (hbl.mono (unhide HB3).size))
  have HX4 := hide ((unhide HX3).of_below hbl)
  have HP4 := hide ((unhide HP).of_below hbl)
  have HU4 := hide ((unhide HU).of_below hbl)
  have HY := hide hy
  have hs4 := hbl.size
  clear hy hbl HPUF HX3 HP HU
  have cx := conv_reads (unhide HX4).reads (unhide HSM)
  have cy := conv_reads (unhide HY).reads (unhide HSM)
  have cz := conv_reads ((unhide HSR).stays (unhide HB4)) (unhide HSM)
  generalize bs zs = S at cx cy cz
  have hcv := conv_six w4
  have HSI := hide (six_in w4)
  have HB5 : Hid (Below w.heap.size w (w4.alloc (.cells sixC 5 (6, 7)))) := hide ((unhide HB4).alloc (unhide HB4).size _)
  have HBA : Hid (Below w4.heap.size w4 (w4.alloc (.cells sixC 5 (6, 7)))) := hide ((Below.refl _ _).alloc (Nat.le_refl _) _)
  go_wp2_with fail
  refine (ppack_ok sixA (some ⟨w4.heap.size, 0, none⟩) 6 _ (unhide HSI) (by decide) (by decide)).mono ?_
  rintro e w5 ⟨p6, rfl, hst⟩
  rw [six_pack] at hst
  have HB6 := hide ((unhide HB5).trans (hst.bel.mono (unhide HB5).size))
  have hw45 := (unhide HBA).trans (hst.bel.mono (unhide HBA).size)
  have HP5 := hide ((unhide HP4).of_below hw45)
  have hs5 := hw45.size
  have hc6 := conv_reads hst.toRow.reads (by decide)
  have hbs : bs [97, 97, 97, 97, 2] = (⟨#[97, 97, 97, 97, 2]⟩ : ByteArray) := by decide
  rw [hbs] at hc6
  clear hst hcv HSI HB5 HBA hbs cx cy cz hw45 HP4 HX4 HU4 HY
  by_cases h0 : n = 0
  · have hm0 : m = 0 := by
      obtain rfl : zs = [] := List.eq_nil_of_length_eq_zero (by rw [← unhide HN]; exact h0)
      rw [unhide HM]; decide
    have f1 : ((n : Int) == 0) = true := by rw [beq_iff_eq]; omega
    have f2 : ((m : Int) == 0) = true := by rw [beq_iff_eq]; omega
    clear h0 hm0
    go_wp2_with fail
    go_ret
    exact ⟨rfl, unhide HB6⟩
  have f1 : ((n : Int) == 0) = false := by rw [beq_eq_false_iff_ne]; omega
  have f2 : ¬ (n : Int) = 0 := by omega
  have hne : zs ≠ [] := fun h => h0 (by rw [unhide HN, h]; rfl)
  have HSY := hide (psymbols_ok (placesI zs) (some ⟨g, 0, none⟩) n (m : Int) w5 (rowI_ints (unhide HP5)) (by rw [unhide HPI]; exact hl0))
  have HSL := hide (symOut_len (placesI zs) (m : Int))
  have HPE := hide (unhide HPP hne)
  have HSE := hide (congrArg Prod.snd (unhide HSP hne))
  rw [unhide HPI] at HSY HSL
  obtain ⟨⟨sl, sc⟩, hSS⟩ : ∃ SS, SS = symOut (placesI zs) (m : Int) := ⟨_, rfl⟩
  rw [← hSS] at HSY HPE HSE HSL
  obtain rfl : sc = 0 := unhide HSE
  have f3 : ¬ (1048576 : Int) < (n : Int) := by omega
  clear hSS hne HSE HSP HPP
  go_wp2_with fail
  refine (unhide HSY).mono ?_
  rintro e w6 ⟨s, rfl, hst⟩
  have hb6 := hst.bel
  have HB7 := hide ((unhide HB6).trans (hb6.mono (unhide HB6).size))
  have HP6 := hide ((unhide HP5).of_below hb6)
  have hs6 := hb6.size
  obtain ⟨sa, sp, rfl, hsc, hsi⟩ := stI_lies hst
  have HPL := hide (pplaces_ok sl sa sp (m : Int) (n : Int) w6 hsi hsc (by have := unhide HSL; omega) (by omega))
  rw [unhide HPE] at HPL
  clear hst hb6 hsi hsc HSY HP5 HSL HPE
  generalize sl.length = sn at *
  go_wp2_with fail
  refine (unhide HPL).mono ?_
  rintro e w7 ⟨pv, rfl, hst⟩
  have HB8 := hide ((unhide HB7).trans (hst.bel.mono (unhide HB7).size))
  have HP7 := hide ((unhide HP6).of_below hst.bel)
  have HPV := hide hst.toRowI
  clear hst HPL HP6
  go_wp2_with fail
  refine (sameI_ok _ _ _ _ pv (.slice (some ⟨g, 0, none⟩) n n) _ w7 (unhide HPV) (unhide HP7) (.inr (by omega)) (by rw [unhide HPI]; omega)).mono ?_
  rintro e w8 ⟨rfl, c8⟩
  have HB9 := hide (c8.below (unhide HB8) (unhide HB7).size (unhide HB8).size)
  clear c8
  go_wp2_with fail
  go_ret
  exact ⟨rfl, unhide HB9⟩

end Go.Proofs.Ytgafabhhalhccaa
