/-
  For every order of bits, all bytes and all acts that together are of bulk at most 1048576, hamperlaw01.BitsReads returns true, and its arguments read behind the call as they read before.
-/
import Derived.Test.YtcplockmnabccaaRef
import Derived.Laws.BytesArg
import Derived.Laws.AppendOwnNone
import Derived.Deep.DeepCutAuto
import Derived.Lib.SmallJoins
import Derived.ProofKit
import Derived.OpenShut
import Derived.ChangeOld
import Derived.JoinedCond
import Derived.SizedLaws
namespace Go.Proofs.Ytcplockmnabccaa.Rds
open Go.ChangeShapes Go.WideShapes Go.ChangeAt Go.RowKit Go.Deep Go.Joins Mth

/-- What is known of the acts: their cells. -/
structure Acts (w : World) (b off len : Nat) (Kf : Nat → Int) (Vf : Nat → Int) (Nf : Nat → Int) (Bf : Nat → Value) : Prop where
  k : ∀ i, i < len → w.cell? ⟨b, off + i * 4, none⟩ = some (.int .i64 (Kf i))
  v : ∀ i, i < len → w.cell? ⟨b, off + i * 4 + 1, none⟩ = some (.int .u64 (Vf i))
  n : ∀ i, i < len → w.cell? ⟨b, off + i * 4 + 2, none⟩ = some (.int .i64 (Nf i))
  b : ∀ i, i < len → w.cell? ⟨b, off + i * 4 + 3, none⟩ = some (Bf i)

theorem Acts.below {w w' : World} {b off len : Nat} {Kf Vf Nf : Nat → Int} {Bf : Nat → Value} (h : Acts w b off len Kf Vf Nf Bf) (hb : Below w.heap.size w w') : Acts w' b off len Kf Vf Nf Bf :=
  ⟨fun i hi => cell_stays hb (h.k i hi), fun i hi => cell_stays hb (h.v i hi), fun i hi => cell_stays hb (h.n i hi), fun i hi => cell_stays hb (h.b i hi)⟩

theorem reads_block {w : World} {g cap : Nat} {zs : List Nat} (h : w.heap[g]? = some (.cells (zs.map bv).toArray 5 (0, 0))) : Reads w (.slice (some ⟨g, 0, none⟩) zs.length cap) zs := by
  refine ⟨_, cap, rfl, fun _ => ⟨_, rfl, fun j u hj => ?_⟩⟩
  have e : (⟨g, 0, none⟩ : Addr).add j = ⟨g, j, none⟩ := by by_cases hq : j = 0 <;> simp [Addr.add, hq]
  rw [e]
  simpa [World.cell?, h] using hj

set_option maxHeartbeats 400000 in
theorem names_ok (w : World) : Calls Try.prog 18 #[] w fun e w' => e = .returned (.bool true) ∧ w' = w := by
  go_enter Try.func18, Try.ntmps18
  go_wp2
  go_ret
  exact ⟨rfl, rfl⟩

set_option maxRecDepth 100000 in
set_option maxHeartbeats 16000000 in
theorem walk (high : Bool) (ba : Option Addr) (bcap : Nat) (zs : List Nat) (a : Option Addr) (b off len cap : Nat) (hal : 0 < len → a = some ⟨b, off, none⟩) (Kf Vf Nf : Nat → Int) (Bf : Nat → Value) (hsl : ∀ i, i < len → ∃ p l c, Bf i = .slice p l c) (w : World) (ha : Acts w b off len Kf Vf Nf Bf) (hlen : len ≤ 2000000) (hz : zs.length ≤ 2000000) (hbc : zs.length ≤ bcap) (hsm : ∀ z ∈ zs, z < 256) (hr : (ba = none ∧ bcap = 0 ∧ zs = []) ∨ ∃ ad, ba = some ad ∧ ∀ (j : Nat) u, (zs.map bv)[j]? = some u → w.cell? (ad.add j) = some u) :
    Calls Try.prog 4 #[.bool high, .slice ba zs.length bcap, .slice a len cap] w fun e w' => e = .returned (.bool true) ∧ Below w.heap.size w w' := by
  obtain ⟨i0, hi, hz0, hz1, hz2⟩ := info_parts info5
  have HSRC := hide hr
  have HRD := hide (reads_of hr)
  have HAL := hide hal
  have HSL := hide hsl
  have HA := hide ha
  have HSM := hide hsm
  clear hr hal ha hsm hsl
  go_enter Try.func4, Try.ntmps4
  go_upto_region 1 with fail
  go_cut [7] (fun v7 wc => wc.ownsRow w.heap.size 5 1 v7 zs.length (zs.map bv) ∧ Below w.heap.size w wc)
  case first =>
    rcases unhide HSRC with ⟨rfl, rfl, rfl⟩ | ⟨ad, rfl, hcell⟩
    · go_wp2_with (at_builtin; go_must (refine wpList_append_own_none rfl (.tmp 23) (.tmp 24) 26 rfl w.heap.size 5 i0 1 Try.underlying26 hi _ 0 [] (by rfl) (World.ownsRow_made w #[] 0 (Nat.le_refl _) (by unfold maxLen; omega) rfl) (by rfl) ?_))
      go_meet
      exact ⟨World.ownsRow_made w #[] 0 (Nat.le_refl _) (by unfold maxLen; omega) rfl, (Below.refl _ _).alloc (Nat.le_refl _) _⟩
    · have HC := hide hcell
      clear hcell
      go_wp2_with (at_builtin; go_must (refine wpList_append_own _ rfl (.tmp 23) (.tmp 24) 26 rfl w.heap.size 5 i0 (.int .u8 0) 1 1 Try.underlying26 hi hz0 hz1 hz2 rfl (by decide) _ 0 [] (by rfl) (World.ownsRow_made w #[] 0 (Nat.le_refl _) (by unfold maxLen; omega) rfl) ad zs.length bcap (zs.map bv) (by rfl) (by simp) (by intro j u hj; exact cell_stays (by exact (Below.refl _ _).alloc (Nat.le_refl _) _) (unhide HC j u hj)) (by intro u hu; simp at hu; obtain ⟨z, _, rfl⟩ := hu; rfl) (by unfold maxLen; omega) (by omega) (by simp) ?_; intro v' w1 hown' hgrow _; have HO' := hide hown'; have HG := hide hgrow; clear hown' hgrow))
      go_meet
      refine ⟨by simpa using unhide HO', ((Below.refl _ _).alloc (Nat.le_refl _) _).grown (unhide HG) (by simp) (fun k e => ?_)⟩
      simp [Value.ownBlock] at e
      omega
  case rest =>
    obtain ⟨hown, hbel⟩ := hcut
    have hin : ∃ ina icap, u7 = .slice ina zs.length icap := by
      rcases hown.2 with ⟨e, e'⟩ | ⟨g, c, _, e, _⟩
      · exact ⟨none, 0, by rw [e, e']⟩
      · exact ⟨_, c, e⟩
    obtain ⟨ina, icap, rfl⟩ := hin
    have HIN := hide hown
    have HB0 := hide hbel
    have sz0 := hbel.size
    have HR0 := hide (reads_row hown rfl)
    clear hown hbel
    go_wp2_with fail
    refine (newReader_ok _ zs high wc (unhide HR0) (by omega) (unhide HSM)).mono ?_
    rintro e w1 ⟨rp, rfl, hrp, hrok, hb1⟩
    have HB1 := hide ((unhide HB0).trans (hb1.mono sz0))
    have HRK1 := hide hrok
    have hg0 : wc.heap.size < w1.heap.size := heap_lt hrok.row
    have hRB : Hid (∀ gg, ina = some ⟨gg, 0, none⟩ → RowB w1 gg zs.length ∧ w.heap.size ≤ gg ∧ gg < wc.heap.size) := by
      refine hide fun gg e => ?_
      have h1 := unhide HIN
      rw [e] at h1
      obtain ⟨hl1, hl2⟩ := h1.lt gg rfl
      obtain ⟨cur, hh, r⟩ := RowB.of h1 rfl
      exact ⟨⟨cur, by rw [hb1.block gg hl2]; exact hh, r⟩, hl1, hl2⟩
    have HSOME : Hid (0 < zs.length → ∃ gg, ina = some ⟨gg, 0, none⟩) := by
      refine hide fun h0 => ?_
      rcases (unhide HIN).2 with ⟨_, e'⟩ | ⟨g, c, _, e, _⟩
      · omega
      · injection e with e1; exact ⟨g, e1⟩
    clear hrok hb1 HR0 HIN HB0
    go_wp2
    go_loopg [9] zs.length (fun gk c ws => ∃ i, gk = zs.length - i ∧ i ≤ zs.length ∧ c = .int .i64 (i : Int) ∧ ROk ws rp high wc.heap.size zs 0 ∧ Below w.heap.size w ws ∧ ∀ gg, ina = some ⟨gg, 0, none⟩ → RowB ws gg zs.length ∧ w.heap.size ≤ gg ∧ gg < wc.heap.size)
    case atStart => exact ⟨0, by omega, by omega, rfl, unhide HRK1, unhide HB1, unhide hRB⟩
    case round =>
      obtain ⟨i, rfl, hi, rfl, hrk, hbel, hrb⟩ := hrel
      clear HRK1 HB1 hRB
      by_cases hlt : i < zs.length
      · obtain ⟨gg, rfl⟩ := unhide HSOME (by omega)
        obtain ⟨hrow, hg1, hg2⟩ := hrb gg rfl
        obtain ⟨⟨y, hc⟩, hf⟩ := hrow.cell i hlt
        have hlt' : (i : Int) < (zs.length : Int) := by omega
        have HROW := hide hrow
        have HRK := hide hrk
        have HBEL := hide hbel
        clear hrow hrk hbel hrb
        go_wp2
        go_roundg (zs.length - (i + 1))
        case measure => omega
        case rel =>
          refine ⟨i + 1, rfl, by omega, by go_num, (unhide HRK).keep (heap_setCell_other _ _ _ _ (by show rp ≠ gg; omega)) (heap_setCell_other _ _ _ _ (by show wc.heap.size ≠ gg; omega)), (unhide HBEL).setCell hg1 _, fun g' e => ?_⟩
          injection e with e
          injection e with e
          subst e
          exact ⟨(unhide HROW).set i _, hg1, hg2⟩
      · have HRK := hide hrk
        have HBEL := hide hbel
        have HRD2 := hide ((unhide HRD).stays hbel)
        clear hrk hbel hrb
        go_wp2_with fail
        refine (of_ok _ zs high wr (unhide HRD2) (by omega) (unhide HSM)).mono ?_
        rintro e w2 ⟨lv, rfl, hown, hb2⟩
        obtain ⟨la, lcap, rfl⟩ : ∃ la lcap, lv = .slice la (8 * zs.length) lcap := by
          rcases hown.2 with ⟨e, e'⟩ | ⟨g, c, _, e, _⟩
          · exact ⟨none, 0, by rw [e, e']⟩
          · exact ⟨_, c, e⟩
        have hrpw := (unhide HRK).lt
        have hgw := heap_lt (unhide HRK).row
        have HRK2 := hide ((unhide HRK).keep (hb2.block _ hrpw) (hb2.block _ hgw))
        have HB2 := hide ((unhide HBEL).trans (hb2.mono (unhide HBEL).size))
        have HL := hide hown
        have szr := (unhide HBEL).size
        obtain ⟨OB, hOB⟩ : ∃ OB, OB = wr.heap.size := ⟨_, rfl⟩
        rw [← hOB] at HL szr hrpw hgw
        clear hown hb2 HRK HBEL HRD2 hOB
        go_wp2
        go_loopg [11, 12] len (fun gk pt c ws => ∃ i p : Nat, gk = len - i ∧ i ≤ len ∧ c = .int .i64 (i : Int) ∧ pt = .int .i64 (p : Int) ∧ ROk ws rp high wc.heap.size zs p ∧ ws.ownsRow OB 3 1 (.slice la (8 * zs.length) lcap) (8 * zs.length) ((List.range (8 * zs.length)).map fun i => bi (bitIn high zs i)) ∧ Below w.heap.size w ws)
        case atStart => exact ⟨0, 0, by omega, by omega, rfl, rfl, unhide HRK2, unhide HL, unhide HB2⟩
        case round =>
          obtain ⟨i, p, rfl, hil, rfl, rfl, hrk, hl, hbel⟩ := hrel
          clear HRK2 HL HB2
          have HRK := hide hrk
          have HLL := hide hl
          have HBEL := hide hbel
          have hple := hrk.le
          clear hrk hl hbel
          have hleI : (i : Int) ≤ (len : Int) := by omega
          go_wp2_with (go_at_call 20; refine (at_ok rp wc.heap.size p high zs _ (unhide HRK)).mono ?_; rintro e w' ⟨rfl, rfl⟩)
          refine (left_ok rp wc.heap.size p high zs _ (unhide HRK) (by omega)).mono ?_
          rintro e w2 ⟨rfl, nq, hw2⟩
          have HRK2 : Hid (ROk w2 rp high wc.heap.size zs p) := hide (by rw [hw2]; exact (unhide HRK).drewN nq)
          have HLL2 : Hid (w2.ownsRow OB 3 1 (.slice la (8 * zs.length) lcap) (8 * zs.length) ((List.range (8 * zs.length)).map fun i => bi (bitIn high zs i))) := hide (by rw [hw2]; exact unhide HLL)
          have HBEL2 : Hid (Below w.heap.size w w2) := hide (by rw [hw2]; exact (unhide HBEL).trans (below_draws _ _ _))
          clear HRK HLL HBEL hw2
          have hlz : (8 * (zs.length : Int) - (p : Int) != 8 * (zs.length : Int) - (p : Int)) = false := by simp
          by_cases hlt : i < len
          · obtain rfl := unhide HAL (by omega)
            have hA2 := (unhide HA).below (unhide HBEL2)
            have ck := hA2.k i hlt
            have cv := hA2.v i hlt
            have cn := hA2.n i hlt
            have cb := hA2.b i hlt
            obtain ⟨ep, el, ec, hbe⟩ := unhide HSL i hlt
            rw [hbe] at cb
            have hne : ((i : Int) == (len : Int)) = false := by simp; omega
            have hltI : (i : Int) < (len : Int) := by omega
            clear hA2 hbe
            have hbx : Hid (ROk (w2.alloc (.cells #[.int .i64 (Kf i), .int .u64 (Vf i), .int .i64 (Nf i), .slice ep el ec] 32)) rp high wc.heap.size zs p ∧ (w2.alloc (.cells #[.int .i64 (Kf i), .int .u64 (Vf i), .int .i64 (Nf i), .slice ep el ec] 32)).ownsRow OB 3 1 (.slice la (8 * zs.length) lcap) (8 * zs.length) ((List.range (8 * zs.length)).map fun i => bi (bitIn high zs i)) ∧ Below w.heap.size w (w2.alloc (.cells #[.int .i64 (Kf i), .int .u64 (Vf i), .int .i64 (Nf i), .slice ep el ec] 32))) :=
              hide ⟨(unhide HRK2).alloc _, (unhide HLL2).alloc _, (unhide HBEL2).alloc (unhide HBEL2).size _⟩
            have hszb : w.heap.size ≤ (w2.alloc (.cells #[.int .i64 (Kf i), .int .u64 (Vf i), .int .i64 (Nf i), .slice ep el ec] 32)).heap.size := (unhide hbx).2.2.size
            have HSB := hide hszb
            have HRP2 := hide (unhide HRK2).lt
            clear HRK2 HLL2 HBEL2 hszb
            have hrpB : w.heap.size ≤ rp := by omega
            by_cases hk0 : Kf i = 0
            · have e0 : (Kf i == 0) = true := by simpa using hk0
              clear hk0
              have hbne : w2.heap.size ≠ rp := by have := (unhide HRP2); omega
              by_cases hA : Nf i < 0 ∨ 64 < Nf i
              · rcases hA with hA | hA
                · as_aux_lemma =>
                  have hd : decide (Nf i < 0) = true := by simp; omega
                  go_wp2_with fail
                  refine (get_arg rp wc.heap.size p high zs (Nf i) _ (unhide hbx).1 (.inl hA)).mono ?_
                  rintro e w3 ⟨rfl, rfl⟩
                  go_wp2
                  go_roundg (len - (i + 1))
                  case measure => omega
                  case rel => exact ⟨i + 1, p, rfl, by omega, by go_num, rfl, (unhide hbx).1, (unhide hbx).2.1, (unhide hbx).2.2⟩
                · as_aux_lemma =>
                  have hd : decide (Nf i < 0) = false := by simp; omega
                  have hd1 : decide (64 < Nf i) = true := by simp; omega
                  go_wp2_with fail
                  refine (get_arg rp wc.heap.size p high zs (Nf i) _ (unhide hbx).1 (.inr hA)).mono ?_
                  rintro e w3 ⟨rfl, rfl⟩
                  go_wp2
                  go_roundg (len - (i + 1))
                  case measure => omega
                  case rel => exact ⟨i + 1, p, rfl, by omega, by go_num, rfl, (unhide hbx).1, (unhide hbx).2.1, (unhide hbx).2.2⟩
              · have hd : decide (Nf i < 0) = false := by simp; omega
                have hd1 : decide (64 < Nf i) = false := by simp; omega
                have hA1 : ¬ Nf i < 0 := by omega
                have hA2 : ¬ 64 < Nf i := by omega
                clear hA
                by_cases hE : 8 * (zs.length : Int) - (p : Int) < Nf i
                · as_aux_lemma =>
                  have hd2 : decide (8 * (zs.length : Int) - (p : Int) < Nf i) = true := by simpa using hE
                  go_wp2_with fail
                  refine (get_end rp wc.heap.size p high zs (Nf i) _ (unhide hbx).1 (by omega) (by omega) (by omega) hE).mono ?_
                  rintro e w3 ⟨rfl, kq, hw3⟩
                  have hon : Only rp (w2.alloc (.cells #[.int .i64 (Kf i), .int .u64 (Vf i), .int .i64 (Nf i), .slice ep el ec] 32)) w3 := by rw [hw3]; exact Only.drewN _ _ _
                  have h3 := st_only (unhide hbx).2.1 (unhide hbx).2.2 hon hrpw hrpB (unhide HSB)
                  have cN3 : w3.cell? ⟨w2.heap.size, 2, none⟩ = some (.int .i64 (Nf i)) := by
                    rw [World.cell?_of_block (w := (w2.alloc (.cells #[.int .i64 (Kf i), .int .u64 (Vf i), .int .i64 (Nf i), .slice ep el ec] 32))) (hon.keep w2.heap.size (by simp) hbne)]
                    simp
                  have HR3 : Hid (ROk w3 rp high wc.heap.size zs (p)) := hide (by rw [hw3]; exact (unhide hbx).1.drewN _)
                  have HL3 := hide h3.1
                  have HB3 := hide h3.2
                  clear hw3 hon h3 hbx HSB
                  go_wp2
                  go_roundg (len - (i + 1))
                  case measure => omega
                  case rel => exact ⟨i + 1, p, rfl, by omega, by go_num, rfl, unhide HR3, unhide HL3, unhide HB3⟩
                · as_aux_lemma =>
                  have hd2 : decide (8 * (zs.length : Int) - (p : Int) < Nf i) = false := by simpa using hE
                  go_wp2_with fail
                  refine (get_ok rp wc.heap.size p high zs (Nf i) _ (unhide hbx).1 (by omega) (by omega) (by omega) (by omega)).mono ?_
                  rintro e w3 ⟨rfl, kq, hw3⟩
                  have hon : Only rp (w2.alloc (.cells #[.int .i64 (Kf i), .int .u64 (Vf i), .int .i64 (Nf i), .slice ep el ec] 32)) w3 := by rw [hw3]; exact (get_only (unhide hbx).1 (by omega)).2
                  have h3 := st_only (unhide hbx).2.1 (unhide hbx).2.2 hon hrpw hrpB (unhide HSB)
                  have cN3 : w3.cell? ⟨w2.heap.size, 2, none⟩ = some (.int .i64 (Nf i)) := by
                    rw [World.cell?_of_block (w := (w2.alloc (.cells #[.int .i64 (Kf i), .int .u64 (Vf i), .int .i64 (Nf i), .slice ep el ec] 32))) (hon.keep w2.heap.size (by simp) hbne)]
                    simp
                  have HR3 : Hid (ROk w3 rp high wc.heap.size zs (p + (Nf i).toNat)) := hide (by rw [hw3]; exact (get_only (unhide hbx).1 (by omega)).1)
                  have HL3 := hide h3.1
                  have HB3 := hide h3.2
                  clear hw3 hon h3 hbx HSB cn
                  obtain ⟨N, hN⟩ := Int.eq_ofNat_of_zero_le (show 0 ≤ Nf i by omega)
                  rw [hN] at cN3 hd hd1 hd2 HR3 ⊢
                  simp only [Int.toNat_natCast] at HR3 ⊢
                  have hN64 : N ≤ 64 := by omega
                  have hNp : p + N ≤ 8 * zs.length := by omega
                  clear hN hA1 hA2 hE
                  have hpI : (p : Int) + (N : Int) ≤ 8 * (zs.length : Int) := by omega
                  rcases (unhide HL3).2 with ⟨e, e8⟩ | ⟨gl, cl, cur, e, hgl, _, hcl, _⟩
                  · injection e with ea eb ec'
                    subst ea ec'
                    obtain rfl : N = 0 := by omega
                    obtain rfl : p = 0 := by omega
                    have E8 := hide e8
                    clear e8 eb
                    go_wp2_with fail
                    refine (number_ok none 0 _ (fun _ => false) high _ (by omega) (by omega)).mono ?_
                    rintro e w4 ⟨rfl, rfl⟩
                    go_wp2
                    go_roundg (len - (i + 1))
                    case measure => omega
                    case rel => exact ⟨i + 1, 0, rfl, by omega, by go_num, by go_num, unhide HR3, unhide HL3, unhide HB3⟩
                  · injection e with ea eb ec'
                    subst ea ec'
                    have HCL := hide ((unhide HL3).cells (g := gl) rfl)
                    clear eb
                    by_cases hcp : p = lcap
                    · obtain rfl : N = 0 := by omega
                      subst hcp
                      go_wp2_with fail
                      refine (number_ok (some ⟨gl, 0, none⟩) 0 _ (fun _ => false) high _ (by omega) (by omega)).mono ?_
                      rintro e w4 ⟨rfl, rfl⟩
                      go_wp2
                      go_roundg (len - (i + 1))
                      case measure => omega
                      case rel => exact ⟨i + 1, p, rfl, by omega, by go_num, by go_num, unhide HR3, unhide HL3, unhide HB3⟩
                    · have hcp' : ¬ lcap = p := fun e => hcp e.symm
                      have HC : Hid (0 < N → ∃ b off, some (⟨gl, p, none⟩ : Addr) = some ⟨b, off, none⟩ ∧ ∀ j, j < N → w3.cell? ⟨b, off + j, none⟩ = some (bi (bitIn high zs (p + j)))) := by
                        refine hide fun _ => ⟨gl, p, rfl, fun j hj => ?_⟩
                        have h5 := unhide HCL (p + j) (bi (bitIn high zs (p + j))) (by rw [List.getElem?_map, List.getElem?_range (show p + j < 8 * zs.length by omega)]; rfl)
                        have e5 : ∀ k, (⟨gl, 0, none⟩ : Addr).add k = ⟨gl, k, none⟩ := fun k => by by_cases hq : k = 0 <;> simp [Addr.add, hq]
                        rw [e5] at h5
                        exact h5
                      go_wp2_with fail
                      refine (number_ok (some ⟨gl, p, none⟩) N _ (fun j => bitIn high zs (p + j)) high _ (unhide HC) hN64).mono ?_
                      rintro e w4 ⟨rfl, rfl⟩
                      go_wp2
                      go_roundg (len - (i + 1))
                      case measure => omega
                      case rel => exact ⟨i + 1, p + N, rfl, by omega, by go_num, by go_num, unhide HR3, unhide HL3, unhide HB3⟩
            · by_cases hk1 : Kf i = 1
              · as_aux_lemma =>
                have e0 : (Kf i == 0) = false := by simpa using hk0
                have e1 : (Kf i == 1) = true := by simpa using hk1
                have HK1 := hide hk1
                clear hk0 hk1
                go_wp2_with fail
                refine (ralign_ok rp wc.heap.size p high zs _ (unhide hbx).1 (by omega)).mono ?_
                rintro e w3 ⟨rfl, hr3, hs3, ho3, ht3, hp3, hk3⟩
                have hon : Only rp _ w3 := ⟨ho3, ht3, hp3, Nat.le_of_eq hs3.symm, fun x _ hne => hk3 x hne⟩
                have h3 := st_only (unhide hbx).2.1 (unhide hbx).2.2 hon hrpw hrpB (unhide HSB)
                have HR3 := hide hr3
                have HL3 := hide h3.1
                have HB3 := hide h3.2
                clear hr3 hs3 ho3 ht3 hp3 hk3 hon h3 hbx HSB
                go_wp2
                rw [align_int]
                go_roundg (len - (i + 1))
                case measure => omega
                case rel => exact ⟨i + 1, (p + 7) / 8 * 8, rfl, by omega, by go_num, rfl, unhide HR3, unhide HL3, unhide HB3⟩
              · by_cases hk2 : Kf i = 2
                · have e0 : (Kf i == 0) = false := by simpa using hk0
                  have e1 : (Kf i == 1) = false := by simpa using hk1
                  have e2 : (Kf i == 2) = true := by simpa using hk2
                  clear hk0 hk1 hk2
                  have hbne : w2.heap.size ≠ rp := by have := (unhide HRP2); omega
                  have hcz := fun x => conv_zero x none 0
                  have hN8 : ((p : Int) % 8 != 0) = (!(p % 8 == 0)) := by rw [Bool.eq_iff_iff]; simp; omega
                  by_cases hA : Nf i < 0
                  · as_aux_lemma =>
                    have hd : decide (Nf i < 0) = true := by simp; omega
                    go_wp2_with fail
                    refine (rbytes_arg rp wc.heap.size p high zs (Nf i) _ (unhide hbx).1 (.inl hA)).mono ?_
                    rintro e w3 ⟨rfl, rfl⟩
                    go_wp2
                    go_rounds 1
                    go_roundg (len - (i + 1))
                    case measure => omega
                    case rel => exact ⟨i + 1, p, rfl, by omega, by go_num, rfl, (unhide hbx).1, (unhide hbx).2.1, (unhide hbx).2.2⟩
                  · have hd : decide (Nf i < 0) = false := by simp; omega
                    by_cases h8 : p % 8 = 0
                    · have hb8 : (p % 8 == 0) = true := by simpa using h8
                      rw [hb8] at hN8
                      have hq8 : 8 * (p / 8) = p := by omega
                      by_cases hE : (zs.length : Int) - ((p / 8 : Nat) : Int) < Nf i
                      · as_aux_lemma =>
                        have hd2 : decide ((8 * (zs.length : Int) - (p : Int)) / 8 < Nf i) = true := by simp; omega
                        go_wp2_with fail
                        refine (rbytes_end rp wc.heap.size p high zs (Nf i) _ (unhide hbx).1 (by omega) (by omega) h8 hE).mono ?_
                        rintro e w3 ⟨rfl, hw3⟩
                        have hon : Only rp (w2.alloc (.cells #[.int .i64 (Kf i), .int .u64 (Vf i), .int .i64 (Nf i), .slice ep el ec] 32)) w3 := by rw [hw3]; exact Only.drew _ _
                        have h3 := st_only (unhide hbx).2.1 (unhide hbx).2.2 hon hrpw hrpB (unhide HSB)
                        have cN3 : w3.cell? ⟨w2.heap.size, 2, none⟩ = some (.int .i64 (Nf i)) := by
                          rw [World.cell?_of_block (w := (w2.alloc (.cells #[.int .i64 (Kf i), .int .u64 (Vf i), .int .i64 (Nf i), .slice ep el ec] 32))) (hon.keep w2.heap.size (by simp) hbne)]
                          simp
                        have HR3 : Hid (ROk w3 rp high wc.heap.size zs (p)) := hide (by rw [hw3]; exact ⟨(unhide hbx).1.blk, (unhide hbx).1.row, (unhide hbx).1.ne, (unhide hbx).1.le, (unhide hbx).1.small⟩)
                        have HL3 := hide h3.1
                        have HB3 := hide h3.2
                        clear hw3 hon h3 hbx HSB
                        go_wp2
                        go_rounds 1
                        go_roundg (len - (i + 1))
                        case measure => omega
                        case rel => exact ⟨i + 1, p, rfl, by omega, by go_num, rfl, unhide HR3, unhide HL3, unhide HB3⟩
                      · as_aux_lemma =>
                        go_wp2_with fail
                        refine (rbytes_ok rp wc.heap.size p high zs (Nf i) _ (unhide hbx).1 (by omega) (by omega) h8 (by omega) (by have := heap_lt (unhide hbx).1.row; exact this)).mono ?_
                        rintro e w3 ⟨he, hx3, hr3, hon⟩
                        obtain ⟨GX, hGX⟩ : ∃ GX, GX = (w2.alloc (.cells #[.int .i64 (Kf i), .int .u64 (Vf i), .int .i64 (Nf i), .slice ep el ec] 32)).heap.size := ⟨_, rfl⟩
                        rw [← hGX] at he hx3
                        subst he
                        have h3 := st_only (unhide hbx).2.1 (unhide hbx).2.2 hon hrpw hrpB (unhide HSB)
                        have cN3 : w3.cell? ⟨w2.heap.size, 2, none⟩ = some (.int .i64 (Nf i)) := by
                          rw [World.cell?_of_block (w := (w2.alloc (.cells #[.int .i64 (Kf i), .int .u64 (Vf i), .int .i64 (Nf i), .slice ep el ec] 32))) (hon.keep w2.heap.size (by simp) hbne)]
                          simp
                        have hgx1 : rp < GX := by rw [hGX]; exact (unhide hbx).1.lt
                        have hgx2 : wc.heap.size < GX := by rw [hGX]; exact heap_lt (unhide hbx).1.row
                        have hgx3 : w.heap.size ≤ GX := by omega
                        have HGL : Hid (∀ g, (Value.slice la (8 * zs.length) lcap).ownBlock = some g → g < GX) := hide fun g e => by rw [hGX]; exact ((unhide hbx).2.1.lt g e).2
                        have hys : ((zs.drop (p / 8)).take (Nf i).toNat).length = (Nf i).toNat := by simp; omega
                        have hxr := RowB.block hx3
                        rw [hys] at hxr
                        have hrx := reads_block (cap := (Nf i).toNat) hx3
                        rw [hys] at hrx
                        have hcx := conv_reads hrx (drop_take_small (unhide HSM) _ _)
                        have HRB3 := hide ((unhide HRD).stays h3.2)
                        obtain ⟨N, hN⟩ := Int.eq_ofNat_of_zero_le (show 0 ≤ Nf i by omega)
                        rw [hN] at cN3 hd hr3 hxr hcx hE ⊢
                        simp only [Int.toNat_natCast] at hr3 hxr hcx ⊢
                        obtain ⟨q8, hq⟩ : ∃ q8, q8 = p / 8 := ⟨_, rfl⟩
                        rw [← hq] at hcx hE hq8
                        have hdd : ((p : Int) / 8) = (q8 : Int) := by omega
                        have hqN : q8 + N ≤ zs.length := by omega
                        have hdE : decide ((8 * (zs.length : Int) - (p : Int)) / 8 < (N : Int)) = false := by simp; omega
                        have HR3 := hide hr3
                        have HL3 := hide h3.1
                        have HB3 := hide h3.2
                        have HX3 := hide hxr
                        have hqNI : (q8 : Int) + (N : Int) ≤ (zs.length : Int) := by omega
                        have hbcI : (zs.length : Int) ≤ (bcap : Int) := by omega
                        have hqI : (0 : Int) ≤ (q8 : Int) := by omega
                        have HQ8 := hide hq8
                        generalize hS : (.string ⟨(((zs.drop q8).take N).map UInt8.ofNat).toArray⟩ : Value) = S at hcx
                        have HS5 := hide hS
                        have hSS : S = .string ⟨(((zs.drop q8).take N).map UInt8.ofNat).toArray⟩ := hS.symm
                        clear hS hr3 h3 hxr hrx hx3 hon hbx HSB hGX hys hN hA hE cn hq hq8 h8
                        subst hSS
                        clear HS5
                        rcases (unhide HRB3).spot with ⟨a5, c5, e5, hsp5⟩
                        injection e5 with e5a _ e5c
                        subst e5a e5c
                        by_cases hm0 : zs.length = 0
                        · obtain rfl : N = 0 := by omega
                          obtain rfl : q8 = 0 := by omega
                          have HM0 := hide hm0
                          clear hm0 hsp5
                          have hcb := fun x => conv_zero x ba bcap
                          rcases ba with _ | ad5
                          · by_cases hb0 : bcap = 0
                            · subst hb0
                              simp only [List.take_zero, List.map_nil] at hcx
                              have HR0 : Hid (ROk w3 rp high wc.heap.size zs p) := unhide HR3
                              clear HR3
                              go_wp2
                              all_goals go_rounds 1
                              all_goals go_roundg (len - (i + 1))
                              all_goals first
                                | (case measure => omega)
                                | skip
                              all_goals exact ⟨i + 1, p, rfl, by omega, by go_num, by go_num, unhide HR0, unhide HL3, unhide HB3⟩
                            · exact absurd ((unhide HSRC).elim (fun h => h.2.1) (fun h => by obtain ⟨_, h, _⟩ := h; cases h)) hb0
                          · by_cases hb0 : bcap = 0
                            · subst hb0
                              simp only [List.take_zero, List.map_nil] at hcx
                              have HR0 : Hid (ROk w3 rp high wc.heap.size zs p) := unhide HR3
                              clear HR3
                              go_wp2
                              all_goals go_rounds 1
                              all_goals go_roundg (len - (i + 1))
                              all_goals first
                                | (case measure => omega)
                                | skip
                              all_goals exact ⟨i + 1, p, rfl, by omega, by go_num, by go_num, unhide HR0, unhide HL3, unhide HB3⟩
                            · skip
                              simp only [List.take_zero, List.map_nil] at hcx
                              have HR0 : Hid (ROk w3 rp high wc.heap.size zs p) := unhide HR3
                              clear HR3
                              go_wp2
                              all_goals go_rounds 1
                              all_goals go_roundg (len - (i + 1))
                              all_goals first
                                | (case measure => omega)
                                | skip
                              all_goals exact ⟨i + 1, p, rfl, by omega, by go_num, by go_num, unhide HR0, unhide HL3, unhide HB3⟩
                        · obtain ⟨bb, bo, rfl, hcl5⟩ := hsp5 (by omega)
                          clear hsp5 hm0
                          by_cases hcq : q8 = bcap
                          · obtain rfl : N = 0 := by omega
                            subst hcq
                            have hcb := fun x => conv_zero x (some ⟨bb, bo, none⟩) 0
                            clear hcl5
                            simp only [List.take_zero, List.map_nil] at hcx
                            have HR0 : Hid (ROk w3 rp high wc.heap.size zs p) := unhide HR3
                            clear HR3
                            go_wp2
                            all_goals go_rounds 1
                            all_goals go_roundg (len - (i + 1))
                            all_goals first
                              | (case measure => omega)
                              | skip
                            all_goals exact ⟨i + 1, p, rfl, by omega, by go_num, by go_num, unhide HR0, unhide HL3, unhide HB3⟩
                          · have hcq' : ¬ bcap = q8 := fun e => hcq e.symm
                            have hcb : (convert 26 9 (.slice (some ⟨bb, bo + q8, none⟩) N (bcap - q8))).run Try.prog w3 = .ok (.string ⟨(((zs.drop q8).take N).map UInt8.ofNat).toArray⟩) w3 := by
                              have hl6 : ((zs.drop q8).take N).length = N := by simp; omega
                              have : Reads w3 (.slice (some ⟨bb, bo + q8, none⟩) N (bcap - q8)) ((zs.drop q8).take N) := by
                                refine ⟨_, _, by rw [hl6], fun _ => ⟨_, rfl, fun j u hj => ?_⟩⟩
                                have hjN : j < N := by
                                  have := (List.getElem?_eq_some_iff.1 hj).1
                                  simp at this; omega
                                have e6 : ∀ k, (⟨bb, bo + q8, none⟩ : Addr).add k = ⟨bb, bo + (q8 + k), none⟩ := fun k => by by_cases hk : k = 0 <;> simp [Addr.add, hk] <;> omega
                                rw [e6, hcl5 (q8 + j) (by omega)]
                                simp only [List.getElem?_map, List.getElem?_take, List.getElem?_drop, hjN, if_true] at hj
                                rw [List.getElem?_eq_getElem (by omega)] at hj
                                simp [bv] at hj
                                rw [← hj]
                                simp [show q8 + j < zs.length by omega]
                              exact conv_reads this (drop_take_small (unhide HSM) _ _)
                            clear hcl5
                            clear hcq
                            go_wp2_with fail
                            go_loopg [22] N (fun gj c ws => ∃ j, gj = N - j ∧ j ≤ N ∧ c = .int .i64 (j : Int) ∧ ROk ws rp high wc.heap.size zs (p + 8 * N) ∧ ws.ownsRow OB 3 1 (.slice la (8 * zs.length) lcap) (8 * zs.length) ((List.range (8 * zs.length)).map fun i => bi (bitIn high zs i)) ∧ Below w.heap.size w ws ∧ RowB ws GX N)
                            case atStart => exact ⟨0, by omega, by omega, rfl, unhide HR3, unhide HL3, unhide HB3, unhide HX3⟩
                            case round =>
                              obtain ⟨j, rfl, hj, rfl, hr4, hl4, hb4, hx4⟩ := hrel
                              clear HR3 HL3 HB3 HX3
                              by_cases hjN : j < N
                              · obtain ⟨⟨y, hcy⟩, hfy⟩ := hx4.cell j hjN
                                have hjI : (j : Int) < (N : Int) := by omega
                                have HR4 := hide hr4
                                have HL4 := hide hl4
                                have HB4 := hide hb4
                                have HX4 := hide hx4
                                clear hr4 hl4 hb4 hx4
                                go_wp2
                                go_roundg (N - (j + 1))
                                case measure => omega
                                case rel =>
                                  refine ⟨j + 1, rfl, by omega, by go_num, (unhide HR4).keep (heap_setCell_other _ _ _ _ (by show rp ≠ GX; omega)) (heap_setCell_other _ _ _ _ (by show wc.heap.size ≠ GX; omega)), own_keep (unhide HL4) (fun g e => heap_setCell_other _ _ _ _ (by show g ≠ GX; have := unhide HGL g e; omega)), (unhide HB4).setCell (by show w.heap.size ≤ GX; omega) _, (unhide HX4).set j _⟩
                              · have HR4 := hide hr4
                                have HL4 := hide hl4
                                have HB4 := hide hb4
                                clear hr4 hl4 hb4 hx4
                                go_wp2
                                go_roundg (len - (i + 1))
                                case measure => omega
                                case rel => exact ⟨i + 1, p + 8 * N, rfl, by omega, by go_num, by go_num, unhide HR4, unhide HL4, unhide HB4⟩
                    · as_aux_lemma =>
                      have hb8 : (p % 8 == 0) = false := by simpa using h8
                      rw [hb8] at hN8
                      go_wp2_with fail
                      refine (rbytes_arg rp wc.heap.size p high zs (Nf i) _ (unhide hbx).1 (.inr h8)).mono ?_
                      rintro e w3 ⟨rfl, rfl⟩
                      go_wp2
                      go_rounds 1
                      go_roundg (len - (i + 1))
                      case measure => omega
                      case rel => exact ⟨i + 1, p, rfl, by omega, by go_num, rfl, (unhide hbx).1, (unhide hbx).2.1, (unhide hbx).2.2⟩
                · as_aux_lemma =>
                  have e0 : (Kf i == 0) = false := by simpa using hk0
                  have e1 : (Kf i == 1) = false := by simpa using hk1
                  have e2 : (Kf i == 2) = false := by simpa using hk2
                  go_wp2_with fail
                  go_roundg (len - (i + 1))
                  case measure => omega
                  case rel => exact ⟨i + 1, p, rfl, by omega, by go_num, rfl, (unhide hbx).1, (unhide hbx).2.1, (unhide hbx).2.2⟩
          · as_aux_lemma =>
            obtain rfl : i = len := by omega
            go_wp2_with (go_at_call 18; refine (names_ok _).mono ?_; rintro e w' ⟨rfl, rfl⟩)
            go_ret
            exact ⟨rfl, unhide HBEL2⟩

theorem own : ownKnob Try.prog.godebug = none := by kernel_rfl
theorem laidOut : laidOutB Try.prog = true := by kernel_rfl
theorem cells32 : Try.prog.cellsOf 32 = 4 := by kernel_rfl
theorem cells3 : Try.prog.cellsOf 3 = 1 := by kernel_rfl
theorem cells30 : Try.prog.cellsOf 30 = 1 := by kernel_rfl
theorem cells26 : Try.prog.cellsOf 26 = 1 := by kernel_rfl
theorem cells5 : Try.prog.cellsOf 5 = 1 := by kernel_rfl

theorem bulk_pos {H : Type} (d : DataW H) : 1 ≤ Rows.uptoBulk d := by
  cases d with
  | lit l => cases l <;> simp [Rows.uptoBulk]
  | _ => simp [Rows.uptoBulk]

theorem bulk_len {H : Type} (l : List (DataW H)) : l.length ≤ Rows.uptoBulkAll l := by
  induction l with
  | nil => simp [Rows.uptoBulkAll]
  | cons x r ih => have := bulk_pos x; simp only [Rows.uptoBulkAll, List.length_cons]; omega

theorem bulk_slice {H : Type} (elems spare : List (DataW H)) : elems.length ≤ Rows.uptoBulk (.slice elems spare) := by
  have := bulk_len elems
  simp only [Rows.uptoBulk]; omega

/-- An act's cells. -/
theorem act_cells {H : Type} {enc : TypeId × Value → H} {w : World} {base n : Nat} {spare : Nat → Bool} {held : Bool} {cs : List Value} {y : DataW H × List MemPlace} (h : DataW.trod enc Try.prog w base spare held n 32 cs = some y) (hl : cs.length = 4) :
    ∃ (kd V N : Int) (u : Value), cs = [.int .i64 kd, .int .u64 V, .int .i64 N, u] ∧ ∃ p l c, u = .slice p l c := by
  obtain ⟨y0, y1, y2, y3, m, _, _, t0, t1, t2, t3⟩ := trod_struct4 Try.underlying32 h
  match cs, hl with
  | [c0, c1, c2, c3], _ =>
    simp [cells3, cells30, cells26] at t0 t1 t2 t3
    obtain ⟨kd, e0, _, _⟩ := DataW.trod_int Try.underlying3 t0
    obtain ⟨V, e1, _, _⟩ := DataW.trod_int Try.underlying30 t1
    obtain ⟨N, e2, _, _⟩ := DataW.trod_int Try.underlying3 t2
    obtain ⟨p, l, c, e3⟩ := slice_form Try.underlying26 t3
    simp at e0 e1 e2 e3
    exact ⟨kd, V, N, c3, by rw [e0, e1, e2], p, l, c, e3⟩

theorem contract (H : Type) (enc : TypeId × Value → H) (W : World) (base : Nat) (args : Array Value) (ds gs : List (DataW H)) (before : List MemPlace)
    (hval : ∀ (j : Nat) t v, Try.f4.params[j]? = some t → args[j]? = some v → Value.okWide Try.prog W .any base t v)
    (hW : DataW.Whole enc Try.prog Try.f4.params.toList Rows.bitsReadsSpec.vars false W args.toList ds gs before) (hk : Rows.uptoSmall H (ds ++ gs) = true) :
    Calls Try.prog 4 args W fun e W' => ∃ v, e = .returned v ∧ Rows.bitsReadsSpec.post enc Try.prog Try.f4 false true false false W args v W' := by
  have hW' := hW
  obtain ⟨p, q, hA0, hV, rfl, hfz, hnd⟩ := hW
  have hA : DataW.TrodAll enc Try.prog W 0 (fun _ => true) true Try.f4.params.toList args.toList ds p := hA0
  rw [Try.params4] at hA hval
  obtain ⟨v0, vs0, d0, ds0, p0, q0, hargs, rfl, rfl, h0, r0⟩ := trodAll_cons hA
  obtain ⟨v1, vs1, d1, ds1, p1, q1, rfl, rfl, rfl, h1, r1⟩ := trodAll_cons r0
  obtain ⟨v2, vs2, d2, ds2, p2, q2, rfl, rfl, rfl, h2, r2⟩ := trodAll_cons r1
  obtain ⟨rfl, rfl, rfl⟩ := trodAll_nil r2
  obtain rfl : args = #[v0, v1, v2] := by cases args; simp_all
  obtain ⟨rfl, rfl⟩ := trodVars_none hV
  have hb : Rows.uptoBulkAll ([d0, d1, d2] ++ []) ≤ 1048576 := of_decide_eq_true hk
  simp only [List.append_nil, Rows.uptoBulkAll] at hb
  obtain ⟨a0, rfl, rfl, rfl⟩ := open_bool Try.underlying4 (hval 0 4 v0 rfl rfl) h0
  obtain ⟨a1, len1, cap1, rfl⟩ := okWide_slice Try.underlying26 (hval 1 26 v1 rfl rfl)
  obtain ⟨a2, len2, cap2, rfl⟩ := okWide_slice Try.underlying22 (hval 2 22 v2 rfl rfl)
  have k1 := h1
  have k2 := h2
  have lt1 : ∀ x ∈ p1, x.block < W.heap.size := by obtain ⟨m, hm⟩ := k1; exact DataW.trod_lt m _ _ _ hm
  have lt2 : ∀ x ∈ p2, x.block < W.heap.size := by obtain ⟨m, hm⟩ := k2; exact DataW.trod_lt m _ _ _ hm
  obtain ⟨zs, hzl, hz, hzc, hsm, hrd⟩ : ∃ zs : List Nat, zs.length = len1 ∧ len1 ≤ 2000000 ∧ len1 ≤ cap1 ∧ (∀ z ∈ zs, z < 256) ∧ ((a1 = none ∧ cap1 = 0 ∧ zs = []) ∨ ∃ ad, a1 = some ad ∧ ∀ (j : Nat) u, (zs.map bv)[j]? = some u → W.cell? (ad.add j) = some u) := by
    obtain ⟨fuel, hf⟩ := h1
    have hf2 := hf
    rcases open_ints Try.underlying26 Try.underlying5 cells5 hf with ⟨hcs, _⟩ | ⟨x, l, c, ys, hcs, _, hl, hm, hz, hx, hcell, hwz⟩
    · simp [Value.cells] at hcs
      obtain ⟨rfl, rfl, rfl⟩ := hcs
      exact ⟨[], rfl, by omega, by omega, by simp, .inl ⟨rfl, rfl, rfl⟩⟩
    · simp [Value.cells] at hcs
      obtain ⟨rfl, rfl, rfl⟩ := hcs
      have hlen : len1 ≤ 2000000 := by
        rcases open_slice Try.underlying26 hf2 with ⟨hcs, _⟩ | ⟨x', l', c', m', n', D, Pl, hcs, _, _, _, _, hx', _⟩
        · simp [Value.cells] at hcs
        · simp [Value.cells] at hcs
          obtain ⟨rfl, rfl, rfl⟩ := hcs
          simp only [Prod.mk.injEq] at hx'
          have := bulk_slice ((List.range len1).map D) ((List.range (m' - len1)).map fun j => D (len1 + j))
          rw [← hx'.1] at this
          simp at this
          omega
      simp at hz
      have hb : ∀ y ∈ ys, 0 ≤ y ∧ y ≤ 255 := fun y hy => bounds_u8 (hwz y hy)
      refine ⟨(ys.take len1).map Int.toNat, by simp; omega, hlen, hl, ?_, .inr ⟨x, rfl, fun j u hj => ?_⟩⟩
      · intro z hz'
        obtain ⟨y, hy, rfl⟩ := List.mem_map.1 hz'
        have := hb y (List.mem_of_mem_take hy)
        omega
      · have hj2 : j < len1 := by
          have := (List.getElem?_eq_some_iff.1 hj).1
          simp at this; omega
        rw [hcell j (by omega)]
        rw [List.getElem?_map, List.getElem?_map, List.getElem?_take, if_pos hj2, List.getElem?_eq_getElem (by omega)] at hj
        simp [bv] at hj
        rw [← hj]
        have := hb ys[j] (List.getElem_mem _)
        simp [show j < ys.length by omega]
        omega
  obtain ⟨b, off, Kf, Vf, Nf, Bf, hal, hacts, hsl, hlen⟩ : ∃ b off Kf Vf Nf Bf, (0 < len2 → a2 = some ⟨b, off, none⟩) ∧ Acts W b off len2 Kf Vf Nf Bf ∧ (∀ i, i < len2 → ∃ p l c, Bf i = .slice p l c) ∧ len2 ≤ 2000000 := by
    obtain ⟨fuel, hf⟩ := h2
    rcases open_slice Try.underlying22 hf with ⟨hcs, _⟩ | ⟨x, l, c, m, n, D, Pl, hcs, _, hl, hm, hmm, hx, hcell⟩
    · simp [Value.cells] at hcs
      obtain ⟨rfl, rfl, rfl⟩ := hcs
      exact ⟨0, 0, fun _ => 0, fun _ => 0, fun _ => 0, fun _ => undef, by omega, ⟨by omega, by omega, by omega, by omega⟩, by omega, by omega⟩
    · simp [Value.cells] at hcs
      obtain ⟨rfl, rfl, rfl⟩ := hcs
      simp only [Prod.mk.injEq] at hx
      have hlen : len2 ≤ 2000000 := by
        have := bulk_slice ((List.range len2).map D) ((List.range (m - len2)).map fun j => D (len2 + j))
        rw [← hx.1] at this
        simp at this
        omega
      have hmm' : len2 ≤ m := by simp at hmm; omega
      have hcells : ∀ i, i < len2 → ∃ (kd V N : Int) (u : Value), (∀ k, k < 4 → W.cell? ((x.add (i * 4)).add k) = [Value.int .i64 kd, .int .u64 V, .int .i64 N, u][k]?) ∧ ∃ p l c, u = .slice p l c := fun i hi => by
        obtain ⟨cs, hc1, hc2⟩ := hcell i (by omega)
        rw [cells32] at hc1
        obtain ⟨_, hcl, hc3⟩ := World.cells?_some hc1
        obtain ⟨kd, V, N, u, rfl, hV⟩ := act_cells hc2 hcl
        exact ⟨kd, V, N, u, hc3, hV⟩
      by_cases h0 : len2 = 0
      · subst h0
        exact ⟨0, 0, fun _ => 0, fun _ => 0, fun _ => 0, fun _ => undef, by omega, ⟨by omega, by omega, by omega, by omega⟩, by omega, by omega⟩
      · obtain ⟨xb, xo, xs⟩ := x
        have hspot : xs = none := by
          obtain ⟨kd, V, N, u, hk, _⟩ := hcells 0 (by omega)
          have := hk 0 (by omega)
          simp at this
          simpa [Addr.add] using World.cell?_spot this
        subst hspot
        have had : ∀ i k, ((⟨xb, xo, none⟩ : Addr).add (i * 4)).add k = ⟨xb, xo + i * 4 + k, none⟩ := fun i k => by
          by_cases hi : i * 4 = 0 <;> by_cases hk : k = 0 <;> simp [Addr.add, hi, hk] <;> omega
        obtain ⟨F, hF⟩ : ∃ F : Nat → (Int × Int × Int × Value), ∀ i, i < len2 → (∀ k, k < 4 → W.cell? ⟨xb, xo + i * 4 + k, none⟩ = [Value.int .i64 (F i).1, .int .u64 (F i).2.1, .int .i64 (F i).2.2.1, (F i).2.2.2][k]?) ∧ ∃ p l c, (F i).2.2.2 = .slice p l c :=
          choose_lt (p := fun i (f : Int × Int × Int × Value) => (∀ k, k < 4 → W.cell? ⟨xb, xo + i * 4 + k, none⟩ = [Value.int .i64 f.1, .int .u64 f.2.1, .int .i64 f.2.2.1, f.2.2.2][k]?) ∧ ∃ p l c, f.2.2.2 = Value.slice p l c) (fun i hi => by
            obtain ⟨kd, V, N, u, hk, hV⟩ := hcells i hi
            exact ⟨(kd, V, N, u), fun k hk4 => by rw [← had]; exact hk k hk4, hV⟩)
        exact ⟨xb, xo, fun i => (F i).1, fun i => (F i).2.1, fun i => (F i).2.2.1, fun i => (F i).2.2.2, fun _ => rfl,
          ⟨fun i hi => (hF i hi).1 0 (by omega), fun i hi => (hF i hi).1 1 (by omega), fun i hi => (hF i hi).1 2 (by omega), fun i hi => (hF i hi).1 3 (by omega)⟩, fun i hi => (hF i hi).2, hlen⟩
  clear hA0
  subst hzl
  refine (walk a0 a1 cap1 zs a2 b off len2 cap2 hal Kf Vf Nf Bf hsl W hacts hlen hz hzc hsm hrd).mono fun e W' ⟨he, bel⟩ => ?_
  subst he
  exact ⟨_, rfl, _, _, _, [], _, [], hW', trodAll_mk1 (shut_bool Try.underlying4 _), (trodAll_cons_mk (shut_bool Try.underlying4 _) (trodAll_cons_mk (Below.trod laidOut (by kernel_rfl) (of_decide_eq_true (by kernel_rfl)) k1 bel lt1) (trodAll_cons_mk (Below.trod laidOut (by kernel_rfl) (of_decide_eq_true (by kernel_rfl)) k2 bel lt2) trodAll_mk0))), rfl, bel.frame _, fun h => by cases h⟩

set_option maxRecDepth 100000 in
theorem lifted (os : Os) (started : os.Started) (H : Type) (enc : TypeId × Value → H) (F : Stop.Interp) :
    ReturnsInHanded {} Try.checked os 4 .any ((Rows.OpenSpec.upto Rows.bitsReadsSpec).pre6 enc Try.prog Try.f4 Rows.bitsReadsUptoRow.domain false) (((Rows.OpenSpec.upto Rows.bitsReadsSpec).at F).post enc Try.prog Try.f4 false true false false) := by
  refine returnsInHanded_of_cond (C := Try.checked) (s := Rows.OpenSpec.upto Rows.bitsReadsSpec) (k := Rows.uptoSmall) rfl own started (by kernel_rfl) Try.func4
    (OpenSpec.witness (enc := enc) (C := Try.checked) (s := Rows.OpenSpec.upto Rows.bitsReadsSpec) (k := Rows.uptoSmall) rfl false ⟨#[], #[.bool false, .slice none 0 0, .slice none 0 0], []⟩ 8 (by kernel_rfl) (by kernel_rfl) (by kernel_rfl)
      (x := ([.lit (.bool false), .nil, .nil], [], [])) (by kernel_rfl) rfl (by kernel_rfl)) ?_
  intro W base args ds gs before hval hW _ hk _
  exact contract H enc W base args ds gs before hval hW hk

theorem proved : Rows.BitsReadsUptoSaid :=
  OpenClaim.holds_of_cond 4 Try.f4 rfl rfl rfl rfl rfl rfl rfl ⟨rfl, rfl, rfl, rfl, rfl⟩ rfl rfl rfl rfl rfl (by kernel_rfl) Try.func4 (by kernel_rfl)
    (of_decide_eq_true (by kernel_rfl)) (by unfold Func.isWrapper; first | (rw [if_pos (by decide +kernel)]; kernel_rfl) | (rw [if_neg (by decide +kernel)]; exact ⟨rfl, rfl⟩))
    (fun os started H enc _ F => lifted os started H enc F)

end Go.Proofs.Ytcplockmnabccaa.Rds
namespace Go.Proofs.Ytcplockmnabccaa
theorem bitsReadsUpto_holds : Rows.BitsReadsUptoSaid := Rds.proved
end Go.Proofs.Ytcplockmnabccaa
