/-
  For every order of bits and all acts, hamperlaw01.BitsBack returns true, and its arguments read behind the call as they read before; there are no conditions.
-/
import Derived.Test.YtcplockmnabccaaRd
import Derived.Test.YtcplockmnabccaaBackMath
import Derived.ProofKit
import Derived.OpenShut
import Derived.ChangeOld
import Derived.SizedLaws
import Derived.Lib.SmallJoins
namespace Go.Proofs.Ytcplockmnabccaa.Back
open Go.ChangeShapes Go.WideShapes Go.ChangeAt Go.RowKit Go.Deep Go.Joins Mth

def kOf (N : Int) : Nat := ((wrap64 (N.tmod 65 + 65)).tmod 65).toNat

theorem k_val (N : Int) : (wrap64 (N.tmod 65 + 65)).tmod 65 = (kOf N : Int) ∧ kOf N ≤ 64 := by
  unfold kOf
  have h1 := Int.tmod_lt_of_pos N (show (0 : Int) < 65 by decide)
  have h2 : -65 < N.tmod 65 := Int.lt_tmod_of_pos N (show (0 : Int) < 65 by decide)
  rw [IntWalk.wrap64_in _ (by omega)]
  have h3 := Int.tmod_lt_of_pos (N.tmod 65 + 65) (show (0 : Int) < 65 by decide)
  have h4 := Int.tmod_nonneg (a := N.tmod 65 + 65) 65 (by omega)
  omega

theorem div_nat (v K : Nat) : ((v : Int) / 2 ^ K).toNat = v / 2 ^ K := by
  rw [show ((v : Int) / 2 ^ K) = ((v / 2 ^ K : Nat) : Int) by simp]; rfl

theorem div_cast (v K : Nat) : ((v : Int) / 2 ^ K) = ((v / 2 ^ K : Nat) : Int) := by simp

theorem div_pos (v K : Nat) : 0 ≤ ((v : Int) / 2 ^ K) := by
  rw [show ((v : Int) / 2 ^ K) = ((v / 2 ^ K : Nat) : Int) by simp]; exact Int.natCast_nonneg _

theorem div_lt (v K : Nat) (hv : v < 2 ^ 64) (hK : K ≤ 64) : v / 2 ^ (64 - K) < 2 ^ K := by
  apply Nat.div_lt_of_lt_mul
  rw [← Nat.pow_add, show 64 - K + K = 64 by omega]
  exact hv

/-- What is known of the acts: each one's number and width, in its cells. -/
structure Acts (w : World) (b off len : Nat) (Vf : Nat → Nat) (Nf : Nat → Int) : Prop where
  v : ∀ i, i < len → w.cell? ⟨b, off + i * 4 + 1, none⟩ = some (.int .u64 (Vf i : Int))
  n : ∀ i, i < len → w.cell? ⟨b, off + i * 4 + 2, none⟩ = some (.int .i64 (Nf i))
  lt : ∀ i, i < len → Vf i < 2 ^ 64

theorem Acts.below {w w' : World} {b off len : Nat} {Vf : Nat → Nat} {Nf : Nat → Int} (h : Acts w b off len Vf Nf) (hb : Below w.heap.size w w') : Acts w' b off len Vf Nf :=
  ⟨fun i hi => cell_stays hb (h.v i hi), fun i hi => cell_stays hb (h.n i hi), h.lt⟩

theorem reads_block {w : World} {g cap : Nat} {zs : List Nat} (h : w.heap[g]? = some (.cells (zs.map bv).toArray 5 (0, 0))) : Reads w (.slice (some ⟨g, 0, none⟩) zs.length cap) zs := by
  refine ⟨_, cap, rfl, fun _ => ⟨_, rfl, fun j u hj => ?_⟩⟩
  have e : (⟨g, 0, none⟩ : Addr).add j = ⟨g, j, none⟩ := by by_cases hq : j = 0 <;> simp [Addr.add, hq]
  rw [e]
  simpa [World.cell?, h] using hj

set_option maxHeartbeats 1000000 in
theorem walk (high : Bool) (a : Option Addr) (b off len cap : Nat) (hal : 0 < len → a = some ⟨b, off, none⟩) (Vf : Nat → Nat) (Nf : Nat → Int) (w : World) (ha : Acts w b off len Vf Nf) (hlen : len ≤ 3000000000000) :
    Calls Try.prog 6 #[.bool high, .slice a len cap] w fun e w' => e = .returned (.bool true) ∧ Below w.heap.size w w' := by
  obtain ⟨Xf, hXf⟩ : ∃ Xf : Nat → Nat, Xf = fun i => Vf i / 2 ^ (64 - kOf (Nf i)) := ⟨_, rfl⟩
  obtain ⟨Kf, hKf⟩ : ∃ Kf : Nat → Nat, Kf = fun i => kOf (Nf i) := ⟨_, rfl⟩
  have HAL := hide hal
  clear hal
  have HXf := hide hXf
  have HKf := hide hKf
  have HA := hide ha
  have hK64 : ∀ i, Kf i ≤ 64 := fun i => by rw [hKf]; exact (k_val _).2
  have HK := hide hK64
  clear hXf hKf ha hK64
  have HN := hide (new_ok high w)
  go_enter Try.func6, Try.ntmps6
  go_wp2_with (go_at_call 8; refine (new_any _ _).mono ?_; rintro e w' ⟨rfl, rfl⟩)
  go_loopg [6] len (fun gk c ws => ∃ i v m f, gk = len - i ∧ i ≤ len ∧ c = .int .i64 (i : Int) ∧ WOk ws w.heap.size high v m (run high Xf Kf i) f ∧ f ≤ 7 ∧ Below w.heap.size w ws)
  case atStart => exact ⟨0, _, 0, 0, by omega, by omega, rfl, unhide HN, by omega, (Below.refl _ _).alloc (Nat.le_refl _) _⟩
  case round =>
    obtain ⟨i, v, m, f, rfl, hi, rfl, hok, hf, hbel⟩ := hrel
    by_cases hlt : i < len
    · obtain rfl := unhide HAL (by omega)
      have hA2 := (unhide HA).below hbel
      have hc1 := hA2.v i hlt
      have hc2 := hA2.n i hlt
      have hk := (k_val (Nf i)).1
      have hk64 := (k_val (Nf i)).2
      have HOK := hide hok
      have HBEL := hide hbel
      clear hA2 hok hbel
      have hrl := run_length_le high Xf Kf (unhide HK) i
      have hxk : Xf i = Vf i / 2 ^ (64 - kOf (Nf i)) ∧ Kf i = kOf (Nf i) := by rw [unhide HXf, unhide HKf]; exact ⟨rfl, rfl⟩
      have HXK := hide hxk
      have hdl := div_lt (Vf i) (kOf (Nf i)) ((unhide HA).lt i hlt) hk64
      have HDL := hide hdl
      clear hxk hdl
      go_wp2_with fail
      refine (put_ok w.heap.size m f high v (run high Xf Kf i) ((Vf i : Int) / 2 ^ (64 - kOf (Nf i))) (kOf (Nf i) : Int) wr (unhide HOK) hf (by omega) (by omega) (div_pos _ _) (by rw [div_nat, Int.toNat_natCast]; exact unhide HDL) (by rw [Int.toNat_natCast]; omega)).mono ?_
      rintro e w1 ⟨rfl, v', m', f', hok', hf', hch⟩
      have HOK' : Hid (WOk w1 w.heap.size high v' m' (run high Xf Kf (i + 1)) f') := by
        refine hide ?_
        rw [run, (unhide HXK).1, (unhide HXK).2]
        rw [div_nat, Int.toNat_natCast] at hok'
        exact hok'
      have HB' := hide ((unhide HBEL).trans (hch.below (B := w.heap.size) (unhide HOK).lt (Nat.le_refl _) (fun g e => by have := ((unhide HOK).row.lt g e).1; omega)))
      clear hok' hch HOK HBEL
      go_wp2
      go_roundg (len - (i + 1))
      case measure => omega
      case rel => exact ⟨i + 1, v', m', f', rfl, by omega, by go_num, unhide HOK', hf', unhide HB'⟩
    · obtain rfl : i = len := by omega
      have HOK := hide hok
      have HBEL := hide hbel
      have hrl := run_length_le high Xf Kf (unhide HK) i
      have hml := hok.len
      clear hok hbel
      go_wp2_with fail
      refine (bytes_ok w.heap.size m f high v (run high Xf Kf i) wr (unhide HOK) (by omega)).mono ?_
      rintro e w1 ⟨rfl, h1, hb1⟩
      have HR1 : Hid (Reads w1 (.slice (some ⟨wr.heap.size, 0, none⟩) m m) (pk high m (run high Xf Kf i))) := by
        have := reads_block (cap := m) h1
        rw [pk_length] at this
        exact hide this
      have HB1 := hide hb1
      clear h1 hb1
      go_wp2_with fail
      refine (newReader_ok _ (pk high m (run high Xf Kf i)) high w1 (unhide HR1) (by rw [pk_length]; omega) (pk_lt _ _ _)).mono ?_
      rintro e w2 ⟨rp, rfl, hrp, hrok, hb2⟩
      have hpl := pk_length high m (run high Xf Kf i)
      generalize hzs : pk high m (run high Xf Kf i) = zs at hrok hpl
      have HZ := hide hzs
      have sz1 := (unhide HB1).size
      have sz0 := (unhide HBEL).size
      have hpb := (unhide HOK).lt
      have hb12 : Below wr.heap.size wr w2 := (unhide HB1).trans (hb2.mono sz1)
      have hwok2 : WOk w2 w.heap.size high v m (run high Xf Kf i) f := (unhide HOK).keep (hb12.block _ hpb) (fun g e => hb12.block _ ((unhide HOK).row.lt g e).2)
      have hne1 : rp ≠ w.heap.size := by omega
      have hne2 : v.ownBlock ≠ some rp := fun e => by have := ((unhide HOK).row.lt rp e).2; omega
      have HBEL2 := hide ((unhide HBEL).trans (hb12.mono sz0))
      have HW2 := hide hwok2
      have HRK := hide hrok
      have HNE2 := hide hne2
      have sz2 := hb12.size
      clear hrok hb2 hzs hb12 hwok2 hne2 HR1 HB1 HBEL HOK
      go_wp2_with fail
      go_loopg [9] i (fun gk c ws => ∃ j, gk = i - j ∧ j ≤ i ∧ c = .int .i64 (j : Int) ∧ WOk ws w.heap.size high v m (run high Xf Kf i) f ∧ ROk ws rp high w1.heap.size zs (run high Xf Kf j).length ∧ Below w.heap.size w ws)
      case atStart => exact ⟨0, by omega, by omega, rfl, unhide HW2, unhide HRK, unhide HBEL2⟩
      case round =>
        obtain ⟨j, rfl, hj, rfl, hwk, hrk, hbel⟩ := hrel
        clear HW2 HRK HBEL2
        by_cases hlt : j < i
        · obtain rfl := unhide HAL (by omega)
          have hA2 := (unhide HA).below hbel
          have hc1 := hA2.v j hlt
          have hc2 := hA2.n j hlt
          have hk := (k_val (Nf j)).1
          have hk64 := (k_val (Nf j)).2
          have hxk : Xf j = Vf j / 2 ^ (64 - kOf (Nf j)) ∧ Kf j = kOf (Nf j) := by rw [unhide HXf, unhide HKf]; exact ⟨rfl, rfl⟩
          have hdl := div_lt (Vf j) (kOf (Nf j)) ((unhide HA).lt j hlt) hk64
          have hmono := run_mono high Xf Kf (j + 1) i hlt
          rw [run_length_succ, hxk.2] at hmono
          have hnum := run_num high Xf Kf m j i hlt (by rw [hxk.1, hxk.2]; exact hdl) (by omega)
          rw [unhide HZ, hxk.1, hxk.2] at hnum
          have HXK := hide hxk
          have HNUM := hide hnum
          have HWK := hide hwk
          have HRK := hide hrk
          have HBEL := hide hbel
          clear hA2 hwk hrk hbel hxk hdl hnum
          go_wp2_with fail
          refine (get_ok rp w1.heap.size (run high Xf Kf j).length high zs (kOf (Nf j) : Int) wr (unhide HRK) (by omega) (by omega) (by omega) (by rw [Int.toNat_natCast]; omega)).mono ?_
          rintro e w3 ⟨rfl, kq, rfl⟩
          rw [Int.toNat_natCast, unhide HNUM]
          have hrk3 := ((unhide HRK).drewN kq).set ((run high Xf Kf j).length + kOf (Nf j)) (by omega)
          have hoth : ∀ x, x ≠ rp → ((wr.drewN kq).setCell ⟨rp, 3, none⟩ (.int .i64 (((run high Xf Kf j).length + kOf (Nf j) : Nat) : Int))).heap[x]? = wr.heap[x]? := fun x hx => by rw [heap_setCell_other _ _ _ _ (by exact hx)]; rfl
          have hwk3 := (unhide HWK).keep (hoth _ (fun e => hne1 e.symm)) (fun g e => hoth g (fun e' => unhide HNE2 (by rw [← e']; exact e)))
          have hbel3 : Below w.heap.size w ((wr.drewN kq).setCell ⟨rp, 3, none⟩ (.int .i64 (((run high Xf Kf j).length + kOf (Nf j) : Nat) : Int))) := ((unhide HBEL).trans (below_draws _ wr kq)).setCell (by show w.heap.size ≤ rp; omega) _
          generalize (wr.drewN kq).setCell ⟨rp, 3, none⟩ (.int .i64 (((run high Xf Kf j).length + kOf (Nf j) : Nat) : Int)) = W3 at hrk3 hwk3 hbel3
          have hc3 := ((unhide HA).below hbel3).v j hlt
          have HRK3 := hide hrk3
          have HWK3 := hide hwk3
          have HBEL3 := hide hbel3
          clear hrk3 hoth hwk3 hbel3 HRK HWK HBEL HNUM hc1 hc2
          have hne0 : (((Vf j / 2 ^ (64 - kOf (Nf j)) : Nat) : Int) != (Vf j : Int) / 2 ^ (64 - kOf (Nf j))) = false := by rw [div_cast]; simp
          rw [← div_cast]
          go_wp2
          go_roundg (i - (j + 1))
          case measure => omega
          case rel => exact ⟨j + 1, rfl, by omega, by go_num, unhide HWK3, by rw [run_length_succ, (unhide HXK).2]; exact unhide HRK3, unhide HBEL3⟩
        · obtain rfl : j = i := by omega
          have HWK := hide hwk
          have HRK := hide hrk
          have HBEL := hide hbel
          have hlz : (8 * (zs.length : Int) - ((run high Xf Kf j).length : Int)) = (f : Int) := by omega
          clear hwk hrk hbel
          go_wp2_with (first
            | (go_at_call 20; refine (at_ok rp w1.heap.size (run high Xf Kf j).length high zs _ (unhide HRK)).mono ?_; rintro e w' ⟨rfl, rfl⟩)
            | (go_at_call 11; refine (len_ok w.heap.size m f high v (run high Xf Kf j) _ (unhide HWK) (by omega) hf).mono ?_; rintro e w' ⟨rfl, nq, rfl⟩)
            | (go_at_call 21; refine (left_ok rp w1.heap.size (run high Xf Kf j).length high zs _ ((unhide HRK).drewN _) (by omega)).mono ?_; rintro e w' ⟨rfl, nr, rfl⟩)
            | (go_at_call 8; refine (new_any _ _).mono ?_; rintro e w' ⟨rfl, rfl⟩))
          go_ret
          have hsz := (unhide HBEL).size
          exact ⟨rfl, ((unhide HBEL).trans (below_draws _ w' (nq + nr))).alloc hsz _⟩

theorem own : ownKnob Try.prog.godebug = none := by kernel_rfl
theorem laidOut : laidOutB Try.prog = true := by kernel_rfl
theorem cells32 : Try.prog.cellsOf 32 = 4 := by kernel_rfl
theorem cells3 : Try.prog.cellsOf 3 = 1 := by kernel_rfl
theorem cells30 : Try.prog.cellsOf 30 = 1 := by kernel_rfl
theorem cells26 : Try.prog.cellsOf 26 = 1 := by kernel_rfl
theorem bytes32 : Try.prog.bytesOf 32 = 48 := by kernel_rfl

/-- An act's cells. -/
theorem act_cells {H : Type} {enc : TypeId × Value → H} {w : World} {base n : Nat} {spare : Nat → Bool} {held : Bool} {cs : List Value} {y : DataW H × List MemPlace} (h : DataW.trod enc Try.prog w base spare held n 32 cs = some y) (hl : cs.length = 4) :
    ∃ (kd : Int) (V : Nat) (N : Int) (u : Value), cs = [.int .i64 kd, .int .u64 (V : Int), .int .i64 N, u] ∧ V < 2 ^ 64 := by
  obtain ⟨y0, y1, y2, y3, m, _, _, t0, t1, t2, _⟩ := trod_struct4 Try.underlying32 h
  match cs, hl with
  | [c0, c1, c2, c3], _ =>
    simp [cells3, cells30] at t0 t1 t2
    obtain ⟨kd, e0, _, _⟩ := DataW.trod_int Try.underlying3 t0
    obtain ⟨V, e1, _, w1⟩ := DataW.trod_int Try.underlying30 t1
    obtain ⟨N, e2, _, _⟩ := DataW.trod_int Try.underlying3 t2
    simp at e0 e1 e2
    obtain ⟨V', rfl⟩ := Int.eq_ofNat_of_zero_le (bounds_u64 w1).1
    exact ⟨kd, V', N, c3, by rw [e0, e1, e2], by have := (bounds_u64 w1).2; omega⟩

set_option maxRecDepth 100000 in
theorem lifted (os : Os) (started : os.Started) (H : Type) (enc : TypeId × Value → H) :
    ReturnsInHanded {} Try.checked os 6 .any (Rows.bitsBackSpec.pre6 enc Try.prog Try.f6 Rows.bitsBackRow.domain false) (Rows.bitsBackSpec.post enc Try.prog Try.f6 false true false false) := by
  refine returnsInHanded_of_change_sized (C := Try.checked) own started (by kernel_rfl) Try.func6
    (ChangeSpec.witness6 (enc := enc) (C := Try.checked) false ⟨#[], #[.bool false, .slice none 0 0], []⟩ 8 (by kernel_rfl) (by kernel_rfl) (by kernel_rfl) (by kernel_rfl)) ?_
  intro W base args ds gs before hval0 hW hcnd hsz0 _
  have hsz : (DataW.weightsEach Try.prog (Try.f6.params.toList ++ Rows.bitsBackSpec.plain.varTypes Try.prog) (ds ++ gs)).all (· ≤ reachBytes) = true := hsz0
  have hval : ∀ (j : Nat) t v, Try.f6.params[j]? = some t → args[j]? = some v → Value.okWide Try.prog W .any base t v := hval0
  have hW' := hW
  obtain ⟨p, q, hA0, hV, rfl, hfz, hnd⟩ := hW
  have hA : DataW.TrodAll enc Try.prog W 0 (fun _ => true) true Try.f6.params.toList args.toList ds p := hA0
  rw [Try.params6] at hA hval hsz
  obtain ⟨v0, vs0, d0, ds0, p0, q0, hargs, rfl, rfl, h0, r0⟩ := trodAll_cons hA
  obtain ⟨v1, vs1, d1, ds1, p1, q1, rfl, rfl, rfl, h1, r1⟩ := trodAll_cons r0
  obtain ⟨rfl, rfl, rfl⟩ := trodAll_nil r1
  obtain rfl : args = #[v0, v1] := by cases args; simp_all
  obtain ⟨rfl, rfl⟩ := trodVars_none hV
  obtain ⟨a0, rfl, rfl, rfl⟩ := open_bool Try.underlying4 (hval 0 4 v0 rfl rfl) h0
  obtain ⟨a1, len1, cap1, rfl⟩ := okWide_slice Try.underlying22 (hval 1 22 v1 rfl rfl)
  have k1 := h1
  have lt1 : ∀ x ∈ p1, x.block < W.heap.size := by obtain ⟨m, hm⟩ := k1; exact DataW.trod_lt m _ _ _ hm
  obtain ⟨b, off, Vf, Nf, hal, hacts, hlen⟩ : ∃ b off Vf Nf, (0 < len1 → a1 = some ⟨b, off, none⟩) ∧ Acts W b off len1 Vf Nf ∧ len1 ≤ 3000000000000 := by
    obtain ⟨fuel, hf⟩ := h1
    rcases open_slice Try.underlying22 hf with ⟨hcs, _⟩ | ⟨x, l, c, m, n, D, Pl, hcs, _, hl, hm, hmm, hx, hcell⟩
    · simp [Value.cells] at hcs
      obtain ⟨rfl, rfl, rfl⟩ := hcs
      exact ⟨0, 0, fun _ => 0, fun _ => 0, by omega, ⟨by omega, by omega, by omega⟩, by omega⟩
    · simp [Value.cells] at hcs
      obtain ⟨rfl, rfl, rfl⟩ := hcs
      simp only [Prod.mk.injEq] at hx
      have hd1 := hx.1
      subst hd1
      have hz := sized_slice hsz (j := 1) (t := 22) (e := 32) rfl rfl Try.underlying22
      simp [bytes32, reachBytes] at hz
      have hmm' : len1 ≤ m := by simp at hmm; omega
      have hcells : ∀ i, i < len1 → ∃ (kd : Int) (V : Nat) (N : Int) (u : Value), (∀ k, k < 4 → W.cell? ((x.add (i * 4)).add k) = [Value.int .i64 kd, .int .u64 (V : Int), .int .i64 N, u][k]?) ∧ V < 2 ^ 64 := fun i hi => by
        obtain ⟨cs, hc1, hc2⟩ := hcell i (by omega)
        rw [cells32] at hc1
        obtain ⟨_, hcl, hc3⟩ := World.cells?_some hc1
        obtain ⟨kd, V, N, u, rfl, hV⟩ := act_cells hc2 hcl
        exact ⟨kd, V, N, u, hc3, hV⟩
      by_cases h0 : len1 = 0
      · subst h0
        exact ⟨0, 0, fun _ => 0, fun _ => 0, by omega, ⟨by omega, by omega, by omega⟩, by omega⟩
      · obtain ⟨xb, xo, xs⟩ := x
        have hspot : xs = none := by
          obtain ⟨kd, V, N, u, hk, _⟩ := hcells 0 (by omega)
          have := hk 0 (by omega)
          simp at this
          simpa [Addr.add] using World.cell?_spot this
        subst hspot
        have had : ∀ i k, ((⟨xb, xo, none⟩ : Addr).add (i * 4)).add k = ⟨xb, xo + i * 4 + k, none⟩ := fun i k => by
          by_cases hi : i * 4 = 0 <;> by_cases hk : k = 0 <;> simp [Addr.add, hi, hk] <;> omega
        obtain ⟨Vf, hVf⟩ : ∃ Vf : Nat → Nat, ∀ i, i < len1 → W.cell? ⟨xb, xo + i * 4 + 1, none⟩ = some (.int .u64 (Vf i : Int)) ∧ Vf i < 2 ^ 64 := choose_lt (p := fun i V => W.cell? ⟨xb, xo + i * 4 + 1, none⟩ = some (.int .u64 ((V : Nat) : Int)) ∧ V < 2 ^ 64) (fun i hi => by
          obtain ⟨kd, V, N, u, hk, hV⟩ := hcells i hi
          have := hk 1 (by omega)
          rw [had] at this
          exact ⟨V, this, hV⟩)
        obtain ⟨Nf, hNf⟩ : ∃ Nf : Nat → Int, ∀ i, i < len1 → W.cell? ⟨xb, xo + i * 4 + 2, none⟩ = some (.int .i64 (Nf i)) := choose_lt (p := fun i N => W.cell? ⟨xb, xo + i * 4 + 2, none⟩ = some (.int .i64 N)) (fun i hi => by
          obtain ⟨kd, V, N, u, hk, hV⟩ := hcells i hi
          have := hk 2 (by omega)
          rw [had] at this
          exact ⟨N, this⟩)
        exact ⟨xb, xo, Vf, Nf, fun _ => rfl, ⟨fun i hi => (hVf i hi).1, hNf, fun i hi => (hVf i hi).2⟩, by omega⟩
  clear hA0 hval0
  refine (walk a0 a1 b off len1 cap1 hal Vf Nf W hacts hlen).mono fun e W' ⟨he, bel⟩ => ?_
  subst he
  exact ⟨_, rfl, _, _, _, [], _, [], hW', trodAll_mk1 (shut_bool Try.underlying4 _), (trodAll_cons_mk (shut_bool Try.underlying4 _) (trodAll_cons_mk (Below.trod laidOut (by kernel_rfl) (of_decide_eq_true (by kernel_rfl)) k1 bel lt1) trodAll_mk0)), rfl, bel.frame _, fun h => by cases h⟩

theorem proved : Rows.BitsBackSaid :=
  OpenClaim.holds_of_wide 6 Try.f6 rfl rfl rfl rfl rfl rfl rfl ⟨rfl, rfl, rfl, rfl, rfl⟩ rfl rfl rfl rfl rfl (by kernel_rfl) Try.func6 (by kernel_rfl)
    (of_decide_eq_true (by kernel_rfl)) (by unfold Func.isWrapper; first | (rw [if_pos (by decide +kernel)]; kernel_rfl) | (rw [if_neg (by decide +kernel)]; exact ⟨rfl, rfl⟩))
    (fun os started H enc _ => lifted os started H enc)

end Go.Proofs.Ytcplockmnabccaa.Back
namespace Go.Proofs.Ytcplockmnabccaa
theorem bitsBack_holds : Rows.BitsBackSaid := Back.proved
end Go.Proofs.Ytcplockmnabccaa
