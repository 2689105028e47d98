/- The law SuffixReturns, walked. -/
import Derived.Test.YtpemgjcgcmleiaaRn
namespace Go.Proofs.Ytpemgjcgcmleiaa
open Go.RowKit Suf
set_option maxRecDepth 100000
set_option linter.unusedVariables false

set_option maxHeartbeats 8000000 in
theorem returns_law (ba : Option Addr) (bcap : Nat) (zs : List Nat) (w : World)
    (hr : (ba = none ∧ bcap = 0 ∧ zs = []) ∨ ∃ ad, ba = some ad ∧ ∀ (j : Nat) u, (zs.map bv)[j]? = some u → w.cell? (ad.add j) = some u) (hs : ∀ z ∈ zs, z < 256) (hl : zs.length ≤ 140737488351232) (hcap : zs.length ≤ bcap) :
    Calls Try.prog 5 #[.slice ba zs.length bcap] w fun e w' => e = .returned (.bool true) ∧ Below w.heap.size w w' := by
  have HR := hide (reads_of hr)
  have HSM := hide hs
  obtain ⟨n, hN⟩ : ∃ n, n = zs.length := ⟨_, rfl⟩
  have HT1 := hide (turn_told zs ba bcap w (reads_of hr).bytes hs)
  have HNN := hide hN
  rw [← hN] at hl hcap HT1 ⊢
  clear hr hs hN
  go_enter Try.func5, Try.ntmps5
  go_wp2_with fail
  refine (unhide HT1).mono ?_
  clear HT1
  rintro e w1 ⟨x, c, r, er, rfl, hti, hrow, hbl⟩
  by_cases hbig : 1048576 < n
  · have hd : 1048576 < (n : Int) := by omega
    have hd2 : decide (1048576 < (n : Int)) = true := by simp; omega
    obtain ⟨rfl, rfl, rfl⟩ : c = [] ∧ r = 0 ∧ er = 3 := by
      rcases hti with ⟨_, h⟩ | ⟨h, _⟩
      · exact h
      · rw [← unhide HNN] at h; omega
    obtain ⟨xa, xc, rfl, _⟩ := hrow
    have HBL := hide hbl
    clear hti hbl
    go_wp2_with fail
    go_ret
    exact ⟨rfl, unhide HBL⟩
  · have hd : ¬ 1048576 < (n : Int) := by omega
    have hd2 : decide (1048576 < (n : Int)) = false := by simp; omega
    obtain ⟨rfl, l, hlr, rfl, rfl⟩ : er = 0 ∧ ∃ l, IsRows zs l ∧ c = col zs l ∧ r = rowTo l zs.length := by
      rcases hti with ⟨h, _⟩ | ⟨_, h⟩
      · rw [← unhide HNN] at h; omega
      · exact h
    have hcl : (col zs l).length = n := by rw [col_len hlr, unhide HNN]
    obtain ⟨xa, xc, rfl, hxr⟩ := hrow
    have HXR : Hid (Row w.heap.size w1.heap.size w1 (.slice xa (col zs l).length xc) .u8 5 (col zs l)) := hide ⟨xa, xc, rfl, hxr⟩
    have HB1 := hide hbl
    have HPM := hide (col_perm hlr)
    have HCS := hide (col_small (unhide HSM) hlr)
    have HBK := back_told (col zs l) xa xc ((rowTo l zs.length : Nat) : Int) w1 (unhide HXR).reads.bytes (unhide HCS)
    rw [back_out (unhide HSM) (by rw [← unhide HNN]; omega) hlr, hcl] at HBK
    have HBK := hide HBK
    have HCL := hide hcl
    rw [hcl]
    obtain ⟨c, hc⟩ : ∃ c, c = col zs l := ⟨_, rfl⟩
    rw [← hc] at HXR HPM HCS HCL
    generalize rowTo l zs.length = r at *
    clear hti hbl hxr hcl hlr hc
    go_wp2_with fail
    refine (unhide HBK).mono ?_
    clear HBK
    rintro e w2 ⟨y, rfl, hyr, hbl2⟩
    have HB2 := hide ((unhide HB1).trans (hbl2.mono (unhide HB1).size))
    have HXR2 := hide ((unhide HXR).of_below hbl2)
    have HYR := hide hyr
    have hx2 : w1.heap.size ≤ w2.heap.size := hbl2.size
    have hx1 := (unhide HB1).size
    obtain ⟨g, hg⟩ : ∃ g, g = w2.heap.size := ⟨_, rfl⟩
    have HZ0 : Hid (ZAt (w2.alloc (.cells Try.zeroCells42 42)) g (diff zs c 0)) := hide (by
      rw [zzero, hg]
      exact ZAt.congr (C := fun _ => 0) (heap_alloc_new _ _) (fun i _ => by simp [diff]))
    have HW0 : Hid (Below w2.heap.size w2 (w2.alloc (.cells Try.zeroCells42 42))) := hide ((Below.refl _ _).alloc (Nat.le_refl _) _)
    clear hyr hbl2 HXR HB1
    go_wp2_with fail
    rw [← hg]
    rw [← hg] at hx2
    rw [← hg] at HW0
    have HGG := hide hg
    clear hg
    go_loopg [9] n (fun gk d ws => ∃ i : Nat, gk = n - i ∧ i ≤ n ∧ d = .int .i64 (i : Int) ∧ Hid (ZAt ws g (diff zs c i)) ∧ Hid (Below g w2 ws))
    case atStart => exact ⟨0, by omega, by omega, rfl, HZ0, HW0⟩
    case round =>
      clear HZ0 HW0
      obtain ⟨i, rfl, hin, rfl, HZ0, HW0⟩ := hrel
      rename World => wi
      have HWB : Hid (Below w2.heap.size w2 wi) := hide (by have := unhide HW0; rw [unhide HGG] at this; exact this)
      by_cases hil : i < n
      · have ti : (i : Int) < (n : Int) := by omega
        have hib : i < zs.length := by rw [← unhide HNN]; exact hil
        have hic : i < c.length := by rw [unhide HCL]; exact hil
        obtain ⟨gB, oB, rfl, e1⟩ := (((unhide HR).stays (unhide HB2)).stays (unhide HWB)).bytes i hib
        obtain ⟨gX, oX, rfl, e2⟩ := ((unhide HXR2).reads.stays (unhide HWB)).bytes i hic
        have hBg : gB < g := by
          obtain ⟨gB', oB', e3, e4⟩ := ((unhide HR).stays (unhide HB2)).bytes i hib
          injection e3 with e3
          injection e3 with e3
          subst e3
          rw [unhide HGG]; exact cell_lt e4
        have hXg : gX < g := by
          obtain ⟨gX', oX', e3, e4⟩ := (unhide HXR2).reads.bytes i hic
          injection e3 with e3
          injection e3 with e3
          subst e3
          rw [unhide HGG]; exact cell_lt e4
        have hu := unhide HSM _ (getD_mem hib)
        have hv := unhide HCS _ (getD_mem hic)
        have HST := hide fun q => diff_step zs c i q hib hic
        have HBD := hide fun q => diff_bound (b := zs) (c := c) (by rw [← unhide HNN]; omega) (by rw [unhide HCL]; omega) i q
        generalize zs.getD i 0 = u at *
        generalize c.getD i 0 = v at *
        have z1 := (unhide HZ0).cell u hu
        have z2 := (unhide HZ0).free u
        have HZ1 : Hid (ZAt (wi.setCell ⟨g, u, none⟩ (.int .i64 (diff zs c i u + 1))) g (fun j => if j = u then diff zs c i u + 1 else diff zs c i j)) := hide ((unhide HZ0).set u _)
        have z3 := (unhide HZ1).cell v hv
        have z4 := (unhide HZ1).free v
        have e5 : (wi.setCell ⟨g, u, none⟩ (.int .i64 (diff zs c i u + 1))).cell? ⟨gX, oX + i, none⟩ = some (.int .u8 ((v : Nat) : Int)) := by
          rw [World.cell?_of_block (heap_setCell_other _ _ _ _ (by show gX ≠ g; omega))]
          exact e2
        have hb1 := unhide HBD u
        obtain ⟨p, hp⟩ : ∃ p, p = diff zs c i u := ⟨_, rfl⟩
        obtain ⟨q, hq⟩ : ∃ q, q = (if v = u then diff zs c i u + 1 else diff zs c i v) := ⟨_, rfl⟩
        have hb2 : -1048577 ≤ q ∧ q ≤ 1048577 := by rw [hq]; have := unhide HBD v; split <;> omega
        rw [← hq] at z3
        rw [← hp] at z1 z3 z4 e5 hb1 HZ1
        have HZ2 := hide ((unhide HZ1).set v (q - 1))
        have HQ := hide hq
        have HP := hide hp
        have hui : (u : Int) < 256 := by omega
        have f7 : IntKind.i64.wrap (p + 1) = p + 1 := by rw [IntKind.wrap_i64]; omega
        have f8 : IntKind.i64.wrap (q - 1) = q - 1 := by rw [IntKind.wrap_i64]; omega
        have hvi : (v : Int) < 256 := by omega
        clear hp hq e2
        go_wp2_with fail
        go_roundg (n - (i + 1))
        case measure => omega
        case rel =>
          refine ⟨i + 1, rfl, by omega, by go_num, hide ((unhide HZ2).congr fun j _ => ?_), hide (((unhide HW0).setCell (Nat.le_refl _) _).setCell (Nat.le_refl _) _)⟩
          rw [unhide HST j, unhide HQ]
          by_cases e1 : j = v
          · subst e1
            rw [if_pos rfl, if_pos rfl]
            by_cases e2 : j = u
            · subst e2; rw [if_pos rfl, if_pos rfl]
            · rw [if_neg e2, if_neg e2]; omega
          · rw [if_neg e1, if_neg e1]
            by_cases e2 : j = u
            · subst e2; rw [if_pos rfl, if_pos rfl, unhide HP]; omega
            · rw [if_neg e2, if_neg e2]; omega
      · obtain rfl : i = n := by omega
        have ti : ¬ (i : Int) < (i : Int) := by omega
        have HZ9 : Hid (ZAt wi g fun _ => 0) := hide ((unhide HZ0).congr fun j _ => by rw [unhide HNN, diff_end (unhide HPM)])
        have HBI := hide (banana_in wi)
        have hcv := conv_banana wi
        clear HZ0
        have HBA : Hid (Below w2.heap.size w2 (wi.alloc (.cells #[.int .u8 98, .int .u8 97, .int .u8 110, .int .u8 97, .int .u8 110, .int .u8 97] 5 (6, 7)))) := hide ((unhide HWB).alloc (unhide HWB).size _)
        go_wp2_with fail
        refine (turn_told banana (some ⟨wi.heap.size, 0, none⟩) 6 _ (unhide HBI) banana_small).mono ?_
        rintro e w3 ⟨z, cz, rz, ez, rfl, hti3, hrow3, hbl3⟩
        obtain ⟨rfl, rfl⟩ := banana_turn hti3
        have HB3 : Hid (Below w2.heap.size w2 w3) := hide ((unhide HBA).trans (hbl3.mono (unhide HBA).size))
        have hcz := conv_reads hrow3.reads (by decide)
        have hcy := conv_reads ((unhide HYR).reads.stays (unhide HB3)) (unhide HSM)
        have hcb := conv_reads (((unhide HR).stays (unhide HB2)).stays (unhide HB3)) (unhide HSM)
        have hz3 : ZAt w3 g fun _ => 0 := by
          have h1 := unhide HZ9
          unfold ZAt at h1 ⊢
          rw [hbl3.block g (by simp; have := heap_lt h1; omega), Below.heap_alloc _ _ _ (heap_lt h1)]
          exact h1
        have hrg := zrange hz3
        have hln : (Try.prog.info? 42).map (·.size) = some Try.zeroCells42.toList.length := by kernel_rfl
        have heq : Sem.run Try.prog (Op.equalIn 10000 42 (.agg Try.zeroCells42) (.agg Try.zeroCells42)) w3 = .ok true w3 := eq42 w3
        have HBW := hide ((unhide HB2).trans ((unhide HB3).mono (unhide HB2).size))
        rw [show bs [110, 110, 98, 97, 97, 97] = ⟨#[110, 110, 98, 97, 97, 97]⟩ from rfl] at hcz
        rw [← unhide HNN] at hcb
        clear hti3 hrow3 hbl3 hz3 hcv
        go_wp2_with fail
        refine wp_load_mid 42 _ rfl g 0 rfl Try.zeroCells42.toList (.array 256 3) hrg Try.underlying42 rfl hln ?_
        go_simp
        go_wp2_with fail
        go_ret
        exact ⟨rfl, unhide HBW⟩
end Go.Proofs.Ytpemgjcgcmleiaa
