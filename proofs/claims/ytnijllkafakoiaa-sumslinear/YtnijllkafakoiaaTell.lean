/- The law SumsTell, walked. -/
import Derived.Test.YtnijllkafakoiaaHigh
import Derived.Test.YtnijllkafakoiaaRef
import Derived.Test.YtnijllkafakoiaaAdlTwo
namespace Go.Proofs.Ytnijllkafakoiaa
open Go.RowKit

theorem conv_bs {w : World} {v : Value} {zs : List Nat} (h : Reads w v zs) (hs : ∀ z ∈ zs, z < 256) : (convert 24 9 v).run Try.prog w = .ok (.string (bs zs)) w := conv_reads h hs

theorem bs_append (a b : List Nat) : bs a ++ bs b = bs (a ++ b) := by
  apply ByteArray.ext
  rw [ByteArray.data_append]
  simp [bs]

theorem own_block {w : World} {base n : Nat} {v : Value} {xs : List Value} (h : w.ownsRow base 5 1 v n xs) (hn : 0 < n) : ∃ g cap, v = .slice (some ⟨g, 0, none⟩) n cap ∧ n ≤ cap ∧ base ≤ g ∧ g < w.heap.size := by
  rcases h.2 with ⟨_, e'⟩ | ⟨g, cap, cur, e, hb, hh, hle, _⟩
  · omega
  · exact ⟨g, cap, e, by simpa using hle, hb, heap_lt hh⟩

theorem take_reads {w : World} {base n cap g : Nat} {zs : List Nat} {z : Nat} (h : w.ownsRow base 5 1 (.slice (some ⟨g, 0, none⟩) n cap) n ((zs ++ [z]).map bv)) : Reads w (.slice (some ⟨g, 0, none⟩) zs.length cap) zs := by
  refine ⟨_, _, rfl, fun _ => ⟨_, rfl, fun j u hj => ?_⟩⟩
  refine h.cells rfl j u ?_
  rw [List.map_append, List.getElem?_append_left (by have := (List.getElem?_eq_some_iff.1 hj).1; omega)]
  exact hj

set_option maxRecDepth 100000 in
set_option maxHeartbeats 4000000 in
theorem tell_walk (a b : Nat) (ba : Option Addr) (bcap : Nat) (zs : List Nat) (w : World) (ha : a < 4294967296) (hb : b < 18446744073709551616)
    (hr : (ba = none ∧ bcap = 0 ∧ zs = []) ∨ ∃ ad, ba = some ad ∧ ∀ (j : Nat) u, (zs.map bv)[j]? = some u → w.cell? (ad.add j) = some u) (hs : ∀ z ∈ zs, z < 256) (hl : zs.length ≤ 140737488351232) (hcap : zs.length ≤ bcap) :
    Calls Try.prog 3 #[.int .u32 (a : Int), .int .u64 (b : Int), .slice ba zs.length bcap] w fun e w' => e = .returned (.bool true) ∧ Below w.heap.size w w' := by
  obtain ⟨i0, hi, hz0, hz1, hz2⟩ := info_parts info5
  have HR := hide (reads_of hr)
  have HSRC := hide hr
  have HSM := hide hs
  have HA := hide ha
  have HB := hide hb
  have HLN : Hid (zs.length ≤ 140737488355328) := hide (by omega)
  have HCAP := hide hcap
  clear hr hs ha hb
  go_enter Try.func3, Try.ntmps3
  go_upto_region 1 with fail
  go_cut [7] (fun v7 wc => wc.ownsRow w.heap.size 5 1 v7 (zs.length + 1) ((zs ++ [90]).map bv) ∧ Below w.heap.size w wc)
  case first =>
    rcases unhide HSRC with ⟨rfl, rfl, rfl⟩ | ⟨ad, rfl, hcell⟩
    · have HN0 : Hid (∀ (j : Nat) u, [bv 90][j]? = some u → ((w.alloc (.cells #[] 5)).alloc (.cells #[bv 90] 5)).cell? ((⟨w.heap.size + 1, 0, none⟩ : Addr).add j) = some u) := hide (by have := news_one (w := w.alloc (.cells #[] 5)) (bv 90) 5; simpa using this)
      go_wp2_with (at_builtin; first | (refine wpList_append_own_none rfl (.tmp 9) (.tmp 10) 24 rfl w.heap.size 5 i0 1 Try.underlying24 hi _ 0 [] (by rfl) (World.ownsRow_made w #[] 0 (Nat.le_refl _) (by unfold maxLen; omega) rfl) (by rfl) ?_) | (refine wpList_append_own _ rfl (.tmp 11) (.tmp 12) 24 rfl w.heap.size 5 i0 (.int .u8 0) 1 1 Try.underlying24 hi hz0 hz1 hz2 rfl (by decide) _ 0 [] (by rfl) ((World.ownsRow_made w #[] 0 (Nat.le_refl _) (by unfold maxLen; omega) rfl).alloc _) ⟨w.heap.size + 1, 0, none⟩ 1 1 [bv 90] (by rfl) rfl (by exact unhide HN0) (by intro u hu; simp at hu; subst hu; rfl) (by unfold maxLen; omega) (by omega) (by simp; omega) ?_; intro v' w1 hown' hgrow _; have HO' := hide hown'; have HG := hide hgrow; clear hown' hgrow))
      go_meet
      exact ⟨by simpa using unhide HO', (((Below.refl _ _).alloc (Nat.le_refl _) _).alloc (by simp) _).grown (unhide HG) (by simp; omega) (fun k e => by simp [Value.ownBlock] at e; omega)⟩
    · have HC := hide hcell
      clear hcell
      go_wp2_with (at_builtin; first | (refine wpList_append_own _ rfl (.tmp 9) (.tmp 10) 24 rfl w.heap.size 5 i0 (.int .u8 0) 1 1 Try.underlying24 hi hz0 hz1 hz2 rfl (by decide) _ 0 [] (by rfl) (World.ownsRow_made w #[] 0 (Nat.le_refl _) (by unfold maxLen; omega) rfl) ad zs.length bcap (zs.map bv) (by rfl) (by simp) (by intro j u hj; exact cell_stays (by exact (Below.refl _ _).alloc (Nat.le_refl _) _) (unhide HC j u hj)) (by intro u hu; simp at hu; obtain ⟨z, _, rfl⟩ := hu; rfl) (by unfold maxLen; omega) (by omega) (by simp) ?_; intro v' w1 hown' hgrow _; have HO' : Hid (w1.ownsRow w.heap.size 5 1 v' zs.length (zs.map bv)) := hide (by simpa using hown'); have HB1 : Hid (Below w.heap.size w w1) := hide (((Below.refl _ _).alloc (Nat.le_refl _) _).grown hgrow (by simp) (fun k e => by simp [Value.ownBlock] at e; omega)); have hsz1 : w.heap.size ≤ w1.heap.size := (unhide HB1).size; have HN1 : Hid (∀ (j : Nat) u, [bv 90][j]? = some u → (w1.alloc (.cells #[bv 90] 5)).cell? ((⟨w1.heap.size, 0, none⟩ : Addr).add j) = some u) := hide (news_one _ _); clear hown' hgrow) | (refine wpList_append_own _ rfl (.tmp 11) (.tmp 12) 24 rfl w.heap.size 5 i0 (.int .u8 0) 1 1 Try.underlying24 hi hz0 hz1 hz2 rfl (by decide) _ zs.length (zs.map bv) (by rfl) ((unhide HO').alloc _) ⟨w1.heap.size, 0, none⟩ 1 1 [bv 90] (by rfl) rfl (by exact unhide HN1) (by intro u hu; simp at hu; subst hu; rfl) (by unfold maxLen; omega) (by omega) (by simp; omega) ?_; intro v2 w2 hown' hgrow _; have HO2 := hide hown'; have HG2 := hide hgrow; clear hown' hgrow))
      go_meet
      exact ⟨by have := unhide HO2; rw [List.map_append]; exact this, ((unhide HB1).alloc hsz1 _).grown (unhide HG2) (by simp; omega) (fun k e => ((unhide HO').lt k e).1)⟩
  case rest =>
    obtain ⟨hown, hbel⟩ := hcut
    obtain ⟨g, cap, rfl, hcap2, hg1, hg2⟩ := own_block hown (by omega)
    have HOWN := hide hown
    have HRo := hide (take_reads hown)
    have HB0 := hide hbel
    have hsz0 := hbel.size
    have hcap' : (zs.length : Int) ≤ (cap : Int) := by omega
    have HCAP2 : Hid (zs.length ≤ cap) := hide (by omega)
    have HBZ := hide (Below.refl wc.heap.size wc)
    clear hown hbel
    go_wp2_with fail
    refine (crc32_walk a _ zs _ (unhide HA) ((unhide HRo).stays (unhide HBZ)) (unhide HSM) (unhide HLN)).mono ?_
    rintro e w1 ⟨rfl, hb1⟩
    have HB1 := hide ((unhide HBZ).trans (hb1.mono (unhide HBZ).size))
    clear hb1
    go_wp2_with fail
    refine (refcrc_walk a _ zs _ (unhide HA) ((unhide HR).stays ((unhide HB0).trans ((unhide HB1).mono hsz0))) (unhide HSM) (unhide HLN)).mono ?_
    rintro e x1 ⟨rfl, hx1⟩
    subst hx1
    have hcv1 := conv_bs ((unhide HR).stays ((unhide HB0).trans ((unhide HB1).mono hsz0))) (unhide HSM)
    go_wp2_with fail
    refine (text32_walk a _ zs _ (unhide HA) rfl (unhide HSM) (unhide HLN)).mono ?_
    rintro e w2 ⟨rfl, hb2⟩
    have HB2 := hide ((unhide HB1).trans (hb2.mono (unhide HB1).size))
    clear hb2
    clear hcv1
    go_wp2_with fail
    refine (refcrc_walk a _ zs _ (unhide HA) ((unhide HR).stays ((unhide HB0).trans ((unhide HB2).mono hsz0))) (unhide HSM) (unhide HLN)).mono ?_
    rintro e x2 ⟨rfl, hx2⟩
    subst hx2
    go_wp2_with fail
    refine (high_walk a _ zs _ (unhide HA) ((unhide HRo).stays (unhide HB2)) (unhide HSM) (unhide HLN)).mono ?_
    rintro e w3 ⟨rfl, hb3⟩
    have HB3 := hide ((unhide HB2).trans (hb3.mono (unhide HB2).size))
    clear hb3
    go_wp2_with fail
    refine (refhigh_walk a _ zs _ (unhide HA) ((unhide HR).stays ((unhide HB0).trans ((unhide HB3).mono hsz0))) (unhide HSM) (unhide HLN)).mono ?_
    rintro e x3 ⟨rfl, hx3⟩
    subst hx3
    go_wp2_with fail
    refine (crc64_walk b _ zs _ (unhide HB) ((unhide HRo).stays (unhide HB3)) (unhide HSM) (unhide HLN)).mono ?_
    rintro e w4 ⟨rfl, hb4⟩
    have HB4 := hide ((unhide HB3).trans (hb4.mono (unhide HB3).size))
    clear hb4
    go_wp2_with fail
    refine (refwide_walk b _ zs _ (unhide HB) ((unhide HR).stays ((unhide HB0).trans ((unhide HB4).mono hsz0))) (unhide HSM) (unhide HLN)).mono ?_
    rintro e x4 ⟨rfl, hx4⟩
    subst hx4
    go_wp2_with fail
    refine (adler_walk a _ cap zs _ (unhide HA) ((unhide HRo).stays (unhide HB4)) (unhide HCAP2) (unhide HSM) (unhide HLN)).mono ?_
    rintro e x5 ⟨rfl, hx5⟩
    subst hx5
    go_wp2_with fail
    refine (refadler_walk a _ zs _ (unhide HA) ((unhide HR).stays ((unhide HB0).trans ((unhide HB4).mono hsz0))) (unhide HSM) (unhide HLN)).mono ?_
    rintro e x6 ⟨rfl, hx6⟩
    subst hx6
    have HBW := hide ((unhide HB0).trans ((unhide HB4).mono hsz0))
    have hci := conv_bs ((reads_row (unhide HOWN) (by simp)).stays (unhide HB4)) (zs := zs ++ [90]) (by intro z hz; rcases List.mem_append.1 hz with h | h; exact unhide HSM z h; simp at h; omega)
    have hcb := conv_bs ((unhide HR).stays (unhide HBW)) (unhide HSM)
    have hsum : bs zs ++ (⟨#[90]⟩ : ByteArray) = bs (zs ++ [90]) := bs_append zs [90]
    have hszz : (bs zs).size ≤ 140737488351232 := by rw [bs_size]; omega
    go_wp2_with fail
    go_ret
    exact ⟨rfl, unhide HBW⟩
end Go.Proofs.Ytnijllkafakoiaa
