/-
  What (*bits.Writer).fill does: the n bits of v stand behind, in the writer's order; the writer's struct and row alone are changed.
-/
import Derived.Test.YtclccccodeekmaaOwn
import Derived.Test.YtclccccodeekmaaAid
import Derived.WalkMore
import Derived.Deep.LoopGhost
import Derived.Deep.RegionHeld3
import Derived.Deep.AppendLies
import Derived.Deep.DrawnRows
import Derived.Deep.DeepMust
import Derived.StillTailTactics
namespace Go.Proofs.Ytclccccodeekmaa
open Go.RowKit Mth

attribute [local go_sem ↓] Go.wp_at_zero Go.wp_at_succ


set_option maxHeartbeats 400000 in
theorem rank_any (i n : Int) (high : Bool) (w : World) (h0 : 0 ≤ i) (h1 : i < n) (h2 : n ≤ 64) :
    Calls Try.prog 47 #[.int .i64 i, .int .i64 n, .bool high] w fun e w' => e = .returned (.int .i64 ((rk high n.toNat i.toNat : Nat) : Int)) ∧ w' = w := by
  obtain ⟨a, rfl⟩ := Int.eq_ofNat_of_zero_le h0
  obtain ⟨b, rfl⟩ := Int.eq_ofNat_of_zero_le (show 0 ≤ n by omega)
  cases high
  · go_enter Try.func47, Try.ntmps47
    go_wp2
    go_ret
    exact ⟨rfl, rfl⟩
  · go_enter Try.func47, Try.ntmps47
    go_wp2
    go_ret
    refine ⟨?_, rfl⟩
    have : ((rk true (b : Int).toNat (a : Int).toNat : Nat) : Int) = (b : Int) - 1 - a := by simp [rk]; omega
    rw [this]
    rfl

theorem info5 : (Try.prog.info? 5).map (fun i => (i.zero, i.size, i.bytes)) = some (some (.int .u8 0), 1, 1) := by kernel_rfl

set_option maxRecDepth 100000 in
set_option maxHeartbeats 1000000 in
theorem fill_any (pb m f : Nat) (high : Bool) (v0 : Value) (L : List Bool) (V N : Nat) (w : World) (hw : WOk w pb high v0 m L f) (hf : f ≤ 7) (hN : N ≤ 64) (hb : L.length + N ≤ 1000000000000000) :
    Calls Try.prog 46 #[.pointer (some ⟨pb, 0, none⟩), .int .u64 (V : Int), .int .i64 (N : Int)] w fun e w' => e = .returned (.tuple #[]) ∧ ∃ v' m' f', WOk w' pb high v' m' (L ++ bitsOf high V N) f' ∧ f' ≤ 7 ∧ Chg pb v0 w v' w' := by
  obtain ⟨i0, hi, hz0, hz1, hz2⟩ := info_parts info5
  go_enter Try.func46, Try.ntmps46
  go_wp2
  go_step3
  go_wp2
  go_step3
  go_wp2
  go_loopg [6] N (fun gk d wr => ∃ k v m f, gk = N - k ∧ k ≤ N ∧ d = .int .i64 (k : Int) ∧ WOk wr pb high v m (L ++ (bitsOf high V N).take k) f ∧ f ≤ 7 ∧ Chg pb v0 w v wr)
  case atStart => exact ⟨0, v0, m, f, by omega, by omega, rfl, by simpa using hw, hf, Chg.refl _ _ _⟩
  case round =>
    obtain ⟨k, v, m, f, rfl, hk, rfl, hok, hf7, hch⟩ := hrel
    by_cases hlt : k < N
    · have c0 := hok.c0
      have c1 := hok.c1
      have c2 := hok.c2
      have c3 := hok.c3
      have f2 := hok.fz 2
      have f3 := hok.fz 3
      by_cases h0 : f = 0
      · subst h0
        have HOK : Hid (WOk wr pb high v m (L ++ (bitsOf high V N).take k) 0) := hok
        have HCH : Hid (Chg pb v0 w v wr) := hch
        clear hok hch hw
        have hrow := hide (HOK.out.row.alloc (.cells #[.int .u8 0] 5))
        have hnews : Hid (∀ j u, [Value.int .u8 0][j]? = some u → (wr.alloc (.cells #[.int .u8 0] 5)).cell? ((⟨wr.heap.size, 0, none⟩ : Addr).add j) = some u) := by
          intro j u hj
          match j, hj with
          | 0, hj => simp at hj; subst hj; simp [Addr.add]
        have hlen := hide HOK.out.len
        have hlt' := HOK.out.lt
        have hm63 : (m : Int) ≤ 1000000000000000 := by have := HOK.out.len; simp [bitsOf_length] at this; omega
        go_wp2_with (at_builtin; go_must (refine wpList_append_lies _ rfl (.tmp 21) (.tmp 22) 45 rfl (pb + 1) 5 i0 (.int .u8 0) 1 1 Try.underlying45 hi hz0 hz1 hz2 rfl (by decide) v m _ (by rfl) (unhide hrow) ⟨wr.heap.size, 0, none⟩ 1 1 [.int .u8 0] (by rfl) rfl (unhide hnews) (by intro u hu; simp at hu; subst hu; rfl) (by omega) (by have := unhide hlen; simp [bitsOf_length] at this; unfold maxLen; omega) (by have := unhide hlen; simp [bitsOf_length] at this; omega) (by simp; omega) (wr.heap.size + 1) (by simp) ?_; intro g cap w1 hown hgrow hat hglt; obtain ⟨d1, d2, d3, e2, e3⟩ := HOK.out.grown hgrow; have HG := hide (HOK.out.grow _ hown hgrow hat); clear hown hgrow hat hglt c0 c1 c2 c3 f2 f3))
        obtain ⟨hok2, hch2⟩ := unhide HG
        have hch3 := (unhide HCH).trans hch2
        have hq63 := hok2.lastfz.2.2.2
        clear HG hch2 HOK HCH hrow hnews
        generalize hW2 : (w1.setCell ⟨pb, 2, none⟩ (.slice (some ⟨g, 0, none⟩) (m + 1) cap)).setCell ⟨pb, 3, none⟩ (.int .i64 8) = W2 at hok2 hch3
        clear hW2 d1 d2 d3 e2 e3
        have HOK := hide hok2
        have HCH := hide hch3
        clear hok2 hch3
        go_loopg [6, 39] 8 (fun gj d c ws => ∃ j, gj = 8 - j ∧ j ≤ 8 ∧ k + j < N ∧ d = .int .i64 ((k + j : Nat) : Int) ∧ c = .int .i64 (j : Int) ∧ WOk ws pb high (.slice (some ⟨g, 0, none⟩) (m + 1) cap) (m + 1) (L ++ (bitsOf high V N).take (k + j)) (8 - j) ∧ Chg pb v0 w (.slice (some ⟨g, 0, none⟩) (m + 1) cap) ws)
        case atStart => exact ⟨0, by omega, by omega, by omega, rfl, rfl, HOK.out, HCH.out⟩
        case round =>
          obtain ⟨j, rfl, hj, hkj, rfl, rfl, ok, ch⟩ := hrel
          clear HOK HCH
          by_cases hjf : j < 8
          · obtain ⟨f', hf'⟩ : ∃ f', 8 - j = f' + 1 := ⟨8 - j - 1, by omega⟩
            have hf'' := hide hf'
            have hf8 : f' ≤ 7 := by omega
            rw [hf'] at ok
            clear hf'
            have hrl := rk_lt (high := high) hkj
            have c1 := ok.c1
            have c2 := ok.c2
            have c3 := ok.c3
            have cl := ok.last
            have hoc := octet_lt high (L ++ (bitsOf high V N).take (k + j)) m
            obtain ⟨fl, hgp, hgs, hqc, hcap⟩ := ok.lastfz
            have f3 := ok.fz 3
            go_wp2_with (go_at_call 47; go_must (refine (rank_any _ _ _ _ (by omega) (by omega) (by omega)).mono ?_; rintro e w' ⟨rfl, rfl⟩))
            rw [bit_val V (rk high N (k + j)) (by omega)]
            have HF := hide (fun x hx => ok.bitAt hf8 hkj x hx)
            have HCH := hide ch
            clear ok ch
            generalize hB : octet high (L ++ (bitsOf high V N).take (k + j)) m = B at cl hoc HF
            generalize hbt : V.testBit (rk high N (k + j)) = bt at HF
            clear hB hbt
            have hwr : IntKind.i64.wrap (8 - ((f' : Int) + 1)) = ((7 - f' : Nat) : Int) := by rw [IntWalk.i64_in _ (by omega)]; omega
            have hq1 : (m : Int) < (m : Int) + 1 := by omega
            refine wp_tail 21 (by kernel_rfl) (by kernel_rfl) ?_
            simp only [List.take_succ_cons, List.take_zero, List.drop_succ_cons, List.drop_zero]
            repeat (first | still_call (rank_any _ _ _ _ (by omega) (by omega) (by omega)) | still_step)
            try refine wpStill_nil ?_
            go_wp2
            · have hne : ((k : Int) + j + 1 == N) = true := by assumption
              have hne' : N = k + j + 1 := by simp at hne; omega
              have R := unhide HF _ rfl
              rw [Exit.noGoto_normal]
              go_end0
              refine ⟨rfl, _, m + 1, f', ?_, ?_, (unhide HCH).trans R.2⟩
              · have R1 := R.1
                rw [← hne', List.take_of_length_le (by rw [bitsOf_length]; omega)] at R1
                exact R1
              · have := unhide hf''; omega
            · have hne : ((k : Int) + j + 1 == N) = false := by assumption
              have hne' : k + j + 1 ≠ N := by simp at hne; omega
              go_roundg (8 - (j + 1))
              case measure => omega
              case rel => 
                have R := unhide HF _ rfl
                exact ⟨j + 1, by have := unhide hf''; omega, by omega, by omega, by go_num, by go_num, by rw [show 8 - (j + 1) = f' by have := unhide hf''; omega]; exact R.1, (unhide HCH).trans R.2⟩
          · have hjf' : j = 8 := by omega
            subst hjf'
            go_wp2
            go_roundg (N - (k + 8))
            case measure => omega
            case rel => exact ⟨k + 8, _, m + 1, 0, rfl, by omega, by go_num, by simpa using ok, by omega, ch⟩
      · obtain ⟨q, rfl⟩ : ∃ q, m = q + 1 := ⟨m - 1, by have := hok.len; omega⟩
        obtain ⟨g, cap, rfl⟩ : ∃ g cap, v = .slice (some ⟨g, 0, none⟩) (q + 1) cap := by
          rcases hok.row.2 with ⟨_, e⟩ | ⟨g, cap, _, e, _⟩
          · omega
          · exact ⟨g, cap, e⟩
        have h0' : ((f : Int) == 0) = false := by simp; omega
        have hq63 := hok.lastfz.2.2.2
        have HOK : Hid (WOk wr pb high (.slice (some ⟨g, 0, none⟩) (q + 1) cap) (q + 1) (L ++ (bitsOf high V N).take k) f) := hok
        have HCH : Hid (Chg pb v0 w (.slice (some ⟨g, 0, none⟩) (q + 1) cap) wr) := hch
        clear hok hch hw
        go_wp2
        go_loopg [6, 39] f (fun gj d c ws => ∃ j, gj = f - j ∧ j ≤ f ∧ k + j < N ∧ d = .int .i64 ((k + j : Nat) : Int) ∧ c = .int .i64 (j : Int) ∧ WOk ws pb high (.slice (some ⟨g, 0, none⟩) (q + 1) cap) (q + 1) (L ++ (bitsOf high V N).take (k + j)) (f - j) ∧ Chg pb v0 w (.slice (some ⟨g, 0, none⟩) (q + 1) cap) ws)
        case atStart => exact ⟨0, by omega, by omega, by omega, rfl, rfl, HOK.out, HCH.out⟩
        case round =>
          obtain ⟨j, rfl, hj, hkj, rfl, rfl, ok, ch⟩ := hrel
          clear HOK HCH c0 c1 c2 c3 f2 f3
          by_cases hjf : j < f
          · obtain ⟨f', hf'⟩ : ∃ f', f - j = f' + 1 := ⟨f - j - 1, by omega⟩
            have hf'' := hide hf'
            have hf8 : f' ≤ 7 := by omega
            rw [hf'] at ok
            clear hf'
            have hrl := rk_lt (high := high) hkj
            have c1 := ok.c1
            have c2 := ok.c2
            have c3 := ok.c3
            have cl := ok.last
            have hoc := octet_lt high (L ++ (bitsOf high V N).take (k + j)) q
            obtain ⟨fl, hgp, hgs, hqc, hcap⟩ := ok.lastfz
            have f3 := ok.fz 3
            go_wp2_with (go_at_call 47; go_must (refine (rank_any _ _ _ _ (by omega) (by omega) (by omega)).mono ?_; rintro e w' ⟨rfl, rfl⟩))
            rw [bit_val V (rk high N (k + j)) (by omega)]
            have HF := hide (fun x hx => ok.bitAt hf8 hkj x hx)
            have HCH := hide ch
            clear ok ch
            generalize hB : octet high (L ++ (bitsOf high V N).take (k + j)) q = B at cl hoc HF
            generalize hbt : V.testBit (rk high N (k + j)) = bt at HF
            clear hB hbt
            have hwr : IntKind.i64.wrap (8 - ((f' : Int) + 1)) = ((7 - f' : Nat) : Int) := by rw [IntWalk.i64_in _ (by omega)]; omega
            have hq1 : (q : Int) < (q : Int) + 1 := by omega
            refine wp_tail 21 (by kernel_rfl) (by kernel_rfl) ?_
            simp only [List.take_succ_cons, List.take_zero, List.drop_succ_cons, List.drop_zero]
            repeat (first | still_call (rank_any _ _ _ _ (by omega) (by omega) (by omega)) | still_step)
            try refine wpStill_nil ?_
            go_wp2
            · have hne : ((k : Int) + j + 1 == N) = true := by assumption
              have hne' : N = k + j + 1 := by simp at hne; omega
              have R := unhide HF _ rfl
              rw [Exit.noGoto_normal]
              go_end0
              refine ⟨rfl, _, q + 1, f', ?_, ?_, (unhide HCH).trans R.2⟩
              · have R1 := R.1
                rw [← hne', List.take_of_length_le (by rw [bitsOf_length]; omega)] at R1
                exact R1
              · have := unhide hf''; omega
            · have hne : ((k : Int) + j + 1 == N) = false := by assumption
              have hne' : k + j + 1 ≠ N := by simp at hne; omega
              go_roundg (f - (j + 1))
              case measure => omega
              case rel => 
                have R := unhide HF _ rfl
                exact ⟨j + 1, by have := unhide hf''; omega, by omega, by omega, by go_num, by go_num, by rw [show f - (j + 1) = f' by have := unhide hf''; omega]; exact R.1, (unhide HCH).trans R.2⟩
          · have hjf' : j = f := by omega
            subst hjf'
            go_wp2
            go_roundg (N - (k + j))
            case measure => omega
            case rel => exact ⟨k + j, _, q + 1, 0, rfl, by omega, by go_num, by simpa using ok, by omega, ch⟩
    · go_wp2
      rw [Exit.noGoto_normal]
      go_end0
      refine ⟨rfl, v, m, f, ?_, hf7, hch⟩
      have R1 := hok
      rw [List.take_of_length_le (by rw [bitsOf_length]; omega)] at R1
      exact R1

end Go.Proofs.Ytclccccodeekmaa
