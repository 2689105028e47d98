/- Expand: the text that tokens make behind another one. -/
import Derived.Test.YtabnfnejlffioaaRep
namespace Go.Proofs.Ytabnfnejlffioaa
open Go.RowKit
set_option linter.unusedVariables false

attribute [local go_sem ↓] Go.wp_at_zero Go.wp_at_succ

/-- what Expand tells -/
def ExpIs (bs : List Nat) (ts : List Tok) (base : Nat) (v : Value) (x : Int) (w' : World) : Prop :=
  (Fails bs.length ts x ∧ v = .slice none 0 0) ∨ (Good bs.length ts ts.length ∧ x = 0 ∧ w'.ownsRow base 5 1 v (mades bs ts ts.length).length ((mades bs ts ts.length).map bv))

theorem made_room (w : World) (S : Nat) (hS : S ≤ 268435456) : ∃ cs : Array Value, cs.size = S ∧ (Instr.makeSlice 22 (.int .i64 0) (.int .i64 (S : Int))).run Try.prog w = .ok (.slice (some ⟨w.heap.size, 0, none⟩) 0 S) (w.alloc (.cells cs 5)) := by
  obtain ⟨i0, hi, hz0, hz1, hz2⟩ := info_parts info5
  have := run_make (P := Try.prog) w 22 5 i0 (.int .u8 0) Try.underlying22 hi hz0 .i64 .i64 0 (S : Int) (by omega) (by omega) (by rw [hz2]; omega) (by omega)
  rw [hz1] at this
  exact ⟨_, by simp [madeCells], this⟩

/-- behind k tokens -/
structure ExpAt (bs : List Nat) (ts : List Tok) (w ws : World) (v : Value) (k : Nat) : Prop where
  own : ws.ownsRow w.heap.size 5 1 v (mades bs ts k).length ((mades bs ts k).map bv)
  bel : Below w.heap.size w ws

theorem own_shape {w : World} {base n : Nat} {v : Value} {xs : List Value} (h : w.ownsRow base 5 1 v n xs) : ∃ a c, v = .slice a n c := by
  rcases h.2 with ⟨e, e'⟩ | ⟨g, cap, _, e, _⟩
  · exact ⟨none, 0, by rw [e, e']⟩
  · exact ⟨_, cap, e⟩

theorem repeat_ok (bs made : List Nat) (n d base : Nat) (vb v : Value) (w : World) (hb : ReadsU base w vb bs) (ho : w.ownsRow base 5 1 v made.length (made.map bv)) (hbase : base ≤ w.heap.size)
    (hn : 1 ≤ n) (hd : 1 ≤ d) (hdl : d ≤ bs.length + made.length) (hsz : bs.length + made.length + n ≤ 1099511627776) :
    Calls Try.prog 25 #[vb, v, .int .i64 (n : Int), .int .i64 (d : Int)] w fun e w' => ∃ v' m', e = .returned v' ∧ cp d n (bs ++ made) = bs ++ m' ∧ w'.ownsRow base 5 1 v' m'.length (m'.map bv) ∧ Below base w w' := by
  obtain ⟨a, c, rfl, h⟩ := id hb
  exact repeat_loop bs made n d base c a v w hb ho hbase hn hd hdl hsz

set_option maxRecDepth 100000 in
set_option maxHeartbeats 1000000 in
theorem expand_loop (bs : List Nat) (ts : List Tok) (vb : Value) (ab at' : Option Addr) (cb ct B : Nat) (w : World) (hvb : vb = .slice ab bs.length cb) (hb : ReadsU B w (.slice ab bs.length cb) bs) (ht : ReadsT B w (.slice at' ts.length ct) ts) (hB : B ≤ w.heap.size) (hin : InT ts) (hbl : bs.length ≤ 274877906944) (htl : ts.length ≤ 140737488355328) :
    Calls Try.prog 14 #[.slice ab bs.length cb, .slice at' ts.length ct] w fun e w' => ∃ v x, e = .returned (.tuple #[v, .int .i64 x]) ∧ ExpIs bs ts w.heap.size v x w' ∧ Below w.heap.size w w' := by
  obtain ⟨i0, hi, hz0, hz1, hz2⟩ := info_parts info5
  have HM := hide (measure_ok ts (bs.length : Int) _ B w ht hB hin htl (by omega))
  have HB := hide (hb.mono hB)
  have HT := hide (ht.mono hB)
  have HIN := hide hin
  clear hb ht hin hvb
  obtain ⟨N, hN⟩ : ∃ N, N = bs.length := ⟨_, rfl⟩
  obtain ⟨m, hm⟩ : ∃ m, m = ts.length := ⟨_, rfl⟩
  rw [← hN] at HB HM hbl ⊢
  rw [← hm] at HT HM htl ⊢
  have HN := hide hN
  have HMM := hide hm
  clear hN hm
  go_enter Try.func14, Try.ntmps14
  go_upto_region 2 with (go_at_call 24; go_must (refine (unhide HM).mono ?_; rintro e w1 ⟨sa, sx, rfl, h1, h2⟩; have H1 := hide h1; have HB1 := hide h2; clear h1 h2))
  clear HM
  rcases unhide H1 with ⟨hf, rfl⟩ | ⟨hg, rfl, rfl⟩
  · have hne : (sx != 0) = true := by have := hf.1; simpa using this
    have HF := hide hf
    clear hf H1
    go_wp2_with fail
    go_ret2
    exact ⟨_, sx, rfl, .inl ⟨by rw [← unhide HN]; exact unhide HF, rfl⟩, unhide HB1⟩
  · have HG : Hid (Good (N : Int) ts m) := hide (by rw [unhide HMM]; exact hg)
    have hSb : tsum ts ts.length ≤ 268435456 := hg.sum
    obtain ⟨S, hS⟩ : ∃ S, S = tsum ts ts.length := ⟨_, rfl⟩
    rw [← hS] at hSb ⊢
    obtain ⟨cs, hcs, hmk⟩ := made_room w1 S hSb
    have HS := hide hS
    have hb1s := (unhide HB1).size
    have HST : Hid (ExpAt bs ts w (w1.alloc (.cells cs 5)) (.slice (some ⟨w1.heap.size, 0, none⟩) 0 S) 0) := hide ⟨by rw [mades_zero]; exact World.ownsRow_made w1 cs S hb1s (by unfold maxLen; omega) (by omega), (unhide HB1).alloc hb1s _⟩
    clear hg hS H1 hcs
    go_wp2_with fail
    clear hmk
    go_loopg [8, 25] m (fun gk c d ws => ∃ (k : Nat) (v : Value), gk = m - k ∧ k ≤ m ∧ v = c ∧ d = .int .i64 (k : Int) ∧ Hid (ExpAt bs ts w ws v k))
    case atStart => exact ⟨0, _, by omega, by omega, rfl, rfl, HST⟩
    case round =>
      obtain ⟨k, v, rfl, hk, rfl, rfl, hat⟩ := hrel
      by_cases hlt : k < m
      · obtain ⟨a', cap', e, _, hs⟩ := (unhide HT).stays (unhide hat).bel
        injection e with e1 e2 e3
        subst e1 e3
        obtain ⟨b, off, rfl, hbB, hcell⟩ := hs (by rw [← unhide HMM]; omega)
        obtain ⟨k1, k2, k3⟩ := hcell k (by rw [← unhide HMM]; omega)
        have hst := (unhide HG k hlt).zero
        have hml := mades_length bs ts k
        obtain ⟨t, htt⟩ : ∃ t, t = ts.getD k tz := ⟨_, rfl⟩
        rw [← htt] at k1 k2 k3 hst
        have HTT := hide htt
        have hki : (k : Int) < (m : Int) := by omega
        clear hcell htt hs e2
        obtain ⟨hmay, hdl, hsm⟩ := hst
        obtain ⟨K, hK⟩ : ∃ K, K = tsum ts k := ⟨_, rfl⟩
        rw [← hK] at hdl hsm hml
        have HK := hide hK
        go_upto_region 8 with fail
        obtain ⟨W2, hW2⟩ : ∃ W2, W2 = wr.alloc (.cells #[.int .i64 t.n, .int .i64 t.d, .int .u8 (t.b : Int)] 37) := ⟨_, rfl⟩
        have c0 : W2.cell? ⟨wr.heap.size, 0, none⟩ = some (.int .i64 t.n) := by rw [hW2]; exact box_cell _ _ _ _ _ rfl
        have c1 : W2.cell? ⟨wr.heap.size, 1, none⟩ = some (.int .i64 t.d) := by rw [hW2]; exact box_cell _ _ _ _ _ rfl
        have c2 : W2.cell? ⟨wr.heap.size, 2, none⟩ = some (.int .u8 (t.b : Int)) := by rw [hW2]; exact box_cell _ _ _ _ _ rfl
        have HB2 : Hid (Below w.heap.size w W2) := hide (by rw [hW2]; exact (unhide hat).bel.alloc (unhide hat).bel.size _)
        have HO2 : Hid (W2.ownsRow w.heap.size 5 1 v (mades bs ts k).length ((mades bs ts k).map bv)) := hide (by rw [hW2]; exact (unhide hat).own.alloc _)
        rw [← hW2]
        obtain ⟨g, hg⟩ : ∃ g, g = wr.heap.size := ⟨_, rfl⟩
        rw [← hg] at c0 c1 c2 ⊢
        have hB2s := (unhide HB2).size
        clear hW2 hat hg k1 k2 k3 hK
        by_cases hn0 : t.n = 0
        · rw [hn0] at c0
          have HNX : Hid (∀ v' w', w'.ownsRow w.heap.size 5 1 v' ((mades bs ts k).length + 1) ((mades bs ts k).map bv ++ [bv t.b]) → Below w.heap.size w w' → ExpAt bs ts w w' v' (k + 1)) := hide fun v' w' ho hb => ⟨by rw [mades_byte (by rw [← unhide HTT]; exact hn0), ← unhide HTT, List.length_append, List.map_append]; exact ho, hb⟩
          obtain ⟨Q, hQ⟩ : ∃ Q, Q = (mades bs ts k).length := ⟨_, rfl⟩
          rw [← hQ] at HO2 HNX hml
          obtain ⟨av, cv, rfl⟩ := own_shape (unhide HO2)
          clear hQ c1
          have HNW : Hid (∀ (j : Nat) u, [bv t.b][j]? = some u → (W2.alloc (.cells #[bv t.b] 5)).cell? ((⟨W2.heap.size, 0, none⟩ : Addr).add j) = some u) := hide (news_one _ _)
          go_upto_region 11 with (at_builtin; go_must (refine wpList_append_own _ rfl (.tmp 32) (.tmp 35) 22 rfl w.heap.size 5 i0 (.int .u8 0) 1 1 Try.underlying22 hi hz0 hz1 hz2 rfl (by decide) (.slice av Q cv) Q _ (by rfl) ((unhide HO2).alloc _) ⟨W2.heap.size, 0, none⟩ 1 1 [bv t.b] (by rfl) rfl (by exact unhide HNW) (by intro u hu; simp at hu; subst hu; rfl) (by unfold maxLen; omega) (by omega) (by simp; omega) ?_; intro v2 w2 ho2 hg2 _; have HO3 := hide ho2; have HG3 := hide hg2; clear ho2 hg2))
          have HN2 := hide (unhide HNX v2 w2 (unhide HO3) (((unhide HB2).alloc hB2s _).grown (unhide HG3) (by simp; omega) (fun x e => (((unhide HO2).alloc (.cells #[bv t.b] 5)).lt x e).1)))
          clear HO3 HG3
          go_wp2_with fail
          go_roundg (m - (k + 1))
          case measure => omega
          case rel => exact ⟨k + 1, _, rfl, by omega, rfl, by go_num, HN2⟩
        · have hn1 : 1 ≤ t.n := by rcases hmay with h | h <;> omega
          have hd1 : 1 ≤ t.d := by rcases hmay with h | h <;> omega
          obtain ⟨n, hnn⟩ := Int.eq_ofNat_of_zero_le (show 0 ≤ t.n by omega)
          obtain ⟨d, hdd⟩ := Int.eq_ofNat_of_zero_le (show 0 ≤ t.d by omega)
          have hszn : t.sz = n := by unfold Tok.sz; rw [if_neg hn0, hnn, Int.toNat_natCast]
          have e0 : ((n : Int) == 0) = false := by simp; omega
          rw [hnn] at c0
          rw [hdd] at c1
          have HREP := hide (repeat_ok bs (mades bs ts k) n d w.heap.size (.slice ab N cb) v W2 ((unhide HB).stays (unhide HB2)) (unhide HO2) hB2s (by omega) (by omega) (by rw [hml, ← unhide HN]; omega) (by rw [hml, ← unhide HN]; omega))
          have HNX : Hid (∀ v' m' w', cp d n (bs ++ mades bs ts k) = bs ++ m' → w'.ownsRow w.heap.size 5 1 v' m'.length (m'.map bv) → Below w.heap.size w w' → ExpAt bs ts w w' v' (k + 1)) := hide fun v' m' w' hc ho hb => by
            have e := mades_piece (bs := bs) (ts := ts) (k := k) (m := m') (by rw [← unhide HTT]; exact hn0) (by rw [← unhide HTT, hnn, hdd, Int.toNat_natCast, Int.toNat_natCast]; exact hc)
            exact ⟨by rw [e]; exact ho, hb⟩
          clear hmay hdl hnn hdd hszn hn1 hd1
          go_wp2_with fail
          refine (unhide HREP).mono ?_
          rintro e w3 ⟨v3, m3, rfl, h1, h2, h3⟩
          have HN2 := hide (unhide HNX v3 m3 w3 h1 h2 ((unhide HB2).trans h3))
          clear h1 h2 h3
          go_wp2_with fail
          go_roundg (m - (k + 1))
          case measure => omega
          case rel => exact ⟨k + 1, _, rfl, by omega, rfl, by go_num, HN2⟩
      · obtain rfl : k = m := by omega
        go_wp2_with fail
        go_ret2
        exact ⟨_, 0, rfl, .inr ⟨by rw [← unhide HMM, ← unhide HN]; exact unhide HG, rfl, by rw [← unhide HMM]; exact (unhide hat).own⟩, (unhide hat).bel⟩

theorem expand_ok (bs : List Nat) (ts : List Tok) (vb vt : Value) (B : Nat) (w : World) (hb : ReadsU B w vb bs) (ht : ReadsT B w vt ts) (hB : B ≤ w.heap.size) (hin : InT ts) (hbl : bs.length ≤ 274877906944) (htl : ts.length ≤ 140737488355328) :
    Calls Try.prog 14 #[vb, vt] w fun e w' => ∃ v x, e = .returned (.tuple #[v, .int .i64 x]) ∧ ExpIs bs ts w.heap.size v x w' ∧ Below w.heap.size w w' := by
  obtain ⟨a, c, rfl, h⟩ := id hb
  obtain ⟨a', c', rfl, h'⟩ := id ht
  exact expand_loop bs ts _ a a' c c' B w rfl hb ht hB hin hbl htl

end Go.Proofs.Ytabnfnejlffioaa
