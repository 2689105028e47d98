/- The document's Cost and Has. -/
import Derived.Test.YtclccccodeekmaaCost
namespace Go.Proofs.Ytclccccodeekmaa
open Go.RowKit
set_option linter.unusedVariables false

set_option maxHeartbeats 1000000 in
theorem has_ok (ls : List Nat) (rg : Nat) (s : Int) (w : World) (h : WordsAt w 43 rg ls.length (wdz ls) (Canon.ln ls)) :
    Calls Try.prog 15 #[.slice (some ⟨rg, 0, none⟩) ls.length ls.length, .int .i64 s] w fun e w' => (e = .returned (.bool true) ∧ HasW ls s ∨ e = .returned (.bool false) ∧ ¬ HasW ls s) ∧ w' = w := by
  obtain ⟨n, hn⟩ : ∃ n, n = ls.length := ⟨_, rfl⟩
  have HN := hide hn
  rw [← hn] at h ⊢
  clear hn
  by_cases h1 : 0 ≤ s
  · obtain ⟨s, rfl⟩ := Int.eq_ofNat_of_zero_le h1
    by_cases h2 : (s : Int) < (n : Int)
    · have k2 := h.len s (by omega)
      obtain ⟨L, hL⟩ : ∃ L, L = Canon.ln ls s := ⟨_, rfl⟩
      rw [← hL] at k2
      have HE : Hid (HasW ls (s : Int) ↔ 0 < L) := hide (by
        unfold HasW
        rw [← unhide HN, hL, Int.toNat_natCast]
        exact ⟨fun h => h.2.2, fun h => ⟨by omega, h2, h⟩⟩)
      clear h hL
      by_cases h3 : (0 : Int) < (L : Int)
      · go_enter Try.func15, Try.ntmps15
        go_wp2_with fail
        go_ret
        exact ⟨.inl ⟨by simp [show 0 < L by omega], (unhide HE).2 (by omega)⟩, rfl⟩
      · go_enter Try.func15, Try.ntmps15
        go_wp2_with fail
        go_ret
        exact ⟨.inr ⟨by simp [show ¬ 0 < L by omega], fun hh => by have := (unhide HE).1 hh; omega⟩, rfl⟩
    · have HNO : Hid (¬ HasW ls (s : Int)) := hide (fun hh => by have := hh.2.1; rw [← unhide HN] at this; omega)
      clear h
      go_enter Try.func15, Try.ntmps15
      go_wp2_with fail
      go_ret
      exact ⟨.inr ⟨rfl, unhide HNO⟩, rfl⟩
  · have HNO : Hid (¬ HasW ls s) := hide (fun hh => h1 hh.1)
    clear h
    go_enter Try.func15, Try.ntmps15
    go_wp2_with fail
    go_ret
    exact ⟨.inr ⟨rfl, unhide HNO⟩, rfl⟩

set_option maxRecDepth 100000 in
set_option maxHeartbeats 2000000 in
theorem refcost_ok (ls : List Nat) (rg : Nat) (v : Value) (os : List Int) (w : World) (h : WordsAt w 43 rg ls.length (wdz ls) (Canon.ln ls)) (hsm : ls.length ≤ 65536) (hr : ReadsI w v os) :
    Calls Try.prog 12 #[.slice (some ⟨rg, 0, none⟩) ls.length ls.length, v] w fun e w' => ∃ a x, e = .returned (.tuple #[.int .i64 a, .int .i64 x]) ∧ CostIs ls os a x ∧ ∃ q, w' = w.drewN q := by
  obtain ⟨a, ocap, rfl, hsp⟩ := hr
  have HW := hide h
  have HSP := hide hsp
  clear h hsp
  obtain ⟨m, hm⟩ : ∃ m, m = os.length := ⟨_, rfl⟩
  obtain ⟨n, hn⟩ : ∃ n, n = ls.length := ⟨_, rfl⟩
  rw [← hm] at HSP ⊢
  rw [← hn] at HW hsm ⊢
  have HM := hide hm
  have HN := hide hn
  clear hm hn
  by_cases hle : m ≤ n
  · have hle' : ¬ (n : Int) < (m : Int) := by omega
    go_enter Try.func12, Try.ntmps12
    go_wp2_with fail
    go_loopg [6] m (fun gk d ws => ∃ (k : Nat), gk = m - k ∧ k ≤ m ∧ (∀ j, j < k → okOft ls j (os.getD j 0)) ∧ d = .int .i64 (k : Int) ∧ ws = w)
    case atStart => exact ⟨0, by omega, by omega, fun j h => by omega, rfl, rfl⟩
    case round =>
      obtain ⟨k, rfl, hk, hgood, rfl, rfl⟩ := hrel
      by_cases hlt : k < m
      · obtain ⟨b, off, rfl, hcell⟩ := unhide HSP (by omega)
        obtain ⟨z, hz⟩ : ∃ z, z = os.getD k 0 := ⟨_, rfl⟩
        have k1 := hcell k hlt
        rw [← hz] at k1
        have k2 := (unhide HW).len k (by omega)
        obtain ⟨L, hL⟩ : ∃ L, L = Canon.ln ls k := ⟨_, rfl⟩
        rw [← hL] at k2
        have hki : (k : Int) < (m : Int) := by omega
        have hkn : (k : Int) < (n : Int) := by omega
        by_cases hok : okOft ls k z
        · have HG : Hid (∀ j, j < k + 1 → okOft ls j (os.getD j 0)) := hide fun j hj => by
            by_cases e : j = k
            · rw [e, ← hz]; exact hok
            · exact hgood j (by omega)
          obtain ⟨o1, o2⟩ := hok
          rw [← hL] at o2
          have e1 : ¬ z < 0 := by omega
          clear hcell hz hL hgood
          by_cases e2 : 0 < z
          · have e3 : ((L : Int) == 0) = false := by have := o2 e2; simp; omega
            clear o2
            go_wp2_with fail
            go_roundg (m - (k + 1))
            case measure => omega
            case rel => exact ⟨k + 1, rfl, by omega, unhide HG, by go_num, rfl⟩
          · clear o2
            go_wp2_with fail
            go_roundg (m - (k + 1))
            case measure => omega
            case rel => exact ⟨k + 1, rfl, by omega, unhide HG, by go_num, rfl⟩
        · have HNO : Hid (¬ Bears ls os) := hide fun hb => hok (by rw [hz]; exact hb.2 k (by rw [← unhide HM]; exact hlt))
          by_cases e1 : z < 0
          · clear hcell hz hL hgood hok
            go_wp2_with fail
            go_ret2
            exact ⟨0, 2, rfl, .inl ⟨unhide HNO, rfl, rfl⟩, 0, rfl⟩
          · have e2 : 0 < z := by unfold okOft at hok; omega
            have e3 : ((L : Int) == 0) = true := by unfold okOft at hok; simp; omega
            clear hcell hz hL hgood hok
            go_wp2_with fail
            go_ret2
            exact ⟨0, 2, rfl, .inl ⟨unhide HNO, rfl, rfl⟩, 0, rfl⟩
      · obtain rfl : k = m := by omega
        have HB : Hid (Bears ls os) := hide ⟨by rw [← unhide HM, ← unhide HN]; exact hle, by rw [← unhide HM]; exact hgood⟩
        have hki : ¬ (k : Int) < (k : Int) := by omega
        clear hgood
        go_wp2_with fail
        go_loopg [7, 8] k (fun gk c d ws => ∃ (i q : Nat), gk = k - i ∧ i ≤ k ∧ acc ls os i ≤ 4611686018427387904 ∧ c = .int .i64 (acc ls os i : Int) ∧ d = .int .i64 (i : Int) ∧ ws = wr.drewN q)
        case atStart => exact ⟨0, 0, by omega, by omega, by simp [acc], rfl, rfl, rfl⟩
        case round =>
          obtain ⟨i, q, rfl, hi, hac, rfl, rfl, rfl⟩ := hrel
          clear hki
          by_cases hlt : i < k
          · obtain ⟨b, off, rfl, hcell⟩ := unhide HSP (by omega)
            have k1 := hcell i hlt
            have hz := (unhide HB).2 i (by rw [← unhide HM]; exact hlt)
            obtain ⟨z0, z1⟩ := hz
            obtain ⟨o, ho⟩ := Int.eq_ofNat_of_zero_le z0
            rw [ho] at k1 z1
            have k2 := (unhide HW).len i (by omega)
            have hs : acc ls os (i + 1) = acc ls os i + o * Canon.ln ls i := by rw [acc, ho, Int.toNat_natCast]
            obtain ⟨L, hL⟩ : ∃ L, L = Canon.ln ls i := ⟨_, rfl⟩
            obtain ⟨c, hc⟩ : ∃ c, c = acc ls os i := ⟨_, rfl⟩
            rw [← hL] at k2 hs z1
            rw [← hc] at hs hac ⊢
            have hki : (i : Int) < (k : Int) := by omega
            have hkn : (i : Int) < (n : Int) := by omega
            have HS := hide hs
            clear hcell z0 ho hL hc hs
            by_cases hL0 : 0 < L
            · have hLz : ((L : Int) == 0) = false := by simp; omega
              have hLn : ¬ (L : Int) = 0 := by omega
              have hLp : (0 : Int) < (L : Int) := by omega
              have hdv := tdiv_nat (c := c) (l := L) hac
              have hri := room_iff (o := o) hac hL0
              obtain ⟨d, hd⟩ : ∃ d, d = (4611686018427387904 - c) / L := ⟨_, rfl⟩
              have hdb : d ≤ 4611686018427387904 := by rw [hd]; exact Nat.le_trans (Nat.div_le_self _ _) (by omega)
              rw [← hd] at hdv hri
              have hw1 : IntKind.i64.wrap (4611686018427387904 - (c : Int)) = 4611686018427387904 - (c : Int) := IntWalk.i64_in _ (by omega)
              have hw2 : IntKind.i64.wrap (d : Int) = (d : Int) := IntWalk.i64_in _ (by omega)
              clear hd z1
              by_cases hbig : d < o
              · have HBIG : Hid (4611686018427387904 < acc ls os os.length) := hide (by
                  have h1 := hri.1 hbig
                  have h2 := unhide HS
                  have h3 := acc_mono ls os (show i + 1 ≤ os.length by rw [← unhide HM]; omega)
                  rw [h2] at h3
                  exact Nat.lt_of_lt_of_le h1 h3)
                have hbi : (d : Int) < (o : Int) := by omega
                clear hri
                go_wp2_with fail
                go_quiet (fail)
                go_wp2_with fail
                go_ret2
                exact ⟨0, 3, rfl, .inr (.inl ⟨unhide HB, unhide HBIG, rfl, rfl⟩), q + nq, by first | rfl | (rw [World.drewN_drewN])⟩
              · have hp : c + o * L ≤ 4611686018427387904 := by
                  have := mt hri.2 hbig
                  omega
                obtain ⟨p, hq⟩ : ∃ p, p = o * L := ⟨_, rfl⟩
                have hmul : (o : Int) * (L : Int) = (p : Int) := by rw [hq]; simp
                rw [← hq] at hp HS
                have hbi : ¬ (d : Int) < (o : Int) := by omega
                have HP := hide hp
                have hcb : c ≤ 4611686018427387904 := by omega
                have hqb : p ≤ 4611686018427387904 := by omega
                have hcq : (c : Int) + (p : Int) ≤ 4611686018427387904 := by omega
                clear hri hq hp
                go_wp2_with fail
                go_quiet (fail)
                go_wp2_with fail
                go_roundg (k - (i + 1))
                case measure => omega
                case rel => exact ⟨i + 1, q + nq, rfl, by omega, by rw [unhide HS]; exact unhide HP, by rw [unhide HS]; congr 1, by go_num, by first | rfl | (rw [World.drewN_drewN])⟩
            · obtain rfl : L = 0 := by omega
              have HS2 : Hid (acc ls os (i + 1) = c) := hide (by have := unhide HS; rw [Nat.mul_zero] at this; omega)
              have ho0 : o = 0 := by
                by_cases e : o = 0
                · exact e
                · have := z1 (by omega); omega
              subst ho0
              clear z1
              go_wp2_with fail
              go_quiet (fail)
              go_wp2_with fail
              go_roundg (k - (i + 1))
              case measure => omega
              case rel => exact ⟨i + 1, q + nq, rfl, by omega, by rw [unhide HS2]; exact hac, by rw [unhide HS2], by go_num, by first | rfl | (rw [World.drewN_drewN])⟩
          · obtain rfl : i = k := by omega
            have hki : ¬ (i : Int) < (i : Int) := by omega
            have HAC : Hid (acc ls os os.length ≤ 4611686018427387904) := hide (by rw [← unhide HM]; exact hac)
            obtain ⟨c, hc⟩ : ∃ c, c = acc ls os i := ⟨_, rfl⟩
            rw [← hc] at hac ⊢
            have HCC : Hid (c = acc ls os os.length) := hide (by rw [hc, unhide HM])
            clear hc
            go_wp2_with fail
            go_ret2
            exact ⟨_, 0, rfl, .inr (.inr ⟨unhide HB, unhide HAC, by rw [unhide HCC], rfl⟩), q, rfl⟩
  · have hle' : (n : Int) < (m : Int) := by omega
    have HNO : Hid (¬ Bears ls os) := hide fun hb => by have := hb.1; rw [← unhide HM, ← unhide HN] at this; omega
    go_enter Try.func12, Try.ntmps12
    go_wp2_with fail
    go_ret2
    exact ⟨0, 2, rfl, .inl ⟨unhide HNO, rfl, rfl⟩, 0, rfl⟩

end Go.Proofs.Ytclccccodeekmaa
