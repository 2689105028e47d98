/- The document's Cost; the names of the errors; LimitCosts. -/
import Derived.Test.YtdpbjeajipggbaaCost
namespace Go.Proofs.Ytdpbjeajipggbaa
open Go.RowKit
set_option linter.unusedVariables false

set_option maxHeartbeats 400000 in
theorem names_ok (w : World) : Calls Try.prog 10 #[] w fun e w' => e = .returned (.bool true) ∧ w' = w := by
  go_enter Try.func10, Try.ntmps10
  go_wp2
  go_ret
  exact ⟨rfl, rfl⟩

def okTwo (o l : Int) : Prop := 0 ≤ o ∧ 0 ≤ l

set_option maxRecDepth 100000 in
set_option maxHeartbeats 2000000 in
theorem refcost_loop (os ls : List Int) (a b : Option Addr) (ca cb : Nat) (w : World) (hlen : os.length ≤ 140737488355328) (hlen2 : ls.length ≤ 140737488355328)
    (hs1 : 0 < os.length → ∃ b off, a = some ⟨b, off, none⟩ ∧ ∀ j, j < os.length → w.cell? ⟨b, off + j, none⟩ = some (.int .i64 (os.getD j 0)))
    (hs2 : 0 < ls.length → ∃ b' off, b = some ⟨b', off, none⟩ ∧ ∀ j, j < ls.length → w.cell? ⟨b', off + j, none⟩ = some (.int .i64 (ls.getD j 0))) :
    Calls Try.prog 12 #[.slice a os.length ca, .slice b ls.length cb] w fun e w' => ∃ a x, e = .returned (.tuple #[.int .i64 a, .int .i64 x]) ∧ CostIs os ls a x ∧ ∃ q, w' = w.drewN q := by
  have HS1 := hide hs1
  have HS2 := hide hs2
  clear hs1 hs2
  obtain ⟨n, hn⟩ : ∃ n, n = os.length := ⟨_, rfl⟩
  obtain ⟨m, hm⟩ : ∃ m, m = ls.length := ⟨_, rfl⟩
  rw [← hn] at HS1 hlen ⊢
  rw [← hm] at HS2 hlen2 ⊢
  have HN := hide hn
  have HM := hide hm
  clear hn hm
  by_cases hnm : n = m
  · subst hnm
    have e0 : ((n : Int) != (n : Int)) = false := by simp
    go_enter Try.func12, Try.ntmps12
    go_wp2_with fail
    go_loopg [6] n (fun gk d ws => ∃ (k : Nat), gk = n - k ∧ k ≤ n ∧ (∀ j, j < k → okTwo (os.getD j 0) (ls.getD j 0)) ∧ d = .int .i64 (k : Int) ∧ ws = w)
    case atStart => exact ⟨0, by omega, by omega, fun j h => by omega, rfl, rfl⟩
    case round =>
      obtain ⟨k, rfl, hk, hgood, rfl, rfl⟩ := hrel
      by_cases hlt : k < n
      · obtain ⟨b1, off1, rfl, hcell1⟩ := unhide HS1 (by omega)
        obtain ⟨b2, off2, rfl, hcell2⟩ := unhide HS2 (by omega)
        have k1 := hcell1 k hlt
        have k2 := hcell2 k hlt
        obtain ⟨o, ho⟩ : ∃ o, o = os.getD k 0 := ⟨_, rfl⟩
        obtain ⟨L, hL⟩ : ∃ L, L = ls.getD k 0 := ⟨_, rfl⟩
        rw [← ho] at k1
        rw [← hL] at k2
        have hki : (k : Int) < (n : Int) := by omega
        by_cases e1 : o < 0
        · have HNO : Hid (¬ CArgs os ls) := hide fun h => by have := h.2.1 k (by rw [← unhide HN]; exact hlt); omega
          clear hcell1 hcell2 ho hL hgood
          go_wp2_with fail
          go_ret2
          exact ⟨0, 2, rfl, .inl ⟨unhide HNO, rfl, rfl⟩, 0, rfl⟩
        · by_cases e2 : L < 0
          · have HNO : Hid (¬ CArgs os ls) := hide fun h => by have := h.2.2 k (by rw [← unhide HM]; exact hlt); omega
            clear hcell1 hcell2 ho hL hgood
            go_wp2_with fail
            go_ret2
            exact ⟨0, 2, rfl, .inl ⟨unhide HNO, rfl, rfl⟩, 0, rfl⟩
          · have HG : Hid (∀ j, j < k + 1 → okTwo (os.getD j 0) (ls.getD j 0)) := hide fun j hj => by
              by_cases e : j = k
              · rw [e, ← ho, ← hL]; exact ⟨by omega, by omega⟩
              · exact hgood j (by omega)
            clear hcell1 hcell2 ho hL hgood
            go_wp2_with fail
            go_roundg (n - (k + 1))
            case measure => omega
            case rel => exact ⟨k + 1, rfl, by omega, unhide HG, by go_num, rfl⟩
      · obtain rfl : k = n := by omega
        have HB : Hid (CArgs os ls) := hide ⟨by rw [← unhide HN, ← unhide HM], fun j hj => (hgood j (by rw [unhide HN]; exact hj)).1, fun j hj => (hgood j (by rw [unhide HM]; exact hj)).2⟩
        have hki : ¬ (k : Int) < (k : Int) := by omega
        clear hgood
        go_wp2_with fail
        go_loopg [7, 8] k (fun gk c d ws => ∃ (i q : Nat), gk = k - i ∧ i ≤ k ∧ acc os ls i ≤ 4611686018427387904 ∧ c = .int .i64 (acc os ls i : Int) ∧ d = .int .i64 (i : Int) ∧ ws = wr.drewN q)
        case atStart => exact ⟨0, 0, by omega, by omega, by simp [acc], rfl, rfl, rfl⟩
        case round =>
          obtain ⟨i, q, rfl, hi, hac, rfl, rfl, rfl⟩ := hrel
          clear hki
          by_cases hlt : i < k
          · obtain ⟨b1, off1, rfl, hcell1⟩ := unhide HS1 (by omega)
            obtain ⟨b2, off2, rfl, hcell2⟩ := unhide HS2 (by omega)
            have k1 := hcell1 i hlt
            have k2 := hcell2 i hlt
            have z1 := (unhide HB).2.1 i (by rw [← unhide HN]; exact hlt)
            have z2 := (unhide HB).2.2 i (by rw [← unhide HM]; exact hlt)
            obtain ⟨o, ho⟩ := Int.eq_ofNat_of_zero_le z1
            obtain ⟨L, hL⟩ := Int.eq_ofNat_of_zero_le z2
            rw [ho] at k1
            rw [hL] at k2
            have hs : acc os ls (i + 1) = acc os ls i + o * L := by rw [acc, ho, hL, Int.toNat_natCast, Int.toNat_natCast]
            obtain ⟨c, hc⟩ : ∃ c, c = acc os ls i := ⟨_, rfl⟩
            rw [← hc] at hs hac ⊢
            have hki : (i : Int) < (k : Int) := by omega
            have HS := hide hs
            clear hcell1 hcell2 z1 z2 ho hL hc hs
            by_cases hL0 : 0 < L
            · have hLz : ((L : Int) == 0) = false := by simp; omega
              have hLn : ¬ (L : Int) = 0 := by omega
              have hLp : (0 : Int) < (L : Int) := by omega
              have hdv := tdiv_nat (c := c) (l := L) hac
              have hri := room_iff (o := o) hac hL0
              obtain ⟨d, hd⟩ : ∃ d, d = (4611686018427387904 - c) / L := ⟨_, rfl⟩
              have hdb : d ≤ 4611686018427387904 := by rw [hd]; exact Nat.le_trans (Nat.div_le_self _ _) (by omega)
              rw [← hd] at hdv hri
              have hw1 : IntKind.i64.wrap (4611686018427387904 - (c : Int)) = 4611686018427387904 - (c : Int) := IntWalk.i64_in _ (by omega)
              have hw2 : IntKind.i64.wrap (d : Int) = (d : Int) := IntWalk.i64_in _ (by omega)
              clear hd
              by_cases hbig : d < o
              · have HBIG : Hid (4611686018427387904 < acc os ls os.length) := hide (by
                  have h1 := hri.1 hbig
                  have h2 := unhide HS
                  have h3 := acc_mono os ls (show i + 1 ≤ os.length by rw [← unhide HN]; omega)
                  rw [h2] at h3
                  exact Nat.lt_of_lt_of_le h1 h3)
                have hbi : (d : Int) < (o : Int) := by omega
                clear hri
                go_wp2_with fail
                go_quiet (fail)
                go_wp2_with fail
                go_ret2
                exact ⟨0, 3, rfl, .inr (.inl ⟨unhide HB, unhide HBIG, rfl, rfl⟩), q + nq, by first | rfl | (rw [World.drewN_drewN])⟩
              · have hp : c + o * L ≤ 4611686018427387904 := by
                  have := mt hri.2 hbig
                  omega
                obtain ⟨p, hq⟩ : ∃ p, p = o * L := ⟨_, rfl⟩
                have hmul : (o : Int) * (L : Int) = (p : Int) := by rw [hq]; simp
                rw [← hq] at hp HS
                have hbi : ¬ (d : Int) < (o : Int) := by omega
                have HP := hide hp
                have hcb : c ≤ 4611686018427387904 := by omega
                have hqb : p ≤ 4611686018427387904 := by omega
                have hcq : (c : Int) + (p : Int) ≤ 4611686018427387904 := by omega
                clear hri hq hp
                go_wp2_with fail
                go_quiet (fail)
                go_wp2_with fail
                go_quiet (fail)
                go_wp2_with fail
                go_roundg (k - (i + 1))
                case measure => omega
                case rel => exact ⟨i + 1, _, rfl, by omega, by rw [unhide HS]; exact unhide HP, by rw [unhide HS]; congr 1, by go_num, rfl⟩
            · obtain rfl : L = 0 := by omega
              have HS2 : Hid (acc os ls (i + 1) = c) := hide (by have := unhide HS; rw [Nat.mul_zero] at this; omega)
              have hm0 : (o : Int) * 0 = 0 := by omega
              go_wp2_with fail
              go_quiet (fail)
              go_wp2_with fail
              go_quiet (fail)
              go_wp2_with fail
              go_roundg (k - (i + 1))
              case measure => omega
              case rel => exact ⟨i + 1, _, rfl, by omega, by rw [unhide HS2]; exact hac, by rw [unhide HS2], by go_num, rfl⟩
          · obtain rfl : i = k := by omega
            have hki : ¬ (i : Int) < (i : Int) := by omega
            have HAC : Hid (acc os ls os.length ≤ 4611686018427387904) := hide (by rw [← unhide HN]; exact hac)
            obtain ⟨c, hc⟩ : ∃ c, c = acc os ls i := ⟨_, rfl⟩
            rw [← hc] at hac ⊢
            have HCC : Hid (c = acc os ls os.length) := hide (by rw [hc, unhide HN])
            clear hc
            go_wp2_with fail
            go_ret2
            exact ⟨_, 0, rfl, .inr (.inr ⟨unhide HB, unhide HAC, by rw [unhide HCC], rfl⟩), q, rfl⟩
  · have e0 : ((n : Int) != (m : Int)) = true := by simp; omega
    have HNO : Hid (¬ CArgs os ls) := hide fun h => hnm (by rw [unhide HN, unhide HM]; exact h.1)
    clear HS1 HS2 hnm
    go_enter Try.func12, Try.ntmps12
    go_wp2_with fail
    go_ret2
    exact ⟨0, 2, rfl, .inl ⟨unhide HNO, rfl, rfl⟩, 0, rfl⟩

theorem refcost_ok (os ls : List Int) (v u : Value) (w : World) (h1 : ReadsI w v os) (h2 : ReadsI w u ls) (hl1 : os.length ≤ 140737488355328) (hl2 : ls.length ≤ 140737488355328) :
    Calls Try.prog 12 #[v, u] w fun e w' => ∃ a x, e = .returned (.tuple #[.int .i64 a, .int .i64 x]) ∧ CostIs os ls a x ∧ ∃ q, w' = w.drewN q := by
  obtain ⟨a, ca, rfl, hs1⟩ := h1
  obtain ⟨b, cb, rfl, hs2⟩ := h2
  exact refcost_loop os ls a b ca cb w hl1 hl2 hs1 hs2

end Go.Proofs.Ytdpbjeajipggbaa
