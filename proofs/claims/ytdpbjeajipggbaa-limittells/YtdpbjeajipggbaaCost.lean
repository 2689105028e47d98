/- Numbers below 0, and costs: the code's and the document's. -/
import Derived.Test.YtdpbjeajipggbaaKit
namespace Go.Proofs.Ytdpbjeajipggbaa
open Go.RowKit
set_option linter.unusedVariables false

def NoneBelow (zs : List Int) : Prop := ∀ j, j < zs.length → 0 ≤ zs.getD j 0

set_option maxHeartbeats 1000000 in
theorem below_ok (v : Value) (zs : List Int) (w : World) (hr : ReadsI w v zs) (hlen : zs.length ≤ 140737488355328) :
    Calls Try.prog 13 #[v] w fun e w' => (e = .returned (.bool false) ∧ NoneBelow zs ∨ e = .returned (.bool true) ∧ ¬ NoneBelow zs) ∧ w' = w := by
  obtain ⟨a, cap, rfl, hsp⟩ := hr
  have HSP := hide hsp
  clear hsp
  obtain ⟨m, hm⟩ : ∃ m, m = zs.length := ⟨_, rfl⟩
  rw [← hm] at HSP hlen ⊢
  have HM := hide hm
  clear hm
  go_enter Try.func13, Try.ntmps13
  go_wp2_with fail
  go_loopg [7] m (fun gk d ws => ∃ (k : Nat), gk = m - k ∧ k ≤ m ∧ (∀ j, j < k → 0 ≤ zs.getD j 0) ∧ d = .int .i64 (k : Int) ∧ ws = w)
  case atStart => exact ⟨0, by omega, by omega, fun j h => by omega, rfl, rfl⟩
  case round =>
    obtain ⟨k, rfl, hk, hgood, rfl, rfl⟩ := hrel
    by_cases hlt : k < m
    · obtain ⟨b, off, rfl, hcell⟩ := unhide HSP (by omega)
      obtain ⟨z, hz⟩ : ∃ z, z = zs.getD k 0 := ⟨_, rfl⟩
      have k1 := hcell k hlt
      rw [← hz] at k1
      have hki : (k : Int) < (m : Int) := by omega
      by_cases hok : z < 0
      · have HNO : Hid (¬ NoneBelow zs) := hide fun hb => by have := hb k (by rw [← unhide HM]; exact hlt); omega
        clear hcell hz hgood
        go_wp2_with fail
        go_ret
        exact ⟨.inr ⟨rfl, unhide HNO⟩, rfl⟩
      · have HG : Hid (∀ j, j < k + 1 → 0 ≤ zs.getD j 0) := hide fun j hj => by
          by_cases e : j = k
          · rw [e, ← hz]; omega
          · exact hgood j (by omega)
        clear hcell hz hgood
        go_wp2_with fail
        go_roundg (m - (k + 1))
        case measure => omega
        case rel => exact ⟨k + 1, rfl, by omega, unhide HG, by go_num, rfl⟩
    · obtain rfl : k = m := by omega
      have HYES : Hid (NoneBelow zs) := hide (by unfold NoneBelow; rw [← unhide HM]; exact hgood)
      clear hgood
      go_wp2_with fail
      go_ret
      exact ⟨.inl ⟨rfl, unhide HYES⟩, rfl⟩

/-- the cost of the first k symbols -/
def acc (os ls : List Int) : Nat → Nat
  | 0 => 0
  | k + 1 => acc os ls k + (os.getD k 0).toNat * (ls.getD k 0).toNat

theorem acc_mono (os ls : List Int) {j k : Nat} (h : j ≤ k) : acc os ls j ≤ acc os ls k := by
  induction k with
  | zero => obtain rfl : j = 0 := by omega
            exact Nat.le_refl _
  | succ k ih =>
    by_cases e : j = k + 1
    · subst e; exact Nat.le_refl _
    · have := ih (by omega)
      rw [acc]
      generalize (os.getD k 0).toNat * (ls.getD k 0).toNat = x
      omega

def CArgs (os ls : List Int) : Prop := os.length = ls.length ∧ NoneBelow os ∧ NoneBelow ls

/-- what a cost is, with its error -/
def CostIs (os ls : List Int) (a e : Int) : Prop :=
  (¬ CArgs os ls ∧ a = 0 ∧ e = 2) ∨ (CArgs os ls ∧ 4611686018427387904 < acc os ls os.length ∧ a = 0 ∧ e = 3) ∨ (CArgs os ls ∧ acc os ls os.length ≤ 4611686018427387904 ∧ a = (acc os ls os.length : Int) ∧ e = 0)

theorem CostIs.one {os ls : List Int} {a e a' e' : Int} (h : CostIs os ls a e) (h' : CostIs os ls a' e') : a = a' ∧ e = e' := by
  rcases h with ⟨h1, rfl, rfl⟩ | ⟨h1, h2, rfl, rfl⟩ | ⟨h1, h2, rfl, rfl⟩ <;> rcases h' with ⟨k1, rfl, rfl⟩ | ⟨k1, k2, rfl, rfl⟩ | ⟨k1, k2, rfl, rfl⟩ <;> first | exact ⟨rfl, rfl⟩ | exact absurd k1 h1 | exact absurd h1 k1 | omega

theorem room_iff {c o l : Nat} (hc : c ≤ 4611686018427387904) (hl : 0 < l) : (4611686018427387904 - c) / l < o ↔ 4611686018427387904 < c + o * l := by
  rw [Nat.div_lt_iff_lt_mul hl]
  omega

theorem tdiv_nat {c l : Nat} (hc : c ≤ 4611686018427387904) : Int.tdiv (4611686018427387904 - (c : Int)) (l : Int) = (((4611686018427387904 - c) / l : Nat) : Int) := by
  rw [show (4611686018427387904 - (c : Int)) = ((4611686018427387904 - c : Nat) : Int) by omega]
  rfl

/-- one step of a cost -/
structure StepAt (os ls : List Int) (k c o L : Nat) : Prop where
  s : acc os ls (k + 1) = c + o * L

set_option maxRecDepth 100000 in
set_option maxHeartbeats 1000000 in
theorem cost_loop (os ls : List Int) (a b : Option Addr) (ca cb : Nat) (w : World) (hlen : os.length ≤ 140737488355328) (hlen2 : ls.length ≤ 140737488355328)
    (hs1 : 0 < os.length → ∃ b off, a = some ⟨b, off, none⟩ ∧ ∀ j, j < os.length → w.cell? ⟨b, off + j, none⟩ = some (.int .i64 (os.getD j 0)))
    (hs2 : 0 < ls.length → ∃ b' off, b = some ⟨b', off, none⟩ ∧ ∀ j, j < ls.length → w.cell? ⟨b', off + j, none⟩ = some (.int .i64 (ls.getD j 0))) :
    Calls Try.prog 11 #[.slice a os.length ca, .slice b ls.length cb] w fun e w' => ∃ a x, e = .returned (.tuple #[.int .i64 a, .int .i64 x]) ∧ CostIs os ls a x ∧ w' = w := by
  have HB1 := hide (below_ok (.slice a os.length ca) os w ⟨a, ca, rfl, hs1⟩ hlen)
  have HB2 := hide (below_ok (.slice b ls.length cb) ls w ⟨b, cb, rfl, hs2⟩ hlen2)
  have HS1 := hide hs1
  have HS2 := hide hs2
  clear hs1 hs2
  obtain ⟨n, hn⟩ : ∃ n, n = os.length := ⟨_, rfl⟩
  obtain ⟨m, hm⟩ : ∃ m, m = ls.length := ⟨_, rfl⟩
  rw [← hn] at HS1 HB1 hlen ⊢
  rw [← hm] at HS2 HB2 hlen2 ⊢
  have HN := hide hn
  have HM := hide hm
  clear hn hm
  by_cases hnm : n = m
  · subst hnm
    have e0 : ((n : Int) != (n : Int)) = false := by simp
    go_enter Try.func11, Try.ntmps11
    go_upto_region 1 with fail
    go_wp2_with fail
    refine (unhide HB1).mono ?_
    rintro e w' ⟨⟨rfl, hb1⟩ | ⟨rfl, hb1⟩, rfl⟩
    · go_wp2_with fail
      refine (unhide HB2).mono ?_
      rintro e w' ⟨⟨rfl, hb2⟩ | ⟨rfl, hb2⟩, rfl⟩
      · have HB : Hid (CArgs os ls) := hide ⟨by rw [← unhide HN, ← unhide HM], hb1, hb2⟩
        clear hb1 hb2 HB1 HB2
        go_wp2_with fail
        go_loopg [6, 25] n (fun gk c d ws => ∃ (k : Nat), gk = n - k ∧ k ≤ n ∧ acc os ls k ≤ 4611686018427387904 ∧ c = .int .i64 (acc os ls k : Int) ∧ d = .int .i64 (k : Int) ∧ ws = w')
        case atStart => exact ⟨0, by omega, by omega, by simp [acc], rfl, rfl, rfl⟩
        case round =>
          obtain ⟨k, rfl, hk, hac, rfl, rfl, rfl⟩ := hrel
          by_cases hlt : k < n
          · obtain ⟨b1, off1, rfl, hcell1⟩ := unhide HS1 (by omega)
            obtain ⟨b2, off2, rfl, hcell2⟩ := unhide HS2 (by omega)
            have k1 := hcell1 k hlt
            have k2 := hcell2 k hlt
            have z1 := (unhide HB).2.1 k (by rw [← unhide HN]; exact hlt)
            have z2 := (unhide HB).2.2 k (by rw [← unhide HM]; exact hlt)
            obtain ⟨o, ho⟩ := Int.eq_ofNat_of_zero_le z1
            obtain ⟨L, hL⟩ := Int.eq_ofNat_of_zero_le z2
            rw [ho] at k1
            rw [hL] at k2
            have hs : acc os ls (k + 1) = acc os ls k + o * L := by rw [acc, ho, hL, Int.toNat_natCast, Int.toNat_natCast]
            obtain ⟨c, hc⟩ : ∃ c, c = acc os ls k := ⟨_, rfl⟩
            rw [← hc] at hs hac ⊢
            have hki : (k : Int) < (n : Int) := by omega
            have HS := hide hs
            clear hcell1 hcell2 z1 z2 ho hL hc hs
            by_cases hL0 : L = 0
            · subst hL0
              have HSz : Hid (acc os ls (k + 1) = c) := hide (by have := unhide HS; rw [Nat.mul_zero] at this; omega)
              go_wp2_with fail
              go_roundg (n - (k + 1))
              case measure => omega
              case rel => exact ⟨k + 1, rfl, by omega, by rw [unhide HSz]; exact hac, by rw [unhide HSz], by go_num, rfl⟩
            · have hLz : ((L : Int) == 0) = false := by simp; omega
              have hLn : ¬ (L : Int) = 0 := by omega
              have hdv := tdiv_nat (c := c) (l := L) hac
              have hri := room_iff (o := o) hac (Nat.pos_of_ne_zero hL0)
              obtain ⟨d, hd⟩ : ∃ d, d = (4611686018427387904 - c) / L := ⟨_, rfl⟩
              have hdb : d ≤ 4611686018427387904 := by rw [hd]; exact Nat.le_trans (Nat.div_le_self _ _) (by omega)
              rw [← hd] at hdv hri
              clear hd hL0
              by_cases hbig : d < o
              · have HBIG : Hid (4611686018427387904 < acc os ls os.length) := hide (by
                  have h1 := hri.1 hbig
                  have h2 := unhide HS
                  have h3 := acc_mono os ls (show k + 1 ≤ os.length by rw [← unhide HN]; omega)
                  rw [h2] at h3
                  exact Nat.lt_of_lt_of_le h1 h3)
                have hbi : (d : Int) < (o : Int) := by omega
                clear hri
                go_wp2_with fail
                go_ret2
                exact ⟨0, 3, rfl, .inr (.inl ⟨unhide HB, unhide HBIG, rfl, rfl⟩), rfl⟩
              · have hp : c + o * L ≤ 4611686018427387904 := by
                  have := mt hri.2 hbig
                  omega
                obtain ⟨q, hq⟩ : ∃ q, q = o * L := ⟨_, rfl⟩
                have hmul : (o : Int) * (L : Int) = (q : Int) := by rw [hq]; simp
                rw [← hq] at hp HS
                have hbi : ¬ (d : Int) < (o : Int) := by omega
                have HP := hide hp
                have hcb : c ≤ 4611686018427387904 := by omega
                have hqb : q ≤ 4611686018427387904 := by omega
                have hcq : (c : Int) + (q : Int) ≤ 4611686018427387904 := by omega
                clear hri hq hp
                go_wp2_with fail
                go_roundg (n - (k + 1))
                case measure => omega
                case rel => exact ⟨k + 1, rfl, by omega, by rw [unhide HS]; exact unhide HP, by rw [unhide HS]; congr 1, by go_num, rfl⟩
          · obtain rfl : k = n := by omega
            have hki : ¬ (k : Int) < (k : Int) := by omega
            have HAC : Hid (acc os ls os.length ≤ 4611686018427387904) := hide (by rw [← unhide HN]; exact hac)
            obtain ⟨c, hc⟩ : ∃ c, c = acc os ls k := ⟨_, rfl⟩
            rw [← hc] at hac ⊢
            have HCC : Hid (c = acc os ls os.length) := hide (by rw [hc, unhide HN])
            clear hc
            go_wp2_with fail
            go_ret2
            exact ⟨_, 0, rfl, .inr (.inr ⟨unhide HB, unhide HAC, by rw [unhide HCC], rfl⟩), rfl⟩
      · go_wp2_with fail
        go_ret2
        exact ⟨0, 2, rfl, .inl ⟨fun h => hb2 h.2.2, rfl, rfl⟩, rfl⟩
    · go_wp2_with fail
      go_ret2
      exact ⟨0, 2, rfl, .inl ⟨fun h => hb1 h.2.1, rfl, rfl⟩, rfl⟩
  · have e0 : ((n : Int) != (m : Int)) = true := by simp; omega
    have HNO : Hid (¬ CArgs os ls) := hide fun h => hnm (by rw [unhide HN, unhide HM]; exact h.1)
    clear HB1 HB2 HS1 HS2 hnm
    go_enter Try.func11, Try.ntmps11
    go_wp2_with fail
    go_ret2
    exact ⟨0, 2, rfl, .inl ⟨unhide HNO, rfl, rfl⟩, rfl⟩

theorem cost_ok (os ls : List Int) (v u : Value) (w : World) (h1 : ReadsI w v os) (h2 : ReadsI w u ls) (hl1 : os.length ≤ 140737488355328) (hl2 : ls.length ≤ 140737488355328) :
    Calls Try.prog 11 #[v, u] w fun e w' => ∃ a x, e = .returned (.tuple #[.int .i64 a, .int .i64 x]) ∧ CostIs os ls a x ∧ w' = w := by
  obtain ⟨a, ca, rfl, hs1⟩ := h1
  obtain ⟨b, cb, rfl, hs2⟩ := h2
  exact cost_loop os ls a b ca cb w hl1 hl2 hs1 hs2

end Go.Proofs.Ytdpbjeajipggbaa
