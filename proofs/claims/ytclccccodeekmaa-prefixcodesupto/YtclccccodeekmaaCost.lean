/- Costs: the code's and the document's. -/
import Derived.Test.YtclccccodeekmaaWord
import Derived.Test.YtclccccodeekmaaRefNew
namespace Go.Proofs.Ytclccccodeekmaa
open Go.RowKit
set_option linter.unusedVariables false

def okOft (ls : List Nat) (i : Nat) (z : Int) : Prop := 0 ≤ z ∧ (0 < z → 0 < Canon.ln ls i)

def Bears (ls : List Nat) (os : List Int) : Prop := os.length ≤ ls.length ∧ ∀ i, i < os.length → okOft ls i (os.getD i 0)

/-- the cost of the first k symbols -/
def acc (ls : List Nat) (os : List Int) : Nat → Nat
  | 0 => 0
  | k + 1 => acc ls os k + (os.getD k 0).toNat * Canon.ln ls k

theorem acc_mono (ls : List Nat) (os : List Int) {j k : Nat} (h : j ≤ k) : acc ls os j ≤ acc ls os k := by
  induction k with
  | zero => obtain rfl : j = 0 := by omega
            exact Nat.le_refl _
  | succ k ih =>
    by_cases e : j = k + 1
    · subst e; exact Nat.le_refl _
    · have := ih (by omega)
      rw [acc]
      generalize (os.getD k 0).toNat * Canon.ln ls k = x
      omega

/-- what a cost is, with its error -/
def CostIs (ls : List Nat) (os : List Int) (a e : Int) : Prop :=
  (¬ Bears ls os ∧ a = 0 ∧ e = 2) ∨ (Bears ls os ∧ 4611686018427387904 < acc ls os os.length ∧ a = 0 ∧ e = 3) ∨ (Bears ls os ∧ acc ls os os.length ≤ 4611686018427387904 ∧ a = (acc ls os os.length : Int) ∧ e = 0)

theorem CostIs.one {ls : List Nat} {os : List Int} {a e a' e' : Int} (h : CostIs ls os a e) (h' : CostIs ls os a' e') : a = a' ∧ e = e' := by
  rcases h with ⟨h1, rfl, rfl⟩ | ⟨h1, h2, rfl, rfl⟩ | ⟨h1, h2, rfl, rfl⟩ <;> rcases h' with ⟨k1, rfl, rfl⟩ | ⟨k1, k2, rfl, rfl⟩ | ⟨k1, k2, rfl, rfl⟩ <;> first | exact ⟨rfl, rfl⟩ | exact absurd k1 h1 | exact absurd h1 k1 | omega

theorem room_iff {c o l : Nat} (hc : c ≤ 4611686018427387904) (hl : 0 < l) : (4611686018427387904 - c) / l < o ↔ 4611686018427387904 < c + o * l := by
  rw [Nat.div_lt_iff_lt_mul hl]
  omega

theorem tdiv_nat {c l : Nat} (hc : c ≤ 4611686018427387904) : Int.tdiv (4611686018427387904 - (c : Int)) (l : Int) = (((4611686018427387904 - c) / l : Nat) : Int) := by
  rw [show (4611686018427387904 - (c : Int)) = ((4611686018427387904 - c : Nat) : Int) by omega]
  rfl

set_option maxRecDepth 100000 in
set_option maxHeartbeats 1000000 in
theorem bears_ok (ls : List Nat) (cp lo hi : Nat) (v : Value) (os : List Int) (w : World) (h : Code ls w cp lo hi) (hr : ReadsI w v os) :
    Calls Try.prog 35 #[.pointer (some ⟨cp, 0, none⟩), v] w fun e w' => (e = .returned (.bool true) ∧ Bears ls os ∨ e = .returned (.bool false) ∧ ¬ Bears ls os) ∧ w' = w := by
  obtain ⟨wg, g, cap, N, base, A, B, S, H, ix, ky, h⟩ := h
  obtain ⟨a, ocap, rfl, hsp⟩ := hr
  have c0 := h.c0
  have c1 := h.c1
  have HW := hide h.words
  have hsm := h.small
  have HSP := hide hsp
  clear h hsp
  obtain ⟨m, hm⟩ : ∃ m, m = os.length := ⟨_, rfl⟩
  obtain ⟨n, hn⟩ : ∃ n, n = ls.length := ⟨_, rfl⟩
  rw [← hm] at HSP ⊢
  rw [← hn] at HW c1 hsm
  have HM := hide hm
  have HN := hide hn
  clear hm hn
  by_cases hle : m ≤ n
  · have hle' : ¬ (n : Int) < (m : Int) := by omega
    go_enter Try.func35, Try.ntmps35
    go_wp2_with fail
    go_loopg [17] m (fun gk d ws => ∃ (k : Nat), gk = m - k ∧ k ≤ m ∧ (∀ j, j < k → okOft ls j (os.getD j 0)) ∧ d = .int .i64 (k : Int) ∧ ws = w)
    case atStart => exact ⟨0, by omega, by omega, fun j h => by omega, rfl, rfl⟩
    case round =>
      obtain ⟨k, rfl, hk, hgood, rfl, rfl⟩ := hrel
      by_cases hlt : k < m
      · obtain ⟨b, off, rfl, hcell⟩ := unhide HSP (by omega)
        obtain ⟨z, hz⟩ : ∃ z, z = os.getD k 0 := ⟨_, rfl⟩
        have k1 := hcell k hlt
        rw [← hz] at k1
        have k2 := (unhide HW).len k (by omega)
        obtain ⟨L, hL⟩ : ∃ L, L = Canon.ln ls k := ⟨_, rfl⟩
        rw [← hL] at k2
        have hki : (k : Int) < (m : Int) := by omega
        have hkn : (k : Int) < (n : Int) := by omega
        by_cases hok : okOft ls k z
        · have HG : Hid (∀ j, j < k + 1 → okOft ls j (os.getD j 0)) := hide fun j hj => by
            by_cases e : j = k
            · rw [e, ← hz]; exact hok
            · exact hgood j (by omega)
          obtain ⟨o1, o2⟩ := hok
          rw [← hL] at o2
          have e1 : ¬ z < 0 := by omega
          clear hcell hz hL hgood
          by_cases e2 : 0 < z
          · have e3 : ((L : Int) == 0) = false := by have := o2 e2; simp; omega
            clear o2
            go_wp2_with fail
            go_roundg (m - (k + 1))
            case measure => omega
            case rel => exact ⟨k + 1, rfl, by omega, unhide HG, by go_num, rfl⟩
          · clear o2
            go_wp2_with fail
            go_roundg (m - (k + 1))
            case measure => omega
            case rel => exact ⟨k + 1, rfl, by omega, unhide HG, by go_num, rfl⟩
        · have HNO : Hid (¬ Bears ls os) := hide fun hb => hok (by rw [hz]; exact hb.2 k (by rw [← unhide HM]; exact hlt))
          by_cases e1 : z < 0
          · clear hcell hz hL hgood hok
            go_wp2_with fail
            go_ret
            exact ⟨.inr ⟨rfl, unhide HNO⟩, rfl⟩
          · have e2 : 0 < z := by unfold okOft at hok; omega
            have e3 : ((L : Int) == 0) = true := by unfold okOft at hok; simp; omega
            clear hcell hz hL hgood hok
            go_wp2_with fail
            go_ret
            exact ⟨.inr ⟨rfl, unhide HNO⟩, rfl⟩
      · obtain rfl : k = m := by omega
        have HYES : Hid (Bears ls os) := hide ⟨by rw [← unhide HM, ← unhide HN]; exact hle, by rw [← unhide HM]; exact hgood⟩
        clear hgood
        go_wp2_with fail
        go_ret
        exact ⟨.inl ⟨rfl, unhide HYES⟩, rfl⟩
  · have hle' : (n : Int) < (m : Int) := by omega
    have HNO : Hid (¬ Bears ls os) := hide fun hb => by have := hb.1; rw [← unhide HM, ← unhide HN] at this; omega
    go_enter Try.func35, Try.ntmps35
    go_wp2_with fail
    go_ret
    exact ⟨.inr ⟨rfl, unhide HNO⟩, rfl⟩

set_option maxRecDepth 100000 in
set_option maxHeartbeats 1000000 in
theorem cost_ok (ls : List Nat) (cp lo hi : Nat) (v : Value) (os : List Int) (w : World) (h : Code ls w cp lo hi) (hr : ReadsI w v os) :
    Calls Try.prog 11 #[.pointer (some ⟨cp, 0, none⟩), v] w fun e w' => ∃ a x, e = .returned (.tuple #[.int .i64 a, .int .i64 x]) ∧ CostIs ls os a x ∧ w' = w := by
  have HC := hide h
  have HR := hide hr
  obtain ⟨wg, g, cap, N, base, A, B, S, H, ix, ky, h⟩ := h
  obtain ⟨a, ocap, rfl, hsp⟩ := hr
  have c0 := h.c0
  have c1 := h.c1
  have HW := hide h.words
  have hsm := h.small
  have HSP := hide hsp
  clear h hsp
  go_enter Try.func11, Try.ntmps11
  go_wp2_with (first | (go_at_call 34; refine (cgood_yes _ _ (by assumption)).mono ?_; rintro e w' ⟨rfl, rfl⟩) | (go_at_call 35; go_must (refine (bears_ok ls cp lo hi _ os _ (unhide HC) (unhide HR)).mono ?_; rintro e w' ⟨⟨rfl, hb⟩ | ⟨rfl, hb⟩, rfl⟩)))
  · obtain ⟨m, hm⟩ : ∃ m, m = os.length := ⟨_, rfl⟩
    obtain ⟨n, hn⟩ : ∃ n, n = ls.length := ⟨_, rfl⟩
    rw [← hm] at HSP ⊢
    rw [← hn] at HW c1 hsm
    have HM := hide hm
    have HB := hide hb
    have hmn : m ≤ n := by have := hb.1; omega
    clear hm hn hb HR HC
    go_loopg [6, 19] m (fun gk c d ws => ∃ (k : Nat), gk = m - k ∧ k ≤ m ∧ acc ls os k ≤ 4611686018427387904 ∧ c = .int .i64 (acc ls os k : Int) ∧ d = .int .i64 (k : Int) ∧ ws = w')
    case atStart => exact ⟨0, by omega, by omega, by simp [acc], rfl, rfl, rfl⟩
    case round =>
      obtain ⟨k, rfl, hk, hac, rfl, rfl, rfl⟩ := hrel
      by_cases hlt : k < m
      · obtain ⟨b, off, rfl, hcell⟩ := unhide HSP (by omega)
        have k1 := hcell k hlt
        have hz := (unhide HB).2 k (by rw [← unhide HM]; exact hlt)
        obtain ⟨z0, z1⟩ := hz
        obtain ⟨o, ho⟩ := Int.eq_ofNat_of_zero_le z0
        rw [ho] at k1 z1
        have k2 := (unhide HW).len k (by omega)
        have hs : acc ls os (k + 1) = acc ls os k + o * Canon.ln ls k := by rw [acc, ho, Int.toNat_natCast]
        obtain ⟨L, hL⟩ : ∃ L, L = Canon.ln ls k := ⟨_, rfl⟩
        obtain ⟨c, hc⟩ : ∃ c, c = acc ls os k := ⟨_, rfl⟩
        rw [← hL] at k2 hs z1
        rw [← hc] at hs hac ⊢
        have hki : (k : Int) < (m : Int) := by omega
        have hkn : (k : Int) < (n : Int) := by omega
        have HS := hide hs
        clear hcell z0 ho hL hc hs
        by_cases ho0 : o = 0
        · subst ho0
          have HS2 : Hid (acc ls os (k + 1) = c) := hide (by have := unhide HS; rw [Nat.zero_mul] at this; omega)
          clear z1
          go_wp2_with fail
          go_roundg (m - (k + 1))
          case measure => omega
          case rel => exact ⟨k + 1, rfl, by omega, by rw [unhide HS2]; exact hac, by rw [unhide HS2], by go_num, rfl⟩
        · have e0 : ((o : Int) == 0) = false := by simp; omega
          have hL0 : 0 < L := z1 (by omega)
          have hLz : ((L : Int) == 0) = false := by simp; omega
          have hLn : ¬ (L : Int) = 0 := by omega
          have hdv := tdiv_nat (c := c) (l := L) hac
          have hri := room_iff (o := o) hac hL0
          obtain ⟨d, hd⟩ : ∃ d, d = (4611686018427387904 - c) / L := ⟨_, rfl⟩
          have hdb : d ≤ 4611686018427387904 := by rw [hd]; exact Nat.le_trans (Nat.div_le_self _ _) (by omega)
          rw [← hd] at hdv hri
          clear hd z1
          by_cases hbig : d < o
          · have HBIG : Hid (4611686018427387904 < acc ls os os.length) := hide (by
              have h1 := hri.1 hbig
              have h2 := unhide HS
              have h3 := acc_mono ls os (show k + 1 ≤ os.length by rw [← unhide HM]; omega)
              rw [h2] at h3
              exact Nat.lt_of_lt_of_le h1 h3)
            have hbi : (d : Int) < (o : Int) := by omega
            clear hri
            go_wp2_with fail
            go_ret2
            exact ⟨0, 3, rfl, .inr (.inl ⟨unhide HB, unhide HBIG, rfl, rfl⟩), rfl⟩
          · have hp : c + o * L ≤ 4611686018427387904 := by
              have := mt hri.2 hbig
              omega
            obtain ⟨q, hq⟩ : ∃ q, q = o * L := ⟨_, rfl⟩
            have hmul : (o : Int) * (L : Int) = (q : Int) := by rw [hq]; simp
            rw [← hq] at hp HS
            have hbi : ¬ (d : Int) < (o : Int) := by omega
            have HP := hide hp
            have hcb : c ≤ 4611686018427387904 := by omega
            have hqb : q ≤ 4611686018427387904 := by omega
            have hcq : (c : Int) + (q : Int) ≤ 4611686018427387904 := by omega
            clear hri hq hp
            go_wp2_with fail
            go_roundg (m - (k + 1))
            case measure => omega
            case rel => exact ⟨k + 1, rfl, by omega, by rw [unhide HS]; exact unhide HP, by rw [unhide HS]; congr 1, by go_num, rfl⟩
      · obtain rfl : k = m := by omega
        have hki : ¬ (k : Int) < (k : Int) := by omega
        have HAC : Hid (acc ls os os.length ≤ 4611686018427387904) := hide (by rw [← unhide HM]; exact hac)
        obtain ⟨c, hc⟩ : ∃ c, c = acc ls os k := ⟨_, rfl⟩
        rw [← hc] at hac ⊢
        have HCC : Hid (c = acc ls os os.length) := hide (by rw [hc, unhide HM])
        clear hc
        go_wp2_with fail
        go_ret2
        exact ⟨_, 0, rfl, .inr (.inr ⟨unhide HB, unhide HAC, by rw [unhide HCC], rfl⟩), rfl⟩
  · go_ret2
    exact ⟨0, 2, rfl, .inl ⟨hb, rfl, rfl⟩, rfl⟩

end Go.Proofs.Ytclccccodeekmaa
