/- whoCome and sumFits. -/
import Derived.Test.YtdpbjeajipggbaaCome
import Derived.Test.YtdpbjeajipggbaaCost
namespace Go.Proofs.Ytdpbjeajipggbaa
open Go.RowKit Go.Sort Go.Lib
set_option linter.unusedVariables false

attribute [local go_sem ↓] Go.wp_at_zero Go.wp_at_succ

/-- the sum of the first k -/
def tot (os : List Int) : Nat → Nat
  | 0 => 0
  | k + 1 => tot os k + wt os k

theorem tot_mono (os : List Int) {j k : Nat} (h : j ≤ k) : tot os j ≤ tot os k := by
  induction k with
  | zero => obtain rfl : j = 0 := by omega
            exact Nat.le_refl _
  | succ k ih =>
    by_cases e : j = k + 1
    · subst e; exact Nat.le_refl _
    · have := ih (by omega)
      rw [tot]
      omega

set_option maxHeartbeats 1000000 in
theorem fits_ok (v : Value) (zs : List Int) (w : World) (hr : ReadsI w v zs) (hlen : zs.length ≤ 65536) (hnb : NoneBelow zs) :
    Calls Try.prog 14 #[v] w fun e w' => (e = .returned (.bool true) ∧ tot zs zs.length ≤ 1099511627776 ∨ e = .returned (.bool false) ∧ 1099511627776 < tot zs zs.length) ∧ w' = w := by
  obtain ⟨a, cap, rfl, hsp⟩ := hr
  have HSP := hide hsp
  have HNB := hide hnb
  clear hsp hnb
  obtain ⟨m, hm⟩ : ∃ m, m = zs.length := ⟨_, rfl⟩
  rw [← hm] at HSP hlen ⊢
  have HM := hide hm
  clear hm
  go_enter Try.func14, Try.ntmps14
  go_wp2_with fail
  go_loopg [3, 8] m (fun gk c d ws => ∃ (k : Nat), gk = m - k ∧ k ≤ m ∧ tot zs k ≤ 1099511627776 ∧ c = .int .i64 (1099511627776 - (tot zs k : Int)) ∧ d = .int .i64 (k : Int) ∧ ws = w)
  case atStart => exact ⟨0, by omega, by omega, by simp [tot], by simp [tot], rfl, rfl⟩
  case round =>
    obtain ⟨k, rfl, hk, hgood, rfl, rfl, rfl⟩ := hrel
    by_cases hlt : k < m
    · obtain ⟨b, off, rfl, hcell⟩ := unhide HSP (by omega)
      have k1 := hcell k hlt
      have hz := unhide HNB k (by rw [← unhide HM]; exact hlt)
      obtain ⟨z, hzz⟩ := Int.eq_ofNat_of_zero_le hz
      have hw : wt zs k = z := by unfold wt; rw [hzz, Int.toNat_natCast]
      rw [hzz] at k1
      have hs : tot zs (k + 1) = tot zs k + z := by rw [tot, hw]
      have HB : Hid (1099511627776 < tot zs k + z → 1099511627776 < tot zs m) := hide fun h => by
        have := tot_mono zs (show k + 1 ≤ m by omega)
        omega
      obtain ⟨t, ht⟩ : ∃ t, t = tot zs k := ⟨_, rfl⟩
      rw [← ht] at hs hgood HB ⊢
      have HS := hide hs
      have hki : (k : Int) < (m : Int) := by omega
      clear hcell hz hzz hw hs ht
      by_cases hbig : 1099511627776 - (t : Int) < (z : Int)
      · go_wp2_with fail
        go_ret
        exact ⟨.inr ⟨rfl, unhide HB (by omega)⟩, rfl⟩
      · go_wp2_with fail
        go_roundg (m - (k + 1))
        case measure => omega
        case rel => exact ⟨k + 1, rfl, by omega, by rw [unhide HS]; omega, by rw [unhide HS]; go_num, by go_num, rfl⟩
    · obtain rfl : k = m := by omega
      have HYES : Hid (tot zs k ≤ 1099511627776) := hide hgood
      obtain ⟨t, ht⟩ : ∃ t, t = tot zs k := ⟨_, rfl⟩
      rw [← ht]
      clear hgood ht
      go_wp2_with fail
      go_ret
      exact ⟨.inl ⟨rfl, unhide HYES⟩, rfl⟩

structure WhoAt (os : List Int) (w ws : World) (v : Value) (k : Nat) : Prop where
  own : ws.ownsRow w.heap.size 41 2 v (raw os k).length (crow os (raw os k))
  bel : Below w.heap.size w ws

theorem WhoAt.app {os : List Int} {w ws w1 : World} {v v' : Value} {k : Nat} (h : WhoAt os w ws v k) (hp : 0 < wt os k) (o : Obj) (hown : w1.ownsRow w.heap.size 41 2 v' ((raw os k).length + 1) (crow os (raw os k) ++ [iv (k : Nat), iv (wt os k : Nat)])) (hg : (ws.alloc o).grownBy w1 v.ownBlock) : WhoAt os w w1 v' (k + 1) := by
  refine ⟨?_, h.bel.trans ⟨hg.os, hg.tape, hg.output, by have := hg.size; simp at this; omega, fun x hx => ?_⟩⟩
  · rw [raw_succ, if_pos hp, crow_snoc, List.length_append]
    exact hown
  · have hs := h.bel.size
    rw [hg.block x (by simp; omega) (fun e => by have := (h.own.lt x e.symm).1; omega), Below.heap_alloc _ _ _ (by omega)]

theorem news_pair (a b : Int) (ws : World) : ∀ j u, [iv a, iv b][j]? = some u → (ws.alloc (.cells #[.int .i64 a, .int .i64 b] 41)).cell? ((⟨ws.heap.size, 0, none⟩ : Addr).add j) = some u := by
  intro j u hj
  have hadd : (⟨ws.heap.size, 0, none⟩ : Addr).add j = ⟨ws.heap.size, j, none⟩ := by unfold Addr.add; split <;> simp_all
  rw [hadd]
  simp only [World.cell?, heap_alloc_new]
  rcases j with _ | _ | j
  · simp [iv] at hj; subst hj; rfl
  · simp [iv] at hj; subst hj; rfl
  · simp at hj

set_option maxRecDepth 100000 in
set_option maxHeartbeats 2000000 in
theorem who_ok (v : Value) (os : List Int) (w : World) (hr : ReadsI w v os) (hlen : os.length ≤ 65536) (hnb : NoneBelow os) :
    Calls Try.prog 15 #[v] w fun e w' => ∃ v' l, e = .returned v' ∧ IsOrder os l ∧ l.length ≤ os.length ∧ ComesAt w' v' os l ∧ Below w.heap.size w w' := by
  obtain ⟨a, cap, rfl, hsp⟩ := hr
  obtain ⟨i0, hii, hz0, hz1, hz2⟩ := info_parts info41
  have HSP := hide hsp
  have HNB := hide hnb
  clear hsp hnb
  obtain ⟨m, hm⟩ : ∃ m, m = os.length := ⟨_, rfl⟩
  rw [← hm] at HSP hlen ⊢
  have HM := hide hm
  clear hm
  go_enter Try.func15, Try.ntmps15
  go_wp2_with fail
  go_loopg [3, 8] m (fun gk c d ws => ∃ (k : Nat) (c0 : Value), gk = m - k ∧ k ≤ m ∧ c0 = c ∧ WhoAt os w ws c0 k ∧ d = .int .i64 (k : Int))
  case atStart => exact ⟨0, _, by omega, by omega, rfl, ⟨⟨by simp [raw, crow], .inl ⟨rfl, by simp [raw]⟩⟩, Below.refl _ _⟩, rfl⟩
  case round =>
    obtain ⟨k, c0, rfl, hk, rfl, hat, rfl⟩ := hrel
    by_cases hlt : k < m
    · obtain ⟨b, off, rfl, hcell⟩ := unhide HSP (by omega)
      have k1 := cell_stays hat.bel (hcell k hlt)
      have hz := unhide HNB k (by rw [← unhide HM]; exact hlt)
      obtain ⟨z, hzz⟩ := Int.eq_ofNat_of_zero_le hz
      have hw : wt os k = z := by unfold wt; rw [hzz, Int.toNat_natCast]
      rw [hzz] at k1
      have hki : (k : Int) < (m : Int) := by omega
      have HAT := hide hat
      have HW := hide hw
      have hrl : (raw os k).length ≤ k := raw_len os k
      obtain ⟨q, hq⟩ : ∃ q, q = (raw os k).length := ⟨_, rfl⟩
      rw [← hq] at hrl
      have HQ := hide hq
      clear hcell hz hzz hw hat hq
      by_cases h0 : z = 0
      · subst h0
        have HA2 : Hid (WhoAt os w wr c0 (k + 1)) := hide (by
          have := unhide HAT
          have e : raw os (k + 1) = raw os k := by rw [raw_succ, if_neg (by rw [unhide HW]; omega)]
          exact ⟨by rw [e]; exact this.own, this.bel⟩)
        go_wp2_with fail
        go_roundg (m - (k + 1))
        case measure => omega
        case rel => exact ⟨k + 1, _, rfl, by omega, rfl, unhide HA2, by go_num⟩
      · have h0' : (0 : Int) < (z : Int) := by omega
        have HOWN : Hid ((wr.alloc (.cells #[.int .i64 (k : Int), .int .i64 (z : Int)] 41)).ownsRow w.heap.size 41 2 c0 q (crow os (raw os k))) := hide (by
          have := (unhide HAT).own
          rw [← unhide HQ] at this
          exact this.alloc _)
        go_wp2_with (at_builtin; go_must (refine wpList_append_own _ rfl (.tmp 15) (.tmp 19) 38 rfl w.heap.size 41 i0 _ 2 16 Try.underlying38 hii hz0 hz1 hz2 rfl (by decide) _ q (crow os (raw os k)) (by rfl) (unhide HOWN) ⟨wr.heap.size, 0, none⟩ 1 1 [iv (k : Int), iv (z : Int)] (by rfl) (by rfl) (news_pair (k : Int) (z : Int) wr) (by intro u hu; simp at hu; rcases hu with rfl | rfl <;> rfl) (by unfold maxLen; omega) (by omega) (by have := (unhide HAT).bel.size; simp; omega) ?_; intro v' w1 hown hgrow hiff; have HX : Hid (WhoAt os w w1 v' (k + 1)) := hide ((unhide HAT).app (by rw [unhide HW]; omega) _ (by rw [← unhide HQ, unhide HW]; exact hown) hgrow); clear hown hgrow hiff))
        go_roundg (m - (k + 1))
        case measure => omega
        case rel => exact ⟨k + 1, _, rfl, by omega, rfl, unhide HX, by go_num⟩
    · obtain rfl : k = m := by omega
      have HS := hide (sort_ok os w.heap.size (raw os os.length).length c0 wr (by have := hat.own; rw [unhide HM] at this; exact this) rfl (by have := raw_len os os.length; rw [← unhide HM] at this ⊢; omega))
      have HB := hide hat.bel
      clear hat
      go_wp2_with (go_at_call 19; go_must (refine (unhide HS).mono ?_; rintro e w' ⟨rfl, l, hl, hlen, hc, hb⟩; have HL := hide hl; have HC := hide hc; have HB2 := hide ((unhide HB).trans (hb (unhide HB).size)); have HLEN : Hid (l.length ≤ k) := hide (by rw [hlen]; have := raw_len os os.length; rw [← unhide HM] at this ⊢; exact this); clear hl hlen hc hb))
      go_ret
      exact ⟨c0, l, rfl, unhide HL, unhide HLEN, unhide HC, unhide HB2⟩

end Go.Proofs.Ytdpbjeajipggbaa
