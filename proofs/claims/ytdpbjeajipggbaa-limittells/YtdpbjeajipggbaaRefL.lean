/- The document's Lengths. -/
import Derived.Test.YtdpbjeajipggbaaPkg
namespace Go.Proofs.Ytdpbjeajipggbaa
open Go.RowKit
set_option linter.unusedVariables false

attribute [local go_sem ↓] Go.wp_at_zero Go.wp_at_succ

theorem raw_perm' {os : List Int} {l : List Nat} (h : IsOrder os l) : l.Perm (raw os os.length) := (List.perm_ext_iff_of_nodup h.nodup (raw_nodup os _)).2 fun i => by rw [h.mem, raw_mem]

theorem own_any {a : Option Addr} {l l' c g : Nat} (h : (Value.slice a l c).ownBlock ≠ some g) : (Value.slice a l' c).ownBlock ≠ some g := by
  cases a <;> exact h

/-- how often each symbol came, in the block of the lengths -/
structure CntAt (wk ws : World) (g nn : Nat) (C : Nat → Nat) : Prop where
  ia : IntsAt ws .i64 3 g nn C
  only : Only g wk ws

theorem CntAt.cell {wk ws : World} {g nn : Nat} {C : Nat → Nat} (h : CntAt wk ws g nn C) {p : Addr} {u : Value} (hp : wk.cell? p = some u) (hne : p.block ≠ g) : ws.cell? p = some u := by
  rw [World.cell?_of_block (h.only.keep _ (cell_lt hp) hne)]; exact hp

theorem CntAt.inc {wk ws : World} {g nn : Nat} {A L : List Nat} {t s : Nat} (h : CntAt wk ws g nn (fun x => A.count x + (L.take t).count x)) (hs : s = L.getD t 0) (ht : t < L.length) : CntAt wk (ws.setCell ⟨g, s, none⟩ (.int .i64 ((A.count s + (L.take t).count s + 1 : Nat) : Int))) g nn (fun x => A.count x + (L.take (t + 1)).count x) := by
  refine ⟨(h.ia.set s _).congr fun i _ => ?_, h.only.set s _⟩
  have e : L.take (t + 1) = L.take t ++ [s] := by
    rw [List.take_add_one, List.getElem?_eq_getElem ht, hs]
    simp [ht]
  unfold upd
  rw [e, List.count_append]
  by_cases hi : i = s
  · rw [if_pos hi, hi]
    have : [s].count s = 1 := by simp
    omega
  · rw [if_neg hi]
    have : [s].count i = 0 := List.count_eq_zero.2 (by simp; omega)
    show A.count i + (L.take t).count i = _
    omega

theorem ans_none {os : List Int} {l : List Nat} {M : Nat} (hM : 1 ≤ M) (h : l.length = 0) (i : Nat) : ans os l M i = 0 := by
  rw [ans_out hM (by rw [h]; exact Nat.zero_le _) (by omega)]
  unfold Merge.out
  rw [h]
  simp [Merge.syms]

theorem ans_one {os : List Int} {l : List Nat} {M : Nat} (h : l.length = 1) (i : Nat) : ans os l M i = upd (fun _ => 0) (l.getD 0 0) 1 i := by
  unfold ans upd
  rw [if_pos h]

/-- the sum of the first k, or that it is too great -/
structure SumAt (os : List Int) (k S : Nat) (big : Bool) : Prop where
  nb : ∀ j, j < k → 0 ≤ os.getD j 0
  le : S ≤ 1099511627776
  yes : big = true → 1099511627776 < tot os k
  no : big = false → S = tot os k

set_option maxRecDepth 100000 in
set_option maxHeartbeats 4000000 in
theorem reflens_good (os : List Int) (M : Nat) (a : Option Addr) (cap : Nat) (w : World) (hr : ReadsI w (.slice a os.length cap) os) (hM1 : 1 ≤ M) (hM2 : M ≤ 20) (hlen : os.length ≤ 65536) :
    Calls Try.prog 8 #[.slice a os.length cap, .int .i64 (M : Int)] w fun e w' => ∃ v x, e = .returned (.tuple #[v, .int .i64 x]) ∧ LensIs os (M : Int) v x w.heap.size w' ∧ Below w.heap.size w w' := by
  have HR := hide hr
  have HCM := hide (coming_ok _ os w hr hlen)
  clear hr
  obtain ⟨n, hn⟩ : ∃ n, n = os.length := ⟨_, rfl⟩
  rw [← hn] at HR hlen HCM ⊢
  have HN := hide hn
  clear hn
  have t1 : ¬ (M : Int) < 1 := by omega
  have t2 : ¬ (20 : Int) < (M : Int) := by omega
  have t3 : ¬ (65536 : Int) < (n : Int) := by omega
  obtain ⟨P2, hP2⟩ : ∃ P2, P2 = 2 ^ M := ⟨_, rfl⟩
  have hP2b : P2 ≤ 1048576 := by rw [hP2]; exact Nat.pow_le_pow_right (show 0 < 2 by decide) hM2
  have hsh : wrap64 ((2 : Int) ^ M) = (P2 : Int) := by
    have h2 : ((2 : Int) ^ M) = ((2 ^ M : Nat) : Int) := by simp
    rw [h2, ← hP2, wrap64_eq]
    exact IntWalk.i64_in (P2 : Int) (by omega)
  have HP2 := hide hP2
  clear hP2
  go_enter Try.func8, Try.ntmps8
  go_wp2_with fail
  go_loopg [6, 7, 8] n (fun gk c b d ws => ∃ (k S : Nat) (big : Bool), gk = n - k ∧ k ≤ n ∧ Hid (SumAt os k S big) ∧ c = .int .i64 (S : Int) ∧ b = .bool big ∧ d = .int .i64 (k : Int) ∧ w = ws)
  case atStart => exact ⟨0, 0, false, by omega, by omega, hide ⟨fun j h => by omega, by omega, (fun h => by cases h), fun _ => rfl⟩, rfl, rfl, rfl, rfl⟩
  case round =>
    obtain ⟨k, S, big, rfl, hk, hat, rfl, rfl, rfl, rfl⟩ := hrel
    have hSb := (unhide hat).le
    by_cases hlt : k < n
    · obtain ⟨a', cap', e, hs⟩ := unhide HR
      injection e with e1 e2 e3
      subst e1 e3
      obtain ⟨b0, off, rfl, hcell⟩ := hs (by rw [← unhide HN]; omega)
      have k1 := hcell k (by rw [← unhide HN]; omega)
      obtain ⟨z, hz⟩ : ∃ z, z = os.getD k 0 := ⟨_, rfl⟩
      rw [← hz] at k1
      have HZ := hide hz
      have hki : (k : Int) < (n : Int) := by omega
      clear hcell e2 hs hz
      by_cases hneg : z < 0
      · have HNO : Hid (¬ LArgs os (M : Int)) := hide fun h => by have := h.2.2.2 k (by rw [← unhide HN]; exact hlt); rw [← unhide HZ] at this; omega
        clear hat
        go_wp2_with fail
        go_ret2
        exact ⟨_, 2, rfl, .inl ⟨unhide HNO, rfl, rfl⟩, Below.refl _ _⟩
      · obtain ⟨Z, rfl⟩ := Int.eq_ofNat_of_zero_le (show 0 ≤ z by omega)
        have hwz : wt os k = Z := by unfold wt; rw [← unhide HZ, Int.toNat_natCast]
        have hnb2 : ∀ j, j < k + 1 → 0 ≤ os.getD j 0 := fun j hj => by
          by_cases e : j = k
          · rw [e, ← unhide HZ]; omega
          · exact (unhide hat).nb j (by omega)
        have HNB2 := hide hnb2
        clear hnb2
        by_cases hbig : 1099511627776 - (S : Int) < (Z : Int)
        · have HAT2 : Hid (SumAt os (k + 1) S true) := hide ⟨unhide HNB2, hSb, fun _ => by
            rw [tot, hwz]
            cases big with
            | true => have := (unhide hat).yes rfl; omega
            | false => have := (unhide hat).no rfl; omega, fun h => by cases h⟩
          clear hat hwz
          go_wp2_with fail
          go_roundg (n - (k + 1))
          case measure => omega
          case rel => exact ⟨k + 1, S, true, rfl, by omega, HAT2, rfl, rfl, by go_num, rfl⟩
        · have HAT2 : Hid (SumAt os (k + 1) (S + Z) big) := hide ⟨unhide HNB2, by omega, fun h => by rw [tot]; have := (unhide hat).yes h; omega, fun h => by rw [tot, hwz, (unhide hat).no h]⟩
          clear hat hwz
          go_wp2_with fail
          go_roundg (n - (k + 1))
          case measure => omega
          case rel => exact ⟨k + 1, S + Z, big, rfl, by omega, HAT2, by go_num, rfl, by go_num, rfl⟩
    · obtain rfl : k = n := by omega
      have hnb : NoneBelow os := fun j hj => (unhide hat).nb j (by rw [unhide HN]; exact hj)
      have HA : Hid (LArgs os (M : Int)) := hide ⟨by omega, by omega, by rw [← unhide HN]; exact hlen, hnb⟩
      have HC := hide (unhide HCM hnb)
      clear hnb HCM
      cases big with
      | true =>
        have HBIG : Hid (1099511627776 < tot os os.length) := hide (by rw [← unhide HN]; exact (unhide hat).yes rfl)
        clear hat
        go_wp2_with fail
        go_ret2
        exact ⟨_, 3, rfl, .inr (.inl ⟨unhide HA, unhide HBIG, rfl, rfl⟩), Below.refl _ _⟩
      | false =>
        have HFIT : Hid (tot os os.length ≤ 1099511627776) := hide (by rw [← unhide HN, ← (unhide hat).no rfl]; exact hSb)
        clear hat hSb
        go_wp2_with fail
        refine (unhide HC).mono ?_
        rintro e w1 ⟨v9, l, cv, rfl, hord, hown, hco, hbel⟩
        have HORD := hide hord
        have hll : l.length ≤ k := by
          have := (raw_perm' hord).length_eq
          rw [this]
          have := raw_len os os.length
          rw [← unhide HN] at this ⊢
          exact this
        obtain ⟨a9, c9, rfl, hn9, hr9⟩ := own_coins hown
        have HB1 := hide hbel
        obtain ⟨N, hNN⟩ : ∃ N, N = l.length := ⟨_, rfl⟩
        rw [← hNN] at hll ⊢
        have HBL : Hid (CoinsL w1 (.slice a9 N c9) (Merge.baseOf (wt os) l)) := hide ⟨a9, c9, cv, by rw [Merge.base_length, hNN], hr9, hco⟩
        have HNN := hide hNN
        clear hord hown hco hbel hn9 hr9 hNN HC
        by_cases hcode : (P2 : Int) < (N : Int)
        · go_wp2_with fail
          go_ret2
          exact ⟨_, 13, rfl, .inr (.inr (.inl ⟨unhide HA, unhide HFIT, ⟨l, unhide HORD, by rw [Int.toNat_natCast, ← unhide HP2, ← unhide HNN]; omega⟩, rfl, rfl⟩)), unhide HB1⟩
        · have hmk := ints_made w1 k hlen
          go_upto_region 20 with fail
          clear hmk
          have HEND : Hid (∀ (w' : World), IntsAt w' .i64 3 w1.heap.size k (ans os l M) → Below w.heap.size w w' → ∃ v x, Ending.returned (.tuple #[.slice (some ⟨w1.heap.size, 0, none⟩) k k, .int .i64 0]) = .returned (.tuple #[v, .int .i64 x]) ∧ LensIs os (M : Int) v x w.heap.size w' ∧ Below w.heap.size w w') := hide fun w' hi hb =>
            ⟨_, 0, rfl, .inr (.inr (.inr ⟨unhide HA, unhide HFIT, rfl, l, w1.heap.size, unhide HORD, by rw [Int.toNat_natCast, ← unhide HP2, ← unhide HNN]; omega, by rw [unhide HN], (unhide HB1).size, by rw [Int.toNat_natCast, ← unhide HN]; exact hi⟩)), hb⟩
          obtain ⟨W, hW⟩ : ∃ W, W = w1.alloc (.cells (icells .i64 k fun _ => 0) 3) := ⟨_, rfl⟩
          have HZ : Hid (IntsAt W .i64 3 w1.heap.size k (fun _ => 0)) := hide (by rw [hW]; exact heap_alloc_new _ _)
          have HBW : Hid (Below w.heap.size w W) := hide (by rw [hW]; exact (unhide HB1).alloc (unhide HB1).size _)
          have HBL2 : Hid (CoinsL W (.slice a9 N c9) (Merge.baseOf (wt os) l)) := hide (by rw [hW]; exact (unhide HBL).stays ((Below.refl _ _).alloc (Nat.le_refl _) _))
          have HBG : Hid (0 < N → CoinsG w1.heap.size W (.slice a9 N c9) (Merge.baseOf (wt os) l)) := hide fun h => by rw [hW]; exact ((unhide HBL).g (by rw [Merge.base_length, ← unhide HNN]; exact h) (base_nonempty os l)).stays ((Below.refl _ _).alloc (Nat.le_refl _) _)
          have HGW : Hid (w1.heap.size < W.heap.size) := hide (unhide HZ).lt
          have HGW2 : Hid (w.heap.size ≤ w1.heap.size) := hide (unhide HB1).size
          rw [← hW]
          obtain ⟨g, hg⟩ : ∃ g, g = w1.heap.size := ⟨_, rfl⟩
          rw [← hg] at HEND HZ HGW HGW2 HBG ⊢
          clear hW hg HBL HA
          by_cases hN0 : N = 0
          · subst hN0
            have HE2 := hide (unhide HEND W ((unhide HZ).congr fun i _ => (ans_none hM1 (by rw [← unhide HNN]) i).symm) (unhide HBW))
            clear HEND HZ HBW HBL2
            go_wp2_with fail
            go_ret2
            exact unhide HE2
          · by_cases hN1 : N = 1
            · subst hN1
              obtain ⟨b, off, c, e, hcl, hget⟩ := (unhide HBL2).get (by rw [Merge.base_length, ← unhide HNN]; decide)
              rw [Merge.base_length, ← unhide HNN] at e hcl hget
              injection e with e1 e2 e3
              subst e1 e3
              obtain ⟨sv, g1, g2, g3⟩ := hget 0 (by decide)
              rw [base_get os l 0 (by rw [← unhide HNN]; decide)] at g1 g3
              obtain ⟨sa, sc, rfl, hsr⟩ := g3
              have hm : l.getD 0 0 ∈ l := by rw [List.getD_eq_getElem?_getD, List.getElem?_eq_getElem (by rw [← unhide HNN]; decide)]; exact List.getElem_mem _
              have hsn : l.getD 0 0 < k := by rw [unhide HN]; exact (((unhide HORD).mem _).1 hm).1
              have HE2 : Hid (∀ s, s = l.getD 0 0 → ∃ v x, Ending.returned (.tuple #[.slice (some ⟨g, 0, none⟩) k k, .int .i64 0]) = .returned (.tuple #[v, .int .i64 x]) ∧ LensIs os (M : Int) v x w.heap.size (W.setCell ⟨g, s, none⟩ (.int .i64 1)) ∧ Below w.heap.size w (W.setCell ⟨g, s, none⟩ (.int .i64 1))) := hide fun s hs => by
                refine unhide HEND _ ((((unhide HZ).set s 1)).congr fun i _ => ?_) ((unhide HBW).trans ((Below.refl _ _).setCell (by have := unhide HGW2; exact this) _))
                rw [ans_one (by rw [← unhide HNN]), hs]
              rcases hsr with ⟨_, _, hc⟩ | ⟨ad, rfl, hcell⟩
              · simp [nats] at hc
              · have hc0 := hcell 0 (.int .i64 (l.getD 0 0 : Nat)) (by simp [nats, iv])
                have hsp : ad.spot = none := by simpa [Addr.add] using World.cell?_spot hc0
                obtain ⟨sb, so, sp⟩ := ad
                simp only at hsp
                subst hsp
                rw [show (⟨sb, so, none⟩ : Addr).add 0 = ⟨sb, so, none⟩ by simp [Addr.add]] at hc0
                obtain ⟨s, hs⟩ : ∃ s, s = l.getD 0 0 := ⟨_, rfl⟩
                rw [← hs] at hc0 hsn
                have HE3 := hide (unhide HE2 s hs)
                have z1 := (unhide HZ).cell s hsn
                have z2 := (unhide HZ).free s
                rw [Nat.zero_mul, Nat.add_zero] at g1 g2
                clear hs hm hcell hget HE2 HEND HZ HBL2 e2
                go_wp2_with fail
                go_ret2
                exact unhide HE3
            · have hN2 : 2 ≤ N := by omega
              have e1 : ((N : Int) == 1) = false := by simp; omega
              have e2 : ¬ (N : Int) < 2 := by omega
              obtain ⟨bse, hbse⟩ : ∃ bse, bse = Merge.baseOf (wt os) l := ⟨_, rfl⟩
              have hbl : bse.length = N := by rw [hbse, Merge.base_length, unhide HNN]
              have HSMALL : Hid (∀ k, k < 20 → Small os l k (Merge.rounds bse k)) := hide fun k hk => by rw [hbse]; exact small_rounds (unhide HORD) (by rw [← unhide HNN]; omega) (unhide HFIT) k hk
              have HBGG := hide (unhide HBG (by omega))
              rw [← hbse] at HBGG
              clear HBG HBL2
              have HBSE := hide hbse
              have HBLN := hide hbl
              clear hbse hbl
              obtain ⟨nn, hnn⟩ : ∃ nn, nn = k := ⟨_, rfl⟩
              rw [← hnn] at HEND HZ HN ⊢
              clear hnn
              go_wp2_with fail
              go_loopg [12, 13] (M - 1) (fun gk c d ws => ∃ (k : Nat) (v : Value), gk = M - k ∧ 1 ≤ k ∧ k ≤ M ∧ v = c ∧ d = .int .i64 (k : Int) ∧ Hid (Below W.heap.size W ws) ∧ Hid (CoinsG g ws v (Merge.rounds bse (k - 1))))
              case atStart => exact ⟨1, _, by omega, by omega, by omega, rfl, rfl, hide (Below.refl _ _), HBGG⟩
              case round =>
                obtain ⟨k, v12, rfl, hk1, hkM, rfl, rfl, hbw, hco⟩ := hrel
                by_cases hlt : k < M
                · have hki : (k : Int) < (M : Int) := by omega
                  have HSM := hide (unhide HSMALL (k - 1) (by omega))
                  obtain ⟨coins, hcoins⟩ : ∃ coins, coins = Merge.rounds bse (k - 1) := ⟨_, rfl⟩
                  rw [← hcoins] at hco HSM
                  have HCOINS := hide hcoins
                  clear hcoins
                  obtain ⟨wo, rfl⟩ : ∃ wo, wo = wr := ⟨_, rfl⟩
                  obtain ⟨cb, co, cc, rfl, -, hcc, hget⟩ := (unhide hco).get (by have := (unhide HSM).ge; rw [← unhide HNN] at this; omega)
                  have HGET := hide hget
                  have hC1 := (unhide HSM).len
                  have hC2 := (unhide HSM).ge
                  rw [← unhide HNN] at hC2
                  obtain ⟨C, hC⟩ : ∃ C, C = coins.length := ⟨_, rfl⟩
                  rw [← hC] at hcc hC1 hC2 HGET ⊢
                  have HC := hide hC
                  have hpl := Merge.pack_length coins
                  rw [← hC] at hpl
                  have HPLN := hide hpl
                  clear hget hC hpl
                  go_wp2_with fail
                  go_loopg [14, 15] C (fun gk c d ws => ∃ (p : Nat) (v : Value) (pv : List CV), gk = C - p ∧ 2 * p ≤ C ∧ v = c ∧ d = .int .i64 ((2 * p : Nat) : Int) ∧ Hid (PackAt coins wo ws v pv p) ∧ Hid (NotIn g pv))
                  case atStart => exact ⟨0, _, [], by omega, by omega, rfl, rfl, hide ⟨nil_coins _ _, ⟨rfl, fun j hj => by simp at hj⟩, Below.refl _ _⟩, hide (fun c hc => by simp at hc)⟩
                  case round =>
                    obtain ⟨p, v14, pv, rfl, hp, rfl, rfl, hpk, hni⟩ := hrel
                    obtain ⟨i2, hi2⟩ : ∃ i2, i2 = 2 * p := ⟨_, rfl⟩
                    rw [← hi2] at hp ⊢
                    have HI2 := hide hi2
                    clear hi2
                    by_cases hpc : i2 + 1 < C
                    · have hpi : (i2 : Int) + 1 < (C : Int) := by omega
                      obtain ⟨i3, hi3⟩ : ∃ i3 : Nat, (i2 : Int) + 1 = (i3 : Int) := ⟨i2 + 1, by omega⟩
                      have hi3c : (i3 : Int) < (C : Int) := by omega
                      have hi2c : (i2 : Int) < (C : Int) := by omega
                      obtain ⟨sA, a1, a2, a3, -⟩ := unhide HGET i2 (by omega)
                      obtain ⟨sB, b1, b2, b3, -⟩ := unhide HGET i3 (by omega)
                      have hbwp := (unhide hpk).bel
                      replace a1 := cell_stays hbwp a1
                      replace a2 := cell_stays hbwp a2
                      replace b1 := cell_stays hbwp b1
                      replace b2 := cell_stays hbwp b2
                      replace a3 := a3.stays hbwp
                      replace b3 := b3.stays hbwp
                      have HPL : Hid (p < (Merge.pack coins).length) := hide (by have h1 := unhide HI2; rw [unhide HPLN]; omega)
                      have hpg := Merge.pack_get coins p (by rw [← unhide HC]; have h1 := unhide HI2; omega)
                      rw [show 2 * p + 1 = i3 by have h1 := unhide HI2; omega, ← unhide HI2] at hpg
                      have hmA := Merge.getD_mem_coin coins i2 (by rw [← unhide HC]; omega)
                      have hmB := Merge.getD_mem_coin coins i3 (by rw [← unhide HC]; omega)
                      obtain ⟨A, hA⟩ : ∃ A, A = coins.getD i2 Merge.d0 := ⟨_, rfl⟩
                      obtain ⟨B, hB⟩ : ∃ B, B = coins.getD i3 Merge.d0 := ⟨_, rfl⟩
                      rw [← hA] at a1 a3 hpg hmA
                      rw [← hB] at b1 b3 hpg hmB
                      obtain ⟨aA, cA, rfl, hrA⟩ := a3
                      obtain ⟨aB, cB, rfl, hrB⟩ := b3
                      have hwA := (unhide HSM).worth A hmA
                      have hwB := (unhide HSM).worth B hmB
                      have hsA := (unhide HSM).syms A hmA
                      have hsB := (unhide HSM).syms B hmB
                      obtain ⟨wa, hwa⟩ : ∃ wa, wa = A.1 := ⟨_, rfl⟩
                      obtain ⟨wb, hwb⟩ : ∃ wb, wb = B.1 := ⟨_, rfl⟩
                      obtain ⟨la, hla⟩ : ∃ la, la = A.2.length := ⟨_, rfl⟩
                      obtain ⟨lb, hlb⟩ : ∃ lb, lb = B.2.length := ⟨_, rfl⟩
                      rw [← hwa] at a1 hpg hwA
                      rw [← hwb] at b1 hpg hwB
                      rw [← hla] at a2 hsA
                      rw [← hlb] at b2 hsB
                      have HLA := hide hla
                      have HLB := hide hlb
                      have HPG := hide hpg
                      have HSZ : Hid (la ≤ 1310720 ∧ lb ≤ 1310720 ∧ p ≤ 131072 ∧ p + 1 ≤ 10000000) := hide (by have h1 := unhide HI2; omega)
                      have b1' := cell_stays ((Below.refl _ _).alloc (Nat.le_refl _) (.cells #[.int .i64 (wa : Int), .slice aA la cA] 48)) b1
                      have b2' := cell_stays ((Below.refl _ _).alloc (Nat.le_refl _) (.cells #[.int .i64 (wa : Int), .slice aA la cA] 48)) b2
                      clear hpg hmA hmB hA hB hbwp hwa hwb hla hlb
                      go_upto_region 34 with fail
                      obtain ⟨X0, hX0⟩ : ∃ X0, X0 = (wr.alloc (.cells #[.int .i64 (wa : Int), .slice aA la cA] 48)).alloc (.cells #[.int .i64 (wb : Int), .slice aB lb cB] 48) := ⟨_, rfl⟩
                      have HX0B : Hid (Below wr.heap.size wr X0) := hide (by rw [hX0]; exact ((Below.refl _ _).alloc (Nat.le_refl _) _).alloc (by simp) _)
                      have HTWO0 : Hid (TwoAt wr.heap.size (wr.heap.size + 1) wa wb (.slice aA la cA) (.slice aB lb cB) X0) := hide (by
                        rw [hX0]
                        have hb := (Below.refl (wr.alloc (.cells #[.int .i64 (wa : Int), .slice aA la cA] 48)).heap.size (wr.alloc (.cells #[.int .i64 (wa : Int), .slice aA la cA] 48))).alloc (Nat.le_refl _) (.cells #[.int .i64 (wb : Int), .slice aB lb cB] 48)
                        have s := World.size_alloc wr (.cells #[.int .i64 (wa : Int), .slice aA la cA] 48)
                        refine ⟨cell_stays hb ?_, cell_stays hb ?_, ?_, ?_⟩
                        · simp only [World.cell?, heap_alloc_new]; rfl
                        · simp only [World.cell?, heap_alloc_new]; rfl
                        · rw [← s]; simp only [World.cell?, heap_alloc_new]; rfl
                        · rw [← s]; simp only [World.cell?, heap_alloc_new]; rfl)
                      have HGAB0 : Hid (wr.heap.size ≤ wr.heap.size ∧ wr.heap.size ≤ wr.heap.size + 1 ∧ wr.heap.size < X0.heap.size ∧ wr.heap.size + 1 < X0.heap.size) := hide (by rw [hX0]; simp; omega)
                      have HRA : Hid (ReadsN X0 aA cA (nats A.2)) := hide (hrA.stays (unhide HX0B))
                      have HRB2 : Hid (ReadsN X0 aB cB (nats B.2)) := hide (hrB.stays (unhide HX0B))
                      rw [← hX0]
                      obtain ⟨gA, hgA⟩ : ∃ gA, gA = wr.heap.size := ⟨_, rfl⟩
                      obtain ⟨gB, hgB⟩ : ∃ gB, gB = wr.heap.size + 1 := ⟨_, rfl⟩
                      have HTWO : Hid (TwoAt gA gB wa wb (.slice aA la cA) (.slice aB lb cB) X0) := hide (by rw [hgA, hgB]; exact unhide HTWO0)
                      have HGAB : Hid (wr.heap.size ≤ gA ∧ wr.heap.size ≤ gB ∧ gA < X0.heap.size ∧ gB < X0.heap.size) := hide (by rw [hgA, hgB]; exact unhide HGAB0)
                      rw [← hgB, ← hgA]
                      clear hX0 hgA hgB HTWO0 HGAB0 a1 a2 b1 b2 b1' b2' hrA hrB
                      refine wp_region_noPanic ?_
                      refine wp_region_held_drew (S := TwoAt gA gB wa wb (.slice aA la cA) (.slice aB lb cB)) (by kernel_rfl) (unhide HTWO) (fun hHeld => ?_)
                      obtain ⟨x1, hx1⟩ : ∃ x, x = X0.drew := ⟨_, rfl⟩
                      have hbx : Below X0.heap.size X0 x1 := by rw [hx1]; exact ⟨rfl, rfl, rfl, Nat.le_refl _, fun _ _ => rfl⟩
                      rw [← hx1] at hHeld
                      rw [← hx1]
                      clear hx1
                      refine held_take 0 107 rfl rfl (by kernel_rfl) (by kernel_rfl) (by kernel_rfl) (by rfl) hHeld noPanic_panic (v := ?_) (fun x hSx => ?_) ?_
                      rotate_left 1
                      · (obtain ⟨s1, s2, s3, s4⟩ := hSx; go_simp <;> with_reducible rfl)
                      simp only [List.set_cons_zero, List.set_cons_succ]
                      refine held_take 1 108 rfl rfl (by kernel_rfl) (by kernel_rfl) (by kernel_rfl) (by rfl) hHeld noPanic_panic (v := ?_) (fun x hSx => ?_) ?_
                      rotate_left 1
                      · (obtain ⟨s1, s2, s3, s4⟩ := hSx; go_simp <;> with_reducible rfl)
                      simp only [List.set_cons_zero, List.set_cons_succ]
                      refine held_take 2 109 rfl rfl (by kernel_rfl) (by kernel_rfl) (by kernel_rfl) (by rfl) hHeld noPanic_panic (v := ?_) (fun x hSx => ?_) ?_
                      rotate_left 1
                      · (obtain ⟨s1, s2, s3, s4⟩ := hSx; go_simp <;> with_reducible rfl)
                      simp only [List.set_cons_zero, List.set_cons_succ]
                      refine held_take 3 110 rfl rfl (by kernel_rfl) (by kernel_rfl) (by kernel_rfl) (by rfl) hHeld noPanic_panic (v := ?_) (fun x hSx => ?_) ?_
                      rotate_left 1
                      · (obtain ⟨s1, s2, s3, s4⟩ := hSx; go_simp <;> with_reducible rfl)
                      simp only [List.set_cons_zero, List.set_cons_succ]
                      refine held_take 4 111 rfl rfl (by kernel_rfl) (by kernel_rfl) (by kernel_rfl) (by rfl) hHeld noPanic_panic (v := ?_) (fun x hSx => ?_) ?_
                      rotate_left 1
                      · (obtain ⟨s1, s2, s3, s4⟩ := hSx; go_simp <;> with_reducible rfl)
                      simp only [List.set_cons_zero, List.set_cons_succ]
                      refine held_take 5 112 rfl rfl (by kernel_rfl) (by kernel_rfl) (by kernel_rfl) (by rfl) hHeld noPanic_panic (v := ?_) (fun x hSx => ?_) ?_
                      rotate_left 1
                      · (obtain ⟨s1, s2, s3, s4⟩ := hSx; go_simp <;> with_reducible rfl)
                      simp only [List.set_cons_zero, List.set_cons_succ]
                      refine held_take 7 114 rfl rfl (by kernel_rfl) (by kernel_rfl) (by kernel_rfl) (by rfl) hHeld noPanic_panic (v := ?_) (fun x hSx => ?_) ?_
                      rotate_left 1
                      · (obtain ⟨s1, s2, s3, s4⟩ := hSx; go_simp <;> with_reducible rfl)
                      simp only [List.set_cons_zero, List.set_cons_succ]
                      refine held_take 8 115 rfl rfl (by kernel_rfl) (by kernel_rfl) (by kernel_rfl) (by rfl) hHeld noPanic_panic (v := ?_) (fun x hSx => ?_) ?_
                      rotate_left 1
                      · (obtain ⟨s1, s2, s3, s4⟩ := hSx; go_simp <;> with_reducible rfl)
                      simp only [List.set_cons_zero, List.set_cons_succ]
                      refine held_take 10 117 rfl rfl (by kernel_rfl) (by kernel_rfl) (by kernel_rfl) (by rfl) hHeld noPanic_panic (v := ?_) (fun x hSx => ?_) ?_
                      rotate_left 1
                      · (obtain ⟨s1, s2, s3, s4⟩ := hSx; go_simp <;> with_reducible rfl)
                      simp only [List.set_cons_zero, List.set_cons_succ]
                      refine held_take 11 118 rfl rfl (by kernel_rfl) (by kernel_rfl) (by kernel_rfl) (by rfl) hHeld noPanic_panic (v := ?_) (fun x hSx => ?_) ?_
                      rotate_left 1
                      · (obtain ⟨s1, s2, s3, s4⟩ := hSx; go_simp <;> with_reducible rfl)
                      simp only [List.set_cons_zero, List.set_cons_succ]
                      refine held_one 6 113 (by kernel_rfl) rfl rfl (by rfl) (v := .slice (some ⟨x1.heap.size, 0, none⟩) 0 0) (w' := x1.alloc (.cells #[] 3)) ?_ (hHeld.stays ((Below.refl _ _).alloc (Nat.le_refl _) _)) ?_
                      · go_simp <;> first | exact ⟨rfl, rfl⟩ | rfl
                      simp only [List.set_cons_zero, List.set_cons_succ]
                      have hrA := (unhide HRA).stays hbx
                      have hrB := (unhide HRB2).stays hbx
                      have hA1 : Below x1.heap.size x1 (x1.alloc (.cells #[] 3)) := (Below.refl _ _).alloc (Nat.le_refl _) _
                      have hgx : gA < x1.heap.size ∧ gB < x1.heap.size := by have := hbx.size; have := unhide HGAB; omega
                      refine held_app_ints 9 116 (.tmp 113) (.tmp 115) (by kernel_rfl) rfl rfl (by rfl) rfl x1.heap.size (.slice (some ⟨x1.heap.size, 0, none⟩) 0 0) 0 [] (by rfl) (built_own x1 _ (Nat.le_refl _)) aA la cA (nats A.2) (by rw [nats_length]; exact unhide HLA) (by rfl) (hrA.stays hA1) (by have := unhide HSZ; omega) (by simp) (fun w' hg => (hHeld.stays hA1).grown hg (fun g e => by simp [Value.ownBlock] at e; omega)) ?_
                      intro y1 w2 ho1 hg1
                      simp only [List.set_cons_zero, List.set_cons_succ]
                      have hHeld2 := (hHeld.stays hA1).grown hg1 (fun g e => by simp [Value.ownBlock] at e; omega)
                      have hB2 : Below x1.heap.size x1 w2 := hA1.grown hg1 (by simp) (fun g e => by simp [Value.ownBlock] at e; omega)
                      rw [List.nil_append, Nat.zero_add] at ho1
                      clear hg1 hHeld
                      refine held_app_ints 12 119 (.tmp 116) (.tmp 118) (by kernel_rfl) rfl rfl (by rfl) rfl x1.heap.size y1 la (nats A.2) (by rfl) ho1 aB lb cB (nats B.2) (by rw [nats_length]; exact unhide HLB) (by rfl) (hrB.stays hB2) (by have := unhide HSZ; omega) hB2.size (fun w' hg => hHeld2.grown hg (fun g e => by have := (ho1.lt g e).1; omega)) ?_
                      intro y2 w3 ho2 hg2
                      simp only [List.set_cons_zero, List.set_cons_succ]
                      have hHeld3 := hHeld2.grown hg2 (fun g e => by have := (ho1.lt g e).1; omega)
                      have hB3 : Below x1.heap.size x1 w3 := hB2.grown hg2 hB2.size (fun g e => (ho1.lt g e).1)
                      rw [← nats_append] at ho2
                      obtain ⟨ay, cy, rfl⟩ := own_slice ho2
                      have hst := own_symT ho2
                      have hyb : (Value.slice ay (la + lb) cy).ownBlock ≠ some g := fun e => by have h1 := (ho2.lt g e).1; have h2 := hbx.size; have h3 := (unhide HX0B).size; have h4 := (unhide hpk).bel.size; have h5 := (unhide hbw).size; have h6 := unhide HGW; omega
                      have hwr : IntKind.i64.wrap ((wa : Int) + (wb : Int)) = ((wa + wb : Nat) : Int) := by rw [show ((wa + wb : Nat) : Int) = (wa : Int) + (wb : Int) by omega]; exact IntWalk.i64_in _ (by omega)
                      clear hg2 hHeld2 ho1
                      refine held_one 13 120 (by kernel_rfl) rfl rfl (by rfl) (v := .agg #[.int .i64 ((wa + wb : Nat) : Int), (.slice ay (la + lb) cy)]) (w' := w3) ?_ hHeld3 ?_
                      · obtain ⟨s1, s2, s3, s4⟩ := hHeld3; go_simp <;> first | rfl | (rw [hwr])
                      simp only [List.set_cons_zero, List.set_cons_succ]
                      refine held_one 14 121 (by kernel_rfl) rfl rfl (by rfl) (v := .slice (some ⟨w3.heap.size, 0, none⟩) 1 1) (w' := w3.alloc (.cells #[.int .i64 ((wa + wb : Nat) : Int), (.slice ay (la + lb) cy)] 48)) ?_ (hHeld3.stays ((Below.refl _ _).alloc (Nat.le_refl _) _)) ?_
                      · go_simp <;> first | exact ⟨rfl, rfl⟩ | rfl
                      simp only [List.set_cons_zero, List.set_cons_succ]
                      have hbX3 : Below wr.heap.size wr w3 := (unhide HX0B).trans ((hbx.mono (unhide HX0B).size).trans (hB3.mono (by have := (unhide HX0B).size; have := hbx.size; omega)))
                      have hoP : w3.ownsRow wo.heap.size 48 2 v14 p (ccells pv) := own_keep (unhide hpk).own (fun g e => hbX3.block g ((unhide hpk).own.lt g e).2)
                      refine held_app_coin 15 122 (.tmp 107) (.tmp 121) (by kernel_rfl) rfl rfl (by rfl) rfl wo.heap.size v14 p pv (by rfl) (hoP.alloc _) w3.heap.size 0 (wa + wb, (.slice ay (la + lb) cy)) (by rfl) (coin_one w3 (wa + wb) (.slice ay (la + lb) cy)) (fun c hc => by simp at hc; subst hc; obtain ⟨a, c, e, _⟩ := hst; exact ⟨_, _, _, e⟩) (by have := unhide HSZ; omega) (by have h1 := (unhide hpk).bel.size; have h2 := hbX3.size; simp; omega) (fun w' hg => (hHeld3.stays ((Below.refl _ _).alloc (Nat.le_refl _) _)).grown hg (fun g e => by have := ((unhide hpk).own.lt g e).2; have := unhide HGAB; omega)) ?_
                      intro v15 w4 ho4 hg4
                      simp only [List.set_cons_zero, List.set_cons_succ]
                      have hHeld := (hHeld3.stays ((Below.refl _ _).alloc (Nat.le_refl _) (.cells #[.int .i64 ((wa + wb : Nat) : Int), (.slice ay (la + lb) cy)] 48))).grown hg4 (fun g e => by have := ((unhide hpk).own.lt g e).2; have := unhide HGAB; omega)
                      have HNI2 := hide ((unhide hni).snoc (x := wa + wb) hyb)
                      have HNX := hide ((unhide hpk).next (unhide HPL) (unhide HPG) hbX3 hst hoP hg4 ho4)
                      clear ho4 hg4 hst hoP hbX3 hB2 hB3 hA1 hrA hrB ho2 hHeld3
                      refine held_take 16 14 rfl rfl (by kernel_rfl) (by kernel_rfl) (by kernel_rfl) (by rfl) hHeld noPanic_panic (v := ?_) (fun x hSx => ?_) ?_
                      rotate_left 1
                      · go_simp <;> with_reducible rfl
                      simp only [List.set_cons_zero, List.set_cons_succ]
                      refine wpAnyH_done (by kernel_rfl) ?_ _
                      refine NoPanic.normal ?_
                      clear hpk hni
                      go_wp2_with fail
                      go_roundg (C - (p + 1))
                      case measure => have h1 := unhide HI2; omega
                      case rel => exact ⟨p + 1, _, _, rfl, by have h1 := unhide HI2; omega, rfl, by have h1 := unhide HI2; go_num, HNX, HNI2⟩
                    · have hpe : p = (Merge.pack coins).length := by have h1 := unhide HI2; rw [unhide HPLN]; omega
                      have HPKL := hide ((unhide hpk).doneG (g := g) hpe (by have h5 := (unhide hbw).size; have h6 := unhide HGW; omega) (unhide hni))
                      obtain ⟨wn, rfl⟩ : ∃ wn, wn = wr := ⟨_, rfl⟩
                      have HBWN : Hid (Below W.heap.size W wn) := hide ((unhide hbw).trans ((unhide hpk).bel.mono (unhide hbw).size))
                      have HBLN2 := hide ((unhide HBGG).stays (unhide HBWN))
                      obtain ⟨pk, hpk0⟩ : ∃ pk, pk = Merge.pack coins := ⟨_, rfl⟩
                      rw [← hpk0] at HPKL
                      obtain ⟨K, hKK⟩ : ∃ K, K = pk.length := ⟨_, rfl⟩
                      have hKC : K = C / 2 := by rw [hKK, hpk0]; exact unhide HPLN
                      have HPK0 := hide hpk0
                      obtain ⟨pb, po, pc, rfl, -, hpc1, hgp⟩ := (unhide HPKL).get (by rw [← hKK]; omega)
                      obtain ⟨bb, bo, bc, e9, -, hbc1, hgb⟩ := (unhide HBLN2).get (by rw [unhide HBLN]; omega)
                      rw [unhide HBLN] at e9 hbc1 hgb
                      injection e9 with e91 e92 e93
                      subst e91 e93
                      rw [← hKK] at hpc1 hgp ⊢
                      have HKK := hide hKK
                      have HGP := hide hgp
                      have HGB := hide hgb
                      have hK2 : K ≤ 131072 := by omega
                      have hpci : ¬ (i2 : Int) + 1 < (C : Int) := by omega
                      clear hpk hpk0 hKK hgp hgb hpe e92 hKC hni
                      go_wp2_with fail
                      go_loopg [18, 19, 20] N (fun gk c d e ws => ∃ (i j : Nat) (next : List Merge.Coin) (v : Value) (nv : List CV), gk = N - j ∧ i ≤ K ∧ j ≤ N ∧ v = c ∧ d = .int .i64 (i : Int) ∧ e = .int .i64 (j : Int) ∧ Hid (Merge.Mid bse pk next i j) ∧ Hid (NextAt next wn ws v nv) ∧ Hid (NotIn g nv))
                      case atStart => exact ⟨0, 0, [], _, [], by omega, by omega, by omega, rfl, rfl, rfl, hide (Merge.Mid.start _ _), hide ⟨nil_coins _ _, CoinsR.nil _, Below.refl _ _⟩, hide (fun c hc => by simp at hc)⟩
                      case round =>
                        obtain ⟨i, j, next, v18, nv, rfl, hiK, hjN, rfl, rfl, rfl, hmid, hnx, hni⟩ := hrel
                        by_cases hjl : j < N
                        · have hji : (j : Int) < (N : Int) := by omega
                          obtain ⟨svb, bq1, bq2, bq3, bq4⟩ := unhide HGB j hjl
                          have HBQ3 := hide bq3
                          obtain ⟨sab, scb, rfl, -⟩ := id bq3
                          have hmem := Merge.getD_mem_coin bse j (by rw [unhide HBLN]; exact hjl)
                          obtain ⟨Bj, hBj⟩ : ∃ Bj, Bj = bse.getD j Merge.d0 := ⟨_, rfl⟩
                          rw [← hBj] at bq1 bq2 HBQ3
                          have HBJ := hide hBj
                          obtain ⟨bw, hbwt⟩ : ∃ bw, bw = Bj.1 := ⟨_, rfl⟩
                          obtain ⟨bl, hblt⟩ : ∃ bl, bl = Bj.2.length := ⟨_, rfl⟩
                          rw [← hbwt] at bq1
                          rw [← hblt] at bq2 HBQ3
                          have HBWT := hide hbwt
                          have HBLT := hide hblt
                          have HBQ4 : Hid ((Value.slice sab bl scb).ownBlock ≠ some g) := hide (own_any bq4)
                          have HBQ1 := hide bq1
                          have HBQ2 := hide bq2
                          clear bq3 hBj hmem bq1 bq2 bq4 hbwt hblt
                          go_wp2_with fail
                          go_loopg [18, 19] (K - i) (fun gk c d ws => ∃ (i : Nat) (next : List Merge.Coin) (v : Value) (nv : List CV), gk = K - i ∧ i ≤ K ∧ v = c ∧ d = .int .i64 (i : Int) ∧ Hid (Merge.Mid bse pk next i j) ∧ Hid (NextAt next wn ws v nv) ∧ Hid (NotIn g nv))
                          case atStart => exact ⟨i, next, _, nv, rfl, hiK, rfl, rfl, hmid, hnx, hni⟩
                          case round =>
                            obtain ⟨i, next, v18, nv, rfl, hiK, rfl, rfl, hmid, hnx, hni⟩ := hrel
                            have bq1 := cell_stays (unhide hnx).bel (unhide HBQ1)
                            have bq2 := cell_stays (unhide hnx).bel (unhide HBQ2)
                            have hnl := (unhide hmid).len
                            have hwrs := (unhide hnx).bel.size
                            obtain ⟨a18, c18, rfl, -, -⟩ := own_coins (unhide hnx).own
                            obtain ⟨Y, hY⟩ : ∃ Y, Y = next.length := ⟨_, rfl⟩
                            rw [← hY] at hnl ⊢
                            have HY := hide hY
                            have HNL := hide hnl
                            have hYb : Y ≤ 300000 := by omega
                            have HOWN : Hid (wr.ownsRow wn.heap.size 48 2 (.slice a18 Y c18) Y (ccells nv)) := hide (by have := (unhide hnx).own; rw [← hY] at this; exact this)
                            clear hY hnl
                            by_cases hgo : i < K ∧ (pk.getD i Merge.d0).1 < bw
                            · obtain ⟨hiK2, hgo2⟩ := hgo
                              have hii : (i : Int) < (K : Int) := by omega
                              obtain ⟨svp, pq1, pq2, pq3, pq4⟩ := unhide HGP i hiK2
                              have HPQ3 := hide pq3
                              obtain ⟨sap, scp, rfl, -⟩ := id pq3
                              obtain ⟨Pi, hPi⟩ : ∃ Pi, Pi = pk.getD i Merge.d0 := ⟨_, rfl⟩
                              rw [← hPi] at pq1 pq2 hgo2 HPQ3
                              obtain ⟨pw, hpw⟩ : ∃ pw, pw = Pi.1 := ⟨_, rfl⟩
                              obtain ⟨pl, hpl⟩ : ∃ pl, pl = Pi.2.length := ⟨_, rfl⟩
                              rw [← hpw] at pq1 hgo2
                              rw [← hpl] at pq2 HPQ3
                              have HNI2 : Hid (NotIn g (nv ++ [(pw, .slice sap pl scp)])) := hide ((unhide hni).snoc (own_any pq4))
                              replace pq1 := cell_stays (unhide hnx).bel pq1
                              replace pq2 := cell_stays (unhide hnx).bel pq2
                              have hlti : (pw : Int) < (bw : Int) := by omega
                              have HMID2 : Hid (Merge.Mid bse pk (next ++ [(pw, Pi.2)]) (i + 1) j) := hide (by
                                have := (unhide hmid).pkg (by rw [← unhide HKK]; exact hiK2) (by rw [unhide HBLN]; exact hjl) (by rw [← hPi, ← hpw, ← unhide HBJ, ← unhide HBWT]; exact hgo2)
                                rw [← hPi] at this
                                have e : Pi = (pw, Pi.2) := by rw [hpw]
                                rw [← e]
                                exact this)
                              have HSNOC : Hid (∀ v2 w2 q, w2.ownsRow wn.heap.size 48 2 v2 (Y + 1) (ccells (nv ++ [(pw, .slice sap pl scp)])) → ((wr.drewN q).alloc (.cells #[.int .i64 (pw : Int), .slice sap pl scp] 48)).grownBy w2 (Value.slice a18 Y c18).ownBlock → NextAt (next ++ [(pw, Pi.2)]) wn w2 v2 (nv ++ [(pw, .slice sap pl scp)])) := hide fun v2 w2 q ho hg => by
                                have h1 := (unhide hnx).drewN q
                                rw [← unhide HY] at h1
                                exact h1.snoc (unhide HPQ3) (by rw [← unhide HY]; exact ho) hg
                              have HSLO : Hid (Slices [(pw, .slice sap pl scp)]) := hide fun c hc => by simp at hc; subst hc; exact ⟨_, _, _, rfl⟩
                              clear hPi hpw hpl pq3 pq4 hmid hgo2 hnx hni
                              go_wp2_with fail
                              go_quiet (fail)
                              have HCO := hide (coin_one (wr.drewN nq) pw (.slice sap pl scp))
                              have HOWN2 : Hid ((wr.drewN nq).ownsRow wn.heap.size 48 2 (.slice a18 Y c18) Y (ccells nv)) := hide (unhide HOWN)
                              obtain ⟨wz, hwz⟩ : ∃ wz, wz = wr.drewN nq := ⟨_, rfl⟩
                              rw [← hwz] at HCO HOWN2
                              rw [← hwz]
                              have pz1 : wz.cell? ⟨pb, po + i * 2, none⟩ = some (.int .i64 (pw : Int)) := by rw [hwz]; exact pq1
                              have pz2 : wz.cell? ⟨pb, po + i * 2 + 1, none⟩ = some (.slice sap pl scp) := by rw [hwz]; exact pq2
                              have HSN2 : Hid (∀ v2 w2, w2.ownsRow wn.heap.size 48 2 v2 (Y + 1) (ccells (nv ++ [(pw, .slice sap pl scp)])) → (wz.alloc (.cells #[.int .i64 (pw : Int), .slice sap pl scp] 48)).grownBy w2 (Value.slice a18 Y c18).ownBlock → NextAt (next ++ [(pw, Pi.2)]) wn w2 v2 (nv ++ [(pw, .slice sap pl scp)])) := hide fun v2 w2 ho hg => unhide HSNOC v2 w2 nq ho (by rw [← hwz]; exact hg)
                              have hwzs : wn.heap.size ≤ wz.heap.size := by rw [hwz]; exact hwrs
                              clear hwz pq1 pq2 bq1 bq2 HSNOC HOWN hwrs
                              go_upto_region 42 with (at_builtin; go_must (refine wpList_append_coins rfl (.tmp 146) (.tmp 151) rfl wn.heap.size (.slice a18 Y c18) Y nv (by rfl) ((unhide HOWN2).alloc _) (some ⟨wz.heap.size, 0, none⟩) 1 1 [(pw, .slice sap pl scp)] rfl (by rfl) (unhide HCO) (unhide HSLO) (by omega) (by simp; omega) ?_; intro v2 w2 ho2 hg2; have HNX2 := hide (unhide HSN2 v2 w2 ho2 hg2); clear ho2 hg2))
                              clear HSN2 HOWN2 HCO
                              go_wp2_with fail
                              go_roundg (K - (i + 1))
                              case measure => omega
                              case rel => exact ⟨i + 1, _, _, _, rfl, by omega, rfl, by go_num, HMID2, HNX2, HNI2⟩
                            · by_cases hiK2 : i < K
                              · have hii : (i : Int) < (K : Int) := by omega
                                obtain ⟨svp, pq1, pq2, pq3, -⟩ := unhide HGP i hiK2
                                obtain ⟨pw, hpw⟩ : ∃ pw, pw = (pk.getD i Merge.d0).1 := ⟨_, rfl⟩
                                rw [← hpw] at pq1 hgo
                                have hnlt : ¬ pw < bw := fun h => hgo ⟨hiK2, h⟩
                                have HXX : i = pk.length ∨ ¬ (pk.getD i Merge.d0).1 < (bse.getD j Merge.d0).1 := .inr (by rw [← hpw, ← unhide HBJ, ← unhide HBWT]; exact hnlt)
                                replace pq1 := cell_stays (unhide hnx).bel pq1
                                have hlti : ¬ (pw : Int) < (bw : Int) := by omega
                                clear hpw pq2 pq3 hgo hnlt
                                have HMID2 : Hid (Merge.Mid bse pk (next ++ [(bw, Bj.2)]) i (j + 1)) := hide (by
                                  have := (unhide hmid).own (by rw [unhide HBLN]; exact hjl) HXX
                                  rw [← unhide HBJ] at this
                                  have e : Bj = (bw, Bj.2) := by rw [unhide HBWT]
                                  rw [← e]
                                  exact this)
                                have HSNOC : Hid (∀ v2 w2 q, w2.ownsRow wn.heap.size 48 2 v2 (Y + 1) (ccells (nv ++ [(bw, .slice sab bl scb)])) → ((wr.drewN q).alloc (.cells #[.int .i64 (bw : Int), .slice sab bl scb] 48)).grownBy w2 (Value.slice a18 Y c18).ownBlock → NextAt (next ++ [(bw, Bj.2)]) wn w2 v2 (nv ++ [(bw, .slice sab bl scb)])) := hide fun v2 w2 q ho hg => by
                                  have h1 := (unhide hnx).drewN q
                                  rw [← unhide HY] at h1
                                  exact h1.snoc (unhide HBQ3) (by rw [← unhide HY]; exact ho) hg
                                have HSLO : Hid (Slices [(bw, .slice sab bl scb)]) := hide fun c hc => by simp at hc; subst hc; exact ⟨_, _, _, rfl⟩
                                have HNI2 : Hid (NotIn g (nv ++ [(bw, .slice sab bl scb)])) := hide ((unhide hni).snoc (unhide HBQ4))
                                clear hmid hnx HXX hni
                                go_wp2_with fail
                                go_quiet (fail)
                                have HCO := hide (coin_one (wr.drewN nq) bw (.slice sab bl scb))
                                have HOWN2 : Hid ((wr.drewN nq).ownsRow wn.heap.size 48 2 (.slice a18 Y c18) Y (ccells nv)) := hide (unhide HOWN)
                                obtain ⟨wz, hwz⟩ : ∃ wz, wz = wr.drewN nq := ⟨_, rfl⟩
                                rw [← hwz] at HCO HOWN2
                                rw [← hwz]
                                have pz1 : wz.cell? ⟨bb, bo + j * 2, none⟩ = some (.int .i64 (bw : Int)) := by rw [hwz]; exact bq1
                                have pz2 : wz.cell? ⟨bb, bo + j * 2 + 1, none⟩ = some (.slice sab bl scb) := by rw [hwz]; exact bq2
                                have HSN2 : Hid (∀ v2 w2, w2.ownsRow wn.heap.size 48 2 v2 (Y + 1) (ccells (nv ++ [(bw, .slice sab bl scb)])) → (wz.alloc (.cells #[.int .i64 (bw : Int), .slice sab bl scb] 48)).grownBy w2 (Value.slice a18 Y c18).ownBlock → NextAt (next ++ [(bw, Bj.2)]) wn w2 v2 (nv ++ [(bw, .slice sab bl scb)])) := hide fun v2 w2 ho hg => unhide HSNOC v2 w2 nq ho (by rw [← hwz]; exact hg)
                                have hwzs : wn.heap.size ≤ wz.heap.size := by rw [hwz]; exact hwrs
                                clear hwz bq1 bq2 HSNOC HOWN hwrs
                                go_upto_region 39 with (at_builtin; go_must (refine wpList_append_coins rfl (.tmp 155) (.tmp 160) rfl wn.heap.size (.slice a18 Y c18) Y nv (by rfl) ((unhide HOWN2).alloc _) (some ⟨wz.heap.size, 0, none⟩) 1 1 [(bw, .slice sab bl scb)] rfl (by rfl) (unhide HCO) (unhide HSLO) (by omega) (by simp; omega) ?_; intro v2 w2 ho2 hg2; have HNX2 := hide (unhide HSN2 v2 w2 ho2 hg2); clear ho2 hg2))
                                clear HSN2 HOWN2 HCO
                                go_wp2_with fail
                                go_roundg (N - (j + 1))
                                case measure => omega
                                case rel => exact ⟨i, j + 1, _, _, _, rfl, by omega, by omega, rfl, rfl, by go_num, HMID2, HNX2, HNI2⟩
                              · have HXX : i = pk.length ∨ ¬ (pk.getD i Merge.d0).1 < (bse.getD j Merge.d0).1 := .inl (by rw [← unhide HKK]; omega)
                                have hii : ¬ (i : Int) < (K : Int) := by omega
                                clear hgo
                                have HMID2 : Hid (Merge.Mid bse pk (next ++ [(bw, Bj.2)]) i (j + 1)) := hide (by
                                  have := (unhide hmid).own (by rw [unhide HBLN]; exact hjl) HXX
                                  rw [← unhide HBJ] at this
                                  have e : Bj = (bw, Bj.2) := by rw [unhide HBWT]
                                  rw [← e]
                                  exact this)
                                have HSNOC : Hid (∀ v2 w2 q, w2.ownsRow wn.heap.size 48 2 v2 (Y + 1) (ccells (nv ++ [(bw, .slice sab bl scb)])) → ((wr.drewN q).alloc (.cells #[.int .i64 (bw : Int), .slice sab bl scb] 48)).grownBy w2 (Value.slice a18 Y c18).ownBlock → NextAt (next ++ [(bw, Bj.2)]) wn w2 v2 (nv ++ [(bw, .slice sab bl scb)])) := hide fun v2 w2 q ho hg => by
                                  have h1 := (unhide hnx).drewN q
                                  rw [← unhide HY] at h1
                                  exact h1.snoc (unhide HBQ3) (by rw [← unhide HY]; exact ho) hg
                                have HSLO : Hid (Slices [(bw, .slice sab bl scb)]) := hide fun c hc => by simp at hc; subst hc; exact ⟨_, _, _, rfl⟩
                                have HNI2 : Hid (NotIn g (nv ++ [(bw, .slice sab bl scb)])) := hide ((unhide hni).snoc (unhide HBQ4))
                                clear hmid hnx HXX hni
                                go_wp2_with fail
                                go_quiet (fail)
                                have HCO := hide (coin_one (wr.drewN nq) bw (.slice sab bl scb))
                                have HOWN2 : Hid ((wr.drewN nq).ownsRow wn.heap.size 48 2 (.slice a18 Y c18) Y (ccells nv)) := hide (unhide HOWN)
                                obtain ⟨wz, hwz⟩ : ∃ wz, wz = wr.drewN nq := ⟨_, rfl⟩
                                rw [← hwz] at HCO HOWN2
                                rw [← hwz]
                                have pz1 : wz.cell? ⟨bb, bo + j * 2, none⟩ = some (.int .i64 (bw : Int)) := by rw [hwz]; exact bq1
                                have pz2 : wz.cell? ⟨bb, bo + j * 2 + 1, none⟩ = some (.slice sab bl scb) := by rw [hwz]; exact bq2
                                have HSN2 : Hid (∀ v2 w2, w2.ownsRow wn.heap.size 48 2 v2 (Y + 1) (ccells (nv ++ [(bw, .slice sab bl scb)])) → (wz.alloc (.cells #[.int .i64 (bw : Int), .slice sab bl scb] 48)).grownBy w2 (Value.slice a18 Y c18).ownBlock → NextAt (next ++ [(bw, Bj.2)]) wn w2 v2 (nv ++ [(bw, .slice sab bl scb)])) := hide fun v2 w2 ho hg => unhide HSNOC v2 w2 nq ho (by rw [← hwz]; exact hg)
                                have hwzs : wn.heap.size ≤ wz.heap.size := by rw [hwz]; exact hwrs
                                clear hwz bq1 bq2 HSNOC HOWN hwrs
                                go_upto_region 39 with (at_builtin; go_must (refine wpList_append_coins rfl (.tmp 155) (.tmp 160) rfl wn.heap.size (.slice a18 Y c18) Y nv (by rfl) ((unhide HOWN2).alloc _) (some ⟨wz.heap.size, 0, none⟩) 1 1 [(bw, .slice sab bl scb)] rfl (by rfl) (unhide HCO) (unhide HSLO) (by omega) (by simp; omega) ?_; intro v2 w2 ho2 hg2; have HNX2 := hide (unhide HSN2 v2 w2 ho2 hg2); clear ho2 hg2))
                                clear HSN2 HOWN2 HCO
                                go_wp2_with fail
                                go_roundg (N - (j + 1))
                                case measure => omega
                                case rel => exact ⟨i, j + 1, _, _, _, rfl, by omega, by omega, rfl, rfl, by go_num, HMID2, HNX2, HNI2⟩
                        · have hji : ¬ (j : Int) < (N : Int) := by omega
                          have hnl := (unhide hmid).len
                          have hwrs := (unhide hnx).bel.size
                          have HBN := hide (unhide hnx).bel
                          obtain ⟨a18, c18, rfl, -, -⟩ := own_coins (unhide hnx).own
                          obtain ⟨Y, hY⟩ : ∃ Y, Y = next.length := ⟨_, rfl⟩
                          rw [← hY] at hnl ⊢
                          have HY := hide hY
                          have hYb : Y ≤ 300000 := by omega
                          have HOWN : Hid (wr.ownsRow wn.heap.size 48 2 (.slice a18 Y c18) Y (ccells nv)) := hide (by have := (unhide hnx).own; rw [← hY] at this; exact this)
                          obtain ⟨-, pa', pc', pvv, e, hrc, hcr, hpn⟩ := unhide HPKL
                          injection e with ea eb ec
                          subst ea ec
                          have hpvl := hcr.1
                          have HFIN : Hid (∀ v2 w2, w2.ownsRow wn.heap.size 48 2 v2 (Y + (K - i)) (ccells (nv ++ pvv.drop i)) → Below wn.heap.size wn w2 → CoinsG g w2 v2 (Merge.rounds bse (k + 1 - 1)) ∧ Below W.heap.size W w2) := hide fun v2 w2 ho hb => by
                            refine ⟨?_, (unhide HBWN).trans (hb.mono (unhide HBWN).size)⟩
                            have h1 := (unhide hnx).finishG (g := g) hcr (by rw [← unhide HKK]; exact hiK) (by rw [← unhide HY, ← unhide HKK]; exact ho) hb (by have h5 := (unhide HBWN).size; have h6 := unhide HGW; omega) (unhide hni) hpn
                            have h2 := (unhide hmid).done (by rw [unhide HBLN]; omega)
                            rw [← h2] at h1
                            have h3 : Merge.rounds bse (k + 1 - 1) = Merge.mrg bse pk := by
                              rw [show k + 1 - 1 = (k - 1) + 1 by omega, Merge.rounds, ← unhide HCOINS, ← unhide HPK0]
                            rw [h3]
                            exact h1
                          have HSL2 : Hid (Slices (pvv.drop i)) := hide fun c hc => hcr.slices c (List.mem_of_mem_drop hc)
                          have HDL0 : Hid (K - i = (pvv.drop i).length) := hide (by rw [List.length_drop, hpvl, ← unhide HKK])
                          have HPV : Hid (pvv.length = K) := hide (by rw [hpvl, ← unhide HKK])
                          clear hY hnl hmid hnx eb hpvl hcr hpn hni
                          by_cases hke : i = pc
                          · have HSB : Hid (ReadsC wn (some ⟨pb, po, none⟩) 0 (pvv.drop i)) := hide (by
                              have e : pvv.drop i = [] := List.drop_eq_nil_of_le (by have := unhide HPV; omega)
                              rw [e]
                              exact .inr ⟨pb, po, rfl, by simp, fun j hj => by simp at hj⟩)
                            have hQk : K - i = 0 := by omega
                            have HDL : Hid (0 = (pvv.drop i).length) := hide (by rw [← unhide HDL0, hQk])
                            rw [hQk] at HFIN
                            subst hke
                            clear HDL0 hrc
                            go_upto_region 27 with (at_builtin; go_must (refine wpList_append_coins rfl (.tmp 162) (.tmp 165) rfl wn.heap.size (.slice a18 Y c18) Y nv (by rfl) (unhide HOWN) (some ⟨pb, po, none⟩) 0 0 (pvv.drop i) (unhide HDL) (by rfl) ((unhide HSB).stays (unhide HBN)) (unhide HSL2) (by omega) hwrs ?_; intro v2 w2 ho2 hg2; have HNX2 := hide (unhide HFIN v2 w2 ho2 ((unhide HBN).grown hg2 hwrs (fun x e => ((unhide HOWN).lt x e).1))); clear ho2 hg2))
                            clear HFIN HOWN HBN
                            go_wp2_with fail
                            go_roundg (M - (k + 1))
                            case measure => omega
                            case rel => exact ⟨k + 1, _, rfl, by omega, by omega, rfl, by go_num, hide (unhide HNX2).2, hide (unhide HNX2).1⟩
                          · have HSB : Hid (ReadsC wn (some ⟨pb, po + i * 2, none⟩) (pc - i) (pvv.drop i)) := hide (by
                              have := hrc.sub i (K - i) (by have := unhide HPV; omega) (pc - i) (by omega)
                              rw [List.take_of_length_le (by have := unhide HPV; simp; omega)] at this
                              exact this)
                            have hkl : ¬ pc - i = 0 := by omega
                            have HDL := HDL0
                            clear HDL0 hrc
                            go_upto_region 27 with (at_builtin; go_must (refine wpList_append_coins rfl (.tmp 162) (.tmp 165) rfl wn.heap.size (.slice a18 Y c18) Y nv (by rfl) (unhide HOWN) (some ⟨pb, po + i * 2, none⟩) (K - i) (pc - i) (pvv.drop i) (unhide HDL) (by rfl) ((unhide HSB).stays (unhide HBN)) (unhide HSL2) (by omega) hwrs ?_; intro v2 w2 ho2 hg2; have HNX2 := hide (unhide HFIN v2 w2 ho2 ((unhide HBN).grown hg2 hwrs (fun x e => ((unhide HOWN).lt x e).1))); clear ho2 hg2))
                            clear HFIN HOWN HBN
                            go_wp2_with fail
                            go_roundg (M - (k + 1))
                            case measure => omega
                            case rel => exact ⟨k + 1, _, rfl, by omega, by omega, rfl, by go_num, hide (unhide HNX2).2, hide (unhide HNX2).1⟩
                · have hki : ¬ (k : Int) < (M : Int) := by omega
                  obtain rfl : k = M := by omega
                  have HSM := hide (unhide HSMALL (k - 1) (by omega))
                  have hiz := (unhide HZ).stays (unhide hbw) (unhide HGW)
                  obtain ⟨coins, hcoins⟩ : ∃ coins, coins = Merge.rounds bse (k - 1) := ⟨_, rfl⟩
                  have hen : 2 * N - 2 ≤ coins.length := by
                    rw [hcoins, unhide HBSE]
                    have := Merge.enough (wt os) l k hM1 (by rw [← unhide HNN, ← unhide HP2]; omega)
                    rw [← unhide HNN] at this
                    exact this
                  rw [← hcoins] at hco HSM
                  have HCOINS := hide hcoins
                  obtain ⟨wk, rfl⟩ : ∃ wk, wk = wr := ⟨_, rfl⟩
                  obtain ⟨cb, co, cc, rfl, hcbg, hcc, hget⟩ := (unhide hco).get (by have := (unhide HSM).ge; rw [← unhide HNN] at this; omega)
                  have HGET := hide hget
                  have hC1 := (unhide HSM).len
                  obtain ⟨C, hC⟩ : ∃ C, C = coins.length := ⟨_, rfl⟩
                  rw [← hC] at hcc hC1 HGET hen ⊢
                  have HC := hide hC
                  obtain ⟨T2, hT2⟩ : ∃ T2 : Nat, 2 * (N : Int) - 2 = (T2 : Int) := ⟨2 * N - 2, by omega⟩
                  have HT2 : Hid (T2 = 2 * N - 2) := hide (by omega)
                  have hTC : T2 ≤ C := by omega
                  have HCN0 : Hid (CntAt wk wk g nn (fun x => (Merge.syms (coins.take 0)).count x)) := hide ⟨hiz.congr fun i _ => by simp [Merge.syms], Only.refl _ _⟩
                  clear hget hC hcoins hiz hen
                  go_wp2_with fail
                  go_loopg [21] T2 (fun gk d ws => ∃ (i : Nat), gk = T2 - i ∧ i ≤ T2 ∧ d = .int .i64 (i : Int) ∧ Hid (CntAt wk ws g nn (fun x => (Merge.syms (coins.take i)).count x)))
                  case atStart => exact ⟨0, by omega, by omega, rfl, HCN0⟩
                  case round =>
                    obtain ⟨i, rfl, hi, rfl, hcn⟩ := hrel
                    by_cases hil : i < T2
                    · have hii : (i : Int) < (T2 : Int) := by omega
                      have hiC : (i : Int) < (C : Int) := by omega
                      obtain ⟨sv, q1, q2, q3, q4⟩ := unhide HGET i (by omega)
                      obtain ⟨sa, sc, rfl, hsr⟩ := q3
                      have hmem := Merge.getD_mem_coin coins i (by rw [← unhide HC]; omega)
                      have hall := (unhide HSM).all _ hmem
                      have hsl := (unhide HSM).syms _ hmem
                      have HTS := hide (Merge.syms_take_succ coins i (by rw [← unhide HC]; omega))
                      obtain ⟨L, hL⟩ : ∃ L, L = (coins.getD i Merge.d0).2 := ⟨_, rfl⟩
                      rw [← hL] at q2 q4 hsr hall hsl HTS
                      replace q2 := (unhide hcn).cell q2 hcbg
                      obtain ⟨sl, hsll⟩ : ∃ sl, sl = L.length := ⟨_, rfl⟩
                      rw [← hsll] at q2 q4 hsl
                      have HSLL := hide hsll
                      have HALL := hide hall
                      have HSR := hide hsr
                      have HQ4 := hide q4
                      obtain ⟨SY, hSY⟩ : ∃ SY, SY = Merge.syms (coins.take i) := ⟨_, rfl⟩
                      rw [← hSY] at hcn HTS
                      have hsyl : SY.length ≤ 1310720 := by
                        have h1 := (unhide HSM).tot
                        have h2 : Merge.syms coins = SY ++ Merge.syms (coins.drop i) := by rw [hSY, ← Merge.syms_append, List.take_append_drop]
                        rw [h2, List.length_append] at h1
                        omega
                      have HCN1 : Hid (CntAt wk wr g nn (fun x => SY.count x + (L.take 0).count x)) := hide ⟨(unhide hcn).ia.congr fun i _ => by simp, (unhide hcn).only⟩
                      clear hcn q1 q4 hall hL hmem hsll hsr hSY
                      go_wp2_with fail
                      go_loopg [23] sl (fun gk d ws => ∃ (t : Nat), gk = sl - t ∧ t ≤ sl ∧ d = .int .i64 (t : Int) ∧ Hid (CntAt wk ws g nn (fun x => SY.count x + (L.take t).count x)))
                      case atStart => exact ⟨0, by omega, by omega, rfl, HCN1⟩
                      case round =>
                        obtain ⟨t, rfl, ht, rfl, hct⟩ := hrel
                        by_cases htl : t < sl
                        · have hti : (t : Int) < (sl : Int) := by omega
                          have htL : t < L.length := by rw [← unhide HSLL]; exact htl
                          rcases unhide HSR with ⟨_, _, hc⟩ | ⟨ad, rfl, hcell⟩
                          · exfalso
                            have := congrArg List.length hc
                            rw [nats_length, List.length_nil] at this
                            omega
                          · obtain ⟨s, hs⟩ : ∃ s, s = L.getD t 0 := ⟨_, rfl⟩
                            have hsn : s < nn := by
                              rw [unhide HN]
                              refine unhide HALL s ?_
                              rw [hs, List.getD_eq_getElem?_getD, List.getElem?_eq_getElem htL]
                              exact List.getElem_mem _
                            have hc0 := hcell t (.int .i64 (s : Nat)) (by rw [hs]; simp [nats, iv, htL])
                            have hsp : ad.spot = none := by
                              have h1 := hcell 0 (iv (L.getD 0 0 : Nat)) (by simp [nats, iv, show 0 < L.length by omega])
                              simpa [Addr.add] using World.cell?_spot h1
                            obtain ⟨sb, so, sp⟩ := ad
                            simp only at hsp
                            subst hsp
                            rw [show (⟨sb, so, none⟩ : Addr).add t = ⟨sb, so + t, none⟩ by by_cases hq : t = 0 <;> simp [Addr.add, hq]] at hc0
                            have hsbg : sb ≠ g := fun e => unhide HQ4 (by rw [e]; rfl)
                            replace hc0 := (unhide hct).cell hc0 hsbg
                            have z1 := (unhide hct).ia.cell s hsn
                            have z2 := (unhide hct).ia.free s
                            have HINC := hide ((unhide hct).inc hs htL)
                            have hcb : SY.count s + (L.take t).count s ≤ 3000000 := by
                              have h1 := List.count_le_length (a := s) (l := SY)
                              have h2 := List.count_le_length (a := s) (l := L.take t)
                              rw [List.length_take] at h2
                              omega
                            obtain ⟨V, hV⟩ : ∃ V, V = SY.count s + (L.take t).count s := ⟨_, rfl⟩
                            rw [← hV] at z1 HINC hcb
                            have hsi : (s : Int) < (nn : Int) := by omega
                            clear hs hV hcell hct q2
                            go_wp2_with fail
                            go_roundg (sl - (t + 1))
                            case measure => omega
                            case rel => exact ⟨t + 1, rfl, by omega, by go_num, by first | exact HINC | (have := unhide HINC; exact hide this)⟩
                        · obtain rfl : t = sl := by omega
                          have hti : ¬ (t : Int) < (t : Int) := by omega
                          have HC2 : Hid (CntAt wk wr g nn (fun x => (Merge.syms (coins.take (i + 1))).count x)) := hide ⟨(unhide hct).ia.congr fun x _ => by
                            rw [unhide HTS, List.count_append, List.take_of_length_le (by rw [← unhide HSLL]; exact Nat.le_refl _)], (unhide hct).only⟩
                          clear hct q2
                          go_wp2_with fail
                          go_roundg (T2 - (i + 1))
                          case measure => omega
                          case rel => exact ⟨i + 1, rfl, by omega, by go_num, HC2⟩
                    · obtain rfl : i = T2 := by omega
                      have hii : ¬ (i : Int) < (i : Int) := by omega
                      have HE2 := hide (unhide HEND wr ((unhide hcn).ia.congr fun x _ => by
                        rw [ans_out hM1 (by rw [← unhide HNN, ← unhide HP2]; omega) (by rw [← unhide HNN]; omega)]
                        unfold Merge.out
                        rw [← unhide HBSE, ← unhide HCOINS, ← unhide HNN, ← unhide HT2]) (((unhide HBW).trans ((unhide hbw).mono (unhide HBW).size)).trans ((unhide hcn).only.below (unhide HGW2) (by have h1 := (unhide HBW).size; have h2 := (unhide hbw).size; omega))))
                      clear hcn HEND
                      go_wp2_with fail
                      go_ret2
                      exact unhide HE2

end Go.Proofs.Ytdpbjeajipggbaa
