/- measure and Length: how many bytes tokens make. -/
import Derived.Test.YtabnfnejlffioaaKit
namespace Go.Proofs.Ytabnfnejlffioaa
open Go.RowKit
set_option linter.unusedVariables false

attribute [local go_sem ↓] Go.wp_at_zero Go.wp_at_succ

/-- the numbers are ints -/
def InT (ts : List Tok) : Prop := ∀ j, j < ts.length → (ts.getD j tz).n ≤ 9223372036854775807 ∧ (ts.getD j tz).d ≤ 9223372036854775807

theorem box_cell (w : World) (cs : Array Value) (t : TypeId) (i : Nat) (v : Value) (h : cs[i]? = some v) : (w.alloc (.cells cs t)).cell? ⟨w.heap.size, i, none⟩ = some v := by
  simp only [World.cell?, heap_alloc_new]
  exact h

theorem run_max_one {N X : Nat} (h : X = max 1 N) (w : World) : (Builtin.max_ #[3, 3] 3 #[.int .i64 1, .int .i64 (N : Int)]).run Try.prog w = .ok (.int .i64 (X : Int)) w := by
  rw [run_max_int2]
  congr 2
  split <;> omega

theorem below_next {w ws ws' : World} (h : Below w.heap.size w ws) (h' : Below ws.heap.size ws ws') : Below w.heap.size w ws' := h.trans (h'.mono h.size)

set_option maxRecDepth 100000 in
set_option maxHeartbeats 1000000 in
theorem measure_loop (ts : List Tok) (ahead : Int) (a : Option Addr) (cap B : Nat) (w : World) (hr : ReadsT B w (.slice a ts.length cap) ts) (hB : B ≤ w.heap.size) (hin : InT ts) (hlen : ts.length ≤ 140737488355328) (ha : 0 ≤ ahead) :
    Calls Try.prog 24 #[.slice a ts.length cap, .int .i64 ahead] w fun e w' => ∃ a x, e = .returned (.tuple #[.int .i64 a, .int .i64 x]) ∧ MeasIs ahead ts a x ∧ Below w.heap.size w w' := by
  have HR := hide hr
  have HIN := hide hin
  clear hr hin
  obtain ⟨m, hm⟩ : ∃ m, m = ts.length := ⟨_, rfl⟩
  rw [← hm] at HR hlen ⊢
  have HM := hide hm
  clear hm
  go_enter Try.func24, Try.ntmps24
  go_wp2_with fail
  go_loopg [6, 11] m (fun gk c d ws => ∃ (k : Nat), gk = m - k ∧ k ≤ m ∧ Hid (Good ahead ts k) ∧ Hid (Below w.heap.size w ws) ∧ c = .int .i64 (tsum ts k : Int) ∧ d = .int .i64 (k : Int))
  case atStart => exact ⟨0, by omega, by omega, hide fun j h => by omega, hide (Below.refl _ _), rfl, rfl⟩
  case round =>
    obtain ⟨k, rfl, hk, hgood, hbel, rfl, rfl⟩ := hrel
    obtain ⟨S, hS⟩ : ∃ S, S = tsum ts k := ⟨_, rfl⟩
    have hSb : S ≤ 268435456 := by rw [hS]; exact (unhide hgood).sum
    rw [← hS]
    have HS := hide hS
    clear hS
    by_cases hlt : k < m
    · obtain ⟨a', cap', e, _, hs⟩ := (unhide HR).stays ((unhide hbel).mono hB)
      injection e with e1 e2 e3
      subst e1 e3
      obtain ⟨b, off, rfl, hbB, hcell⟩ := hs (by rw [← unhide HM]; omega)
      have HIK := unhide HIN k (by rw [← unhide HM]; omega)
      obtain ⟨k1, k2, k3⟩ := hcell k (by rw [← unhide HM]; omega)
      obtain ⟨t, ht⟩ : ∃ t, t = ts.getD k tz := ⟨_, rfl⟩
      rw [← ht] at k1 k2 k3 HIK
      have HT := hide ht
      have HKN := hide HIK
      have hki : (k : Int) < (m : Int) := by omega
      obtain ⟨o3, ho3⟩ : ∃ o, o = off + k * 3 := ⟨_, rfl⟩
      clear hcell ht HIK hs e2
      go_upto_region 5 with fail
      obtain ⟨W2, hW2⟩ : ∃ W2, W2 = wr.alloc (.cells #[.int .i64 t.n, .int .i64 t.d, .int .u8 (t.b : Int)] 37) := ⟨_, rfl⟩
      have c0 : W2.cell? ⟨wr.heap.size, 0, none⟩ = some (.int .i64 t.n) := by rw [hW2]; exact box_cell _ _ _ _ _ rfl
      have c1 : W2.cell? ⟨wr.heap.size, 1, none⟩ = some (.int .i64 t.d) := by rw [hW2]; exact box_cell _ _ _ _ _ rfl
      have c2 : W2.cell? ⟨wr.heap.size, 2, none⟩ = some (.int .u8 (t.b : Int)) := by rw [hW2]; exact box_cell _ _ _ _ _ rfl
      have HB2 : Hid (Below w.heap.size w W2) := hide (by rw [hW2]; exact (unhide hbel).alloc (unhide hbel).size _)
      rw [← hW2]
      obtain ⟨g, hg⟩ : ∃ g, g = wr.heap.size := ⟨_, rfl⟩
      rw [← hg] at c0 c1 c2 ⊢
      clear hW2 hbel hg k1 k2 k3
      go_wp2_with fail
      refine (maybe_ok t W2).mono ?_
      rintro e W3 ⟨⟨rfl, hmay⟩ | ⟨rfl, hmay⟩, hb3⟩
      · have HB3 := hide (below_next (unhide HB2) hb3)
        replace c0 := cell_stays hb3 c0
        replace c1 := cell_stays hb3 c1
        clear hb3 HB2 c2
        have hd0 : 0 ≤ t.d := by rcases hmay with h | h <;> omega
        have hn0 : 0 ≤ t.n := by rcases hmay with h | h <;> omega
        have HMAY := hide hmay
        obtain ⟨D, hD⟩ := Int.eq_ofNat_of_zero_le hd0
        obtain ⟨N, hN⟩ := Int.eq_ofNat_of_zero_le hn0
        have hDb : D ≤ 9223372036854775807 := by have := (unhide HKN).2; omega
        have hNb : N ≤ 9223372036854775807 := by have := (unhide HKN).1; omega
        rw [hD] at c1
        rw [hN] at c0
        have HD := hide hD
        have HN := hide hN
        clear hD hN hd0 hn0 hmay HKN
        by_cases h14 : ahead < (D : Int) - (S : Int)
        · go_wp2_with fail
          go_ret2
          exact ⟨_, 14, rfl, .inl ⟨⟨by decide, k, by rw [← unhide HM]; exact hlt, unhide hgood, by rw [← unhide HS, ← unhide HT]; exact .inr (.inl ⟨unhide HMAY, by rw [unhide HD]; omega, rfl⟩)⟩, rfl⟩, unhide HB3⟩
        · have HSZ : Hid (t.sz = max 1 N) := hide (by
            unfold Tok.sz
            rw [unhide HN]
            by_cases h : N = 0
            · subst h; rfl
            · rw [if_neg (by omega), Int.toNat_natCast]; omega)
          obtain ⟨X, hX⟩ : ∃ X, X = max 1 N := ⟨_, rfl⟩
          have hmx := run_max_one hX
          have hXb : X ≤ 9223372036854775807 := by omega
          rw [← hX] at HSZ
          have HX := hide hX
          clear hX
          by_cases h3 : (268435456 : Int) - (S : Int) < (X : Int)
          · go_wp2_with fail
            go_ret2
            exact ⟨_, 3, rfl, .inl ⟨⟨by decide, k, by rw [← unhide HM]; exact hlt, unhide hgood, by rw [← unhide HS, ← unhide HT]; exact .inr (.inr (.inl ⟨unhide HMAY, by rw [unhide HD]; omega, by rw [unhide HSZ]; omega, rfl⟩))⟩, rfl⟩, unhide HB3⟩
          · have HG2 : Hid (Good ahead ts (k + 1)) := hide ((unhide hgood).next (by rw [← unhide HS, ← unhide HT]; exact .inr (.inr (.inr ⟨unhide HMAY, by rw [unhide HD]; omega, by rw [unhide HSZ]; omega, rfl⟩))))
            have HS2 : Hid (tsum ts (k + 1) = S + X) := hide (by rw [tsum, ← unhide HS, ← unhide HT, unhide HSZ])
            go_wp2_with fail
            go_roundg (m - (k + 1))
            case measure => omega
            case rel => exact ⟨k + 1, rfl, by omega, HG2, HB3, by rw [unhide HS2]; go_num, by go_num⟩
      · have HB3 := hide (below_next (unhide HB2) hb3)
        clear hb3 HB2 c0 c1 c2 HKN
        go_wp2_with fail
        go_ret2
        exact ⟨_, 2, rfl, .inl ⟨⟨by decide, k, by rw [← unhide HM]; exact hlt, unhide hgood, by rw [← unhide HS, ← unhide HT]; exact .inl ⟨hmay, rfl⟩⟩, rfl⟩, unhide HB3⟩
    · obtain rfl : k = m := by omega
      go_wp2_with fail
      go_ret2
      exact ⟨_, 0, rfl, .inr ⟨by rw [← unhide HM]; exact unhide hgood, by rw [← unhide HM, ← unhide HS], rfl⟩, unhide hbel⟩

theorem measure_ok (ts : List Tok) (ahead : Int) (v : Value) (B : Nat) (w : World) (hr : ReadsT B w v ts) (hB : B ≤ w.heap.size) (hin : InT ts) (hlen : ts.length ≤ 140737488355328) (ha : 0 ≤ ahead) :
    Calls Try.prog 24 #[v, .int .i64 ahead] w fun e w' => ∃ a x, e = .returned (.tuple #[.int .i64 a, .int .i64 x]) ∧ MeasIs ahead ts a x ∧ Below w.heap.size w w' := by
  obtain ⟨a, cap, rfl, h⟩ := id hr
  exact measure_loop ts ahead a cap B w hr hB hin hlen ha

/-- what a list's length is -/
def LenIs (ts : List Tok) (a e : Int) : Prop := MeasIs 9223372036854775807 ts a e

set_option maxRecDepth 100000 in
theorem length_ok (ts : List Tok) (v : Value) (B : Nat) (w : World) (hr : ReadsT B w v ts) (hB : B ≤ w.heap.size) (hin : InT ts) (hlen : ts.length ≤ 140737488355328) :
    Calls Try.prog 16 #[v] w fun e w' => ∃ a x, e = .returned (.tuple #[.int .i64 a, .int .i64 x]) ∧ LenIs ts a x ∧ Below w.heap.size w w' := by
  have HC := hide (measure_ok ts 9223372036854775807 v B w hr hB hin hlen (by decide))
  clear hr hin
  go_enter Try.func16, Try.ntmps16
  go_wp2_with (go_at_call 24; go_must (refine (unhide HC).mono ?_; rintro e w' ⟨a, x, rfl, h1, h2⟩; have H1 := hide h1; have H2 := hide h2; clear h1 h2))
  go_ret2
  exact ⟨a, x, rfl, unhide H1, unhide H2⟩

set_option maxRecDepth 100000 in
set_option maxHeartbeats 1000000 in
theorem reflen_loop (ts : List Tok) (a : Option Addr) (cap B : Nat) (w : World) (hr : ReadsT B w (.slice a ts.length cap) ts) (hB : B ≤ w.heap.size) (hin : InT ts) (hlen : ts.length ≤ 140737488355328) :
    Calls Try.prog 17 #[.slice a ts.length cap] w fun e w' => ∃ a x, e = .returned (.tuple #[.int .i64 a, .int .i64 x]) ∧ LenIs ts a x ∧ Below w.heap.size w w' := by
  have HR := hide hr
  have HIN := hide hin
  clear hr hin
  obtain ⟨m, hm⟩ : ∃ m, m = ts.length := ⟨_, rfl⟩
  rw [← hm] at HR hlen ⊢
  have HM := hide hm
  clear hm
  go_enter Try.func17, Try.ntmps17
  go_wp2_with fail
  go_loopg [4, 5] m (fun gk c d ws => ∃ (k : Nat), gk = m - k ∧ k ≤ m ∧ Hid (Good 9223372036854775807 ts k) ∧ Hid (Below w.heap.size w ws) ∧ c = .int .i64 (tsum ts k : Int) ∧ d = .int .i64 (k : Int))
  case atStart => exact ⟨0, by omega, by omega, hide fun j h => by omega, hide (Below.refl _ _), rfl, rfl⟩
  case round =>
    obtain ⟨k, rfl, hk, hgood, hbel, rfl, rfl⟩ := hrel
    obtain ⟨S, hS⟩ : ∃ S, S = tsum ts k := ⟨_, rfl⟩
    have hSb : S ≤ 268435456 := by rw [hS]; exact (unhide hgood).sum
    rw [← hS]
    have HS := hide hS
    clear hS
    by_cases hlt : k < m
    · obtain ⟨a', cap', e, _, hs⟩ := (unhide HR).stays ((unhide hbel).mono hB)
      injection e with e1 e2 e3
      subst e1 e3
      obtain ⟨b, off, rfl, hbB, hcell⟩ := hs (by rw [← unhide HM]; omega)
      have HIK := unhide HIN k (by rw [← unhide HM]; omega)
      obtain ⟨k1, k2, k3⟩ := hcell k (by rw [← unhide HM]; omega)
      obtain ⟨t, ht⟩ : ∃ t, t = ts.getD k tz := ⟨_, rfl⟩
      rw [← ht] at k1 k2 k3 HIK
      have HT := hide ht
      have HKN := hide HIK
      have hki : (k : Int) < (m : Int) := by omega
      clear hcell ht HIK hs e2
      go_wp2_with fail
      refine (may_ok t _).mono ?_
      rintro e W3 ⟨⟨rfl, hmay⟩ | ⟨rfl, hmay⟩, hb3⟩
      · have HB3 := hide (below_next (unhide hbel) hb3)
        replace k1 := cell_stays hb3 k1
        clear hb3 hbel k2 k3
        have hd0 : 0 ≤ t.d := by rcases hmay with h | h <;> omega
        have hn0 : 0 ≤ t.n := by rcases hmay with h | h <;> omega
        have HMAY := hide hmay
        obtain ⟨N, hN⟩ := Int.eq_ofNat_of_zero_le hn0
        have hNb : N ≤ 9223372036854775807 := by have := (unhide HKN).1; omega
        rw [hN] at k1
        have HN := hide hN
        have HDS : Hid (t.d ≤ 9223372036854775807 + (S : Int)) := hide (by have := (unhide HKN).2; omega)
        obtain ⟨X, hX⟩ : ∃ X, X = max 1 N := ⟨_, rfl⟩
        have HSZ : Hid (t.sz = X) := hide (by
          unfold Tok.sz
          rw [unhide HN]
          by_cases h : N = 0
          · subst h; rw [hX]; rfl
          · rw [if_neg (by omega), Int.toNat_natCast]; omega)
        have HBIG : Hid (268435456 < S + X → ∃ a x : Int, True ∧ LenIs ts 0 3) := hide fun h => ⟨0, 0, trivial, .inl ⟨⟨by decide, k, by rw [← unhide HM]; exact hlt, unhide hgood, by rw [← unhide HS, ← unhide HT]; exact .inr (.inr (.inl ⟨unhide HMAY, unhide HDS, by rw [unhide HSZ]; omega, rfl⟩))⟩, rfl⟩⟩
        have HG2 : Hid (S + X ≤ 268435456 → Good 9223372036854775807 ts (k + 1)) := hide fun h => (unhide hgood).next (by rw [← unhide HS, ← unhide HT]; exact .inr (.inr (.inr ⟨unhide HMAY, unhide HDS, by rw [unhide HSZ]; omega, rfl⟩)))
        have HS2 : Hid (tsum ts (k + 1) = S + X) := hide (by rw [tsum, ← unhide HS, ← unhide HT, unhide HSZ])
        clear hN hd0 hn0 hmay HKN
        by_cases h0 : N = 0
        · obtain rfl : X = 1 := by omega
          have e0 : ((N : Int) == 0) = true := by simp [h0]
          clear hX h0
          by_cases h3 : (268435456 : Int) - (S : Int) < 1
          · go_wp2_with fail
            go_ret2
            obtain ⟨_, _, _, h⟩ := unhide HBIG (by omega)
            exact ⟨_, 3, rfl, h, unhide HB3⟩
          · go_wp2_with fail
            go_roundg (m - (k + 1))
            case measure => omega
            case rel => exact ⟨k + 1, rfl, by omega, hide (unhide HG2 (by omega)), HB3, by rw [unhide HS2]; go_num, by go_num⟩
        · obtain rfl : X = N := by omega
          have e0 : ((X : Int) == 0) = false := by simp; omega
          clear hX h0
          by_cases h3 : (268435456 : Int) - (S : Int) < (X : Int)
          · go_wp2_with fail
            go_ret2
            obtain ⟨_, _, _, h⟩ := unhide HBIG (by omega)
            exact ⟨_, 3, rfl, h, unhide HB3⟩
          · go_wp2_with fail
            go_roundg (m - (k + 1))
            case measure => omega
            case rel => exact ⟨k + 1, rfl, by omega, hide (unhide HG2 (by omega)), HB3, by rw [unhide HS2]; go_num, by go_num⟩
      · have HB3 := hide (below_next (unhide hbel) hb3)
        clear hb3 k1 k2 k3 HKN
        go_wp2_with fail
        go_ret2
        exact ⟨_, 2, rfl, .inl ⟨⟨by decide, k, by rw [← unhide HM]; exact hlt, unhide hgood, by rw [← unhide HS, ← unhide HT]; exact .inl ⟨hmay, rfl⟩⟩, rfl⟩, unhide HB3⟩
    · obtain rfl : k = m := by omega
      go_wp2_with fail
      go_ret2
      exact ⟨_, 0, rfl, .inr ⟨by rw [← unhide HM]; exact unhide hgood, by rw [← unhide HM, ← unhide HS], rfl⟩, unhide hbel⟩

theorem reflen_ok (ts : List Tok) (v : Value) (B : Nat) (w : World) (hr : ReadsT B w v ts) (hB : B ≤ w.heap.size) (hin : InT ts) (hlen : ts.length ≤ 140737488355328) :
    Calls Try.prog 17 #[v] w fun e w' => ∃ a x, e = .returned (.tuple #[.int .i64 a, .int .i64 x]) ∧ LenIs ts a x ∧ Below w.heap.size w w' := by
  obtain ⟨a, cap, rfl, h⟩ := id hr
  exact reflen_loop ts a cap B w hr hB hin hlen

end Go.Proofs.Ytabnfnejlffioaa
