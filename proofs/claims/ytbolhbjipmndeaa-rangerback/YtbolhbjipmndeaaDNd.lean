/- A decoder's Tree with arguments that may not be; NewDecoder. -/
import Derived.Test.YtbolhbjipmndeaaDDt
import Derived.Test.YtbolhbjipmndeaaDEr
namespace Go.Proofs.Ytbolhbjipmndeaa.D
open Go.RowKit Rang
set_option maxRecDepth 100000
set_option linter.unusedVariables false
attribute [local go_sem ↓] Go.wp_at_zero Go.wp_at_succ

set_option maxHeartbeats 4000000 in
theorem dtree_bad (w : World) (pb gc cc : Nat) (ba : Option Addr) (bc : Nat) (Bs : List Nat) (d : Dec) (ch : List Nat) (base n : Int) (high : Bool) (h : DS w pb gc cc ba bc Bs d ch) (hN : ch.length ≤ 140737488355328) (hb : base ≤ 9223372036854775807) (hm : ¬ MayB base n ch.length) :
    Calls Try.prog 35 #[.pointer (some ⟨pb, 0, none⟩), .int .i64 base, .int .i64 n, .bool high] w fun e w' => e = .returned (.tuple #[.int .i64 0, .int .i64 2]) ∧ w = w' := by
  have c0 := h.da.chv
  obtain ⟨N, hNN⟩ : ∃ N, N = ch.length := ⟨_, rfl⟩
  rw [← hNN] at c0 hN hm
  clear hNN h
  have HM := hide (may_bad base n N w hN hb hm)
  clear hm
  go_enter Try.func35, Try.ntmps35
  go_wp2_with fail
  refine (unhide HM).mono ?_
  rintro e w1 ⟨rfl, rfl⟩
  go_wp2_with fail
  go_ret2
  exact ⟨rfl, rfl⟩

set_option maxHeartbeats 2000000 in
theorem newd_arg (bv0 : Option Addr) (L cap : Nat) (n : Int) (w : World) (hn : n < 0 ∨ 65536 < n) : Calls Try.prog 26 #[.slice bv0 L cap, .int .i64 n] w fun e w' => e = .returned (.tuple #[.pointer none, .int .i64 2]) ∧ w = w' := by
  by_cases h1 : n < 0
  · have d1 : decide (n < 0) = true := decide_eq_true h1
    go_enter Try.func26, Try.ntmps26
    go_wp2_with fail
    go_ret2
    exact ⟨rfl, rfl⟩
  · have d1 : decide (n < 0) = false := decide_eq_false h1
    have h2 : 65536 < n := by omega
    have d2 : decide (65536 < n) = true := decide_eq_true h2
    go_enter Try.func26, Try.ntmps26
    go_wp2_with fail
    go_ret2
    exact ⟨rfl, rfl⟩

set_option maxHeartbeats 2000000 in
theorem newd_end (bv0 : Option Addr) (L cap : Nat) (n : Nat) (w : World) (hn : n ≤ 65536) (hL : L < 5) : Calls Try.prog 26 #[.slice bv0 L cap, .int .i64 (n : Int)] w fun e w' => e = .returned (.tuple #[.pointer none, .int .i64 10]) ∧ w = w' := by
  have t1 : ¬ (65536 : Int) < (n : Int) := by omega
  have d1 : decide ((n : Int) < 0) = false := decide_eq_false (by omega)
  have t2 : (L : Int) < 5 := by omega
  go_enter Try.func26, Try.ntmps26
  go_wp2_with fail
  go_ret2
  exact ⟨rfl, rfl⟩

set_option maxHeartbeats 2000000 in
theorem newd_form (ba : Option Addr) (bc : Nat) (Bs : List Nat) (n : Nat) (w : World) (hn : n ≤ 65536) (hL : 5 ≤ Bs.length) (hB : BytesIn w ba Bs) (hz : Bs.getD 0 0 ≠ 0) : Calls Try.prog 26 #[.slice ba Bs.length bc, .int .i64 (n : Int)] w fun e w' => e = .returned (.tuple #[.pointer none, .int .i64 11]) ∧ w = w' := by
  obtain ⟨g, off, rfl, c1⟩ := hB 0 (by omega)
  rw [Nat.add_zero] at c1
  have t1 : ¬ (65536 : Int) < (n : Int) := by omega
  have d1 : decide ((n : Int) < 0) = false := decide_eq_false (by omega)
  obtain ⟨L, hLL⟩ : ∃ L, L = Bs.length := ⟨_, rfl⟩
  rw [← hLL] at hL ⊢
  have t2 : ¬ (L : Int) < 5 := by omega
  have t3 : (0 : Int) < (L : Int) := by omega
  obtain ⟨x, hx⟩ : ∃ x, x = Bs.getD 0 0 := ⟨_, rfl⟩
  rw [← hx] at c1 hz
  have t4 : ((x : Int) == 0) = false := by simp; omega
  clear hx hLL hB
  go_enter Try.func26, Try.ntmps26
  go_wp2_with fail
  go_ret2
  exact ⟨rfl, rfl⟩

/-- the number of the first bytes behind the first -/
def codeTo (Bs : List Nat) (i : Nat) : Nat := num ((Bs.take i).drop 1)

theorem codeTo_succ (Bs : List Nat) (i : Nat) (h1 : 1 ≤ i) (h : i < Bs.length) : codeTo Bs (i + 1) = codeTo Bs i * 256 + Bs.getD i 0 := by
  unfold codeTo num
  rw [List.take_add_one, List.getElem?_eq_getElem h, List.drop_append_of_le_length (by rw [List.length_take]; omega), List.foldl_append, List.getD_eq_getElem?_getD, List.getElem?_eq_getElem h]
  rfl

theorem codeTo_one (Bs : List Nat) : codeTo Bs 1 = 0 := by
  unfold codeTo num
  cases Bs <;> simp

theorem codeTo_lt (Bs : List Nat) (hs : ∀ z ∈ Bs, z < 256) (i : Nat) (h1 : 1 ≤ i) (h5 : i ≤ 5) (h : i ≤ Bs.length) : codeTo Bs i < 256 ^ (i - 1) := by
  induction i with
  | zero => omega
  | succ k ih =>
    rcases Nat.eq_zero_or_pos k with rfl | hk
    · rw [codeTo_one]; decide
    · rw [codeTo_succ Bs k hk (by omega)]
      have a := ih hk (by omega) (by omega)
      have b : Bs.getD k 0 < 256 := by
        rw [List.getD_eq_getElem?_getD, List.getElem?_eq_getElem (by omega)]
        exact hs _ (List.getElem_mem _)
      rw [show k + 1 - 1 = (k - 1) + 1 by omega, Nat.pow_succ]
      generalize 256 ^ (k - 1) = P at a ⊢
      omega

set_option maxHeartbeats 8000000 in
theorem newd_ok (ba : Option Addr) (bc : Nat) (Bs : List Nat) (n : Nat) (w : World) (hn : n ≤ 65536) (hL : 5 ≤ Bs.length) (hLm : Bs.length ≤ 140737488355328) (hB : BytesIn w ba Bs) (hs : ∀ z ∈ Bs, z < 256) (hz : Bs.getD 0 0 = 0) : Calls Try.prog 26 #[.slice ba Bs.length bc, .int .i64 (n : Int)] w fun e w' => ∃ pb, e = .returned (.tuple #[.pointer (some ⟨pb, 0, none⟩), .int .i64 0]) ∧ DS w' pb w.heap.size n ba bc Bs (dec0 Bs) (List.replicate n 1024) ∧ Below w.heap.size w w' ∧ w.heap.size ≤ pb := by
  have HB := hide hB
  have HS := hide hs
  obtain ⟨g, off, rfl, c1⟩ := hB 0 (by omega)
  rw [Nat.add_zero, hz] at c1
  have HC := hide (even_ok n w hn)
  have t1 : ¬ (65536 : Int) < (n : Int) := by omega
  have d1 : decide ((n : Int) < 0) = false := decide_eq_false (by omega)
  obtain ⟨L, hLL⟩ : ∃ L, L = Bs.length := ⟨_, rfl⟩
  have HL := hide hLL
  rw [← hLL] at hL hLm ⊢
  have t2 : ¬ (L : Int) < 5 := by omega
  have t3 : (0 : Int) < (L : Int) := by omega
  clear hLL hB hs hz
  go_enter Try.func26, Try.ntmps26
  go_wp2_with fail
  refine (unhide HC).mono ?_
  rintro e w1 ⟨rfl, h1, h2⟩
  have H1 := hide h1
  have H2 := hide h2
  clear h1 h2 HC
  go_wp2_with fail
  have H3 : Hid (DAt (w1.alloc (.cells #[.slice (some ⟨w.heap.size, 0, none⟩) n n, .int .u64 4294967295, .int .u64 0, .slice (some ⟨g, off, none⟩) L bc, .int .i64 5, .bool false] 56)) w1.heap.size w.heap.size n (some ⟨g, off, none⟩) bc Bs ⟨codeTo Bs 1, 4294967295, 5, false⟩ (List.replicate n 1024) ∧ Below w.heap.size w (w1.alloc (.cells #[.slice (some ⟨w.heap.size, 0, none⟩) n n, .int .u64 4294967295, .int .u64 0, .slice (some ⟨g, off, none⟩) L bc, .int .i64 5, .bool false] 56))) := hide (by
    have hs' := (unhide H2).size
    have hb2 := (unhide H2).alloc hs' (.cells #[.slice (some ⟨w.heap.size, 0, none⟩) n n, .int .u64 4294967295, .int .u64 0, .slice (some ⟨g, off, none⟩) L bc, .int .i64 5, .bool false] 56)
    refine ⟨⟨?_, ?_, (unhide HB).stays hb2, unhide HS, ?_⟩, hb2⟩
    · rw [heap_alloc_new, List.length_replicate, codeTo_one, ← unhide HL]
      rfl
    · exact (unhide H1).of (Below.heap_alloc _ _ _ (unhide H1).lt)
    · intro g' off' e hp
      have e1 : g = g' := by injection e with e; injection e
      subst e1
      have hg : g < w.heap.size := by
        rcases Nat.lt_or_ge g w.heap.size with hh | hh
        · exact hh
        · exfalso
          have := c1
          simp [World.cell?, Array.getElem?_eq_none hh] at this
      omega)
  obtain ⟨pb, hpb⟩ : ∃ pb, pb = w1.heap.size := ⟨_, rfl⟩
  obtain ⟨W, hW⟩ : ∃ W, W = (w1.alloc (.cells #[.slice (some ⟨w.heap.size, 0, none⟩) n n, .int .u64 4294967295, .int .u64 0, .slice (some ⟨g, off, none⟩) L bc, .int .i64 5, .bool false] 56)) := ⟨_, rfl⟩
  have HP : Hid (w.heap.size ≤ pb) := hide (by rw [hpb]; exact (unhide H2).size)
  rw [← hpb] at H3 ⊢
  rw [← hW] at H3 ⊢
  clear hpb hW H1 H2 c1 d1 t1 t2 t3 HB
  go_loopg [7] 4 (fun gk d ws => ∃ (i : Nat), gk = 5 - i ∧ 1 ≤ i ∧ i ≤ 5 ∧ d = .int .i64 (i : Int) ∧ Hid (DAt ws pb w.heap.size n (some ⟨g, off, none⟩) bc Bs ⟨codeTo Bs i, 4294967295, 5, false⟩ (List.replicate n 1024) ∧ Below w.heap.size w ws))
  case atStart => exact ⟨1, rfl, by omega, by omega, rfl, H3⟩
  case round =>
    clear H3
    obtain ⟨i, rfl, hi1, hi5, rfl, HR⟩ := hrel
    by_cases hlt : i < 5
    · have tl : (i : Int) < 5 := by omega
      have hiL : i < Bs.length := by rw [← unhide HL]; omega
      have tiL : (i : Int) < (L : Int) := by omega
      obtain ⟨g', off', e0, cb⟩ := (unhide HR).1.bytes i hiL
      obtain ⟨rfl, rfl⟩ : g = g' ∧ off = off' := by injection e0 with e0; injection e0 with e1 e2; exact ⟨e1, e2⟩
      clear e0
      have hx := unhide HS _ (getD_mem hiL)
      have hcl := codeTo_lt Bs (unhide HS) i hi1 (by omega) (by omega)
      have hcl2 : codeTo Bs i < 16777216 := Nat.lt_of_lt_of_le hcl (by
        have := Nat.pow_le_pow_right (show 0 < 256 by decide) (show i - 1 ≤ 3 by omega)
        simpa using this)
      clear hcl
      have HSU := hide (codeTo_succ Bs i hi1 hiL)
      have HA := hide (unhide HR).1
      have HBl := hide (unhide HR).2
      have c2 : wr.cell? ⟨pb, 2, none⟩ = some (.int .u64 (codeTo Bs i : Int)) := (unhide HA).code
      have f2 := (unhide HA).free 2
      obtain ⟨x, hxx⟩ : ∃ x, x = Bs.getD i 0 := ⟨_, rfl⟩
      obtain ⟨cd, hcd⟩ : ∃ cd, cd = codeTo Bs i := ⟨_, rfl⟩
      rw [← hxx] at cb hx HSU
      rw [← hcd] at hcl2 HSU c2 HA
      clear hxx hcd HR
      have fcm : IntKind.u64.wrap ((cd : Int) * 256) = (cd : Int) * 256 := IntWalk.u64_in _ (by omega)
      have fxm : IntKind.u64.wrap (x : Int) = (x : Int) := IntWalk.u64_in _ (by omega)
      have fsm : IntKind.u64.wrap ((cd : Int) * 256 + (x : Int)) = (cd : Int) * 256 + (x : Int) := IntWalk.u64_in _ (by omega)
      go_upto_region 1 with fail
      have m2 : wr.drew.cell? ⟨pb, 2, none⟩ = some (.int .u64 (cd : Int)) := c2
      have mb : wr.drew.cell? ⟨g, off + i, none⟩ = some (.int .u8 (x : Int)) := cb
      have mf : wr.drew.frozen? ⟨pb, 2, none⟩ = false := f2
      refine wp_tail 14 (by kernel_rfl) (by kernel_rfl) ?_
      simp only [List.take_succ_cons, List.take_zero, List.drop_succ_cons, List.drop_zero]
      repeat still_step
      try refine wpStill_nil ?_
      have h4' := ((unhide HA).drewN 1).setField 2 (.int .u64 ((cd : Int) * 256 + (x : Int))) ⟨codeTo Bs (i + 1), 4294967295, 5, false⟩ (by rw [unhide HSU]; simp [dcells])
      have HE3 := hide h4'.1
      have HD3 : Hid (Below w.heap.size w (wr.drew.setCell ⟨pb, 2, none⟩ (.int .u64 ((cd : Int) * 256 + (x : Int))))) := hide ((unhide HBl).drew.setCell (unhide HP) _)
      clear h4' fcm fxm hx hcl2 cb mb
      go_wp2_with fail
      go_roundg (5 - (i + 1))
      case measure => omega
      case rel => exact ⟨i + 1, rfl, by omega, by omega, by go_num, hide ⟨unhide HE3, unhide HD3⟩⟩
    · obtain rfl : i = 5 := by omega
      go_wp2_with fail
      go_ret2
      have hA := (unhide HR).1
      have hcl := codeTo_lt Bs (unhide HS) 5 (by omega) (by omega) (by rw [← unhide HL]; omega)
      refine ⟨pb, rfl, ⟨hA, ⟨?_, ?_, ?_, ?_⟩, ?_, ?_⟩, (unhide HR).2, unhide HP⟩
      · exact (by decide : 4294967295 < 4294967296)
      · exact hcl
      · show 5 ≤ Bs.length
        rw [← unhide HL]; exact hL
      · intro _
        exact (by decide : 16777216 ≤ 4294967295)
      · intro p hp
        rw [List.mem_replicate] at hp
        omega
      · rw [← unhide HL]; exact hLm
end Go.Proofs.Ytbolhbjipmndeaa.D
