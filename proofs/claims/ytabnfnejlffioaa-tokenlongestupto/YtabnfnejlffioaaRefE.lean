/- The document's Expand. -/
import Derived.Test.YtabnfnejlffioaaExp
namespace Go.Proofs.Ytabnfnejlffioaa
open Go.RowKit
set_option linter.unusedVariables false

attribute [local go_sem ↓] Go.wp_at_zero Go.wp_at_succ

/-- the text, with a nil one told apart -/
def ReadsB (w : World) (a : Option Addr) (cap : Nat) (zs : List Nat) : Prop := (a = none ∧ cap = 0 ∧ zs = []) ∨ ∃ ad, a = some ad ∧ ∀ (j : Nat) u, (zs.map bv)[j]? = some u → w.cell? (ad.add j) = some u

theorem ReadsB.stays {w w1 : World} (hb : Below w.heap.size w w1) {a : Option Addr} {cap : Nat} {zs : List Nat} (h : ReadsB w a cap zs) : ReadsB w1 a cap zs := by
  rcases h with h | ⟨ad, rfl, hc⟩
  · exact .inl h
  · exact .inr ⟨ad, rfl, fun j u hj => cell_stays hb (hc j u hj)⟩

theorem ReadsU.b {B : Nat} {w : World} {a : Option Addr} {cap : Nat} {zs : List Nat} (h : ReadsU B w (.slice a zs.length cap) zs) (hn : a = none → cap = 0) : ReadsB w a cap zs := by
  obtain ⟨a', cap', e, hs⟩ := h.reads
  injection e with e1 e2 e3
  subst e1 e3
  cases a with
  | none =>
    refine .inl ⟨rfl, hn rfl, ?_⟩
    rcases Nat.eq_zero_or_pos zs.length with h0 | h0
    · exact List.length_eq_zero_iff.1 h0
    · obtain ⟨ad, e, _⟩ := hs h0
      cases e
  | some ad =>
    refine .inr ⟨ad, rfl, fun j u hj => ?_⟩
    rcases Nat.eq_zero_or_pos zs.length with h0 | h0
    · rw [List.length_eq_zero_iff.1 h0] at hj
      simp at hj
    · obtain ⟨ad', e, hc⟩ := hs h0
      injection e with e
      subst e
      exact hc j u hj

theorem wpList_append_bytes {w : World} {ops : Array Oper} {rest : List Oper} {o : Oper} {a : Act} {Q : Exit → Act → World → Prop} (hgd : o.guard = none) (s x : Operand)
    (ho : o.op = .call { callee := .builtin .append, args := #[s, x], argTypes := #[22, 22] })
    (base : Nat) (v : Value) (n : Nat) (xs : List Nat) (hs : a.eval s = v) (hown : w.ownsRow base 5 1 v n (xs.map bv))
    (sa : Option Addr) (m c : Nat) (zs : List Nat) (hm : m = zs.length) (hx : a.eval x = .slice sa m c) (hr : ReadsB w sa c zs) (h63 : n + m ≤ 140737488355328) (hbase : base ≤ w.heap.size)
    (h : ∀ v' w', w'.ownsRow base 5 1 v' (n + m) ((xs ++ zs).map bv) → w.grownBy w' v.ownBlock → wpList Try.prog ops Q rest (a.put o.dst v') w') : wpList Try.prog ops Q (o :: rest) a w := by
  obtain ⟨i0, hii, hz0, hz1, hz2⟩ := info_parts info5
  rcases hr with ⟨rfl, rfl, rfl⟩ | ⟨ad, rfl, hc⟩
  · obtain rfl : m = 0 := hm
    exact wpList_append_own_none hgd s x 22 ho base 5 i0 1 Try.underlying22 hii v n (xs.map bv) hs hown hx (h v w (by simpa using hown) (World.grownBy.refl _ _))
  · exact wpList_append_own (w := w) hgd s x 22 ho base 5 i0 _ 1 1 Try.underlying22 hii hz0 hz1 hz2 rfl (by decide) v n (xs.map bv) hs hown ad m c (zs.map bv) hx (by simp [hm]) hc
      (one_cells _) (by unfold maxLen; omega) (by omega) hbase (fun v' w' h1 h2 h3 => h v' w' (by simpa using h1) h2)

theorem built_none (w : World) (base : Nat) (hb : base ≤ w.heap.size) : (w.alloc (.cells #[] 5)).ownsRow base 5 1 (.slice (some ⟨w.heap.size, 0, none⟩) 0 0) 0 (([] : List Nat).map bv) := by
  have := World.ownsRow_made (base := base) (e := 5) (size := 1) w #[] 0 hb (by unfold maxLen; omega) rfl
  simpa using this

/-- a text in new memory -/
def ReadsF (B : Nat) (w : World) (v : Value) (zs : List Nat) : Prop :=
  ∃ a cap, v = .slice a zs.length cap ∧ (0 < zs.length → ∃ ad : Addr, a = some ad ∧ B ≤ ad.block ∧ ∀ (j : Nat) u, (zs.map bv)[j]? = some u → w.cell? (ad.add j) = some u)

theorem ReadsF.reads {B : Nat} {w : World} {v : Value} {zs : List Nat} (h : ReadsF B w v zs) : Reads w v zs := by
  obtain ⟨a, cap, rfl, hs⟩ := h
  exact ⟨a, cap, rfl, fun h0 => by obtain ⟨ad, e, _, hc⟩ := hs h0; exact ⟨ad, e, hc⟩⟩

/-- what the document's Expand tells -/
def RefIs (bs : List Nat) (ts : List Tok) (B : Nat) (v : Value) (x : Int) (w' : World) : Prop :=
  (Fails bs.length ts x ∧ v = .slice none 0 0) ∨ (Good bs.length ts ts.length ∧ x = 0 ∧ ReadsF B w' v (mades bs ts ts.length))

/-- behind some bytes -/
structure OutAt (w ws : World) (v : Value) (out : List Nat) : Prop where
  own : ws.ownsRow w.heap.size 5 1 v out.length (out.map bv)
  bel : Below w.heap.size w ws

theorem OutAt.app {w ws w2 : World} {v v2 : Value} {out : List Nat} {x : Nat} (h : OutAt w ws v out) (ho : w2.ownsRow w.heap.size 5 1 v2 (out.length + 1) (out.map bv ++ [bv x])) (hg : (ws.alloc (.cells #[bv x] 5)).grownBy w2 v.ownBlock) : OutAt w w2 v2 (out ++ [x]) :=
  ⟨by rw [List.length_append, List.map_append]; exact ho, (h.bel.alloc h.bel.size _).grown hg (by have := h.bel.size; simp; omega) (fun x e => (h.own.lt x e).1)⟩

theorem OutAt.tail {w ws : World} {g cap N : Nat} {bs m : List Nat} (h : OutAt w ws (.slice (some ⟨g, 0, none⟩) (bs ++ m).length cap) (bs ++ m)) (hN : N = bs.length) : ReadsF w.heap.size ws (.slice (some ⟨g, N, none⟩) ((bs ++ m).length - N) (cap - N)) m := by
  refine ⟨some ⟨g, N, none⟩, cap - N, by rw [hN]; simp, fun h0 => ⟨_, rfl, (h.own.lt g rfl).1, fun j u hj => ?_⟩⟩
  obtain ⟨g', c', e, _, _, hc⟩ := own_cells h.own (by simp; omega)
  injection e with e1 e2 e3
  injection e1 with e1
  injection e1 with e1
  subst e1
  have := piece_news (off := 0) (f := N) (k := m.length) (n := (bs ++ m).length) (zs := bs ++ m) (g := g) (w := ws) (by simpa using hc) (by rw [hN]; simp) j u
  rw [hN] at this ⊢
  simp only [List.drop_left, Nat.zero_add, List.take_length] at this
  exact this hj

/-- .. with a token beside them -/
structure InAt (w ws : World) (v : Value) (out : List Nat) (g : Nat) (cs : Array Value) : Prop where
  o : OutAt w ws v out
  tok : ws.heap[g]? = some (.cells cs 37 (0, 0))

theorem own_type {w : World} {base n x : Nat} {v : Value} {xs : List Value} (h : w.ownsRow base 5 1 v n xs) (e : v.ownBlock = some x) : ∃ cur, w.heap[x]? = some (.cells cur 5 (0, 0)) := by
  rcases h.2 with ⟨rfl, _⟩ | ⟨g, cap, cur, rfl, _, hh, _⟩
  · simp [Value.ownBlock] at e
  · simp [Value.ownBlock] at e
    subst e
    exact ⟨cur, hh⟩

theorem InAt.app {w ws w2 : World} {v v2 : Value} {out : List Nat} {x g : Nat} {cs : Array Value} (h : InAt w ws v out g cs) (ho : w2.ownsRow w.heap.size 5 1 v2 (out.length + 1) (out.map bv ++ [bv x])) (hg : (ws.alloc (.cells #[bv x] 5)).grownBy w2 v.ownBlock) : InAt w w2 v2 (out ++ [x]) g cs := by
  refine ⟨h.o.app ho hg, ?_⟩
  have hl := heap_lt h.tok
  rw [hg.block g (by simp; omega) (fun e => ?_), Below.heap_alloc _ _ _ hl]
  · exact h.tok
  · obtain ⟨cur, hc⟩ := own_type h.o.own e.symm
    rw [h.tok] at hc
    simp at hc

theorem InAt.cell {w ws : World} {v : Value} {out : List Nat} {g : Nat} {cs : Array Value} (h : InAt w ws v out g cs) (i : Nat) (u : Value) (hu : cs[i]? = some u) : ws.cell? ⟨g, i, none⟩ = some u := by
  simp only [World.cell?, h.tok]
  exact hu

set_option maxRecDepth 100000 in
set_option maxHeartbeats 2000000 in
theorem refexp_loop (bs : List Nat) (ts : List Tok) (ab at' : Option Addr) (cb ct B : Nat) (w : World) (hb : ReadsB w ab cb bs) (ht : ReadsT B w (.slice at' ts.length ct) ts) (hB : B ≤ w.heap.size) (hin : InT ts) (hbl : bs.length ≤ 274877906944) (htl : ts.length ≤ 140737488355328) :
    Calls Try.prog 15 #[.slice ab bs.length cb, .slice at' ts.length ct] w fun e w' => ∃ v x, e = .returned (.tuple #[v, .int .i64 x]) ∧ RefIs bs ts w.heap.size v x w' ∧ Below w.heap.size w w' := by
  obtain ⟨i0, hi, hz0, hz1, hz2⟩ := info_parts info5
  have HRB : Hid (ReadsB (w.alloc (.cells #[] 5)) ab cb bs) := hide (hb.stays ((Below.refl _ _).alloc (Nat.le_refl _) _))
  have HOB := hide (built_none w w.heap.size (Nat.le_refl _))
  have HT := hide (ht.mono hB)
  have HIN := hide hin
  clear hb ht hin
  obtain ⟨N, hN⟩ : ∃ N, N = bs.length := ⟨_, rfl⟩
  obtain ⟨m, hm⟩ : ∃ m, m = ts.length := ⟨_, rfl⟩
  rw [← hN] at hbl ⊢
  rw [← hm] at HT htl ⊢
  have HN := hide hN
  have HMM := hide hm
  clear hN hm
  go_enter Try.func15, Try.ntmps15
  go_upto_region 2 with (at_builtin; go_must (refine wpList_append_bytes rfl (.tmp 11) (.tmp 12) rfl w.heap.size (.slice (some ⟨w.heap.size, 0, none⟩) 0 0) 0 [] (by rfl) (unhide HOB) ab N cb bs (unhide HN) (by rfl) (unhide HRB) (by omega) (by simp) ?_; intro v1 w1 ho1 hg1; have HO1 := hide ho1; have HG1 := hide hg1; clear ho1 hg1))
  have HST : Hid (OutAt w w1 v1 (exts bs ts 0)) := hide ⟨by have := unhide HO1; rw [unhide HN] at this; simpa [exts] using this, ((Below.refl _ _).alloc (Nat.le_refl _) _).grown (unhide HG1) (by simp) (fun x e => by simp [Value.ownBlock] at e; omega)⟩
  clear HO1 HG1 HOB HRB
  go_wp2_with fail
  go_loopg [6, 7] m (fun gk c d ws => ∃ (k : Nat) (v : Value), gk = m - k ∧ k ≤ m ∧ v = c ∧ d = .int .i64 (k : Int) ∧ Hid (Good (N : Int) ts k) ∧ Hid (OutAt w ws v (exts bs ts k)))
  case atStart => exact ⟨0, _, by omega, by omega, rfl, rfl, hide fun j h => by omega, HST⟩
  case round =>
    obtain ⟨k, v, rfl, hk, rfl, rfl, hgood, hat⟩ := hrel
    by_cases hlt : k < m
    · obtain ⟨a', cap', e, _, hs⟩ := (unhide HT).stays (unhide hat).bel
      injection e with e1 e2 e3
      subst e1 e3
      obtain ⟨b, off, rfl, hbB, hcell⟩ := hs (by rw [← unhide HMM]; omega)
      obtain ⟨k1, k2, k3⟩ := hcell k (by rw [← unhide HMM]; omega)
      have HIK := unhide HIN k (by rw [← unhide HMM]; omega)
      have hol := exts_length bs ts k
      rw [← unhide HN] at hol
      have hSb := (unhide hgood).sum
      obtain ⟨t, htt⟩ : ∃ t, t = ts.getD k tz := ⟨_, rfl⟩
      rw [← htt] at k1 k2 k3 HIK
      have HTT := hide htt
      have HKN := hide HIK
      have hki : (k : Int) < (m : Int) := by omega
      obtain ⟨S, hS⟩ : ∃ S, S = tsum ts k := ⟨_, rfl⟩
      rw [← hS] at hol hSb
      have HS := hide hS
      obtain ⟨av, cv, rfl⟩ := own_shape (unhide hat).own
      rw [hol] at hat ⊢
      clear hcell htt hs e2 HIK hS
      go_upto_region 6 with fail
      obtain ⟨W2, hW2⟩ : ∃ W2, W2 = wr.alloc (.cells #[.int .i64 t.n, .int .i64 t.d, .int .u8 (t.b : Int)] 37) := ⟨_, rfl⟩
      have c0 : W2.cell? ⟨wr.heap.size, 0, none⟩ = some (.int .i64 t.n) := by rw [hW2]; exact box_cell _ _ _ _ _ rfl
      have c1 : W2.cell? ⟨wr.heap.size, 1, none⟩ = some (.int .i64 t.d) := by rw [hW2]; exact box_cell _ _ _ _ _ rfl
      have c2 : W2.cell? ⟨wr.heap.size, 2, none⟩ = some (.int .u8 (t.b : Int)) := by rw [hW2]; exact box_cell _ _ _ _ _ rfl
      have HA2 : Hid (InAt w W2 (.slice av (N + S) cv) (exts bs ts k) wr.heap.size #[.int .i64 t.n, .int .i64 t.d, .int .u8 (t.b : Int)]) := hide (by rw [hW2]; exact ⟨⟨(unhide hat).own.alloc _, (unhide hat).bel.alloc (unhide hat).bel.size _⟩, heap_alloc_new _ _⟩)
      rw [← hW2]
      obtain ⟨g, hg⟩ : ∃ g, g = wr.heap.size := ⟨_, rfl⟩
      rw [← hg] at c0 c1 c2 HA2 ⊢
      clear hW2 hat hg k1 k2 k3
      go_wp2_with fail
      refine (may_ok t W2).mono ?_
      rintro e W3 ⟨⟨rfl, hmay⟩ | ⟨rfl, hmay⟩, hb3⟩
      · have HA3 : Hid (InAt w W3 (.slice av (N + S) cv) (exts bs ts k) g #[.int .i64 t.n, .int .i64 t.d, .int .u8 (t.b : Int)]) := hide ⟨⟨own_keep (unhide HA2).o.own (fun x e => hb3.block x ((unhide HA2).o.own.lt x e).2), below_next (unhide HA2).o.bel hb3⟩, by rw [hb3.block g (heap_lt (unhide HA2).tok)]; exact (unhide HA2).tok⟩
        replace c0 := cell_stays hb3 c0
        replace c1 := cell_stays hb3 c1
        replace c2 := cell_stays hb3 c2
        clear hb3 HA2
        have hd0 : 0 ≤ t.d := by rcases hmay with h | h <;> omega
        have hn0 : 0 ≤ t.n := by rcases hmay with h | h <;> omega
        have HMAY := hide hmay
        obtain ⟨D, hD⟩ := Int.eq_ofNat_of_zero_le hd0
        obtain ⟨n, hn⟩ := Int.eq_ofNat_of_zero_le hn0
        have hDb : D ≤ 9223372036854775807 := by have := (unhide HKN).2; omega
        have hNb : n ≤ 9223372036854775807 := by have := (unhide HKN).1; omega
        rw [hD] at c1 HA3
        rw [hn] at c0 HA3
        have HD := hide hD
        have HNN := hide hn
        have HD1 : Hid (n ≠ 0 → 1 ≤ D) := hide fun h => by rcases hmay with h' | h' <;> omega
        clear hD hn hd0 hn0 hmay HKN
        by_cases h14 : ((N + S : Nat) : Int) < (D : Int)
        · go_wp2_with fail
          go_ret2
          exact ⟨_, 14, rfl, .inl ⟨⟨by decide, k, by rw [← unhide HMM]; exact hlt, by rw [← unhide HN]; exact unhide hgood, by rw [← unhide HS, ← unhide HTT, ← unhide HN]; exact .inr (.inl ⟨unhide HMAY, by rw [unhide HD]; omega, rfl⟩)⟩, rfl⟩, (unhide HA3).o.bel⟩
        · have hSN : ((N + S : Nat) : Int) - (N : Int) = (S : Int) := by omega
          obtain ⟨Z, hZ⟩ : ∃ Z, Z = N + S := ⟨_, rfl⟩
          rw [← hZ] at hSN h14 HA3 hol ⊢
          have HZ := hide hZ
          have HBIG : Hid (268435456 < S + t.sz → ∃ v x, Ending.returned (.tuple #[.slice none 0 0, .int .i64 3]) = .returned (.tuple #[v, .int .i64 x]) ∧ RefIs bs ts w.heap.size v x W3 ∧ Below w.heap.size w W3) := hide fun h => ⟨_, 3, rfl, .inl ⟨⟨by decide, k, by rw [← unhide HMM]; exact hlt, by rw [← unhide HN]; exact unhide hgood, by rw [← unhide HS, ← unhide HTT, ← unhide HN]; exact .inr (.inr (.inl ⟨unhide HMAY, by rw [unhide HD]; omega, h, rfl⟩))⟩, rfl⟩, (unhide HA3).o.bel⟩
          have HGOOD : Hid (S + t.sz ≤ 268435456 → Good (N : Int) ts (k + 1)) := hide fun h => (unhide hgood).next (by rw [← unhide HS, ← unhide HTT]; exact .inr (.inr (.inr ⟨unhide HMAY, by rw [unhide HD]; omega, h, rfl⟩)))
          have hbw := (unhide HA3).o.bel.size
          clear hZ
          by_cases hn0 : n = 0
          · subst hn0
            have hsz1 : t.sz = 1 := by unfold Tok.sz; rw [if_pos (by rw [unhide HNN]; rfl)]
            have hng : ¬ (268435456 - (S : Int)) < 0 := by omega
            by_cases hmx : S = 268435456
            · have emx : ((S : Int) == 268435456) = true := by simp; omega
              have HE2 := hide (unhide HBIG (by omega))
              clear HBIG HGOOD
              go_wp2_with fail
              go_ret2
              exact unhide HE2
            · have emx : ((S : Int) == 268435456) = false := by simp; omega
              have HG2 := hide (unhide HGOOD (by omega))
              have HEX : Hid (exts bs ts (k + 1) = cp D 0 (exts bs ts k ++ [t.b])) := hide (by rw [exts, ← unhide HTT, ext, if_pos (by rw [unhide HNN]; rfl)]; rfl)
              have HOW : Hid (W3.ownsRow w.heap.size 5 1 (.slice av Z cv) Z ((exts bs ts k).map bv)) := hide (by have := (unhide HA3).o.own; rw [hol] at this; exact this)
              have HNX : Hid (∀ v2 w2, w2.ownsRow w.heap.size 5 1 v2 (Z + 1) ((exts bs ts k).map bv ++ [bv t.b]) → (W3.alloc (.cells #[bv t.b] 5)).grownBy w2 (Value.slice av Z cv).ownBlock → InAt w w2 v2 (exts bs ts k ++ [t.b]) g #[.int .i64 ((0 : Nat) : Int), .int .i64 (D : Int), .int .u8 (t.b : Int)]) := hide fun v2 w2 ho hg => (unhide HA3).app (by rw [hol]; exact ho) hg
              have HNW : Hid (∀ (j : Nat) u, [bv t.b][j]? = some u → (W3.alloc (.cells #[bv t.b] 5)).cell? ((⟨W3.heap.size, 0, none⟩ : Addr).add j) = some u) := hide (news_one _ _)
              obtain ⟨out0, ho0⟩ : ∃ out0, out0 = exts bs ts k ++ [t.b] := ⟨_, rfl⟩
              rw [← ho0] at HEX HNX
              clear HBIG HGOOD ho0 hsz1
              go_upto_region 15 with (at_builtin; go_must (refine wpList_append_own _ rfl (.tmp 54) (.tmp 57) 22 rfl w.heap.size 5 i0 (.int .u8 0) 1 1 Try.underlying22 hi hz0 hz1 hz2 rfl (by decide) (.slice av Z cv) Z _ (by rfl) ((unhide HOW).alloc _) ⟨W3.heap.size, 0, none⟩ 1 1 [bv t.b] (by rfl) rfl (by exact unhide HNW) (by intro u hu; simp at hu; subst hu; rfl) (by unfold maxLen; omega) (by omega) (by simp; omega) ?_; intro v4 w4 ho4 hg4 _; have HIN0 := hide (unhide HNX v4 w4 ho4 hg4); clear ho4 hg4))
              obtain ⟨n, hn⟩ : ∃ n, n = 0 := ⟨_, rfl⟩
              rw [← hn] at HIN0 HEX
              have HDO : Hid (0 < n → 1 ≤ D ∧ D ≤ out0.length ∧ out0.length + n ≤ 549755813888) := hide fun h => by omega
              have HN0 := hide hn
              clear hn HNX HOW HNW HA3 c0 c1 c2
              go_wp2_with fail
              go_loopg [6, 10] n (fun gk c d ws => ∃ (j : Nat) (v : Value), gk = n - j ∧ j ≤ n ∧ v = c ∧ d = .int .i64 (j : Int) ∧ Hid (InAt w ws v (cp D j out0) g #[.int .i64 (n : Int), .int .i64 (D : Int), .int .u8 (t.b : Int)]))
              case atStart => exact ⟨0, _, by omega, by omega, rfl, rfl, HIN0⟩
              case round =>
                obtain ⟨j, v, rfl, hj, rfl, rfl, hin⟩ := hrel
                have c0 := (unhide hin).cell 0 _ rfl
                have c1 := (unhide hin).cell 1 _ rfl
                by_cases hjn : j < n
                · exact absurd hjn (by have := unhide HN0; omega)
                · obtain rfl : j = n := by omega
                  have hji : ¬ (j : Int) < (j : Int) := by omega
                  have HX2 : Hid (OutAt w wr v (exts bs ts (k + 1))) := hide (by rw [unhide HEX]; exact (unhide hin).o)
                  clear hin
                  go_wp2_with fail
                  go_roundg (m - (k + 1))
                  case measure => omega
                  case rel => exact ⟨k + 1, _, rfl, by omega, rfl, by go_num, HG2, HX2⟩
          · have hsz1 : t.sz = n := by unfold Tok.sz; rw [if_neg (by rw [unhide HNN]; omega), unhide HNN, Int.toNat_natCast]
            have en0 : ((n : Int) == 0) = false := by simp; omega
            by_cases hbig : (268435456 - (S : Int)) < (n : Int)
            · have HE2 := hide (unhide HBIG (by omega))
              clear HBIG HGOOD
              go_wp2_with fail
              go_ret2
              exact unhide HE2
            · have HG2 := hide (unhide HGOOD (by omega))
              obtain ⟨out0, ho0⟩ : ∃ out0, out0 = exts bs ts k := ⟨_, rfl⟩
              have HEX : Hid (exts bs ts (k + 1) = cp D n out0) := hide (by rw [exts, ← unhide HTT, ext, if_neg (by rw [unhide HNN]; omega), unhide HNN, unhide HD, Int.toNat_natCast, Int.toNat_natCast, ho0])
              have HIN0 : Hid (InAt w W3 (.slice av Z cv) (cp D 0 out0) g #[.int .i64 (n : Int), .int .i64 (D : Int), .int .u8 (t.b : Int)]) := hide (by rw [ho0]; exact unhide HA3)
              have HDO : Hid (0 < n → 1 ≤ D ∧ D ≤ out0.length ∧ out0.length + n ≤ 549755813888) := hide fun h => by
                have h1 := unhide HD1 (by omega)
                have h2 := unhide HZ
                rw [ho0, hol]
                omega
              clear HBIG HGOOD ho0 hsz1 HA3
              go_wp2_with fail
              clear c0 c1 c2
              go_loopg [6, 10] n (fun gk c d ws => ∃ (j : Nat) (v : Value), gk = n - j ∧ j ≤ n ∧ v = c ∧ d = .int .i64 (j : Int) ∧ Hid (InAt w ws v (cp D j out0) g #[.int .i64 (n : Int), .int .i64 (D : Int), .int .u8 (t.b : Int)]))
              case atStart => exact ⟨0, _, by omega, by omega, rfl, rfl, HIN0⟩
              case round =>
                obtain ⟨j, v, rfl, hj, rfl, rfl, hin⟩ := hrel
                have c0 := (unhide hin).cell 0 _ rfl
                have c1 := (unhide hin).cell 1 _ rfl
                by_cases hjn : j < n
                · have hji : (j : Int) < (n : Int) := by omega
                  have hcl := cp_length D out0 j
                  have h1 := unhide HDO (by omega)
                  have hbs := (unhide hin).o.bel.size
                  obtain ⟨g2, cg, rfl, hcg, hbg, hcell⟩ := own_cells (unhide hin).o.own (by omega)
                  obtain ⟨Q, hQ⟩ : ∃ Q, Q = (cp D j out0).length := ⟨_, rfl⟩
                  rw [← hQ] at hcg hcell hcl ⊢
                  obtain ⟨I, hI⟩ : ∃ I : Nat, (Q : Int) - (D : Int) = (I : Int) := ⟨Q - D, by omega⟩
                  have hIQ : I < Q := by omega
                  have cI := hcell I hIQ
                  obtain ⟨x, hx⟩ : ∃ x, x = (cp D j out0).getD I 0 := ⟨_, rfl⟩
                  rw [← hx] at cI
                  have HOW : Hid (wr.ownsRow w.heap.size 5 1 (.slice (some ⟨g2, 0, none⟩) Q cg) Q ((cp D j out0).map bv)) := hide (by have := (unhide hin).o.own; rw [← hQ] at this; exact this)
                  have HNX : Hid (∀ v2 w2, w2.ownsRow w.heap.size 5 1 v2 (Q + 1) ((cp D j out0).map bv ++ [bv x]) → (wr.alloc (.cells #[bv x] 5)).grownBy w2 (some g2) → InAt w w2 v2 (cp D (j + 1) out0) g #[.int .i64 (n : Int), .int .i64 (D : Int), .int .u8 (t.b : Int)]) := hide fun v2 w2 ho hg => by
                    have := (unhide hin).app (x := x) (by rw [← hQ]; exact ho) (by exact hg)
                    rw [cp, ← hQ, show Q - D = I by omega, ← hx]
                    exact this
                  have HNW : Hid (∀ (j : Nat) u, [bv x][j]? = some u → (wr.alloc (.cells #[bv x] 5)).cell? ((⟨wr.heap.size, 0, none⟩ : Addr).add j) = some u) := hide (news_one _ _)
                  have hQb : Q ≤ 549755813888 := by omega
                  clear hQ hcell hx hin hcl h1
                  go_upto_region 17 with (at_builtin; go_must (refine wpList_append_own _ rfl (.tmp 65) (.tmp 74) 22 rfl w.heap.size 5 i0 (.int .u8 0) 1 1 Try.underlying22 hi hz0 hz1 hz2 rfl (by decide) (.slice (some ⟨g2, 0, none⟩) Q cg) Q _ (by rfl) ((unhide HOW).alloc _) ⟨wr.heap.size, 0, none⟩ 1 1 [bv x] (by rfl) rfl (by exact unhide HNW) (by intro u hu; simp at hu; subst hu; rfl) (by unfold maxLen; omega) (by omega) (by simp; omega) ?_; intro v2 w2 ho2 hg2 _; have HN2 := hide (unhide HNX v2 w2 ho2 hg2); clear ho2 hg2))
                  go_wp2_with fail
                  go_roundg (n - (j + 1))
                  case measure => omega
                  case rel => exact ⟨j + 1, _, rfl, by omega, rfl, by go_num, HN2⟩
                · obtain rfl : j = n := by omega
                  have hji : ¬ (j : Int) < (j : Int) := by omega
                  have HX2 : Hid (OutAt w wr v (exts bs ts (k + 1))) := hide (by rw [unhide HEX]; exact (unhide hin).o)
                  clear hin
                  go_wp2_with fail
                  go_roundg (m - (k + 1))
                  case measure => omega
                  case rel => exact ⟨k + 1, _, rfl, by omega, rfl, by go_num, HG2, HX2⟩
      · have HB3 := hide (below_next (unhide HA2).o.bel hb3)
        clear hb3 HA2 c0 c1 c2 HKN
        go_wp2_with fail
        go_ret2
        exact ⟨_, 2, rfl, .inl ⟨⟨by decide, k, by rw [← unhide HMM]; exact hlt, by rw [← unhide HN]; exact unhide hgood, by rw [← unhide HS, ← unhide HTT]; exact .inl ⟨hmay, rfl⟩⟩, rfl⟩, unhide HB3⟩
    · obtain rfl : k = m := by omega
      have hat2 := unhide hat
      rw [exts_mades] at hat2
      have hml := mades_length bs ts k
      have hll : (bs ++ mades bs ts k).length = N + tsum ts k := by rw [← exts_mades, exts_length, unhide HN]
      have HBF := hide hat2.bel
      have HEND : Hid (∀ v', ReadsF w.heap.size wr v' (mades bs ts k) → ∃ v x, Ending.returned (.tuple #[v', .int .i64 0]) = .returned (.tuple #[v, .int .i64 x]) ∧ RefIs bs ts w.heap.size v x wr ∧ Below w.heap.size w wr) := hide fun v' h => ⟨v', 0, rfl, .inr ⟨by rw [← unhide HMM, ← unhide HN]; exact unhide hgood, rfl, by rw [← unhide HMM]; exact h⟩, unhide HBF⟩
      obtain ⟨S, hS⟩ : ∃ S, S = tsum ts k := ⟨_, rfl⟩
      rw [← hS] at hml hll
      rcases hat2.own.2 with ⟨rfl, h0⟩ | ⟨g, cg, cur, rfl, _, _, hle, _⟩
      · have hN0 : N = 0 := by omega
        have hS0 : S = 0 := by omega
        have HE2 := hide (unhide HEND (.slice none 0 0) ⟨none, 0, by rw [hml, hS0], fun h => by omega⟩)
        clear hat hat2 HEND HBF hS hml hll hS0 h0
        subst hN0
        go_wp2_with fail
        go_ret2
        exact unhide HE2
      · rw [hll] at hle ⊢
        by_cases hcn : cg = N
        · subst hcn
          have hS0 : S = 0 := by omega
          subst hS0
          have HE2 := hide (unhide HEND (.slice (some ⟨g, 0, none⟩) 0 0) ⟨some ⟨g, 0, none⟩, 0, by rw [hml], fun h => by omega⟩)
          clear hat hat2 HEND HBF hS hml hll
          go_wp2_with fail
          go_ret2
          exact unhide HE2
        · have hcn1 : N < cg := by omega
          have hcn2 : ¬ cg - N = 0 := by omega
          have HE2 := hide (unhide HEND (.slice (some ⟨g, N, none⟩) S (cg - N)) (by have := hat2.tail (unhide HN); rw [hll, Nat.add_sub_cancel_left] at this; exact this))
          clear hat hat2 HEND HBF hS hml hll
          go_wp2_with fail
          go_ret2
          exact unhide HE2

end Go.Proofs.Ytabnfnejlffioaa
