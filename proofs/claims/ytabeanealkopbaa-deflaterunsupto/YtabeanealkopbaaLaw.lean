/- The law of Runs: the program's lists are the document's. -/
import Derived.Test.YtabeanealkopbaaRns
namespace Go.Proofs.Ytabeanealkopbaa
open Go.RowKit Infl Defl
set_option maxRecDepth 100000
set_option linter.unusedVariables false

attribute [local go_sem ↓] Go.wp_at_zero Go.wp_at_succ

/-- what a slice of ints reads as, with a nil one told apart -/
def ReadsN (w : World) (a : Option Addr) (cap : Nat) (zs : List Int) : Prop := (a = none ∧ cap = 0 ∧ zs = []) ∨ ∃ ad, a = some ad ∧ ∀ (j : Nat) u, (zs.map iv)[j]? = some u → w.cell? (ad.add j) = some u

theorem ReadsN.reads {w : World} {a : Option Addr} {cap : Nat} {zs : List Int} (h : ReadsN w a cap zs) : ReadsI w (.slice a zs.length cap) zs := by
  refine ⟨a, cap, rfl, fun h0 => ?_⟩
  rcases h with ⟨_, _, rfl⟩ | ⟨ad, rfl, hc⟩
  · simp at h0
  · have h1 := hc 0 (iv zs[0]) (by simp [h0])
    have hsp : ad.spot = none := by
      cases hs : ad.spot with
      | none => rfl
      | some x =>
        exfalso
        rw [show ad.add 0 = ad by simp [Addr.add]] at h1
        unfold World.cell? at h1
        split at h1
        · rw [hs] at h1; simp at h1
        · cases h1
    refine ⟨ad.block, ad.off, by cases ad; simp_all, fun j hj => ?_⟩
    have h2 := hc j (iv zs[j]) (by simp [hj])
    have e : ad.add j = ⟨ad.block, ad.off + j, none⟩ := by
      cases ad
      simp only at hsp
      subst hsp
      by_cases hq : j = 0 <;> simp [Addr.add, hq]
    rw [e] at h2
    simpa [iv, hj] using h2

theorem ReadsN.stays {w w1 : World} (hb : Below w.heap.size w w1) {a : Option Addr} {cap : Nat} {zs : List Int} (h : ReadsN w a cap zs) : ReadsN w1 a cap zs := by
  rcases h with h | ⟨ad, rfl, hc⟩
  · exact .inl h
  · exact .inr ⟨ad, rfl, fun j u hj => cell_stays hb (hc j u hj)⟩

theorem own_reads {w : World} {base n : Nat} {v : Value} {zs : List Int} (h : w.ownsRow base 3 1 v n (zs.map iv)) (hn : n = zs.length) : ReadsI w v zs := by
  subst hn
  rcases h.2 with ⟨e, e'⟩ | ⟨g, cap, cur, e, _, hh, _, _, _, ht⟩
  · exact ⟨none, 0, by rw [e, e'], fun h0 => by omega⟩
  · refine ⟨_, cap, e, fun h0 => ⟨g, 0, rfl, fun j hj => ?_⟩⟩
    have h2 : (cur.toList.take (zs.length * 1))[j]? = some (iv zs[j]) := by rw [ht]; simp [hj]
    rw [List.getElem?_take, if_pos (by omega)] at h2
    simp only [World.cell?, hh, Nat.zero_add]
    simpa [iv, hj] using h2

theorem own_readsN {w : World} {base n : Nat} {a : Option Addr} {c : Nat} {zs : List Int} (h : w.ownsRow base 3 1 (.slice a n c) n (zs.map iv)) : ReadsN w a c zs := by
  rcases h.2 with ⟨e, e'⟩ | ⟨g, cap, cur, e, _, hh, _, _, _, ht⟩
  · injection e with e1 e2 e3
    have := h.1
    simp [e'] at this
    exact .inl ⟨e1, e3, this⟩
  · injection e with e1 e2 e3
    exact .inr ⟨_, e1, h.cells (by rw [e1]; rfl)⟩

theorem built_own (w : World) (base : Nat) (hb : base ≤ w.heap.size) : (w.alloc (.cells #[] 3)).ownsRow base 3 1 (.slice (some ⟨w.heap.size, 0, none⟩) 0 0) 0 (([] : List Int).map iv) := by
  have := World.ownsRow_made (base := base) (e := 3) (size := 1) w #[] 0 hb (by unfold maxLen; omega) rfl
  simpa using this

theorem wpList_append_ints {w : World} {ops : Array Oper} {rest : List Oper} {o : Oper} {a : Act} {Q : Exit → Act → World → Prop} (hgd : o.guard = none) (s x : Operand)
    (ho : o.op = .call { callee := .builtin .append, args := #[s, x], argTypes := #[28, 28] })
    (base : Nat) (v : Value) (n : Nat) (xs : List Int) (hs : a.eval s = v) (hown : w.ownsRow base 3 1 v n (xs.map iv))
    (sa : Option Addr) (m c : Nat) (zs : List Int) (hm : m = zs.length) (hx : a.eval x = .slice sa m c) (hr : ReadsN w sa c zs) (h63 : (n + m) * 8 ≤ 140737488355328) (hbase : base ≤ w.heap.size)
    (h : ∀ v' w', w'.ownsRow base 3 1 v' (n + m) ((xs ++ zs).map iv) → w.grownBy w' v.ownBlock → (v' = .slice none 0 0 ↔ v = .slice none 0 0 ∧ m = 0) → wpList Try.prog ops Q rest (a.put o.dst v') w') : wpList Try.prog ops Q (o :: rest) a w := by
  obtain ⟨i0, hii, hz0, hz1, hz2⟩ := info_parts info3'
  rcases hr with ⟨rfl, rfl, rfl⟩ | ⟨ad, rfl, hc⟩
  · obtain rfl : m = 0 := hm
    exact wpList_append_own_none hgd s x 28 ho base 3 i0 1 Try.underlying28 hii v n (xs.map iv) hs hown hx (h v w (by simpa using hown) (World.grownBy.refl _ _) (by simp))
  · exact wpList_append_own (w := w) hgd s x 28 ho base 3 i0 _ 1 8 Try.underlying28 hii hz0 hz1 hz2 rfl (by decide) v n (xs.map iv) hs hown ad m c (zs.map iv) hx (by simp [hm]) hc
      (by intro u hu; simp at hu; obtain ⟨z, _, rfl⟩ := hu; rfl) (by unfold maxLen; omega) h63 hbase (fun v' w' h1 h2 h3 => h v' w' (by simpa using h1) h2 h3)


/-- what may change: one row's block -/
structure Row1 (v : Value) (w w' : World) : Prop where
  os : w'.os = w.os
  tape : w'.tape = w.tape
  output : w'.output = w.output
  size : w.heap.size ≤ w'.heap.size
  keep : ∀ k, k < w.heap.size → v.ownBlock ≠ some k → w'.heap[k]? = w.heap[k]?

/-- within same: the row from a place on -/
structure SmAt (w ws : World) (xs : List Int) (v : Value) (g k : Nat) : Prop where
  row1 : Row1 v w ws
  blk : ∃ cur : Array Value, ws.heap[g]? = some (.cells cur 3 (0, 0)) ∧ xs.length ≤ cur.size ∧ ∀ j, k ≤ j → j < xs.length → cur[j]? = some (iv (xs.getD j 0))

theorem SmAt.drewN {w ws : World} {xs : List Int} {v : Value} {g k : Nat} (h : SmAt w ws xs v g k) (q : Nat) : SmAt w (ws.drewN q) xs v g k := ⟨⟨h.row1.os, h.row1.tape, h.row1.output, h.row1.size, h.row1.keep⟩, h.blk⟩

theorem SmAt.cell {w ws : World} {xs : List Int} {v : Value} {g k : Nat} (h : SmAt w ws xs v g k) (hk : k < xs.length) : ws.cell? ⟨g, k, none⟩ = some (.int .i64 (xs.getD k 0)) ∧ ws.frozen? ⟨g, k, none⟩ = false := by
  obtain ⟨cur, h1, h2, h3⟩ := h.blk
  refine ⟨?_, by simp [World.frozen?, h1]⟩
  simp only [World.cell?, h1]
  exact h3 k (Nat.le_refl _) hk

theorem SmAt.set {w ws : World} {xs : List Int} {v : Value} {g k : Nat} (h : SmAt w ws xs v g k) (hv : v.ownBlock = some g) (u : Value) : SmAt w (ws.setCell ⟨g, k, none⟩ u) xs v g (k + 1) := by
  obtain ⟨cur, h1, h2, h3⟩ := h.blk
  refine ⟨⟨h.row1.os, h.row1.tape, h.row1.output, by simpa using h.row1.size, fun x hx hne => ?_⟩, cur.setIfInBounds k u, heap_setCell_same _ g k cur 3 _ h1, by simpa using h2, fun j hj hl => ?_⟩
  · rw [heap_setCell_other _ _ _ _ (by show x ≠ g; intro e; subst e; exact hne hv)]
    exact h.row1.keep x hx hne
  · rw [Array.getElem?_setIfInBounds]
    rw [if_neg (by omega)]
    exact h3 j (by omega) hl

set_option maxHeartbeats 2000000 in
theorem same_ok (xs : List Int) (v u : Value) (base : Nat) (w : World) (ho : w.ownsRow base 3 1 v xs.length (xs.map iv)) (hu : ReadsI w u xs) (hd : 0 < xs.length → ∀ b off ln c, u = .slice (some ⟨b, off, none⟩) ln c → v.ownBlock ≠ some b) (hl : xs.length ≤ 100000000000) :
    Calls Try.prog 11 #[v, u] w fun e w' => e = .returned (.bool true) ∧ Row1 v w w' := by
  obtain ⟨ub, cb, rfl, hc⟩ := hu
  have HR0 : Hid (Row1 v w w) := hide ⟨rfl, rfl, rfl, Nat.le_refl _, fun _ _ _ => rfl⟩
  rcases Nat.eq_zero_or_pos xs.length with h0 | h0
  · rw [h0]
    obtain ⟨va, ca, rfl⟩ : ∃ va ca, v = .slice va 0 ca := by
      rcases ho.2 with ⟨e, e'⟩ | ⟨g, cap, cur, e, _⟩
      · exact ⟨none, 0, e⟩
      · exact ⟨_, cap, by rw [e, h0]⟩
    clear ho hc hd
    go_enter Try.func11, Try.ntmps11
    go_wp2_with fail
    go_loopg [5] 0 (fun gk d ws => gk = 0 ∧ d = .int .i64 0 ∧ ws = w)
    case atStart => exact ⟨rfl, rfl, rfl⟩
    case round =>
      obtain ⟨rfl, rfl, rfl⟩ := hrel
      go_wp2_with fail
      go_ret
      exact ⟨rfl, unhide HR0⟩
  · obtain ⟨bb, off, rfl, hcell⟩ := hc h0
    clear hc
    obtain ⟨g, ca, cur, rfl, hb, hh, hn, hcc, hs, ht⟩ : ∃ g cap, ∃ cur : Array Value, v = .slice (some ⟨g, 0, none⟩) xs.length cap ∧ base ≤ g ∧ w.heap[g]? = some (.cells cur 3 (0, 0)) ∧ xs.length ≤ cap ∧ cap ≤ maxLen ∧ cur.size = cap * 1 ∧ cur.toList.take (xs.length * 1) = xs.map iv := by
      rcases ho.2 with ⟨e, e'⟩ | ⟨g, cap, cur, e, hb, hh, hn, hc, hs, ht⟩
      · omega
      · exact ⟨g, cap, cur, e, hb, hh, hn, hc, hs, ht⟩
    have hne : g ≠ bb := fun e => hd h0 bb off _ _ rfl (by rw [← e]; rfl)
    have HST : Hid (SmAt w w xs (.slice (some ⟨g, 0, none⟩) xs.length ca) g 0) := hide ⟨unhide HR0, cur, hh, by omega, fun j _ hj => by
      have : (cur.toList.take (xs.length * 1))[j]? = some (iv (xs.getD j 0)) := by rw [ht]; simp [hj]
      rw [List.getElem?_take, if_pos (by omega)] at this
      simpa using this⟩
    have HC : Hid (∀ ws k j, SmAt w ws xs (.slice (some ⟨g, 0, none⟩) xs.length ca) g k → j < xs.length → ws.cell? ⟨bb, off + j, none⟩ = some (.int .i64 (xs.getD j 0))) := hide (fun ws k j h hj => by
      have h1 := hcell j hj
      have h2 := cell_lt h1
      simp only [World.cell?] at h1 ⊢
      rw [h.row1.keep bb h2 (by simp only [Value.ownBlock]; intro e; injection e with e; exact hne e)]
      exact h1)
    obtain ⟨n, hN⟩ : ∃ n, n = xs.length := ⟨_, rfl⟩
    have HN := hide hN
    rw [← hN] at hl h0 HST HC ⊢
    clear hN hcell hd ho hh hb hn hcc hs ht HR0
    go_enter Try.func11, Try.ntmps11
    go_wp2_with fail
    go_loopg [5] n (fun gk d ws => ∃ k : Nat, gk = n - k ∧ k ≤ n ∧ d = .int .i64 (k : Int) ∧ SmAt w ws xs (.slice (some ⟨g, 0, none⟩) n ca) g k)
    case atStart => exact ⟨0, by omega, by omega, rfl, unhide HST⟩
    case round =>
      clear HST
      obtain ⟨k, rfl, hk, rfl, hat⟩ := hrel
      by_cases hlt : k < n
      · have e1 : (k : Int) < (n : Int) := by omega
        obtain ⟨k1, k2⟩ := hat.cell (by rw [← unhide HN]; exact hlt)
        have k3 := unhide HC _ _ k hat hlt
        have HNX : Hid (∀ q, SmAt w ((wr.drewN q).setCell ⟨g, k, none⟩ (.int .i64 (-1))) xs (.slice (some ⟨g, 0, none⟩) n ca) g (k + 1)) := hide (fun q => (hat.drewN q).set rfl _)
        generalize xs.getD k 0 = y at k1 k3
        have t1 : (y != y) = false := by simp
        clear hat
        go_wp2_with fail
        go_quiet (fail)
        go_wp2_with fail
        go_roundg (n - (k + 1))
        case measure => omega
        case rel => exact ⟨k + 1, rfl, by omega, by go_num, unhide HNX nq⟩
      · obtain rfl : k = n := by omega
        have HR := hide hat.row1
        clear hat
        go_wp2_with fail
        go_ret
        exact ⟨rfl, unhide HR⟩

end Go.Proofs.Ytabeanealkopbaa
