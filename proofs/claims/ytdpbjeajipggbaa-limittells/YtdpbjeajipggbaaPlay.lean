/- playRounds: what the coins of each round are worth. -/
import Derived.Test.YtdpbjeajipggbaaMgd
import Derived.Test.YtdpbjeajipggbaaCome
namespace Go.Proofs.Ytdpbjeajipggbaa
open Go.RowKit
set_option linter.unusedVariables false

attribute [local go_sem ↓] Go.wp_at_zero Go.wp_at_succ

/-- what the symbols are worth, in their order -/
def worths (os : List Int) (l : List Nat) : List Nat := l.map (wt os)
theorem worths_length (os : List Int) (l : List Nat) : (worths os l).length = l.length := by simp [worths]
theorem worths_get (os : List Int) (l : List Nat) (i : Nat) (h : i < l.length) : (worths os l).getD i 0 = wt os (l.getD i 0) := by simp [worths, h]

theorem info57 : (Try.prog.info? 57).map (fun i => (i.zero, i.size, i.bytes)) = some (some (.agg #[.slice none 0 0, .slice none 0 0]), 2, 48) := by kernel_rfl

theorem rounds_made (w : World) (n : Nat) (hn : n ≤ 65536) : (Instr.makeSlice 43 (.int .i64 (n : Int)) (.int .i64 (n : Int))).run Try.prog w = .ok (.slice (some ⟨w.heap.size, 0, none⟩) n n) (w.alloc (.cells (madeCells #[.slice none 0 0, .slice none 0 0] (n * 2)) 57)) := by
  obtain ⟨i0, hi, hz0, hz1, hz2⟩ := info_parts info57
  have := run_make (P := Try.prog) w 43 57 i0 _ Try.underlying43 hi hz0 .i64 .i64 (n : Int) (n : Int) (by omega) (by omega) (by rw [hz2]; omega) (by omega)
  rw [hz1] at this
  exact this

/-- the first k rounds -/
structure RoundsAt (w : World) (g M : Nat) (wl : List Nat) (k : Nat) : Prop where
  row : ∃ cur : Array Value, w.heap[g]? = some (.cells cur 57 (0, 0)) ∧ cur.size = M * 2
  got : ∀ j, j < k → ∃ v1 v2, w.cell? ⟨g, j * 2, none⟩ = some v1 ∧ w.cell? ⟨g, j * 2 + 1, none⟩ = some v2 ∧ ReadsF (g + 1) w v2 (ints (Merge.ahd wl (Merge.bk wl j))) ∧ ∃ a l c, v1 = .slice a l c

theorem RoundsAt.cell {w : World} {g M : Nat} {wl : List Nat} {k : Nat} (h : RoundsAt w g M wl k) (j : Nat) (hj : j < M * 2) : (∃ y, w.cell? ⟨g, j, none⟩ = some y) ∧ w.frozen? ⟨g, j, none⟩ = false := by
  obtain ⟨cur, hh, hs⟩ := h.row
  refine ⟨⟨cur[j], ?_⟩, by simp [World.frozen?, hh]⟩
  simp only [World.cell?, hh]
  simp [show j < cur.size by omega]

theorem ReadsF.stays {lo : Nat} {w w1 : World} (hb : Below w.heap.size w w1) {v : Value} {zs : List Int} (h : ReadsF lo w v zs) : ReadsF lo w1 v zs := by
  obtain ⟨a, cap, rfl, hs⟩ := h
  refine ⟨a, cap, rfl, fun h0 => ?_⟩
  obtain ⟨b, off, rfl, h1, h2⟩ := hs h0
  exact ⟨b, off, rfl, h1, fun j hj => cell_stays hb (h2 j hj)⟩

theorem ReadsF.other {g : Nat} {w : World} {v : Value} {zs : List Int} (h : ReadsF (g + 1) w v zs) (o : Nat) (x : Value) : ReadsF (g + 1) (w.setCell ⟨g, o, none⟩ x) v zs := by
  obtain ⟨a, cap, rfl, hs⟩ := h
  refine ⟨a, cap, rfl, fun h0 => ?_⟩
  obtain ⟨b, off, rfl, h1, h2⟩ := hs h0
  refine ⟨b, off, rfl, h1, fun j hj => ?_⟩
  rw [World.cell?_of_block (w := w) (heap_setCell_other _ _ _ _ (by show b ≠ g; omega))]
  exact h2 j hj

theorem ReadsF.more {lo lo' : Nat} {w : World} {v : Value} {zs : List Int} (h : ReadsF lo w v zs) (hl : lo' ≤ lo) : ReadsF lo' w v zs := by
  obtain ⟨a, cap, rfl, hs⟩ := h
  exact ⟨a, cap, rfl, fun h0 => by obtain ⟨b, off, e, h1, h2⟩ := hs h0; exact ⟨b, off, e, by omega, h2⟩⟩

theorem RoundsAt.stays {w w1 : World} {g M : Nat} {wl : List Nat} {k : Nat} (h : RoundsAt w g M wl k) (hb : Below w.heap.size w w1) : RoundsAt w1 g M wl k := by
  obtain ⟨cur, hh, hs⟩ := h.row
  refine ⟨⟨cur, by rw [hb.block g (heap_lt hh)]; exact hh, hs⟩, fun j hj => ?_⟩
  obtain ⟨v1, v2, h1, h2, h3, h4⟩ := h.got j hj
  exact ⟨v1, v2, cell_stays hb h1, cell_stays hb h2, h3.stays hb, h4⟩

theorem RoundsAt.set {w : World} {g M : Nat} {wl : List Nat} {k : Nat} (h : RoundsAt w g M wl k) (hk : k < M) {v1 v2 : Value} (h2 : ReadsF (g + 1) w v2 (ints (Merge.ahd wl (Merge.bk wl k)))) (hv : ∃ a l c, v1 = .slice a l c) :
    RoundsAt ((w.setCell ⟨g, k * 2, none⟩ v1).setCell ⟨g, k * 2 + 1, none⟩ v2) g M wl (k + 1) := by
  obtain ⟨cur, hh, hs⟩ := h.row
  have e1 := heap_setCell_same w g (k * 2) cur 57 v1 hh
  have e2 := heap_setCell_same _ g (k * 2 + 1) _ 57 v2 e1
  refine ⟨⟨_, e2, by simpa using hs⟩, fun j hj => ?_⟩
  by_cases e : j = k
  · subst e
    refine ⟨v1, v2, ?_, ?_, (h2.other _ _).other _ _, hv⟩
    · simp only [World.cell?, e2]
      simp [show j * 2 < cur.size by omega]
    · simp only [World.cell?, e2]
      simp [show j * 2 + 1 < cur.size by omega]
  · obtain ⟨u1, u2, k1, k2, k3, k4⟩ := h.got j (by omega)
    refine ⟨u1, u2, ?_, ?_, (k3.other _ _).other _ _, k4⟩
    · rw [World.cell?_setCell_other (h := by intro e; injection e with e1 e2; omega), World.cell?_setCell_other (h := by intro e; injection e with e1 e2; omega)]; exact k1
    · rw [World.cell?_setCell_other (h := by intro e; injection e with e1 e2; omega), World.cell?_setCell_other (h := by intro e; injection e with e1 e2; omega)]; exact k2

theorem RoundsAt.made (w : World) (M : Nat) (wl : List Nat) : RoundsAt (w.alloc (.cells (madeCells #[.slice none 0 0, .slice none 0 0] (M * 2)) 57)) w.heap.size M wl 0 :=
  ⟨⟨_, heap_alloc_new _ _, by simp [madeCells]⟩, fun j hj => absurd hj (Nat.not_lt_zero _)⟩

/-- the rounds that have been played, and what their last packages are worth -/
structure PlayAt (w ws : World) (gw g M : Nat) (wl : List Nat) (pv : Value) (k : Nat) : Prop where
  wor : IntsAt ws .i64 3 gw wl.length (fun i => wl.getD i 0)
  rds : RoundsAt ws g M wl k
  pks : ReadsI ws pv (ints (Merge.bk wl k))
  lo : w.heap.size ≤ gw
  ne : gw < g
  bel : Below w.heap.size w ws

theorem PlayAt.next {w ws w1 : World} {gw g M : Nat} {wl : List Nat} {pv v1 v2 : Value} {k : Nat} (h : PlayAt w ws gw g M wl pv k) (hk : k < M) (hb : Below ws.heap.size ws w1)
    (h1 : ReadsF (ws.heap.size + 1) w1 v1 (ints (Merge.mgd wl (Merge.bk wl k)))) (h2 : ReadsF (ws.heap.size + 1) w1 v2 (ints (Merge.ahd wl (Merge.bk wl k)))) :
    (∃ y, w1.cell? ⟨g, k * 2, none⟩ = some y) ∧ (∃ y, w1.cell? ⟨g, k * 2 + 1, none⟩ = some y) ∧ w1.frozen? ⟨g, k * 2, none⟩ = false ∧ w1.frozen? ⟨g, k * 2 + 1, none⟩ = false ∧
    ReadsI ((w1.setCell ⟨g, k * 2, none⟩ v1).setCell ⟨g, k * 2 + 1, none⟩ v2) v1 (ints (Merge.wr wl k)) ∧
    (∀ w4 pv', Below ((w1.setCell ⟨g, k * 2, none⟩ v1).setCell ⟨g, k * 2 + 1, none⟩ v2).heap.size ((w1.setCell ⟨g, k * 2, none⟩ v1).setCell ⟨g, k * 2 + 1, none⟩ v2) w4 → ReadsI w4 pv' (ints (Merge.packW (Merge.wr wl k))) → PlayAt w w4 gw g M wl pv' (k + 1)) := by
  obtain ⟨cur, hh, hs⟩ := h.rds.row
  have hg : g < ws.heap.size := heap_lt hh
  have hr1 := h.rds.stays hb
  have c1 := hr1.cell (k * 2) (by omega)
  have c2 := hr1.cell (k * 2 + 1) (by omega)
  have hsz := hb.size
  have hlo := h.lo
  have hne := h.ne
  refine ⟨c1.1, c2.1, c1.2, c2.2, (((h1.more (by omega)).other _ _).other _ _).reads, fun w4 pv' k1 k2 => ?_⟩
  have hw : IntsAt w1 .i64 3 gw wl.length (fun i => wl.getD i 0) := h.wor.stays hb h.wor.lt
  have hw2 : IntsAt ((w1.setCell ⟨g, k * 2, none⟩ v1).setCell ⟨g, k * 2 + 1, none⟩ v2) .i64 3 gw wl.length (fun i => wl.getD i 0) := (hw.other _ _ (by show gw ≠ g; omega)).other _ _ (by show gw ≠ g; omega)
  refine ⟨hw2.stays k1 hw2.lt, (hr1.set hk (h2.more (by omega)) (by obtain ⟨a, c, e, _⟩ := h1; exact ⟨a, _, c, e⟩)).stays k1, k2, hlo, hne, ?_⟩
  have b1 : Below w.heap.size w w1 := h.bel.trans (hb.mono h.bel.size)
  exact (b1.trans (((Below.refl _ _).setCell (by show w.heap.size ≤ g; omega) _).setCell (by show w.heap.size ≤ g; omega) _)).trans (k1.mono (by simpa using b1.size))

set_option maxRecDepth 100000 in
set_option maxHeartbeats 2000000 in
theorem play_ok (os : List Int) (l : List Nat) (M : Nat) (v : Value) (w : World) (hc : ComesAt w v os l) (hl : l.length ≤ 65536) (hM1 : M ≤ 20) (hb : ∀ k, k < 20 → ∀ x ∈ Merge.wr (worths os l) k, x ≤ 1152921504606846976) :
    Calls Try.prog 17 #[v, .int .i64 (M : Int)] w fun e w' => ∃ g, e = .returned (.slice (some ⟨g, 0, none⟩) M M) ∧ RoundsAt w' g M (worths os l) M ∧ w.heap.size ≤ g ∧ Below w.heap.size w w' := by
  obtain ⟨a, cap, rfl, hcap, hsp⟩ := hc
  have HSP := hide hsp
  have HB := hide hb
  clear hsp hb
  obtain ⟨n, hn⟩ : ∃ n, n = l.length := ⟨_, rfl⟩
  rw [← hn] at HSP hl hcap ⊢
  have HN := hide hn
  clear hn
  have hmk := ints_made w n hl
  have hz : IntsAt (w.alloc (.cells (icells .i64 n fun _ => 0) 3)) .i64 3 w.heap.size n (fun _ => 0) := heap_alloc_new _ _
  have hb0 : Below w.heap.size w (w.alloc (.cells (icells .i64 n fun _ => 0) 3)) := (Below.refl _ _).alloc (Nat.le_refl _) _
  obtain ⟨W1, hW1⟩ : ∃ W1, W1 = w.alloc (.cells (icells .i64 n fun _ => 0) 3) := ⟨_, rfl⟩
  rw [← hW1] at hmk hz hb0
  obtain ⟨g, hg⟩ : ∃ g, g = w.heap.size := ⟨_, rfl⟩
  rw [← hg] at hmk hz
  have HG := hide hg
  have HZ := hide hz
  have HB0 := hide hb0
  clear hW1 hz hb0 hg
  go_enter Try.func17, Try.ntmps17
  go_wp2_with fail
  go_loopg [16] n (fun gk d ws => ∃ (k : Nat) (C : Nat → Nat), gk = n - k ∧ k ≤ n ∧ d = .int .i64 (k : Int) ∧ IntsAt ws .i64 3 g n C ∧ (∀ i, i < k → C i = (worths os l).getD i 0) ∧ Below w.heap.size w ws)
  case atStart => exact ⟨0, _, by omega, by omega, rfl, unhide HZ, fun i h => by omega, unhide HB0⟩
  case round =>
    obtain ⟨k, C, rfl, hk, rfl, hat, hC, hbel⟩ := hrel
    clear hmk HZ HB0
    by_cases hlt : k < n
    · obtain ⟨b, off, rfl, hcell⟩ := unhide HSP (by omega)
      have k1 := cell_stays hbel (hcell k hlt).1
      have k2 := cell_stays hbel (hcell k hlt).2
      obtain ⟨s, hs⟩ : ∃ s, s = l.getD k 0 := ⟨_, rfl⟩
      obtain ⟨t, ht⟩ : ∃ t, t = wt os (l.getD k 0) := ⟨_, rfl⟩
      rw [← hs] at k1
      rw [← ht, ← Nat.add_assoc] at k2
      have hki : (k : Int) < (n : Int) := by omega
      have HX : Hid (∀ o : Obj, IntsAt ((wr.setCell ⟨g, k, none⟩ (.int .i64 (t : Int))).alloc o) .i64 3 g n (upd C k t) ∧ Below w.heap.size w ((wr.setCell ⟨g, k, none⟩ (.int .i64 (t : Int))).alloc o)) := hide fun o =>
        ⟨(hat.set k t).alloc o, (hbel.trans ((Below.refl _ _).setCell (by show w.heap.size ≤ g; exact Nat.le_of_eq (unhide HG).symm) _)).trans ((Below.refl _ _).alloc (by simpa using hbel.size) _)⟩
      have HC : Hid (∀ i, i < k + 1 → upd C k t i = (worths os l).getD i 0) := hide fun i hi => by
        unfold upd
        by_cases e : i = k
        · rw [if_pos e, e, worths_get os l k (by rw [← unhide HN]; exact hlt), ht]
        · rw [if_neg e]; exact hC i (by omega)
      have k3 := hat.cell k hlt
      have k4 := hat.free k
      have hgl : g < wr.heap.size := hat.lt
      clear hcell hat hC hbel hs ht
      go_wp2_with fail
      go_roundg (n - (k + 1))
      case measure => omega
      case rel =>
        exact ⟨k + 1, _, rfl, by omega, by go_num, (unhide HX _).1, unhide HC, (unhide HX _).2⟩
    · obtain rfl : k = n := by omega
      have hat' : IntsAt wr .i64 3 g (worths os l).length (fun i => (worths os l).getD i 0) := by
        rw [worths_length, ← unhide HN]
        exact hat.congr hC
      have HW := hide hat'
      have HBEL := hide hbel
      have hgl : g < wr.heap.size := hat.lt
      have hki : ¬ (k : Int) < (k : Int) := by omega
      clear hat hC hbel hat'
      have hmk2 := rounds_made wr M (by omega)
      have HP0 : Hid (PlayAt w (wr.alloc (.cells (madeCells #[.slice none 0 0, .slice none 0 0] (M * 2)) 57)) g wr.heap.size M (worths os l) (.slice none 0 0) 0) :=
        hide ⟨(unhide HW).alloc _, RoundsAt.made wr M _, ⟨none, 0, rfl, fun h => by simp [ints, Merge.bk] at h⟩, Nat.le_of_eq (unhide HG).symm, hgl, (unhide HBEL).trans ((Below.refl _ _).alloc (unhide HBEL).size _)⟩
      obtain ⟨W2, hW2⟩ : ∃ W2, W2 = wr.alloc (.cells (madeCells #[.slice none 0 0, .slice none 0 0] (M * 2)) 57) := ⟨_, rfl⟩
      obtain ⟨gr, hgr⟩ : ∃ gr, gr = wr.heap.size := ⟨_, rfl⟩
      rw [← hW2, ← hgr] at hmk2 HP0
      have HLO : Hid (w.heap.size ≤ gr) := hide (by rw [hgr]; exact (unhide HBEL).size)
      clear hW2 hgr HW HBEL hgl
      go_wp2_with fail
      clear hmk2
      go_loopg [9, 31] M (fun gk pv d ws => ∃ (i : Nat) (pv0 : Value), gk = M - i ∧ i ≤ M ∧ pv0 = pv ∧ d = .int .i64 (i : Int) ∧ PlayAt w ws g gr M (worths os l) pv0 i)
      case atStart => exact ⟨0, _, by omega, by omega, rfl, rfl, unhide HP0⟩
      case round =>
        obtain ⟨i, pv0, rfl, hi, rfl, rfl, hat⟩ := hrel
        clear HP0
        by_cases hlt : i < M
        · have hii : (i : Int) < (M : Int) := by omega
          have HAT := hide hat
          have HRW : Hid (ReadsI wr (.slice (some ⟨g, 0, none⟩) k k) (ints (worths os l))) := hide (hat.wor.reads rfl (fun _ _ => rfl) |> fun h => by rw [worths_length, ← unhide HN] at h; exact h)
          have HWL : Hid ((worths os l).length ≤ 65536) := hide (by rw [worths_length, ← unhide HN]; exact hl)
          clear hat
          go_wp2_with (first | (go_at_call 24; go_must (refine (merge_ok (worths os l) (Merge.bk (worths os l) i) _ _ _ (unhide HRW) (unhide HAT).pks (unhide HWL) (Nat.le_trans (Merge.bk_length _ _) (unhide HWL))).mono ?_; rintro e w1 ⟨v1, v2, rfl, h1, h2, h3⟩; obtain ⟨f1, f2, f3, f4, f5, f6⟩ := (unhide HAT).next hlt h3 h1 h2; obtain ⟨a1, c1, rfl, _⟩ := h1; obtain ⟨a2, c2, rfl, _⟩ := h2; obtain ⟨y1, f1⟩ := f1; obtain ⟨y2, f2⟩ := f2; have F5 := hide f5; have F6 := hide f6; clear h3 f5 f6)) | (go_at_call 26; go_must (refine (pack_ok (Merge.wr (worths os l) i) _ _ (unhide F5) (by rw [Merge.wr_length]; have := unhide HWL; have := Merge.bk_length (worths os l) i; omega) (unhide HB i (by omega))).mono ?_; rintro e w4 ⟨pv', rfl, h1, h2⟩; have HNX := hide (unhide F6 _ _ h2 h1); clear h1 h2)))
          go_roundg (M - (i + 1))
          case measure => omega
          case rel => exact ⟨i + 1, _, rfl, by omega, rfl, by go_num, unhide HNX⟩
        · obtain rfl : i = M := by omega
          have HE := hide hat
          clear hat
          go_wp2_with fail
          go_ret
          exact ⟨gr, rfl, (unhide HE).rds, unhide HLO, (unhide HE).bel⟩

end Go.Proofs.Ytdpbjeajipggbaa
