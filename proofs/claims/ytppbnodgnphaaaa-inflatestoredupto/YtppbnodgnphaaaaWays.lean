/- What layWays does: nodes that lead to each word. -/
import Derived.Test.YtppbnodgnphaaaaNodes
import Derived.Deep.LoopGhost
import Derived.Deep.DeepCutAuto
namespace Go.Proofs.Ytppbnodgnphaaaa
open Go.RowKit
set_option maxRecDepth 100000
set_option linter.unusedVariables false

attribute [local go_sem ↓] Go.wp_at_zero Go.wp_at_succ

/-- The nodes, and what they lead to. -/
structure WayAt (w ws : World) (g cap N : Nat) (A B S : Nat → Nat) (H : Nat → Bool) (P : Nat → Prop) (Wd : Nat → Nat → Prop) (ix ky : Nat → Nat) : Prop where
  row : NodesAt ws w.heap.size g cap N A B S H
  tr : Trie N A B S H P Wd ix ky
  bel : Below w.heap.size w ws

/-- Within the word of s, behind l bits of it. -/
structure InAt (ls : List Nat) (w ws : World) (s l wb L W g cap N : Nat) (A B S : Nat → Nat) (H : Nat → Bool) (ix ky : Nat → Nat) : Prop where
  way : WayAt w ws g cap N A B S H (BegUp ls s l) (Wrd ls s) ix ky
  blk : ws.heap[wb]? = some (.cells #[.int .u32 (W : Int), .int .i64 (L : Int)] 110 (0, 0))
  ne : g ≠ wb
  old : w.heap.size ≤ wb
  cnt : N ≤ 2 + 20 * s + l

section
variable {ls : List Nat} {w ws w3 : World} {s l wb L W g g' cap cap' N : Nat} {A B S : Nat → Nat} {H : Nat → Bool} {ix ky : Nat → Nat}

theorem WayAt.into (hst : WayAt w ws g cap N A B S H (Beg ls s) (Wrd ls s) ix ky) (hw : Canon.wd ls s < 2 ^ Canon.ln ls s) (hN : N ≤ 2 + 20 * s) :
    InAt ls w (ws.alloc (.cells #[.int .u32 (W : Int), .int .i64 (L : Int)] 110)) s 0 ws.heap.size L W g cap N A B S H ix ky := by
  have hl := hst.row.lt
  refine ⟨⟨hst.row.keep (Below.heap_alloc _ _ _ hl.2), hst.tr.congr (fun k => (BegUp.zero hw k).symm) (fun _ _ => Iff.rfl), hst.bel.alloc hst.bel.size _⟩, heap_alloc_new _ _, by omega, hst.bel.size, by omega⟩

theorem InAt.place (h : InAt ls w ws s l wb L W g cap N A B S H ix ky) (hl : l ≤ L) (hL : L = Canon.ln ls s) :
    1 ≤ ix (key ls s / 2 ^ (L - l)) ∧ ix (key ls s / 2 ^ (L - l)) < N ∧ ky (ix (key ls s / 2 ^ (L - l))) = key ls s / 2 ^ (L - l) := by
  have := h.way.tr.inX (key ls s / 2 ^ (L - l)) (.inr ⟨L - l, by omega, by omega, rfl⟩)
  exact ⟨this.1, this.2.1, this.2.2.1⟩

theorem InAt.next (h : InAt ls w ws s l wb L W g cap N A B S H ix ky) (a i : Nat) (hi : i + 1 + l = L) (hL : L = Canon.ln ls s) (ha : a = ix (key ls s / 2 ^ (L - l))) :
    key ls s / 2 ^ i = 2 * ky a + Canon.wd ls s / 2 ^ i % 2 ∧ (Canon.wd ls s / 2 ^ i % 2 = 0 → A a = ix (key ls s / 2 ^ i)) ∧ (Canon.wd ls s / 2 ^ i % 2 = 1 → B a = ix (key ls s / 2 ^ i)) := by
  obtain ⟨h1, h2, h3⟩ := h.place (by omega) hL
  rw [← ha] at h1 h2 h3
  have hs := key_step ls s i (by omega)
  have hk := h.way.tr.kid a h1 h2
  rw [show L - l = i + 1 by omega] at h3
  rw [← h3] at hs
  refine ⟨hs, fun e => ?_, fun e => ?_⟩
  · rw [hk.1, hs, e]; rfl
  · rw [hk.2, hs, e]

theorem InAt.hit (h : InAt ls w ws s l wb L W g cap N A B S H ix ky) (i : Nat) (hi : i + 1 + l = L) (hL : L = Canon.ln ls s) (hx : ix (key ls s / 2 ^ i) ≠ 0) : InAt ls w ws s (l + 1) wb L W g cap N A B S H ix ky := by
  have hp : BegUp ls s l (key ls s / 2 ^ i) := Classical.byContradiction fun hn => hx (h.way.tr.no _ hn)
  refine ⟨⟨h.way.row, h.way.tr.congr (fun k => ?_) (fun _ _ => Iff.rfl), h.way.bel⟩, h.blk, h.ne, h.old, by have := h.cnt; omega⟩
  rw [BegUp.succ ls s l (by omega)]
  constructor
  · exact .inl
  · rintro (e | e)
    · exact e
    · rw [e, show Canon.ln ls s - (l + 1) = i by omega]; exact hp

theorem InAt.add (h : InAt ls w ws s l wb L W g cap N A B S H ix ky) (a i b : Nat) (hi : i + 1 + l = L) (hL : L = Canon.ln ls s) (ha : a = ix (key ls s / 2 ^ (L - l))) (hb : b = Canon.wd ls s / 2 ^ i % 2) (hx : ix (key ls s / 2 ^ i) = 0)
    (hown : w3.ownsRow w.heap.size 103 4 (.slice (some ⟨g', 0, none⟩) (N + 1) cap') (N + 1) (ncells N (if b = 0 then upd A a N else A) (if b = 0 then B else upd B a N) S H ++ [.int .i32 0, .int .i32 0, .int .i32 0, .bool false]))
    (o : Obj) (u : Value) (hgr : ((ws.setCell ⟨g, a * 4 + b, none⟩ u).alloc o).grownBy w3 (some g)) (hat : some g = some g' ∨ g' = ws.heap.size + 1) :
    InAt ls w w3 s (l + 1) wb L W g' cap' (N + 1) (if b = 0 then upd A a N else A) (if b = 0 then B else upd B a N) S H (upd ix (key ls s / 2 ^ i) N) (upd ky N (key ls s / 2 ^ i)) ∧ upd ix (key ls s / 2 ^ i) N (key ls s / 2 ^ i) = N := by
  obtain ⟨h1, h2, h3⟩ := h.place (by omega) hL
  rw [← ha] at h1 h2 h3
  obtain ⟨n1, _⟩ := h.next a i hi hL ha
  have hnp : ¬ BegUp ls s l (key ls s / 2 ^ i) := fun hp => by have := (h.way.tr.inX _ hp).1; omega
  have T := h.way.tr.add a b h1 h2 (by omega) (key ls s / 2 ^ i) (by rw [n1, hb]) hnp
  have hgl := h.way.row.lt
  have hwb := heap_lt h.blk
  have hsz := hgr.size
  simp at hsz
  have hbb := h.way.bel.size
  refine ⟨⟨⟨?_, T.congr (fun k => ?_) (fun _ _ => Iff.rfl), ?_⟩, ?_, ?_, h.old, by have := h.cnt; omega⟩, if_pos rfl⟩
  · unfold NodesAt
    rw [ncells_succ]
    · exact hown
    · have h0 := h.way.tr.out N (by omega)
      have hne : N ≠ a := by omega
      by_cases e : b = 0
      · rw [if_pos e, if_pos e, upd_ne hne]; exact h0
      · rw [if_neg e, if_neg e, upd_ne hne]; exact h0
  · rw [BegUp.succ ls s l (by omega), show Canon.ln ls s - (l + 1) = i by omega]
  · have b1 : Below w.heap.size w ((ws.setCell ⟨g, a * 4 + b, none⟩ u).alloc o) := (h.way.bel.setCell (by exact hgl.1) _).alloc (by simpa using hbb) _
    refine b1.trans ⟨hgr.os, hgr.tape, hgr.output, hgr.size, fun k hk => hgr.block k (by simp; omega) (fun e => by injection e with e; omega)⟩
  · rw [hgr.block wb (by simp; omega) (fun e => by injection e with e; exact h.ne e.symm), Below.heap_alloc _ _ _ (by simpa using hwb), heap_setCell_other _ _ _ _ (by exact h.ne.symm)]
    exact h.blk
  · rcases hat with e | e
    · injection e with e; rw [← e]; exact h.ne
    · omega

theorem InAt.add0 (h : InAt ls w ws s l wb L W g cap N A B S H ix ky) (a i : Nat) (hi : i + 1 + l = L) (hL : L = Canon.ln ls s) (ha : a = ix (key ls s / 2 ^ (L - l))) (hb : 0 = Canon.wd ls s / 2 ^ i % 2) (hx : ix (key ls s / 2 ^ i) = 0)
    (hown : w3.ownsRow w.heap.size 103 4 (.slice (some ⟨g', 0, none⟩) (N + 1) cap') (N + 1) (ncells N (upd A a N) B S H ++ [.int .i32 0, .int .i32 0, .int .i32 0, .bool false]))
    (o : Obj) (u : Value) (hgr : ((ws.setCell ⟨g, a * 4, none⟩ u).alloc o).grownBy w3 (some g)) (hat : some g = some g' ∨ g' = ws.heap.size + 1) :
    InAt ls w w3 s (l + 1) wb L W g' cap' (N + 1) (upd A a N) B S H (upd ix (key ls s / 2 ^ i) N) (upd ky N (key ls s / 2 ^ i)) ∧ upd ix (key ls s / 2 ^ i) N (key ls s / 2 ^ i) = N :=
  h.add a i 0 hi hL ha hb hx hown o u hgr hat

theorem InAt.add1 (h : InAt ls w ws s l wb L W g cap N A B S H ix ky) (a i : Nat) (hi : i + 1 + l = L) (hL : L = Canon.ln ls s) (ha : a = ix (key ls s / 2 ^ (L - l))) (hb : 1 = Canon.wd ls s / 2 ^ i % 2) (hx : ix (key ls s / 2 ^ i) = 0)
    (hown : w3.ownsRow w.heap.size 103 4 (.slice (some ⟨g', 0, none⟩) (N + 1) cap') (N + 1) (ncells N A (upd B a N) S H ++ [.int .i32 0, .int .i32 0, .int .i32 0, .bool false]))
    (o : Obj) (u : Value) (hgr : ((ws.setCell ⟨g, a * 4 + 1, none⟩ u).alloc o).grownBy w3 (some g)) (hat : some g = some g' ∨ g' = ws.heap.size + 1) :
    InAt ls w w3 s (l + 1) wb L W g' cap' (N + 1) A (upd B a N) S H (upd ix (key ls s / 2 ^ i) N) (upd ky N (key ls s / 2 ^ i)) ∧ upd ix (key ls s / 2 ^ i) N (key ls s / 2 ^ i) = N :=
  h.add a i 1 hi hL ha hb hx hown o u hgr hat

theorem InAt.fin (h : InAt ls w ws s L wb L W g cap N A B S H ix ky) (hL : L = Canon.ln ls s) (h0 : 0 < L) (hg : Good ls) (hs : s < ls.length) (a : Nat) (ha : a = ix (key ls s / 2 ^ (L - L))) :
    WayAt w ((((ws.setCell ⟨g, a * 4, none⟩ (.int .i32 0)).setCell ⟨g, a * 4 + 1, none⟩ (.int .i32 0)).setCell ⟨g, a * 4 + 2, none⟩ (.int .i32 (s : Int))).setCell ⟨g, a * 4 + 3, none⟩ (.bool true)) g cap N (upd A a 0) (upd B a 0) (upd S a s) (updB H a true) (Beg ls (s + 1)) (Wrd ls (s + 1)) ix ky := by
  obtain ⟨h1, h2, h3⟩ := h.place (Nat.le_refl _) hL
  rw [← ha, Nat.sub_self, Nat.pow_zero, Nat.div_one] at h3
  rw [← ha] at h1 h2
  have hgl := h.way.row.lt
  have tr0 : Trie N A B S H (Beg ls (s + 1)) (Wrd ls s) ix ky := h.way.tr.congr (fun k => by have := BegUp.all ls s (by omega) k; rw [hL]; exact this) (fun _ _ => Iff.rfl)
  have T := tr0.put a s h1 h2 (by rw [h3]; exact hg.ends hs (by omega) 0 (by omega)) (by rw [h3]; exact hg.ends hs (by omega) 1 (by omega)) (by rw [h3]; exact hg.new hs (by omega))
  refine ⟨(((h.way.row.setA a 0).setB a 0).setS a s).setH a true, T.congr (fun _ => Iff.rfl) (fun i k => ?_), ?_⟩
  · rw [Wrd.succ ls s (by omega), h3]
  · exact (((h.way.bel.setCell (by exact hgl.1) _).setCell (by exact hgl.1) _).setCell (by exact hgl.1) _).setCell (by exact hgl.1) _

theorem InAt.c0 (h : InAt ls w ws s l wb L W g cap N A B S H ix ky) : ws.cell? ⟨wb, 0, none⟩ = some (.int .u32 (W : Int)) := by simp [World.cell?, h.blk]
theorem InAt.c1 (h : InAt ls w ws s l wb L W g cap N A B S H ix ky) : ws.cell? ⟨wb, 1, none⟩ = some (.int .i64 (L : Int)) := by simp [World.cell?, h.blk]
end

theorem news_four {w : World} {n : Nat} (hn : n = w.heap.size) : ∀ (j : Nat) u, [Value.int .i32 0, .int .i32 0, .int .i32 0, .bool false][j]? = some u → (w.alloc (.cells #[.int .i32 0, .int .i32 0, .int .i32 0, .bool false] 103)).cell? ((⟨n, 0, none⟩ : Addr).add j) = some u := by
  subst hn
  exact World.news_of_block (heap_alloc_new w _)

theorem bit_u32 (W i : Nat) (hW : W < 4294967296) : bits .and .u32 ((W : Int) / 2 ^ i) 1 = ((W / 2 ^ i % 2 : Nat) : Int) := by
  have hd : W / 2 ^ i < 4294967296 := Nat.lt_of_le_of_lt (Nat.div_le_self _ _) hW
  rw [show ((W : Int) / 2 ^ i) = ((W / 2 ^ i : Nat) : Int) by simp]
  have h := u32_and_nat (W / 2 ^ i) 1 hd (by decide)
  rw [Nat.and_one_is_mod] at h
  exact h

set_option maxRecDepth 100000 in
set_option maxHeartbeats 2000000 in
theorem ways_ok (ls : List Nat) (wg n : Nat) (w : World) (hg : Good ls) (hlen : ls.length = n) (hn : n ≤ 65536) (hw : WordsAt w 110 wg n (wdz ls) (Canon.ln ls)) :
    Calls Try.prog 61 #[.slice (some ⟨wg, 0, none⟩) n n] w fun e w' => ∃ g cap N A B S H ix ky, e = .returned (.slice (some ⟨g, 0, none⟩) N cap) ∧ WayAt w w' g cap N A B S H (Beg ls n) (Wrd ls n) ix ky := by
  have hmk := nodes_made w
  obtain ⟨i0, hii, hz0, hz1, hz2⟩ := info_parts info85
  have HW := hide hw
  have HG := hide hg
  have HLEN := hide hlen
  clear hw hg hlen
  go_enter Try.func61, Try.ntmps61
  go_wp2_with fail
  have HST : Hid (WayAt w (w.alloc (.cells (ncells 2 (fun _ => 0) (fun _ => 0) (fun _ => 0) (fun _ => false)).toArray 103)) w.heap.size 2 2 _ _ _ _ (fun k => k = 1) (fun _ _ => False) _ _) := hide ⟨nodes_start w, Trie.start, (Below.refl _ _).alloc (Nat.le_refl _) _⟩
  generalize w.alloc (.cells (ncells 2 (fun _ => 0) (fun _ => 0) (fun _ => 0) (fun _ => false)).toArray 103) = w1 at HST ⊢
  obtain ⟨g0, hg0⟩ : ∃ g0, g0 = w.heap.size := ⟨_, rfl⟩
  rw [← hg0] at HST ⊢
  clear hmk hg0
  go_loopg [3, 12] n (fun gk v d ws => ∃ (s : Nat) (g cap N : Nat) (A B S : Nat → Nat) (H : Nat → Bool) (ix ky : Nat → Nat), gk = n - s ∧ s ≤ n ∧ d = .int .i64 (s : Int) ∧ N ≤ 2 + 20 * s ∧ v = .slice (some ⟨g, 0, none⟩) N cap ∧ WayAt w ws g cap N A B S H (Beg ls s) (Wrd ls s) ix ky)
  case atStart =>
    have h := unhide HST
    refine ⟨0, g0, 2, 2, _, _, _, _, _, _, by omega, by omega, rfl, by omega, rfl, h.row, h.tr.congr (fun k => ?_) (fun i k => ?_), h.bel⟩
    · exact ⟨fun e => .inl e, fun e => e.resolve_right (fun ⟨i, hi, _⟩ => by omega)⟩
    · exact ⟨fun e => e.elim, fun ⟨hi, _⟩ => by omega⟩
  case round =>
    obtain ⟨s, g, cap, N, A, B, S, H, ix, ky, rfl, hs, rfl, hN, rfl, hst⟩ := hrel
    clear HST
    by_cases hlt : s < n
    · have hsi : (s : Int) < (n : Int) := by omega
      have hww := (unhide HW).stays hst.bel (unhide HW).lt
      have k1 := hww.word s hlt
      have k2 := hww.len s hlt
      by_cases h0 : Canon.ln ls s = 0
      · rw [h0] at k2
        have HNX : Hid (WayAt w (wr.alloc (.cells #[.int .u32 (wdz ls s : Int), .int .i64 0] 110)) g cap N A B S H (Beg ls (s + 1)) (Wrd ls (s + 1)) ix ky) := hide ⟨hst.row.keep (Below.heap_alloc _ _ _ hst.row.lt.2), hst.tr.congr (fun k => (Beg.skip ls s (by omega) k).symm) (fun i k => (Wrd.skip ls s (by omega) i k).symm), hst.bel.alloc hst.bel.size _⟩
        have hgl := hst.row.lt.2
        clear hst hww
        go_wp2_with fail
        go_roundg (n - (s + 1))
        case measure => omega
        case rel => exact ⟨s + 1, g, cap, N, A, B, S, H, ix, ky, rfl, by omega, by go_num, by omega, rfl, unhide HNX⟩
      · have hL := (unhide HG).small (Canon.ln ls s) (by rw [Canon.ln, List.getD_eq_getElem?_getD, List.getElem?_eq_getElem (by rw [unhide HLEN]; exact hlt)]; exact List.getElem_mem _)
        obtain ⟨L, hLe⟩ : ∃ L, L = Canon.ln ls s := ⟨_, rfl⟩
        obtain ⟨W, hWe⟩ : ∃ W, W = wdz ls s := ⟨_, rfl⟩
        rw [← hLe] at k2 h0 hL
        rw [← hWe] at k1
        have HL := hide hLe
        have HWe := hide hWe
        have HST := hide hst
        have e0 : ((L : Int) == 0) = false := by simp; omega
        obtain ⟨wb, hwb⟩ : ∃ wb, wb = wr.heap.size := ⟨_, rfl⟩
        have HWB := hide hwb
        have HIN := hide (hst.into (L := L) (W := W) (Canon.wd_lt ((unhide HG).has (by rw [unhide HLEN]; exact hlt) (by rw [← unhide HL]; omega)) (unhide HG).sum) hN)
        rw [← hwb] at HIN
        have hWb : W < 2 ^ 20 := by
          have hh := (unhide HG).has (i := s) (by rw [unhide HLEN]; exact hlt) (by rw [← unhide HL]; omega)
          have h1 := Canon.wd_lt hh (unhide HG).sum
          have h2 : 2 ^ Canon.ln ls s ≤ 2 ^ 20 := Nat.pow_le_pow_right (by decide) (by rw [← unhide HL]; exact hL)
          rw [unhide HWe, wdz, if_neg (by rw [← unhide HL]; exact h0)]
          omega
        have hgl := hst.row.lt.2
        clear hst hww hLe hWe
        go_upto_region 8 with fail
        rw [← hwb]
        generalize wr.alloc (.cells #[.int .u32 (W : Int), .int .i64 (L : Int)] 110) = w2 at HIN ⊢
        clear hwb HST k1 k2
        go_loopg [3, 6, 7] L (fun gk v atv iv ws => ∃ (l g cap N : Nat) (A B S : Nat → Nat) (H : Nat → Bool) (ix ky : Nat → Nat), gk = L - l ∧ l ≤ L ∧ v = .slice (some ⟨g, 0, none⟩) N cap ∧ atv = .int .i32 (ix (key ls s / 2 ^ (L - l)) : Int) ∧ iv = .int .i64 ((L : Int) - 1 - (l : Int)) ∧ InAt ls w ws s l wb L W g cap N A B S H ix ky)
        case atStart =>
          refine ⟨0, g, cap, N, A, B, S, H, ix, ky, by omega, by omega, rfl, ?_, by simp, unhide HIN⟩
          have hh := (unhide HG).has (i := s) (by rw [unhide HLEN]; exact hlt) (by rw [← unhide HL]; omega)
          have h1 := (unhide HIN).way.tr
          have h2 := (h1.inK 1 (by omega) (by have := h1.two; omega)).2
          rw [h1.root] at h2
          rw [Nat.sub_zero, unhide HL, key_top (Canon.wd_lt hh (unhide HG).sum), h2]
          rfl
        case round =>
          obtain ⟨l, g, cap, N, A, B, S, H, ix, ky, rfl, hl, rfl, rfl, rfl, hin⟩ := hrel
          clear HIN hgl
          obtain ⟨p1, p2, p3⟩ := hin.place hl (unhide HL)
          have hcnt := hin.cnt
          obtain ⟨a, ha⟩ : ∃ a, a = ix (key ls s / 2 ^ (L - l)) := ⟨_, rfl⟩
          rw [← ha] at p1 p2 p3 ⊢
          have c0 := hin.c0
          have c1 := hin.c1
          have hNb : N ≤ 1400000 := by omega
          have haN : (a : Int) < (N : Int) := by omega
          by_cases hll : l < L
          · obtain ⟨i, hi⟩ : ∃ i, i + 1 + l = L := ⟨L - 1 - l, by omega⟩
            rw [show (L : Int) - 1 - (l : Int) = (i : Int) by omega]
            have hx := hin.next a i hi (unhide HL) ha
            have k1 := hin.way.row.cA a p2
            have k2 := hin.way.row.cB a p2
            have k3 := hin.way.row.free (a * 4)
            have k4 := hin.way.row.free (a * 4 + 1)
            have hi20 : i < 20 := by omega
            have hi0 : (0 : Int) ≤ (i : Int) := by omega
            have HIN := hide hin
            have HA := hide ha
            have HI := hide hi
            have HX := hide hx
            clear hin ha hi hx p3
            go_upto_region 11 with fail
            rw [bit_u32 W i (by omega)]
            have HWw : Hid (W = Canon.wd ls s) := hide (by rw [unhide HWe, wdz, if_neg (by rw [← unhide HL]; exact h0)])
            obtain ⟨b, hb⟩ : ∃ b, b = W / 2 ^ i % 2 := ⟨_, rfl⟩
            rw [← hb]
            have hb1 : b ≤ 1 := by omega
            have HB := hide hb
            clear hb
            by_cases hb0 : b = 0
            · subst hb0
              have hX : A a = ix (key ls s / 2 ^ i) := (unhide HX).2.1 (by rw [← unhide HWw, ← unhide HB])
              obtain ⟨x, hx⟩ : ∃ x, x = ix (key ls s / 2 ^ i) := ⟨_, rfl⟩
              rw [hX, ← hx] at k1
              have HXX := hide hx
              clear hX hx
              by_cases hx0 : x = 0
              · subst hx0
                have HROW : Hid (NodesAt ((wr.setCell ⟨g, a * 4, none⟩ (.int .i32 (N : Int))).alloc (.cells #[.int .i32 0, .int .i32 0, .int .i32 0, .bool false] 103)) w.heap.size g cap N (upd A a N) B S H) := hide (((unhide HIN).way.row.setA a N).keep (Below.heap_alloc _ _ _ (by simpa using (unhide HIN).way.row.lt.2)))
                have HNEWS : Hid (∀ j u, [Value.int .i32 0, .int .i32 0, .int .i32 0, .bool false][j]? = some u → ((wr.setCell ⟨g, a * 4, none⟩ (.int .i32 (N : Int))).alloc (.cells #[.int .i32 0, .int .i32 0, .int .i32 0, .bool false] 103)).cell? ((⟨wr.heap.size, 0, none⟩ : Addr).add j) = some u) := hide (news_four (by simp))
                have hgl := (unhide HIN).way.row.lt
                go_wp2_with (at_builtin; go_must (refine wpList_append_lies _ rfl (.tmp 49) (.tmp 51) 97 rfl w.heap.size 103 i0 _ 4 16 Try.underlying97 hii hz0 hz1 hz2 rfl (by decide) _ N _ (by rfl) (unhide HROW) ⟨wr.heap.size, 0, none⟩ 1 1 [.int .i32 0, .int .i32 0, .int .i32 0, .bool false] (by rfl) rfl (unhide HNEWS) (by intro u hu; simp at hu; rcases hu with rfl | rfl <;> rfl) (by omega) (by unfold maxLen; omega) (by omega) (by simp; omega) (wr.heap.size + 1) (by simp) ?_; intro g' cap' w3 hown hgrow hat hglt; have HR := hide ((unhide HIN).add0 a i (unhide HI) (unhide HL) (unhide HA) (by rw [← unhide HWw, ← unhide HB]) (by rw [← unhide HXX]) hown _ _ hgrow hat); clear hown hgrow hat hglt; have q1 := (unhide HR).1.way.row.cA a (by omega); rw [show upd A a N a = N from if_pos rfl] at q1; have haN' : (a : Int) < (N : Int) + 1 := by omega))
                go_roundg (L - (l + 1))
                case measure => have := unhide HI; omega
                case rel =>
                  have hI := unhide HI
                  obtain ⟨r1, r2⟩ := unhide HR
                  refine ⟨l + 1, g', cap', N + 1, _, _, _, _, _, _, rfl, by omega, rfl, ?_, by rw [show (L : Int) - 1 - ((l + 1 : Nat) : Int) = (i : Int) - 1 by omega], r1⟩
                  rw [show L - (l + 1) = i by omega, r2]
              · have ex : ((x : Int) == 0) = false := by simp; omega
                have HH := hide ((unhide HIN).hit i (unhide HI) (unhide HL) (by rw [← unhide HXX]; exact hx0))
                go_wp2_with fail
                go_roundg (L - (l + 1))
                case measure => have := unhide HI; omega
                case rel =>
                  have hI := unhide HI
                  refine ⟨l + 1, g, cap, N, _, _, _, _, _, _, rfl, by omega, rfl, ?_, by rw [show (L : Int) - 1 - ((l + 1 : Nat) : Int) = (i : Int) - 1 by omega], unhide HH⟩
                  rw [show L - (l + 1) = i by omega, ← unhide HXX]
            · obtain rfl : b = 1 := by omega
              have hX : B a = ix (key ls s / 2 ^ i) := (unhide HX).2.2 (by rw [← unhide HWw, ← unhide HB])
              obtain ⟨x, hx⟩ : ∃ x, x = ix (key ls s / 2 ^ i) := ⟨_, rfl⟩
              rw [hX, ← hx] at k2
              have HXX := hide hx
              clear hX hx
              by_cases hx0 : x = 0
              · subst hx0
                have HROW : Hid (NodesAt ((wr.setCell ⟨g, a * 4 + 1, none⟩ (.int .i32 (N : Int))).alloc (.cells #[.int .i32 0, .int .i32 0, .int .i32 0, .bool false] 103)) w.heap.size g cap N A (upd B a N) S H) := hide (((unhide HIN).way.row.setB a N).keep (Below.heap_alloc _ _ _ (by simpa using (unhide HIN).way.row.lt.2)))
                have HNEWS : Hid (∀ j u, [Value.int .i32 0, .int .i32 0, .int .i32 0, .bool false][j]? = some u → ((wr.setCell ⟨g, a * 4 + 1, none⟩ (.int .i32 (N : Int))).alloc (.cells #[.int .i32 0, .int .i32 0, .int .i32 0, .bool false] 103)).cell? ((⟨wr.heap.size, 0, none⟩ : Addr).add j) = some u) := hide (news_four (by simp))
                have hgl := (unhide HIN).way.row.lt
                go_wp2_with (at_builtin; go_must (refine wpList_append_lies _ rfl (.tmp 49) (.tmp 51) 97 rfl w.heap.size 103 i0 _ 4 16 Try.underlying97 hii hz0 hz1 hz2 rfl (by decide) _ N _ (by rfl) (unhide HROW) ⟨wr.heap.size, 0, none⟩ 1 1 [.int .i32 0, .int .i32 0, .int .i32 0, .bool false] (by rfl) rfl (unhide HNEWS) (by intro u hu; simp at hu; rcases hu with rfl | rfl <;> rfl) (by omega) (by unfold maxLen; omega) (by omega) (by simp; omega) (wr.heap.size + 1) (by simp) ?_; intro g' cap' w3 hown hgrow hat hglt; have HR := hide ((unhide HIN).add1 a i (unhide HI) (unhide HL) (unhide HA) (by rw [← unhide HWw, ← unhide HB]) (by rw [← unhide HXX]) hown _ _ hgrow hat); clear hown hgrow hat hglt; have q1 := (unhide HR).1.way.row.cB a (by omega); rw [show upd B a N a = N from if_pos rfl] at q1; have haN' : (a : Int) < (N : Int) + 1 := by omega))
                go_roundg (L - (l + 1))
                case measure => have := unhide HI; omega
                case rel =>
                  have hI := unhide HI
                  obtain ⟨r1, r2⟩ := unhide HR
                  refine ⟨l + 1, g', cap', N + 1, _, _, _, _, _, _, rfl, by omega, rfl, ?_, by rw [show (L : Int) - 1 - ((l + 1 : Nat) : Int) = (i : Int) - 1 by omega], r1⟩
                  rw [show L - (l + 1) = i by omega, r2]
              · have ex : ((x : Int) == 0) = false := by simp; omega
                have HH := hide ((unhide HIN).hit i (unhide HI) (unhide HL) (by rw [← unhide HXX]; exact hx0))
                go_wp2_with fail
                go_roundg (L - (l + 1))
                case measure => have := unhide HI; omega
                case rel =>
                  have hI := unhide HI
                  refine ⟨l + 1, g, cap, N, _, _, _, _, _, _, rfl, by omega, rfl, ?_, by rw [show (L : Int) - 1 - ((l + 1 : Nat) : Int) = (i : Int) - 1 by omega], unhide HH⟩
                  rw [show L - (l + 1) = i by omega, ← unhide HXX]
          · obtain rfl : l = L := by omega
            have hii0 : ¬ (0 : Int) ≤ (l : Int) - 1 - (l : Int) := by omega
            rw [show (l : Int) - 1 - (l : Int) = -1 by omega] at hii0 ⊢
            have HF := hide (hin.fin (unhide HL) (by omega) (unhide HG) (by rw [unhide HLEN]; exact hlt) a ha)
            have k1 := hin.way.row.cA a p2
            have k2 := hin.way.row.cB a p2
            have k3 := hin.way.row.cS a p2
            have k4 := hin.way.row.cH a p2
            have f1 := hin.way.row.free (a * 4)
            have f2 := hin.way.row.free (a * 4 + 1)
            have f3 := hin.way.row.free (a * 4 + 2)
            have f4 := hin.way.row.free (a * 4 + 3)
            have hs64 : s < 65536 := by omega
            clear hin ha p3
            go_wp2_with fail
            go_roundg (n - (s + 1))
            case measure => omega
            case rel => exact ⟨s + 1, g, cap, N, _, _, _, _, ix, ky, rfl, by omega, by go_num, by omega, rfl, unhide HF⟩
    · obtain rfl : s = n := by omega
      have HST := hide hst
      clear hst
      go_wp2_with fail
      go_ret
      exact ⟨g, cap, N, A, B, S, H, ix, ky, rfl, unhide HST⟩

end Go.Proofs.Ytppbnodgnphaaaa
