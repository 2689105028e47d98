/- The law SuffixSorted, walked. -/
import Derived.Test.YtpemgjcgcmleiaaRn
namespace Go.Proofs.Ytpemgjcgcmleiaa
open Go.RowKit Suf
set_option maxRecDepth 100000
set_option linter.unusedVariables false
attribute [local go_sem ↓] Go.wp_at_zero Go.wp_at_succ

/-- truths in memory -/
def bcells (n : Nat) (S : Nat → Bool) : Array Value := ((List.range n).map fun i => Value.bool (S i)).toArray
def BAt (w : World) (g n : Nat) (S : Nat → Bool) : Prop := w.heap[g]? = some (.cells (bcells n S) 4 (0, 0))

theorem BAt.cell {w : World} {g n : Nat} {S : Nat → Bool} (h : BAt w g n S) (i : Nat) (hi : i < n) : w.cell? ⟨g, i, none⟩ = some (.bool (S i)) := by
  simp only [World.cell?, show w.heap[g]? = _ from h]
  simp only [bcells, List.getElem?_toArray, List.getElem?_map]
  rw [List.getElem?_range hi]
  simp

theorem BAt.free {w : World} {g n : Nat} {S : Nat → Bool} (h : BAt w g n S) (i : Nat) : w.frozen? ⟨g, i, none⟩ = false := by
  simp [World.frozen?, show w.heap[g]? = _ from h]

theorem BAt.set {w : World} {g n : Nat} {S S' : Nat → Bool} (h : BAt w g n S) (i : Nat) (x : Bool) (hS : ∀ j, j < n → S' j = if j = i then x else S j) : BAt (w.setCell ⟨g, i, none⟩ (.bool x)) g n S' := by
  unfold BAt
  rw [heap_setCell_same w g i _ 4 (.bool x) h]
  congr 2
  apply Array.ext (by simp [bcells])
  intro j j1 j2
  have hj : j < n := by simpa [bcells] using j2
  rw [Array.getElem_setIfInBounds (by simpa [bcells] using hj)]
  simp only [bcells, List.getElem_toArray, List.getElem_map, List.getElem_range]
  rw [hS j hj]
  by_cases e : i = j
  · subst e; simp
  · rw [if_neg e, if_neg (by omega)]

theorem info4 : (Try.prog.info? 4).map (fun i => (i.zero, i.size, i.bytes)) = some (some (.bool false), 1, 1) := by kernel_rfl

theorem bools_made (w : World) (n : Nat) (hn : n ≤ 2000000) : (Instr.makeSlice 43 (.int .i64 (n : Int)) (.int .i64 (n : Int))).run Try.prog w = .ok (.slice (some ⟨w.heap.size, 0, none⟩) n n) (w.alloc (.cells (bcells n (fun _ => false)) 4)) := by
  obtain ⟨i0, hi, hz0, hz1, hz2⟩ := info_parts info4
  have := run_make (P := Try.prog) w 43 4 i0 (.bool false) Try.underlying43 hi hz0 .i64 .i64 (n : Int) (n : Int) (by omega) (by omega) (by rw [hz2]; omega) (by omega)
  rw [hz1] at this
  rw [this]
  congr 3
  apply Array.ext (by simp [madeCells, bcells])
  intro k k1 k2
  simp [bcells, madeCells, Value.cells, Nat.mod_one]

/-- by the first byte that is another one -/
theorem ahead_first {b : List Nat} {x y k : Nat} (h : Ahead b x y) (hk : k < b.length) (he : ∀ m, m < k → tw b x m = tw b y m) (hne : tw b x k ≠ tw b y k) : tw b x k < tw b y k := by
  rcases Nat.lt_or_ge (tw b x k) (tw b y k) with h1 | h1
  · exact h1
  · exfalso
    have h2 : Ahead b y x := ahead_by hk (fun m hm => (he m hm).symm) (by omega)
    have e := List.le_antisymm h.1 h2.1
    have := h.2 e
    have := h2.2 e.symm
    omega

theorem rows_next {b l : List Nat} (h : IsRows b l) {i : Nat} (hi : i + 1 < l.length) : Ahead b (l.getD i 0) (l.getD (i + 1) 0) := by
  have := List.pairwise_iff_getElem.1 h.sorted i (i + 1) (by omega) hi (by omega)
  have e : ∀ q (hq : q < l.length), l.getD q 0 = l[q] := fun q hq => by simp [List.getD_eq_getElem?_getD, List.getElem?_eq_getElem hq]
  rw [e i (by omega), e (i + 1) hi]
  exact this

theorem not_yet {b l : List Nat} (h : IsRows b l) {i : Nat} (hi : i < l.length) : l.getD i 0 ∉ l.take i := by
  have hd : l.Nodup := h.perm.nodup_iff.2 List.nodup_range
  intro hm
  rw [← List.take_append_drop i l, List.drop_eq_getElem_cons hi] at hd
  have := (List.nodup_append.1 hd).2.2 _ hm l[i] (List.mem_cons_self ..)
  exact this (by simp [List.getD_eq_getElem?_getD, List.getElem?_eq_getElem hi])

theorem take_mem {l : List Nat} {i x : Nat} (hi : i < l.length) : (decide (x ∈ l.take (i + 1))) = if x = l.getD i 0 then true else decide (x ∈ l.take i) := by
  have e : l.take (i + 1) = l.take i ++ [l.getD i 0] := by
    rw [List.take_add_one, List.getElem?_eq_getElem hi, List.getD_eq_getElem?_getD, List.getElem?_eq_getElem hi]; rfl
  rw [e]
  generalize l.getD i 0 = y
  by_cases h : x = y
  · simp [h]
  · simp [h]

theorem below_drewN {B : Nat} {w x : World} (h : Below B w x) (q : Nat) : Below B w (x.drewN q) := drewN_below h q

set_option maxHeartbeats 8000000 in
theorem sorted_law (ba : Option Addr) (bcap : Nat) (zs : List Nat) (w : World)
    (hr : (ba = none ∧ bcap = 0 ∧ zs = []) ∨ ∃ ad, ba = some ad ∧ ∀ (j : Nat) u, (zs.map bv)[j]? = some u → w.cell? (ad.add j) = some u) (hs : ∀ z ∈ zs, z < 256) (hl : zs.length ≤ 140737488351232) (hcap : zs.length ≤ bcap) :
    Calls Try.prog 6 #[.slice ba zs.length bcap] w fun e w' => e = .returned (.bool true) ∧ Below w.heap.size w w' := by
  have HR := hide (reads_of hr)
  have HSM := hide hs
  obtain ⟨n, hN⟩ : ∃ n, n = zs.length := ⟨_, rfl⟩
  have HT1 := hide (rows_told zs ba bcap w (reads_of hr).bytes hs)
  have HNN := hide hN
  rw [← hN] at hl hcap HT1 ⊢
  clear hr hs hN
  go_enter Try.func6, Try.ntmps6
  go_wp2_with fail
  refine (unhide HT1).mono ?_
  clear HT1
  rintro e w1 ⟨out, hri, v, rfl, hrow, hbl⟩
  by_cases hbig : 1048576 < n
  · have hd : 1048576 < (n : Int) := by omega
    have hd2 : decide (1048576 < (n : Int)) = true := by simp; omega
    obtain rfl : out = ([], 3) := by
      rcases hri with ⟨_, h⟩ | ⟨h, _⟩
      · exact h
      · rw [← unhide HNN] at h; omega
    obtain ⟨xa, xc, rfl, _⟩ := hrow
    have HBL := hide hbl
    clear hri hbl
    go_wp2_with fail
    go_ret
    exact ⟨rfl, unhide HBL⟩
  · have hd : ¬ 1048576 < (n : Int) := by omega
    have hd2 : decide (1048576 < (n : Int)) = false := by simp; omega
    obtain ⟨l, hlr, rfl⟩ : ∃ l, IsRows zs l ∧ out = (l, 0) := by
      rcases hri with ⟨h, _⟩ | ⟨_, h1, h2⟩
      · rw [← unhide HNN] at h; omega
      · exact ⟨out.1, h1, Prod.ext rfl h2⟩
    have hln : l.length = n := by rw [hlr.len, unhide HNN]
    obtain ⟨xa, xc, rfl, hxr⟩ := hrow
    dsimp only at hxr ⊢
    rw [hln] at hxr ⊢
    have HXR : Hid (∀ j, j < n → ∃ g, xa = some ⟨g, 0, none⟩ ∧ g < w1.heap.size ∧ w1.cell? ⟨g, j, none⟩ = some (.int .i64 ((l.getD j 0 : Nat) : Int))) := hide fun j hj => by
      obtain ⟨g, cs, e1, _, e2, e3, e4⟩ := hxr (by omega)
      exact ⟨g, e1, e2, by simp only [World.cell?, e3]; exact e4 j hj⟩
    have HB1 := hide hbl
    have HLR := hide hlr
    have HLN := hide hln
    have hmk := bools_made w1 n (by omega)
    obtain ⟨G, hG⟩ : ∃ G, G = w1.heap.size := ⟨_, rfl⟩
    have HS0 : Hid (BAt (w1.alloc (.cells (bcells n (fun _ => false)) 4)) G n (fun x => decide (x ∈ l.take 0))) := hide (by
      have e : (fun x => decide (x ∈ l.take 0)) = fun _ => false := by funext x; simp
      rw [e, hG]; exact heap_alloc_new _ _)
    have HW0 : Hid (Below G w1 (w1.alloc (.cells (bcells n (fun _ => false)) 4))) := hide (by rw [hG]; exact (Below.refl _ _).alloc (Nat.le_refl _) _)
    rw [← hG] at hmk
    have HGG := hide hG
    clear hri hbl hxr hlr hln hG
    have e0 : ((n : Int) != (n : Int)) = false := by simp
    go_wp2_with fail
    clear hmk
    go_loopg [6] n (fun gk d ws => ∃ i : Nat, gk = n - i ∧ i ≤ n ∧ d = .int .i64 (i : Int) ∧ Hid (BAt ws G n (fun x => decide (x ∈ l.take i))) ∧ Hid (Below G w1 ws))
    case atStart => exact ⟨0, by omega, by omega, rfl, HS0, HW0⟩
    case round =>
      clear HS0 HW0
      obtain ⟨i, rfl, hin, rfl, HS0, HW0⟩ := hrel
      rename World => wi
      by_cases hil : i < n
      · have ti : (i : Int) < (n : Int) := by omega
        have hiL : i < l.length := by rw [unhide HLN]; exact hil
        obtain ⟨gl, rfl, hgl, e1⟩ := unhide HXR i hil
        have hglG : gl < G := by rw [unhide HGG]; exact hgl
        have c1 : wi.cell? ⟨gl, i, none⟩ = some (.int .i64 ((l.getD i 0 : Nat) : Int)) := by rw [(unhide HW0).cell (by show gl < G; exact hglG)]; exact e1
        have hyn : l.getD i 0 < n := by rw [unhide HNN]; exact (unhide HLR).lt (getD_mem hiL)
        have HNY := hide (not_yet (unhide HLR) hiL)
        have HTM := hide fun x => take_mem (l := l) (i := i) (x := x) hiL
        obtain ⟨y, hy⟩ : ∃ y, y = l.getD i 0 := ⟨_, rfl⟩
        have HY := hide hy
        rw [← hy] at c1 hyn HNY HTM
        have c2 := (unhide HS0).cell y hyn
        have c3 := (unhide HS0).free y
        rw [show (decide (y ∈ l.take i)) = false by simpa using unhide HNY] at c2
        have c4 : ∀ q, ((wi.setCell ⟨G, y, none⟩ (.bool true)).drewN q).cell? ⟨gl, i, none⟩ = some (.int .i64 (y : Int)) := fun q => by
          show (wi.setCell ⟨G, y, none⟩ (.bool true)).cell? _ = _
          rw [World.cell?_of_block (heap_setCell_other _ _ _ _ (by show gl ≠ G; omega))]
          exact c1
        have HS1 : Hid (BAt (wi.setCell ⟨G, y, none⟩ (.bool true)) G n (fun x => decide (x ∈ l.take (i + 1)))) := hide ((unhide HS0).set y true fun j _ => unhide HTM j)
        have HW1 : Hid (Below G w1 (wi.setCell ⟨G, y, none⟩ (.bool true))) := hide ((unhide HW0).setCell (Nat.le_refl _) _)
        have hyi : (y : Int) < (n : Int) := by omega
        have hy0 : ¬ (y : Int) < 0 := by omega
        have hy1 : ¬ (n : Int) ≤ (y : Int) := by omega
        have hy2 : decide ((n : Int) ≤ (y : Int)) = false := by simp; omega
        have hy3 : decide ((y : Int) < 0) = false := by simp
        have hy4 : decide (n ≤ y) = false := by simp; omega
        have hy5 : ¬ n ≤ y := by omega
        clear e1 hy HS0
        cases i with
        | zero =>
          clear c4
          go_wp2_with fail
          go_roundg (n - (0 + 1))
          case measure => omega
          case rel => exact ⟨1, rfl, by omega, by go_num, HS1, HW1⟩
        | succ i1 =>
          obtain ⟨gl', e2, hgl', e3⟩ := unhide HXR i1 (by omega)
          injection e2 with e2
          injection e2 with e2
          subst e2
          obtain ⟨x, hx⟩ : ∃ x, x = l.getD i1 0 := ⟨_, rfl⟩
          have HX := hide hx
          rw [← hx] at e3
          have hxn : x < n := by rw [hx, unhide HNN]; exact (unhide HLR).lt (getD_mem (by omega))
          have HAH : Hid (Ahead zs x y) := hide (by rw [hx, unhide HY]; exact rows_next (unhide HLR) hiL)
          have c5 : ∀ q, ((wi.setCell ⟨G, y, none⟩ (.bool true)).drewN q).cell? ⟨gl, i1, none⟩ = some (.int .i64 (x : Int)) := fun q => by
            show (wi.setCell ⟨G, y, none⟩ (.bool true)).cell? _ = _
            rw [World.cell?_of_block (heap_setCell_other _ _ _ _ (by show gl ≠ G; omega)), (unhide HW0).cell (by show gl < G; exact hglG)]
            exact e3
          have hwr : IntKind.i64.wrap (i1 : Int) = (i1 : Int) := by rw [IntKind.wrap_i64]; omega
          have hi1 : (i1 : Int) < (n : Int) := by omega
          have hi2 : (i1 : Int) + 1 < (n : Int) := by omega
          have hz1 : ((i1 : Int) + 1 == 0) = false := by simp; omega
          have hz2 : ¬ (i1 : Int) + 1 = 0 := by omega
          clear hx
          go_upto_region 14 with fail
          obtain ⟨W5, hW5⟩ : ∃ W5, W5 = wi.setCell ⟨G, y, none⟩ (.bool true) := ⟨_, rfl⟩
          rw [← hW5] at HS1 HW1 c4 c5 ⊢
          have HBW : Hid (Below w.heap.size w W5) := hide ((unhide HB1).trans ((unhide HW1).mono (by rw [unhide HGG]; exact (unhide HB1).size)))
          clear hW5 HW0 c1 c2 c3
          go_quiet (fail)
          go_wp2_with fail
          clear c4 c5
          have HBY : Hid (∀ a, a < n → ∃ gB oB, ba = some ⟨gB, oB, none⟩ ∧ ∀ q, (W5.drewN q).cell? ⟨gB, oB + a, none⟩ = some (.int .u8 ((zs.getD a 0 : Nat) : Int))) := hide fun a ha => by
            obtain ⟨gB, oB, e1, e2⟩ := ((unhide HR).stays (unhide HBW)).bytes a (by rw [← unhide HNN]; exact ha)
            exact ⟨gB, oB, e1, fun q => e2⟩
          have hn0 : ¬ (n : Int) = 0 := by omega
          have hn0' : ((n : Int) == 0) = false := by simp; omega
          go_loopg [9] n (fun gk kv ws => ∃ k q : Nat, gk = n - k ∧ k ≤ n ∧ kv = .int .i64 (k : Int) ∧ Hid (∀ m, m < k → tw zs x m = tw zs y m) ∧ ws = W5.drewN q)
          case atStart => exact ⟨0, _, rfl, by omega, rfl, hide (fun m hm => by omega), rfl⟩
          case round =>
            obtain ⟨k, q0, rfl, hkn, rfl, HEQ, rfl⟩ := hrel
            by_cases hkl : k < n
            · have tk : (k : Int) < (n : Int) := by omega
              have tk2 : ¬ (k : Int) = (n : Int) := by omega
              have tk3 : ((k : Int) == (n : Int)) = false := by rw [beq_eq_false_iff_ne]; omega
              obtain ⟨p1, hp1⟩ : ∃ p1, p1 = (x + k) % n := ⟨_, rfl⟩
              obtain ⟨p2, hp2⟩ : ∃ p2, p2 = (y + k) % n := ⟨_, rfl⟩
              have h1 : p1 < n := by rw [hp1]; exact Nat.mod_lt _ (by omega)
              have h2 : p2 < n := by rw [hp2]; exact Nat.mod_lt _ (by omega)
              have t1 : ((x : Int) + (k : Int)).tmod (n : Int) = (p1 : Int) := by rw [hp1]; exact tmod_nat (x + k) n
              have t2 : ((y : Int) + (k : Int)).tmod (n : Int) = (p2 : Int) := by rw [hp2]; exact tmod_nat (y + k) n
              obtain ⟨gB, oB, rfl, g1⟩ := unhide HBY p1 h1
              obtain ⟨gB', oB', e5, g2⟩ := unhide HBY p2 h2
              injection e5 with e5
              injection e5 with e5 e6
              subst e5 e6
              have HXY : Hid (tw zs x k = zs.getD p1 0 ∧ tw zs y k = zs.getD p2 0) := hide (by unfold tw; rw [← unhide HNN, ← hp1, ← hp2]; exact ⟨rfl, rfl⟩)
              have h1i : (p1 : Int) < (n : Int) := by omega
              have h2i : (p2 : Int) < (n : Int) := by omega
              have g3 : ∀ q, ((W5.drewN q0).drewN q).cell? ⟨gB, oB + p1, none⟩ = some (.int .u8 ((zs.getD p1 0 : Nat) : Int)) := fun q => g1 0
              have g4 : ∀ q, ((W5.drewN q0).drewN q).cell? ⟨gB, oB + p2, none⟩ = some (.int .u8 ((zs.getD p2 0 : Nat) : Int)) := fun q => g2 0
              generalize zs.getD p1 0 = u at *
              generalize zs.getD p2 0 = v at *
              clear hp1 hp2
              obtain ⟨W6, hW6⟩ : ∃ W6, W6 = W5.drewN q0 := ⟨_, rfl⟩
              have HW6 := hide hW6
              rw [← hW6] at g3 g4 ⊢
              clear hW6 g1 g2
              by_cases huv : u = v
              · have f1 : ((u : Int) == (v : Int)) = true := by rw [beq_iff_eq]; omega
                have f2 : (u : Int) = (v : Int) := by omega
                subst huv
                go_upto_region 16 with fail
                go_quiet (fail)
                go_wp2_with fail
                go_roundg (n - (k + 1))
                case measure => omega
                case rel =>
                  refine ⟨k + 1, q0 + nq, rfl, by omega, by go_num, hide fun m hm => ?_, by rw [unhide HW6, World.drewN_drewN]⟩
                  by_cases e : m = k
                  · rw [e, (unhide HXY).1, (unhide HXY).2]
                  · exact unhide HEQ m (by omega)
              · have f1 : ((u : Int) == (v : Int)) = false := by rw [beq_eq_false_iff_ne]; omega
                have f2 : ¬ (u : Int) = (v : Int) := by omega
                have huv2 : u < v := by
                  have h3 := ahead_first (unhide HAH) (by rw [← unhide HNN]; exact hkl) (unhide HEQ) (by rw [(unhide HXY).1, (unhide HXY).2]; exact huv)
                  rw [(unhide HXY).1, (unhide HXY).2] at h3
                  exact h3
                have f3 : ¬ (v : Int) < (u : Int) := by omega
                have f4 : decide ((v : Int) < (u : Int)) = false := by simp; omega
                have f5 : ¬ v < u := by omega
                go_upto_region 16 with fail
                go_quiet (fail)
                obtain ⟨W7, hW7⟩ : ∃ W7, W7 = W6.drewN nq := ⟨_, rfl⟩
                have HW7 := hide hW7
                have g5 : ∀ q, (W7.drewN q).cell? ⟨gB, oB + p1, none⟩ = some (.int .u8 ((u : Nat) : Int)) := fun q => by rw [hW7]; exact g3 0
                have g6 : ∀ q, (W7.drewN q).cell? ⟨gB, oB + p2, none⟩ = some (.int .u8 ((v : Nat) : Int)) := fun q => by rw [hW7]; exact g4 0
                rw [← hW7]
                clear hW7 g3 g4
                go_upto_region 18 with fail
                go_quiet (fail)
                go_wp2_with fail
                go_roundg (n - (i1 + 1 + 1))
                case measure => omega
                case rel =>
                  rw [unhide HW7, unhide HW6]
                  exact ⟨i1 + 1 + 1, rfl, by omega, by go_num, HS1, hide (drewN_below (drewN_below (drewN_below (unhide HW1) _) _) _)⟩
            · obtain rfl : k = n := by omega
              have tk : ¬ (k : Int) < (k : Int) := by omega
              have tk3 : ((k : Int) == (k : Int)) = true := by simp
              have hxy : x < y := (unhide HAH).2 (rot_same fun m hm => unhide HEQ m (by rw [unhide HNN]; exact hm))
              have f3 : ¬ (y : Int) ≤ (x : Int) := by omega
              have f4 : decide ((y : Int) ≤ (x : Int)) = false := by simp; omega
              have f5 : ¬ y ≤ x := by omega
              have f6 : decide (y ≤ x) = false := by simp; omega
              obtain ⟨W6, hW6⟩ : ∃ W6, W6 = W5.drewN q0 := ⟨_, rfl⟩
              have HW6 := hide hW6
              rw [← hW6]
              clear hW6
              go_upto_region 16 with fail
              go_quiet (fail)
              obtain ⟨W7, hW7⟩ : ∃ W7, W7 = W6.drewN nq := ⟨_, rfl⟩
              have HW7 := hide hW7
              rw [← hW7]
              clear hW7
              go_upto_region 18 with fail
              go_quiet (fail)
              go_wp2_with fail
              go_roundg (k - (i1 + 1 + 1))
              case measure => omega
              case rel =>
                rw [unhide HW7, unhide HW6]
                exact ⟨i1 + 1 + 1, rfl, by omega, by go_num, HS1, hide (drewN_below (drewN_below (drewN_below (unhide HW1) _) _) _)⟩
      · obtain rfl : i = n := by omega
        have ti : ¬ (i : Int) < (i : Int) := by omega
        have HBI := hide (banana_in wi)
        have hcv := conv_banana wi
        have hH1 : w.heap.size ≤ G := by rw [unhide HGG]; exact (unhide HB1).size
        have HBW : Hid (Below w.heap.size w wi) := hide ((unhide HB1).trans ((unhide HW0).mono hH1))
        have HBA : Hid (Below w.heap.size w (wi.alloc (.cells #[.int .u8 98, .int .u8 97, .int .u8 110, .int .u8 97, .int .u8 110, .int .u8 97] 5 (6, 7)))) := hide ((unhide HBW).alloc (unhide HBW).size _)
        go_wp2_with fail
        refine (turn_told banana (some ⟨wi.heap.size, 0, none⟩) 6 _ (unhide HBI) banana_small).mono ?_
        rintro e w3 ⟨z, cz, rz, ez, rfl, hti3, hrow3, hbl3⟩
        obtain ⟨rfl, rfl⟩ := banana_turn hti3
        have HB3 : Hid (Below w.heap.size w w3) := hide ((unhide HBA).trans (hbl3.mono (unhide HBA).size))
        have hcz := conv_reads hrow3.reads (by decide)
        rw [show bs [110, 110, 98, 97, 97, 97] = ⟨#[110, 110, 98, 97, 97, 97]⟩ from rfl] at hcz
        clear hti3 hrow3 hbl3 hcv
        go_wp2_with fail
        go_ret
        exact ⟨rfl, unhide HB3⟩
end Go.Proofs.Ytpemgjcgcmleiaa
