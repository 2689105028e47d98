/- Next and Back of the program. -/
import Derived.Test.YtpemgjcgcmleiaaSb
namespace Go.Proofs.Ytpemgjcgcmleiaa
open Go.RowKit Suf
set_option maxRecDepth 100000
set_option linter.unusedVariables false

/-- bytes that lie somewhere -/
def BytesIn (w : World) (a0 : Option Addr) (b : List Nat) : Prop := ∀ j, j < b.length → ∃ g off, a0 = some ⟨g, off, none⟩ ∧ w.cell? ⟨g, off + j, none⟩ = some (.int .u8 ((b.getD j 0 : Nat) : Int))

theorem BytesIn.stays {w w' : World} {a0 : Option Addr} {b : List Nat} (h : BytesIn w a0 b) (hb : Below w.heap.size w w') : BytesIn w' a0 b := fun j hj => by
  obtain ⟨g, off, e, hc⟩ := h j hj
  exact ⟨g, off, e, by rw [hb.cell (cell_lt hc)]; exact hc⟩

theorem drewN_below {B : Nat} {w x : World} (h : Below B w x) (q : Nat) : Below B w (x.drewN q) := ⟨h.os, h.tape, h.output, h.size, h.block⟩

set_option maxHeartbeats 1000000 in
theorem next1_ok (b : List Nat) (a0 : Option Addr) (n cap cb x : Nat) (w : World) (hl : b.length = n) (hcb : w.cell? ⟨cb, 0, none⟩ = some (.slice a0 n cap)) (hb : BytesIn w a0 b) (hx : x < n) :
    Calls Try.prog 22 #[.int .i64 (x : Int), .pointer (some ⟨cb, 0, none⟩)] w fun e w' => e = .returned (.int .u8 ((b.getD x 0 : Nat) : Int)) ∧ ∃ q, w' = w.drewN q := by
  obtain ⟨g, off, rfl, hc⟩ := hb x (by rw [hl]; exact hx)
  have hxi : (x : Int) < (n : Int) := by omega
  generalize b.getD x 0 = y at *
  clear hb
  go_enter Try.func22, Try.ntmps22
  go_wp2_with fail
  go_ret
  exact ⟨rfl, 0, rfl⟩

set_option maxHeartbeats 2000000 in
theorem next_p (b : List Nat) (a0 : Option Addr) (cap : Nat) (w : World) (hc : BytesIn w a0 b) (hb : ∀ z ∈ b, z < 256) (hn : b.length ≤ 1048576) :
    Calls Try.prog 16 #[.slice a0 b.length cap] w fun e w' => ∃ g, e = .returned (.tuple #[.slice (some ⟨g, 0, none⟩) b.length b.length, .int .i64 0]) ∧ w.heap.size ≤ g ∧ IntsAt w' .i64 3 g b.length (fun i => (nextF b 256).getD i 0) ∧ Below w.heap.size w w' := by
  have HC := hide hc
  have HB := hide hb
  obtain ⟨n, hN⟩ : ∃ n, n = b.length := ⟨_, rfl⟩
  have HN := hide hN
  rw [← hN] at hn ⊢
  have hd : ¬ 1048576 < (n : Int) := by omega
  have hd2 : decide (1048576 < (n : Int)) = false := by simp; omega
  obtain ⟨H, hH⟩ : ∃ H, H = w.heap.size := ⟨_, rfl⟩
  have HH := hide hH
  have hc0 : (w.alloc (.cells #[.slice a0 n cap] 22)).cell? ⟨H, 0, none⟩ = some (.slice a0 n cap) := by
    rw [hH]
    simp only [World.cell?, heap_alloc_new]
    rfl
  have HB0 : Hid (Below H w (w.alloc (.cells #[.slice a0 n cap] 22))) := hide (by rw [hH]; exact (Below.refl _ _).alloc (Nat.le_refl _) _)
  have hsz : (w.alloc (.cells #[.slice a0 n cap] 22)).heap.size = H + 1 := by rw [hH]; simp
  obtain ⟨W0, hW0⟩ : ∃ W0, W0 = w.alloc (.cells #[.slice a0 n cap] 22) := ⟨_, rfl⟩
  have HW0 := hide hW0
  clear hN hc hb hW0
  go_enter Try.func16, Try.ntmps16
  go_wp2_with (rw [← unhide HH])
  refine (rising_ok n _ hn).mono ?_
  rintro e w1 ⟨rfl, hr1, hb1⟩
  rw [hsz] at hr1 hb1 ⊢
  rw [← unhide HW0] at hb1 hc0 HB0
  have HR1 := hide hr1
  have HB1 := hide hb1
  clear hr1 hb1 hsz
  have HB2 : Hid (Below H w w1) := hide ((unhide HB0).trans ((unhide HB1).mono (by omega)))
  have hcb1 : w1.cell? ⟨H, 0, none⟩ = some (.slice a0 n cap) := by rw [(unhide HB1).cell (by show H < H + 1; omega)]; exact hc0
  have HCB := hide hcb1
  clear hcb1 hc0 hH
  go_wp2_with fail
  refine (sort_ok (List.range n) (fun i => b.getD i 0) 22 (H + 1) n #[.pointer (some ⟨H, 0, none⟩)] w1 (by simp) hn List.nodup_range ((unhide HR1).congr fun i hi => ?_) ⟨Try.call22, fun x W hW hx => ?_, fun x hx => ?_⟩).mono ?_
  · simp [List.getD_eq_getElem?_getD, List.getElem?_range hi]
  · have hx' : x < n := by simpa using hx
    refine next1_ok b a0 n cap H x W (unhide HN).symm (by rw [hW.cell (cell_lt (unhide HCB))]; exact unhide HCB) ?_ hx'
    have h2 := unhide HB2
    rw [unhide HH] at h2
    exact ((unhide HC).stays h2).stays hW
  · have hx' : x < n := by simpa using hx
    exact unhide HB _ (getD_mem (by rw [← unhide HN]; exact hx'))
  · rintro e w2 ⟨g, rfl, hg, hg2, hb2⟩
    have HG2 := hide hg2
    have hle : H ≤ w1.heap.size := by have := (unhide HB2).size; rw [← unhide HH] at this; exact this
    have HB3 := hide ((unhide HB2).trans (hb2.mono hle))
    have hg3 : H ≤ g := by omega
    clear hg2 hb2
    go_wp2_with fail
    go_ret2
    refine ⟨g, rfl, by rw [← unhide HH]; exact hg3, ?_, by rw [← unhide HH]; exact unhide HB3⟩
    have := unhide HG2
    rw [nextF_bys, ← unhide HN]
    exact this

set_option maxHeartbeats 1000000 in
/-- Next of too many bytes -/
theorem next_big (a0 : Option Addr) (n cap : Nat) (w : World) (hn : 1048576 < n) :
    Calls Try.prog 16 #[.slice a0 n cap] w fun e w' => e = .returned (.tuple #[.slice none 0 0, .int .i64 3]) ∧ Below w.heap.size w w' := by
  have hd : 1048576 < (n : Int) := by omega
  have hd2 : decide (1048576 < (n : Int)) = true := by simp; omega
  have hc0 : (w.alloc (.cells #[.slice a0 n cap] 22)).cell? ⟨w.heap.size, 0, none⟩ = some (.slice a0 n cap) := by
    simp only [World.cell?, heap_alloc_new]
    rfl
  go_enter Try.func16, Try.ntmps16
  go_wp2_with fail
  go_ret2
  exact ⟨rfl, (Below.refl _ _).alloc (Nat.le_refl _) _⟩

theorem steps_snoc (c nx : List Nat) (row k : Nat) (C : Nat → Nat) (h : ∀ i, i < k → C i = c.getD (steps nx row (i + 1)) 0) (i : Nat) (hi : i < k + 1) : upd C k (c.getD (steps nx row (k + 1)) 0) i = c.getD (steps nx row (i + 1)) 0 := by
  unfold upd
  by_cases e : i = k
  · subst e; rw [if_pos rfl]
  · rw [if_neg e]; exact h i (by omega)

set_option maxHeartbeats 4000000 in
theorem back_p (b : List Nat) (a0 : Option Addr) (cap row : Nat) (w : World) (hc : BytesIn w a0 b) (hb : ∀ z ∈ b, z < 256) (hn : b.length ≤ 1048576) (hr : row < b.length) :
    Calls Try.prog 14 #[.slice a0 b.length cap, .int .i64 (row : Int)] w fun e w' => ∃ g, e = .returned (.tuple #[.slice (some ⟨g, 0, none⟩) b.length b.length, .int .i64 0]) ∧ w.heap.size ≤ g ∧ IntsAt w' .u8 5 g b.length (fun i => (back b (nextF b 256) row).getD i 0) ∧ Below w.heap.size w w' := by
  have HX := hide (nextF_is hb)
  have HNX := hide (next_p b a0 cap w hc hb hn)
  have HC := hide hc
  obtain ⟨n, hN⟩ : ∃ n, n = b.length := ⟨_, rfl⟩
  have HN := hide hN
  rw [← hN] at hn hr HNX ⊢
  have hn0 : ((n : Int) == 0) = false := by simp; omega
  have hn0' : ¬ (n : Int) = 0 := by omega
  have hr0 : ¬ (row : Int) < 0 := by omega
  have hr1 : ¬ (n : Int) ≤ (row : Int) := by omega
  have hr1' : (row : Int) < (n : Int) := by omega
  clear hN hc
  go_enter Try.func14, Try.ntmps14
  go_wp2_with fail
  refine (unhide HNX).mono ?_
  rintro e w1 ⟨gx, rfl, hgx, hX, hb1⟩
  have hmk := bytes_made w1 n (by omega)
  obtain ⟨G, hG⟩ : ∃ G, G = w1.heap.size := ⟨_, rfl⟩
  have hle : w.heap.size ≤ G := by have := hb1.size; omega
  have hgG : gx < G := by rw [hG]; exact hX.lt
  have HXA : Hid (IntsAt (w1.alloc (.cells (icells .u8 n (fun _ => 0)) 5)) .i64 3 gx n (fun i => (nextF b 256).getD i 0)) := hide (hX.alloc _)
  have HB1 : Hid (Below w.heap.size w (w1.alloc (.cells (icells .u8 n (fun _ => 0)) 5))) := hide (hb1.alloc (by omega) _)
  have HO : Hid (∃ C, IntsAt (w1.alloc (.cells (icells .u8 n (fun _ => 0)) 5)) .u8 5 G n C ∧ ∀ i, i < 0 → C i = b.getD (steps (nextF b 256) row (i + 1)) 0) := hide ⟨fun _ => 0, by rw [hG]; exact heap_alloc_new _ _, fun i hi => by omega⟩
  rw [← hG] at hmk
  have c0 := (unhide HXA).cell row hr
  have HX0 : Hid ((nextF b 256).getD row 0 = steps (nextF b 256) row 1) := hide rfl
  generalize (nextF b 256).getD row 0 = x0 at c0 HX0
  by_cases h0 : row = 0
  · subst h0
    have f0 : ¬ n = 0 := by omega
    have f1 : decide (n = 0) = false := by simp; omega
    clear hG hX hb1
    go_wp2_with fail
    clear hmk c0
    go_loopg [9, 43] n (fun gk xv c ws => ∃ i : Nat, gk = n - i ∧ i ≤ n ∧ xv = .int .i64 ((steps (nextF b 256) 0 (i + 1) : Nat) : Int) ∧ c = .int .i64 (i : Int) ∧ Hid (IntsAt ws .i64 3 gx n (fun i => (nextF b 256).getD i 0)) ∧ Hid (Below w.heap.size w ws) ∧ Hid (∃ C, IntsAt ws .u8 5 G n C ∧ ∀ j, j < i → C j = b.getD (steps (nextF b 256) 0 (j + 1)) 0))
    case atStart => exact ⟨0, by omega, by omega, by rw [unhide HX0], rfl, HXA, HB1, HO⟩
    case round =>
      clear HXA HB1 HO
      obtain ⟨i, rfl, hin, rfl, rfl, HXA, HB1, HO⟩ := hrel
      rename World => wi
      by_cases hil : i < n
      · have ti : (i : Int) < (n : Int) := by omega
        have hrw : 0 < b.length := by rw [← unhide HN]; exact hr
        have hx1 := steps_lt (unhide HX) hrw (i + 1)
        have hst : steps (nextF b 256) 0 (i + 2) = (nextF b 256).getD (steps (nextF b 256) 0 (i + 1)) 0 := rfl
        have HSN := hide (steps_snoc b (nextF b 256) 0 i)
        have d1 := (unhide HXA).cell (steps (nextF b 256) 0 (i + 1)) (by rw [unhide HN]; exact hx1)
        obtain ⟨g2, off2, rfl, c2⟩ := unhide HC (steps (nextF b 256) 0 (i + 1)) hx1
        obtain ⟨C, hC1, hC2⟩ := unhide HO
        have d2 := c2
        rw [← (unhide HB1).cell (cell_lt c2)] at d2
        have d3 := hC1.cell i hil
        have d4 := hC1.free i
        rw [← hst] at d1
        have d1' : (wi.setCell ⟨G, i, none⟩ (.int .u8 ((b.getD (steps (nextF b 256) 0 (i + 1)) 0 : Nat) : Int))).cell? ⟨gx, steps (nextF b 256) 0 (i + 1), none⟩ = some (.int .i64 ((steps (nextF b 256) 0 (i + 2) : Nat) : Int)) := by
          rw [hst]
          exact ((unhide HXA).other ⟨G, i, none⟩ _ (by show gx ≠ G; omega)).cell _ (by rw [unhide HN]; exact hx1)
        rw [← unhide HN] at hx1
        have HC1 := hide hC1
        have HC2 := hide hC2
        clear c2 hst hC1 hC2 d1
        obtain ⟨y, hy⟩ : ∃ y, y = steps (nextF b 256) 0 (i + 2) := ⟨_, rfl⟩
        rw [← hy] at d1'
        have HY := hide hy
        clear hy
        generalize steps (nextF b 256) 0 (i + 1) = x at *
        generalize hz : b.getD x 0 = z at *
        have hxi : (x : Int) < (n : Int) := by omega
        clear hz
        go_wp2_with fail
        go_roundg (n - (i + 1))
        case measure => omega
        case rel => exact ⟨i + 1, rfl, by omega, by rw [unhide HY], by go_num, hide ((unhide HXA).other _ _ (by show gx ≠ G; omega)), hide ((unhide HB1).setCell (by show w.heap.size ≤ G; omega) _), hide ⟨_, (unhide HC1).set i z, unhide HSN C (unhide HC2)⟩⟩
      · obtain rfl : i = n := by omega
        have ti : ¬ (i : Int) < (i : Int) := by omega
        go_wp2_with fail
        go_ret2
        obtain ⟨C, hC1, hC2⟩ := unhide HO
        refine ⟨G, rfl, hle, hC1.congr fun j hj => ?_, unhide HB1⟩
        rw [hC2 j hj]
        generalize hq : b.getD (steps (nextF b 256) 0 (j + 1)) 0 = q
        unfold back
        rw [← unhide HN, List.getElem?_map, List.getElem?_range hj]
        exact hq.symm
  · have f0 : ((row : Int) == 0) = false := by simp; omega
    have f1 : ¬ (row : Int) = 0 := by omega
    have f2 : decide ((row : Int) < 0) = false := by simp
    have f3 : ¬ n ≤ row := by omega
    have f4 : decide (n ≤ row) = false := by simp; omega
    clear hG hX hb1
    go_wp2_with fail
    clear hmk c0
    go_loopg [9, 43] n (fun gk xv c ws => ∃ i : Nat, gk = n - i ∧ i ≤ n ∧ xv = .int .i64 ((steps (nextF b 256) row (i + 1) : Nat) : Int) ∧ c = .int .i64 (i : Int) ∧ Hid (IntsAt ws .i64 3 gx n (fun i => (nextF b 256).getD i 0)) ∧ Hid (Below w.heap.size w ws) ∧ Hid (∃ C, IntsAt ws .u8 5 G n C ∧ ∀ j, j < i → C j = b.getD (steps (nextF b 256) row (j + 1)) 0))
    case atStart => exact ⟨0, by omega, by omega, by rw [unhide HX0], rfl, HXA, HB1, HO⟩
    case round =>
      clear HXA HB1 HO
      obtain ⟨i, rfl, hin, rfl, rfl, HXA, HB1, HO⟩ := hrel
      rename World => wi
      by_cases hil : i < n
      · have ti : (i : Int) < (n : Int) := by omega
        have hrw : row < b.length := by rw [← unhide HN]; exact hr
        have hx1 := steps_lt (unhide HX) hrw (i + 1)
        have hst : steps (nextF b 256) row (i + 2) = (nextF b 256).getD (steps (nextF b 256) row (i + 1)) 0 := rfl
        have HSN := hide (steps_snoc b (nextF b 256) row i)
        have d1 := (unhide HXA).cell (steps (nextF b 256) row (i + 1)) (by rw [unhide HN]; exact hx1)
        obtain ⟨g2, off2, rfl, c2⟩ := unhide HC (steps (nextF b 256) row (i + 1)) hx1
        obtain ⟨C, hC1, hC2⟩ := unhide HO
        have d2 := c2
        rw [← (unhide HB1).cell (cell_lt c2)] at d2
        have d3 := hC1.cell i hil
        have d4 := hC1.free i
        rw [← hst] at d1
        have d1' : (wi.setCell ⟨G, i, none⟩ (.int .u8 ((b.getD (steps (nextF b 256) row (i + 1)) 0 : Nat) : Int))).cell? ⟨gx, steps (nextF b 256) row (i + 1), none⟩ = some (.int .i64 ((steps (nextF b 256) row (i + 2) : Nat) : Int)) := by
          rw [hst]
          exact ((unhide HXA).other ⟨G, i, none⟩ _ (by show gx ≠ G; omega)).cell _ (by rw [unhide HN]; exact hx1)
        rw [← unhide HN] at hx1
        have HC1 := hide hC1
        have HC2 := hide hC2
        clear c2 hst hC1 hC2 d1
        obtain ⟨y, hy⟩ : ∃ y, y = steps (nextF b 256) row (i + 2) := ⟨_, rfl⟩
        rw [← hy] at d1'
        have HY := hide hy
        clear hy
        generalize steps (nextF b 256) row (i + 1) = x at *
        generalize hz : b.getD x 0 = z at *
        have hxi : (x : Int) < (n : Int) := by omega
        clear hz
        go_wp2_with fail
        go_roundg (n - (i + 1))
        case measure => omega
        case rel => exact ⟨i + 1, rfl, by omega, by rw [unhide HY], by go_num, hide ((unhide HXA).other _ _ (by show gx ≠ G; omega)), hide ((unhide HB1).setCell (by show w.heap.size ≤ G; omega) _), hide ⟨_, (unhide HC1).set i z, unhide HSN C (unhide HC2)⟩⟩
      · obtain rfl : i = n := by omega
        have ti : ¬ (i : Int) < (i : Int) := by omega
        go_wp2_with fail
        go_ret2
        obtain ⟨C, hC1, hC2⟩ := unhide HO
        refine ⟨G, rfl, hle, hC1.congr fun j hj => ?_, unhide HB1⟩
        rw [hC2 j hj]
        generalize hq : b.getD (steps (nextF b 256) row (j + 1)) 0 = q
        unfold back
        rw [← unhide HN, List.getElem?_map, List.getElem?_range hj]
        exact hq.symm

end Go.Proofs.Ytpemgjcgcmleiaa
