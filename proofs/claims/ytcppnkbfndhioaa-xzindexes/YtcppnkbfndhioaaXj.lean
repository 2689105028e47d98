/- The cursor: records. -/
import Derived.Test.YtcppnkbfndhioaaXi
import Derived.Laws.ResultCell
namespace Go.Proofs.Ytcppnkbfndhioaa
open Go.RowKit
set_option maxRecDepth 100000
set_option linter.unusedVariables false
attribute [local go_sem ↓] Go.wp_at_zero Go.wp_at_succ

/-- a record that is read: its numbers, the error, the place behind it -/
def recF (zs : List Nat) (p : Nat) : (Nat × Nat) × Nat × Nat :=
  if (longF zs p).2.1 ≠ 0 then ((0, 0), (longF zs p).2.1, (longF zs p).2.2)
  else if (longF zs (longF zs p).2.2).2.1 ≠ 0 then ((0, 0), (longF zs (longF zs p).2.2).2.1, (longF zs (longF zs p).2.2).2.2)
  else if may ((longF zs p).1 : Int) ((longF zs (longF zs p).2.2).1 : Int) = true then (((longF zs p).1, (longF zs (longF zs p).2.2).1), 0, (longF zs (longF zs p).2.2).2.2)
  else ((0, 0), 11, (longF zs (longF zs p).2.2).2.2)

theorem recF_def (zs : List Nat) (p : Nat) : recF zs p =
  if (longF zs p).2.1 ≠ 0 then ((0, 0), (longF zs p).2.1, (longF zs p).2.2)
  else if (longF zs (longF zs p).2.2).2.1 ≠ 0 then ((0, 0), (longF zs (longF zs p).2.2).2.1, (longF zs (longF zs p).2.2).2.2)
  else if may ((longF zs p).1 : Int) ((longF zs (longF zs p).2.2).1 : Int) = true then (((longF zs p).1, (longF zs (longF zs p).2.2).1), 0, (longF zs (longF zs p).2.2).2.2)
  else ((0, 0), 11, (longF zs (longF zs p).2.2).2.2) := rfl

/-- a record in a block of its own -/
def RecAt (w : World) (b : Nat) (s t : Int) : Prop := w.heap[b]? = some (.cells #[.int .i64 s, .int .i64 t] 37 (0, 0))

theorem RecAt.c0 {w : World} {b : Nat} {s t : Int} (h : RecAt w b s t) : w.cell? ⟨b, 0, none⟩ = some (.int .i64 s) := by
  unfold RecAt at h
  simp only [World.cell?, h]; rfl
theorem RecAt.c1 {w : World} {b : Nat} {s t : Int} (h : RecAt w b s t) : w.cell? ⟨b, 1, none⟩ = some (.int .i64 t) := by
  unfold RecAt at h
  simp only [World.cell?, h]; rfl
theorem RecAt.free {w : World} {b : Nat} {s t : Int} (h : RecAt w b s t) (j : Nat) : w.frozen? ⟨b, j, none⟩ = false := by
  unfold RecAt at h
  simp [World.frozen?, h]
theorem RecAt.set0 {w : World} {b : Nat} {s t : Int} (h : RecAt w b s t) (x : Int) : RecAt (w.setCell ⟨b, 0, none⟩ (.int .i64 x)) b x t := heap_setCell_same w b 0 _ 37 _ h
theorem RecAt.set1 {w : World} {b : Nat} {s t : Int} (h : RecAt w b s t) (x : Int) : RecAt (w.setCell ⟨b, 1, none⟩ (.int .i64 x)) b s x := heap_setCell_same w b 1 _ 37 _ h
theorem RecAt.step {w w1 : World} {b g h cap q : Nat} {s t : Int} {zs : List Nat} (hr : RecAt w b s t) (hs : Step w w1 g h cap zs q) (hne : b ≠ g) : RecAt w1 b s t := by
  unfold RecAt
  rw [hs.only.keep b (heap_lt hr) hne]
  exact hr
theorem RecAt.below {w w1 : World} {b : Nat} {s t : Int} (hr : RecAt w b s t) (hs : Below w.heap.size w w1) : RecAt w1 b s t := by
  unfold RecAt
  rw [hs.block b (heap_lt hr)]
  exact hr

theorem Cur.other {w : World} {g h cap p b : Nat} {zs : List Nat} (c : Cur w g h cap zs p) (j : Nat) (v : Value) (h1 : b ≠ g) (h2 : b ≠ h) : Cur (w.setCell ⟨b, j, none⟩ v) g h cap zs p := by
  refine ⟨by rw [Below.heap_setCell _ _ _ _ (by exact fun e => h1 e.symm)]; exact c.cells, fun k hk => ?_, c.ne, by simp [c.lies], c.le, c.cap, c.small, c.oct⟩
  rw [World.cell?_setCell_other _ _ _ _ (by intro e; have := congrArg Addr.block e; exact h2 this)]
  exact c.bytes k hk

theorem Step.other {w w1 : World} {g h cap p b : Nat} {zs : List Nat} (c : Step w w1 g h cap zs p) (hb : w.heap.size ≤ b) (hl : h < w.heap.size) (hg : g < w.heap.size) (j : Nat) (v : Value) : Step w (w1.setCell ⟨b, j, none⟩ v) g h cap zs p :=
  ⟨c.cur.other j v (by omega) (by omega), ⟨c.only.os, c.only.tape, c.only.output, by have := c.only.size; simp; exact this, fun x hx hne => by rw [Below.heap_setCell _ _ _ _ (show x ≠ b by omega)]; exact c.only.keep x hx hne⟩⟩

theorem rec_ret {tmps : Array Value} {w : World} {b : Nat} {s t x : Int} (hp : tmps.getD 2 undef = .pointer (some ⟨b, 0, none⟩)) (hx : tmps.getD 3 undef = .int .i64 x) (hr : RecAt w b s t) :
    (results Try.f33 tmps).run Try.prog w = .ok (.tuple #[.agg #[.int .i64 s, .int .i64 t], .int .i64 x]) w := by
  have hld := run_loadVar_row (P := Try.prog) w b 37 37 _ (0, 0) _ hr Try.underlying37 rfl (by kernel_rfl)
  rw [results_cell_tmp rfl, hp, hx]
  simp [asAddr, hld]

set_option maxHeartbeats 2000000 in
theorem readRecord_ok (g h cap p : Nat) (zs : List Nat) (w : World) (c : Cur w g h cap zs p) :
    Calls Try.prog 33 #[.pointer (some ⟨g, 0, none⟩)] w fun e w' => e = .returned (.tuple #[.agg #[.int .i64 ((recF zs p).1.1 : Int), .int .i64 ((recF zs p).1.2 : Int)], .int .i64 ((recF zs p).2.1 : Int)]) ∧ Step w w' g h cap zs (recF zs p).2.2 := by
  have hgl := heap_lt c.cells
  have hhl := c.lies
  have HF := hide (recF_def zs p)
  generalize recF zs p = R at *
  have HS0 := hide ((Step.refl c).stays ((Below.refl _ _).alloc (Nat.le_refl _) (.cells #[.int .i64 0, .int .i64 0] 37)))
  have HR0 : Hid (RecAt (w.alloc (.cells #[.int .i64 0, .int .i64 0] 37)) w.heap.size 0 0) := hide (heap_alloc_new w _)
  obtain ⟨W0, hW0⟩ : ∃ W0, W0 = w.alloc (.cells #[.int .i64 0, .int .i64 0] 37) := ⟨_, rfl⟩
  rw [← hW0] at HS0 HR0
  have HW0 := hide hW0
  have HL1 := hide (readLong_ok g h cap p zs W0 (unhide HS0).cur)
  have HIN := hide (longF_in zs p c.le)
  clear c hW0
  generalize longF zs p = A at *
  obtain ⟨s, x, q⟩ := A
  simp only at HF HL1 HIN
  by_cases hx : x = 0
  · subst hx
    rw [if_neg (by simp)] at HF
    have HL2 : Hid (∀ W, Cur W g h cap zs q → _) := hide (fun W hW => readLong_ok g h cap q zs W hW)
    have HIN2 := hide (longF_in zs q (unhide HIN).2.2)
    generalize longF zs q = B at *
    obtain ⟨t, y, q2⟩ := B
    simp only at HF HL2 HIN2
    by_cases hy : y = 0
    · subst hy
      rw [if_neg (by simp)] at HF
      cases hm : may (s : Int) (t : Int) with
      | true =>
        rw [hm, if_pos rfl] at HF
        obtain rfl : R = ((s, t), 0, q2) := unhide HF
        have HU : Hid (∀ W, _) := hide (fun W => unfit_ok (s : Int) (t : Int) W)
        rw [hm] at HU
        go_enter Try.func33, Try.ntmps33
        go_wp2_with fail
        rw [← unhide HW0]
        refine (unhide HL1).mono ?_
        rintro e w1 ⟨rfl, h1⟩
        have HS1 := hide ((unhide HS0).trans h1)
        have hr1 := (unhide HR0).step h1 (by omega)
        have k0 := hr1.c0
        have f0 := hr1.free 0
        have hra := hr1.set0 (s : Int)
        have HSA := hide ((unhide HS1).other (Nat.le_refl _) hhl hgl 0 (.int .i64 (s : Int)))
        have HRA := hide hra
        clear hr1 h1 HL1 hra
        go_wp2_with fail
        refine (unhide HL2 _ (unhide HSA).cur).mono ?_
        rintro e w2 ⟨rfl, h2⟩
        have hr2 := (unhide HRA).step h2 (by omega)
        have HS2 := hide ((unhide HSA).trans h2)
        have j1 := hr2.c1
        have f1 := hr2.free 1
        have hrb := hr2.set1 (t : Int)
        have HSB := hide ((unhide HS2).other (Nat.le_refl _) hhl hgl 1 (.int .i64 (t : Int)))
        have c0 := hrb.c0
        have c1 := hrb.c1
        have HRB := hide hrb
        clear hr2 h2 hrb HRA HSA k0 f0
        go_wp2_with fail
        refine (unhide HU _).mono ?_
        rintro e w4 ⟨rfl, h4⟩
        have hr4 := (unhide HRB).below h4
        have d0 := hr4.c0
        have d1 := hr4.c1
        have g0 := hr4.free 0
        have g1 := hr4.free 1
        have HS4 := hide ((unhide HSB).stays h4)
        have HRE := hide ((hr4.set0 (s : Int)).set1 (t : Int))
        have HSE := hide (((unhide HS4).other (Nat.le_refl _) hhl hgl 0 (.int .i64 (s : Int))).other (Nat.le_refl _) hhl hgl 1 (.int .i64 (t : Int)))
        clear hr4 h4 HRB HSB c0 c1 j1 f1
        go_wp2_with fail
        (try simp only [Exit.inBlock, Exit.then])
        exact bodyPost_ret (rec_ret (b := w.heap.size) rfl rfl (unhide HRE)) rfl ⟨rfl, unhide HSE⟩
      | false =>
        rw [hm, if_neg (by decide)] at HF
        obtain rfl : R = ((0, 0), 11, q2) := unhide HF
        have HU : Hid (∀ W, _) := hide (fun W => unfit_ok (s : Int) (t : Int) W)
        rw [hm] at HU
        go_enter Try.func33, Try.ntmps33
        go_wp2_with fail
        rw [← unhide HW0]
        refine (unhide HL1).mono ?_
        rintro e w1 ⟨rfl, h1⟩
        have HS1 := hide ((unhide HS0).trans h1)
        have hr1 := (unhide HR0).step h1 (by omega)
        have k0 := hr1.c0
        have f0 := hr1.free 0
        have hra := hr1.set0 (s : Int)
        have HSA := hide ((unhide HS1).other (Nat.le_refl _) hhl hgl 0 (.int .i64 (s : Int)))
        have HRA := hide hra
        clear hr1 h1 HL1 hra
        go_wp2_with fail
        refine (unhide HL2 _ (unhide HSA).cur).mono ?_
        rintro e w2 ⟨rfl, h2⟩
        have hr2 := (unhide HRA).step h2 (by omega)
        have HS2 := hide ((unhide HSA).trans h2)
        have j1 := hr2.c1
        have f1 := hr2.free 1
        have hrb := hr2.set1 (t : Int)
        have HSB := hide ((unhide HS2).other (Nat.le_refl _) hhl hgl 1 (.int .i64 (t : Int)))
        have c0 := hrb.c0
        have c1 := hrb.c1
        have HRB := hide hrb
        clear hr2 h2 hrb HRA HSA k0 f0
        go_wp2_with fail
        refine (unhide HU _).mono ?_
        rintro e w4 ⟨rfl, h4⟩
        have hr4 := (unhide HRB).below h4
        have d0 := hr4.c0
        have d1 := hr4.c1
        have g0 := hr4.free 0
        have g1 := hr4.free 1
        have HS4 := hide ((unhide HSB).stays h4)
        have HRE := hide ((hr4.set0 0).set1 0)
        have HSE := hide (((unhide HS4).other (Nat.le_refl _) hhl hgl 0 (.int .i64 0)).other (Nat.le_refl _) hhl hgl 1 (.int .i64 0))
        clear hr4 h4 HRB HSB c0 c1 j1 f1
        go_wp2_with fail
        (try simp only [Exit.inBlock, Exit.then])
        exact bodyPost_ret (rec_ret (b := w.heap.size) rfl rfl (unhide HRE)) rfl ⟨rfl, unhide HSE⟩
    · rw [if_pos hy] at HF
      have hyy : ((y : Int) != 0) = true := by simp; omega
      obtain rfl : R = ((0, 0), y, q2) := unhide HF
      go_enter Try.func33, Try.ntmps33
      go_wp2_with fail
      rw [← unhide HW0]
      refine (unhide HL1).mono ?_
      rintro e w1 ⟨rfl, h1⟩
      have HS1 := hide ((unhide HS0).trans h1)
      have hr1 := (unhide HR0).step h1 (by omega)
      have k0 := hr1.c0
      have f0 := hr1.free 0
      have hra := hr1.set0 (s : Int)
      have HSA := hide ((unhide HS1).other (Nat.le_refl _) hhl hgl 0 (.int .i64 (s : Int)))
      have HRA := hide hra
      clear hr1 h1 HL1 hra
      go_wp2_with fail
      refine (unhide HL2 _ (unhide HSA).cur).mono ?_
      rintro e w2 ⟨rfl, h2⟩
      have hr2 := (unhide HRA).step h2 (by omega)
      have HS2 := hide ((unhide HSA).trans h2)
      have j1 := hr2.c1
      have f1 := hr2.free 1
      have hrb := hr2.set1 (t : Int)
      have HSB := hide ((unhide HS2).other (Nat.le_refl _) hhl hgl 1 (.int .i64 (t : Int)))
      have d0 := hrb.c0
      have d1 := hrb.c1
      have g0 := hrb.free 0
      have g1 := hrb.free 1
      have HRE := hide ((hrb.set0 0).set1 0)
      have HSE := hide (((unhide HSB).other (Nat.le_refl _) hhl hgl 0 (.int .i64 0)).other (Nat.le_refl _) hhl hgl 1 (.int .i64 0))
      clear hr2 h2 hrb HRA HSA HSB k0 f0
      go_wp2_with fail
      (try simp only [Exit.inBlock, Exit.then])
      exact bodyPost_ret (rec_ret (b := w.heap.size) rfl rfl (unhide HRE)) rfl ⟨rfl, unhide HSE⟩
  · rw [if_pos hx] at HF
    have hxx : ((x : Int) != 0) = true := by simp; omega
    obtain rfl : R = ((0, 0), x, q) := unhide HF
    go_enter Try.func33, Try.ntmps33
    go_wp2_with fail
    rw [← unhide HW0]
    refine (unhide HL1).mono ?_
    rintro e w1 ⟨rfl, h1⟩
    have HS1 := hide ((unhide HS0).trans h1)
    have hr1 := (unhide HR0).step h1 (by omega)
    have k0 := hr1.c0
    have k1 := hr1.c1
    have f0 := hr1.free 0
    have f1 := hr1.free 1
    have HRA := hide (((hr1.set0 (s : Int)).set0 0).set1 0)
    have HSA := hide ((((unhide HS1).other (Nat.le_refl _) hhl hgl 0 (.int .i64 (s : Int))).other (Nat.le_refl _) hhl hgl 0 (.int .i64 0)).other (Nat.le_refl _) hhl hgl 1 (.int .i64 0))
    clear hr1 h1 HL1
    go_wp2_with fail
    (try simp only [Exit.inBlock, Exit.then])
    exact bodyPost_ret (rec_ret (b := w.heap.size) rfl rfl (unhide HRA)) rfl ⟨rfl, unhide HSA⟩
end Go.Proofs.Ytcppnkbfndhioaa
