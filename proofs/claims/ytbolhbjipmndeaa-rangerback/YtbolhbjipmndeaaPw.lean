/- widen, bound, learn, put (the program's): a bit by a chance. -/
import Derived.Test.YtbolhbjipmndeaaSh
import Derived.Test.YtbolhbjipmndeaaDBi
namespace Go.Proofs.Ytbolhbjipmndeaa.D
open Go.RowKit Rang
set_option maxRecDepth 100000
set_option linter.unusedVariables false
attribute [local go_sem ↓] Go.wp_at_zero Go.wp_at_succ

/-- an encoder whose numbers are small, and one byte at least waits -/
structure PTame (c : Enc) : Prop where
  low : c.low < 8589934592
  kept : c.kept < 256
  wait : 1 ≤ c.wait ∧ c.out.length + c.wait ≤ 100000000000001

set_option maxHeartbeats 4000000 in
theorem pwiden_ok (B pb : Nat) (w : World) (chv ov : Value) (c : Enc) (h : PAt B w pb chv ov c) (ht : PTame c) (h1 : 65536 ≤ c.rng) (h2 : c.rng < 4294967296) (hB : B ≤ w.heap.size) :
    Calls Try.prog 71 #[.pointer (some ⟨pb, 0, none⟩)] w fun e w' => e = .returned (.tuple #[]) ∧ ∃ ov', PAt B w' pb chv ov' (settleE c) ∧ Touch w w' pb ov ov' := by
  obtain ⟨low, rng, kept, wait, out⟩ := c
  simp only at h1 h2
  have HT := hide ht
  have HE := hide h
  clear h ht
  by_cases hr : rng < 16777216
  · have HS : Hid (settleE ⟨low, rng, kept, wait, out⟩ = shiftE ⟨low, rng * 256, kept, wait, out⟩) := hide (by unfold settleE; rw [if_pos hr])
    go_enter Try.func71, Try.ntmps71
    go_wp2_with fail
    go_loopg [] 1 (fun gk ws => (gk = 1 ∧ w = ws) ∨ (gk = 0 ∧ Hid (∃ ov' c', PAt B ws pb chv ov' c' ∧ c' = shiftE ⟨low, rng * 256, kept, wait, out⟩ ∧ c'.rng = rng * 256 ∧ Touch w ws pb ov ov')))
    case atStart => exact .inl ⟨rfl, rfl⟩
    case round =>
      rcases hrel with ⟨rfl, rfl⟩ | ⟨rfl, HR⟩
      · have c2 := (unhide HE).rng
        have f2 := (unhide HE).free 3
        have t2 : (rng : Int) < 16777216 := by omega
        have fs : (rng : Int) * 256 % 4294967296 = (rng : Int) * 256 := by omega
        have h3 := (unhide HE).setField 3 (.int .u32 ((rng : Int) * 256)) ⟨low, rng * 256, kept, wait, out⟩ (by simp [pcells]) rfl
        have HC := hide (pshift_ok B pb _ chv ov _ h3.1 (unhide HT).low (unhide HT).kept (unhide HT).wait (by simpa using hB))
        have HT3 := hide h3.2
        clear h3
        go_wp2_with fail
        refine (unhide HC).mono ?_
        rintro e w1 ⟨rfl, ov', h4, h5⟩
        have H4 := hide h4
        have H5 := hide ((unhide HT3).trans h5)
        clear h4 h5 HC
        go_wp2_with fail
        go_roundg 0
        case measure => omega
        case rel => exact .inr ⟨rfl, hide ⟨ov', _, unhide H4, rfl, (shift_low _).2, unhide H5⟩⟩
      · obtain ⟨ov', c', h3, h4, h5, h6⟩ := unhide HR
        have c2 := h3.rng
        rw [h5] at c2
        have t2 : ¬ ((rng * 256 : Nat) : Int) < 16777216 := by omega
        have H3 := hide h3
        have H4 := hide h4
        have H6 := hide h6
        clear h3 h4 h5 h6 HR
        obtain ⟨R, hR⟩ : ∃ R, R = rng * 256 := ⟨_, rfl⟩
        rw [← hR] at c2 t2
        clear hR
        go_wp2_with fail
        go_end0
        rw [unhide HS, ← unhide H4]
        exact ⟨rfl, ov', unhide H3, unhide H6⟩
  · have HS : Hid (settleE ⟨low, rng, kept, wait, out⟩ = ⟨low, rng, kept, wait, out⟩) := hide (by unfold settleE; rw [if_neg hr])
    have c2 := (unhide HE).rng
    have t2 : ¬ (rng : Int) < 16777216 := by omega
    have t3 : decide ((rng : Int) < 16777216) = false := decide_eq_false t2
    clear h1 h2 hr t2
    go_enter Try.func71, Try.ntmps71
    go_wp2_with fail
    go_loopg [] 0 (fun gk ws => w = ws ∧ gk = 0)
    case atStart => exact ⟨rfl, rfl⟩
    case round =>
      obtain ⟨rfl, hgk⟩ := hrel
      clear hgk
      go_wp2_with fail
      go_end0
      rw [unhide HS]
      exact ⟨rfl, ov, unhide HE, Touch.refl _ _ _⟩

/-- the program's chances in a block of their own -/
def PCh (w : World) (gc : Nat) (ch : List Nat) : Prop := w.heap[gc]? = some (.cells (ch.map fun p : Nat => Value.int .u16 (p : Int)).toArray 91 (0, 0))

theorem PCh.cell {w : World} {gc : Nat} {ch : List Nat} (h : PCh w gc ch) (i : Nat) (hi : i < ch.length) : w.cell? ⟨gc, i, none⟩ = some (.int .u16 ((ch.getD i 0 : Nat) : Int)) := by
  simp only [World.cell?, show w.heap[gc]? = _ from h]
  simp [List.getElem?_map, List.getElem?_eq_getElem hi, List.getD_eq_getElem?_getD]
theorem PCh.free {w : World} {gc : Nat} {ch : List Nat} (h : PCh w gc ch) (i : Nat) : w.frozen? ⟨gc, i, none⟩ = false := by simp [World.frozen?, show w.heap[gc]? = _ from h]
theorem PCh.set {w : World} {gc : Nat} {ch : List Nat} (h : PCh w gc ch) (i x : Nat) : PCh (w.setCell ⟨gc, i, none⟩ (.int .u16 (x : Int))) gc (ch.set i x) := by
  unfold PCh
  rw [heap_setCell_same w gc i _ 91 _ h]
  simp [List.map_set]
theorem PCh.of {w w' : World} {gc : Nat} {ch : List Nat} (h : PCh w gc ch) (e : w'.heap[gc]? = w.heap[gc]?) : PCh w' gc ch := by
  unfold PCh
  rw [e]
  exact h
theorem PCh.lt {w : World} {gc : Nat} {ch : List Nat} (h : PCh w gc ch) : gc < w.heap.size := heap_lt h

/-- a struct, its chances, its row: three blocks -/
theorem PAt.notch {B : Nat} {w : World} {pb gc : Nat} {chv ov : Value} {c : Enc} {ch : List Nat} (h : PAt B w pb chv ov c) (h' : PCh w gc ch) : gc ≠ pb ∧ ov.ownBlock ≠ some gc := by
  constructor
  · rintro rfl
    have := h.cells
    rw [show w.heap[gc]? = _ from h'] at this
    injection this with this
    injection this with _ h2
    cases h2
  · intro e
    rcases h.row.2 with ⟨e1, e2⟩ | ⟨g, cap, cur, e1, hb, hh, _⟩
    · rw [e1] at e; cases e
    · rw [e1] at e
      obtain rfl : g = gc := Option.some.inj e
      rw [show w.heap[g]? = _ from h'] at hh
      injection hh with hh
      injection hh with _ h2
      cases h2

/-- an encoder of the program's with its chances -/
structure PC (B : Nat) (w : World) (pb gc : Nat) (ov : Value) (c : Enc) (ch : List Nat) : Prop where
  enc : PAt B w pb (.slice (some ⟨gc, 0, none⟩) ch.length ch.length) ov c
  chs : PCh w gc ch
  lo : B ≤ gc

theorem PC.step {B : Nat} {w w' : World} {pb gc : Nat} {ov ov' : Value} {c c' : Enc} {ch : List Nat} (h : PC B w pb gc ov c ch) (h1 : PAt B w' pb (.slice (some ⟨gc, 0, none⟩) ch.length ch.length) ov' c') (h2 : Touch w w' pb ov ov') : PC B w' pb gc ov' c' ch ∧ Tch w w' pb gc 0 ov ov' := by
  have h3 := h.enc.notch h.chs
  exact ⟨⟨h1, h.chs.of (h2.keep gc h.chs.lt h3.1 h3.2), h.lo⟩, h2.wide gc 0⟩

theorem PC.setCh {B : Nat} {w : World} {pb gc : Nat} {ov : Value} {c : Enc} {ch : List Nat} (h : PC B w pb gc ov c ch) (i x : Nat) : PC B (w.setCell ⟨gc, i, none⟩ (.int .u16 (x : Int))) pb gc ov c (ch.set i x) ∧ Tch w (w.setCell ⟨gc, i, none⟩ (.int .u16 (x : Int))) pb gc 0 ov ov := by
  have h3 := h.enc.notch h.chs
  refine ⟨⟨?_, h.chs.set i x, h.lo⟩, ⟨rfl, rfl, rfl, by simp, fun k hk _ h1 _ => heap_setCell_other _ _ _ _ h1, fun b e => .inl e⟩⟩
  rw [List.length_set]
  exact ⟨by rw [heap_setCell_other _ _ _ _ (show pb ≠ gc from fun e => h3.1 e.symm)]; exact h.enc.cells, own_keep h.enc.row fun g e => heap_setCell_other _ _ _ _ (show g ≠ gc from fun e' => h3.2 (by rw [e, e'])), h.enc.lo⟩

theorem PC.drewN {B : Nat} {w : World} {pb gc : Nat} {ov : Value} {c : Enc} {ch : List Nat} (h : PC B w pb gc ov c ch) (q : Nat) : PC B (w.drewN q) pb gc ov c ch := ⟨h.enc.drewN q, h.chs, h.lo⟩

set_option maxHeartbeats 2000000 in
theorem bound_ok (w : World) (gc : Nat) (ch : List Nat) (rng i : Nat) (h : PCh w gc ch) (hi : i < ch.length) (hr : rng < 4294967296) (hp : ch.getD i 0 ≤ 2017) :
    Calls Try.prog 69 #[.slice (some ⟨gc, 0, none⟩) ch.length ch.length, .int .u32 (rng : Int), .int .i64 (i : Int)] w fun e w' => e = .returned (.int .u32 ((rng / 2048 * ch.getD i 0 : Nat) : Int)) ∧ w' = w := by
  obtain ⟨n, hn⟩ : ∃ n, n = ch.length := ⟨_, rfl⟩
  obtain ⟨p, hpp⟩ : ∃ p, p = ch.getD i 0 := ⟨_, rfl⟩
  have cp := h.cell i hi
  rw [← hpp] at cp hp ⊢
  rw [← hn] at hi ⊢
  obtain ⟨q, hq⟩ : ∃ q, q = rng / 2048 := ⟨_, rfl⟩
  rw [← hq]
  have fq : (rng : Int) / 2048 = (q : Int) := by omega
  have hq2 : q < 2097152 := by omega
  have hb : q * p ≤ q * 2017 := Nat.mul_le_mul_left _ hp
  obtain ⟨b, hb2⟩ : ∃ b, b = q * p := ⟨_, rfl⟩
  rw [← hb2] at hb ⊢
  have fb : (q : Int) * (p : Int) = (b : Int) := by rw [hb2]; simp
  have fbm : (b : Int) % 4294967296 = (b : Int) := by omega
  have fpm : (p : Int) % 4294967296 = (p : Int) := by omega
  have ti : (i : Int) < (n : Int) := by omega
  clear hb2 hq hpp hn h hb hq2
  go_enter Try.func69, Try.ntmps69
  go_wp2_with fail
  go_ret
  exact ⟨rfl, rfl⟩

set_option maxHeartbeats 2000000 in
theorem learn_ok (w : World) (gc : Nat) (ch : List Nat) (i : Nat) (bit : Bool) (h : PCh w gc ch) (hi : i < ch.length) (hp : 31 ≤ ch.getD i 0 ∧ ch.getD i 0 ≤ 2017) :
    Calls Try.prog 70 #[.slice (some ⟨gc, 0, none⟩) ch.length ch.length, .int .i64 (i : Int), .int .i64 (bit.toNat : Int)] w fun e w' => e = .returned (.tuple #[]) ∧ ∃ q, w' = (w.drewN q).setCell ⟨gc, i, none⟩ (.int .u16 ((after (ch.getD i 0) bit : Nat) : Int)) := by
  obtain ⟨n, hn⟩ : ∃ n, n = ch.length := ⟨_, rfl⟩
  obtain ⟨p, hpp⟩ : ∃ p, p = ch.getD i 0 := ⟨_, rfl⟩
  have cp : w.drew.cell? ⟨gc, i, none⟩ = some (.int .u16 (p : Int)) := by rw [hpp]; exact h.cell i hi
  have cf : w.drew.frozen? ⟨gc, i, none⟩ = false := h.free i
  rw [← hpp] at hp ⊢
  rw [← hn] at hi ⊢
  have ti : (i : Int) < (n : Int) := by omega
  clear hpp hn h
  cases bit
  · have e : after p false = p + (2048 - p) / 32 := rfl
    rw [e]
    obtain ⟨q, hq⟩ : ∃ q, q = (2048 - p) / 32 := ⟨_, rfl⟩
    rw [← hq]
    have f1 : IntKind.u16.wrap (2048 - (p : Int)) = 2048 - (p : Int) := by rw [IntKind.wrap_u16]; omega
    have f2 : (2048 - (p : Int)) / 32 = (q : Int) := by omega
    have f2' : (2048 - (p : Int)).tdiv 32 = (q : Int) := by rw [Int.tdiv_eq_ediv_of_nonneg (by omega)]; exact f2
    have f3 : IntKind.u16.wrap (q : Int) = (q : Int) := by rw [IntKind.wrap_u16]; omega
    have f4 : IntKind.u16.wrap ((p : Int) + (q : Int)) = (p : Int) + (q : Int) := by rw [IntKind.wrap_u16]; omega
    clear hq
    go_enter Try.func70, Try.ntmps70
    go_upto_region 1 with fail
    refine wp_tail 12 (by kernel_rfl) (by kernel_rfl) ?_
    simp only [List.take_succ_cons, List.take_zero, List.drop_succ_cons, List.drop_zero]
    repeat still_step
    try refine wpStill_nil ?_
    go_wp2_with fail
    go_end0
    exact ⟨rfl, 1, by rw [Int.natCast_add]; rfl⟩
  · have e : after p true = p - p / 32 := rfl
    rw [e]
    obtain ⟨q, hq⟩ : ∃ q, q = p / 32 := ⟨_, rfl⟩
    rw [← hq]
    have f2 : (p : Int) / 32 = (q : Int) := by omega
    have f2' : (p : Int).tdiv 32 = (q : Int) := by rw [Int.tdiv_eq_ediv_of_nonneg (by omega)]; exact f2
    have f3 : IntKind.u16.wrap (q : Int) = (q : Int) := by rw [IntKind.wrap_u16]; omega
    have f4 : IntKind.u16.wrap ((p : Int) - (q : Int)) = (p : Int) - (q : Int) := by rw [IntKind.wrap_u16]; omega
    have f5 : ((p - q : Nat) : Int) = (p : Int) - (q : Int) := by omega
    rw [f5]
    clear hq f5
    go_enter Try.func70, Try.ntmps70
    go_upto_region 2 with fail
    refine wp_tail 11 (by kernel_rfl) (by kernel_rfl) ?_
    simp only [List.take_succ_cons, List.take_zero, List.drop_succ_cons, List.drop_zero]
    repeat still_step
    try refine wpStill_nil ?_
    go_wp2_with fail
    go_end0
    exact ⟨rfl, 1, rfl⟩
end Go.Proofs.Ytbolhbjipmndeaa.D
