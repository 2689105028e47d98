/- settle, after, Put: a bit by a chance. -/
import Derived.Test.YtbolhbjipmndeaaDSh
import Derived.StillTailTactics
namespace Go.Proofs.Ytbolhbjipmndeaa.D
open Go.RowKit Rang
set_option maxRecDepth 100000
set_option linter.unusedVariables false
attribute [local go_sem ↓] Go.wp_at_zero Go.wp_at_succ

theorem wp_tail {P : Program} {id : Nat} {Q : Exit → Act → World → Prop} {a : Act} {w : World} {l : List Oper} (n : Nat) (hm : P.follows .mixedOrders = true) (hB : Region.lexTailB .any l.toArray n = true)
    (h : wpStill P l.toArray w.drew (fun a' => wpList P l.toArray Q (l.drop n) a' w.drew) (l.take n) a) : (Code.region id l.toArray true).wp P Q a w := wp_region_still_tail n hm hB h

theorem size_set (w : World) (a : Addr) (v : Value) (q : Nat) : ((w.drewN q).setCell a v).heap.size = w.heap.size := by
  rw [World.size_setCell]
  rfl

/-- an encoder whose numbers are small -/
structure Tame (c : Enc) : Prop where
  low : c.low < 8589934592
  kept : c.kept < 256
  wait : c.wait ≤ 100000000000000 ∧ c.out.length + c.wait ≤ 100000000000001
  out : c.out.length ≤ 100000000000000

set_option maxHeartbeats 4000000 in
theorem settle_ok (B pb : Nat) (w : World) (chv ov : Value) (c : Enc) (h : EAt B w pb chv ov c) (ht : Tame c) (h1 : 65536 ≤ c.rng) (h2 : c.rng < 4294967296) (hB : B ≤ w.heap.size) :
    Calls Try.prog 52 #[.pointer (some ⟨pb, 0, none⟩)] w fun e w' => e = .returned (.tuple #[]) ∧ ∃ ov', EAt B w' pb chv ov' (settleE c) ∧ Touch w w' pb ov ov' := by
  obtain ⟨low, rng, kept, wait, out⟩ := c
  simp only at h1 h2
  have HT := hide ht
  have HE := hide h
  clear h ht
  by_cases hr : rng < 16777216
  · have HS : Hid (settleE ⟨low, rng, kept, wait, out⟩ = shiftE ⟨low, rng * 256, kept, wait, out⟩) := hide (by unfold settleE; rw [if_pos hr])
    go_enter Try.func52, Try.ntmps52
    go_wp2_with fail
    go_loopg [] 1 (fun gk ws => (gk = 1 ∧ w = ws) ∨ (gk = 0 ∧ Hid (∃ ov' c', EAt B ws pb chv ov' c' ∧ c' = shiftE ⟨low, rng * 256, kept, wait, out⟩ ∧ c'.rng = rng * 256 ∧ Touch w ws pb ov ov')))
    case atStart => exact .inl ⟨rfl, rfl⟩
    case round =>
      rcases hrel with ⟨rfl, rfl⟩ | ⟨rfl, HR⟩
      · have c2 := (unhide HE).rng
        have f2 := (unhide HE).free 2
        have t2 : (rng : Int) < 16777216 := by omega
        have fs : (rng : Int) * 256 % 18446744073709551616 = (rng : Int) * 256 := by omega
        have h3 := (unhide HE).setField 2 (.int .u64 ((rng : Int) * 256)) ⟨low, rng * 256, kept, wait, out⟩ (by simp [ecells]) rfl
        have HC := hide (shift_ok B pb _ chv ov _ h3.1 (unhide HT).low (unhide HT).kept (unhide HT).wait (unhide HT).out (by simpa using hB))
        have HT3 := hide h3.2
        clear h3
        go_wp2_with fail
        refine (unhide HC).mono ?_
        rintro e w1 ⟨rfl, ov', h4, h5⟩
        have H4 := hide h4
        have H5 := hide ((unhide HT3).trans h5)
        clear h4 h5 HC
        go_wp2_with fail
        go_roundg 0
        case measure => omega
        case rel => exact .inr ⟨rfl, hide ⟨ov', _, unhide H4, rfl, (shift_low _).2, unhide H5⟩⟩
      · obtain ⟨ov', c', h3, h4, h5, h6⟩ := unhide HR
        have c2 := h3.rng
        rw [h5] at c2
        have t2 : ¬ ((rng * 256 : Nat) : Int) < 16777216 := by omega
        have H3 := hide h3
        have H4 := hide h4
        have H6 := hide h6
        clear h3 h4 h5 h6 HR
        obtain ⟨R, hR⟩ : ∃ R, R = rng * 256 := ⟨_, rfl⟩
        rw [← hR] at c2 t2
        clear hR
        go_wp2_with fail
        go_end0
        rw [unhide HS, ← unhide H4]
        exact ⟨rfl, ov', unhide H3, unhide H6⟩
  · have HS : Hid (settleE ⟨low, rng, kept, wait, out⟩ = ⟨low, rng, kept, wait, out⟩) := hide (by unfold settleE; rw [if_neg hr])
    have c2 := (unhide HE).rng
    have t2 : ¬ (rng : Int) < 16777216 := by omega
    have t3 : decide ((rng : Int) < 16777216) = false := decide_eq_false t2
    clear h1 h2 hr t2
    go_enter Try.func52, Try.ntmps52
    go_wp2_with fail
    go_loopg [] 0 (fun gk ws => w = ws ∧ gk = 0)
    case atStart => exact ⟨rfl, rfl⟩
    case round =>
      obtain ⟨rfl, hgk⟩ := hrel
      clear hgk
      go_wp2_with fail
      go_end0
      rw [unhide HS]
      exact ⟨rfl, ov, unhide HE, Touch.refl _ _ _⟩

def bint (b : Bool) : Value := .int .i64 (b.toNat : Int)

set_option maxHeartbeats 1000000 in
theorem after_ok' (p : Nat) (bit : Bool) (w : World) (hp : p ≤ 2048) : Calls Try.prog 72 #[.int .i64 (p : Int), .int .i64 (bit.toNat : Int)] w fun e w' => e = .returned (.int .i64 ((after p bit : Nat) : Int)) ∧ w' = w := by
  cases bit
  · have e : after p false = p + (2048 - p) / 32 := rfl
    rw [e]
    have f1 : ((2048 : Int) - (p : Int)).tdiv 32 = (((2048 - p) / 32 : Nat) : Int) := by
      rw [show (2048 : Int) - (p : Int) = ((2048 - p : Nat) : Int) by omega, show (32 : Int) = ((32 : Nat) : Int) from rfl]
      rfl
    obtain ⟨q, hq⟩ : ∃ q, q = (2048 - p) / 32 := ⟨_, rfl⟩
    rw [← hq] at f1 ⊢
    have hq2 : q ≤ 64 := by omega
    clear hq
    go_enter Try.func72, Try.ntmps72
    go_wp2_with fail
    go_ret
    exact ⟨by simp, rfl⟩
  · have e : after p true = p - p / 32 := rfl
    rw [e]
    have f1 : ((p : Int)).tdiv 32 = ((p / 32 : Nat) : Int) := rfl
    obtain ⟨q, hq⟩ : ∃ q, q = p / 32 := ⟨_, rfl⟩
    rw [← hq] at f1 ⊢
    have hq2 : q ≤ p := by omega
    have e2 : ((p - q : Nat) : Int) = (p : Int) - (q : Int) := by omega
    rw [e2]
    clear hq e2
    go_enter Try.func72, Try.ntmps72
    go_wp2_with fail
    go_ret
    exact ⟨rfl, rfl⟩

/-- the chances in a block of their own -/
def ChAt (w : World) (gc : Nat) (ch : List Nat) : Prop := ∃ sp : List Value, w.heap[gc]? = some (.cells ((ch.map fun p : Nat => Value.int .i64 (p : Int)) ++ sp).toArray 3 (0, 0))

theorem ChAt.lt {w : World} {gc : Nat} {ch : List Nat} (h : ChAt w gc ch) : gc < w.heap.size := by obtain ⟨sp, h⟩ := h; exact heap_lt h

theorem ChAt.cell {w : World} {gc : Nat} {ch : List Nat} (h : ChAt w gc ch) (i : Nat) (hi : i < ch.length) : w.cell? ⟨gc, i, none⟩ = some (.int .i64 ((ch.getD i 0 : Nat) : Int)) := by
  obtain ⟨sp, h⟩ := h
  simp only [World.cell?, show w.heap[gc]? = _ from h]
  simp [List.getElem?_append, hi, List.getD_eq_getElem?_getD]
theorem ChAt.free {w : World} {gc : Nat} {ch : List Nat} (h : ChAt w gc ch) (i : Nat) : w.frozen? ⟨gc, i, none⟩ = false := by obtain ⟨sp, h⟩ := h; simp [World.frozen?, show w.heap[gc]? = _ from h]
theorem ChAt.set {w : World} {gc : Nat} {ch : List Nat} (h : ChAt w gc ch) (i x : Nat) : ChAt (w.setCell ⟨gc, i, none⟩ (.int .i64 (x : Int))) gc (ch.set i x) := by
  obtain ⟨sp, h⟩ := h
  by_cases hi : i < ch.length
  · refine ⟨sp, ?_⟩
    rw [heap_setCell_same w gc i _ 3 _ h]
    simp [List.map_set, hi]
  · refine ⟨sp.set (i - ch.length) (.int .i64 (x : Int)), ?_⟩
    rw [heap_setCell_same w gc i _ 3 _ h, List.set_eq_of_length_le (by omega)]
    simp [List.set_append, hi]
theorem ChAt.of {w w' : World} {gc : Nat} {ch : List Nat} (h : ChAt w gc ch) (e : w'.heap[gc]? = w.heap[gc]?) : ChAt w' gc ch := by
  unfold ChAt
  rw [e]
  exact h

/-- a struct, its chances, its row: three blocks -/
theorem EAt.notch {B : Nat} {w : World} {pb gc : Nat} {chv ov : Value} {c : Enc} {ch : List Nat} (h : EAt B w pb chv ov c) (h' : ChAt w gc ch) : gc ≠ pb ∧ ov.ownBlock ≠ some gc := by
  constructor
  · rintro rfl
    have := h.cells
    obtain ⟨sp, h'⟩ := h'
    rw [show w.heap[gc]? = _ from h'] at this
    injection this with this
    injection this with _ h2
    cases h2
  · intro e
    rcases h.row.2 with ⟨e1, e2⟩ | ⟨g, cap, cur, e1, hb, hh, _⟩
    · rw [e1] at e; cases e
    · rw [e1] at e
      obtain rfl : g = gc := Option.some.inj e
      obtain ⟨sp, h'⟩ := h'
      rw [show w.heap[g]? = _ from h'] at hh
      injection hh with hh
      injection hh with _ h2
      cases h2

/-- an encoder with its chances -/
structure EC (B : Nat) (w : World) (pb gc cc : Nat) (ov : Value) (c : Enc) (ch : List Nat) : Prop where
  enc : EAt B w pb (.slice (some ⟨gc, 0, none⟩) ch.length cc) ov c
  chs : ChAt w gc ch
  lo : B ≤ gc

/-- what a call on it may change -/
structure Tch (w w' : World) (pb gc cc : Nat) (ov ov' : Value) : Prop where
  os : w'.os = w.os
  tape : w'.tape = w.tape
  output : w'.output = w.output
  size : w.heap.size ≤ w'.heap.size
  keep : ∀ k, k < w.heap.size → k ≠ pb → k ≠ gc → ov.ownBlock ≠ some k → w'.heap[k]? = w.heap[k]?
  lies : ∀ b, ov'.ownBlock = some b → ov.ownBlock = some b ∨ w.heap.size ≤ b

theorem Tch.refl (w : World) (pb gc cc : Nat) (ov : Value) : Tch w w pb gc cc ov ov := ⟨rfl, rfl, rfl, Nat.le_refl _, fun _ _ _ _ _ => rfl, fun b e => .inl e⟩
theorem Touch.wide {w w' : World} {pb : Nat} {ov ov' : Value} (h : Touch w w' pb ov ov') (gc cc : Nat) : Tch w w' pb gc cc ov ov' := ⟨h.os, h.tape, h.output, h.size, fun k hk h1 _ h2 => h.keep k hk h1 h2, h.lies⟩
theorem Tch.trans {w w1 w2 : World} {pb gc cc : Nat} {v v1 v2 : Value} (h : Tch w w1 pb gc cc v v1) (h' : Tch w1 w2 pb gc cc v1 v2) : Tch w w2 pb gc cc v v2 := by
  refine ⟨h'.os.trans h.os, h'.tape.trans h.tape, h'.output.trans h.output, Nat.le_trans h.size h'.size, fun k hk h1 hg h2 => ?_, fun b e => ?_⟩
  · rw [h'.keep k (Nat.lt_of_lt_of_le hk h.size) h1 hg (fun e => ?_)]
    · exact h.keep k hk h1 hg h2
    · rcases h.lies k e with h3 | h3
      · exact h2 h3
      · omega
  · rcases h'.lies b e with h3 | h3
    · exact h.lies b h3
    · exact .inr (Nat.le_trans h.size h3)
theorem Tch.drewN {w w1 : World} {pb gc cc : Nat} {v v1 : Value} (h : Tch w w1 pb gc cc v v1) (q : Nat) : Tch w (w1.drewN q) pb gc cc v v1 := ⟨h.os, h.tape, h.output, h.size, h.keep, h.lies⟩

theorem EC.step {B : Nat} {w w' : World} {pb gc cc : Nat} {ov ov' : Value} {c c' : Enc} {ch : List Nat} (h : EC B w pb gc cc ov c ch) (h1 : EAt B w' pb (.slice (some ⟨gc, 0, none⟩) ch.length cc) ov' c') (h2 : Touch w w' pb ov ov') : EC B w' pb gc cc ov' c' ch ∧ Tch w w' pb gc cc ov ov' := by
  have h3 := h.enc.notch h.chs
  exact ⟨⟨h1, h.chs.of (h2.keep gc h.chs.lt h3.1 h3.2), h.lo⟩, h2.wide gc cc⟩

theorem EC.setCh {B : Nat} {w : World} {pb gc cc : Nat} {ov : Value} {c : Enc} {ch : List Nat} (h : EC B w pb gc cc ov c ch) (i x : Nat) : EC B (w.setCell ⟨gc, i, none⟩ (.int .i64 (x : Int))) pb gc cc ov c (ch.set i x) ∧ Tch w (w.setCell ⟨gc, i, none⟩ (.int .i64 (x : Int))) pb gc cc ov ov := by
  have h3 := h.enc.notch h.chs
  refine ⟨⟨?_, h.chs.set i x, h.lo⟩, ⟨rfl, rfl, rfl, by simp, fun k hk _ h1 _ => heap_setCell_other _ _ _ _ h1, fun b e => .inl e⟩⟩
  rw [List.length_set]
  exact ⟨by rw [heap_setCell_other _ _ _ _ (show pb ≠ gc from fun e => h3.1 e.symm)]; exact h.enc.cells, own_keep h.enc.row fun g e => heap_setCell_other _ _ _ _ (show g ≠ gc from fun e' => h3.2 (by rw [e, e'])), h.enc.lo⟩

theorem EC.drewN {B : Nat} {w : World} {pb gc cc : Nat} {ov : Value} {c : Enc} {ch : List Nat} (h : EC B w pb gc cc ov c ch) (q : Nat) : EC B (w.drewN q) pb gc cc ov c ch := ⟨h.enc.drewN q, h.chs, h.lo⟩

set_option maxHeartbeats 8000000 in
theorem put_ok (B pb gc cc : Nat) (w : World) (ov : Value) (c : Enc) (ch : List Nat) (i : Nat) (bit : Bool) (h : EC B w pb gc cc ov c ch) (hi : i < ch.length) (hp : 31 ≤ ch.getD i 0 ∧ ch.getD i 0 ≤ 2017) (ht : Tame c) (hlr : c.low + c.rng ≤ 8589934592) (h1 : 16777216 ≤ c.rng) (h2 : c.rng < 4294967296) (hB : B ≤ w.heap.size) :
    Calls Try.prog 47 #[.pointer (some ⟨pb, 0, none⟩), .int .i64 (i : Int), .int .i64 (bit.toNat : Int)] w fun e w' => e = .returned (.tuple #[]) ∧ ∃ ov', EC B w' pb gc cc ov' (putE c (ch.getD i 0) bit) (ch.set i (after (ch.getD i 0) bit)) ∧ Tch w w' pb gc cc ov ov' := by
  have hs := chance_split h1 hp
  obtain ⟨low, rng, kept, wait, out⟩ := c
  simp only at h1 h2 hlr hs
  obtain ⟨p, hpp⟩ : ∃ p, p = ch.getD i 0 := ⟨_, rfl⟩
  have cp := h.chs.cell i hi
  rw [← hpp] at hp hs cp ⊢
  have c0 : ∀ q, (w.drewN q).cell? ⟨pb, 0, none⟩ = some (.slice (some ⟨gc, 0, none⟩) ch.length cc) := fun q => h.enc.chs
  have c2 : ∀ q, (w.drewN q).cell? ⟨pb, 2, none⟩ = some (.int .u64 (rng : Int)) := fun q => h.enc.rng
  have cp : ∀ q, (w.drewN q).cell? ⟨gc, i, none⟩ = some (.int .i64 (p : Int)) := fun q => cp
  have c1 := h.enc.low
  have f1 := h.enc.free 1
  have f2 := h.enc.free 2
  have HE := hide h
  have HT := hide ht
  obtain ⟨b, hb⟩ : ∃ b, b = rng / 2048 * p := ⟨_, rfl⟩
  obtain ⟨q, hq⟩ : ∃ q, q = rng / 2048 := ⟨_, rfl⟩
  have fq : (rng : Int) / 2048 = (q : Int) := by omega
  have fb : (q : Int) * (p : Int) = (b : Int) := by rw [hb, ← hq]; simp
  rw [← hb] at hs
  have fq1 : (rng : Int).tdiv 2048 = (q : Int) := by rw [show (2048 : Int) = ((2048 : Nat) : Int) from rfl, hq]; rfl
  have fq2 : IntKind.u64.wrap (q : Int) = (q : Int) := IntWalk.u64_in _ (by omega)
  have fb2 : IntKind.u64.wrap (b : Int) = (b : Int) := IntWalk.u64_in _ (by omega)
  have fp2 : IntKind.u64.wrap (p : Int) = (p : Int) := IntWalk.u64_in _ (by omega)
  have fm : (p : Int) % 18446744073709551616 = (p : Int) := by omega
  have fbm : (b : Int) % 18446744073709551616 = (b : Int) := by omega
  obtain ⟨n, hn⟩ : ∃ n, n = ch.length := ⟨_, rfl⟩
  have HN := hide hn
  rw [← hn] at c0 hi
  have ti : (i : Int) < (n : Int) := by omega
  have HB := hide hb
  have HPP := hide hpp
  clear hq hb hpp hn h ht fq1
  cases bit
  · go_enter Try.func47, Try.ntmps47
    go_upto_region 0 with fail
    go_quiet (fail)
    have HE1 := hide ((unhide HE).drewN nq)
    have HD : Hid (Tch w (w.drewN nq) pb gc cc ov ov) := hide ((Tch.refl w pb gc cc ov).drewN nq)
    have hsz : (w.drewN nq).heap.size = w.heap.size := rfl
    obtain ⟨W1, hW1⟩ : ∃ W1, W1 = w.drewN nq := ⟨_, rfl⟩
    rw [← hW1] at HE1 HD hsz ⊢
    clear hW1 c0 c1 c2 cp f1 f2
    have c2 := (unhide HE1).enc.rng
    have f2 := (unhide HE1).enc.free 2
    have h3 := (unhide HE1).enc.setField 2 (.int .u64 (b : Int)) ⟨low, b, kept, wait, out⟩ rfl rfl
    have h4 := (unhide HE1).step h3.1 h3.2
    have HE2 := hide h4.1
    have HD2 := hide ((unhide HD).trans h4.2)
    clear h3 h4
    go_upto_region 5 with fail
    obtain ⟨W2, hW2⟩ : ∃ W2, W2 = W1.setCell ⟨pb, 2, none⟩ (.int .u64 (b : Int)) := ⟨_, rfl⟩
    have hsz2 : W2.heap.size = w.heap.size := by rw [hW2]; simpa using hsz
    rw [← hW2] at HE2 HD2 ⊢
    clear hW2 c2 f2 HE1 HD hsz
    have k0 : W2.drew.cell? ⟨pb, 0, none⟩ = some (.slice (some ⟨gc, 0, none⟩) n cc) := by rw [unhide HN]; exact (unhide HE2).enc.chs
    have kp : W2.drew.cell? ⟨gc, i, none⟩ = some (.int .i64 (p : Int)) := by rw [unhide HPP]; exact (unhide HE2).chs.cell i (by rw [← unhide HN]; exact hi)
    have kf : W2.drew.frozen? ⟨gc, i, none⟩ = false := (unhide HE2).chs.free i
    refine wp_tail 14 (by kernel_rfl) (by kernel_rfl) ?_
    simp only [List.take_succ_cons, List.take_zero, List.drop_succ_cons, List.drop_zero]
    repeat (first | still_call (after_ok' p false _ (by omega)) | still_step)
    try refine wpStill_nil ?_
    have h5 := ((unhide HE2).drewN 1).setCh i (after p false)
    have HE3 := hide h5.1
    have HD3 := hide (((unhide HD2).drewN 1).trans h5.2)
    clear h5
    go_wp2_with fail
    refine (settle_ok B pb _ _ ov _ (unhide HE3).enc ⟨(unhide HT).low, (unhide HT).kept, (unhide HT).wait, (unhide HT).out⟩ (by simp only; omega) (by simp only; omega) (by rw [size_set]; omega)).mono ?_
    rintro e w5 ⟨rfl, ov5, h6, h7⟩
    have h8 := (unhide HE3).step h6 h7
    have HE4 := hide h8.1
    have HD4 := hide ((unhide HD3).trans h8.2)
    clear h6 h7 h8
    go_wp2_with fail
    go_end0
    refine ⟨rfl, ov5, ?_, unhide HD4⟩
    have h9 := unhide HE4
    rw [unhide HB] at h9
    exact h9
  · go_enter Try.func47, Try.ntmps47
    go_upto_region 0 with fail
    go_quiet (fail)
    have HE1 := hide ((unhide HE).drewN nq)
    have HD : Hid (Tch w (w.drewN nq) pb gc cc ov ov) := hide ((Tch.refl w pb gc cc ov).drewN nq)
    have hsz : (w.drewN nq).heap.size = w.heap.size := rfl
    obtain ⟨W1, hW1⟩ : ∃ W1, W1 = w.drewN nq := ⟨_, rfl⟩
    rw [← hW1] at HE1 HD hsz ⊢
    clear hW1 c0 c1 c2 cp f1 f2
    have c1 := (unhide HE1).enc.low
    have f1 := (unhide HE1).enc.free 1
    have c2 := (unhide HE1).enc.rng
    have f2 := (unhide HE1).enc.free 2
    have h3 := (unhide HE1).enc.setField 1 (.int .u64 ((low : Int) + (b : Int))) ⟨low + b, rng, kept, wait, out⟩ (by simp [ecells]) rfl
    have h4 := (unhide HE1).step h3.1 h3.2
    have h3' := h4.1.enc.setField 2 (.int .u64 ((rng : Int) - (b : Int))) ⟨low + b, rng - b, kept, wait, out⟩ (by simp [ecells]; omega) rfl
    have h4' := h4.1.step h3'.1 h3'.2
    have HE2 := hide h4'.1
    have HD2 := hide (((unhide HD).trans h4.2).trans h4'.2)
    have fl : ((low : Int) + (b : Int)) % 18446744073709551616 = (low : Int) + (b : Int) := by omega
    have fr : ((rng : Int) - (b : Int)) % 18446744073709551616 = (rng : Int) - (b : Int) := by omega
    clear h3 h4 h3' h4'
    go_upto_region 5 with fail
    obtain ⟨W2, hW2⟩ : ∃ W2, W2 = (W1.setCell ⟨pb, 1, none⟩ (.int .u64 ((low : Int) + (b : Int)))).setCell ⟨pb, 2, none⟩ (.int .u64 ((rng : Int) - (b : Int))) := ⟨_, rfl⟩
    have hsz2 : W2.heap.size = w.heap.size := by rw [hW2]; simpa using hsz
    rw [← hW2] at HE2 HD2 ⊢
    clear hW2 c2 f2 c1 f1 HE1 HD hsz
    have k0 : W2.drew.cell? ⟨pb, 0, none⟩ = some (.slice (some ⟨gc, 0, none⟩) n cc) := by rw [unhide HN]; exact (unhide HE2).enc.chs
    have kp : W2.drew.cell? ⟨gc, i, none⟩ = some (.int .i64 (p : Int)) := by rw [unhide HPP]; exact (unhide HE2).chs.cell i (by rw [← unhide HN]; exact hi)
    have kf : W2.drew.frozen? ⟨gc, i, none⟩ = false := (unhide HE2).chs.free i
    refine wp_tail 14 (by kernel_rfl) (by kernel_rfl) ?_
    simp only [List.take_succ_cons, List.take_zero, List.drop_succ_cons, List.drop_zero]
    repeat (first | still_call (after_ok' p true _ (by omega)) | still_step)
    try refine wpStill_nil ?_
    have h5 := ((unhide HE2).drewN 1).setCh i (after p true)
    have HE3 := hide h5.1
    have HD3 := hide (((unhide HD2).drewN 1).trans h5.2)
    clear h5
    go_wp2_with fail
    refine (settle_ok B pb _ _ ov _ (unhide HE3).enc ⟨by simp only; omega, (unhide HT).kept, (unhide HT).wait, (unhide HT).out⟩ (by simp only; omega) (by simp only; omega) (by rw [size_set]; omega)).mono ?_
    rintro e w5 ⟨rfl, ov5, h6, h7⟩
    have h8 := (unhide HE3).step h6 h7
    have HE4 := hide h8.1
    have HD4 := hide ((unhide HD3).trans h8.2)
    clear h6 h7 h8
    go_wp2_with fail
    go_end0
    refine ⟨rfl, ov5, ?_, unhide HD4⟩
    have h9 := unhide HE4
    rw [unhide HB] at h9
    exact h9
end Go.Proofs.Ytbolhbjipmndeaa.D
