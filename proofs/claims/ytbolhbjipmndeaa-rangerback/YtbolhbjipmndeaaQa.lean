/- The program's decoder in memory; widen. -/
import Derived.Test.YtbolhbjipmndeaaPn
import Derived.Test.YtbolhbjipmndeaaDDt
namespace Go.Proofs.Ytbolhbjipmndeaa.D
open Go.RowKit Rang
set_option maxRecDepth 100000
set_option linter.unusedVariables false
attribute [local go_sem ↓] Go.wp_at_zero Go.wp_at_succ

def qcells (chv rv : Value) (d : Dec) : Array Value := #[.bool true, chv, .int .u32 (d.code : Int), .int .u32 (d.rng : Int), rv, .bool d.over]

/-- a decoder of the program's in memory, its chances, the bytes that are left -/
structure QAt (w : World) (pb gc gr o rc : Nat) (rcs : Array Value) (Bs : List Nat) (d : Dec) (ch : List Nat) : Prop where
  cells : w.heap[pb]? = some (.cells (qcells (.slice (some ⟨gc, 0, none⟩) ch.length ch.length) (.slice (some ⟨gr, o, none⟩) (Bs.length - d.at_) rc) d) 71 (0, 0))
  chs : PCh w gc ch
  row : w.heap[gr]? = some (.cells rcs 5 (0, 0))
  bytes : ∀ j, j < Bs.length - d.at_ → rcs[o + j]? = some (bv (Bs.getD (d.at_ + j) 0))
  small : ∀ z ∈ Bs, z < 256
  cap : Bs.length - d.at_ ≤ rc

section
variable {w : World} {pb gc gr o rc : Nat} {rcs : Array Value} {Bs : List Nat} {d : Dec} {ch : List Nat}

theorem QAt.ne (h : QAt w pb gc gr o rc rcs Bs d ch) : gc ≠ pb ∧ gr ≠ pb ∧ gr ≠ gc := by
  refine ⟨?_, ?_, ?_⟩
  · rintro rfl
    have := h.cells
    rw [show w.heap[gc]? = _ from h.chs] at this
    injection this with this
    injection this with _ h2
    cases h2
  · rintro rfl
    have := h.cells
    rw [h.row] at this
    injection this with this
    injection this with _ h2
    cases h2
  · rintro rfl
    have := h.chs
    rw [PCh, h.row] at this
    injection this with this
    injection this with _ h2
    cases h2

theorem QAt.drewN (h : QAt w pb gc gr o rc rcs Bs d ch) (q : Nat) : QAt (w.drewN q) pb gc gr o rc rcs Bs d ch := ⟨h.cells, h.chs, h.row, h.bytes, h.small, h.cap⟩
theorem QAt.free (h : QAt w pb gc gr o rc rcs Bs d ch) (i : Nat) : w.frozen? ⟨pb, i, none⟩ = false := by simp [World.frozen?, h.cells]
theorem QAt.made (h : QAt w pb gc gr o rc rcs Bs d ch) : w.cell? ⟨pb, 0, none⟩ = some (.bool true) := by simp [World.cell?, h.cells, qcells]
theorem QAt.chv (h : QAt w pb gc gr o rc rcs Bs d ch) : w.cell? ⟨pb, 1, none⟩ = some (.slice (some ⟨gc, 0, none⟩) ch.length ch.length) := by simp [World.cell?, h.cells, qcells]
theorem QAt.code (h : QAt w pb gc gr o rc rcs Bs d ch) : w.cell? ⟨pb, 2, none⟩ = some (.int .u32 (d.code : Int)) := by simp [World.cell?, h.cells, qcells]
theorem QAt.rng (h : QAt w pb gc gr o rc rcs Bs d ch) : w.cell? ⟨pb, 3, none⟩ = some (.int .u32 (d.rng : Int)) := by simp [World.cell?, h.cells, qcells]
theorem QAt.rest (h : QAt w pb gc gr o rc rcs Bs d ch) : w.cell? ⟨pb, 4, none⟩ = some (.slice (some ⟨gr, o, none⟩) (Bs.length - d.at_) rc) := by simp [World.cell?, h.cells, qcells]
theorem QAt.over (h : QAt w pb gc gr o rc rcs Bs d ch) : w.cell? ⟨pb, 5, none⟩ = some (.bool d.over) := by simp [World.cell?, h.cells, qcells]
theorem QAt.next (h : QAt w pb gc gr o rc rcs Bs d ch) (h0 : d.at_ < Bs.length) : w.cell? ⟨gr, o, none⟩ = some (.int .u8 ((Bs.getD d.at_ 0 : Nat) : Int)) := by
  have := h.bytes 0 (by omega)
  simp only [World.cell?, h.row]
  simpa [bv] using this

theorem QAt.setField (h : QAt w pb gc gr o rc rcs Bs d ch) (i : Nat) (v : Value) (d' : Dec) (hc : (qcells (.slice (some ⟨gc, 0, none⟩) ch.length ch.length) (.slice (some ⟨gr, o, none⟩) (Bs.length - d.at_) rc) d).setIfInBounds i v = qcells (.slice (some ⟨gc, 0, none⟩) ch.length ch.length) (.slice (some ⟨gr, o, none⟩) (Bs.length - d.at_) rc) d') (ha : d'.at_ = d.at_) :
    QAt (w.setCell ⟨pb, i, none⟩ v) pb gc gr o rc rcs Bs d' ch ∧ DT w (w.setCell ⟨pb, i, none⟩ v) pb gc 0 := by
  have hne := h.ne
  refine ⟨⟨?_, h.chs.of (heap_setCell_other _ _ _ _ hne.1), by rw [heap_setCell_other _ _ _ _ (show gr ≠ pb from hne.2.1)]; exact h.row, by rw [ha]; exact h.bytes, h.small, by rw [ha]; exact h.cap⟩, ⟨rfl, rfl, rfl, by simp, fun k h1 _ => heap_setCell_other _ _ _ _ h1⟩⟩
  rw [heap_setCell_same w pb i _ 71 v h.cells, hc, ha]

/-- the rest behind one byte -/
theorem QAt.step (h : QAt w pb gc gr o rc rcs Bs d ch) (h0 : d.at_ < Bs.length) (o' : Nat) (ho : rc ≠ 1 → o' = o + 1) :
    QAt (w.setCell ⟨pb, 4, none⟩ (.slice (some ⟨gr, o', none⟩) (Bs.length - d.at_ - 1) (rc - 1))) pb gc gr o' (rc - 1) rcs Bs { d with at_ := d.at_ + 1 } ch ∧ DT w (w.setCell ⟨pb, 4, none⟩ (.slice (some ⟨gr, o', none⟩) (Bs.length - d.at_ - 1) (rc - 1))) pb gc 0 := by
  have hne := h.ne
  have hcp := h.cap
  refine ⟨⟨?_, h.chs.of (heap_setCell_other _ _ _ _ hne.1), by rw [heap_setCell_other _ _ _ _ (show gr ≠ pb from hne.2.1)]; exact h.row, fun j hj => ?_, h.small, by simp only; omega⟩, ⟨rfl, rfl, rfl, by simp, fun k h1 _ => heap_setCell_other _ _ _ _ h1⟩⟩
  · rw [heap_setCell_same w pb 4 _ 71 _ h.cells]
    rfl
  · simp only at hj
    have := h.bytes (j + 1) (by omega)
    rw [ho (by omega), show o + 1 + j = o + (j + 1) by omega, show d.at_ + 1 + j = d.at_ + (j + 1) by omega]
    exact this

theorem QAt.setCh (h : QAt w pb gc gr o rc rcs Bs d ch) (i x : Nat) : QAt (w.setCell ⟨gc, i, none⟩ (.int .u16 (x : Int))) pb gc gr o rc rcs Bs d (ch.set i x) ∧ DT w (w.setCell ⟨gc, i, none⟩ (.int .u16 (x : Int))) pb gc 0 := by
  have hne := h.ne
  refine ⟨⟨?_, h.chs.set i x, by rw [heap_setCell_other _ _ _ _ (show gr ≠ gc from hne.2.2)]; exact h.row, h.bytes, h.small, h.cap⟩, ⟨rfl, rfl, rfl, by simp, fun k _ h1 => heap_setCell_other _ _ _ _ h1⟩⟩
  rw [heap_setCell_other _ _ _ _ (show pb ≠ gc from fun e => hne.1 e.symm), List.length_set]
  exact h.cells
end

/-- a decoder behind a call -/
def QIs (w : World) (pb gc gr : Nat) (rcs : Array Value) (Bs : List Nat) (d : Dec) (ch : List Nat) (w' : World) : Prop := ∃ o' rc', QAt w' pb gc gr o' rc' rcs Bs d ch ∧ DT w w' pb gc 0

theorem slice_one (gr o n rc : Nat) (hn : 1 ≤ n) (hc : n ≤ rc) : ∃ o', (rc ≠ 1 → o' = o + 1) ∧ ∀ w', (Instr.slice 32 (.slice (some ⟨gr, o, none⟩) n rc) (some (.int .i64 1)) none none).run Try.prog w' = .ok (.slice (some ⟨gr, o', none⟩) (n - 1) (rc - 1)) w' := by
  refine ⟨if rc = 1 then o else o + 1, fun h => if_neg h, fun w' => ?_⟩
  obtain ⟨i0, hi, hz0, hz1, hz2⟩ := info_parts info5
  rw [run_slice_l w' 32 (some ⟨gr, o, none⟩) n rc Try.underlying32 .i64 1 (by omega) (by omega)]
  by_cases h : rc = 1
  · simp [sizeOf, typeInfo, sliced, Result.andThen, show Try.prog.elem 32 = 5 from by kernel_rfl, hi, hz1, h]
  · simp [sizeOf, typeInfo, sliced, Result.andThen, show Try.prog.elem 32 = 5 from by kernel_rfl, hi, hz1, h, Addr.add]

set_option maxHeartbeats 8000000 in
theorem qwiden_ok (w : World) (pb gc gr o rc : Nat) (rcs : Array Value) (Bs : List Nat) (d : Dec) (ch : List Nat) (h : QAt w pb gc gr o rc rcs Bs d ch) (h1 : 65536 ≤ d.rng) (h2 : d.rng < 4294967296) (h3 : d.code < 4294967296) (h4 : d.at_ ≤ Bs.length) (h5 : d.over = false) (hB : Bs.length ≤ 140737488355328) :
    Calls Try.prog 78 #[.pointer (some ⟨pb, 0, none⟩)] w fun e w' => e = .returned (.tuple #[]) ∧ QIs w pb gc gr rcs Bs (settleD Bs d) ch w' := by
  obtain ⟨code, rng, at_, over⟩ := d
  simp only at h1 h2 h3 h4 h5
  subst h5
  have HE := hide h
  clear h
  by_cases hr : rng < 16777216
  · by_cases ha : at_ = Bs.length
    · have HS : Hid (settleD Bs ⟨code, rng, at_, false⟩ = ⟨code, rng, at_, true⟩) := hide (by unfold settleD; rw [if_pos ⟨hr, rfl⟩, if_pos ha])
      have c3 := (unhide HE).rng
      have c4 := (unhide HE).rest
      have f5 := (unhide HE).free 5
      have c5 := (unhide HE).over
      have h6 := (unhide HE).setField 5 (.bool true) ⟨code, rng, at_, true⟩ rfl rfl
      have H6 := hide h6
      simp only at c3 c4 c5
      rw [show Bs.length - at_ = 0 by omega] at c4
      have t3 : (rng : Int) < 16777216 := by omega
      clear h6 h1 h2 h3 h4 hr ha
      go_enter Try.func78, Try.ntmps78
      go_wp2_with fail
      go_loopg [] 0 (fun gk ws => w = ws ∧ gk = 0)
      case atStart => exact ⟨rfl, rfl⟩
      case round =>
        obtain ⟨rfl, hgk⟩ := hrel
        clear hgk
        go_wp2_with fail
        refine bodyPost_ret (results_none rfl _ _ _) rfl ?_
        rw [unhide HS]
        exact ⟨rfl, o, rc, (unhide H6).1, (unhide H6).2⟩
    · have hlt : at_ < Bs.length := by omega
      obtain ⟨x, hx⟩ : ∃ x, x = Bs.getD at_ 0 := ⟨_, rfl⟩
      have hx2 : x < 256 := by rw [hx]; exact (unhide HE).small _ (getD_mem hlt)
      obtain ⟨cz, hcz⟩ : ∃ cz, cz = (code * 256 + x) % 4294967296 := ⟨_, rfl⟩
      have HS : Hid (settleD Bs ⟨code, rng, at_, false⟩ = ⟨cz, rng * 256, at_ + 1, false⟩) := hide (by unfold settleD; rw [if_pos ⟨hr, rfl⟩, if_neg ha, hcz, hx])
      obtain ⟨n, hnn⟩ : ∃ n, n = Bs.length - at_ := ⟨_, rfl⟩
      have hcap := (unhide HE).cap
      simp only at hcap
      rw [← hnn] at hcap
      obtain ⟨o', ho, hsl⟩ := slice_one gr o n rc (by omega) hcap
      have hn1 : 0 < n := by omega
      have c3 := (unhide HE).rng
      have f3 := (unhide HE).free 3
      have c4 := (unhide HE).rest
      simp only at c3 c4
      rw [← hnn] at c4
      have t3 : (rng : Int) < 16777216 := by omega
      have t4 : (0 : Int) < (n : Int) := by omega
      have t5 : ¬ (n : Int) = 0 := by omega
      have t5' : ((n : Int) == 0) = false := by simp; omega
      have h6 := (unhide HE).setField 3 (.int .u32 ((rng : Int) * 256)) ⟨code, rng * 256, at_, false⟩ (by simp [qcells]) rfl
      have fs : (rng : Int) * 256 % 4294967296 = (rng : Int) * 256 := by omega
      have HE1 := hide h6.1
      have HT1 := hide h6.2
      have HX := hide hx
      have HN := hide hnn
      have HO := hide ho
      have HSL := hide hsl
      have fc1 : IntKind.u32.wrap ((code : Int) * 256) = (code : Int) * 256 % 4294967296 := by rw [IntKind.wrap_u32]
      have fc2 : ((code : Int) * 256 % 4294967296 + (x : Int)) % 4294967296 = (cz : Int) := by omega
      have fc3 : IntKind.u32.wrap ((code : Int) * 256 % 4294967296 + (x : Int)) = (cz : Int) := by rw [IntKind.wrap_u32]; exact fc2
      have fx : IntKind.u32.wrap (x : Int) = (x : Int) := by rw [IntKind.wrap_u32]; omega
      have fx2 : (x : Int) % 4294967296 = (x : Int) := by omega
      clear h6 hx hnn ho hsl hcz hcap h4
      go_enter Try.func78, Try.ntmps78
      go_wp2_with fail
      go_loopg [] 1 (fun gk ws => (gk = 1 ∧ w = ws) ∨ (gk = 0 ∧ Hid (QAt ws pb gc gr o' (rc - 1) rcs Bs ⟨cz, rng * 256, at_ + 1, false⟩ ch ∧ DT w ws pb gc 0)))
      case atStart => exact .inl ⟨rfl, rfl⟩
      case round =>
        rcases hrel with ⟨rfl, rfl⟩ | ⟨rfl, HR⟩
        · go_upto_region 4 with fail
          obtain ⟨W1, hW1⟩ : ∃ W1, W1 = w.setCell ⟨pb, 3, none⟩ (.int .u32 ((rng : Int) * 256)) := ⟨_, rfl⟩
          rw [← hW1] at HE1 HT1 ⊢
          clear hW1 c3 f3 c4
          have d2 : W1.drew.cell? ⟨pb, 2, none⟩ = some (.int .u32 (code : Int)) := (unhide HE1).code
          have d4 : W1.drew.cell? ⟨pb, 4, none⟩ = some (.slice (some ⟨gr, o, none⟩) n rc) := by rw [unhide HN]; exact (unhide HE1).rest
          have d6 : W1.drew.cell? ⟨gr, o, none⟩ = some (.int .u8 (x : Int)) := by rw [unhide HX]; exact (unhide HE1).next hlt
          have f2 : W1.drew.frozen? ⟨pb, 2, none⟩ = false := (unhide HE1).free 2
          have h7 := ((unhide HE1).drewN 1).setField 2 (.int .u32 (cz : Int)) ⟨cz, rng * 256, at_, false⟩ rfl rfl
          have h8 := h7.1.step (by simp only; exact hlt) o' (unhide HO)
          simp only at h8
          rw [← unhide HN] at h8
          have e4 := h7.1.rest
          have e4f := h7.1.free 4
          simp only at e4
          rw [← unhide HN] at e4
          have HE2 := hide h8.1
          have HT2 := hide (((((unhide HT1).drewN 1).trans h7.2).trans h8.2))
          have e4' : (W1.drew.setCell ⟨pb, 2, none⟩ (.int .u32 (cz : Int))).cell? ⟨pb, 4, none⟩ = some (.slice (some ⟨gr, o, none⟩) n rc) := e4
          have e4f' : (W1.drew.setCell ⟨pb, 2, none⟩ (.int .u32 (cz : Int))).frozen? ⟨pb, 4, none⟩ = false := e4f
          have m4 : (W1.setCell ⟨pb, 2, none⟩ (.int .u32 (cz : Int))).drew.cell? ⟨pb, 4, none⟩ = some (.slice (some ⟨gr, o, none⟩) n rc) := e4
          have m4f : (W1.setCell ⟨pb, 2, none⟩ (.int .u32 (cz : Int))).drew.frozen? ⟨pb, 4, none⟩ = false := e4f
          have hsl := unhide HSL
          clear h7 h8
          refine wp_tail 16 (by kernel_rfl) (by kernel_rfl) ?_
          simp only [List.take_succ_cons, List.take_zero, List.drop_succ_cons, List.drop_zero]
          repeat still_step
          try refine wpStill_nil ?_
          clear d4 d6 fc1 fc2 fc3 fx fx2 fs t3 t4 t5 t5' e4 e4f h1 h2 h3 hr hx2
          go_wp2_with fail
          go_roundg 0
          case measure => omega
          case rel => exact .inr ⟨rfl, hide ⟨unhide HE2, unhide HT2⟩⟩
        · have c3' := (unhide HR).1.rng
          simp only at c3'
          have t2 : ¬ ((rng * 256 : Nat) : Int) < 16777216 := by omega
          obtain ⟨R, hR⟩ : ∃ R, R = rng * 256 := ⟨_, rfl⟩
          rw [← hR] at c3' t2
          have HRR := hide hR
          clear hR
          go_wp2_with fail
          go_end0
          rw [unhide HS]
          exact ⟨rfl, o', rc - 1, (unhide HR).1, (unhide HR).2⟩
  · have HS : Hid (settleD Bs ⟨code, rng, at_, false⟩ = ⟨code, rng, at_, false⟩) := hide (by unfold settleD; rw [if_neg (fun h => hr h.1)])
    have c3 := (unhide HE).rng
    simp only at c3
    have t2 : ¬ (rng : Int) < 16777216 := by omega
    have t3 : decide ((rng : Int) < 16777216) = false := decide_eq_false t2
    clear h1 h2 hr t2 h3 h4
    go_enter Try.func78, Try.ntmps78
    go_wp2_with fail
    go_loopg [] 0 (fun gk ws => w = ws ∧ gk = 0)
    case atStart => exact ⟨rfl, rfl⟩
    case round =>
      obtain ⟨rfl, hgk⟩ := hrel
      clear hgk
      go_wp2_with fail
      go_end0
      rw [unhide HS]
      exact ⟨rfl, o, rc, unhide HE, DT.refl _ _ _ _⟩
end Go.Proofs.Ytbolhbjipmndeaa.D
