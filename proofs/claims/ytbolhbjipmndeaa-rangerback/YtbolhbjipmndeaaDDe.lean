/- A decoder in memory; its settle and get. -/
import Derived.Test.YtbolhbjipmndeaaDEr
namespace Go.Proofs.Ytbolhbjipmndeaa.D
open Go.RowKit Rang
set_option maxRecDepth 100000
set_option linter.unusedVariables false
attribute [local go_sem ↓] Go.wp_at_zero Go.wp_at_succ

def dcells (chv bvv : Value) (d : Dec) : Array Value := #[chv, .int .u64 (d.rng : Int), .int .u64 (d.code : Int), bvv, .int .i64 (d.at_ : Int), .bool d.over]

/-- a decoder in memory, its chances, the bytes that it reads -/
structure DAt (w : World) (pb gc cc : Nat) (ba : Option Addr) (bc : Nat) (Bs : List Nat) (d : Dec) (ch : List Nat) : Prop where
  cells : w.heap[pb]? = some (.cells (dcells (.slice (some ⟨gc, 0, none⟩) ch.length cc) (.slice ba Bs.length bc) d) 56 (0, 0))
  chs : ChAt w gc ch
  bytes : BytesIn w ba Bs
  small : ∀ z ∈ Bs, z < 256
  apart : ∀ g off, ba = some ⟨g, off, none⟩ → 0 < Bs.length → g ≠ pb ∧ g ≠ gc

/-- nothing has changed but the decoder and its chances -/
structure DT (w w' : World) (pb gc cc : Nat) : Prop where
  os : w'.os = w.os
  tape : w'.tape = w.tape
  output : w'.output = w.output
  size : w'.heap.size = w.heap.size
  keep : ∀ k, k ≠ pb → k ≠ gc → w'.heap[k]? = w.heap[k]?

theorem DT.refl (w : World) (pb gc cc : Nat) : DT w w pb gc cc := ⟨rfl, rfl, rfl, rfl, fun _ _ _ => rfl⟩
theorem DT.trans {w w1 w2 : World} {pb gc cc : Nat} (h : DT w w1 pb gc cc) (h' : DT w1 w2 pb gc cc) : DT w w2 pb gc cc := ⟨h'.os.trans h.os, h'.tape.trans h.tape, h'.output.trans h.output, h'.size.trans h.size, fun k a b => (h'.keep k a b).trans (h.keep k a b)⟩
theorem DT.drewN {w w1 : World} {pb gc cc : Nat} (h : DT w w1 pb gc cc) (q : Nat) : DT w (w1.drewN q) pb gc cc := ⟨h.os, h.tape, h.output, h.size, h.keep⟩

section
variable {w : World} {pb gc cc : Nat} {ba : Option Addr} {bc : Nat} {Bs : List Nat} {d : Dec} {ch : List Nat}

theorem DAt.ne (h : DAt w pb gc cc ba bc Bs d ch) : gc ≠ pb := by
  rintro rfl
  have := h.cells
  obtain ⟨sp, hsp⟩ := h.chs
  rw [hsp] at this
  injection this with this
  injection this with _ h2
  cases h2
theorem DAt.drewN (h : DAt w pb gc cc ba bc Bs d ch) (q : Nat) : DAt (w.drewN q) pb gc cc ba bc Bs d ch := ⟨h.cells, h.chs, h.bytes, h.small, h.apart⟩
theorem DAt.free (h : DAt w pb gc cc ba bc Bs d ch) (i : Nat) : w.frozen? ⟨pb, i, none⟩ = false := by simp [World.frozen?, h.cells]
theorem DAt.chv (h : DAt w pb gc cc ba bc Bs d ch) : w.cell? ⟨pb, 0, none⟩ = some (.slice (some ⟨gc, 0, none⟩) ch.length cc) := by simp [World.cell?, h.cells, dcells]
theorem DAt.rng (h : DAt w pb gc cc ba bc Bs d ch) : w.cell? ⟨pb, 1, none⟩ = some (.int .u64 (d.rng : Int)) := by simp [World.cell?, h.cells, dcells]
theorem DAt.code (h : DAt w pb gc cc ba bc Bs d ch) : w.cell? ⟨pb, 2, none⟩ = some (.int .u64 (d.code : Int)) := by simp [World.cell?, h.cells, dcells]
theorem DAt.bs (h : DAt w pb gc cc ba bc Bs d ch) : w.cell? ⟨pb, 3, none⟩ = some (.slice ba Bs.length bc) := by simp [World.cell?, h.cells, dcells]
theorem DAt.at_ (h : DAt w pb gc cc ba bc Bs d ch) : w.cell? ⟨pb, 4, none⟩ = some (.int .i64 (d.at_ : Int)) := by simp [World.cell?, h.cells, dcells]
theorem DAt.over (h : DAt w pb gc cc ba bc Bs d ch) : w.cell? ⟨pb, 5, none⟩ = some (.bool d.over) := by simp [World.cell?, h.cells, dcells]

theorem DAt.setField (h : DAt w pb gc cc ba bc Bs d ch) (i : Nat) (v : Value) (d' : Dec) (hc : (dcells (.slice (some ⟨gc, 0, none⟩) ch.length cc) (.slice ba Bs.length bc) d).setIfInBounds i v = dcells (.slice (some ⟨gc, 0, none⟩) ch.length cc) (.slice ba Bs.length bc) d') :
    DAt (w.setCell ⟨pb, i, none⟩ v) pb gc cc ba bc Bs d' ch ∧ DT w (w.setCell ⟨pb, i, none⟩ v) pb gc cc := by
  refine ⟨⟨?_, h.chs.of (heap_setCell_other _ _ _ _ h.ne), fun j hj => ?_, h.small, h.apart⟩, ⟨rfl, rfl, rfl, by simp, fun k h1 _ => heap_setCell_other _ _ _ _ h1⟩⟩
  · rw [heap_setCell_same w pb i _ 56 v h.cells, hc]
  · obtain ⟨g, off, e, c⟩ := h.bytes j hj
    refine ⟨g, off, e, ?_⟩
    have hg := (h.apart g off e (by omega)).1
    unfold World.cell? at c ⊢
    rw [heap_setCell_other _ _ _ _ (show g ≠ pb from hg)]
    exact c

theorem DAt.setCh (h : DAt w pb gc cc ba bc Bs d ch) (i x : Nat) : DAt (w.setCell ⟨gc, i, none⟩ (.int .i64 (x : Int))) pb gc cc ba bc Bs d (ch.set i x) ∧ DT w (w.setCell ⟨gc, i, none⟩ (.int .i64 (x : Int))) pb gc cc := by
  refine ⟨⟨?_, h.chs.set i x, fun j hj => ?_, h.small, h.apart⟩, ⟨rfl, rfl, rfl, by simp, fun k _ h1 => heap_setCell_other _ _ _ _ h1⟩⟩
  · rw [heap_setCell_other _ _ _ _ (show pb ≠ gc from fun e => h.ne e.symm), List.length_set]
    exact h.cells
  · obtain ⟨g, off, e, c⟩ := h.bytes j hj
    refine ⟨g, off, e, ?_⟩
    have hg := (h.apart g off e (by omega)).2
    unfold World.cell? at c ⊢
    rw [heap_setCell_other _ _ _ _ (show g ≠ gc from hg)]
    exact c
end

set_option maxHeartbeats 8000000 in
theorem dsettle_ok (w : World) (pb gc cc : Nat) (ba : Option Addr) (bc : Nat) (Bs : List Nat) (d : Dec) (ch : List Nat) (h : DAt w pb gc cc ba bc Bs d ch) (h1 : 65536 ≤ d.rng) (h2 : d.rng < 4294967296) (h3 : d.code < 4294967296) (h4 : d.at_ ≤ Bs.length) (h5 : d.over = false) (hB : Bs.length ≤ 140737488355328) :
    Calls Try.prog 65 #[.pointer (some ⟨pb, 0, none⟩)] w fun e w' => e = .returned (.tuple #[]) ∧ DAt w' pb gc cc ba bc Bs (settleD Bs d) ch ∧ DT w w' pb gc cc := by
  obtain ⟨code, rng, at_, over⟩ := d
  simp only at h1 h2 h3 h4 h5
  subst h5
  have HE := hide h
  have c1 : w.cell? ⟨pb, 1, none⟩ = some (.int .u64 (rng : Int)) := h.rng
  have c5 : w.cell? ⟨pb, 5, none⟩ = some (.bool false) := h.over
  obtain ⟨N, hN⟩ : ∃ N, N = Bs.length := ⟨_, rfl⟩
  have HN := hide hN
  rw [← hN] at h4 hB
  clear h hN
  by_cases hr : rng < 16777216
  · have t1 : (rng : Int) < 16777216 := by omega
    by_cases ha : at_ = N
    · have HS : Hid (settleD Bs ⟨code, rng, at_, false⟩ = ⟨code, rng, at_, true⟩) := hide (by unfold settleD; rw [if_pos ⟨hr, rfl⟩, if_pos (by simp only; rw [ha]; exact unhide HN)])
      subst ha
      have h6 := ((unhide HE).drewN 1).setField 5 (.bool true) ⟨code, rng, at_, true⟩ rfl
      have f1 : ((at_ : Int) == (at_ : Int)) = true := by rw [beq_iff_eq]
      clear h6
      go_enter Try.func65, Try.ntmps65
      go_wp2_with fail
      go_loopg [] 0 (fun gk ws => w = ws ∧ gk = 0)
      case atStart => exact ⟨rfl, rfl⟩
      case round =>
        obtain ⟨rfl, hgk⟩ := hrel
        clear hgk
        have k4 : ∀ q, (w.drewN q).cell? ⟨pb, 4, none⟩ = some (.int .i64 (at_ : Int)) := fun q => (unhide HE).at_
        have k3 : ∀ q, (w.drewN q).cell? ⟨pb, 3, none⟩ = some (.slice ba at_ bc) := fun q => by rw [unhide HN]; exact (unhide HE).bs
        go_upto_region 1 with fail
        go_quiet (fail)
        have h7 := ((unhide HE).drewN nq).setField 5 (.bool true) ⟨code, rng, at_, true⟩ rfl
        have H7 := hide h7.1
        have H8 := hide (((DT.refl w pb gc cc).drewN nq).trans h7.2)
        have k5 := ((unhide HE).drewN nq).over
        have f5 := ((unhide HE).drewN nq).free 5
        clear h7 k3 k4
        obtain ⟨W1, hW1⟩ : ∃ W1, W1 = w.drewN nq := ⟨_, rfl⟩
        rw [← hW1] at H7 H8 k5 f5 ⊢
        clear hW1
        go_wp2_with fail
        refine bodyPost_ret (results_none rfl _ _ _) rfl ?_
        rw [unhide HS]
        exact ⟨rfl, unhide H7, unhide H8⟩
    · have hlt : at_ < N := by omega
      have hatb : at_ < Bs.length := by rw [← unhide HN]; exact hlt
      obtain ⟨g, off, e0, cb⟩ := (unhide HE).bytes at_ hatb
      subst e0
      have hx := (unhide HE).small _ (getD_mem hatb)
      obtain ⟨x, hxx⟩ : ∃ x, x = Bs.getD at_ 0 := ⟨_, rfl⟩
      have HAP := hide ((unhide HE).apart g off rfl (by omega))
      rw [← hxx] at cb hx
      obtain ⟨cz, hcc⟩ : ∃ cz, cz = (code * 256 + x) % 4294967296 := ⟨_, rfl⟩
      have HS : Hid (settleD Bs ⟨code, rng, at_, false⟩ = ⟨cz, rng * 256, at_ + 1, false⟩) := hide (by unfold settleD; rw [if_pos ⟨hr, rfl⟩, if_neg (by simp only; omega), hcc, hxx])
      have f1 : ((at_ : Int) == (N : Int)) = false := by rw [beq_eq_false_iff_ne]; omega
      have f1' : ¬ (at_ : Int) = (N : Int) := by omega
      have tat : (at_ : Int) < (N : Int) := by omega
      have fr : (rng : Int) * 256 % 18446744073709551616 = (rng : Int) * 256 := by omega
      have fcm : IntKind.u64.wrap ((code : Int) * 256) = (code : Int) * 256 := IntWalk.u64_in _ (by omega)
      have fxm : IntKind.u64.wrap (x : Int) = (x : Int) := IntWalk.u64_in _ (by omega)
      have fsm : IntKind.u64.wrap ((code : Int) * 256 + (x : Int)) = (code : Int) * 256 + (x : Int) := IntWalk.u64_in _ (by omega)
      have fcc : ((code : Int) * 256 + (x : Int)) % 4294967296 = (cz : Int) := by omega
      have fcw : IntKind.u64.wrap (cz : Int) = (cz : Int) := IntWalk.u64_in _ (by omega)
      have hcl : cz < 4294967296 := by omega
      clear hxx hcc
      go_enter Try.func65, Try.ntmps65
      go_wp2_with fail
      go_loopg [] 1 (fun gk ws => (gk = 1 ∧ w = ws) ∨ (gk = 0 ∧ Hid (DAt ws pb gc cc (some ⟨g, off, none⟩) bc Bs ⟨cz, rng * 256, at_ + 1, false⟩ ch ∧ DT w ws pb gc cc)))
      case atStart => exact .inl ⟨rfl, rfl⟩
      case round =>
        rcases hrel with ⟨rfl, rfl⟩ | ⟨rfl, HR⟩
        · have k4 : ∀ q, (w.drewN q).cell? ⟨pb, 4, none⟩ = some (.int .i64 (at_ : Int)) := fun q => (unhide HE).at_
          have k3 : ∀ q, (w.drewN q).cell? ⟨pb, 3, none⟩ = some (.slice (some ⟨g, off, none⟩) N bc) := fun q => by rw [unhide HN]; exact (unhide HE).bs
          go_upto_region 1 with fail
          go_quiet (fail)
          have HE1 := hide ((unhide HE).drewN nq)
          have HD1 := hide ((DT.refl w pb gc cc).drewN nq)
          have kb : (w.drewN nq).cell? ⟨g, off + at_, none⟩ = some (.int .u8 (x : Int)) := cb
          obtain ⟨W1, hW1⟩ : ∃ W1, W1 = w.drewN nq := ⟨_, rfl⟩
          rw [← hW1] at HE1 HD1 kb ⊢
          clear hW1 k3 k4 c1 c5
          have c1 := (unhide HE1).rng
          have f1c := (unhide HE1).free 1
          have h3' := (unhide HE1).setField 1 (.int .u64 ((rng : Int) * 256)) ⟨code, rng * 256, at_, false⟩ (by simp [dcells])
          have HE2 := hide h3'.1
          have HD2 := hide ((unhide HD1).trans h3'.2)
          have kb2 : (W1.setCell ⟨pb, 1, none⟩ (.int .u64 ((rng : Int) * 256))).cell? ⟨g, off + at_, none⟩ = some (.int .u8 (x : Int)) := by
            unfold World.cell? at kb ⊢
            rw [heap_setCell_other _ _ _ _ (show g ≠ pb from (unhide HAP).1)]
            exact kb
          clear h3'
          go_upto_region 4 with fail
          obtain ⟨W2, hW2⟩ : ∃ W2, W2 = W1.setCell ⟨pb, 1, none⟩ (.int .u64 ((rng : Int) * 256)) := ⟨_, rfl⟩
          rw [← hW2] at HE2 HD2 kb2 ⊢
          clear hW2 HE1 HD1 kb c1 f1c
          have m2 : W2.drew.cell? ⟨pb, 2, none⟩ = some (.int .u64 (code : Int)) := (unhide HE2).code
          have m3 : W2.drew.cell? ⟨pb, 3, none⟩ = some (.slice (some ⟨g, off, none⟩) N bc) := by rw [unhide HN]; exact (unhide HE2).bs
          have m4 : W2.drew.cell? ⟨pb, 4, none⟩ = some (.int .i64 (at_ : Int)) := (unhide HE2).at_
          have mb : W2.drew.cell? ⟨g, off + at_, none⟩ = some (.int .u8 (x : Int)) := kb2
          have mf : W2.drew.frozen? ⟨pb, 2, none⟩ = false := (unhide HE2).free 2
          refine wp_tail 19 (by kernel_rfl) (by kernel_rfl) ?_
          simp only [List.take_succ_cons, List.take_zero, List.drop_succ_cons, List.drop_zero]
          repeat still_step
          try refine wpStill_nil ?_
          have h4' := ((unhide HE2).drewN 1).setField 2 (.int .u64 (cz : Int)) ⟨cz, rng * 256, at_, false⟩ rfl
          have n4 := h4'.1.at_
          have n4f := h4'.1.free 4
          have h5' := h4'.1.setField 4 (.int .i64 ((at_ : Int) + 1)) ⟨cz, rng * 256, at_ + 1, false⟩ (by simp [dcells])
          have HE3 := hide h5'.1
          have HD3 := hide ((((unhide HD2).drewN 1).trans h4'.2).trans h5'.2)
          have p4 : W2.drew.frozen? ⟨pb, 4, none⟩ = false := (unhide HE2).free 4
          have hat2 : at_ ≤ 140737488355328 := by omega
          have m4' : W2.cell? ⟨pb, 4, none⟩ = some (.int .i64 (at_ : Int)) := m4
          have p4' : W2.frozen? ⟨pb, 4, none⟩ = false := p4
          have m4'' : (W2.setCell ⟨pb, 2, none⟩ (.int .u64 (cz : Int))).drew.cell? ⟨pb, 4, none⟩ = some (.int .i64 (at_ : Int)) := n4
          have p4'' : (W2.setCell ⟨pb, 2, none⟩ (.int .u64 (cz : Int))).drew.frozen? ⟨pb, 4, none⟩ = false := n4f
          clear h4' h5' n4 n4f fr fcm fxm fsm fcw f1 f1' tat h1 h2 h3 hr t1 m3 mb kb2 hcl cb hx hB hlt hatb ha h4
          go_wp2_with fail
          go_roundg 0
          case measure => omega
          case rel => exact .inr ⟨rfl, hide ⟨unhide HE3, unhide HD3⟩⟩
        · obtain ⟨h7, h8⟩ := unhide HR
          have c1' := h7.rng
          simp only at c1'
          have t2 : decide (((rng * 256 : Nat) : Int) < 16777216) = false := decide_eq_false (by omega)
          have H7 := hide h7
          have H8 := hide h8
          clear h7 h8 HR c1 c5
          obtain ⟨R, hR⟩ : ∃ R, R = rng * 256 := ⟨_, rfl⟩
          rw [← hR] at c1' t2
          clear hR h1 h2 h3 hr t1 fr fcm fxm fsm fcc fcw f1 f1' tat hcl
          go_wp2_with fail
          go_end0
          rw [unhide HS]
          exact ⟨rfl, unhide H7, unhide H8⟩
  · have HS : Hid (settleD Bs ⟨code, rng, at_, false⟩ = ⟨code, rng, at_, false⟩) := hide (by unfold settleD; rw [if_neg (by simp only; omega)])
    have t1 : decide ((rng : Int) < 16777216) = false := decide_eq_false (by omega)
    clear h1 h2 hr
    go_enter Try.func65, Try.ntmps65
    go_wp2_with fail
    go_loopg [] 0 (fun gk ws => w = ws ∧ gk = 0)
    case atStart => exact ⟨rfl, rfl⟩
    case round =>
      obtain ⟨rfl, hgk⟩ := hrel
      clear hgk
      go_wp2_with fail
      go_end0
      rw [unhide HS]
      exact ⟨rfl, unhide HE, DT.refl _ _ _ _⟩
end Go.Proofs.Ytbolhbjipmndeaa.D
