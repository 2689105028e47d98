/- shift: a byte is shifted out. -/
import Derived.Test.YtbolhbjipmndeaaDBa
import Derived.Deep.RegionLaw
namespace Go.Proofs.Ytbolhbjipmndeaa.D
open Go.RowKit Rang
set_option maxRecDepth 100000
set_option linter.unusedVariables false
attribute [local go_sem ↓] Go.wp_at_zero Go.wp_at_succ

theorem heap_lt {w : World} {k : Nat} {o : Obj} (h : w.heap[k]? = some o) : k < w.heap.size := by
  rcases Nat.lt_or_ge k w.heap.size with h' | h'
  · exact h'
  · rw [Array.getElem?_eq_none h'] at h; cases h

def ecells (chv ov : Value) (c : Enc) : Array Value := #[chv, .int .u64 (c.low : Int), .int .u64 (c.rng : Int), .int .i64 (c.kept : Int), .int .i64 (c.wait : Int), ov]

/-- an encoder in memory -/
structure EAt (B : Nat) (w : World) (pb : Nat) (chv ov : Value) (c : Enc) : Prop where
  cells : w.heap[pb]? = some (.cells (ecells chv ov c) 39 (0, 0))
  row : w.ownsRow B 5 1 ov c.out.length (c.out.map bv)
  lo : B ≤ pb

/-- what a call on it may change -/
structure Touch (w w' : World) (pb : Nat) (ov ov' : Value) : Prop where
  os : w'.os = w.os
  tape : w'.tape = w.tape
  output : w'.output = w.output
  size : w.heap.size ≤ w'.heap.size
  keep : ∀ k, k < w.heap.size → k ≠ pb → ov.ownBlock ≠ some k → w'.heap[k]? = w.heap[k]?
  lies : ∀ b, ov'.ownBlock = some b → ov.ownBlock = some b ∨ w.heap.size ≤ b

theorem Touch.refl (w : World) (pb : Nat) (ov : Value) : Touch w w pb ov ov := ⟨rfl, rfl, rfl, Nat.le_refl _, fun _ _ _ _ => rfl, fun b e => .inl e⟩

theorem Touch.trans {w w1 w2 : World} {pb : Nat} {v v1 v2 : Value} (h : Touch w w1 pb v v1) (h' : Touch w1 w2 pb v1 v2) : Touch w w2 pb v v2 := by
  refine ⟨h'.os.trans h.os, h'.tape.trans h.tape, h'.output.trans h.output, Nat.le_trans h.size h'.size, fun k hk h1 h2 => ?_, fun b e => ?_⟩
  · rw [h'.keep k (Nat.lt_of_lt_of_le hk h.size) h1 (fun e => ?_)]
    · exact h.keep k hk h1 h2
    · rcases h.lies k e with h3 | h3
      · exact h2 h3
      · omega
  · rcases h'.lies b e with h3 | h3
    · exact h.lies b h3
    · exact .inr (Nat.le_trans h.size h3)

theorem Touch.drewN {w w1 : World} {pb : Nat} {v v1 : Value} (h : Touch w w1 pb v v1) (q : Nat) : Touch w (w1.drewN q) pb v v1 := ⟨h.os, h.tape, h.output, h.size, h.keep, h.lies⟩

section
variable {B : Nat} {w : World} {pb : Nat} {chv ov : Value} {c : Enc}

theorem EAt.apart (h : EAt B w pb chv ov c) : ov.ownBlock ≠ some pb := by
  intro e
  rcases h.row.2 with ⟨e1, e2⟩ | ⟨g, cap, cur, e1, hb, hh, _⟩
  · rw [e1] at e; cases e
  · rw [e1] at e
    obtain rfl : g = pb := Option.some.inj e
    have := h.cells
    rw [hh] at this
    injection this with this
    injection this with _ h2
    cases h2

theorem EAt.free (h : EAt B w pb chv ov c) (i : Nat) : w.frozen? ⟨pb, i, none⟩ = false := by simp [World.frozen?, h.cells]
theorem EAt.low (h : EAt B w pb chv ov c) : w.cell? ⟨pb, 1, none⟩ = some (.int .u64 (c.low : Int)) := by simp [World.cell?, h.cells, ecells]
theorem EAt.rng (h : EAt B w pb chv ov c) : w.cell? ⟨pb, 2, none⟩ = some (.int .u64 (c.rng : Int)) := by simp [World.cell?, h.cells, ecells]
theorem EAt.kept (h : EAt B w pb chv ov c) : w.cell? ⟨pb, 3, none⟩ = some (.int .i64 (c.kept : Int)) := by simp [World.cell?, h.cells, ecells]
theorem EAt.wait (h : EAt B w pb chv ov c) : w.cell? ⟨pb, 4, none⟩ = some (.int .i64 (c.wait : Int)) := by simp [World.cell?, h.cells, ecells]
theorem EAt.out (h : EAt B w pb chv ov c) : w.cell? ⟨pb, 5, none⟩ = some ov := by simp [World.cell?, h.cells, ecells]
theorem EAt.chs (h : EAt B w pb chv ov c) : w.cell? ⟨pb, 0, none⟩ = some chv := by simp [World.cell?, h.cells, ecells]

theorem EAt.setField (h : EAt B w pb chv ov c) (i : Nat) (v : Value) (c' : Enc) (hc : (ecells chv ov c).setIfInBounds i v = ecells chv ov c') (ho : c'.out = c.out) : EAt B (w.setCell ⟨pb, i, none⟩ v) pb chv ov c' ∧ Touch w (w.setCell ⟨pb, i, none⟩ v) pb ov ov := by
  refine ⟨⟨?_, ?_, h.lo⟩, ⟨rfl, rfl, rfl, by simp, fun k hk h1 h2 => heap_setCell_other _ _ _ _ h1, fun b e => .inl e⟩⟩
  · rw [heap_setCell_same w pb i _ 39 v h.cells, hc]
  · rw [ho]
    exact own_keep h.row fun g e => heap_setCell_other _ _ _ _ (fun e' => h.apart (by rw [e, show g = pb from e']))

theorem EAt.setLow (h : EAt B w pb chv ov c) (x : Nat) : EAt B (w.setCell ⟨pb, 1, none⟩ (.int .u64 (x : Int))) pb chv ov { c with low := x } ∧ Touch w (w.setCell ⟨pb, 1, none⟩ (.int .u64 (x : Int))) pb ov ov := h.setField 1 (.int .u64 (x : Int)) { c with low := x } rfl rfl
theorem EAt.setRng (h : EAt B w pb chv ov c) (x : Nat) : EAt B (w.setCell ⟨pb, 2, none⟩ (.int .u64 (x : Int))) pb chv ov { c with rng := x } ∧ Touch w (w.setCell ⟨pb, 2, none⟩ (.int .u64 (x : Int))) pb ov ov := h.setField 2 (.int .u64 (x : Int)) { c with rng := x } rfl rfl
theorem EAt.setKept (h : EAt B w pb chv ov c) (x : Nat) : EAt B (w.setCell ⟨pb, 3, none⟩ (.int .i64 (x : Int))) pb chv ov { c with kept := x } ∧ Touch w (w.setCell ⟨pb, 3, none⟩ (.int .i64 (x : Int))) pb ov ov := h.setField 3 (.int .i64 (x : Int)) { c with kept := x } rfl rfl
theorem EAt.setWait (h : EAt B w pb chv ov c) (x : Nat) : EAt B (w.setCell ⟨pb, 4, none⟩ (.int .i64 (x : Int))) pb chv ov { c with wait := x } ∧ Touch w (w.setCell ⟨pb, 4, none⟩ (.int .i64 (x : Int))) pb ov ov := h.setField 4 (.int .i64 (x : Int)) { c with wait := x } rfl rfl

theorem EAt.drewN (h : EAt B w pb chv ov c) (q : Nat) : EAt B (w.drewN q) pb chv ov c := ⟨h.cells, h.row, h.lo⟩
end

/-- one byte put behind, as a step of a region that draws -/
theorem step_oneB {ops : Array Oper} {o : Oper} {a : Act} {K : Act → World → Prop} {Q : Exit → Act → World → Prop} {E : Prop} {ws : World} (hgd : o.guard = none) (s x : Operand)
    (ho : o.op = .call { callee := .builtin .append, args := #[s, x], argTypes := #[32, 32] }) (B : Nat) (va : Value) (xs : List Nat) (X : Nat) (hs : a.eval s = va) (hx : a.eval x = .slice (some ⟨ws.heap.size, 0, none⟩) 1 1)
    (hA : ws.ownsRow B 5 1 va xs.length (xs.map bv)) (hB : B ≤ ws.heap.size) (hlen : xs.length + 1 ≤ 140737488355328)
    (h : ∀ v' w', w'.ownsRow B 5 1 v' (xs ++ [X]).length ((xs ++ [X]).map bv) → (∀ k, k < ws.heap.size → va.ownBlock ≠ some k → w'.heap[k]? = ws.heap[k]?) → ws.heap.size ≤ w'.heap.size → (w'.os = ws.os ∧ w'.tape = ws.tape ∧ w'.output = ws.output) → (∀ b, v'.ownBlock = some b → va.ownBlock = some b ∨ ws.heap.size ≤ b) → K (a.put o.dst v') w') :
    if Region.wanted o (yielded ops a.tmps) = true then Oper.wp Try.prog o a (ws.alloc (.cells #[bv X] 5)) K Q else E := by
  have hw : Region.wanted o (yielded ops a.tmps) = true := by simp [Region.wanted, hgd]
  rw [if_pos hw]
  obtain ⟨i0, hi, hz0, hz1, hz2⟩ := info_parts info5
  obtain ⟨v', w', hr', h2, h3, _, h5⟩ := run_append_own_at (P := Try.prog) (ws.alloc (.cells #[bv X] 5)) B 32 o.type 5 i0 (.int .u8 0) 1 1 Try.underlying32 hi hz0 hz1 hz2 rfl (by decide) va xs.length (xs.map bv) (hA.alloc _) ⟨ws.heap.size, 0, none⟩ 1 1 [bv X] rfl (by
    intro j u hj
    cases j with
    | zero =>
      have e : (⟨ws.heap.size, 0, none⟩ : Addr).add 0 = ⟨ws.heap.size, 0, none⟩ := by simp [Addr.add]
      rw [e]
      simp only [World.cell?, heap_alloc_new]
      simpa using hj
    | succ j => simp at hj) (by intro u hu; rw [List.mem_singleton] at hu; subst hu; rfl) (by unfold maxLen; omega) (by omega) (by simp; omega)
  unfold Oper.wp
  simp [execOp, ho, resolve, invoke, builtin, hs, hx, hr', Result.andThen]
  refine h v' w' (by rw [List.length_append, List.map_append]; exact h2) (fun k hk hne => ?_) (by have := h3.size; simp at this; omega) ⟨h3.os, h3.tape, h3.output⟩ (fun b e => ?_)
  · rw [h3.block k (by simp; omega) (fun e => hne e.symm), Below.heap_alloc _ _ _ hk]
  · rcases h5 with h5 | h5
    · exact .inl (by rw [← h5, e])
    · rw [e] at h5; have := Option.some.inj h5; simp at this; exact .inr (by omega)

/-- the row behind it, laid into the encoder -/
theorem EAt.grown {B : Nat} {w w' : World} {pb : Nat} {chv ov v' : Value} {c : Enc} {X : Nat} (h : EAt B w pb chv ov c) (h1 : w'.ownsRow B 5 1 v' (c.out ++ [X]).length ((c.out ++ [X]).map bv)) (h2 : ∀ k, k < w.heap.size → ov.ownBlock ≠ some k → w'.heap[k]? = w.heap[k]?) (h3 : w.heap.size ≤ w'.heap.size) (h4 : w'.os = w.os ∧ w'.tape = w.tape ∧ w'.output = w.output) (h5 : ∀ b, v'.ownBlock = some b → ov.ownBlock = some b ∨ w.heap.size ≤ b) :
    EAt B (w'.setCell ⟨pb, 5, none⟩ v') pb chv v' { c with out := c.out ++ [X] } ∧ Touch w (w'.setCell ⟨pb, 5, none⟩ v') pb ov v' ∧ w'.cell? ⟨pb, 5, none⟩ = some ov ∧ w'.frozen? ⟨pb, 5, none⟩ = false := by
  have hlt := heap_lt h.cells
  have hc : w'.heap[pb]? = some (.cells (ecells chv ov c) 39 (0, 0)) := by rw [h2 pb hlt h.apart]; exact h.cells
  refine ⟨⟨?_, ?_, h.lo⟩, ⟨h4.1, h4.2.1, h4.2.2, by simpa using h3, fun k hk e1 e2 => ?_, h5⟩, by simp [World.cell?, hc, ecells], by simp [World.frozen?, hc]⟩
  · rw [heap_setCell_same w' pb 5 _ 39 v' hc]
    rfl
  · refine own_keep h1 fun g e => heap_setCell_other _ _ _ _ ?_
    show g ≠ pb
    rintro rfl
    rcases h5 g e with h6 | h6
    · exact h.apart h6
    · omega
  · rw [heap_setCell_other _ _ _ _ e1]; exact h2 k hk e2

theorem own_shape {w : World} {B t n : Nat} {v : Value} {xs : List Value} (h : w.ownsRow B t 1 v n xs) : ∃ a m c, v = .slice a m c := by
  rcases h.2 with ⟨e, _⟩ | ⟨g, cap, cur, e, _⟩
  · exact ⟨_, _, _, e⟩
  · exact ⟨_, _, _, e⟩

def waitsF : Nat → Nat → Nat → List Nat
  | 0, _, _ => []
  | n + 1, k, cy => (k + cy) % 256 :: List.replicate n ((255 + cy) % 256)

theorem waitsF_succ (n k cy : Nat) : waitsF (n + 1) k cy = (k + cy) % 256 :: waitsF n 255 cy := by
  cases n with
  | zero => rfl
  | succ n => rw [waitsF, waitsF, List.replicate_succ]

theorem shiftE_pos {low rng kept wait : Nat} {out : List Nat} (hc : low < 4278190080 ∨ 4294967295 < low) : shiftE ⟨low, rng, kept, wait, out⟩ = ⟨low % 16777216 * 256, rng, low / 16777216 % 256, 1, out ++ waitsF wait kept (low / 4294967296)⟩ := by
  unfold shiftE
  rw [if_pos hc]
  cases wait <;> rfl

set_option maxHeartbeats 8000000 in
theorem shift_ok (B pb : Nat) (w : World) (chv ov : Value) (c : Enc) (h : EAt B w pb chv ov c) (hlow : c.low < 8589934592) (hk : c.kept < 256) (hw : c.wait ≤ 100000000000000 ∧ c.out.length + c.wait ≤ 100000000000001) (ho : c.out.length ≤ 100000000000000) (hB : B ≤ w.heap.size) :
    Calls Try.prog 43 #[.pointer (some ⟨pb, 0, none⟩)] w fun e w' => e = .returned (.tuple #[]) ∧ ∃ ov', EAt B w' pb chv ov' (shiftE c) ∧ Touch w w' pb ov ov' := by
  have c1 := h.low
  obtain ⟨low, rng, kept, wait, out⟩ := c
  simp only at hlow hk hw ho c1
  obtain ⟨rs, hrs⟩ : ∃ rs, rs = low % 16777216 := ⟨_, rfl⟩
  have frs : (low : Int) % 16777216 = (rs : Int) := by omega
  have hrs2 : rs < 16777216 := by omega
  have HRS := hide hrs
  have HE := hide h
  clear h
  by_cases hc : low < 4278190080 ∨ 4294967295 < low
  · obtain ⟨cy, hcy⟩ : ∃ cy, cy = low / 4294967296 := ⟨_, rfl⟩
    have fcy : (low : Int) / 4294967296 = (cy : Int) := by omega
    have hcy1 : cy ≤ 1 := by omega
    obtain ⟨tp, htp⟩ : ∃ tp, tp = low / 16777216 % 256 := ⟨_, rfl⟩
    have ftp : (low : Int) / 16777216 % 256 = (tp : Int) := by omega
    have htp2 : tp < 256 := by omega
    have HSH := hide (shiftE_pos (rng := rng) (kept := kept) (wait := wait) (out := out) hc)
    rw [← hcy, ← htp, ← hrs] at HSH
    clear hrs hcy htp
    go_enter Try.func43, Try.ntmps43
    go_upto_region 0 with fail
    go_cut [14] from 3 to 13 (fun v wc => v = .bool true ∧ w = wc)
    case first =>
      by_cases h1 : low < 4278190080
      · have t2 : (low : Int) < 4278190080 := by omega
        go_wp2_with fail
        go_meet
        exact ⟨rfl, rfl⟩
      · have t2 : ¬ (low : Int) < 4278190080 := by omega
        have t3 : (4294967295 : Int) < (low : Int) := by omega
        go_wp2_with fail
        go_meet
        exact ⟨rfl, rfl⟩
    case rest =>
      obtain ⟨rfl, rfl⟩ := hcut
      go_wp2_with fail
      go_loopg [] wait (fun gk ws => ∃ (kp : Nat) (ov' : Value) (out' : List Nat), kp < 256 ∧ Hid (EAt B ws pb chv ov' ⟨low, rng, kp, gk, out'⟩) ∧ Hid (Touch w ws pb ov ov') ∧ Hid (out' ++ waitsF gk kp cy = out ++ waitsF wait kept cy ∧ out'.length + gk = out.length + wait))
      case atStart => exact ⟨kept, ov, out, hk, HE, hide (Touch.refl _ _ _), hide ⟨rfl, rfl⟩⟩
      case round =>
        clear HE
        obtain ⟨kp, ov', out', hkp, HE, HT, HX⟩ := hrel
        have c4 := (unhide HE).wait
        by_cases h0 : 0 < gk
        · have t0 : (0 : Int) < (gk : Int) := by omega
          obtain ⟨n, hn⟩ : ∃ n, gk = n + 1 := ⟨gk - 1, by omega⟩
          have fw : IntKind.i64.wrap ((gk : Int) - 1) = (n : Int) := by rw [IntKind.wrap_i64]; have := (unhide HX).2; omega
          have fw3 : IntKind.i64.wrap (n : Int) = (n : Int) := by rw [IntKind.wrap_i64]; have := (unhide HX).2; omega
          have fw2 : (gk : Int) - 1 = (n : Int) := by omega
          have HNN := hide hn
          clear hn
          obtain ⟨X, hX⟩ : ∃ X, X = (kp + cy) % 256 := ⟨_, rfl⟩
          have f1 : IntKind.i64.wrap ((kp : Int) + (cy : Int)) = (kp : Int) + (cy : Int) := by rw [IntKind.wrap_i64]; omega
          have f2 : IntKind.u8.wrap ((kp : Int) + (cy : Int)) = (X : Int) := by rw [IntKind.wrap_u8']; omega
          have f3 : ((kp : Int) + (cy : Int)) % 256 = (X : Int) := by omega
          have d3 : wr.drew.cell? ⟨pb, 3, none⟩ = some (.int .i64 (kp : Int)) := (unhide HE).kept
          have d5 : wr.drew.cell? ⟨pb, 5, none⟩ = some ov' := (unhide HE).out
          have e5 : ∀ O, (wr.alloc O).drew.cell? ⟨pb, 5, none⟩ = some ov' := fun O => by
            show (wr.alloc O).cell? _ = _
            simp only [World.cell?]
            rw [Below.heap_alloc wr O pb (heap_lt (unhide HE).cells)]
            exact (unhide HE).out
          have HXX := hide hX
          clear hX
          go_upto_region 3 with fail
          go_cut [26] from 27 to 41 (fun _ wc => Hid (∃ ov2, EAt B wc pb chv ov2 ⟨low, rng, kp, gk, out' ++ [X]⟩ ∧ Touch w wc pb ov ov2))
          case first =>
            go_region_law (refine step_oneB (ws := wr.drew) rfl (.tmp 30) (.tmp 38) rfl B ov' out' X (by simp [go_sem]) (by simp [go_sem]) (unhide HE).row (by have := (unhide HT).size; exact Nat.le_trans hB this) (by have := (unhide HX).2; omega) ?_; intro v3 w3 h1 h2 h3 h4 h5; obtain ⟨a3, n3, k3, e3⟩ := own_shape h1; subst e3; have HG := hide ((unhide HE).drewN 1 |>.grown h1 h2 h3 h4 h5); have g1 := (unhide HG).2.2.1; have g2 := (unhide HG).2.2.2; clear h1 h2 h3 h4 h5)
            all_goals (go_wp2_with fail; go_meet; exact hide ⟨_, (unhide HG).1, ((unhide HT).drewN 1).trans (unhide HG).2.1⟩)
          case rest =>
            obtain ⟨ov2, h1, h2⟩ := unhide hcut
            have g3 := h1.kept
            have g3f := h1.free 3
            have h3 := h1.setField 3 (.int .i64 255) ⟨low, rng, 255, gk, out' ++ [X]⟩ rfl rfl
            have g4 := h1.wait
            have g4f := h1.free 4
            have h4 := h3.1.setWait n
            have H5 := hide h4.1
            have H6 := hide ((h2.trans h3.2).trans h4.2)
            clear h1 h2 h3 h4 d3 d5 e5 c4 hcut
            go_wp2_with fail
            go_roundg n
            case measure => have := unhide HNN; omega
            case rel =>
              refine ⟨255, ov2, out' ++ [X], by omega, ?_, H6, hide ⟨?_, ?_⟩⟩
              · exact H5
              · rw [← (unhide HX).1, unhide HNN, waitsF_succ, unhide HXX, List.append_assoc]; rfl
              · have := (unhide HX).2; have := unhide HNN; rw [List.length_append, List.length_singleton]; omega
        · obtain rfl : gk = 0 := by omega
          have c1' := (unhide HE).low
          have c3 := (unhide HE).kept
          have f3 := (unhide HE).free 3
          have f4 := (unhide HE).free 4
          have f1 := (unhide HE).free 1
          have h3 := (unhide HE).setKept tp
          have h4 := h3.1.setField 4 (.int .i64 1) ⟨low, rng, tp, 1, out'⟩ rfl rfl
          have h5 := h4.1.setField 1 (.int .u64 ((rs : Int) * 256)) ⟨rs * 256, rng, tp, 1, out'⟩ (by simp [ecells]) rfl
          have hout : out' = out ++ waitsF wait kept cy := by have := (unhide HX).1; rw [waitsF, List.append_nil] at this; exact this
          have H6 := hide h5.1
          have H7 := hide ((((unhide HT).trans h3.2).trans h4.2).trans h5.2)
          rw [hout] at H6
          have fs : (rs : Int) * 256 % 18446744073709551616 = (rs : Int) * 256 := by omega
          have ft : (tp : Int) % 18446744073709551616 = (tp : Int) := by omega
          clear h3 h4 h5 hout HX
          go_wp2_with fail
          go_end0
          rw [unhide HSH]
          exact ⟨rfl, ov', unhide H6, unhide H7⟩
  · have t2 : ¬ (low : Int) < 4278190080 := by omega
    have t3 : ¬ (4294967295 : Int) < (low : Int) := by omega
    have HSH : Hid (shiftE ⟨low, rng, kept, wait, out⟩ = ⟨rs * 256, rng, kept, wait + 1, out⟩) := hide (by unfold shiftE; rw [if_neg hc, hrs])
    have c4 := (unhide HE).wait
    have f4 := (unhide HE).free 4
    have f1 := (unhide HE).free 1
    have h4 := (unhide HE).setField 4 (.int .i64 ((wait : Int) + 1)) ⟨low, rng, kept, wait + 1, out⟩ (by simp [ecells]) rfl
    have h5 := h4.1.setField 1 (.int .u64 ((rs : Int) * 256)) ⟨rs * 256, rng, kept, wait + 1, out⟩ (by simp [ecells]) rfl
    have H6 := hide h5.1
    have H7 := hide (h4.2.trans h5.2)
    have fs : (rs : Int) * 256 % 18446744073709551616 = (rs : Int) * 256 := by omega
    have fw : IntKind.i64.wrap ((wait : Int) + 1) = (wait : Int) + 1 := by rw [IntKind.wrap_i64]; omega
    clear h4 h5 hrs
    go_enter Try.func43, Try.ntmps43
    go_wp2_with fail
    go_end0
    rw [unhide HSH]
    exact ⟨rfl, ov, unhide H6, unhide H7⟩
end Go.Proofs.Ytbolhbjipmndeaa.D
