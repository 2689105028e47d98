/- shift (the program's): a byte is shifted out. -/
import Derived.Test.YtbolhbjipmndeaaDSh
import Derived.Laws.BitsAllLaws
namespace Go.Proofs.Ytbolhbjipmndeaa.D
open Go.RowKit Rang
set_option maxRecDepth 100000
set_option linter.unusedVariables false
attribute [local go_sem ↓] Go.wp_at_zero Go.wp_at_succ

def pcells (chv ov : Value) (c : Enc) : Array Value := #[.bool true, chv, .int .u64 (c.low : Int), .int .u32 (c.rng : Int), .int .u8 (c.kept : Int), .int .i64 (c.wait : Int), ov]

/-- an encoder of the program's in memory -/
structure PAt (B : Nat) (w : World) (pb : Nat) (chv ov : Value) (c : Enc) : Prop where
  cells : w.heap[pb]? = some (.cells (pcells chv ov c) 68 (0, 0))
  row : w.ownsRow B 5 1 ov c.out.length (c.out.map bv)
  lo : B ≤ pb

section
variable {B : Nat} {w : World} {pb : Nat} {chv ov : Value} {c : Enc}

theorem PAt.apart (h : PAt B w pb chv ov c) : ov.ownBlock ≠ some pb := by
  intro e
  rcases h.row.2 with ⟨e1, e2⟩ | ⟨g, cap, cur, e1, hb, hh, _⟩
  · rw [e1] at e; cases e
  · rw [e1] at e
    obtain rfl : g = pb := Option.some.inj e
    have := h.cells
    rw [hh] at this
    injection this with this
    injection this with _ h2
    cases h2

theorem PAt.free (h : PAt B w pb chv ov c) (i : Nat) : w.frozen? ⟨pb, i, none⟩ = false := by simp [World.frozen?, h.cells]
theorem PAt.made (h : PAt B w pb chv ov c) : w.cell? ⟨pb, 0, none⟩ = some (.bool true) := by simp [World.cell?, h.cells, pcells]
theorem PAt.chs (h : PAt B w pb chv ov c) : w.cell? ⟨pb, 1, none⟩ = some chv := by simp [World.cell?, h.cells, pcells]
theorem PAt.low (h : PAt B w pb chv ov c) : w.cell? ⟨pb, 2, none⟩ = some (.int .u64 (c.low : Int)) := by simp [World.cell?, h.cells, pcells]
theorem PAt.rng (h : PAt B w pb chv ov c) : w.cell? ⟨pb, 3, none⟩ = some (.int .u32 (c.rng : Int)) := by simp [World.cell?, h.cells, pcells]
theorem PAt.kept (h : PAt B w pb chv ov c) : w.cell? ⟨pb, 4, none⟩ = some (.int .u8 (c.kept : Int)) := by simp [World.cell?, h.cells, pcells]
theorem PAt.wait (h : PAt B w pb chv ov c) : w.cell? ⟨pb, 5, none⟩ = some (.int .i64 (c.wait : Int)) := by simp [World.cell?, h.cells, pcells]
theorem PAt.out (h : PAt B w pb chv ov c) : w.cell? ⟨pb, 6, none⟩ = some ov := by simp [World.cell?, h.cells, pcells]

theorem PAt.setField (h : PAt B w pb chv ov c) (i : Nat) (v : Value) (c' : Enc) (hc : (pcells chv ov c).setIfInBounds i v = pcells chv ov c') (ho : c'.out = c.out) : PAt B (w.setCell ⟨pb, i, none⟩ v) pb chv ov c' ∧ Touch w (w.setCell ⟨pb, i, none⟩ v) pb ov ov := by
  refine ⟨⟨?_, ?_, h.lo⟩, ⟨rfl, rfl, rfl, by simp, fun k hk h1 h2 => heap_setCell_other _ _ _ _ h1, fun b e => .inl e⟩⟩
  · rw [heap_setCell_same w pb i _ 68 v h.cells, hc]
  · rw [ho]
    exact own_keep h.row fun g e => heap_setCell_other _ _ _ _ (fun e' => h.apart (by rw [e, show g = pb from e']))

theorem PAt.drewN (h : PAt B w pb chv ov c) (q : Nat) : PAt B (w.drewN q) pb chv ov c := ⟨h.cells, h.row, h.lo⟩
end

/-- the row behind it, laid into the encoder -/
theorem PAt.grown {B : Nat} {w w' : World} {pb : Nat} {chv ov v' : Value} {c : Enc} {X : Nat} (h : PAt B w pb chv ov c) (h1 : w'.ownsRow B 5 1 v' (c.out ++ [X]).length ((c.out ++ [X]).map bv)) (h2 : ∀ k, k < w.heap.size → ov.ownBlock ≠ some k → w'.heap[k]? = w.heap[k]?) (h3 : w.heap.size ≤ w'.heap.size) (h4 : w'.os = w.os ∧ w'.tape = w.tape ∧ w'.output = w.output) (h5 : ∀ b, v'.ownBlock = some b → ov.ownBlock = some b ∨ w.heap.size ≤ b) :
    PAt B (w'.setCell ⟨pb, 6, none⟩ v') pb chv v' { c with out := c.out ++ [X] } ∧ Touch w (w'.setCell ⟨pb, 6, none⟩ v') pb ov v' ∧ w'.cell? ⟨pb, 6, none⟩ = some ov ∧ w'.frozen? ⟨pb, 6, none⟩ = false := by
  have hlt := heap_lt h.cells
  have hc : w'.heap[pb]? = some (.cells (pcells chv ov c) 68 (0, 0)) := by rw [h2 pb hlt h.apart]; exact h.cells
  refine ⟨⟨?_, ?_, h.lo⟩, ⟨h4.1, h4.2.1, h4.2.2, by simpa using h3, fun k hk e1 e2 => ?_, h5⟩, by simp [World.cell?, hc, pcells], by simp [World.frozen?, hc]⟩
  · rw [heap_setCell_same w' pb 6 _ 68 v' hc]
    rfl
  · refine own_keep h1 fun g e => heap_setCell_other _ _ _ _ ?_
    show g ≠ pb
    rintro rfl
    rcases h5 g e with h6 | h6
    · exact h.apart h6
    · omega
  · rw [heap_setCell_other _ _ _ _ e1]; exact h2 k hk e2

/-- one byte put behind, as a step of a row of operations -/
theorem wp_oneP {ops : Array Oper} {rest : List Oper} {o : Oper} {a : Act} {Q : Exit → Act → World → Prop} {ws : World} (hgd : o.guard = none) (s x : Operand)
    (ho : o.op = .call { callee := .builtin .append, args := #[s, x], argTypes := #[32, 32] }) (B : Nat) (va : Value) (xs : List Nat) (X : Nat) (hs : a.eval s = va) (hx : a.eval x = .slice (some ⟨ws.heap.size, 0, none⟩) 1 1)
    (hA : ws.ownsRow B 5 1 va xs.length (xs.map bv)) (hB : B ≤ ws.heap.size) (hlen : xs.length + 1 ≤ 140737488355328)
    (h : ∀ v' w', w'.ownsRow B 5 1 v' (xs ++ [X]).length ((xs ++ [X]).map bv) → (∀ k, k < ws.heap.size → va.ownBlock ≠ some k → w'.heap[k]? = ws.heap[k]?) → ws.heap.size ≤ w'.heap.size → (w'.os = ws.os ∧ w'.tape = ws.tape ∧ w'.output = ws.output) → (∀ b, v'.ownBlock = some b → va.ownBlock = some b ∨ ws.heap.size ≤ b) → wpList Try.prog ops Q rest (a.put o.dst v') w') :
    wpList Try.prog ops Q (o :: rest) a (ws.alloc (.cells #[bv X] 5)) := by
  obtain ⟨i0, hi, hz0, hz1, hz2⟩ := info_parts info5
  refine wpList_append_own_at (ws.alloc (.cells #[bv X] 5)) hgd s x 32 ho B 5 i0 (.int .u8 0) 1 1 Try.underlying32 hi hz0 hz1 hz2 rfl (by decide) va xs.length (xs.map bv) hs (hA.alloc _) ⟨ws.heap.size, 0, none⟩ 1 1 [bv X] hx rfl ?_ (by intro u hu; rw [List.mem_singleton] at hu; subst hu; rfl) (by unfold maxLen; omega) (by omega) (by simp; omega) ?_
  · intro j u hj
    cases j with
    | zero =>
      have e : (⟨ws.heap.size, 0, none⟩ : Addr).add 0 = ⟨ws.heap.size, 0, none⟩ := by simp [Addr.add]
      rw [e]
      simp only [World.cell?, heap_alloc_new]
      simpa using hj
    | succ j => simp at hj
  · intro v' w' h2 h3 _ h5
    refine h v' w' (by rw [List.length_append, List.map_append]; exact h2) (fun k hk hne => ?_) (by have := h3.size; simp at this; omega) ⟨h3.os, h3.tape, h3.output⟩ (fun b e => ?_)
    · rw [h3.block k (by simp; omega) (fun e => hne e.symm), Below.heap_alloc _ _ _ hk]
    · rcases h5 with h5 | h5
      · exact .inl (by rw [← h5, e])
      · rw [e] at h5; have := Option.some.inj h5; simp at this; exact .inr (by omega)

theorem waits_snoc (n k cy : Nat) : (k + cy) % 256 :: List.replicate (n + 1) ((255 + cy) % 256) = ((k + cy) % 256 :: List.replicate n ((255 + cy) % 256)) ++ [(255 + cy) % 256] := by
  rw [List.replicate_succ', List.cons_append]

set_option maxHeartbeats 8000000 in
theorem pshift_ok (B pb : Nat) (w : World) (chv ov : Value) (c : Enc) (h : PAt B w pb chv ov c) (hlow : c.low < 8589934592) (hk : c.kept < 256) (hw : 1 ≤ c.wait ∧ c.out.length + c.wait ≤ 100000000000001) (hB : B ≤ w.heap.size) :
    Calls Try.prog 42 #[.pointer (some ⟨pb, 0, none⟩)] w fun e w' => e = .returned (.tuple #[]) ∧ ∃ ov', PAt B w' pb chv ov' (shiftE c) ∧ Touch w w' pb ov ov' := by
  have c1 := h.low
  obtain ⟨low, rng, kept, wait, out⟩ := c
  simp only at hlow hk hw c1
  obtain ⟨rs, hrs⟩ : ∃ rs, rs = low % 16777216 := ⟨_, rfl⟩
  have hrs2 : rs < 16777216 := by omega
  have HRS := hide hrs
  have HE := hide h
  have hand : bits .and .u64 (low : Int) 16777215 = (rs : Int) := by
    rw [show (16777215 : Int) = ((16777215 : Nat) : Int) from rfl, u64_and_nat low 16777215 (by omega) (by decide), hrs]
    exact congrArg Int.ofNat (Nat.and_two_pow_sub_one_eq_mod low 24)
  clear h
  by_cases hc : low < 4278190080 ∨ 4294967295 < low
  · obtain ⟨cy, hcy⟩ : ∃ cy, cy = low / 4294967296 := ⟨_, rfl⟩
    have fcy : (low : Int) / 4294967296 = (cy : Int) := by omega
    have hcy1 : cy ≤ 1 := by omega
    obtain ⟨tp, htp⟩ : ∃ tp, tp = low / 16777216 % 256 := ⟨_, rfl⟩
    have ftp : (low : Int) / 16777216 % 256 = (tp : Int) := by omega
    have htp2 : tp < 256 := by omega
    have HSH := hide (shiftE_pos (rng := rng) (kept := kept) (wait := wait) (out := out) hc)
    rw [← hcy, ← htp, ← hrs] at HSH
    clear hrs hcy htp
    go_enter Try.func42, Try.ntmps42
    go_upto_region 0 with fail
    go_cut [14] from 3 to 13 (fun v wc => v = .bool true ∧ w = wc)
    case first =>
      by_cases h1 : low < 4278190080
      · have t2 : (low : Int) < 4278190080 := by omega
        go_wp2_with fail
        go_meet
        exact ⟨rfl, rfl⟩
      · have t2 : ¬ (low : Int) < 4278190080 := by omega
        have t3 : (4294967296 : Int) ≤ (low : Int) := by omega
        go_wp2_with fail
        go_meet
        exact ⟨rfl, rfl⟩
    case rest =>
      obtain ⟨rfl, rfl⟩ := hcut
      obtain ⟨X, hX⟩ : ∃ X, X = (kept + cy) % 256 := ⟨_, rfl⟩
      obtain ⟨Y, hY⟩ : ∃ Y, Y = (255 + cy) % 256 := ⟨_, rfl⟩
      have f2 : ((kept : Int) + (cy : Int)) % 256 = (X : Int) := by omega
      have f3 : (255 + (cy : Int)) % 256 = (Y : Int) := by omega
      have f4 : IntKind.u8.wrap ((kept : Int) + (cy : Int)) = (X : Int) := by rw [IntKind.wrap_u8']; omega
      have f5 : IntKind.u8.wrap (255 + (cy : Int)) = (Y : Int) := by rw [IntKind.wrap_u8']; omega
      have d4 : w.drew.cell? ⟨pb, 4, none⟩ = some (.int .u8 (kept : Int)) := (unhide HE).kept
      have d6 : w.drew.cell? ⟨pb, 6, none⟩ = some ov := (unhide HE).out
      have e6 : ∀ O, (w.alloc O).drew.cell? ⟨pb, 6, none⟩ = some ov := fun O => by
        show (w.alloc O).cell? _ = _
        simp only [World.cell?]
        rw [Below.heap_alloc w O pb (heap_lt (unhide HE).cells)]
        exact (unhide HE).out
      have e4 : ∀ O, (w.alloc O).drew.cell? ⟨pb, 4, none⟩ = some (.int .u8 (kept : Int)) := fun O => by
        show (w.alloc O).cell? _ = _
        simp only [World.cell?]
        rw [Below.heap_alloc w O pb (heap_lt (unhide HE).cells)]
        exact (unhide HE).kept
      have HXX := hide hX
      have HYY := hide hY
      clear hX hY
      go_upto_region 2 with fail
      go_cut [2] from 21 to 35 (fun v wc => v = .int .u8 (cy : Int) ∧ Hid (∃ ov2, PAt B wc pb chv ov2 ⟨low, rng, kept, wait, out ++ [X]⟩ ∧ Touch w wc pb ov ov2))
      case first =>
        go_region_law (refine step_oneB (ws := w.drew) rfl (.tmp 25) (.tmp 32) rfl B ov out X (by simp [go_sem]) (by simp [go_sem]) (unhide HE).row hB (by omega) ?_; intro v3 w3 h1 h2 h3 h4 h5; obtain ⟨a3, n3, k3, e3⟩ := own_shape h1; subst e3; have HG := hide ((unhide HE).drewN 1 |>.grown h1 h2 h3 h4 h5); have g1 := (unhide HG).2.2.1; have g2 := (unhide HG).2.2.2; clear h1 h2 h3 h4 h5)
        all_goals (go_wp2_with fail; go_meet; exact ⟨rfl, hide ⟨_, (unhide HG).1, ((Touch.refl _ _ _).drewN 1).trans (unhide HG).2.1⟩⟩)
      case rest =>
        obtain ⟨rfl, hcut⟩ := hcut
        obtain ⟨ov2, h1, h2⟩ := unhide hcut
        have H1 := hide h1
        have H2 := hide h2
        have c5 := h1.wait
        clear h1 h2 hcut d4 d6 e6 e4 c1 f2 f4 HE
        obtain ⟨m, hm⟩ : ∃ m, wait = m + 1 := ⟨wait - 1, by omega⟩
        have fm : IntKind.i64.wrap ((wait : Int) - 1) = (m : Int) := by rw [IntKind.wrap_i64]; omega
        have fm2 : wrap64 ((wait : Int) - 1) = (m : Int) := by rw [IntWalk.wrap64_in _ (by omega)]; omega
        have fm3 : (wait : Int) - 1 = (m : Int) := by omega
        have HM := hide hm
        have hmb : out.length + m ≤ 100000000000000 := by omega
        clear hm
        go_upto_region 4 with fail
        go_loopg [41] m (fun gk d ws => ∃ (i : Nat) (ov' : Value), i + gk = m ∧ d = .int .i64 (i : Int) ∧ Hid (PAt B ws pb chv ov' ⟨low, rng, kept, wait, out ++ (X :: List.replicate i Y)⟩) ∧ Hid (Touch w ws pb ov ov'))
        case atStart => exact ⟨0, ov2, by omega, rfl, H1, H2⟩
        case round =>
          clear H1 H2
          obtain ⟨i, ov', hi, rfl, HE, HT⟩ := hrel
          by_cases h0 : i < m
          · have t0 : (i : Int) < (m : Int) := by omega
            have e6 := (unhide HE).out
            have HL : Hid ((out ++ (X :: List.replicate i Y)).length + 1 ≤ 140737488355328 ∧ B ≤ wr.heap.size) := hide ⟨by simp; omega, Nat.le_trans hB (unhide HT).size⟩
            go_wp2_with (at_builtin; refine wp_oneP (ws := wr) rfl (.tmp 47) (.tmp 50) rfl B ov' (out ++ (X :: List.replicate i Y)) Y (by simp [go_sem]) (by simp [go_sem]) (unhide HE).row (unhide HL).2 (unhide HL).1 ?_; intro v3 w3 h1 h2 h3 h4 h5; obtain ⟨a3, n3, k3, e3⟩ := own_shape h1; subst e3; have HG := hide ((unhide HE).grown h1 h2 h3 h4 h5); have g1 := (unhide HG).2.2.1; have g2 := (unhide HG).2.2.2; clear h1 h2 h3 h4 h5)
            go_roundg (m - (i + 1))
            case measure => omega
            case rel =>
              refine ⟨i + 1, _, by omega, by go_num, hide ?_, hide ((unhide HT).trans (unhide HG).2.1)⟩
              have := (unhide HG).1
              rw [List.replicate_succ', ← List.cons_append, ← List.append_assoc]
              exact this
          · obtain rfl : m = i := by omega
            have t0 : ¬ (m : Int) < (m : Int) := by omega
            have c2 := (unhide HE).low
            have c5' := (unhide HE).wait
            have f2 := (unhide HE).free 2
            have f4 := (unhide HE).free 4
            have f5' := (unhide HE).free 5
            have c4 := (unhide HE).kept
            have h3 := (unhide HE).setField 4 (.int .u8 (tp : Int)) ⟨low, rng, tp, wait, out ++ (X :: List.replicate m Y)⟩ rfl rfl
            have h4 := h3.1.setField 5 (.int .i64 0) ⟨low, rng, tp, 0, out ++ (X :: List.replicate m Y)⟩ rfl rfl
            have h5 := h4.1.setField 5 (.int .i64 1) ⟨low, rng, tp, 1, out ++ (X :: List.replicate m Y)⟩ rfl rfl
            have h6 := h5.1.setField 2 (.int .u64 ((rs : Int) * 256)) ⟨rs * 256, rng, tp, 1, out ++ (X :: List.replicate m Y)⟩ (by simp [pcells]) rfl
            have H6 := hide h6.1
            have H7 := hide (((((unhide HT).trans h3.2).trans h4.2).trans h5.2).trans h6.2)
            have fs : (rs : Int) * 256 % 18446744073709551616 = (rs : Int) * 256 := by omega
            have ft : (low : Int) / 16777216 % 18446744073709551616 = (low : Int) / 16777216 := by omega
            clear h3 h4 h5 h6
            go_wp2_with fail
            go_end0
            rw [unhide HSH]
            refine ⟨rfl, ov', ?_, unhide H7⟩
            have h8 := unhide H6
            rw [unhide HXX, unhide HYY] at h8
            rw [unhide HM]
            exact h8
  · have t2 : ¬ (low : Int) < 4278190080 := by omega
    have t3 : ¬ (4294967296 : Int) ≤ (low : Int) := by omega
    have HSH : Hid (shiftE ⟨low, rng, kept, wait, out⟩ = ⟨rs * 256, rng, kept, wait + 1, out⟩) := hide (by unfold shiftE; rw [if_neg hc, hrs])
    have c4 := (unhide HE).wait
    have f4 := (unhide HE).free 5
    have f1 := (unhide HE).free 2
    have h4 := (unhide HE).setField 5 (.int .i64 ((wait : Int) + 1)) ⟨low, rng, kept, wait + 1, out⟩ (by simp [pcells]) rfl
    have h5 := h4.1.setField 2 (.int .u64 ((rs : Int) * 256)) ⟨rs * 256, rng, kept, wait + 1, out⟩ (by simp [pcells]) rfl
    have H6 := hide h5.1
    have H7 := hide (h4.2.trans h5.2)
    have fs : (rs : Int) * 256 % 18446744073709551616 = (rs : Int) * 256 := by omega
    have fw : IntKind.i64.wrap ((wait : Int) + 1) = (wait : Int) + 1 := by rw [IntKind.wrap_i64]; omega
    clear h4 h5 hrs
    go_enter Try.func42, Try.ntmps42
    go_wp2_with fail
    go_end0
    rw [unhide HSH]
    exact ⟨rfl, ov, unhide H6, unhide H7⟩
end Go.Proofs.Ytbolhbjipmndeaa.D
