/- Texts of one proof, one behind the other: St, Toks, Fx, Nw, Cod, Rp, Inn, Lns, Cn, Codes, Blk, Fb, Kd, Bs, DeflH, DeflL, RunM, DeflR. -/
import Derived.Test.YtabeanealkopbaaGreatPlnC
import Derived.KernelRfl

section
namespace Go.Proofs.YtabeanealkopbaaGreat
open Go.RowKit Mth Infl
set_option maxRecDepth 100000
set_option linter.unusedVariables false

theorem bytes_bad : ∀ (n : Nat) (out : List Nat) (I : In) (p : Nat), p ≤ I.m → I.m < p + 8 * n → Infl.bytes n out I p = .bad 10
  | 0, out, I, p, h1, h2 => by omega
  | n + 1, out, I, p, h1, h2 => by
    rw [Infl.bytes]
    by_cases c : p + 8 ≤ I.m
    · rw [bind_of (x := num I.f p 8) (o := p + 8) (by unfold Infl.get; rw [if_pos c])]
      exact bytes_bad n _ I (p + 8) c (by omega)
    · rw [bind_bad (e := 10) (by unfold Infl.get; rw [if_neg c])]

theorem bytes_is (zs : List Nat) (hs : ∀ z ∈ zs, z < 256) (n j : Nat) (out : List Nat) (h : j + n ≤ zs.length) : Infl.bytes n out (Infl.bitsOf zs) (8 * j) = .ok (out ++ (zs.drop j).take n) (8 * (j + n)) := by
  have hl : ((zs.drop j).take n).length = n := by simp; omega
  have := bytes_at zs ((zs.drop j).take n) j out (fun i hi => by
    rw [hl] at hi
    rw [List.getElem?_take, if_pos hi, List.getElem?_drop]) (fun x hx => hs x (List.mem_of_mem_drop (List.mem_of_mem_take hx)))
  rw [hl] at this
  exact this

theorem app_zero (w : World) (ty : TypeId) (a b : Option Addr) (n c c' : Nat) (hle : n ≤ c) : (Builtin.append_ #[22, 22] ty #[.slice a n c, .slice b 0 c']).run Tryz.prog w = .ok (.slice a n c) w := by
  obtain ⟨i0, hi, hz0, hz1, hz2⟩ := info_parts info5
  cases a <;> cases b <;> simp [Builtin.append_, Builtin.lenOf, Builtin.firstCells, run_underlying Tryz.underlying22, sizeOf, typeInfo, hi, hle, loadCells, loadCellsFrom, storeCells]

/-- nothing is appended -/
theorem wpList_append_zero {w : World} {ops : Array Oper} {rest : List Oper} {o : Oper} {a : Act} {Q : Exit → Act → World → Prop} (hgd : o.guard = none) (s x : Operand)
    (ho : o.op = .call { callee := .builtin .append, args := #[s, x], argTypes := #[22, 22] })
    (va b : Option Addr) (n c c' : Nat) (hle : n ≤ c) (hs : a.eval s = .slice va n c) (hx : a.eval x = .slice b 0 c')
    (h : wpList Tryz.prog ops Q rest (a.put o.dst (.slice va n c)) w) : wpList Tryz.prog ops Q (o :: rest) a w := by
  refine wpList_plain hgd fun K hK => ?_
  have hrun := app_zero w o.type va b n c c' hle
  unfold Oper.wp
  simp [execOp, ho, resolve, invoke, builtin, hs, hx, hrun, Result.andThen]
  exact hK _ _ h

section
variable {rb rp : Nat} {v : Value} {w w1 : World} {B g p q most : Nat} {zs out : List Nat} {sv dv : Value}

/-- what came out is put there anew -/
theorem RAt.same (h : RAt w B rb rp g zs p v out most sv dv) : RAt (w.setCell ⟨rb, 2, none⟩ v) B rb rp g zs p v out most sv dv := by
  have e : ∀ k, k ≠ rb → (w.setCell ⟨rb, 2, none⟩ v).heap[k]? = w.heap[k]? := fun k hk => heap_setCell_other _ _ _ _ (by exact hk)
  refine ⟨?_, h.rd.keep (e rp h.ne) (e g h.ng), own_keep h.row (fun k hk => e k (by have := (h.own hk).1; have := h.lb; omega)), h.small, h.lb, h.lp, h.lg, h.ne, h.ng, h.ol, by simpa using h.hB⟩
  rw [heap_setCell_same _ rb 2 _ _ _ h.blk]
  simp

theorem Chg.same {v0 : Value} {w0 : World} (h : Chg rb rp v0 w0 v w) (u : Value) : Chg rb rp v0 w0 v (w.setCell ⟨rb, 2, none⟩ u) :=
  ⟨h.os, h.tape, h.output, by simpa using h.size, fun k h1 h2 h3 h4 => by rw [heap_setCell_other _ _ _ _ (by exact h2)]; exact h.keep k h1 h2 h3 h4, h.lies⟩

theorem RAt.slice' (h : RAt w B rb rp g zs p v out most sv dv) : ∃ a c, v = .slice a out.length c ∧ out.length ≤ c := by
  rcases h.row.2 with ⟨e, hn⟩ | ⟨g, c, cur, e, hb, hh, hle, _⟩
  · exact ⟨none, 0, by rw [e, hn], by omega⟩
  · exact ⟨_, c, e, hle⟩

theorem ralign (h : RAt w B rb rp g zs p v out most sv dv) (hz : zs.length ≤ 140737488355328) :
    Calls Tryz.prog 100 #[.pointer (some ⟨rp, 0, none⟩)] w fun e w' => e = .returned (.int .i64 0) ∧ RAt w' B rb rp g zs ((p + 7) / 8 * 8) v out most sv dv ∧ Chg rb rp v w v w' := by
  refine (ralign_ok rp g p false zs w h.rd hz).mono ?_
  rintro e w' ⟨rfl, hr, h1, h2, h3, h4, h5⟩
  have ho : Only rp w w' := ⟨h2, h3, h4, by omega, fun x _ hx => h5 x hx⟩
  exact ⟨rfl, h.only ho hr, Chg.only rb v ho⟩

theorem xor_ffff (x : Nat) (hx : x < 65536) : bits .xor .u64 (x : Int) 65535 = ((65535 - x : Nat) : Int) := by
  have h1 : (x ^^^ 65535 : Nat) = 65535 - x := by
    refine Nat.eq_of_testBit_eq fun i => ?_
    rw [show 65535 - x = 2 ^ 16 - (x + 1) from by omega, Nat.testBit_two_pow_sub_succ (by omega), Nat.testBit_xor, show (65535 : Nat) = 2 ^ 16 - 1 from rfl, Nat.testBit_two_pow_sub_one]
    by_cases hi : i < 16
    · simp [hi]
    · have : x.testBit i = false := Nat.testBit_lt_two_pow (Nat.lt_of_lt_of_le hx (Nat.pow_le_pow_right (n := 2) (by decide) (show 16 ≤ i by omega)))
      simp [hi, this]
  have := u64_xor_nat x 65535 (by omega) (by omega)
  rw [← h1]
  exact this

set_option maxHeartbeats 2000000 in
theorem stored_ok (h : RAt w B rb rp g zs p v out most sv dv) (hz : zs.length ≤ 140737488355328) (hm : most ≤ 268435456) :
    Calls Tryz.prog 75 #[.pointer (some ⟨rb, 0, none⟩)] w fun e w' => Did (Infl.stored most out (Infl.bitsOf zs) p) w B rb rp g zs v most sv dv e w' := by
  obtain ⟨i0, hi, hz0, hz1, hz2⟩ := info_parts info5
  have c0 := h.c0
  have HA := hide (ralign h hz)
  obtain ⟨a, ha⟩ : ∃ a, a = (p + 7) / 8 * 8 := ⟨_, rfl⟩
  rw [← ha] at HA
  have ha8 : a % 8 = 0 := by omega
  have HP : Hid (∀ r, Infl.stored most out (Infl.bitsOf zs) p = r ↔ ((Infl.get 16).bind fun n => (Infl.get 16).bind fun m =>
    if m ≠ 65535 - n then Rd.fail 11 else if most < out.length + n then Rd.fail 3 else Infl.bytes n out) (Infl.bitsOf zs) a = r) := hide (fun r => by unfold Infl.stored; rw [bind_of (x := ()) (o := a) (by unfold Infl.align; rw [ha])])
  have HA8 := hide ha8
  clear h ha ha8
  go_enter Tryz.func75, Tryz.ntmps75
  go_wp2_with fail
  refine wp_scope_on 0 rfl ?_
  go_wp2_with fail
  refine (unhide HA).mono ?_
  rintro e w1 ⟨rfl, r1, d1⟩
  have HG := hide (rget 16 r1 hz (by decide))
  have HD1 := hide d1
  have c0 := r1.c0
  clear r1 d1 HA
  go_wp2_with fail
  refine (unhide HG).mono ?_
  rintro e w2 ⟨x, q2, b, rfl, r2, d2, g2⟩
  clear HG c0
  rcases g2 with ⟨rfl, g2, gx, gq⟩ | ⟨rfl, rfl, g2⟩
  · have HG2 := hide g2
    have HD2 := hide ((unhide HD1).trans d2)
    have HG := hide (rget 16 r2 hz (by decide))
    have c0 := r2.c0
    have hx16 : x < 65536 := gx
    have HQ2 := hide gq
    clear g2 d2 r2 HD1 gx gq
    go_wp2_with fail
    refine (unhide HG).mono ?_
    rintro e w3 ⟨y, q3, b, rfl, r3, d3, g3⟩
    clear HG c0
    rcases g3 with ⟨rfl, g3, gx, gq⟩ | ⟨rfl, rfl, g3⟩
    · have HD3 := hide ((unhide HD2).trans d3)
      have HP2 : Hid (∀ r, Infl.stored most out (Infl.bitsOf zs) p = r ↔ (if y ≠ 65535 - x then Rd.fail 11 else if most < out.length + x then Rd.fail 3 else Infl.bytes x out) (Infl.bitsOf zs) q3 = r) := hide (fun r => by rw [unhide HP r, bind_of (unhide HG2), bind_of g3])
      have HR3 := hide r3
      have hy16 : y < 65536 := gx
      have HQ3 : Hid (q3 = a + 32) := hide (by have := unhide HQ2; omega)
      have hxor := xor_ffff x hx16
      have hq3le := r3.rd.le
      clear g3 d3 r3 HG2 HD2 HP gx gq HQ2
      by_cases hxy : y = 65535 - x
      · have t1 : ((y : Int) == ((65535 - x : Nat) : Int)) = true := by simp only [beq_iff_eq]; omega
        have HXY := hide hxy
        have hcv := conv_u64 x (by omega)
        clear hxy
        by_cases hbig : most < out.length + x
        · have HF := hide (fit_no x (unhide HR3) hm hbig (by omega))
          have HE : Hid (∀ k, Did (Infl.stored most out (Infl.bitsOf zs) p) w B rb rp g zs v most sv dv (.returned (.int .i64 ((3 : Nat) : Int))) (w3.drewN k)) := hide fun k => Did.no 3 ((unhide HP2 _).2 (by rw [if_neg (not_not_intro (unhide HXY)), if_pos hbig]; rfl)) (by decide) (by decide) ((unhide HD3).drewN k)
          clear hbig
          go_wp2_with fail
          refine (unhide HF).mono ?_
          rintro e w4 ⟨rfl, k, rfl⟩
          go_wp2_with fail
          go_step3
          refine ⟨rfl, ?_⟩
          go_wp2_with fail
          rw [Exit.noGoto_ret]
          go_ret
          exact unhide HE k
        · have HF := hide (fit_yes x (unhide HR3) hm hbig (by omega))
          have HP3 : Hid (∀ r, Infl.stored most out (Infl.bitsOf zs) p = r ↔ Infl.bytes x out (Infl.bitsOf zs) q3 = r) := hide (fun r => by rw [unhide HP2 r, if_neg (not_not_intro (unhide HXY)), if_neg hbig])
          have HBIG := hide hbig
          obtain ⟨j, hj⟩ : ∃ j, q3 = 8 * j := ⟨q3 / 8, by have := unhide HQ3; have := unhide HA8; omega⟩
          have HJ := hide hj
          have hjz : j ≤ zs.length := by omega
          clear hbig HP2 HQ3 hj
          go_wp2_with fail
          refine (unhide HF).mono ?_
          rintro e w4 ⟨rfl, k, rfl⟩
          have HR4 := hide ((unhide HR3).drewN k)
          have HD4 := hide ((unhide HD3).drewN k)
          generalize w3.drewN k = w4 at HR4 HD4 ⊢
          clear HF HR3 HD3
          have c0 := (unhide HR4).c0
          by_cases hend : j + x ≤ zs.length
          · have HB := hide (rbytes_ok rp g q3 false zs (x : Int) w4 (unhide HR4).rd hz (by omega) (by have := unhide HJ; omega) (by have := unhide HJ; simp; omega) (heap_lt (unhide HR4).rd.row))
            go_wp2_with fail
            refine (unhide HB).mono ?_
            rintro e w5 ⟨rfl, hblk, hrd, honly⟩
            rw [show (x : Int).toNat = x from by simp] at hblk hrd ⊢
            rw [show q3 / 8 = j from by have := unhide HJ; omega] at hblk
            have r5 := (unhide HR4).only honly hrd
            have HD5 := hide ((unhide HD4).trans (Chg.only rb v honly))
            have hbs := bytes_is zs (unhide HR4).rd.small x j out hend
            rw [show 8 * (j + x) = q3 + 8 * x from by have := unhide HJ; omega, show 8 * j = q3 from (unhide HJ).symm] at hbs
            have HPF := hide ((unhide HP3 _).2 hbs)
            have HBLK := hide hblk
            have HLT := hide (heap_lt hblk)
            have HR5 := hide r5
            clear hblk hrd honly hbs HB c0 HR4 HD4
            have c2 := r5.c2
            have f2 := r5.fz 2
            obtain ⟨va, vc, hv, hvc⟩ := r5.slice'
            clear r5
            by_cases hx0 : x = 0
            · subst hx0
              have HE : Hid (Did (Infl.stored most out (Infl.bitsOf zs) p) w B rb rp g zs v most sv dv (.returned (.int .i64 0)) (w5.setCell ⟨rb, 2, none⟩ (.slice va out.length vc))) := hide (.inl ⟨v, out, q3 + 8 * 0, by rw [unhide HPF]; simp, rfl, by rw [← hv]; exact (unhide HR5).same, by rw [← hv]; exact (unhide HD5).same v⟩)
              rw [hv] at c2
              generalize out.length = ol at c2 HE hvc
              clear hv
              have HVC := hide hvc
              clear hvc
              go_wp2_with (at_builtin; go_must (refine wpList_append_zero rfl (.tmp 55) (.tmp 56) rfl va _ ol vc 0 (unhide HVC) (by rfl) (by rfl) ?_))
              go_step3
              go_wp2_with fail
              refine jump_ret_of ?_
              go_ret
              exact unhide HE
            · have hx1 : 0 < x := by omega
              have HNEW : Hid (∀ (jj : Nat) u, (((zs.drop j).take x).map bv)[jj]? = some u → w5.cell? ((⟨w4.heap.size, 0, none⟩ : Addr).add jj) = some u) := hide (fun jj u hu => World.news_of_block (unhide HBLK) jj u (by simpa using hu))
              have hkl : ((zs.drop j).take x).length = x := by simp; omega
              have HKL := hide hkl
              have HOW := hide (unhide HR5).row
              have HSM := hide (unhide HR5).rd.small
              have hlt := (unhide HR5).lt
              have HNX : Hid (∀ g' cap' w', w'.ownsRow B 5 1 (.slice (some ⟨g', 0, none⟩) (out.length + x) cap') (out.length + x) (out.map bv ++ ((zs.drop j).take x).map bv) → w5.grownBy w' v.ownBlock → (v.ownBlock = some g' ∨ g' = w5.heap.size) →
                  Did (Infl.stored most out (Infl.bitsOf zs) p) w B rb rp g zs v most sv dv (.returned (.int .i64 0)) (w'.setCell ⟨rb, 2, none⟩ (.slice (some ⟨g', 0, none⟩) (out.length + x) cap')) ∧ w'.heap[rb]? = w5.heap[rb]?) := hide fun g' cap' w' h1 h2 h3 => by
                have hg := (unhide HR5).grow (Below.refl _ _) (ys := (zs.drop j).take x) (fun z hz => unhide HSM z (List.mem_of_mem_drop (List.mem_of_mem_take hz))) (by rw [hkl]; have := unhide HBIG; omega) (by rw [hkl]; exact h1) h2 (h3.elim Or.inl (fun e => Or.inr (by omega)))
                rw [hkl] at hg
                exact ⟨.inl ⟨_, _, _, unhide HPF, rfl, hg.1, (unhide HD5).trans hg.2⟩, h2.block rb hlt (fun e => by have := ((unhide HR5).own e.symm).1; have := (unhide HR5).lb; omega)⟩
              clear hkl hx0 hv hvc
              go_wp2_with (at_builtin; go_must (refine wpList_append_lies _ rfl (.tmp 55) (.tmp 56) 22 rfl B 5 i0 (.int .u8 0) 1 1 Tryz.underlying22 hi hz0 hz1 hz2 rfl (by decide) v out.length (out.map bv) (by rfl) (unhide HOW) ⟨w4.heap.size, 0, none⟩ x x (((zs.drop j).take x).map bv) (by rfl) (by rw [List.length_map, unhide HKL, Nat.mul_one]) (unhide HNEW) (one_cells _) hx1 (by unfold maxLen; have := unhide HBIG; omega) (by have := unhide HBIG; omega) (unhide HR5).hB w5.heap.size rfl ?_; intro g' cap' w6 hown hgrow hat hglt; have HG := hide (unhide HNX g' cap' w6 hown hgrow hat); have hbk := (unhide HG).2; have c2' : w6.cell? ⟨rb, 2, none⟩ = some v := (by rw [← c2]; exact World.cell?_of_block hbk); have f2' : w6.frozen? ⟨rb, 2, none⟩ = false := (by rw [← f2]; exact World.frozen?_of_block hbk); clear hown hgrow hat hglt hbk))
              go_step3
              go_wp2_with fail
              refine jump_ret_of ?_
              go_ret
              exact (unhide HG).1
          · have HB := hide (rbytes_end rp g q3 false zs (x : Int) w4 (unhide HR4).rd hz (by omega) (by have := unhide HJ; omega) (by have := unhide HJ; omega))
            have c2 := (unhide HR4).c2
            have f2 := (unhide HR4).fz 2
            obtain ⟨va, vc, hv, hvc⟩ := (unhide HR4).slice'
            have HE : Hid (Did (Infl.stored most out (Infl.bitsOf zs) p) w B rb rp g zs v most sv dv (.returned (.int .i64 ((10 : Nat) : Int))) (w4.drew.setCell ⟨rb, 2, none⟩ (.slice va out.length vc))) := hide (Did.no (v1 := v) 10 ((unhide HP3 _).2 (bytes_bad x out _ q3 (by rw [bitsOf_m]; omega) (by rw [bitsOf_m]; have := unhide HJ; omega))) (by decide) (by decide) (Chg.same ((unhide HD4).drewN 1) _))
            rw [hv] at c2
            clear hend hv
            generalize out.length = ol at c2 HE hvc
            go_wp2_with fail
            refine (unhide HB).mono ?_
            rintro e w5 ⟨rfl, rfl⟩
            have c2' : w4.drew.cell? ⟨rb, 2, none⟩ = some (.slice va ol vc) := c2
            have f2' : w4.drew.frozen? ⟨rb, 2, none⟩ = false := f2
            have HVC := hide hvc
            clear hvc
            go_wp2_with (at_builtin; go_must (refine wpList_append_zero rfl (.tmp 55) (.tmp 56) rfl va none ol vc 0 (unhide HVC) (by rfl) (by rfl) ?_))
            go_step3
            go_wp2_with fail
            refine jump_ret_of ?_
            go_ret
            exact unhide HE
      · have t1 : ((y : Int) == ((65535 - x : Nat) : Int)) = false := by simp only [beq_eq_false_iff_ne, ne_eq]; omega
        have HE : Hid (Did (Infl.stored most out (Infl.bitsOf zs) p) w B rb rp g zs v most sv dv (.returned (.int .i64 ((11 : Nat) : Int))) w3) := hide (Did.no 11 ((unhide HP2 _).2 (by rw [if_pos hxy]; rfl)) (by decide) (by decide) (unhide HD3))
        clear hxy
        go_wp2_with fail
        go_step3
        refine ⟨rfl, ?_⟩
        go_wp2_with fail
        rw [Exit.noGoto_ret]
        go_ret
        exact unhide HE
    · have HE : Hid (Did (Infl.stored most out (Infl.bitsOf zs) p) w B rb rp g zs v most sv dv (.returned (.int .i64 ((10 : Nat) : Int))) w3) := hide (Did.no 10 ((unhide HP _).2 (by rw [bind_of (unhide HG2), bind_bad g3])) (by decide) (by decide) ((unhide HD2).trans d3))
      clear r3 d3 g3
      go_wp2_with fail
      go_step3
      refine ⟨rfl, ?_⟩
      go_wp2_with fail
      rw [Exit.noGoto_ret]
      go_ret
      exact unhide HE
  · have HE : Hid (Did (Infl.stored most out (Infl.bitsOf zs) p) w B rb rp g zs v most sv dv (.returned (.int .i64 ((10 : Nat) : Int))) w2) := hide (Did.no 10 ((unhide HP _).2 (bind_bad g2)) (by decide) (by decide) ((unhide HD1).trans d2))
    clear r2 d2 g2
    go_wp2_with fail
    go_step3
    refine ⟨rfl, ?_⟩
    go_wp2_with fail
    rw [Exit.noGoto_ret]
    go_ret
    exact unhide HE

end
end Go.Proofs.YtabeanealkopbaaGreat
end

section
namespace Go.Proofs.YtabeanealkopbaaGreat
open Go.RowKit Mth Infl
set_option maxRecDepth 100000
set_option linter.unusedVariables false

section
variable {l1 l2 : List Nat} {most : Nat} {oi : List Nat} {I : In} {p q s : Nat}

theorem toks_bad {b : Nat} (h : Infl.word gg l1 I p = .bad b) : Infl.toks gg l1 l2 most 1 oi I p = .bad b := by
  rw [Infl.toks, bind_bad]
  unfold Infl.tok
  exact bind_bad h

theorem toks_end (h : Infl.word gg l1 I p = .ok 256 q) : Infl.toks gg l1 l2 most 1 oi I p = .ok oi q := by
  rw [Infl.toks, bind_of (x := none) (o := q)]
  · rfl
  · unfold Infl.tok
    rw [bind_of h, if_pos rfl]
    rfl

theorem toks_full (h : Infl.word gg l1 I p = .ok s q) (hs : s < 256) (hm : most < oi.length + 1) : Infl.toks gg l1 l2 most 1 oi I p = .bad 3 := by
  rw [Infl.toks, bind_bad]
  unfold Infl.tok
  rw [bind_of h, if_neg (by omega), if_pos hs, if_pos (by omega)]
  rfl

theorem toks_byte (h : Infl.word gg l1 I p = .ok s q) (hs : s < 256) (hm : ¬ most < oi.length + 1) (f : Nat) : Infl.toks gg l1 l2 most (f + 1) oi I p = Infl.toks gg l1 l2 most f (oi ++ [s]) I q := by
  rw [Infl.toks, bind_of (x := some (oi ++ [s])) (o := q)]
  unfold Infl.tok
  rw [bind_of h, if_neg (by omega), if_pos hs, if_neg (by omega)]
  rfl

theorem bind_more {α β : Type} {r : Rd α} {k : α → Rd β} {I : In} {p : Nat} (h : r I p = .more) : r.bind k I p = .more := by unfold Rd.bind; rw [h]

theorem tok_pc (h : Infl.word gg l1 I p = .ok s q) (hs : 256 < s) : Infl.tok gg l1 l2 most oi I p = match pc l2 most oi s I q with
    | .ok o q' => .ok (some o) q'
    | .bad e => .bad e
    | .more => .more := by
  unfold Infl.tok pc
  rw [bind_of h, if_neg (by omega), if_neg (by omega)]
  by_cases h285 : 285 < s
  · rw [if_pos h285, if_pos h285]; rfl
  · rw [if_neg h285, if_neg h285]
    cases hg : Infl.get (Infl.lenOf s).2 I q with
    | bad e => rw [bind_bad hg, bind_bad hg]
    | more => rw [bind_more hg, bind_more hg]
    | ok x q1 =>
      rw [bind_of hg, bind_of hg]
      cases hw : Infl.word gg l2 I q1 with
      | bad e => rw [bind_bad hw, bind_bad hw]
      | more => rw [bind_more hw, bind_more hw]
      | ok d q2 =>
        rw [bind_of hw, bind_of hw]
        by_cases h29 : 29 < d
        · rw [if_pos h29, if_pos h29]; rfl
        · rw [if_neg h29, if_neg h29]
          cases hd : Infl.get (Infl.distOf d).2 I q2 with
          | bad e => rw [bind_bad hd, bind_bad hd]
          | more => rw [bind_more hd, bind_more hd]
          | ok y q3 =>
            rw [bind_of hd, bind_of hd]
            split
            · rfl
            · split <;> rfl

theorem toks_no {b : Nat} (h : Infl.word gg l1 I p = .ok s q) (hs : 256 < s) (hp : pc l2 most oi s I q = .bad b) : Infl.toks gg l1 l2 most 1 oi I p = .bad b := by
  rw [Infl.toks, bind_bad]
  rw [tok_pc h hs, hp]

theorem toks_piece {o : List Nat} {q' : Nat} (h : Infl.word gg l1 I p = .ok s q) (hs : 256 < s) (hp : pc l2 most oi s I q = .ok o q') (f : Nat) : Infl.toks gg l1 l2 most (f + 1) oi I p = Infl.toks gg l1 l2 most f o I q' := by
  rw [Infl.toks, bind_of (x := some o) (o := q')]
  rw [tok_pc h hs, hp]
end

theorem loc_pc (l2 : List Nat) (most : Nat) (oi : List Nat) (s : Nat) : Infl.Loc (pc l2 most oi s) :=
  Infl.Loc.ite (.fail _) ((Infl.Loc.get _).bind fun x => (Infl.Loc.word gg gg_gl l2).bind fun d => .ite (.fail _) ((Infl.Loc.get _).bind fun y => .ite (.fail _) (.ite (.fail _) (.pure _))))

theorem pc_le {l2 oi o zs : List Nat} {most s p q : Nat} (h : pc l2 most oi s (Infl.bitsOf zs) p = .ok o q) (hp : p ≤ 8 * zs.length) : p ≤ q := ((loc_pc l2 most oi s).le _ _ _ _ hp h).1

/-- Within tokens: what has come out so far, and that the rest is told by what is left. -/
structure TkAt (w ws : World) (B rb rp g : Nat) (zs : List Nat) (p q : Nat) (v vi : Value) (out oi : List Nat) (most : Nat) (sv dv : Value) (l1 l2 : List Nat) (cs cd : Nat) : Prop where
  rat : RAt ws B rb rp g zs q vi oi most sv dv
  chg : Chg rb rp v w vi ws
  on : ∃ n, ∀ f, Infl.toks gg l1 l2 most (f + n) out (Infl.bitsOf zs) p = Infl.toks gg l1 l2 most f oi (Infl.bitsOf zs) q
  c1 : COk l1 ws B cs vi
  c2 : COk l2 ws B cd vi

section
variable {w ws w1 : World} {B rb rp g : Nat} {zs : List Nat} {p q q' : Nat} {v vi v' : Value} {out oi o : List Nat} {most : Nat} {sv dv : Value} {l1 l2 : List Nat} {cs cd : Nat}

theorem TkAt.next (h : TkAt w ws B rb rp g zs p q v vi out oi most sv dv l1 l2 cs cd) (hr : RAt w1 B rb rp g zs q' v' o most sv dv) (hc : Chg rb rp vi ws v' w1) (hs : ∀ f, Infl.toks gg l1 l2 most (f + 1) oi (Infl.bitsOf zs) q = Infl.toks gg l1 l2 most f o (Infl.bitsOf zs) q') :
    TkAt w w1 B rb rp g zs p q' v v' out o most sv dv l1 l2 cs cd := by
  refine ⟨hr, h.chg.trans hc, ?_, h.c1.chg hc hr.lb hr.lp, h.c2.chg hc hr.lb hr.lp⟩
  obtain ⟨n, hn⟩ := h.on
  exact ⟨n + 1, fun f => by rw [show f + (n + 1) = (f + 1) + n from by omega, hn, hs]⟩

theorem TkAt.no (h : TkAt w ws B rb rp g zs p q v vi out oi most sv dv l1 l2 cs cd) {b : Nat} {v1 : Value} (h0 : b ≠ 0) (h1 : b < 100) (hc : Chg rb rp vi ws v1 w1) (hs : Infl.toks gg l1 l2 most 1 oi (Infl.bitsOf zs) q = .bad b) :
    ∃ F, Did (Infl.toks gg l1 l2 most F out (Infl.bitsOf zs) p) w B rb rp g zs v most sv dv (.returned (.int .i64 (b : Int))) w1 := by
  obtain ⟨n, hn⟩ := h.on
  exact ⟨1 + n, .inr ⟨b, v1, by rw [hn, hs], h0, h1, rfl, h.chg.trans hc⟩⟩

theorem TkAt.stop (h : TkAt w ws B rb rp g zs p q v vi out oi most sv dv l1 l2 cs cd) (hr : RAt w1 B rb rp g zs q' vi oi most sv dv) (hc : Chg rb rp vi ws vi w1) (hs : Infl.toks gg l1 l2 most 1 oi (Infl.bitsOf zs) q = .ok oi q') :
    ∃ F, Did (Infl.toks gg l1 l2 most F out (Infl.bitsOf zs) p) w B rb rp g zs v most sv dv (.returned (.int .i64 0)) w1 := by
  obtain ⟨n, hn⟩ := h.on
  exact ⟨1 + n, .inl ⟨vi, oi, q', by rw [hn, hs], rfl, hr, h.chg.trans hc⟩⟩
end

section
variable {rb rp : Nat} {v : Value} {w : World} {B g p q most : Nat} {zs out : List Nat} {sv dv : Value}

theorem conv_byte (x : Nat) (hx : x < 256) (w : World) : (convert 3 5 (.int .i64 (x : Int))).run Tryz.prog w = .ok (.int .u8 (x : Int)) w := by
  have h : IntKind.u8.wrap (x : Int) = (x : Int) := IntWalk.u8_in _ (by omega)
  go_simp

set_option maxHeartbeats 2000000 in
theorem tokens_ok {l1 l2 : List Nat} {cs cd : Nat} (h : RAt w B rb rp g zs p v out most sv dv) (hz : zs.length ≤ 140737488355328) (hm : most ≤ 268435456) (h1 : COk l1 w B cs v) (hl1 : l1.length ≤ 288) (h2 : COk l2 w B cd v) (hl2 : l2.length ≤ 32) :
    Calls Tryz.prog 105 #[.pointer (some ⟨rb, 0, none⟩), .pointer (some ⟨cs, 0, none⟩), .pointer (some ⟨cd, 0, none⟩)] w fun e w' => ∃ F, Did (Infl.toks gg l1 l2 most F out (Infl.bitsOf zs) p) w B rb rp g zs v most sv dv e w' := by
  have HST : Hid (TkAt w w B rb rp g zs p p v v out out most sv dv l1 l2 cs cd) := hide ⟨h, Chg.refl _ _ _ _, ⟨0, fun f => rfl⟩, h1, h2⟩
  have hple := h.rd.le
  clear h h1 h2
  go_enter Tryz.func105, Tryz.ntmps105
  go_wp2_with fail
  go_step3
  go_wp2_with fail
  go_step3
  go_wp2_with fail
  go_loopg [] (8 * zs.length + 1 - p) (fun gk ws => ∃ (q : Nat) (vi : Value) (oi : List Nat), gk = 8 * zs.length + 1 - q ∧ q ≤ 8 * zs.length ∧ Hid (TkAt w ws B rb rp g zs p q v vi out oi most sv dv l1 l2 cs cd))
  case atStart => exact ⟨p, v, out, rfl, hple, HST⟩
  case round =>
    obtain ⟨q, vi, oi, rfl, hq, hat⟩ := hrel
    clear HST
    have c0 := (unhide hat).rat.c0
    have HW := hide (rword (unhide hat).rat hz (unhide hat).c1)
    go_wp2_with fail
    refine (unhide HW).mono ?_
    rintro e w1 ⟨s, q1, b, rfl, r1, d1, g1⟩
    clear HW c0
    rcases g1 with ⟨rfl, g1, gs, gq, gq2⟩ | ⟨gb, gb2, g1⟩
    · have HG := hide g1
      have HR1 := hide r1
      have HD1 := hide d1
      have HC2 := hide ((unhide hat).c2.chg d1 r1.lb r1.lp)
      clear g1 r1 d1
      by_cases e256 : s = 256
      · subst e256
        have HE := hide ((unhide hat).stop (unhide HR1) (unhide HD1) (toks_end (unhide HG)))
        clear hat
        go_wp2_with fail
        rw [Exit.noGoto_ret]
        go_ret
        exact unhide HE
      · have t1 : ¬ (s : Int) = 256 := by omega
        have t1b : ((s : Int) == 256) = false := by simp; omega
        by_cases l256 : s < 256
        · have t2 : (s : Int) < 256 := by omega
          have hcv := conv_byte s l256
          by_cases hfull : most < oi.length + 1
          · have HS := hide (single_no s l256 (unhide HR1) hm hfull)
            have HE : Hid (∀ w2, Chg rb rp vi w1 vi w2 → _) := hide fun w2 hc => (unhide hat).no (b := 3) (by decide) (by decide) ((unhide HD1).trans hc) (toks_full (unhide HG) l256 hfull)
            clear hat hfull
            go_wp2_with fail
            refine (unhide HS).mono ?_
            rintro e w2 ⟨rfl, hc⟩
            have HE2 := hide (unhide HE w2 hc)
            clear hc HE
            go_wp2_with fail
            rw [Exit.noGoto_ret]
            go_ret
            exact unhide HE2
          · have HS := hide (single_yes s l256 (unhide HR1) hm hfull)
            have HN : Hid (∀ w2 v2, RAt w2 B rb rp g zs q1 v2 (oi ++ [s]) most sv dv → Chg rb rp vi w1 v2 w2 → TkAt w w2 B rb rp g zs p q1 v v2 out (oi ++ [s]) most sv dv l1 l2 cs cd) := hide fun w2 v2 hr hc => (unhide hat).next hr ((unhide HD1).trans hc) (toks_byte (unhide HG) l256 hfull)
            clear hat hfull
            go_wp2_with fail
            refine (unhide HS).mono ?_
            rintro e w2 ⟨rfl, v2, hr, hc⟩
            have HN2 := hide (unhide HN w2 v2 hr hc)
            clear hr hc HN
            go_wp2_with fail
            go_roundg (8 * zs.length + 1 - q1)
            case measure => omega
            case rel => exact ⟨q1, v2, _, rfl, gq2, HN2⟩
        · have t2 : ¬ (s : Int) < 256 := by omega
          have HP := hide (piece_ok s (unhide HR1) hz hm (by omega) (unhide HC2) hl2)
          have hs2 : 256 < s := by omega
          go_wp2_with fail
          refine (unhide HP).mono ?_
          rintro e w2 hd
          rcases hd with ⟨v2, o2, q2, hp, rfl, hr, hc⟩ | ⟨b, v2, hp, hb0, hb1, rfl, hc⟩
          · have HN2 := hide ((unhide hat).next hr ((unhide HD1).trans hc) (toks_piece (unhide HG) hs2 hp))
            have hq2 := hr.rd.le
            have hlt : q1 ≤ q2 := pc_le hp gq2
            clear hr hc hat hp
            go_wp2_with fail
            go_roundg (8 * zs.length + 1 - q2)
            case measure => omega
            case rel => exact ⟨q2, v2, _, rfl, hq2, HN2⟩
          · have HE := hide ((unhide hat).no hb0 hb1 ((unhide HD1).trans hc) (toks_no (unhide HG) hs2 hp))
            have hb2 : ¬ (b : Int) = 0 := by omega
            have hb3 : ((b : Int) == 0) = false := by simp; omega
            clear hc hat hp hb0 hb1
            go_wp2_with fail
            rw [Exit.noGoto_ret]
            go_ret
            exact unhide HE
    · have HE := hide ((unhide hat).no gb gb2 d1 (toks_bad g1))
      have hb2 : ¬ (b : Int) = 0 := by omega
      have hb3 : ((b : Int) == 0) = false := by simp; omega
      clear hat r1 d1 g1 gb gb2
      go_wp2_with fail
      rw [Exit.noGoto_ret]
      go_ret
      exact unhide HE

end
end Go.Proofs.YtabeanealkopbaaGreat
end

section
namespace Go.Proofs.YtabeanealkopbaaGreat
open Go.RowKit Infl
set_option maxRecDepth 100000
set_option linter.unusedVariables false

/-- the i-th length -/
def fx (i : Nat) : Nat := if 144 ≤ i ∧ i < 256 then 9 else if 256 ≤ i ∧ i < 280 then 7 else 8

set_option maxHeartbeats 1000000 in
theorem order_ok (w : World) : Calls Tryz.prog 144 #[] w fun e w' => e = .returned (.slice (some ⟨w.heap.size, 0, none⟩) 19 19) ∧ w' = w.alloc (.cells (order.map (fun z : Nat => iv (z : Int))).toArray 3) := by
  go_enter Tryz.func144, Tryz.ntmps144
  go_wp2_with fail
  go_ret
  exact ⟨rfl, rfl⟩

set_option maxHeartbeats 1000000 in
theorem rorder_ok (w : World) : Calls Tryz.prog 45 #[] w fun e w' => e = .returned (.slice (some ⟨w.heap.size, 0, none⟩) 19 19) ∧ w' = w.alloc (.cells (order.map (fun z : Nat => iv (z : Int))).toArray 3) := by
  go_enter Tryz.func45, Tryz.ntmps45
  go_wp2_with fail
  go_ret
  exact ⟨rfl, rfl⟩

set_option maxHeartbeats 1000000 in
theorem fixed_ok (w : World) : Calls Tryz.prog 27 #[] w fun e w' => e = .returned (.slice (some ⟨w.heap.size, 0, none⟩) 288 288) ∧ IntsAt w' .i64 3 w.heap.size 288 fx ∧ Below w.heap.size w w' := by
  have hm : ∀ w, (Instr.makeSlice 45 (.int .i64 288) (.int .i64 288)).run Tryz.prog w = .ok (.slice (some ⟨w.heap.size, 0, none⟩) 288 288) (w.alloc (.cells (icells .i64 288 (fun _ => 0)) 3)) := fun w => ints_made w 288 (by decide)
  go_enter Tryz.func27, Tryz.ntmps27
  go_wp2_with fail
  go_loopg [6] 288 (fun gk c ws => ∃ i, gk = 288 - i ∧ i ≤ 288 ∧ c = .int .i64 (i : Int) ∧ IntsAt ws .i64 3 w.heap.size 288 (fun j => if j < i then fx j else 0) ∧ Below w.heap.size w ws)
  case atStart => exact ⟨0, by omega, by omega, rfl, by simp only [Nat.not_lt_zero, if_false]; exact heap_alloc_new _ _, (Below.refl _ _).alloc (Nat.le_refl _) _⟩
  case round =>
    obtain ⟨i, rfl, hil, rfl, hat, hbel⟩ := hrel
    clear hm
    have HA := hide hat
    have HB := hide hbel
    by_cases hlt : i < 288
    · have hii : (i : Int) < 288 := by omega
      have k2 := hat.free i
      have k1 := hat.cell i hlt
      simp only [Nat.lt_irrefl, if_false] at k1
      have HN : Hid (∀ y, fx i = y → IntsAt (wr.setCell ⟨w.heap.size, i, none⟩ (.int .i64 (y : Int))) .i64 3 w.heap.size 288 (fun j => if j < i + 1 then fx j else 0) ∧ Below w.heap.size w (wr.setCell ⟨w.heap.size, i, none⟩ (.int .i64 (y : Int)))) := hide (fun y hy => ⟨((unhide HA).set i y).congr (fun j hj => by
        unfold upd
        by_cases e : j = i
        · subst e; rw [if_pos rfl, if_pos (by omega), hy]
        · rw [if_neg e]
          show (if j < i then fx j else 0) = _
          by_cases e2 : j < i
          · rw [if_pos e2, if_pos (by omega)]
          · rw [if_neg e2, if_neg (by omega)]), (unhide HB).setCell (Nat.le_refl _) _⟩)
      clear hat hbel HA HB
      by_cases a1 : i < 144
      · have b1 : (i : Int) < 144 := by omega
        go_wp2_with fail
        go_roundg (288 - (i + 1))
        case measure => omega
        case rel => exact ⟨i + 1, rfl, by omega, by go_num, unhide HN 8 (by unfold fx; rw [if_neg (by omega), if_neg (by omega)])⟩
      · have b1 : ¬ (i : Int) < 144 := by omega
        by_cases a2 : i < 256
        · have b2 : (i : Int) < 256 := by omega
          go_wp2_with fail
          go_roundg (288 - (i + 1))
          case measure => omega
          case rel => exact ⟨i + 1, rfl, by omega, by go_num, unhide HN 9 (by unfold fx; rw [if_pos (by omega)])⟩
        · have b2 : ¬ (i : Int) < 256 := by omega
          by_cases a3 : i < 280
          · have b3 : (i : Int) < 280 := by omega
            go_wp2_with fail
            go_roundg (288 - (i + 1))
            case measure => omega
            case rel => exact ⟨i + 1, rfl, by omega, by go_num, unhide HN 7 (by unfold fx; rw [if_neg (by omega), if_pos (by omega)])⟩
          · have b3 : ¬ (i : Int) < 280 := by omega
            go_wp2_with fail
            go_roundg (288 - (i + 1))
            case measure => omega
            case rel => exact ⟨i + 1, rfl, by omega, by go_num, unhide HN 8 (by unfold fx; rw [if_neg (by omega), if_neg (by omega)])⟩
    · obtain rfl : i = 288 := by omega
      clear hat hbel
      go_wp2_with fail
      go_ret
      exact ⟨rfl, (unhide HA).congr (fun j hj => by show (if j < 288 then fx j else 0) = _; rw [if_pos hj]), unhide HB⟩


set_option maxRecDepth 100000 in
set_option maxHeartbeats 2000000 in
theorem rfixed_ok (w : World) : Calls Tryz.prog 38 #[] w fun e w' => ∃ lv, e = .returned lv ∧ w'.ownsRow w.heap.size 3 1 lv 288 ((List.range 288).map fun i => iv (fx i : Int)) ∧ Below w.heap.size w w' := by
  obtain ⟨i0, hi, hz0, hz1, hz2⟩ := info_parts info3'
  go_enter Tryz.func38, Tryz.ntmps38
  go_wp2_with fail
  go_loopg [1, 2] 288 (fun gk o c ws => ∃ i, gk = 288 - i ∧ i ≤ 288 ∧ c = .int .i64 (i : Int) ∧ ws.ownsRow w.heap.size 3 1 o i ((List.range i).map fun i => iv (fx i : Int)) ∧ Below w.heap.size w ws)
  case atStart => exact ⟨0, by omega, by omega, rfl, World.ownsRow_nil _ _ _ _, Below.refl _ _⟩
  case round =>
    obtain ⟨i, rfl, hil, rfl, hown, hbel⟩ := hrel
    have HO := hide hown
    have HB := hide hbel
    by_cases hlt : i < 288
    · have hii : (i : Int) < 288 := by omega
      have hsz := hbel.size
      clear hown hbel
      by_cases a1 : i < 144
      · have HFX : Hid (fx i = 8) := hide (by unfold fx; rw [if_neg (by omega), if_neg (by omega)])
        have b1 : ¬ (144 : Int) ≤ (i : Int) := by omega
        have b1d : decide ((144 : Int) ≤ (i : Int)) = false := by simp; omega
        have b3 : ¬ (256 : Int) ≤ (i : Int) := by omega
        have b3d : decide ((256 : Int) ≤ (i : Int)) = false := by simp; omega
        have HN : Hid (∀ (j : Nat) u, [iv 8][j]? = some u → (wr.alloc (.cells #[iv 8] 3)).cell? ((⟨wr.heap.size, 0, none⟩ : Addr).add j) = some u) := hide (news_one _ _)
        go_wp2_with (at_builtin; go_must (refine wpList_append_own _ rfl (.tmp 20) (.tmp 22) 45 rfl w.heap.size 3 i0 (.int .i64 0) 1 8 Tryz.underlying45 hi hz0 hz1 hz2 rfl (by decide) u1 i _ (by rfl) ((unhide HO).alloc _) ⟨wr.heap.size, 0, none⟩ 1 1 [iv 8] (by rfl) rfl (by exact unhide HN) (by intro u hu; simp at hu; subst hu; rfl) (by unfold maxLen; omega) (by omega) (by simp; omega) ?_; intro v' w1 hown' hgrow _; have HO' := hide hown'; have HG := hide hgrow; clear hown' hgrow))
        go_roundg (288 - (i + 1))
        case measure => omega
        case rel =>
          refine ⟨i + 1, rfl, by omega, by go_num, ?_, ?_⟩
          · rw [List.range_succ, List.map_append, List.map_singleton, unhide HFX]; exact unhide HO'
          · exact ((unhide HB).alloc hsz _).grown (unhide HG) (by simp; omega) (fun k e => ((unhide HO).lt k e).1)
      · by_cases a2 : i < 256
        · have HFX : Hid (fx i = 9) := hide (by unfold fx; rw [if_pos (by omega)])
          have b1 : (144 : Int) ≤ (i : Int) := by omega
          have b1d : decide ((144 : Int) ≤ (i : Int)) = true := by simp; omega
          have b2 : (i : Int) < 256 := by omega
          have b2d : decide ((i : Int) < 256) = true := by simp; omega
          have b3 : ¬ (256 : Int) ≤ (i : Int) := by omega
          have b3d : decide ((256 : Int) ≤ (i : Int)) = false := by simp; omega
          have HN : Hid (∀ (j : Nat) u, [iv 9][j]? = some u → (wr.alloc (.cells #[iv 9] 3)).cell? ((⟨wr.heap.size, 0, none⟩ : Addr).add j) = some u) := hide (news_one _ _)
          go_wp2_with (at_builtin; go_must (refine wpList_append_own _ rfl (.tmp 20) (.tmp 22) 45 rfl w.heap.size 3 i0 (.int .i64 0) 1 8 Tryz.underlying45 hi hz0 hz1 hz2 rfl (by decide) u1 i _ (by rfl) ((unhide HO).alloc _) ⟨wr.heap.size, 0, none⟩ 1 1 [iv 9] (by rfl) rfl (by exact unhide HN) (by intro u hu; simp at hu; subst hu; rfl) (by unfold maxLen; omega) (by omega) (by simp; omega) ?_; intro v' w1 hown' hgrow _; have HO' := hide hown'; have HG := hide hgrow; clear hown' hgrow))
          go_roundg (288 - (i + 1))
          case measure => omega
          case rel =>
            refine ⟨i + 1, rfl, by omega, by go_num, ?_, ?_⟩
            · rw [List.range_succ, List.map_append, List.map_singleton, unhide HFX]; exact unhide HO'
            · exact ((unhide HB).alloc hsz _).grown (unhide HG) (by simp; omega) (fun k e => ((unhide HO).lt k e).1)
        · by_cases a3 : i < 280
          · have HFX : Hid (fx i = 7) := hide (by unfold fx; rw [if_neg (by omega), if_pos (by omega)])
            have b1 : (144 : Int) ≤ (i : Int) := by omega
            have b1d : decide ((144 : Int) ≤ (i : Int)) = true := by simp; omega
            have b2 : ¬ (i : Int) < 256 := by omega
            have b2d : decide ((i : Int) < 256) = false := by simp; omega
            have b3 : (256 : Int) ≤ (i : Int) := by omega
            have b3d : decide ((256 : Int) ≤ (i : Int)) = true := by simp; omega
            have b4 : (i : Int) < 280 := by omega
            have b4d : decide ((i : Int) < 280) = true := by simp; omega
            have HN : Hid (∀ (j : Nat) u, [iv 7][j]? = some u → (wr.alloc (.cells #[iv 7] 3)).cell? ((⟨wr.heap.size, 0, none⟩ : Addr).add j) = some u) := hide (news_one _ _)
            go_wp2_with (at_builtin; go_must (refine wpList_append_own _ rfl (.tmp 20) (.tmp 22) 45 rfl w.heap.size 3 i0 (.int .i64 0) 1 8 Tryz.underlying45 hi hz0 hz1 hz2 rfl (by decide) u1 i _ (by rfl) ((unhide HO).alloc _) ⟨wr.heap.size, 0, none⟩ 1 1 [iv 7] (by rfl) rfl (by exact unhide HN) (by intro u hu; simp at hu; subst hu; rfl) (by unfold maxLen; omega) (by omega) (by simp; omega) ?_; intro v' w1 hown' hgrow _; have HO' := hide hown'; have HG := hide hgrow; clear hown' hgrow))
            go_roundg (288 - (i + 1))
            case measure => omega
            case rel =>
              refine ⟨i + 1, rfl, by omega, by go_num, ?_, ?_⟩
              · rw [List.range_succ, List.map_append, List.map_singleton, unhide HFX]; exact unhide HO'
              · exact ((unhide HB).alloc hsz _).grown (unhide HG) (by simp; omega) (fun k e => ((unhide HO).lt k e).1)
          · have HFX : Hid (fx i = 8) := hide (by unfold fx; rw [if_neg (by omega), if_neg (by omega)])
            have b1 : (144 : Int) ≤ (i : Int) := by omega
            have b1d : decide ((144 : Int) ≤ (i : Int)) = true := by simp; omega
            have b2 : ¬ (i : Int) < 256 := by omega
            have b2d : decide ((i : Int) < 256) = false := by simp; omega
            have b3 : (256 : Int) ≤ (i : Int) := by omega
            have b3d : decide ((256 : Int) ≤ (i : Int)) = true := by simp; omega
            have b4 : ¬ (i : Int) < 280 := by omega
            have b4d : decide ((i : Int) < 280) = false := by simp; omega
            have HN : Hid (∀ (j : Nat) u, [iv 8][j]? = some u → (wr.alloc (.cells #[iv 8] 3)).cell? ((⟨wr.heap.size, 0, none⟩ : Addr).add j) = some u) := hide (news_one _ _)
            go_wp2_with (at_builtin; go_must (refine wpList_append_own _ rfl (.tmp 20) (.tmp 22) 45 rfl w.heap.size 3 i0 (.int .i64 0) 1 8 Tryz.underlying45 hi hz0 hz1 hz2 rfl (by decide) u1 i _ (by rfl) ((unhide HO).alloc _) ⟨wr.heap.size, 0, none⟩ 1 1 [iv 8] (by rfl) rfl (by exact unhide HN) (by intro u hu; simp at hu; subst hu; rfl) (by unfold maxLen; omega) (by omega) (by simp; omega) ?_; intro v' w1 hown' hgrow _; have HO' := hide hown'; have HG := hide hgrow; clear hown' hgrow))
            go_roundg (288 - (i + 1))
            case measure => omega
            case rel =>
              refine ⟨i + 1, rfl, by omega, by go_num, ?_, ?_⟩
              · rw [List.range_succ, List.map_append, List.map_singleton, unhide HFX]; exact unhide HO'
              · exact ((unhide HB).alloc hsz _).grown (unhide HG) (by simp; omega) (fun k e => ((unhide HO).lt k e).1)
    · obtain rfl : i = 288 := by omega
      clear hown hbel
      go_wp2_with fail
      go_ret
      exact ⟨_, rfl, unhide HO, unhide HB⟩


set_option maxHeartbeats 1000000 in
theorem fives_ok (w : World) : Calls Tryz.prog 104 #[] w fun e w' => e = .returned (.slice (some ⟨w.heap.size, 0, none⟩) 32 32) ∧ IntsAt w' .i64 3 w.heap.size 32 (fun _ => 5) ∧ Below w.heap.size w w' := by
  have hm : ∀ w, (Instr.makeSlice 45 (.int .i64 32) (.int .i64 32)).run Tryz.prog w = .ok (.slice (some ⟨w.heap.size, 0, none⟩) 32 32) (w.alloc (.cells (icells .i64 32 (fun _ => 0)) 3)) := fun w => ints_made w 32 (by decide)
  go_enter Tryz.func104, Tryz.ntmps104
  go_wp2_with fail
  go_loopg [6] 32 (fun gk c ws => ∃ i, gk = 32 - i ∧ i ≤ 32 ∧ c = .int .i64 (i : Int) ∧ IntsAt ws .i64 3 w.heap.size 32 (fun j => if j < i then 5 else 0) ∧ Below w.heap.size w ws)
  case atStart => exact ⟨0, by omega, by omega, rfl, by simp only [Nat.not_lt_zero, if_false]; exact heap_alloc_new _ _, (Below.refl _ _).alloc (Nat.le_refl _) _⟩
  case round =>
    obtain ⟨i, rfl, hil, rfl, hat, hbel⟩ := hrel
    clear hm
    have HA := hide hat
    have HB := hide hbel
    by_cases hlt : i < 32
    · have hii : (i : Int) < 32 := by omega
      have k2 := hat.free i
      have k1 := hat.cell i hlt
      simp only [Nat.lt_irrefl, if_false] at k1
      have HN : Hid (IntsAt (wr.setCell ⟨w.heap.size, i, none⟩ (.int .i64 ((5 : Nat) : Int))) .i64 3 w.heap.size 32 (fun j => if j < i + 1 then 5 else 0) ∧ Below w.heap.size w (wr.setCell ⟨w.heap.size, i, none⟩ (.int .i64 ((5 : Nat) : Int)))) := hide (⟨((unhide HA).set i 5).congr (fun j hj => by
        unfold upd
        by_cases e : j = i
        · subst e; rw [if_pos rfl, if_pos (by omega)]
        · rw [if_neg e]
          show (if j < i then 5 else 0) = _
          by_cases e2 : j < i
          · rw [if_pos e2, if_pos (by omega)]
          · rw [if_neg e2, if_neg (by omega)]), (unhide HB).setCell (Nat.le_refl _) _⟩)
      clear hat hbel HA HB
      go_wp2_with fail
      go_roundg (32 - (i + 1))
      case measure => omega
      case rel => exact ⟨i + 1, rfl, by omega, by go_num, unhide HN⟩
    · obtain rfl : i = 32 := by omega
      clear hat hbel
      go_wp2_with fail
      go_ret
      exact ⟨rfl, (unhide HA).congr (fun j hj => by show (if j < 32 then 5 else 0) = _; rw [if_pos hj]), unhide HB⟩

end Go.Proofs.YtabeanealkopbaaGreat
end

section
namespace Go.Proofs.YtabeanealkopbaaGreat
open Go.RowKit Mth Infl
set_option maxRecDepth 100000
set_option linter.unusedVariables false

open Classical in
/-- the error of a code's lengths -/
noncomputable def ce (ls : List Nat) (most : Nat) (loose : Bool) : Nat := if okSum ls loose then 0 else 13

theorem ce_cases (ls : List Nat) (most : Nat) (loose : Bool) : (ce ls most loose = 0 ∧ okSum ls loose) ∨ (ce ls most loose = 13 ∧ ¬ okSum ls loose) := by
  unfold ce
  by_cases h : okSum ls loose
  · rw [if_pos h]; exact .inl ⟨rfl, h⟩
  · rw [if_neg h]; exact .inr ⟨rfl, h⟩

/-- lengths in memory -/
def ReadsN (w : World) (v : Value) (ls : List Nat) : Prop := ReadsI w v (ls.map fun l : Nat => (l : Int))

theorem nat_map (ls : List Nat) : nat (ls.map fun l : Nat => (l : Int)) = ls := by
  unfold nat
  rw [List.map_map]
  conv => rhs; rw [← List.map_id ls]
  exact List.map_congr_left fun a _ => by simp

theorem ReadsN.stays {w w1 : World} {v : Value} {ls : List Nat} (h : ReadsN w v ls) (hb : Below w.heap.size w w1) : ReadsN w1 v ls := ReadsI.stays hb h

theorem rnew (ls : List Nat) (M : Nat) (loose : Bool) (v : Value) (w : World) (hr : ReadsN w v ls) (hM : 1 ≤ M ∧ M ≤ 20) (hn : 1 ≤ ls.length ∧ ls.length ≤ 65536) (hl : ∀ l ∈ ls, l ≤ M) :
    Calls Tryz.prog 60 #[v, .int .i64 (M : Int), .bool loose] w fun e w' => Below w.heap.size w w' ∧ ((ce ls M loose = 13 ∧ e = .returned (.tuple #[.pointer none, .int .i64 13])) ∨ (ce ls M loose = 0 ∧ ∃ cp, e = .returned (.tuple #[.pointer (some ⟨cp, 0, none⟩), .int .i64 0]) ∧ Code ls w' cp w.heap.size w'.heap.size)) := by
  refine (pnew_ok v _ (M : Int) loose w hr).mono ?_
  rintro e w' ⟨_, h2, h3, h4⟩
  have hok : okArgs (ls.map fun l : Nat => (l : Int)).length (M : Int) ∧ ∀ z ∈ (ls.map fun l : Nat => (l : Int)), okLen (M : Int) z := by
    refine ⟨⟨by omega, by omega, by simp; omega, by simp; omega⟩, fun z hz => ?_⟩
    rw [List.mem_map] at hz
    obtain ⟨l, hl1, rfl⟩ := hz
    have := hl l hl1
    exact ⟨by omega, by omega⟩
  rw [nat_map] at h2 h3
  refine ⟨h4, ?_⟩
  rcases ce_cases ls M loose with ⟨c1, c2⟩ | ⟨c1, c2⟩
  · exact .inr ⟨c1, h3 hok c2⟩
  · exact .inl ⟨c1, h2 hok c2⟩

/-- two codes that are new -/
def NewIs (l1 l2 : List Nat) (w : World) (e : Ending) (w' : World) : Prop :=
  Below w.heap.size w w' ∧ ((∃ cs cd, ce l1 15 true = 0 ∧ ce l2 15 true = 0 ∧ e = .returned (.tuple #[.pointer (some ⟨cs, 0, none⟩), .pointer (some ⟨cd, 0, none⟩), .int .i64 0]) ∧ (∃ lo hi, Code l1 w' cs lo hi ∧ w.heap.size ≤ lo ∧ hi ≤ w'.heap.size) ∧ (∃ lo hi, Code l2 w' cd lo hi ∧ w.heap.size ≤ lo ∧ hi ≤ w'.heap.size)) ∨
    ((ce l1 15 true = 13 ∨ ce l1 15 true = 0 ∧ ce l2 15 true = 13) ∧ e = .returned (.tuple #[.pointer none, .pointer none, .int .i64 13])))

set_option maxHeartbeats 1000000 in
theorem codesOf_ok (l1 l2 : List Nat) (v1 v2 : Value) (w : World) (h1 : ReadsN w v1 l1) (h2 : ReadsN w v2 l2) (hn1 : 1 ≤ l1.length ∧ l1.length ≤ 65536) (hn2 : 1 ≤ l2.length ∧ l2.length ≤ 65536) (hl1 : ∀ l ∈ l1, l ≤ 15) (hl2 : ∀ l ∈ l2, l ≤ 15) :
    Calls Tryz.prog 103 #[v1, v2] w fun e w' => NewIs l1 l2 w e w' := by
  have HN1 := hide (rnew l1 15 true v1 w h1 (by decide) hn1 hl1)
  have HN2 : Hid (∀ w1, Below w.heap.size w w1 → _) := hide fun w1 hb => rnew l2 15 true v2 w1 (h2.stays hb) (by decide) hn2 hl2
  clear h1 h2 hn1 hn2 hl1 hl2
  go_enter Tryz.func103, Tryz.ntmps103
  go_wp2_with fail
  refine wp_scope_on 0 rfl ?_
  go_wp2_with fail
  refine (unhide HN1).mono ?_
  rintro e w1 ⟨hb, ⟨hc, rfl⟩ | ⟨hc, cs, rfl, hcode⟩⟩
  · have HE : Hid (NewIs l1 l2 w (.returned (.tuple #[.pointer none, .pointer none, .int .i64 13])) w1) := hide ⟨hb, .inr ⟨.inl hc, rfl⟩⟩
    clear hb hc
    go_wp2_with fail
    go_step3
    refine ⟨rfl, ?_⟩
    go_wp2_with fail
    rw [Exit.noGoto_ret]
    go_ret3
    exact unhide HE
  · have HN := hide (unhide HN2 w1 hb)
    have HB := hide hb
    have HC := hide hc
    have HCO := hide hcode
    clear hb hc hcode HN2
    go_wp2_with fail
    refine (unhide HN).mono ?_
    rintro e w2 ⟨hb2, ⟨hc2, rfl⟩ | ⟨hc2, cd, rfl, hcode2⟩⟩
    · have HE : Hid (NewIs l1 l2 w (.returned (.tuple #[.pointer none, .pointer none, .int .i64 13])) w2) := hide ⟨(unhide HB).trans (hb2.mono (unhide HB).size), .inr ⟨.inr ⟨unhide HC, hc2⟩, rfl⟩⟩
      clear hb2 hc2
      go_wp2_with fail
      go_step3
      refine ⟨rfl, ?_⟩
      go_wp2_with fail
      rw [Exit.noGoto_ret]
      go_ret3
      exact unhide HE
    · have HE : Hid (NewIs l1 l2 w (.returned (.tuple #[.pointer (some ⟨cs, 0, none⟩), .pointer (some ⟨cd, 0, none⟩), .int .i64 0])) w2) := hide ⟨(unhide HB).trans (hb2.mono (unhide HB).size), .inl ⟨cs, cd, unhide HC, hc2, rfl, ⟨_, _, (unhide HCO).below hb2 (Nat.le_refl _), Nat.le_refl _, hb2.size⟩, ⟨_, _, hcode2, (unhide HB).size, Nat.le_refl _⟩⟩⟩
      clear hb2 hc2 hcode2
      go_wp2_with fail
      refine jump_ret_of ?_
      go_ret3
      exact unhide HE

section
variable {rb rp : Nat} {v : Value} {w w' : World} {B g p q most : Nat} {zs out : List Nat} {sv dv : Value}

theorem COk.new {ls : List Nat} {cp : Nat} (h : RAt w B rb rp g zs p v out most sv dv) (hc : ∃ lo hi, Code ls w' cp lo hi ∧ w.heap.size ≤ lo ∧ hi ≤ w'.heap.size) : COk ls w' B cp v := by
  obtain ⟨lo, hi, h1, h2, h3⟩ := hc
  exact ⟨lo, hi, h1, by have := h.hB; omega, h3, fun k e => by have := (h.own e).2; omega⟩

/-- a block apart has changed -/
theorem RAt.off {k : Nat} (h : RAt w B rb rp g zs p v out most sv dv) (h1 : k ≠ rb) (h2 : k ≠ rp) (h3 : k ≠ g) (h4 : v.ownBlock ≠ some k) (ho : Only k w w') : RAt w' B rb rp g zs p v out most sv dv :=
  ⟨by rw [ho.keep rb h.lt (fun e => h1 e.symm)]; exact h.blk, h.rd.keep (ho.keep rp h.rd.lt (fun e => h2 e.symm)) (ho.keep g (heap_lt h.rd.row) (fun e => h3 e.symm)), own_keep h.row (fun j e => ho.keep j (h.own e).2 (fun e' => h4 (by rw [← e']; exact e))), h.small, h.lb, h.lp, h.lg, h.ne, h.ng, h.ol, by have := ho.size; have := h.hB; omega⟩

theorem Chg.off {k : Nat} {v0 : Value} {w0 : World} (h : Chg rb rp v0 w0 v w) (hk : w0.heap.size ≤ k) (ho : Only k w w') : Chg rb rp v0 w0 v w' :=
  ⟨ho.os.trans h.os, ho.tape.trans h.tape, ho.output.trans h.output, by have := h.size; have := ho.size; omega, fun j h1 h2 h3 h4 => by rw [ho.keep j (by have := h.size; omega) (by omega)]; exact h.keep j h1 h2 h3 h4, h.lies⟩

theorem Chg.below' {v0 : Value} {w0 : World} (h : Chg rb rp v0 w0 v w) (hb : Below w.heap.size w w') : Chg rb rp v0 w0 v w' := h.trans (Chg.of_below rb rp v hb)
end

end Go.Proofs.YtabeanealkopbaaGreat
end

section
namespace Go.Proofs.YtabeanealkopbaaGreat
open Infl
set_option linter.unusedVariables false

theorem bind_assoc {α β γ : Type} (r : Rd α) (k : α → Rd β) (m : β → Rd γ) : (r.bind k).bind m = r.bind fun x => (k x).bind m := by
  funext I p
  unfold Rd.bind
  cases r I p <;> rfl

theorem bind_pure {α β : Type} (x : α) (k : α → Rd β) : (Rd.pure x).bind k = k x := rfl
theorem bind_fail {α β : Type} (e : Nat) (k : α → Rd β) : (Rd.fail (α := α) e).bind k = Rd.fail e := rfl

theorem bind_ite {α β : Type} (c : Prop) [Decidable c] (r s : Rd α) (k : α → Rd β) : (if c then r else s).bind k = if c then r.bind k else s.bind k := by split <;> rfl

theorem bind_okE {α β : Type} (e : Nat) (r : Rd α) (k : α → Rd β) : (okE e r).bind k = okE e (r.bind k) := by
  unfold okE
  rw [bind_ite, bind_fail]

/-- how many lengths come -/
def cnt : Rd (Nat × Nat × Nat) := (Infl.get 5).bind fun l => (Infl.get 5).bind fun d => (Infl.get 4).bind fun k =>
  if 286 < l + 257 ∨ 30 < d + 1 then Rd.fail 11 else Rd.pure (l + 257, d + 1, k + 4)

/-- the code of lengths -/
noncomputable def inn (k : Nat) : Rd (List Nat) := (threes k []).bind fun vs => okE (ce (ownOf vs) 7 false) (Rd.pure (ownOf vs))

/-- both codes' lengths -/
noncomputable def cod : Rd (List Nat × List Nat) := cnt.bind fun c => (inn c.2.2).bind fun own => (lens gg own (c.1 + c.2.1) (c.1 + c.2.1) []).bind fun all =>
  if all.getD 256 0 = 0 then Rd.fail 11 else okE (ce (all.take c.1) 15 true) (okE (ce (all.drop c.1) 15 true) (Rd.pure (all.take c.1, all.drop c.1)))

theorem told_cod (most fuel : Nat) (out : List Nat) : told gg ce most fuel out = cod.bind fun c => toks gg c.1 c.2 most fuel out := by
  unfold told cod cnt inn
  simp only [bind_assoc, bind_ite, bind_fail, bind_pure, bind_okE]

/-- which length comes, and how many times -/
def stp (all : List Nat) (s : Nat) : Rd (Nat × Nat) :=
  if s = 16 then (Infl.get 2).bind fun x => if all = [] then Rd.fail 11 else Rd.pure (all.getD (all.length - 1) 0, 3 + x)
  else if s = 17 then (Infl.get 3).bind fun x => Rd.pure (0, 3 + x)
  else if s = 18 then (Infl.get 7).bind fun x => Rd.pure (0, 11 + x)
  else Rd.pure (s, 1)

theorem lens_stp (own : List Nat) (tot k : Nat) (all : List Nat) (h : ¬ tot ≤ all.length) : lens gg own tot (k + 1) all = (word gg own).bind fun s => (stp all s).bind fun a => if tot < all.length + a.2 then Rd.fail 11 else lens gg own tot k (all ++ List.replicate a.2 a.1) := by
  rw [lens, if_neg h]
  congr 1
  funext s
  unfold stp
  by_cases h16 : s = 16
  · simp only [if_pos h16, bind_assoc, bind_ite, bind_fail, bind_pure]
  · by_cases h17 : s = 17
    · simp only [if_neg h16, if_pos h17, bind_assoc, bind_pure]
    · by_cases h18 : s = 18
      · simp only [if_neg h16, if_neg h17, if_pos h18, bind_assoc, bind_pure]
      · simp only [if_neg h16, if_neg h17, if_neg h18, bind_pure]
        rw [if_neg (by omega)]
        rfl

theorem lens_done (own : List Nat) (tot k : Nat) (all : List Nat) (h : tot ≤ all.length) : lens gg own tot k all = Rd.pure all := by
  cases k with
  | zero => rw [lens, if_pos h]
  | succ k => rw [lens, if_pos h]

theorem order_idx : ∀ j, j < 19 → ∀ i, i < 19 → (order.idxOf j = i ↔ order.getD i 0 = j) := by decide
theorem order_lt : ∀ i, i < 19 → order.getD i 0 < 19 := by decide

/-- one length more of the code of lengths -/
theorem own_next (vs : List Nat) (x : Nat) (h : vs.length < 19) (j : Nat) (hj : j < 19) : (vs ++ [x]).getD (order.idxOf j) 0 = if j = order.getD vs.length 0 then x else vs.getD (order.idxOf j) 0 := by
  have hi := order_idx j hj vs.length h
  by_cases e : j = order.getD vs.length 0
  · rw [if_pos e, hi.2 e.symm, List.getD_eq_getElem?_getD, List.getElem?_append_right (Nat.le_refl _)]
    simp
  · rw [if_neg e]
    have hne : order.idxOf j ≠ vs.length := fun c => e (hi.1 c).symm
    rw [List.getD_eq_getElem?_getD, List.getD_eq_getElem?_getD]
    by_cases hl : order.idxOf j < vs.length
    · rw [List.getElem?_append_left hl]
    · rw [List.getElem?_eq_none (by simp; omega), List.getElem?_eq_none (by omega)]

theorem threes_next (k : Nat) (l : List Nat) (I : In) (p q x : Nat) (h : Infl.get 3 I p = .ok x q) : threes (k + 1) l I p = threes k (l ++ [x]) I q := by
  rw [threes, bind_of h]

theorem threes_bad (k : Nat) (l : List Nat) (I : In) (p e : Nat) (h : Infl.get 3 I p = .bad e) : threes (k + 1) l I p = .bad e := by
  rw [threes, bind_bad h]

theorem ownOf_length (vs : List Nat) : (ownOf vs).length = 19 := by simp [ownOf]

theorem ownOf_le (vs : List Nat) (h : ∀ v ∈ vs, v ≤ 7) : ∀ l ∈ ownOf vs, l ≤ 7 := by
  intro l hl
  unfold ownOf at hl
  rw [List.mem_map] at hl
  obtain ⟨j, _, rfl⟩ := hl
  rw [List.getD_eq_getElem?_getD]
  cases hg : vs[order.idxOf j]? with
  | none => simp
  | some a => exact h a (List.mem_of_getElem? hg)

end Go.Proofs.YtabeanealkopbaaGreat
end

section
namespace Go.Proofs.YtabeanealkopbaaGreat
open Go.RowKit Mth Infl
set_option maxRecDepth 100000
set_option linter.unusedVariables false

/-- what repeat tells -/
def RepIs (all : List Nat) (s : Nat) (w : World) (B rb rp g : Nat) (zs : List Nat) (p : Nat) (v : Value) (out : List Nat) (most : Nat) (sv dv : Value) (e : Ending) (w' : World) : Prop :=
  Chg rb rp v w v w' ∧ ((∃ a n q : Nat, e = .returned (.tuple #[.int .i64 (a : Int), .int .i64 (n : Int), .int .i64 0]) ∧ stp all s (Infl.bitsOf zs) p = .ok (a, n) q ∧ 1 ≤ n ∧ n ≤ 200 ∧ a ≤ 15 ∧ RAt w' B rb rp g zs q v out most sv dv) ∨
    (∃ b a n : Nat, b ≠ 0 ∧ b < 100 ∧ e = .returned (.tuple #[.int .i64 (a : Int), .int .i64 (n : Int), .int .i64 (b : Int)]) ∧ stp all s (Infl.bitsOf zs) p = .bad b))

section
variable {rb rp : Nat} {v : Value} {w w' : World} {B g p q most : Nat} {zs out : List Nat} {sv dv : Value}

set_option maxHeartbeats 2000000 in
theorem repeat_ok (s : Nat) (hs : s < 19) (all : List Nat) (hal : ∀ z ∈ all, z ≤ 15) (la : Option Addr) (lc : Nat) (hlen : all.length ≤ 100000) (hr : 0 < all.length → ∃ b, la = some ⟨b, 0, none⟩ ∧ (∀ j, j < all.length → w.cell? ⟨b, j, none⟩ = some (.int .i64 (all.getD j 0 : Int))) ∧ b ≠ rb ∧ b ≠ rp ∧ v.ownBlock ≠ some b)
    (h : RAt w B rb rp g zs p v out most sv dv) (hz : zs.length ≤ 140737488355328) :
    Calls Tryz.prog 154 #[.pointer (some ⟨rb, 0, none⟩), .int .i64 (s : Int), .slice la all.length lc] w fun e w' => RepIs all s w B rb rp g zs p v out most sv dv e w' := by
  have c0 := h.c0
  by_cases h16 : s = 16
  · subst h16
    have HG := hide (rget 2 h hz (by decide))
    obtain ⟨L, hL⟩ : ∃ L, L = all.length := ⟨_, rfl⟩
    rw [← hL]
    have HL := hide hL
    have HR := hide hr
    have HAL := hide hal
    rw [← hL] at hlen
    clear h hr hL hal
    go_enter Tryz.func154, Tryz.ntmps154
    go_wp2_with fail
    refine (unhide HG).mono ?_
    rintro e w1 ⟨x, q1, b, rfl, r1, d1, g1⟩
    clear HG c0
    rcases g1 with ⟨rfl, g1, gx, _⟩ | ⟨rfl, rfl, g1⟩
    · have hx : x < 4 := gx
      have HR1 := hide r1
      have HD1 := hide d1
      have HG1 := hide g1
      have hcv := conv_u64 x (by omega)
      by_cases h0 : L = 0
      · subst h0
        have HE : Hid (RepIs all 16 w B rb rp g zs p v out most sv dv (.returned (.tuple #[.int .i64 ((0 : Nat) : Int), .int .i64 ((0 : Nat) : Int), .int .i64 ((11 : Nat) : Int)])) w1) := hide ⟨d1, .inr ⟨11, 0, 0, by decide, by decide, rfl, by unfold stp; rw [if_pos rfl, bind_of g1, if_pos (List.eq_nil_of_length_eq_zero (unhide HL).symm)]; rfl⟩⟩
        clear r1 d1 g1 gx
        go_wp2_with fail
        go_ret3
        exact unhide HE
      · obtain ⟨b, hla, hcell, hb1, hb2, hb3⟩ := unhide HR (by rw [← unhide HL]; omega)
        subst hla
        have hc := hcell (L - 1) (by rw [← unhide HL]; omega)
        have hc' : w1.cell? ⟨b, L - 1, none⟩ = some (.int .i64 (all.getD (L - 1) 0 : Int)) := by
          rw [← hc]
          exact World.cell?_of_block (d1.keep b (cell_lt hc) hb1 hb2 hb3)
        have hmem : all.getD (L - 1) 0 ≤ 15 := unhide HAL _ (getD_mem all (L - 1) (by rw [← unhide HL]; omega))
        have HE : Hid (RepIs all 16 w B rb rp g zs p v out most sv dv (.returned (.tuple #[.int .i64 (all.getD (L - 1) 0 : Int), .int .i64 (3 + (x : Int)), .int .i64 0])) w1) := hide ⟨d1, .inl ⟨all.getD (L - 1) 0, 3 + x, q1, by rw [show ((3 + x : Nat) : Int) = 3 + (x : Int) from by omega], by unfold stp; rw [if_pos rfl, bind_of g1, if_neg (fun e => h0 (by rw [unhide HL, e]; rfl)), ← unhide HL]; rfl, by omega, by omega, hmem, r1⟩⟩
        obtain ⟨K, hK⟩ : ∃ K : Nat, L = K + 1 := ⟨L - 1, by omega⟩
        subst hK
        simp only [Nat.add_sub_cancel] at hc' HE hmem
        generalize all.getD K 0 = y at hc' HE hmem
        have t0 : ((K + 1 : Nat) : Int) = (K : Int) + 1 := by omega
        have t1 : ¬ ((K : Int) + 1 = 0) := by omega
        have t1b : ((K : Int) + 1 == 0) = false := by simp; omega
        clear hc hcell r1 d1 g1 gx h0 hb1 hb2 hb3
        go_wp2_with fail
        go_ret3
        exact unhide HE
    · have HE : Hid (RepIs all 16 w B rb rp g zs p v out most sv dv (.returned (.tuple #[.int .i64 ((0 : Nat) : Int), .int .i64 ((0 : Nat) : Int), .int .i64 ((10 : Nat) : Int)])) w1) := hide ⟨d1, .inr ⟨10, 0, 0, by decide, by decide, rfl, by unfold stp; rw [if_pos rfl, bind_bad g1]⟩⟩
      clear r1 d1 g1
      go_wp2_with fail
      go_ret3
      exact unhide HE
  · have t16 : ¬ (s : Int) = 16 := by omega
    have t16b : ((s : Int) == 16) = false := by simp; omega
    by_cases h17 : s = 17
    · subst h17
      have HG := hide (rget 3 h hz (by decide))
      clear h hr hal
      go_enter Tryz.func154, Tryz.ntmps154
      go_wp2_with fail
      refine (unhide HG).mono ?_
      rintro e w1 ⟨x, q1, b, rfl, r1, d1, g1⟩
      clear HG c0
      have hx : x < 8 := by
        rcases g1 with ⟨_, _, gx, _⟩ | ⟨_, rfl, _⟩
        · exact gx
        · decide
      have hcv := conv_u64 x (by omega)
      have HE : Hid (RepIs all 17 w B rb rp g zs p v out most sv dv (.returned (.tuple #[.int .i64 ((0 : Nat) : Int), .int .i64 (3 + (x : Int)), .int .i64 (b : Int)])) w1) := hide (by
        refine ⟨d1, ?_⟩
        rcases g1 with ⟨rfl, g1, _, _⟩ | ⟨rfl, rfl, g1⟩
        · exact .inl ⟨0, 3 + x, q1, by rw [show ((3 + x : Nat) : Int) = 3 + (x : Int) from by omega]; rfl, by unfold stp; rw [if_neg (by decide), if_pos rfl, bind_of g1]; rfl, by omega, by omega, by decide, r1⟩
        · exact .inr ⟨10, 0, 3, by decide, by decide, rfl, by unfold stp; rw [if_neg (by decide), if_pos rfl, bind_bad g1]⟩)
      clear r1 d1 g1
      go_wp2_with fail
      go_ret3
      exact unhide HE
    · have t17 : ¬ (s : Int) = 17 := by omega
      have t17b : ((s : Int) == 17) = false := by simp; omega
      by_cases h18 : s = 18
      · subst h18
        have HG := hide (rget 7 h hz (by decide))
        clear h hr hal
        go_enter Tryz.func154, Tryz.ntmps154
        go_wp2_with fail
        refine (unhide HG).mono ?_
        rintro e w1 ⟨x, q1, b, rfl, r1, d1, g1⟩
        clear HG c0
        have hx : x < 128 := by
          rcases g1 with ⟨_, _, gx, _⟩ | ⟨_, rfl, _⟩
          · exact gx
          · decide
        have hcv := conv_u64 x (by omega)
        have HE : Hid (RepIs all 18 w B rb rp g zs p v out most sv dv (.returned (.tuple #[.int .i64 ((0 : Nat) : Int), .int .i64 (11 + (x : Int)), .int .i64 (b : Int)])) w1) := hide (by
          refine ⟨d1, ?_⟩
          rcases g1 with ⟨rfl, g1, _, _⟩ | ⟨rfl, rfl, g1⟩
          · exact .inl ⟨0, 11 + x, q1, by rw [show ((11 + x : Nat) : Int) = 11 + (x : Int) from by omega]; rfl, by unfold stp; rw [if_neg (by decide), if_neg (by decide), if_pos rfl, bind_of g1]; rfl, by omega, by omega, by decide, r1⟩
          · exact .inr ⟨10, 0, 11, by decide, by decide, rfl, by unfold stp; rw [if_neg (by decide), if_neg (by decide), if_pos rfl, bind_bad g1]⟩)
        clear r1 d1 g1
        go_wp2_with fail
        go_ret3
        exact unhide HE
      · have t18 : ¬ (s : Int) = 18 := by omega
        have t18b : ((s : Int) == 18) = false := by simp; omega
        have HE : Hid (RepIs all s w B rb rp g zs p v out most sv dv (.returned (.tuple #[.int .i64 (s : Int), .int .i64 ((1 : Nat) : Int), .int .i64 0])) w) := hide ⟨Chg.refl _ _ _ _, .inl ⟨s, 1, p, rfl, by unfold stp; rw [if_neg h16, if_neg h17, if_neg h18]; rfl, by decide, by decide, by omega, h⟩⟩
        clear h hr hal h16 h17 h18
        go_enter Tryz.func154, Tryz.ntmps154
        go_wp2_with fail
        go_ret3
        exact unhide HE

end
end Go.Proofs.YtabeanealkopbaaGreat
end

section
namespace Go.Proofs.YtabeanealkopbaaGreat
open Go.RowKit Mth Infl
set_option maxRecDepth 100000
set_option linter.unusedVariables false

/-- what innerCode tells -/
def InnIs (k : Nat) (w : World) (B rb rp g : Nat) (zs : List Nat) (p : Nat) (v : Value) (out : List Nat) (most : Nat) (sv dv : Value) (e : Ending) (w' : World) : Prop :=
  Chg rb rp v w v w' ∧ ((∃ (cp q : Nat) (own : List Nat), e = .returned (.tuple #[.pointer (some ⟨cp, 0, none⟩), .int .i64 0]) ∧ inn k (Infl.bitsOf zs) p = .ok own q ∧ own.length = 19 ∧ RAt w' B rb rp g zs q v out most sv dv ∧ COk own w' B cp v) ∨
    (∃ b : Nat, b ≠ 0 ∧ b < 100 ∧ e = .returned (.tuple #[.pointer none, .int .i64 (b : Int)]) ∧ inn k (Infl.bitsOf zs) p = .bad b))

/-- within it: i numbers of three bits have been read -/
structure InAt2 (k : Nat) (w ws : World) (B rb rp g : Nat) (zs : List Nat) (p : Nat) (v : Value) (out : List Nat) (most : Nat) (sv dv : Value) (go gl i : Nat) (vs : List Nat) (q : Nat) : Prop where
  len : vs.length = i
  le : ∀ x ∈ vs, x ≤ 7
  on : threes k [] (Infl.bitsOf zs) p = threes (k - i) vs (Infl.bitsOf zs) q
  rat : RAt ws B rb rp g zs q v out most sv dv
  chg : Chg rb rp v w v ws
  ord : ∀ j, j < 19 → ws.cell? ⟨go, j, none⟩ = some (.int .i64 ((order.getD j 0 : Nat) : Int))
  ints : IntsAt ws .i64 3 gl 19 (fun j => vs.getD (order.idxOf j) 0)

section
variable {rb rp : Nat} {v : Value} {w ws w1 w' : World} {B g p q most : Nat} {zs out : List Nat} {sv dv : Value} {k go gl i x q1 : Nat} {vs : List Nat}

theorem order_cells (w : World) (j : Nat) (hj : j < 19) : (w.alloc (.cells (order.map (fun z : Nat => iv (z : Int))).toArray 3)).cell? ⟨w.heap.size, j, none⟩ = some (.int .i64 ((order.getD j 0 : Nat) : Int)) := by
  simp only [World.cell?, heap_alloc_new]
  rw [List.getElem?_toArray, List.getElem?_map]
  rw [List.getD_eq_getElem?_getD, List.getElem?_eq_getElem (show j < order.length from hj)]
  rfl

/-- three bits more have been read, and the length is laid -/
theorem InAt2.next (h : InAt2 k w ws B rb rp g zs p v out most sv dv go gl i vs q) (hr : RAt ws B rb rp g zs q v out most sv dv) (hv : ∀ j, v.ownBlock = some j → j < w.heap.size) (hB : B ≤ w.heap.size) (hgo : w.heap.size ≤ go) (hgl : go < gl) (hik : i < k) (hk : k ≤ 19)
    (r1 : RAt w1 B rb rp g zs q1 v out most sv dv) (d1 : Chg rb rp v ws v w1) (g1 : Infl.get 3 (Infl.bitsOf zs) q = .ok x q1) (hx : x < 8) :
    InAt2 k w (w1.setCell ⟨gl, order.getD i 0, none⟩ (.int .i64 (x : Int))) B rb rp g zs p v out most sv dv go gl (i + 1) (vs ++ [x]) q1 := by
  have hlb := r1.lb
  have hlp := r1.lp
  have hlg := r1.lg
  have hgls : gl < ws.heap.size := h.ints.lt
  have hlen := h.len
  have hvgl : v.ownBlock ≠ some gl := fun e => by have := hv gl e; omega
  have hvgo : v.ownBlock ≠ some go := fun e => by have := hv go e; omega
  have hi1 : IntsAt w1 .i64 3 gl 19 (fun j => vs.getD (order.idxOf j) 0) := by
    unfold IntsAt
    rw [d1.keep gl hgls (by omega) (by omega) hvgl]
    exact h.ints
  have ho : Only gl w1 (w1.setCell ⟨gl, order.getD i 0, none⟩ (.int .i64 (x : Int))) := (Only.refl gl w1).set _ _
  refine ⟨by simp [hlen], fun y hy => ?_, ?_, r1.off (by omega) (by omega) (by omega) hvgl ho, (h.chg.trans d1).off (by omega) ho, fun j hj => ?_, ?_⟩
  · rw [List.mem_append] at hy
    rcases hy with hy | hy
    · exact h.le y hy
    · rw [List.mem_singleton.1 hy]; omega
  · rw [h.on, show k - i = (k - (i + 1)) + 1 from by omega, threes_next _ _ _ _ _ _ g1]
  · have hc := h.ord j hj
    rw [← hc]
    have e1 : w1.cell? ⟨go, j, none⟩ = ws.cell? ⟨go, j, none⟩ := World.cell?_of_block (d1.keep go (cell_lt hc) (by omega) (by omega) hvgo)
    rw [← e1]
    exact World.cell?_of_block (heap_setCell_other _ _ _ _ (by show go ≠ gl; omega))
  · refine (hi1.set (order.getD i 0) x).congr (fun j hj => ?_)
    rw [own_next vs x (by omega) j hj, hlen]
    unfold upd
    rfl

set_option maxHeartbeats 2000000 in
theorem innerCode_ok (h : RAt w B rb rp g zs p v out most sv dv) (hz : zs.length ≤ 140737488355328) (h4 : 4 ≤ k) (hk : k ≤ 19) :
    Calls Tryz.prog 135 #[.pointer (some ⟨rb, 0, none⟩), .int .i64 (k : Int)] w fun e w' => InnIs k w B rb rp g zs p v out most sv dv e w' := by
  have hm : ∀ w, (Instr.makeSlice 45 (.int .i64 19) (.int .i64 19)).run Tryz.prog w = .ok (.slice (some ⟨w.heap.size, 0, none⟩) 19 19) (w.alloc (.cells (icells .i64 19 (fun _ => 0)) 3)) := fun w => ints_made w 19 (by decide)
  have hki : (k : Int) ≤ 19 := by omega
  have HST : Hid (InAt2 k w ((w.alloc (.cells (order.map (fun z : Nat => iv (z : Int))).toArray 3)).alloc (.cells (icells .i64 19 (fun _ => 0)) 3)) B rb rp g zs p v out most sv dv w.heap.size (w.heap.size + 1) 0 [] p) := hide (by
    have hb : Below w.heap.size w ((w.alloc (.cells (order.map (fun z : Nat => iv (z : Int))).toArray 3)).alloc (.cells (icells .i64 19 (fun _ => 0)) 3)) := ((Below.refl _ _).alloc (Nat.le_refl _) _).alloc (by simp) _
    refine ⟨rfl, fun x hx => by simp at hx, rfl, h.below hb, Chg.of_below _ _ _ hb, fun j hj => ?_, ?_⟩
    · rw [← order_cells w j hj]
      exact World.cell?_of_block (Below.heap_alloc _ _ _ (by simp))
    · unfold IntsAt
      rw [show w.heap.size + 1 = (w.alloc (.cells (order.map (fun z : Nat => iv (z : Int))).toArray 3)).heap.size by simp, heap_alloc_new]
      rfl)
  have HV : Hid ((∀ j, v.ownBlock = some j → j < w.heap.size) ∧ B ≤ w.heap.size) := hide ⟨fun j e => (h.own e).2, h.hB⟩
  clear h
  go_enter Tryz.func135, Tryz.ntmps135
  go_wp2_with fail
  refine (order_ok w).mono ?_
  rintro e w1 ⟨rfl, rfl⟩
  go_wp2_with fail
  clear hm
  obtain ⟨go, hgo⟩ : ∃ go, go = w.heap.size := ⟨_, rfl⟩
  obtain ⟨gl, hgl⟩ : ∃ gl, gl = w.heap.size + 1 := ⟨_, rfl⟩
  rw [← hgl, ← hgo] at HST ⊢
  have HGO : Hid (w.heap.size ≤ go ∧ go < gl) := hide (by omega)
  clear hgo hgl
  generalize (w.alloc (.cells (order.map (fun z : Nat => iv (z : Int))).toArray 3)).alloc (.cells (icells .i64 19 (fun _ => 0)) 3) = w1 at HST ⊢
  go_loopg [20] k (fun gk c ws => ∃ (i q : Nat) (vs : List Nat), gk = k - i ∧ i ≤ k ∧ c = .int .i64 (i : Int) ∧ Hid (InAt2 k w ws B rb rp g zs p v out most sv dv go gl i vs q))
  case atStart => exact ⟨0, p, [], by omega, by omega, rfl, HST⟩
  case round =>
    obtain ⟨i, q, vs, rfl, hik, rfl, hat⟩ := hrel
    clear HST
    by_cases hlt : i < k
    · have hii : (i : Int) < (k : Int) := by omega
      have k1 := (unhide hat).ord i (by omega)
      have hol := order_lt i (by omega)
      obtain ⟨o, ho⟩ : ∃ o, o = order.getD i 0 := ⟨_, rfl⟩
      rw [← ho] at k1 hol
      have c0 := (unhide hat).rat.c0
      have HG := hide (rget 3 (unhide hat).rat hz (by decide))
      have HO := hide ho
      have hoi : (o : Int) < 19 := by omega
      clear ho
      go_wp2_with fail
      refine (unhide HG).mono ?_
      rintro e w2 ⟨x, q1, b, rfl, r1, d1, g1⟩
      clear HG c0 k1
      rcases g1 with ⟨rfl, g1, gx, _⟩ | ⟨rfl, rfl, g1⟩
      · have HN := hide ((unhide hat).next (unhide hat).rat (unhide HV).1 (unhide HV).2 (unhide HGO).1 (unhide HGO).2 hlt hk r1 d1 g1 gx)
        rw [← unhide HO] at HN
        have hx : x < 8 := gx
        have hi2 : w2.heap[gl]? = wr.heap[gl]? := d1.keep gl (unhide hat).ints.lt (by have := r1.lb; have := unhide HV; have := unhide HGO; omega) (by have := r1.lp; have := unhide HV; have := unhide HGO; omega) (fun e => by have := (unhide HV).1 gl e; have := unhide HGO; omega)
        have hi3 : IntsAt w2 .i64 3 gl 19 (fun j => vs.getD (order.idxOf j) 0) := by unfold IntsAt; rw [hi2]; exact (unhide hat).ints
        have k2 := hi3.free o
        have k3 := hi3.cell o hol
        have hcv := conv_u64 x (by omega)
        generalize vs.getD (order.idxOf o) 0 = old at k3
        clear r1 d1 g1 gx hi2 hi3 hat
        go_wp2_with fail
        go_roundg (k - (i + 1))
        case measure => omega
        case rel => exact ⟨i + 1, q1, _, rfl, by omega, by go_num, HN⟩
      · have HE : Hid (InnIs k w B rb rp g zs p v out most sv dv (.returned (.tuple #[.pointer none, .int .i64 ((10 : Nat) : Int)])) w2) := hide ⟨(unhide hat).chg.trans d1, .inr ⟨10, by decide, by decide, rfl, by unfold inn; rw [bind_bad]; rw [(unhide hat).on, show k - i = (k - (i + 1)) + 1 from by omega, threes_bad _ _ _ _ _ g1]⟩⟩
        clear r1 d1 g1 hat
        go_wp2_with fail
        go_ret2
        exact unhide HE
    · obtain rfl : i = k := by omega
      have hrd : ReadsN wr (.slice (some ⟨gl, 0, none⟩) 19 19) (ownOf vs) := by
        refine ⟨some ⟨gl, 0, none⟩, 19, by rw [List.length_map, ownOf_length], fun _ => ⟨gl, 0, rfl, fun j hj => ?_⟩⟩
        rw [List.length_map, ownOf_length] at hj
        rw [Nat.zero_add, (unhide hat).ints.cell j hj]
        unfold ownOf
        rw [List.map_map]
        have e : ((List.range 19).map ((fun l : Nat => (l : Int)) ∘ fun j => vs.getD (order.idxOf j) 0))[j]? = some ((vs.getD (order.idxOf j) 0 : Nat) : Int) := by
          rw [List.getElem?_map, List.getElem?_range hj]; rfl
        rw [List.getD_eq_getElem?_getD (l := List.map _ _), e]
        rfl
      have HN := hide (rnew (ownOf vs) 7 false _ wr hrd (by decide) (by rw [ownOf_length]; decide) (ownOf_le vs (unhide hat).le))
      have HTH : Hid (threes i [] (Infl.bitsOf zs) p = .ok vs q) := hide (by rw [(unhide hat).on, Nat.sub_self]; rfl)
      have HRT := hide (unhide hat).rat
      have HCH := hide (unhide hat).chg
      clear hat hrd
      go_wp2_with fail
      refine (unhide HN).mono ?_
      rintro e w2 ⟨hb, ⟨hc, rfl⟩ | ⟨hc, cp, rfl, hcode⟩⟩
      · have HE : Hid (InnIs i w B rb rp g zs p v out most sv dv (.returned (.tuple #[.pointer none, .int .i64 ((13 : Nat) : Int)])) w2) := hide ⟨(unhide HCH).below' hb, .inr ⟨13, by decide, by decide, rfl, by unfold inn; rw [bind_of (unhide HTH), hc]; rfl⟩⟩
        clear hb hc
        go_wp2_with fail
        go_ret2
        exact unhide HE
      · have HE : Hid (InnIs i w B rb rp g zs p v out most sv dv (.returned (.tuple #[.pointer (some ⟨cp, 0, none⟩), .int .i64 0])) w2) := hide ⟨(unhide HCH).below' hb, .inl ⟨cp, q, ownOf vs, rfl, by unfold inn; rw [bind_of (unhide HTH), hc]; rfl, ownOf_length vs, (unhide HRT).below hb, COk.new (unhide HRT) ⟨_, _, hcode, Nat.le_refl _, Nat.le_refl _⟩⟩⟩
        clear hb hc hcode
        go_wp2_with fail
        go_ret2
        exact unhide HE

end
end Go.Proofs.YtabeanealkopbaaGreat
end

section
namespace Go.Proofs.YtabeanealkopbaaGreat
open Go.RowKit Mth Infl
set_option maxRecDepth 100000
set_option linter.unusedVariables false

/-- what lengths tells -/
def LnsIs (own : List Nat) (tot : Nat) (w : World) (B rb rp g : Nat) (zs : List Nat) (p : Nat) (v : Value) (out : List Nat) (most : Nat) (sv dv : Value) (e : Ending) (w' : World) : Prop :=
  Chg rb rp v w v w' ∧ ((∃ (lv : Value) (q : Nat) (all : List Nat), e = .returned (.tuple #[lv, .int .i64 0]) ∧ lens gg own tot tot [] (Infl.bitsOf zs) p = .ok all q ∧ all.length = tot ∧ (∀ z ∈ all, z ≤ 15) ∧ RAt w' B rb rp g zs q v out most sv dv ∧ w'.ownsRow w.heap.size 3 1 lv all.length (all.map fun z : Nat => iv (z : Int))) ∨
    (∃ b : Nat, b ≠ 0 ∧ b < 100 ∧ e = .returned (.tuple #[.slice none 0 0, .int .i64 (b : Int)]) ∧ lens gg own tot tot [] (Infl.bitsOf zs) p = .bad b))

/-- within it -/
structure LnAt (own : List Nat) (tot : Nat) (w ws : World) (B rb rp g : Nat) (zs : List Nat) (p : Nat) (v : Value) (out : List Nat) (most : Nat) (sv dv : Value) (lv : Value) (all : List Nat) (f q : Nat) : Prop where
  on : lens gg own tot tot [] (Infl.bitsOf zs) p = lens gg own tot f all (Infl.bitsOf zs) q
  fu : tot ≤ all.length + f
  le : ∀ z ∈ all, z ≤ 15
  rat : RAt ws B rb rp g zs q v out most sv dv
  chg : Chg rb rp v w v ws
  row : ws.ownsRow w.heap.size 3 1 lv all.length (all.map fun z : Nat => iv (z : Int))

section
variable {rb rp : Nat} {v : Value} {w ws w1 w2 w' : World} {B g p q most : Nat} {zs out : List Nat} {sv dv : Value}

theorem RAt.grown {r : Option Nat} (h : RAt ws B rb rp g zs p v out most sv dv) (hb : Below ws.heap.size ws w1) (hg : w1.grownBy w2 r) (hr : ∀ k, r = some k → k ≠ rb ∧ k ≠ rp ∧ k ≠ g ∧ v.ownBlock ≠ some k) : RAt w2 B rb rp g zs p v out most sv dv := by
  have hs := hb.size
  have keep : ∀ k, k < ws.heap.size → r ≠ some k → w2.heap[k]? = ws.heap[k]? := fun k hk hne => by
    rw [hg.block k (by omega) (fun e => hne e.symm), hb.block k hk]
  exact ⟨by rw [keep rb h.lt (fun e => (hr rb e).1 rfl)]; exact h.blk, h.rd.keep (keep rp h.rd.lt (fun e => (hr rp e).2.1 rfl)) (keep g (heap_lt h.rd.row) (fun e => (hr g e).2.2.1 rfl)), own_keep h.row (fun k e => keep k (h.own e).2 (fun e' => (hr k e').2.2.2 e)), h.small, h.lb, h.lp, h.lg, h.ne, h.ng, h.ol, by have := hg.size; have := h.hB; omega⟩

theorem Chg.grown {r : Option Nat} {v0 : Value} {w0 : World} (h : Chg rb rp v0 w0 v ws) (hb : Below ws.heap.size ws w1) (hg : w1.grownBy w2 r) (hr : ∀ k, r = some k → w0.heap.size ≤ k) : Chg rb rp v0 w0 v w2 := by
  have hs := hb.size
  have h2 := h.size
  refine ⟨(hg.os.trans hb.os).trans h.os, (hg.tape.trans hb.tape).trans h.tape, (hg.output.trans hb.output).trans h.output, by have := hg.size; omega, fun k k1 k2 k3 k4 => ?_, h.lies⟩
  rw [hg.block k (by omega) (fun e => by have := hr k e.symm; omega), hb.block k (by omega)]
  exact h.keep k k1 k2 k3 k4

theorem own_slice {base n : Nat} {lv : Value} {xs : List Value} (h : w.ownsRow base 3 1 lv n xs) : ∃ a c, lv = .slice a n c ∧ n ≤ c ∧ (0 < n → ∃ b, a = some ⟨b, 0, none⟩ ∧ lv.ownBlock = some b) := by
  rcases h.2 with ⟨e, hn⟩ | ⟨g, c, cur, e, hb, hh, hle, _⟩
  · exact ⟨none, 0, by rw [e, hn], by omega, fun h0 => by omega⟩
  · exact ⟨_, c, e, hle, fun _ => ⟨g, rfl, by rw [e]; rfl⟩⟩

theorem row_cell {base b : Nat} {lv : Value} {all : List Nat} (h : w.ownsRow base 3 1 lv all.length (all.map fun z : Nat => iv (z : Int))) (hb : lv.ownBlock = some b) (j : Nat) (hj : j < all.length) : w.cell? ⟨b, j, none⟩ = some (.int .i64 (all.getD j 0 : Int)) := by
  have := h.cells hb j (iv (all.getD j 0 : Int)) (by rw [List.getElem?_map, List.getElem?_eq_getElem hj, List.getD_eq_getElem?_getD, List.getElem?_eq_getElem hj]; rfl)
  have e : (⟨b, 0, none⟩ : Addr).add j = ⟨b, j, none⟩ := by by_cases hq : j = 0 <;> simp [Addr.add, hq]
  rw [e] at this
  exact this

theorem room_made (w : World) (n : Nat) (hn : n ≤ 65536) : (Instr.makeSlice 45 (.int .i64 0) (.int .i64 (n : Int))).run Tryz.prog w = .ok (.slice (some ⟨w.heap.size, 0, none⟩) 0 n) (w.alloc (.cells (icells .i64 n (fun _ => 0)) 3)) := by
  obtain ⟨i0, hi, hz0, hz1, hz2⟩ := info_parts info3'
  have := run_make (P := Tryz.prog) w 45 3 i0 (.int .i64 0) Tryz.underlying45 hi hz0 .i64 .i64 0 (n : Int) (by omega) (by omega) (by rw [hz2]; omega) (by omega)
  rw [hz1] at this
  rw [this]
  congr 3
  apply Array.ext (by simp [madeCells, icells])
  intro k k1 k2
  simp [icells, madeCells, Value.cells, Nat.mod_one]

theorem LnAt.start (own : List Nat) (tot : Nat) (ht : tot ≤ 65536) (h : RAt w B rb rp g zs p v out most sv dv) : LnAt own tot w (w.alloc (.cells (icells .i64 tot (fun _ => 0)) 3)) B rb rp g zs p v out most sv dv (.slice (some ⟨w.heap.size, 0, none⟩) 0 tot) [] tot p := by
  have hb : Below w.heap.size w (w.alloc (.cells (icells .i64 tot (fun _ => 0)) 3)) := (Below.refl _ _).alloc (Nat.le_refl _) _
  exact ⟨rfl, by omega, fun z hz => by simp at hz, h.below hb, Chg.of_below _ _ _ hb, World.ownsRow_made w _ tot (Nat.le_refl _) (by unfold maxLen; omega) (by simp [icells])⟩

/-- within the repeats: j of them are laid -/
structure RpAt (w ws : World) (B rb rp g : Nat) (zs : List Nat) (q : Nat) (v : Value) (out : List Nat) (most : Nat) (sv dv : Value) (lv : Value) (all : List Nat) (a j : Nat) : Prop where
  rat : RAt ws B rb rp g zs q v out most sv dv
  chg : Chg rb rp v w v ws
  row : ws.ownsRow w.heap.size 3 1 lv (all.length + j) ((all ++ List.replicate j a).map fun z : Nat => iv (z : Int))

theorem RpAt.next {lv lv' : Value} {all : List Nat} {a j : Nat} (h : RpAt w ws B rb rp g zs q v out most sv dv lv all a j) (hv : ∀ k, v.ownBlock = some k → k < w.heap.size) (hB : B ≤ w.heap.size) (hb : Below ws.heap.size ws w1)
    (hown : w2.ownsRow w.heap.size 3 1 lv' (all.length + j + 1) (((all ++ List.replicate j a).map fun z : Nat => iv (z : Int)) ++ [iv (a : Int)])) (hg : w1.grownBy w2 lv.ownBlock) : RpAt w w2 B rb rp g zs q v out most sv dv lv' all a (j + 1) := by
  have hr : ∀ k, lv.ownBlock = some k → w.heap.size ≤ k := fun k e => (h.row.lt k e).1
  refine ⟨h.rat.grown hb hg (fun k e => ?_), h.chg.grown hb hg hr, ?_⟩
  · have h1 := hr k e
    have := h.rat.lb
    have := h.rat.lp
    have := h.rat.lg
    exact ⟨by omega, by omega, by omega, fun e' => by have := hv k e'; omega⟩
  · rw [List.replicate_succ', ← List.append_assoc, List.map_append]
    exact hown

set_option maxHeartbeats 4000000 in
theorem lengths_ok {own : List Nat} {cp tot : Nat} (h : RAt w B rb rp g zs p v out most sv dv) (hz : zs.length ≤ 140737488355328) (hc : COk own w B cp v) (hown : own.length = 19) (ht : tot ≤ 316) :
    Calls Tryz.prog 136 #[.pointer (some ⟨rb, 0, none⟩), .pointer (some ⟨cp, 0, none⟩), .int .i64 (tot : Int)] w fun e w' => LnsIs own tot w B rb rp g zs p v out most sv dv e w' := by
  obtain ⟨i0, hi, hz0, hz1, hz2⟩ := info_parts info3'
  have hm := room_made w tot (by omega)
  have HST := hide (LnAt.start own tot (by omega) h)
  have HV : Hid ((∀ j, v.ownBlock = some j → j < w.heap.size) ∧ B ≤ w.heap.size) := hide ⟨fun j e => (h.own e).2, h.hB⟩
  have HLB := hide (And.intro h.lb h.lp)
  have HC := hide hc
  clear h hc
  go_enter Tryz.func136, Tryz.ntmps136
  go_wp2_with fail
  clear hm
  generalize w.alloc (.cells (icells .i64 tot (fun _ => 0)) 3) = w1 at HST ⊢
  go_loopg [8] tot (fun gk l ws => ∃ (all : List Nat) (f q : Nat) (lv : Value), gk = tot - all.length ∧ all.length ≤ tot ∧ lv = l ∧ Hid (LnAt own tot w ws B rb rp g zs p v out most sv dv lv all f q))
  case atStart => exact ⟨[], tot, p, _, by simp, by simp, rfl, HST⟩
  case round =>
    obtain ⟨all, f, q, lv, rfl, hle, rfl, hat⟩ := hrel
    clear HST
    obtain ⟨la, lc, hlv, hlc, hlb⟩ := own_slice (unhide hat).row
    obtain ⟨L, hL⟩ : ∃ L, L = all.length := ⟨_, rfl⟩
    rw [← hL] at hlv hlc hlb hle
    by_cases hlt : L < tot
    · have tlt : (L : Int) < (tot : Int) := by omega
      have c0 := (unhide hat).rat.c0
      have HW := hide (rword (unhide hat).rat hz ((unhide HC).chg (unhide hat).chg (unhide HLB).1 (unhide HLB).2))
      obtain ⟨f', hf'⟩ : ∃ f', f = f' + 1 := ⟨f - 1, by have := (unhide hat).fu; omega⟩
      subst hf'
      have HON : Hid (lens gg own tot tot [] (Infl.bitsOf zs) p = ((word gg own).bind fun s => (stp all s).bind fun a => if tot < all.length + a.2 then Rd.fail 11 else lens gg own tot f' (all ++ List.replicate a.2 a.1)) (Infl.bitsOf zs) q) := hide (by rw [(unhide hat).on, lens_stp own tot f' all (by omega)])
      have HFU : Hid (tot ≤ L + (f' + 1)) := hide (by have := (unhide hat).fu; omega)
      have HLE := hide (unhide hat).le
      have HRAT := hide (unhide hat).rat
      have HCHG := hide (unhide hat).chg
      have HROW := hide (unhide hat).row
      have HLV := hide hlv
      have HLB2 := hide hlb
      have HL := hide hL
      clear hat hL hlb hlc
      subst hlv
      go_wp2_with fail
      refine (unhide HW).mono ?_
      rintro e w2 ⟨s, q1, b, rfl, r1, d1, g1⟩
      clear HW c0
      rcases g1 with ⟨rfl, g1, gs, _, _⟩ | ⟨gb, gb2, g1⟩
      · have hs : s < 19 := by omega
        have HROW2 : Hid (w2.ownsRow w.heap.size 3 1 (.slice la L lc) all.length (all.map fun z : Nat => iv (z : Int))) := hide (own_keep (unhide HROW) (fun k e => by
          have hk := (unhide HROW).lt k e
          have := unhide HV
          have := r1.lb
          have := r1.lp
          exact d1.keep k hk.2 (by omega) (by omega) (fun e' => by have := (unhide HV).1 k e'; omega)))
        have HR := hide (repeat_ok s hs all (unhide HLE) la lc (by have := unhide HL; omega) (fun h0 => by
          obtain ⟨b, e1, e2⟩ := unhide HLB2 (by rw [unhide HL]; exact h0)
          refine ⟨b, e1, fun j hj => row_cell (unhide HROW2) e2 j hj, ?_⟩
          have hk := (unhide HROW).lt b e2
          have := unhide HV
          have := r1.lb
          have := r1.lp
          exact ⟨by omega, by omega, fun e' => by have := (unhide HV).1 b e'; omega⟩) r1 hz)
        rw [← unhide HL] at HR
        have HD1 := hide d1
        have HG1 := hide g1
        clear r1 d1 g1 gs HROW HRAT
        go_wp2_with fail
        refine (unhide HR).mono ?_
        rintro e w3 ⟨d2, hrep⟩
        rcases hrep with ⟨a, n, q2, rfl, g2, hn1, hn2, ha, r2⟩ | ⟨b, a, n, gb, gb2, rfl, g2⟩
        · have HD2 := hide ((unhide HCHG).trans ((unhide HD1).trans d2))
          have HROW3 : Hid (w3.ownsRow w.heap.size 3 1 (.slice la L lc) all.length (all.map fun z : Nat => iv (z : Int))) := hide (own_keep (unhide HROW2) (fun k e => by
            have hk := (unhide HROW2).lt k e
            have := unhide HV
            have := r2.lb
            have := r2.lp
            exact d2.keep k hk.2 (by omega) (by omega) (fun e' => by have := (unhide HV).1 k e'; omega)))
          by_cases hfit : tot < L + n
          · have tfit : (tot : Int) - (L : Int) < (n : Int) := by omega
            have HE : Hid (LnsIs own tot w B rb rp g zs p v out most sv dv (.returned (.tuple #[.slice none 0 0, .int .i64 ((11 : Nat) : Int)])) w3) := hide ⟨unhide HD2, .inr ⟨11, by decide, by decide, rfl, by rw [unhide HON, bind_of (unhide HG1), bind_of g2]; simp only; rw [if_pos (by rw [← unhide HL]; exact hfit)]; rfl⟩⟩
            clear d2 g2 r2 hfit HR
            go_wp2_with fail
            go_ret2
            exact unhide HE
          · have tfit : ¬ (tot : Int) - (L : Int) < (n : Int) := by omega
            have HST2 : Hid (RpAt w w3 B rb rp g zs q2 v out most sv dv (.slice la L lc) all a 0) := hide ⟨r2, unhide HD2, by simpa using unhide HROW3⟩
            have HON2 : Hid (lens gg own tot tot [] (Infl.bitsOf zs) p = lens gg own tot f' (all ++ List.replicate n a) (Infl.bitsOf zs) q2) := hide (by rw [unhide HON, bind_of (unhide HG1), bind_of g2]; simp only; rw [if_neg (by rw [← unhide HL]; exact hfit)])
            have hfit2 : L + n ≤ tot := by omega
            clear d2 g2 r2 hfit HR HON HROW2 HROW3
            go_wp2_with fail
            go_loopg [8, 49] n (fun gk l c ws => ∃ (j : Nat) (lv : Value), gk = n - j ∧ j ≤ n ∧ lv = l ∧ c = .int .i64 (j : Int) ∧ Hid (RpAt w ws B rb rp g zs q2 v out most sv dv lv all a j))
            case atStart => exact ⟨0, _, by omega, by omega, rfl, rfl, HST2⟩
            case round =>
              obtain ⟨j, lv, rfl, hjn, rfl, rfl, hat⟩ := hrel
              clear HST2
              by_cases hj : j < n
              · have tj : (j : Int) < (n : Int) := by omega
                have HNEW : Hid (∀ (jj : Nat) u, [iv (a : Int)][jj]? = some u → (wr.alloc (.cells #[iv (a : Int)] 3)).cell? ((⟨wr.heap.size, 0, none⟩ : Addr).add jj) = some u) := hide (news_one _ _)
                have HOW : Hid ((wr.alloc (.cells #[iv (a : Int)] 3)).ownsRow w.heap.size 3 1 lv (L + j) ((all ++ List.replicate j a).map fun z : Nat => iv (z : Int))) := hide (by rw [unhide HL]; exact (unhide hat).row.alloc _)
                have hws : w.heap.size ≤ wr.heap.size := (unhide hat).chg.size
                go_wp2_with (at_builtin; go_must (refine wpList_append_lies _ rfl (.tmp 51) (.tmp 53) 45 rfl w.heap.size 3 i0 (.int .i64 0) 1 8 Tryz.underlying45 hi hz0 hz1 hz2 rfl (by decide) lv (L + j) ((all ++ List.replicate j a).map fun z : Nat => iv (z : Int)) (by rfl) (unhide HOW) ⟨wr.heap.size, 0, none⟩ 1 1 [iv (a : Int)] (by rfl) rfl (unhide HNEW) (by intro u hu; simp at hu; subst hu; rfl) (by decide) (by unfold maxLen; omega) (by omega) (by simp; omega) (wr.heap.size + 1) (by simp) ?_; intro g' cap' w4 hown' hgrow hat' hglt; have HN := hide ((unhide hat).next (unhide HV).1 (unhide HV).2 ((Below.refl _ _).alloc (Nat.le_refl _) _) (by rw [← unhide HL]; exact hown') hgrow); clear hown' hgrow hat' hglt))
                go_roundg (n - (j + 1))
                case measure => omega
                case rel => exact ⟨j + 1, _, rfl, by omega, rfl, by go_num, HN⟩
              · obtain rfl : j = n := by omega
                have HN : Hid (LnAt own tot w wr B rb rp g zs p v out most sv dv lv (all ++ List.replicate j a) f' q2) := hide ⟨unhide HON2, by rw [List.length_append, List.length_replicate, ← unhide HL]; have := unhide HFU; omega, fun z hz => by
                  rw [List.mem_append] at hz
                  rcases hz with hz | hz
                  · exact unhide HLE z hz
                  · rw [List.eq_of_mem_replicate hz]; exact ha, (unhide hat).rat, (unhide hat).chg, by rw [List.length_append, List.length_replicate]; exact (unhide hat).row⟩
                have hlen : (all ++ List.replicate j a).length = L + j := by rw [List.length_append, List.length_replicate, ← unhide HL]
                have HLEN := hide hlen
                clear hat hlen
                go_wp2_with fail
                go_roundg (tot - (L + j))
                case measure => have := unhide HL; omega
                case rel => exact ⟨_, f', q2, lv, by rw [unhide HLEN], by rw [unhide HLEN]; exact hfit2, rfl, HN⟩
        · have HE : Hid (LnsIs own tot w B rb rp g zs p v out most sv dv (.returned (.tuple #[.slice none 0 0, .int .i64 (b : Int)])) w3) := hide ⟨(unhide HCHG).trans ((unhide HD1).trans d2), .inr ⟨b, gb, gb2, rfl, by rw [unhide HON, bind_of (unhide HG1), bind_bad g2]⟩⟩
          have hb1 : ¬ (b : Int) = 0 := by omega
          have hb2 : ((b : Int) == 0) = false := by simp; omega
          clear d2 g2 gb gb2 HR
          go_wp2_with fail
          go_ret2
          exact unhide HE
      · have HE : Hid (LnsIs own tot w B rb rp g zs p v out most sv dv (.returned (.tuple #[.slice none 0 0, .int .i64 (b : Int)])) w2) := hide ⟨(unhide HCHG).trans d1, .inr ⟨b, gb, gb2, rfl, by rw [unhide HON, bind_bad g1]⟩⟩
        have hb1 : ¬ (b : Int) = 0 := by omega
        have hb2 : ((b : Int) == 0) = false := by simp; omega
        clear r1 d1 g1 gb gb2
        go_wp2_with fail
        go_ret2
        exact unhide HE
    · have hLt : L = tot := by omega
      have HE : Hid (LnsIs own tot w B rb rp g zs p v out most sv dv (.returned (.tuple #[lv, .int .i64 0])) wr) := hide ⟨(unhide hat).chg, .inl ⟨lv, q, all, rfl, by rw [(unhide hat).on, lens_done own tot f all (by omega)]; rfl, by omega, (unhide hat).le, (unhide hat).rat, (unhide hat).row⟩⟩
      have tlt : ¬ (L : Int) < (tot : Int) := by omega
      clear hat hlb hLt hL
      subst hlv
      go_wp2_with fail
      go_ret2
      exact unhide HE

end
end Go.Proofs.YtabeanealkopbaaGreat
end

section
namespace Go.Proofs.YtabeanealkopbaaGreat
open Go.RowKit Mth Infl
set_option maxRecDepth 100000
set_option linter.unusedVariables false

theorem results_tmp4 {fn : Func} {t u v x : Tmp} (h : fn.results = #[.tmp t, .tmp u, .tmp v, .tmp x]) (tmps : Array Value) (P : Program) (w : World) :
    (results fn tmps).run P w = .ok (.tuple #[tmps.getD t undef, tmps.getD u undef, tmps.getD v undef, tmps.getD x undef]) w := by
  simp [results, h]

/-- what counts tells -/
def CntIs (w : World) (B rb rp g : Nat) (zs : List Nat) (p : Nat) (v : Value) (out : List Nat) (most : Nat) (sv dv : Value) (e : Ending) (w' : World) : Prop :=
  Chg rb rp v w v w' ∧ ((∃ l d k q : Nat, e = .returned (.tuple #[.int .i64 (l : Int), .int .i64 (d : Int), .int .i64 (k : Int), .int .i64 0]) ∧ cnt (Infl.bitsOf zs) p = .ok (l, d, k) q ∧ 257 ≤ l ∧ l ≤ 286 ∧ 1 ≤ d ∧ d ≤ 30 ∧ 4 ≤ k ∧ k ≤ 19 ∧ RAt w' B rb rp g zs q v out most sv dv) ∨
    (∃ b : Nat, b ≠ 0 ∧ b < 100 ∧ e = .returned (.tuple #[.int .i64 0, .int .i64 0, .int .i64 0, .int .i64 (b : Int)]) ∧ cnt (Infl.bitsOf zs) p = .bad b))

section
variable {rb rp : Nat} {v : Value} {w w' : World} {B g p q most : Nat} {zs out : List Nat} {sv dv : Value}

set_option maxHeartbeats 2000000 in
theorem rcounts_ok (h : RAt w B rb rp g zs p v out most sv dv) (hz : zs.length ≤ 140737488355328) :
    Calls Tryz.prog 134 #[.pointer (some ⟨rb, 0, none⟩)] w fun e w' => CntIs w B rb rp g zs p v out most sv dv e w' := by
  have HG := hide (rget 5 h hz (by decide))
  have c0 := h.c0
  clear h
  go_enter Tryz.func134, Tryz.ntmps134
  go_wp2_with fail
  refine wp_scope_on 0 rfl ?_
  go_wp2_with fail
  refine (unhide HG).mono ?_
  rintro e w1 ⟨l, q1, b, rfl, r1, d1, g1⟩
  clear HG c0
  rcases g1 with ⟨rfl, g1, gl, _⟩ | ⟨rfl, rfl, g1⟩
  · have HG := hide (rget 5 r1 hz (by decide))
    have c0 := r1.c0
    have HD1 := hide d1
    have HG1 := hide g1
    have hl : l < 32 := gl
    clear r1 d1 g1 gl
    go_wp2_with fail
    refine (unhide HG).mono ?_
    rintro e w2 ⟨d, q2, b, rfl, r2, d2, g2⟩
    clear HG c0
    rcases g2 with ⟨rfl, g2, gd, _⟩ | ⟨rfl, rfl, g2⟩
    · have HG := hide (rget 4 r2 hz (by decide))
      have c0 := r2.c0
      have HD2 := hide ((unhide HD1).trans d2)
      have HG2 := hide g2
      have hd : d < 32 := gd
      clear r2 d2 g2 gd HD1
      go_wp2_with fail
      refine (unhide HG).mono ?_
      rintro e w3 ⟨k, q3, b, rfl, r3, d3, g3⟩
      clear HG c0
      rcases g3 with ⟨rfl, g3, gk, _⟩ | ⟨rfl, rfl, g3⟩
      · have HD3 := hide ((unhide HD2).trans d3)
        have HG3 := hide g3
        have HR3 := hide r3
        have hk : k < 16 := gk
        have v1 := conv_u64 l (by omega)
        have v2 := conv_u64 d (by omega)
        have v3 := conv_u64 k (by omega)
        clear r3 d3 g3 gk HD2
        by_cases hl2 : l ≤ 29
        · have t1 : (257 : Int) + (l : Int) ≤ 286 := by omega
          have t1b : decide ((257 : Int) + (l : Int) ≤ 286) = true := by simp; omega
          by_cases hd2 : d ≤ 29
          · have t2 : (1 : Int) + (d : Int) ≤ 30 := by omega
            have t2b : decide ((1 : Int) + (d : Int) ≤ 30) = true := by simp; omega
            have HE : Hid (CntIs w B rb rp g zs p v out most sv dv (.returned (.tuple #[.int .i64 (257 + (l : Int)), .int .i64 (1 + (d : Int)), .int .i64 (4 + (k : Int)), .int .i64 0])) w3) := hide ⟨unhide HD3, .inl ⟨l + 257, d + 1, k + 4, q3, by rw [show ((l + 257 : Nat) : Int) = 257 + (l : Int) from by omega, show ((d + 1 : Nat) : Int) = 1 + (d : Int) from by omega, show ((k + 4 : Nat) : Int) = 4 + (k : Int) from by omega], by unfold cnt; rw [bind_of (unhide HG1), bind_of (unhide HG2), bind_of (unhide HG3), if_neg (by omega)]; rfl, by omega, by omega, by omega, by omega, by omega, by omega, unhide HR3⟩⟩
            clear HG1 HG2 HG3
            go_wp2_with fail
            refine jump_ret_of ?_
            refine bodyPost_ret (results_tmp4 rfl _ _ _) rfl ?_
            exact unhide HE
          · have t2 : ¬ (1 : Int) + (d : Int) ≤ 30 := by omega
            have t2b : decide ((1 : Int) + (d : Int) ≤ 30) = false := by simp; omega
            have HE : Hid (CntIs w B rb rp g zs p v out most sv dv (.returned (.tuple #[.int .i64 0, .int .i64 0, .int .i64 0, .int .i64 ((11 : Nat) : Int)])) w3) := hide ⟨unhide HD3, .inr ⟨11, by decide, by decide, rfl, by unfold cnt; rw [bind_of (unhide HG1), bind_of (unhide HG2), bind_of (unhide HG3), if_pos (by omega)]; rfl⟩⟩
            clear HG1 HG2 HG3
            go_wp2_with fail
            go_step3
            go_wp2_with fail
            refine jump_ret_of ?_
            refine bodyPost_ret (results_tmp4 rfl _ _ _) rfl ?_
            exact unhide HE
        · have t1 : ¬ (257 : Int) + (l : Int) ≤ 286 := by omega
          have t1b : decide ((257 : Int) + (l : Int) ≤ 286) = false := by simp; omega
          have HE : Hid (CntIs w B rb rp g zs p v out most sv dv (.returned (.tuple #[.int .i64 0, .int .i64 0, .int .i64 0, .int .i64 ((11 : Nat) : Int)])) w3) := hide ⟨unhide HD3, .inr ⟨11, by decide, by decide, rfl, by unfold cnt; rw [bind_of (unhide HG1), bind_of (unhide HG2), bind_of (unhide HG3), if_pos (by omega)]; rfl⟩⟩
          clear HG1 HG2 HG3
          go_wp2_with fail
          go_step3
          go_wp2_with fail
          refine jump_ret_of ?_
          refine bodyPost_ret (results_tmp4 rfl _ _ _) rfl ?_
          exact unhide HE
      · have HE : Hid (CntIs w B rb rp g zs p v out most sv dv (.returned (.tuple #[.int .i64 0, .int .i64 0, .int .i64 0, .int .i64 ((10 : Nat) : Int)])) w3) := hide ⟨(unhide HD2).trans d3, .inr ⟨10, by decide, by decide, rfl, by unfold cnt; rw [bind_of (unhide HG1), bind_of (unhide HG2), bind_bad g3]⟩⟩
        clear r3 d3 g3
        go_wp2_with fail
        go_step3
        refine ⟨rfl, ?_⟩
        go_wp2_with fail
        rw [Exit.noGoto_ret]
        refine bodyPost_ret (results_tmp4 rfl _ _ _) rfl ?_
        exact unhide HE
    · have HE : Hid (CntIs w B rb rp g zs p v out most sv dv (.returned (.tuple #[.int .i64 0, .int .i64 0, .int .i64 0, .int .i64 ((10 : Nat) : Int)])) w2) := hide ⟨(unhide HD1).trans d2, .inr ⟨10, by decide, by decide, rfl, by unfold cnt; rw [bind_of (unhide HG1), bind_bad g2]⟩⟩
      clear r2 d2 g2
      go_wp2_with fail
      go_step3
      refine ⟨rfl, ?_⟩
      go_wp2_with fail
      rw [Exit.noGoto_ret]
      refine bodyPost_ret (results_tmp4 rfl _ _ _) rfl ?_
      exact unhide HE
  · have HE : Hid (CntIs w B rb rp g zs p v out most sv dv (.returned (.tuple #[.int .i64 0, .int .i64 0, .int .i64 0, .int .i64 ((10 : Nat) : Int)])) w1) := hide ⟨d1, .inr ⟨10, by decide, by decide, rfl, by unfold cnt; rw [bind_bad g1]⟩⟩
    clear r1 d1 g1
    go_wp2_with fail
    go_step3
    refine ⟨rfl, ?_⟩
    go_wp2_with fail
    rw [Exit.noGoto_ret]
    refine bodyPost_ret (results_tmp4 rfl _ _ _) rfl ?_
    exact unhide HE

end
end Go.Proofs.YtabeanealkopbaaGreat
end

section
namespace Go.Proofs.YtabeanealkopbaaGreat
open Go.RowKit Mth Infl
set_option maxRecDepth 100000
set_option linter.unusedVariables false

/-- what codes tells -/
def CodIs (w : World) (B rb rp g : Nat) (zs : List Nat) (p : Nat) (v : Value) (out : List Nat) (most : Nat) (sv dv : Value) (e : Ending) (w' : World) : Prop :=
  Chg rb rp v w v w' ∧ ((∃ (cs cd q : Nat) (l1 l2 : List Nat), e = .returned (.tuple #[.pointer (some ⟨cs, 0, none⟩), .pointer (some ⟨cd, 0, none⟩), .int .i64 0]) ∧ cod (Infl.bitsOf zs) p = .ok (l1, l2) q ∧ l1.length ≤ 288 ∧ l2.length ≤ 32 ∧ RAt w' B rb rp g zs q v out most sv dv ∧ COk l1 w' B cs v ∧ COk l2 w' B cd v) ∨
    (∃ b : Nat, b ≠ 0 ∧ b < 100 ∧ e = .returned (.tuple #[.pointer none, .pointer none, .int .i64 (b : Int)]) ∧ cod (Infl.bitsOf zs) p = .bad b))

section
variable {rb rp : Nat} {v : Value} {w w' : World} {B g p q most : Nat} {zs out : List Nat} {sv dv : Value}

set_option maxHeartbeats 4000000 in
theorem codes_ok (h : RAt w B rb rp g zs p v out most sv dv) (hz : zs.length ≤ 140737488355328) :
    Calls Tryz.prog 106 #[.pointer (some ⟨rb, 0, none⟩)] w fun e w' => CodIs w B rb rp g zs p v out most sv dv e w' := by
  have HC := hide (rcounts_ok h hz)
  clear h
  go_enter Tryz.func106, Tryz.ntmps106
  go_wp2_with fail
  refine wp_scope_on 0 rfl ?_
  go_wp2_with fail
  refine (unhide HC).mono ?_
  rintro e w1 ⟨d1, ⟨l, d, k, q1, rfl, g1, hl1, hl2, hd1, hd2, hk1, hk2, r1⟩ | ⟨b, gb, gb2, rfl, g1⟩⟩
  · have HI := hide (innerCode_ok r1 hz hk1 hk2)
    have HD1 := hide d1
    have HG1 := hide g1
    clear r1 d1 g1 HC
    go_wp2_with fail
    refine (unhide HI).mono ?_
    rintro e w2 ⟨d2, ⟨cp, q2, own, rfl, g2, hol, r2, c2⟩ | ⟨b, gb, gb2, rfl, g2⟩⟩
    · obtain ⟨tot, htot⟩ : ∃ tot, tot = l + d := ⟨_, rfl⟩
      have HL := hide (lengths_ok (tot := tot) r2 hz c2 hol (by omega))
      have HD2 := hide ((unhide HD1).trans d2)
      have HG2 := hide g2
      have hti : (l : Int) + (d : Int) = (tot : Int) := by omega
      have HTOT := hide htot
      clear r2 d2 g2 HI c2 htot
      go_wp2_with fail
      refine (unhide HL).mono ?_
      rintro e w3 ⟨d3, ⟨lv, q3, all, rfl, g3, hal, hal15, r3, row⟩ | ⟨b, gb, gb2, rfl, g3⟩⟩
      · obtain ⟨la, lc, hlv, hlc, hlb⟩ := own_slice row
        obtain ⟨gl, hla, hob⟩ := hlb (by have := unhide HTOT; omega)
        have k256 := row_cell row hob 256 (by have := unhide HTOT; omega)
        have HD3 := hide ((unhide HD2).trans d3)
        have HG3 := hide g3
        have HR3 := hide r3
        have HROW := hide row
        have HAL := hide hal
        have H15 := hide hal15
        have HOB := hide hob
        have HON : Hid (cod (Infl.bitsOf zs) p = (if all.getD 256 0 = 0 then Rd.fail 11 else okE (ce (all.take l) 15 true) (okE (ce (all.drop l) 15 true) (Rd.pure (all.take l, all.drop l)))) (Infl.bitsOf zs) q3) := hide (by unfold cod; rw [bind_of (unhide HG1)]; simp only; rw [bind_of (unhide HG2), ← unhide HTOT, bind_of g3])
        subst hla
        rw [hal] at hlv hlc
        clear d3 g3 r3 row hal hal15 HL hlb
        subst hlv
        have t256 : (256 : Int) < (tot : Int) := by have := unhide HTOT; omega
        by_cases h0 : all.getD 256 0 = 0
        · rw [h0] at k256
          have HE : Hid (CodIs w B rb rp g zs p v out most sv dv (.returned (.tuple #[.pointer none, .pointer none, .int .i64 ((11 : Nat) : Int)])) w3) := hide ⟨unhide HD3, .inr ⟨11, by decide, by decide, rfl, by rw [unhide HON, if_pos h0]; rfl⟩⟩
          clear h0 HON
          go_wp2_with fail
          go_step3
          refine ⟨rfl, ?_⟩
          go_wp2_with fail
          rw [Exit.noGoto_ret]
          go_ret3
          exact unhide HE
        · have HON2 : Hid (cod (Infl.bitsOf zs) p = (okE (ce (all.take l) 15 true) (okE (ce (all.drop l) 15 true) (Rd.pure (all.take l, all.drop l)))) (Infl.bitsOf zs) q3) := hide (by rw [unhide HON, if_neg h0])
          generalize all.getD 256 0 = y at k256 h0
          have t0 : ¬ (y : Int) = 0 := by omega
          have t0b : ((y : Int) == 0) = false := by simp; omega
          have tl : (l : Int) ≤ (tot : Int) := by omega
          have tl2 : ¬ lc = l := by omega
          have tl3 : l ≤ lc := by omega
          have tl4 : (l : Int) ≤ (lc : Int) := by omega
          have hlen1 : (all.take l).length = l := by rw [List.length_take, unhide HAL]; omega
          have hlen2 : (all.drop l).length = tot - l := by rw [List.length_drop, unhide HAL]
          have HROWD : Hid (w3.drew.ownsRow w2.heap.size 3 1 (.slice (some ⟨gl, 0, none⟩) tot lc) all.length (all.map fun z : Nat => iv (z : Int))) := hide (own_keep (unhide HROW) (fun _ _ => rfl))
          have HDD : Hid (Chg rb rp v w v w3.drew) := hide ((unhide HD3).drewN 1)
          have HRD : Hid (RAt w3.drew B rb rp g zs q3 v out most sv dv) := hide ((unhide HR3).drewN 1)
          have HN := hide (codesOf_ok (all.take l) (all.drop l) (.slice (some ⟨gl, 0, none⟩) l lc) (.slice (some ⟨gl, l, none⟩) (tot - l) (lc - l)) w3.drew
            ⟨some ⟨gl, 0, none⟩, lc, by rw [List.length_map, hlen1], fun _ => ⟨gl, 0, rfl, fun j hj => by
              rw [List.length_map, hlen1] at hj
              rw [Nat.zero_add, row_cell (unhide HROWD) (unhide HOB) j (by rw [unhide HAL]; omega), List.getD_eq_getElem?_getD (l := List.map _ _), List.getElem?_map, List.getElem?_take, if_pos hj, List.getD_eq_getElem?_getD, List.getElem?_eq_getElem (by rw [unhide HAL]; omega)]
              rfl⟩⟩
            ⟨some ⟨gl, l, none⟩, lc - l, by rw [List.length_map, hlen2], fun _ => ⟨gl, l, rfl, fun j hj => by
              rw [List.length_map, hlen2] at hj
              rw [row_cell (unhide HROWD) (unhide HOB) (l + j) (by rw [unhide HAL]; omega), List.getD_eq_getElem?_getD (l := List.map _ _), List.getElem?_map, List.getElem?_drop, List.getD_eq_getElem?_getD, List.getElem?_eq_getElem (by rw [unhide HAL]; omega)]
              rfl⟩⟩
            (by rw [hlen1]; omega) (by rw [hlen2]; have := unhide HTOT; omega) (fun z hz => unhide H15 z (List.mem_of_mem_take hz)) (fun z hz => unhide H15 z (List.mem_of_mem_drop hz)))
          have HE : Hid (∀ w4, Below w3.drew.heap.size w3.drew w4 → (ce (all.take l) 15 true = 13 ∨ ce (all.take l) 15 true = 0 ∧ ce (all.drop l) 15 true = 13) → CodIs w B rb rp g zs p v out most sv dv (.returned (.tuple #[.pointer none, .pointer none, .int .i64 ((13 : Nat) : Int)])) w4) := hide fun w4 hb hce => ⟨(unhide HDD).below' hb, .inr ⟨13, by decide, by decide, rfl, by
            rw [unhide HON2]
            rcases hce with e | ⟨e1, e2⟩
            · rw [e]; rfl
            · rw [e1, e2]; rfl⟩⟩
          have HF : Hid (∀ w4 cs cd, Below w3.drew.heap.size w3.drew w4 → ce (all.take l) 15 true = 0 → ce (all.drop l) 15 true = 0 → (∃ lo hi, Code (all.take l) w4 cs lo hi ∧ w3.drew.heap.size ≤ lo ∧ hi ≤ w4.heap.size) → (∃ lo hi, Code (all.drop l) w4 cd lo hi ∧ w3.drew.heap.size ≤ lo ∧ hi ≤ w4.heap.size) →
              CodIs w B rb rp g zs p v out most sv dv (.returned (.tuple #[.pointer (some ⟨cs, 0, none⟩), .pointer (some ⟨cd, 0, none⟩), .int .i64 0])) w4) := hide fun w4 cs cd hb e1 e2 c1 c2 => ⟨(unhide HDD).below' hb, .inl ⟨cs, cd, q3, all.take l, all.drop l, rfl, by rw [unhide HON2, e1, e2]; rfl, by rw [hlen1]; omega, by rw [hlen2]; have := unhide HTOT; omega, (unhide HRD).below hb, COk.new (unhide HRD) c1, COk.new (unhide HRD) c2⟩⟩
          clear hlen1 hlen2 h0 HON
          go_wp2_with fail
          refine wp_region_noPanic ?_
          refine wp_region_held_drew (S := fun _ => True) (by kernel_rfl) True.intro (fun hHeld => ?_)
          refine held_take 0 42 rfl rfl (by kernel_rfl) (by kernel_rfl) (by kernel_rfl) (by rfl) hHeld noPanic_panic (v := ?_) (fun x hSx => ?_) ?_
          rotate_left 1
          · go_simp <;> with_reducible rfl
          simp only [List.set_cons_zero, List.set_cons_succ]
          refine held_take 1 43 rfl rfl (by kernel_rfl) (by kernel_rfl) (by kernel_rfl) (by rfl) hHeld noPanic_panic (v := ?_) (fun x hSx => ?_) ?_
          rotate_left 1
          · go_simp <;> with_reducible rfl
          simp only [List.set_cons_zero, List.set_cons_succ]
          refine held_take 2 44 rfl rfl (by kernel_rfl) (by kernel_rfl) (by kernel_rfl) (by rfl) hHeld noPanic_panic (v := ?_) (fun x hSx => ?_) ?_
          rotate_left 1
          · go_simp <;> with_reducible rfl
          simp only [List.set_cons_zero, List.set_cons_succ]
          refine held_take 3 45 rfl rfl (by kernel_rfl) (by kernel_rfl) (by kernel_rfl) (by rfl) hHeld noPanic_panic (v := ?_) (fun x hSx => ?_) ?_
          rotate_left 1
          · go_simp <;> with_reducible rfl
          simp only [List.set_cons_zero, List.set_cons_succ]
          refine held_take 4 46 rfl rfl (by kernel_rfl) (by kernel_rfl) (by kernel_rfl) (by rfl) hHeld noPanic_panic (v := ?_) (fun x hSx => ?_) ?_
          rotate_left 1
          · go_simp <;> with_reducible rfl
          simp only [List.set_cons_zero, List.set_cons_succ]
          refine held_take 5 47 rfl rfl (by kernel_rfl) (by kernel_rfl) (by kernel_rfl) (by rfl) hHeld noPanic_panic (v := ?_) (fun x hSx => ?_) ?_
          rotate_left 1
          · go_simp <;> with_reducible rfl
          simp only [List.set_cons_zero, List.set_cons_succ]
          refine held_enter 6 48 (by kernel_rfl) rfl rfl (by rfl) (by go_simp <;> exact ⟨rfl, rfl⟩) ?_
          refine (unhide HN).mono ?_
          rintro e w4 ⟨hb, ⟨cs, cd, e1, e2, rfl, c1, c2⟩ | ⟨hce, rfl⟩⟩
          · have HFF := hide (unhide HF w4 cs cd hb e1 e2 c1 c2)
            clear hb e1 e2 c1 c2
            refine ⟨_, rfl, True.intro, ?_⟩
            simp only [List.set_cons_zero, List.set_cons_succ]
            replace hHeld : True := True.intro
            refine held_take 7 49 rfl rfl (by kernel_rfl) (by kernel_rfl) (by kernel_rfl) (by rfl) hHeld noPanic_panic (v := ?_) (fun x hSx => ?_) ?_
            rotate_left 1
            · go_simp <;> with_reducible rfl
            simp only [List.set_cons_zero, List.set_cons_succ]
            refine held_take 8 50 rfl rfl (by kernel_rfl) (by kernel_rfl) (by kernel_rfl) (by rfl) hHeld noPanic_panic (v := ?_) (fun x hSx => ?_) ?_
            rotate_left 1
            · go_simp <;> with_reducible rfl
            simp only [List.set_cons_zero, List.set_cons_succ]
            refine held_take 9 51 rfl rfl (by kernel_rfl) (by kernel_rfl) (by kernel_rfl) (by rfl) hHeld noPanic_panic (v := ?_) (fun x hSx => ?_) ?_
            rotate_left 1
            · go_simp <;> with_reducible rfl
            simp only [List.set_cons_zero, List.set_cons_succ]
            refine held_take 10 2 rfl rfl (by kernel_rfl) (by kernel_rfl) (by kernel_rfl) (by rfl) hHeld noPanic_panic (v := ?_) (fun x hSx => ?_) ?_
            rotate_left 1
            · go_simp <;> with_reducible rfl
            simp only [List.set_cons_zero, List.set_cons_succ]
            refine held_take 11 3 rfl rfl (by kernel_rfl) (by kernel_rfl) (by kernel_rfl) (by rfl) hHeld noPanic_panic (v := ?_) (fun x hSx => ?_) ?_
            rotate_left 1
            · go_simp <;> with_reducible rfl
            simp only [List.set_cons_zero, List.set_cons_succ]
            refine held_take 12 4 rfl rfl (by kernel_rfl) (by kernel_rfl) (by kernel_rfl) (by rfl) hHeld noPanic_panic (v := ?_) (fun x hSx => ?_) ?_
            rotate_left 1
            · go_simp <;> with_reducible rfl
            simp only [List.set_cons_zero, List.set_cons_succ]
            refine wpAnyH_done (by kernel_rfl) ?_ _
            refine NoPanic.normal ?_
            clear hHeld
            go_wp2_with fail
            refine jump_ret_of ?_
            go_ret3
            exact unhide HFF
          · have HFF := hide (unhide HE w4 hb hce)
            clear hb hce
            refine ⟨_, rfl, True.intro, ?_⟩
            simp only [List.set_cons_zero, List.set_cons_succ]
            replace hHeld : True := True.intro
            refine held_take 7 49 rfl rfl (by kernel_rfl) (by kernel_rfl) (by kernel_rfl) (by rfl) hHeld noPanic_panic (v := ?_) (fun x hSx => ?_) ?_
            rotate_left 1
            · go_simp <;> with_reducible rfl
            simp only [List.set_cons_zero, List.set_cons_succ]
            refine held_take 8 50 rfl rfl (by kernel_rfl) (by kernel_rfl) (by kernel_rfl) (by rfl) hHeld noPanic_panic (v := ?_) (fun x hSx => ?_) ?_
            rotate_left 1
            · go_simp <;> with_reducible rfl
            simp only [List.set_cons_zero, List.set_cons_succ]
            refine held_take 9 51 rfl rfl (by kernel_rfl) (by kernel_rfl) (by kernel_rfl) (by rfl) hHeld noPanic_panic (v := ?_) (fun x hSx => ?_) ?_
            rotate_left 1
            · go_simp <;> with_reducible rfl
            simp only [List.set_cons_zero, List.set_cons_succ]
            refine held_take 10 2 rfl rfl (by kernel_rfl) (by kernel_rfl) (by kernel_rfl) (by rfl) hHeld noPanic_panic (v := ?_) (fun x hSx => ?_) ?_
            rotate_left 1
            · go_simp <;> with_reducible rfl
            simp only [List.set_cons_zero, List.set_cons_succ]
            refine held_take 11 3 rfl rfl (by kernel_rfl) (by kernel_rfl) (by kernel_rfl) (by rfl) hHeld noPanic_panic (v := ?_) (fun x hSx => ?_) ?_
            rotate_left 1
            · go_simp <;> with_reducible rfl
            simp only [List.set_cons_zero, List.set_cons_succ]
            refine held_take 12 4 rfl rfl (by kernel_rfl) (by kernel_rfl) (by kernel_rfl) (by rfl) hHeld noPanic_panic (v := ?_) (fun x hSx => ?_) ?_
            rotate_left 1
            · go_simp <;> with_reducible rfl
            simp only [List.set_cons_zero, List.set_cons_succ]
            refine wpAnyH_done (by kernel_rfl) ?_ _
            refine NoPanic.normal ?_
            clear hHeld
            go_wp2_with fail
            refine jump_ret_of ?_
            go_ret3
            exact unhide HFF
      · have HE : Hid (CodIs w B rb rp g zs p v out most sv dv (.returned (.tuple #[.pointer none, .pointer none, .int .i64 (b : Int)])) w3) := hide ⟨(unhide HD2).trans d3, .inr ⟨b, gb, gb2, rfl, by unfold cod; rw [bind_of (unhide HG1)]; simp only; rw [bind_of (unhide HG2), ← unhide HTOT, bind_bad g3]⟩⟩
        have hb1 : ¬ (b : Int) = 0 := by omega
        have hb2 : ((b : Int) == 0) = false := by simp; omega
        clear d3 g3 gb gb2
        go_wp2_with fail
        go_step3
        refine ⟨rfl, ?_⟩
        go_wp2_with fail
        rw [Exit.noGoto_ret]
        go_ret3
        exact unhide HE
    · have HE : Hid (CodIs w B rb rp g zs p v out most sv dv (.returned (.tuple #[.pointer none, .pointer none, .int .i64 (b : Int)])) w2) := hide ⟨(unhide HD1).trans d2, .inr ⟨b, gb, gb2, rfl, by unfold cod; rw [bind_of (unhide HG1)]; simp only; rw [bind_bad g2]⟩⟩
      have hb1 : ¬ (b : Int) = 0 := by omega
      have hb2 : ((b : Int) == 0) = false := by simp; omega
      clear d2 g2 gb gb2
      go_wp2_with fail
      go_step3
      refine ⟨rfl, ?_⟩
      go_wp2_with fail
      rw [Exit.noGoto_ret]
      go_ret3
      exact unhide HE
  · have HE : Hid (CodIs w B rb rp g zs p v out most sv dv (.returned (.tuple #[.pointer none, .pointer none, .int .i64 (b : Int)])) w1) := hide ⟨d1, .inr ⟨b, gb, gb2, rfl, by unfold cod; rw [bind_bad g1]⟩⟩
    have hb1 : ¬ (b : Int) = 0 := by omega
    have hb2 : ((b : Int) == 0) = false := by simp; omega
    clear d1 g1 gb gb2
    go_wp2_with fail
    go_step3
    refine ⟨rfl, ?_⟩
    go_wp2_with fail
    rw [Exit.noGoto_ret]
    go_ret3
    exact unhide HE

end
end Go.Proofs.YtabeanealkopbaaGreat
end

section
namespace Go.Proofs.YtabeanealkopbaaGreat
open Go.RowKit Mth Infl
set_option maxRecDepth 100000
set_option linter.unusedVariables false

/-- the fixed codes are not made yet, or they are there -/
def FixOk (w : World) (B : Nat) (v sv dv : Value) : Prop := sv = .pointer none ∨ ∃ cs cd, sv = .pointer (some ⟨cs, 0, none⟩) ∧ dv = .pointer (some ⟨cd, 0, none⟩) ∧ COk fixedL w B cs v ∧ COk fixedD w B cd v

/-- what has come of a block -/
def BlkIs (r : Res (List Nat)) (w : World) (B rb rp g : Nat) (zs : List Nat) (v : Value) (most : Nat) (e : Ending) (w' : World) : Prop :=
  (∃ v' o q sv' dv', r = .ok o q ∧ e = .returned (.int .i64 0) ∧ RAt w' B rb rp g zs q v' o most sv' dv' ∧ FixOk w' B v' sv' dv' ∧ Chg rb rp v w v' w') ∨ (∃ (b : Nat) (v' : Value), r = .bad b ∧ b ≠ 0 ∧ b < 100 ∧ e = .returned (.int .i64 (b : Int)) ∧ Chg rb rp v w v' w')

section
variable {rb rp : Nat} {v v1 : Value} {w w1 w' : World} {B g p q most : Nat} {zs out : List Nat} {sv dv : Value}

theorem FixOk.chg (h : FixOk w B v sv dv) (c : Chg rb rp v w v1 w1) (lb : rb < B) (lp : rp < B) : FixOk w1 B v1 sv dv := by
  rcases h with h | ⟨cs, cd, e1, e2, c1, c2⟩
  · exact .inl h
  · exact .inr ⟨cs, cd, e1, e2, c1.chg c lb lp, c2.chg c lb lp⟩

theorem Did.blk {r : Res (List Nat)} {e : Ending} (h : Did r w1 B rb rp g zs v most sv dv e w') (c : Chg rb rp v w v w1) (hf : FixOk w1 B v sv dv) : BlkIs r w B rb rp g zs v most e w' := by
  rcases h with ⟨v', o, q, h1, h2, h3, h4⟩ | ⟨b, v', h1, h2, h3, h4, h5⟩
  · exact .inl ⟨v', o, q, sv, dv, h1, h2, h3, hf.chg h4 h3.lb h3.lp, c.trans h4⟩
  · exact .inr ⟨b, v', h1, h2, h3, h4, c.trans h5⟩

theorem fixedL_is : fixedL = (List.range 288).map fx := rfl
theorem fixedL_len : fixedL.length = 288 := by rw [fixedL_is]; simp
theorem fixedD_len : fixedD.length = 32 := by unfold fixedD; simp

theorem ints_reads {g n : Nat} {C : Nat → Nat} (h : IntsAt w .i64 3 g n C) (ls : List Nat) (hl : ls = (List.range n).map C) : ReadsN w (.slice (some ⟨g, 0, none⟩) n n) ls := by
  subst hl
  refine ⟨some ⟨g, 0, none⟩, n, by simp, fun _ => ⟨g, 0, rfl, fun j hj => ?_⟩⟩
  simp at hj
  have e : (((List.range n).map C).map fun l : Nat => (l : Int))[j]? = some (C j : Int) := by
    rw [List.map_map, List.getElem?_map, List.getElem?_range hj]; rfl
  rw [Nat.zero_add, h.cell j hj, List.getD_eq_getElem?_getD, e]
  rfl

theorem fixedL_le : ∀ l ∈ fixedL, l ≤ 15 := by
  intro l hl
  rw [fixedL_is, List.mem_map] at hl
  obtain ⟨i, _, rfl⟩ := hl
  unfold fx
  split
  · decide
  · split <;> decide

theorem fixedD_le : ∀ l ∈ fixedD, l ≤ 15 := by
  intro l hl
  rw [List.eq_of_mem_replicate hl]; decide

theorem ce_fixedL : ce fixedL 15 true = 0 := by
  rcases ce_cases fixedL 15 true with ⟨h, _⟩ | ⟨_, h⟩
  · exact h
  · exact absurd (.inl fixedL_full) h

theorem ce_fixedD : ce fixedD 15 true = 0 := by
  rcases ce_cases fixedD 15 true with ⟨h, _⟩ | ⟨_, h⟩
  · exact h
  · exact absurd (.inl fixedD_full) h

set_option maxHeartbeats 2000000 in
theorem ownBlock_ok (h : RAt w B rb rp g zs p v out most sv dv) (hf : FixOk w B v sv dv) (hz : zs.length ≤ 140737488355328) (hm : most ≤ 268435456) :
    Calls Tryz.prog 77 #[.pointer (some ⟨rb, 0, none⟩)] w fun e w' => ∃ F, BlkIs (told gg ce most F out (Infl.bitsOf zs) p) w B rb rp g zs v most e w' := by
  have HC := hide (codes_ok h hz)
  have HF := hide hf
  have HLB := hide (And.intro h.lb h.lp)
  clear h hf
  go_enter Tryz.func77, Tryz.ntmps77
  go_wp2_with fail
  refine (unhide HC).mono ?_
  rintro e w1 ⟨d1, ⟨cs, cd, q1, l1, l2, rfl, g1, hl1, hl2, r1, c1, c2⟩ | ⟨b, gb, gb2, rfl, g1⟩⟩
  · have HT := hide (tokens_ok r1 hz hm c1 hl1 c2 hl2)
    have HD1 := hide d1
    have HG1 := hide g1
    clear r1 c1 c2 d1 g1 HC
    go_wp2_with fail
    refine (unhide HT).mono ?_
    rintro e w2 ⟨F, hd⟩
    have HE : Hid (BlkIs (told gg ce most F out (Infl.bitsOf zs) p) w B rb rp g zs v most e w2) := hide (by
      rw [told_cod, bind_of (unhide HG1)]
      exact hd.blk (unhide HD1) ((unhide HF).chg (unhide HD1) (unhide HLB).1 (unhide HLB).2))
    rcases hd with ⟨v', o, q, _, rfl, _, _⟩ | ⟨b, v', _, _, _, rfl, _⟩
    · go_wp2_with fail
      go_ret
      exact ⟨F, unhide HE⟩
    · go_wp2_with fail
      go_ret
      exact ⟨F, unhide HE⟩
  · have HE : Hid (∃ F, BlkIs (told gg ce most F out (Infl.bitsOf zs) p) w B rb rp g zs v most (.returned (.int .i64 (b : Int))) w1) := hide ⟨0, .inr ⟨b, v, by rw [told_cod, bind_bad g1], gb, gb2, rfl, d1⟩⟩
    have hb1 : ¬ (b : Int) = 0 := by omega
    have hb2 : ((b : Int) == 0) = false := by simp; omega
    clear d1 g1 gb gb2
    go_wp2_with fail
    go_ret
    exact unhide HE

set_option maxHeartbeats 2000000 in
theorem storedBlock_ok (h : RAt w B rb rp g zs p v out most sv dv) (hf : FixOk w B v sv dv) (hz : zs.length ≤ 140737488355328) (hm : most ≤ 268435456) :
    Calls Tryz.prog 75 #[.pointer (some ⟨rb, 0, none⟩)] w fun e w' => BlkIs (Infl.stored most out (Infl.bitsOf zs) p) w B rb rp g zs v most e w' :=
  (stored_ok h hz hm).mono fun e w' hd => hd.blk (Chg.refl _ _ _ _) hf

end
end Go.Proofs.YtabeanealkopbaaGreat
end

section
namespace Go.Proofs.YtabeanealkopbaaGreat
open Go.RowKit Mth Infl
set_option maxRecDepth 100000
set_option linter.unusedVariables false

section
variable {rb rp : Nat} {v v1 : Value} {w w1 w' : World} {B g p q most : Nat} {zs out : List Nat} {sv dv : Value}

set_option maxHeartbeats 2000000 in
theorem fixedBlock_there {cs cd : Nat} (h : RAt w B rb rp g zs p v out most (.pointer (some ⟨cs, 0, none⟩)) (.pointer (some ⟨cd, 0, none⟩))) (c1 : COk fixedL w B cs v) (c2 : COk fixedD w B cd v) (hz : zs.length ≤ 140737488355328) (hm : most ≤ 268435456) :
    Calls Tryz.prog 76 #[.pointer (some ⟨rb, 0, none⟩)] w fun e w' => ∃ F, BlkIs (toks gg fixedL fixedD most F out (Infl.bitsOf zs) p) w B rb rp g zs v most e w' := by
  have k3 := h.c3
  have hd : Chg rb rp v w v w.drew := (Chg.refl _ _ _ _).drewN 1
  have r1 : RAt w.drew B rb rp g zs p v out most (.pointer (some ⟨cs, 0, none⟩)) (.pointer (some ⟨cd, 0, none⟩)) := h.drewN 1
  have HT := hide (tokens_ok r1 hz hm (c1.chg hd h.lb h.lp) (by rw [fixedL_len]; decide) (c2.chg hd h.lb h.lp) (by rw [fixedD_len]; decide))
  have HB : Hid (∀ F e w', Did (toks gg fixedL fixedD most F out (Infl.bitsOf zs) p) w.drew B rb rp g zs v most (.pointer (some ⟨cs, 0, none⟩)) (.pointer (some ⟨cd, 0, none⟩)) e w' → BlkIs (toks gg fixedL fixedD most F out (Infl.bitsOf zs) p) w B rb rp g zs v most e w') := hide fun F e w' hdid => hdid.blk hd (.inr ⟨cs, cd, rfl, rfl, c1.chg hd h.lb h.lp, c2.chg hd h.lb h.lp⟩)
  have j3 := r1.c3
  have j4 := r1.c4
  clear h c1 c2 hd r1
  go_enter Tryz.func76, Tryz.ntmps76
  go_wp2_with fail
  refine wp_tail 9 (by kernel_rfl) (by kernel_rfl) ?_
  simp only [List.take_succ_cons, List.take_zero, List.drop_succ_cons, List.drop_zero]
  repeat still_step
  try refine wpStill_nil ?_
  go_wp2_with fail
  refine (unhide HT).mono ?_
  rintro e w2 ⟨F, hd⟩
  have HE := hide (unhide HB F e w2 hd)
  rcases hd with ⟨v', o, q, _, rfl, _, _⟩ | ⟨b, v', _, _, _, rfl, _⟩
  · go_wp2_with fail
    go_ret
    exact ⟨F, unhide HE⟩
  · go_wp2_with fail
    go_ret
    exact ⟨F, unhide HE⟩

set_option maxHeartbeats 2000000 in
theorem fixedBlock_new (h : RAt w B rb rp g zs p v out most (.pointer none) dv) (hz : zs.length ≤ 140737488355328) (hm : most ≤ 268435456) :
    Calls Tryz.prog 76 #[.pointer (some ⟨rb, 0, none⟩)] w fun e w' => ∃ F, BlkIs (toks gg fixedL fixedD most F out (Infl.bitsOf zs) p) w B rb rp g zs v most e w' := by
  have k3 := h.c3
  have HR := hide h
  clear h
  go_enter Tryz.func76, Tryz.ntmps76
  go_wp2_with fail
  refine (fixed_ok _).mono ?_
  rintro e w1 ⟨rfl, a1, b1⟩
  have A1 := hide a1
  have B1 := hide b1
  clear a1 b1
  go_wp2_with fail
  refine (fives_ok _).mono ?_
  rintro e w2 ⟨rfl, a2, b2⟩
  have HB2 : Hid (Below w.heap.size w w2) := hide ((unhide B1).trans (b2.mono (unhide B1).size))
  have HN := hide (codesOf_ok fixedL fixedD _ _ w2 ((ints_reads (unhide A1) fixedL fixedL_is).stays b2) (ints_reads a2 fixedD (by decide)) (by rw [fixedL_len]; decide) (by rw [fixedD_len]; decide) fixedL_le fixedD_le)
  clear a2 b2 A1 B1
  go_wp2_with fail
  refine (unhide HN).mono ?_
  rintro e w3 ⟨hb, ⟨cs, cd, e1, e2, rfl, c1, c2⟩ | ⟨hce, rfl⟩⟩
  · have r2 := (unhide HR).below (unhide HB2)
    have r3 := r2.below hb
    have hd3 : Chg rb rp v w v w3 := Chg.of_below _ _ _ ((unhide HB2).trans (hb.mono (unhide HB2).size))
    have hc1 : COk fixedL w3 B cs v := COk.new r2 c1
    have hc2 : COk fixedD w3 B cd v := COk.new r2 c2
    have r4 := r3.codes (.pointer (some ⟨cs, 0, none⟩)) (.pointer (some ⟨cd, 0, none⟩))
    have hd4 := (Chg.refl rb rp v w3).codes (.pointer (some ⟨cs, 0, none⟩)) (.pointer (some ⟨cd, 0, none⟩))
    have f3 := r3.fz 3
    have f4 := r3.fz 4
    have k3' := r3.c3
    have k4' := r3.c4
    have HR4 := hide r4
    have HD4 := hide (hd3.trans hd4)
    have HC1 := hide (hc1.chg hd4 r3.lb r3.lp)
    have HC2 := hide (hc2.chg hd4 r3.lb r3.lp)
    clear r2 r3 hd3 hc1 hc2 r4 hd4 hb e1 e2 c1 c2 HN HB2 HR k3
    go_upto_region 5 with fail
    clear f3 f4 k3' k4'
    generalize (w3.setCell ⟨rb, 3, none⟩ (.pointer (some ⟨cs, 0, none⟩))).setCell ⟨rb, 4, none⟩ (.pointer (some ⟨cd, 0, none⟩)) = w4 at HR4 HD4 HC1 HC2 ⊢
    have hd : Chg rb rp v w4 v w4.drew := (Chg.refl _ _ _ _).drewN 1
    have r5 : RAt w4.drew B rb rp g zs p v out most (.pointer (some ⟨cs, 0, none⟩)) (.pointer (some ⟨cd, 0, none⟩)) := (unhide HR4).drewN 1
    have HT := hide (tokens_ok r5 hz hm ((unhide HC1).chg hd r5.lb r5.lp) (by rw [fixedL_len]; decide) ((unhide HC2).chg hd r5.lb r5.lp) (by rw [fixedD_len]; decide))
    have HB : Hid (∀ F e w', Did (toks gg fixedL fixedD most F out (Infl.bitsOf zs) p) w4.drew B rb rp g zs v most (.pointer (some ⟨cs, 0, none⟩)) (.pointer (some ⟨cd, 0, none⟩)) e w' → BlkIs (toks gg fixedL fixedD most F out (Infl.bitsOf zs) p) w B rb rp g zs v most e w') := hide fun F e w' hdid => hdid.blk ((unhide HD4).trans hd) (.inr ⟨cs, cd, rfl, rfl, (unhide HC1).chg hd r5.lb r5.lp, (unhide HC2).chg hd r5.lb r5.lp⟩)
    have j3 := r5.c3
    have j4 := r5.c4
    clear r5 hd HR4 HD4 HC1 HC2
    refine wp_tail 9 (by kernel_rfl) (by kernel_rfl) ?_
    simp only [List.take_succ_cons, List.take_zero, List.drop_succ_cons, List.drop_zero]
    repeat still_step
    try refine wpStill_nil ?_
    go_wp2_with fail
    refine (unhide HT).mono ?_
    rintro e w5 ⟨F, hd⟩
    have HE := hide (unhide HB F e w5 hd)
    rcases hd with ⟨v', o, q, _, rfl, _, _⟩ | ⟨b, v', _, _, _, rfl, _⟩
    · go_wp2_with fail
      go_ret
      exact ⟨F, unhide HE⟩
    · go_wp2_with fail
      go_ret
      exact ⟨F, unhide HE⟩
  · exfalso
    rcases hce with hce | ⟨_, hce⟩
    · rw [ce_fixedL] at hce; cases hce
    · rw [ce_fixedD] at hce; cases hce

theorem fixedBlock_ok (h : RAt w B rb rp g zs p v out most sv dv) (hf : FixOk w B v sv dv) (hz : zs.length ≤ 140737488355328) (hm : most ≤ 268435456) :
    Calls Tryz.prog 76 #[.pointer (some ⟨rb, 0, none⟩)] w fun e w' => ∃ F, BlkIs (toks gg fixedL fixedD most F out (Infl.bitsOf zs) p) w B rb rp g zs v most e w' := by
  rcases hf with rfl | ⟨cs, cd, rfl, rfl, c1, c2⟩
  · exact fixedBlock_new h hz hm
  · exact fixedBlock_there h c1 c2 hz hm
end
end Go.Proofs.YtabeanealkopbaaGreat
end

section
namespace Go.Proofs.YtabeanealkopbaaGreat
open Go.RowKit Mth Infl
set_option maxRecDepth 100000
set_option linter.unusedVariables false

/-- what reads a block of that kind -/
def kindF (x rb : Nat) : Value := .func (.func (75 + x)) #[.pointer (some ⟨rb, 0, none⟩)] #[]

/-- what kind tells -/
def KindIs (w : World) (B rb rp g : Nat) (zs : List Nat) (p : Nat) (v : Value) (out : List Nat) (most : Nat) (sv dv : Value) (e : Ending) (w' : World) : Prop :=
  Chg rb rp v w v w' ∧ ∃ x q b, GotIs 2 zs p x q b ∧ RAt w' B rb rp g zs q v out most sv dv ∧ ((b = 0 ∧ x < 3 ∧ e = .returned (.tuple #[kindF x rb, .int .i64 0])) ∨ (b = 0 ∧ x = 3 ∧ e = .returned (.tuple #[.nilFunc, .int .i64 16])) ∨ (b = 10 ∧ e = .returned (.tuple #[.nilFunc, .int .i64 10])))

section
variable {rb rp : Nat} {v v1 : Value} {w w1 w' : World} {B g p q most : Nat} {zs out : List Nat} {sv dv : Value}

set_option maxHeartbeats 2000000 in
theorem kind_ok (h : RAt w B rb rp g zs p v out most sv dv) (hz : zs.length ≤ 140737488355328) :
    Calls Tryz.prog 49 #[.pointer (some ⟨rb, 0, none⟩)] w fun e w' => KindIs w B rb rp g zs p v out most sv dv e w' := by
  have HG := hide (rget 2 h hz (by decide))
  have c0 := h.c0
  clear h
  go_enter Tryz.func49, Tryz.ntmps49
  go_wp2_with fail
  refine (unhide HG).mono ?_
  rintro e w1 ⟨x, q, b, rfl, r1, d1, g1⟩
  have HK : Hid (∀ e, ((b = 0 ∧ x < 3 ∧ e = .returned (.tuple #[kindF x rb, .int .i64 0])) ∨ (b = 0 ∧ x = 3 ∧ e = .returned (.tuple #[.nilFunc, .int .i64 16])) ∨ (b = 10 ∧ e = .returned (.tuple #[.nilFunc, .int .i64 10]))) → KindIs w B rb rp g zs p v out most sv dv e w1) := hide fun e he => ⟨d1, x, q, b, g1, r1, he⟩
  rcases g1 with ⟨rfl, _, gx, _⟩ | ⟨rfl, rfl, _⟩
  · have hx : x < 4 := gx
    clear gx r1 d1
    rcases (show x = 0 ∨ x = 1 ∨ x = 2 ∨ x = 3 by omega) with rfl | rfl | rfl | rfl
    · have HE := hide (unhide HK _ (.inl ⟨rfl, by decide, rfl⟩))
      clear HK
      go_wp2_with fail
      go_ret2
      exact unhide HE
    · have HE := hide (unhide HK _ (.inl ⟨rfl, by decide, rfl⟩))
      clear HK
      go_wp2_with fail
      go_ret2
      exact unhide HE
    · have HE := hide (unhide HK _ (.inl ⟨rfl, by decide, rfl⟩))
      clear HK
      go_wp2_with fail
      go_ret2
      exact unhide HE
    · have HE := hide (unhide HK _ (.inr (.inl ⟨rfl, rfl, rfl⟩)))
      clear HK
      go_wp2_with fail
      go_ret2
      exact unhide HE
  · have HE := hide (unhide HK _ (.inr (.inr ⟨rfl, rfl⟩)))
    clear HK r1 d1
    go_wp2_with fail
    go_ret2
    exact unhide HE
end
end Go.Proofs.YtabeanealkopbaaGreat
end

section
namespace Go.Proofs.YtabeanealkopbaaGreat
open Go.RowKit Mth Infl
set_option maxRecDepth 100000
set_option linter.unusedVariables false

/-- by kinds -/
noncomputable def byKind (x most F : Nat) (out : List Nat) : Rd (List Nat) := if x = 0 then Infl.stored most out else if x = 1 then toks gg fixedL fixedD most F out else if x = 2 then told gg ce most F out else Rd.fail 16

theorem block_by (most F : Nat) (out : List Nat) : Infl.block gg ce most F out = (Infl.get 1).bind fun last => (Infl.get 2).bind fun kind => (byKind kind most F out).bind fun o => Rd.pure (last, o) := rfl

theorem loc_byKind (x most F : Nat) (out : List Nat) : Infl.Loc (byKind x most F out) := Infl.Loc.ite (Infl.Loc.stored most out) (.ite (Infl.Loc.toks gg_gl _ _ most F out) (.ite (Infl.Loc.told gg_gl most F out) (.fail _)))

/-- what is told so far: the rest is told by what is left, with enough fuel -/
def Goes (most : Nat) (zs oi : List Nat) (q : Nat) : Prop := ∃ n F0, ∀ F, F0 ≤ F → ∀ k, Infl.blocks gg ce most F (k + n) [] (Infl.bitsOf zs) 0 = Infl.blocks gg ce most F k oi (Infl.bitsOf zs) q

theorem Goes.start (most : Nat) (zs : List Nat) : Goes most zs [] 0 := ⟨0, 0, fun _ _ _ => rfl⟩

section
variable {most : Nat} {zs oi o : List Nat} {q q1 q2 q3 last x F b : Nat}

theorem block_is (h1 : Infl.get 1 (Infl.bitsOf zs) q = .ok last q1) (h2 : Infl.get 2 (Infl.bitsOf zs) q1 = .ok x q2) (h3 : byKind x most F oi (Infl.bitsOf zs) q2 = .ok o q3) : Infl.block gg ce most F oi (Infl.bitsOf zs) q = .ok (last, o) q3 := by
  rw [block_by, bind_of h1, bind_of h2, bind_of h3]
  rfl

theorem Goes.next (h : Goes most zs oi q) (hb : Infl.block gg ce most F oi (Infl.bitsOf zs) q = .ok (0, o) q3) : Goes most zs o q3 := by
  obtain ⟨n, F0, hn⟩ := h
  refine ⟨n + 1, max F0 F, fun F' hF k => ?_⟩
  rw [show k + (n + 1) = (k + 1) + n from by omega, hn F' (by omega) (k + 1), Infl.blocks]
  have hb' : Infl.block gg ce most F' oi (Infl.bitsOf zs) q = .ok (0, o) q3 := by
    rw [Up.block (g := gg) (ce := ce) most F F' oi (by omega) _ _ (by rw [hb]; simp), hb]
  rw [bind_of hb']
  simp only
  rw [if_neg (by decide)]

theorem Goes.fin (h : Goes most zs oi q) (hb : Infl.block gg ce most F oi (Infl.bitsOf zs) q = .ok (1, o) q3) : Tells gg ce (Infl.bitsOf zs) most (.ok o q3) := by
  obtain ⟨n, F0, hn⟩ := h
  refine ⟨by simp, max F0 F, 1 + n, ?_⟩
  rw [hn (max F0 F) (by omega) 1, Infl.blocks]
  have hb' : Infl.block gg ce most (max F0 F) oi (Infl.bitsOf zs) q = .ok (1, o) q3 := by
    rw [Up.block (g := gg) (ce := ce) most F (max F0 F) oi (by omega) _ _ (by rw [hb]; simp), hb]
  rw [bind_of hb']
  rfl

theorem Goes.bad (h : Goes most zs oi q) (hb : Infl.block gg ce most F oi (Infl.bitsOf zs) q = .bad b) : Tells gg ce (Infl.bitsOf zs) most (.bad b) := by
  obtain ⟨n, F0, hn⟩ := h
  refine ⟨by simp, max F0 F, 1 + n, ?_⟩
  rw [hn (max F0 F) (by omega) 1, Infl.blocks]
  have hb' : Infl.block gg ce most (max F0 F) oi (Infl.bitsOf zs) q = .bad b := by
    rw [Up.block (g := gg) (ce := ce) most F (max F0 F) oi (by omega) _ _ (by rw [hb]; simp), hb]
  rw [bind_bad hb']
end

/-- what has come of reading all -/
def ReadIs (r : Res (List Nat)) (most : Nat) (zs : List Nat) (w : World) (e : Ending) (w' : World) : Prop :=
  Below w.heap.size w w' ∧ ((∃ (o : List Nat) (q : Nat) (v' : Value), r = .ok o q ∧ e = .returned (.tuple #[v', .int .i64 (((q + 7) / 8 : Nat) : Int), .int .i64 0]) ∧ w'.ownsRow w.heap.size 5 1 v' o.length (o.map bv) ∧ (∀ z ∈ o, z < 256) ∧ o.length ≤ most ∧ q ≤ 8 * zs.length) ∨
    (∃ b : Nat, r = .bad b ∧ b ≠ 0 ∧ b < 100 ∧ e = .returned (.tuple #[.slice none 0 0, .int .i64 0, .int .i64 (b : Int)])))

/-- within it -/
structure BsAt (w ws : World) (B rb rp g : Nat) (zs : List Nat) (q : Nat) (vi : Value) (oi : List Nat) (most : Nat) (sv dv : Value) : Prop where
  rat : RAt ws B rb rp g zs q vi oi most sv dv
  fix : FixOk ws B vi sv dv
  bel : Below w.heap.size w ws
  lo : w.heap.size ≤ rb ∧ w.heap.size ≤ rp

section
variable {rb rp : Nat} {v v1 vi : Value} {w ws w1 w' : World} {B g p q q' most : Nat} {zs out oi o : List Nat} {sv dv sv' dv' : Value}

theorem BsAt.next (h : BsAt w ws B rb rp g zs q vi oi most sv dv) (hr : RAt w1 B rb rp g zs q' v1 o most sv' dv') (hf : FixOk w1 B v1 sv' dv') (hc : Chg rb rp vi ws v1 w1) : BsAt w w1 B rb rp g zs q' v1 o most sv' dv' :=
  ⟨hr, hf, h.bel.trans (hc.below h.lo.1 h.lo.2 h.bel.size (fun k e => by have := (h.rat.own e).1; have := h.rat.lb; have := h.lo; omega)), h.lo⟩

theorem BsAt.gone (h : BsAt w ws B rb rp g zs q vi oi most sv dv) (hc : Chg rb rp vi ws v1 w1) : Below w.heap.size w w1 :=
  h.bel.trans (hc.below h.lo.1 h.lo.2 h.bel.size (fun k e => by have := (h.rat.own e).1; have := h.rat.lb; have := h.lo; omega))
end

end Go.Proofs.YtabeanealkopbaaGreat
end

section
namespace Go.Proofs.YtabeanealkopbaaGreat
open Infl
set_option linter.unusedVariables false
namespace Defl

/-- a symbol of runs, with its bits' number, stands for a length, so many times -/
def stepOk (all : List Nat) (s m v n : Nat) : Prop :=
  (s ≤ 15 ∧ m = 0 ∧ v = s ∧ n = 1) ∨ (s = 16 ∧ m < 4 ∧ all ≠ [] ∧ v = all.getD (all.length - 1) 0 ∧ n = 3 + m) ∨ (s = 17 ∧ m < 8 ∧ v = 0 ∧ n = 3 + m) ∨ (s = 18 ∧ m < 128 ∧ v = 0 ∧ n = 11 + m)

theorem stepOk.pos {all : List Nat} {s m v n : Nat} (h : stepOk all s m v n) : 1 ≤ n ∧ s < 19 := by
  rcases h with ⟨_, _, _, h⟩ | ⟨h', _, _, _, h⟩ | ⟨h', _, _, h⟩ | ⟨h', _, _, h⟩ <;> omega

/-- how many bits go with a symbol of runs -/
def xb (s : Nat) : Nat := if s = 16 then 2 else if s = 17 then 3 else if s = 18 then 7 else 0

def rbits (z : List Nat) (r : Nat × Nat) : List Bool := wb z r.1 ++ nb r.2 (xb r.1)

/-- runs that make lengths, behind some -/
def RunsTo : List Nat → List (Nat × Nat) → List Nat → Prop
  | all, [], tgt => all = tgt
  | all, r :: rs, tgt => ∃ v n, stepOk all r.1 r.2 v n ∧ RunsTo (all ++ List.replicate n v) rs tgt

theorem RunsTo.le : ∀ {rs : List (Nat × Nat)} {all tgt : List Nat}, RunsTo all rs tgt → all.length + rs.length ≤ tgt.length
  | [], all, tgt, h => by
    have : all = tgt := h
    subst this
    simp
  | r :: rs, all, tgt, h => by
    obtain ⟨v, n, h1, h2⟩ := h
    have := h2.le
    have := h1.pos
    rw [List.length_append, List.length_replicate] at *
    simp
    omega

theorem stp_bits {all : List Nat} {s m v n : Nat} (h : stepOk all s m v n) {I : In} {p : Nat} (hl : Lies I p (nb m (xb s))) : stp all s I p = .ok (v, n) (p + xb s) := by
  unfold stp
  rcases h with ⟨h1, rfl, rfl, rfl⟩ | ⟨rfl, h1, h2, rfl, rfl⟩ | ⟨rfl, h1, rfl, rfl⟩ | ⟨rfl, h1, rfl, rfl⟩
  · rw [if_neg (by omega), if_neg (by omega), if_neg (by omega)]
    unfold xb
    rw [if_neg (by omega), if_neg (by omega), if_neg (by omega)]
    rfl
  · rw [if_pos rfl, bind_of (get_nb (n := 2) hl h1), if_neg h2]
    rfl
  · rw [if_neg (by decide), if_pos rfl, bind_of (get_nb (n := 3) hl h1)]
    rfl
  · rw [if_neg (by decide), if_neg (by decide), if_pos rfl, bind_of (get_nb (n := 7) hl h1)]
    rfl

theorem lens_bits {z : List Nat} (gz : Good z) (hz : z.length = 19) {I : In} {tot : Nat} {tgt : List Nat} (ht : tgt.length = tot) : ∀ (rs : List (Nat × Nat)) (all : List Nat) (p f : Nat), RunsTo all rs tgt → (∀ r ∈ rs, 0 < Canon.ln z r.1) → tot ≤ all.length + f → Lies I p ((rs.map (rbits z)).flatten) →
    lens gg z tot f all I p = .ok tgt (p + ((rs.map (rbits z)).flatten).length)
  | [], all, p, f, h, _, _, _ => by
    have e : all = tgt := h
    subst e
    rw [lens_done z tot f all (by omega)]
    rfl
  | r :: rs, all, p, f, h, hw, hf, hl => by
    have hle := RunsTo.le h
    obtain ⟨v, n, h1, h2⟩ := h
    have hp := h1.pos
    rw [List.length_cons] at hle
    obtain ⟨f', rfl⟩ : ∃ f', f = f' + 1 := ⟨f - 1, by omega⟩
    rw [List.map_cons, List.flatten_cons] at hl ⊢
    have l1 := hl.left
    unfold rbits at l1
    have w1 := word_wb gz (by omega) (hw r (by simp)) l1.left
    have l2 := l1.right
    rw [wb_length] at l2
    have w2 := stp_bits h1 l2
    have hle2 := RunsTo.le h2
    rw [List.length_append, List.length_replicate] at hle2
    rw [lens_stp z tot f' all (by omega), bind_of w1, bind_of w2]
    simp only
    rw [if_neg (by omega)]
    have l3 := hl.right
    have e : (rbits z r).length = Canon.ln z r.1 + xb r.1 := by unfold rbits; rw [List.length_append, wb_length, nb_length]
    rw [e, ← Nat.add_assoc] at l3
    rw [lens_bits gz hz ht rs (all ++ List.replicate n v) _ f' h2 (fun x hx => hw x (by simp [hx])) (by rw [List.length_append, List.length_replicate]; omega) l3]
    rw [List.length_append, e]
    congr 1
    omega

def tbits3 (vs : List Nat) : List Bool := (vs.map fun v => nb v 3).flatten

theorem tbits3_length : ∀ vs : List Nat, (tbits3 vs).length = 3 * vs.length
  | [] => rfl
  | v :: vs => by
    have := tbits3_length vs
    unfold tbits3 at this ⊢
    rw [List.map_cons, List.flatten_cons, List.length_append, nb_length, this, List.length_cons]
    omega

theorem threes_bits {I : In} : ∀ (vs l : List Nat) (p : Nat), (∀ v ∈ vs, v < 8) → Lies I p (tbits3 vs) → threes vs.length l I p = .ok (l ++ vs) (p + 3 * vs.length)
  | [], l, p, _, _ => by rw [List.append_nil]; rfl
  | v :: vs, l, p, h, hl => by
    have e : tbits3 (v :: vs) = nb v 3 ++ tbits3 vs := by unfold tbits3; rw [List.map_cons, List.flatten_cons]
    rw [e] at hl
    have r := hl.right
    rw [nb_length] at r
    rw [List.length_cons, threes_next vs.length l I p (p + 3) v (get_nb hl.left (h v (by simp))), threes_bits vs (l ++ [v]) (p + 3) (fun x hx => h x (by simp [hx])) r]
    rw [List.append_assoc, List.singleton_append]
    congr 1
    omega

/-- how codes are told -/
structure Plan where
  x : List Nat
  y : List Nat
  z : List Nat
  vs : List Nat
  rs : List (Nat × Nat)

def Plan.bits (c : Plan) : List Bool := nb (c.x.length - 257) 5 ++ (nb (c.y.length - 1) 5 ++ (nb (c.vs.length - 4) 4 ++ (tbits3 c.vs ++ (c.rs.map (rbits c.z)).flatten)))

/-- codes that can be told -/
structure Plan.ok (c : Plan) : Prop where
  x1 : 257 ≤ c.x.length
  x2 : c.x.length ≤ 286
  y1 : 1 ≤ c.y.length
  y2 : c.y.length ≤ 30
  v1 : 4 ≤ c.vs.length
  v2 : c.vs.length ≤ 19
  v7 : ∀ v ∈ c.vs, v < 8
  own : ownOf c.vs = c.z
  gz : Good c.z
  cz : ce c.z 7 false = 0
  runs : RunsTo [] c.rs (c.x ++ c.y)
  has : ∀ r ∈ c.rs, 0 < Canon.ln c.z r.1
  e256 : c.x.getD 256 0 ≠ 0
  cx : ce c.x 15 true = 0
  cy : ce c.y 15 true = 0

theorem cod_bits {c : Plan} (h : c.ok) {I : In} {p : Nat} (hl : Lies I p c.bits) : cod I p = .ok (c.x, c.y) (p + c.bits.length) := by
  unfold Plan.bits at hl
  have g1 := get_nb hl.left (by have := h.x2; have := h.x1; omega)
  have r1 := hl.right
  rw [nb_length] at r1
  have g2 := get_nb r1.left (by have := h.y2; have := h.y1; omega)
  have r2 := r1.right
  rw [nb_length] at r2
  have g3 := get_nb r2.left (by have := h.v2; have := h.v1; omega)
  have r3 := r2.right
  rw [nb_length] at r3
  have g4 := threes_bits c.vs [] _ h.v7 r3.left
  have r4 := r3.right
  rw [tbits3_length] at r4
  have e1 : c.x.length - 257 + 257 = c.x.length := by have := h.x1; omega
  have e2 : c.y.length - 1 + 1 = c.y.length := by have := h.y1; omega
  have e3 : c.vs.length - 4 + 4 = c.vs.length := by have := h.v1; omega
  have hcnt : cnt I p = .ok (c.x.length, c.y.length, c.vs.length) (p + 5 + 5 + 4) := by
    unfold cnt
    rw [bind_of g1, bind_of g2, bind_of g3, e1, e2, e3, if_neg (by have := h.x2; have := h.y2; omega)]
    rfl
  have hinn : inn c.vs.length I (p + 5 + 5 + 4) = .ok c.z (p + 5 + 5 + 4 + 3 * c.vs.length) := by
    unfold inn
    rw [bind_of g4, List.nil_append, h.own, h.cz]
    rfl
  have hz19 : c.z.length = 19 := by rw [← h.own, ownOf_length]
  have hlens := lens_bits h.gz hz19 (tgt := c.x ++ c.y) (tot := c.x.length + c.y.length) List.length_append c.rs [] _ (c.x.length + c.y.length) h.runs h.has (by omega) r4
  unfold cod
  rw [bind_of hcnt]
  simp only
  rw [bind_of hinn, bind_of hlens]
  have e4 : (c.x ++ c.y).getD 256 0 = c.x.getD 256 0 := by
    rw [List.getD_eq_getElem?_getD, List.getD_eq_getElem?_getD, List.getElem?_append_left (by have := h.x1; omega)]
  have e5 : p + c.bits.length = p + 5 + 5 + 4 + 3 * c.vs.length + ((c.rs.map (rbits c.z)).flatten).length := by
    unfold Plan.bits
    rw [List.length_append, List.length_append, List.length_append, List.length_append, nb_length, nb_length, nb_length, tbits3_length]
    omega
  rw [if_neg (by rw [e4]; exact h.e256), List.take_left, List.drop_left, okE_of _ h.cx, okE_of _ h.cy, e5]
  rfl

/-- a block's head -/
def head (last kind : Nat) : List Bool := nb last 1 ++ nb kind 2

theorem head_reads {I : In} {p last kind : Nat} {L : List Bool} (h1 : last < 2) (h2 : kind < 4) (h : Lies I p (head last kind ++ L)) : get 1 I p = .ok last (p + 1) ∧ get 2 I (p + 1) = .ok kind (p + 3) ∧ Lies I (p + 3) L := by
  have l1 := h.left
  unfold head at l1
  have r1 := l1.right
  rw [nb_length] at r1
  have r2 := h.right
  rw [show (head last kind).length = 3 from by unfold head; rw [List.length_append, nb_length, nb_length]] at r2
  exact ⟨get_nb l1.left (by omega), get_nb r1 (by omega), r2⟩

/-- a block by the fixed code -/
theorem block_fixed {zs : List Nat} {most last p F : Nat} {out : List Nat} {ts : List T} (hl : last < 2) (hF : ts.length < F) (hok : Toks fixedL fixedD out ts) (hroom : (exts out ts).length ≤ most) (h : Lies (Infl.bitsOf zs) p (head last 1 ++ (tbits fixedL fixedD ts ++ wb fixedL 256))) :
    Infl.block gg ce most F out (Infl.bitsOf zs) p = .ok (last, exts out ts) (p + (head last 1 ++ (tbits fixedL fixedD ts ++ wb fixedL 256)).length) := by
  obtain ⟨h1, h2, h3⟩ := head_reads hl (by decide) h
  have ht := toks_bits fixedL_good fixedD_good (most := most) (by decide +kernel) ts out (p + 3) F hF hok hroom h3
  rw [block_is h1 h2 (x := 1) (show byKind 1 most F out (Infl.bitsOf zs) (p + 3) = _ from ht), List.length_append (bs := tbits fixedL fixedD ts ++ wb fixedL 256)]
  rw [show (head last 1).length = 3 from by unfold head; rw [List.length_append, nb_length, nb_length], Nat.add_assoc]

/-- a block whose codes are told -/
theorem block_told {zs : List Nat} {most last p F : Nat} {out : List Nat} {ts : List T} {c : Plan} (hc : c.ok) (gx : Good c.x) (gy : Good c.y) (hl : last < 2) (hF : ts.length < F) (hok : Toks c.x c.y out ts) (hroom : (exts out ts).length ≤ most) (h : Lies (Infl.bitsOf zs) p (head last 2 ++ (c.bits ++ (tbits c.x c.y ts ++ wb c.x 256)))) :
    Infl.block gg ce most F out (Infl.bitsOf zs) p = .ok (last, exts out ts) (p + (head last 2 ++ (c.bits ++ (tbits c.x c.y ts ++ wb c.x 256))).length) := by
  obtain ⟨h1, h2, h3⟩ := head_reads hl (by decide) h
  have hcod := cod_bits hc h3.left
  have h256 : 256 < c.x.length ∧ 0 < Canon.ln c.x 256 := ⟨by have := hc.x1; omega, by have := hc.e256; unfold Canon.ln; omega⟩
  have ht := toks_bits gx gy (most := most) h256 ts out _ F hF hok hroom h3.right
  have hk : byKind 2 most F out (Infl.bitsOf zs) (p + 3) = .ok (exts out ts) (p + 3 + c.bits.length + (tbits c.x c.y ts ++ wb c.x 256).length) := by
    show told gg ce most F out (Infl.bitsOf zs) (p + 3) = _
    rw [told_cod, bind_of hcod]
    exact ht
  rw [block_is h1 h2 (x := 2) hk]
  have e1 : (head last 2 ++ (c.bits ++ (tbits c.x c.y ts ++ wb c.x 256))).length = 3 + (c.bits.length + (tbits c.x c.y ts ++ wb c.x 256).length) := by
    rw [List.length_append, List.length_append]
    rw [show (head last 2).length = 3 from by unfold head; rw [List.length_append, nb_length, nb_length]]
  rw [e1]
  congr 1
  omega

end Defl
end Go.Proofs.YtabeanealkopbaaGreat
end

section
namespace Go.Proofs.YtabeanealkopbaaGreat.Defl
open Infl
set_option linter.unusedVariables false

/-- a symbol's length, with the symbols that come in their order -/
def limOf (w : Nat → Nat) (order : List Nat) (M i : Nat) : Nat := if order.length ≤ 1 then (if order = [i] then 1 else 0) else Merge.out w order M i

def limL (w : Nat → Nat) (order : List Nat) (M n : Nat) : List Nat := (List.range n).map (limOf w order M)

/-- lengths that are right for numbers -/
structure LimOk (w : Nat → Nat) (M n : Nat) (ls : List Nat) : Prop where
  len : ls.length = n
  le : ∀ l ∈ ls, l ≤ M
  pos : ∀ i, i < n → 0 < w i → 0 < Canon.ln ls i
  zero : ∀ i, i < n → w i = 0 → Canon.ln ls i = 0
  loose : okSum ls true
  full : (∃ i j, i < n ∧ j < n ∧ i ≠ j ∧ 0 < w i ∧ 0 < w j) → okSum ls false
  good : Good ls

theorem sum_map (C : Nat → Nat) : ∀ n, (∀ i, i < n → C i ≤ 20) → Canon.sum ((List.range n).map C) = Merge.lsum (fun i => if 0 < C i then 2 ^ (20 - C i) else 0) (List.range n)
  | 0, _ => Canon.sum_nil
  | n + 1, h => by
    rw [List.range_succ, List.map_append, List.map_singleton, Canon.sum_snoc _ _ (h n (by omega)), sum_map C n (fun i hi => h i (by omega))]
    unfold Merge.lsum
    rw [List.map_append, List.sum_append]
    simp

theorem lsum_filter (f : Nat → Nat) (p : Nat → Bool) (L : List Nat) (h : ∀ i ∈ L, p i = false → f i = 0) : Merge.lsum f L = Merge.lsum f (L.filter p) := by
  induction L with
  | nil => rfl
  | cons x r ih =>
    rw [Merge.lsum_cons, ih (fun i hi => h i (by simp [hi])), List.filter_cons]
    by_cases hp : p x = true
    · rw [if_pos hp, Merge.lsum_cons]
    · have hp' : p x = false := by simpa using hp
      rw [if_neg hp, h x (by simp) hp', Nat.zero_add]

theorem lsum_perm {f : Nat → Nat} {L L' : List Nat} (h : L.Perm L') : Merge.lsum f L = Merge.lsum f L' := (h.map f).sum_nat

section
variable {w : Nat → Nat} {order : List Nat} {M n : Nat}

theorem out_zero (hM : 1 ≤ M) (hn : order.length ≤ 2 ^ M) {i : Nat} (hi : i ∉ order) : Merge.out w order M i = 0 := by
  obtain ⟨c, _, _, _, c4⟩ := Merge.out_counts (w := w) hM hn
  exact List.count_eq_zero.2 (fun h => hi (c4 i h))

theorem words_zero {ls : List Nat} (h : ∀ l ∈ ls, l = 0) : words ls = 0 := by
  unfold words
  rw [List.filter_eq_nil_iff.2 (fun l hl => by simp [h l hl])]
  rfl

theorem count_range (C : Nat → Nat) (k v : Nat) : ∀ n, (∀ i, i < n → (C i = v ↔ i = k)) → k < n → ((List.range n).map C).count v = 1
  | 0, _, h => by omega
  | n + 1, h, hk => by
    rw [List.range_succ, List.map_append, List.count_append, List.map_singleton]
    by_cases e : k = n
    · subst e
      have h0 : ((List.range k).map C).count v = 0 := List.count_eq_zero.2 (fun hm => by
        rw [List.mem_map] at hm
        obtain ⟨i, hi, hv⟩ := hm
        rw [List.mem_range] at hi
        have := (h i (by omega)).1 hv
        omega)
      rw [h0, (h k (by omega)).2 rfl]
      simp
    · rw [count_range C k v n (fun i hi => h i (by omega)) (by omega)]
      have : C n ≠ v := fun c => e ((h n (by omega)).1 c).symm
      simp [this]

theorem two_mem {l : List Nat} {i j : Nat} (hi : i ∈ l) (hj : j ∈ l) (h : i ≠ j) : 2 ≤ l.length := by
  cases l with
  | nil => simp at hi
  | cons a r =>
    cases r with
    | nil => simp at hi hj; omega
    | cons b r => simp

theorem lim_ok (hs : Merge.Sorted (Merge.baseOf w order)) (hd : order.Nodup) (hmem : ∀ i, i ∈ order ↔ i < n ∧ 0 < w i) (hM : 1 ≤ M) (hM2 : M ≤ 20) (hn : order.length ≤ 2 ^ M) : LimOk w M n (limL w order M n) := by
  have hln : ∀ i, i < n → Canon.ln (limL w order M n) i = limOf w order M i := fun i hi => by
    unfold Canon.ln limL
    rw [List.getD_eq_getElem?_getD, List.getElem?_map, List.getElem?_range hi]
    rfl
  have hle : ∀ i, limOf w order M i ≤ M := fun i => by
    unfold limOf
    split
    · split <;> omega
    · exact Merge.out_le hd hM hn i
  have hpos : ∀ i, i < n → 0 < w i → 0 < limOf w order M i := fun i hi hw => by
    have hin := (hmem i).2 ⟨hi, hw⟩
    unfold limOf
    by_cases h1 : order.length ≤ 1
    · rw [if_pos h1]
      have e : order = [i] := by
        match order, h1, hin with
        | [], _, h => simp at h
        | [a], _, h => simp at h; rw [h]
        | a :: b :: r, h, _ => simp at h
      rw [if_pos e]; decide
    · rw [if_neg h1]
      exact Merge.out_pos hd hM hn (by omega) hin
  have hzero : ∀ i, i < n → w i = 0 → limOf w order M i = 0 := fun i hi hw => by
    have hin : i ∉ order := fun h => by have := ((hmem i).1 h).2; omega
    unfold limOf
    by_cases h1 : order.length ≤ 1
    · rw [if_pos h1, if_neg (fun e => hin (by rw [e]; simp))]
    · rw [if_neg h1]
      exact out_zero hM hn hin
  have hlel : ∀ l ∈ limL w order M n, l ≤ M := fun l hl => by
    unfold limL at hl
    rw [List.mem_map] at hl
    obtain ⟨i, _, rfl⟩ := hl
    exact hle i
  have hfull : 2 ≤ order.length → Canon.sum (limL w order M n) = 1048576 := fun h2 => by
    unfold limL
    rw [sum_map _ n (fun i _ => Nat.le_trans (hle i) hM2), lsum_filter _ (fun i => decide (0 < w i)) _ (fun i hi hp => by
      rw [List.mem_range] at hi
      have hw : w i = 0 := by simpa using hp
      show (if 0 < limOf w order M i then _ else 0) = 0
      rw [hzero i hi hw, if_neg (by omega)])]
    have hperm : ((List.range n).filter (fun i => decide (0 < w i))).Perm order := (List.perm_ext_iff_of_nodup (List.Pairwise.filter _ List.nodup_range) hd).2 fun i => by
      rw [hmem i, List.mem_filter, List.mem_range]; simp
    rw [lsum_perm hperm]
    have e1 : Merge.lsum (fun i => if 0 < limOf w order M i then 2 ^ (20 - limOf w order M i) else 0) order = Merge.lsum (fun i => 2 ^ (M + (20 - M) - Merge.out w order M i)) order := Merge.lsum_congr fun i hi => by
      have hb := (hmem i).1 hi
      rw [if_pos (hpos i hb.1 hb.2), show M + (20 - M) = 20 from by omega]
      unfold limOf
      rw [if_neg (by omega)]
    rw [e1, Merge.kraft_more (fun i _ => Merge.out_le hd hM hn i), Merge.out_full hs hd (fun i hi => ((hmem i).1 hi).2) hM hn h2, ← Nat.pow_add, show M + (20 - M) = 20 from by omega]
  have hloose : okSum (limL w order M n) true := by
    by_cases h2 : 2 ≤ order.length
    · exact .inl (hfull h2)
    · refine .inr ⟨rfl, ?_⟩
      by_cases h0 : order.length = 0
      · refine .inl (words_zero fun l hl => ?_)
        unfold limL at hl
        rw [List.mem_map] at hl
        obtain ⟨i, _, rfl⟩ := hl
        have e : order = [] := List.eq_nil_of_length_eq_zero h0
        unfold limOf
        rw [if_pos (by omega), if_neg (by rw [e]; simp)]
      · obtain ⟨k, hk⟩ : ∃ k, order = [k] := by
          match order, h0, h2 with
          | [], h, _ => simp at h
          | [a], _, _ => exact ⟨a, rfl⟩
          | a :: b :: r, _, h => simp at h
        have hkn := (hmem k).1 (by rw [hk]; simp)
        have hC : ∀ i, limOf w order M i = if i = k then 1 else 0 := fun i => by
          unfold limOf
          rw [if_pos (by omega), hk]
          by_cases e : i = k
          · rw [if_pos e, if_pos (by rw [e])]
          · rw [if_neg e, if_neg (by intro c; injection c with c; exact e c.symm)]
        have hc1 : (limL w order M n).count 1 = 1 := count_range _ k 1 n (fun i hi => by
          rw [hC i]
          by_cases e : i = k
          · simp [e]
          · simp [e]) hkn.1
        refine .inr ⟨?_, hc1⟩
        unfold words
        rw [← hc1, List.count_eq_length_filter]
        congr 1
        refine List.filter_congr fun l hl => ?_
        unfold limL at hl
        rw [List.mem_map] at hl
        obtain ⟨i, _, rfl⟩ := hl
        rw [hC i]
        by_cases e : i = k
        · simp [e]
        · simp [e]
  refine ⟨by simp [limL], hlel, fun i hi hw => by rw [hln i hi]; exact hpos i hi hw, fun i hi hw => by rw [hln i hi]; exact hzero i hi hw, hloose, ?_, ⟨fun l hl => Nat.le_trans (hlel l hl) hM2, okSum.le (fun l hl => Nat.le_trans (hlel l hl) hM2) hloose⟩⟩
  rintro ⟨i, j, hi, hj, hne, wi, wj⟩
  refine .inl (hfull ?_)
  have h1 := (hmem i).2 ⟨hi, wi⟩
  have h2 := (hmem j).2 ⟨hj, wj⟩
  exact two_mem h1 h2 hne
end

end Go.Proofs.YtabeanealkopbaaGreat.Defl
end

section
namespace Go.Proofs.YtabeanealkopbaaGreat.Defl
set_option linter.unusedVariables false

/-- how many like it stand there -/
def cntRun (v : Int) : List Int → Nat
  | [] => 0
  | x :: r => if x = v then 1 + cntRun v r else 0

theorem cntRun_le (v : Int) : ∀ l : List Int, cntRun v l ≤ l.length
  | [] => Nat.le_refl _
  | x :: r => by
    have := cntRun_le v r
    unfold cntRun
    split
    · simp; omega
    · simp

theorem cntRun_take (v : Int) : ∀ (l : List Int) (n : Nat), n ≤ cntRun v l → l.take n = List.replicate n v
  | l, 0, _ => by simp
  | [], n + 1, h => by simp [cntRun] at h
  | x :: r, n + 1, h => by
    unfold cntRun at h
    by_cases e : x = v
    · rw [if_pos e] at h
      rw [List.take_succ_cons, List.replicate_succ, cntRun_take v r n (by omega), e]
    · rw [if_neg e] at h
      omega

/-- a step at a place: the symbol, what goes with it, how many are gone on -/
def stepR (l : List Int) (a : Nat) : Int × Nat × Nat :=
  if l.getD a 0 = 0 ∧ 11 ≤ cntRun (l.getD a 0) (l.drop a) then (18, min (cntRun (l.getD a 0) (l.drop a)) 138 - 11, min (cntRun (l.getD a 0) (l.drop a)) 138)
  else if l.getD a 0 = 0 ∧ 3 ≤ cntRun (l.getD a 0) (l.drop a) then (17, cntRun (l.getD a 0) (l.drop a) - 3, cntRun (l.getD a 0) (l.drop a))
  else if 0 < l.getD a 0 ∧ 0 < a ∧ l.getD (a - 1) 0 = l.getD a 0 ∧ 3 ≤ cntRun (l.getD a 0) (l.drop a) then (16, min (cntRun (l.getD a 0) (l.drop a)) 6 - 3, min (cntRun (l.getD a 0) (l.drop a)) 6)
  else (l.getD a 0, 0, 1)

/-- from a place on -/
def runsF (l : List Int) : Nat → Nat → List (Int × Nat)
  | 0, _ => []
  | k + 1, a => if a < l.length then ((stepR l a).1, (stepR l a).2.1) :: runsF l k (a + (stepR l a).2.2) else []

def runsL (l : List Int) : List (Int × Nat) := runsF l l.length 0

def nn (r : Int × Nat) : Nat × Nat := (r.1.toNat, r.2)

theorem cnt_pos (l : List Int) (a : Nat) (h : a < l.length) : 1 ≤ cntRun (l.getD a 0) (l.drop a) := by
  rw [List.getD_eq_getElem?_getD, List.getElem?_eq_getElem h, List.drop_eq_getElem_cons h]
  unfold cntRun
  rw [if_pos (by simp)]
  omega

/-- a step is of how many stand there, at least one -/
theorem stepR_n (l : List Int) (a : Nat) (h : a < l.length) : 1 ≤ (stepR l a).2.2 ∧ (stepR l a).2.2 ≤ cntRun (l.getD a 0) (l.drop a) := by
  have h1 := cnt_pos l a h
  unfold stepR
  split
  · exact ⟨by simp only; omega, by simp only; omega⟩
  · split
    · exact ⟨by simp only; omega, by simp only; omega⟩
    · split
      · exact ⟨by simp only; omega, by simp only; omega⟩
      · exact ⟨by simp only; omega, by simp only; omega⟩

theorem take_step (l : List Int) (a n : Nat) (h : n ≤ cntRun (l.getD a 0) (l.drop a)) : l.take (a + n) = l.take a ++ List.replicate n (l.getD a 0) := by
  rw [List.take_add, cntRun_take _ _ n h]

/-- without what is 0 at the end, but at least n stay -/
def trim (n : Nat) : Nat → List Nat → List Nat
  | 0, l => l
  | k + 1, l => if n < l.length ∧ l.getD (l.length - 1) 0 = 0 then trim n k (l.take (l.length - 1)) else l

theorem trim_is (n : Nat) : ∀ (k : Nat) (l : List Nat), n ≤ l.length → n ≤ (trim n k l).length ∧ (trim n k l).length ≤ l.length ∧ ∀ i, (trim n k l).getD i 0 = l.getD i 0
  | 0, l, h => ⟨h, Nat.le_refl _, fun _ => rfl⟩
  | k + 1, l, h => by
    unfold trim
    by_cases c : n < l.length ∧ l.getD (l.length - 1) 0 = 0
    · rw [if_pos c]
      have hl : (l.take (l.length - 1)).length = l.length - 1 := by rw [List.length_take]; omega
      obtain ⟨i1, i2, i3⟩ := trim_is n k (l.take (l.length - 1)) (by omega)
      refine ⟨i1, by omega, fun i => ?_⟩
      rw [i3 i, List.getD_eq_getElem?_getD, List.getElem?_take]
      by_cases e : i < l.length - 1
      · rw [if_pos e, List.getD_eq_getElem?_getD]
      · rw [if_neg e]
        by_cases e2 : i = l.length - 1
        · rw [e2, c.2]; rfl
        · rw [List.getD_eq_getElem?_getD, List.getElem?_eq_none (by omega)]
    · rw [if_neg c]
      exact ⟨h, Nat.le_refl _, fun _ => rfl⟩

theorem trim_mem (n : Nat) : ∀ (k : Nat) (l : List Nat) (x : Nat), x ∈ trim n k l → x ∈ l
  | 0, l, x, h => h
  | k + 1, l, x, h => by
    unfold trim at h
    split at h
    · exact List.mem_of_mem_take (trim_mem n k _ x h)
    · exact h

end Go.Proofs.YtabeanealkopbaaGreat.Defl
end

section
namespace Go.Proofs.YtabeanealkopbaaGreat.Defl
open Infl
set_option linter.unusedVariables false

/-- what a step stands for -/
theorem stepR_ok (ls : List Nat) (a : Nat) (h : a < ls.length) (h15 : ∀ x ∈ ls, x ≤ 15) :
    stepOk (ls.take a) (stepR (ls.map fun x : Nat => (x : Int)) a).1.toNat (stepR (ls.map fun x : Nat => (x : Int)) a).2.1 (ls.getD a 0) (stepR (ls.map fun x : Nat => (x : Int)) a).2.2 := by
  have hv : (ls.map fun x : Nat => (x : Int)).getD a 0 = ((ls.getD a 0 : Nat) : Int) := by
    rw [List.getD_eq_getElem?_getD, List.getElem?_map, List.getD_eq_getElem?_getD, List.getElem?_eq_getElem h]
    rfl
  have hx : ls.getD a 0 ≤ 15 := h15 _ (by rw [List.getD_eq_getElem?_getD, List.getElem?_eq_getElem h]; exact List.getElem_mem _)
  unfold stepR
  rw [hv]
  generalize cntRun ((ls.getD a 0 : Nat) : Int) ((ls.map fun x : Nat => (x : Int)).drop a) = n
  by_cases c1 : ((ls.getD a 0 : Nat) : Int) = 0 ∧ 11 ≤ n
  · rw [if_pos c1]
    exact .inr (.inr (.inr ⟨rfl, by simp only; omega, by omega, by simp only; omega⟩))
  · rw [if_neg c1]
    by_cases c2 : ((ls.getD a 0 : Nat) : Int) = 0 ∧ 3 ≤ n
    · rw [if_pos c2]
      exact .inr (.inr (.inl ⟨rfl, by simp only; omega, by omega, by simp only; omega⟩))
    · rw [if_neg c2]
      by_cases c3 : 0 < ((ls.getD a 0 : Nat) : Int) ∧ 0 < a ∧ (ls.map fun x : Nat => (x : Int)).getD (a - 1) 0 = ((ls.getD a 0 : Nat) : Int) ∧ 3 ≤ n
      · rw [if_pos c3]
        have hl : (ls.take a).length = a := by rw [List.length_take]; omega
        have hp : (ls.map fun x : Nat => (x : Int)).getD (a - 1) 0 = ((ls.getD (a - 1) 0 : Nat) : Int) := by
          rw [List.getD_eq_getElem?_getD, List.getElem?_map, List.getD_eq_getElem?_getD, List.getElem?_eq_getElem (show a - 1 < ls.length by omega)]
          rfl
        have e1 : ls.getD (a - 1) 0 = ls.getD a 0 := by have := c3.2.2.1; rw [hp] at this; omega
        refine .inr (.inl ⟨rfl, by simp only; omega, fun e => ?_, ?_, by simp only; omega⟩)
        · rw [e] at hl; simp at hl; omega
        · rw [hl, List.getD_eq_getElem?_getD (l := ls.take a), List.getElem?_take, if_pos (by omega), ← e1, List.getD_eq_getElem?_getD]
      · rw [if_neg c3]
        exact .inl ⟨by simp only; omega, rfl, by simp only; omega, rfl⟩

/-- Runs make the lengths again -/
theorem runs_to (ls : List Nat) (h15 : ∀ x ∈ ls, x ≤ 15) : ∀ (k a : Nat), ls.length ≤ a + k → a ≤ ls.length → RunsTo (ls.take a) ((runsF (ls.map fun x : Nat => (x : Int)) k a).map nn) ls
  | 0, a, h, ha => by
    show ls.take a = ls
    exact List.take_of_length_le (by omega)
  | k + 1, a, h, ha => by
    unfold runsF
    by_cases hlt : a < ls.length
    · rw [if_pos (by rw [List.length_map]; exact hlt), List.map_cons]
      have hn := stepR_n (ls.map fun x : Nat => (x : Int)) a (by rw [List.length_map]; exact hlt)
      have hle : a + (stepR (ls.map fun x : Nat => (x : Int)) a).2.2 ≤ ls.length := by
        have := cntRun_le ((ls.map fun x : Nat => (x : Int)).getD a 0) ((ls.map fun x : Nat => (x : Int)).drop a)
        rw [List.length_drop, List.length_map] at this
        omega
      refine ⟨ls.getD a 0, (stepR (ls.map fun x : Nat => (x : Int)) a).2.2, stepR_ok ls a hlt h15, ?_⟩
      have ht := take_step (ls.map fun x : Nat => (x : Int)) a _ hn.2
      have ht2 : ls.take (a + (stepR (ls.map fun x : Nat => (x : Int)) a).2.2) = ls.take a ++ List.replicate (stepR (ls.map fun x : Nat => (x : Int)) a).2.2 (ls.getD a 0) := by
        have hinj : ∀ {x y : List Nat}, (x.map fun x : Nat => (x : Int)) = (y.map fun x : Nat => (x : Int)) → x = y := fun {x y} e => (List.map_inj_right (fun a b hab => by have h : (a : Int) = (b : Int) := hab; omega)).1 e
        refine hinj ?_
        rw [List.map_append, List.map_replicate, List.map_take, List.map_take, ht]
        congr 2
        rw [List.getD_eq_getElem?_getD, List.getElem?_map, List.getD_eq_getElem?_getD, List.getElem?_eq_getElem hlt]
        rfl
      rw [← ht2]
      exact runs_to ls h15 k _ (by omega) hle
    · rw [if_neg (by rw [List.length_map]; exact hlt)]
      show ls.take a = ls
      exact List.take_of_length_le (by omega)

theorem runsL_to (ls : List Nat) (h15 : ∀ x ∈ ls, x ≤ 15) : RunsTo [] ((runsL (ls.map fun x : Nat => (x : Int))).map nn) ls := by
  have := runs_to ls h15 (ls.map fun x : Nat => (x : Int)).length 0 (by rw [List.length_map]; omega) (Nat.zero_le _)
  rw [List.take_zero] at this
  exact this

end Go.Proofs.YtabeanealkopbaaGreat.Defl
end
