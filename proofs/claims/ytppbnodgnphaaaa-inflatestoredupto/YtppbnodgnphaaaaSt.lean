/- A block that stands as it is. -/
import Derived.Test.YtppbnodgnphaaaaPc
namespace Go.Proofs.Ytppbnodgnphaaaa
open Go.RowKit Mth Infl
set_option maxRecDepth 100000
set_option linter.unusedVariables false

theorem bytes_bad : ∀ (n : Nat) (out : List Nat) (I : In) (p : Nat), p ≤ I.m → I.m < p + 8 * n → Infl.bytes n out I p = .bad 10
  | 0, out, I, p, h1, h2 => by omega
  | n + 1, out, I, p, h1, h2 => by
    rw [Infl.bytes]
    by_cases c : p + 8 ≤ I.m
    · rw [bind_of (x := num I.f p 8) (o := p + 8) (by unfold Infl.get; rw [if_pos c])]
      exact bytes_bad n _ I (p + 8) c (by omega)
    · rw [bind_bad (e := 10) (by unfold Infl.get; rw [if_neg c])]

theorem bytes_is (zs : List Nat) (hs : ∀ z ∈ zs, z < 256) (n j : Nat) (out : List Nat) (h : j + n ≤ zs.length) : Infl.bytes n out (Infl.bitsOf zs) (8 * j) = .ok (out ++ (zs.drop j).take n) (8 * (j + n)) := by
  have hl : ((zs.drop j).take n).length = n := by simp; omega
  have := bytes_at zs ((zs.drop j).take n) j out (fun i hi => by
    rw [hl] at hi
    rw [List.getElem?_take, if_pos hi, List.getElem?_drop]) (fun x hx => hs x (List.mem_of_mem_drop (List.mem_of_mem_take hx)))
  rw [hl] at this
  exact this

theorem app_zero (w : World) (ty : TypeId) (a b : Option Addr) (n c c' : Nat) (hle : n ≤ c) : (Builtin.append_ #[22, 22] ty #[.slice a n c, .slice b 0 c']).run Try.prog w = .ok (.slice a n c) w := by
  obtain ⟨i0, hi, hz0, hz1, hz2⟩ := info_parts info5
  cases a <;> cases b <;> simp [Builtin.append_, Builtin.lenOf, Builtin.firstCells, run_underlying Try.underlying22, sizeOf, typeInfo, hi, hle, loadCells, loadCellsFrom, storeCells]

/-- nothing is appended -/
theorem wpList_append_zero {w : World} {ops : Array Oper} {rest : List Oper} {o : Oper} {a : Act} {Q : Exit → Act → World → Prop} (hgd : o.guard = none) (s x : Operand)
    (ho : o.op = .call { callee := .builtin .append, args := #[s, x], argTypes := #[22, 22] })
    (va b : Option Addr) (n c c' : Nat) (hle : n ≤ c) (hs : a.eval s = .slice va n c) (hx : a.eval x = .slice b 0 c')
    (h : wpList Try.prog ops Q rest (a.put o.dst (.slice va n c)) w) : wpList Try.prog ops Q (o :: rest) a w := by
  refine wpList_plain hgd fun K hK => ?_
  have hrun := app_zero w o.type va b n c c' hle
  unfold Oper.wp
  simp [execOp, ho, resolve, invoke, builtin, hs, hx, hrun, Result.andThen]
  exact hK _ _ h

section
variable {rb rp : Nat} {v : Value} {w w1 : World} {B g p q most : Nat} {zs out : List Nat} {sv dv : Value}

/-- what came out is put there anew -/
theorem RAt.same (h : RAt w B rb rp g zs p v out most sv dv) : RAt (w.setCell ⟨rb, 2, none⟩ v) B rb rp g zs p v out most sv dv := by
  have e : ∀ k, k ≠ rb → (w.setCell ⟨rb, 2, none⟩ v).heap[k]? = w.heap[k]? := fun k hk => heap_setCell_other _ _ _ _ (by exact hk)
  refine ⟨?_, h.rd.keep (e rp h.ne) (e g h.ng), own_keep h.row (fun k hk => e k (by have := (h.own hk).1; have := h.lb; omega)), h.small, h.lb, h.lp, h.lg, h.ne, h.ng, h.ol, by simpa using h.hB⟩
  rw [heap_setCell_same _ rb 2 _ _ _ h.blk]
  simp

theorem Chg.same {v0 : Value} {w0 : World} (h : Chg rb rp v0 w0 v w) (u : Value) : Chg rb rp v0 w0 v (w.setCell ⟨rb, 2, none⟩ u) :=
  ⟨h.os, h.tape, h.output, by simpa using h.size, fun k h1 h2 h3 h4 => by rw [heap_setCell_other _ _ _ _ (by exact h2)]; exact h.keep k h1 h2 h3 h4, h.lies⟩

theorem RAt.slice' (h : RAt w B rb rp g zs p v out most sv dv) : ∃ a c, v = .slice a out.length c ∧ out.length ≤ c := by
  rcases h.row.2 with ⟨e, hn⟩ | ⟨g, c, cur, e, hb, hh, hle, _⟩
  · exact ⟨none, 0, by rw [e, hn], by omega⟩
  · exact ⟨_, c, e, hle⟩

theorem ralign (h : RAt w B rb rp g zs p v out most sv dv) (hz : zs.length ≤ 140737488355328) :
    Calls Try.prog 41 #[.pointer (some ⟨rp, 0, none⟩)] w fun e w' => e = .returned (.int .i64 0) ∧ RAt w' B rb rp g zs ((p + 7) / 8 * 8) v out most sv dv ∧ Chg rb rp v w v w' := by
  refine (ralign_ok rp g p false zs w h.rd hz).mono ?_
  rintro e w' ⟨rfl, hr, h1, h2, h3, h4, h5⟩
  have ho : Only rp w w' := ⟨h2, h3, h4, by omega, fun x _ hx => h5 x hx⟩
  exact ⟨rfl, h.only ho hr, Chg.only rb v ho⟩

theorem xor_ffff (x : Nat) (hx : x < 65536) : bits .xor .u64 (x : Int) 65535 = ((65535 - x : Nat) : Int) := by
  have h1 : (x ^^^ 65535 : Nat) = 65535 - x := by
    refine Nat.eq_of_testBit_eq fun i => ?_
    rw [show 65535 - x = 2 ^ 16 - (x + 1) from by omega, Nat.testBit_two_pow_sub_succ (by omega), Nat.testBit_xor, show (65535 : Nat) = 2 ^ 16 - 1 from rfl, Nat.testBit_two_pow_sub_one]
    by_cases hi : i < 16
    · simp [hi]
    · have : x.testBit i = false := Nat.testBit_lt_two_pow (Nat.lt_of_lt_of_le hx (Nat.pow_le_pow_right (n := 2) (by decide) (show 16 ≤ i by omega)))
      simp [hi, this]
  have := u64_xor_nat x 65535 (by omega) (by omega)
  rw [← h1]
  exact this

set_option maxHeartbeats 2000000 in
theorem stored_ok (h : RAt w B rb rp g zs p v out most sv dv) (hz : zs.length ≤ 140737488355328) (hm : most ≤ 268435456) :
    Calls Try.prog 37 #[.pointer (some ⟨rb, 0, none⟩)] w fun e w' => Did (Infl.stored most out (Infl.bitsOf zs) p) w B rb rp g zs v most sv dv e w' := by
  obtain ⟨i0, hi, hz0, hz1, hz2⟩ := info_parts info5
  have c0 := h.c0
  have HA := hide (ralign h hz)
  obtain ⟨a, ha⟩ : ∃ a, a = (p + 7) / 8 * 8 := ⟨_, rfl⟩
  rw [← ha] at HA
  have ha8 : a % 8 = 0 := by omega
  have HP : Hid (∀ r, Infl.stored most out (Infl.bitsOf zs) p = r ↔ ((Infl.get 16).bind fun n => (Infl.get 16).bind fun m =>
    if m ≠ 65535 - n then Rd.fail 11 else if most < out.length + n then Rd.fail 3 else Infl.bytes n out) (Infl.bitsOf zs) a = r) := hide (fun r => by unfold Infl.stored; rw [bind_of (x := ()) (o := a) (by unfold Infl.align; rw [ha])])
  have HA8 := hide ha8
  clear h ha ha8
  go_enter Try.func37, Try.ntmps37
  go_wp2_with fail
  refine wp_scope_on 0 rfl ?_
  go_wp2_with fail
  refine (unhide HA).mono ?_
  rintro e w1 ⟨rfl, r1, d1⟩
  have HG := hide (rget 16 r1 hz (by decide))
  have HD1 := hide d1
  have c0 := r1.c0
  clear r1 d1 HA
  go_wp2_with fail
  refine (unhide HG).mono ?_
  rintro e w2 ⟨x, q2, b, rfl, r2, d2, g2⟩
  clear HG c0
  rcases g2 with ⟨rfl, g2, gx, gq⟩ | ⟨rfl, rfl, g2⟩
  · have HG2 := hide g2
    have HD2 := hide ((unhide HD1).trans d2)
    have HG := hide (rget 16 r2 hz (by decide))
    have c0 := r2.c0
    have hx16 : x < 65536 := gx
    have HQ2 := hide gq
    clear g2 d2 r2 HD1 gx gq
    go_wp2_with fail
    refine (unhide HG).mono ?_
    rintro e w3 ⟨y, q3, b, rfl, r3, d3, g3⟩
    clear HG c0
    rcases g3 with ⟨rfl, g3, gx, gq⟩ | ⟨rfl, rfl, g3⟩
    · have HD3 := hide ((unhide HD2).trans d3)
      have HP2 : Hid (∀ r, Infl.stored most out (Infl.bitsOf zs) p = r ↔ (if y ≠ 65535 - x then Rd.fail 11 else if most < out.length + x then Rd.fail 3 else Infl.bytes x out) (Infl.bitsOf zs) q3 = r) := hide (fun r => by rw [unhide HP r, bind_of (unhide HG2), bind_of g3])
      have HR3 := hide r3
      have hy16 : y < 65536 := gx
      have HQ3 : Hid (q3 = a + 32) := hide (by have := unhide HQ2; omega)
      have hxor := xor_ffff x hx16
      have hq3le := r3.rd.le
      clear g3 d3 r3 HG2 HD2 HP gx gq HQ2
      by_cases hxy : y = 65535 - x
      · have t1 : ((y : Int) == ((65535 - x : Nat) : Int)) = true := by simp only [beq_iff_eq]; omega
        have HXY := hide hxy
        have hcv := conv_u64 x (by omega)
        clear hxy
        by_cases hbig : most < out.length + x
        · have HF := hide (fit_no x (unhide HR3) hm hbig (by omega))
          have HE : Hid (∀ k, Did (Infl.stored most out (Infl.bitsOf zs) p) w B rb rp g zs v most sv dv (.returned (.int .i64 ((3 : Nat) : Int))) (w3.drewN k)) := hide fun k => Did.no 3 ((unhide HP2 _).2 (by rw [if_neg (not_not_intro (unhide HXY)), if_pos hbig]; rfl)) (by decide) (by decide) ((unhide HD3).drewN k)
          clear hbig
          go_wp2_with fail
          refine (unhide HF).mono ?_
          rintro e w4 ⟨rfl, k, rfl⟩
          go_wp2_with fail
          go_step3
          refine ⟨rfl, ?_⟩
          go_wp2_with fail
          rw [Exit.noGoto_ret]
          go_ret
          exact unhide HE k
        · have HF := hide (fit_yes x (unhide HR3) hm hbig (by omega))
          have HP3 : Hid (∀ r, Infl.stored most out (Infl.bitsOf zs) p = r ↔ Infl.bytes x out (Infl.bitsOf zs) q3 = r) := hide (fun r => by rw [unhide HP2 r, if_neg (not_not_intro (unhide HXY)), if_neg hbig])
          have HBIG := hide hbig
          obtain ⟨j, hj⟩ : ∃ j, q3 = 8 * j := ⟨q3 / 8, by have := unhide HQ3; have := unhide HA8; omega⟩
          have HJ := hide hj
          have hjz : j ≤ zs.length := by omega
          clear hbig HP2 HQ3 hj
          go_wp2_with fail
          refine (unhide HF).mono ?_
          rintro e w4 ⟨rfl, k, rfl⟩
          have HR4 := hide ((unhide HR3).drewN k)
          have HD4 := hide ((unhide HD3).drewN k)
          generalize w3.drewN k = w4 at HR4 HD4 ⊢
          clear HF HR3 HD3
          have c0 := (unhide HR4).c0
          by_cases hend : j + x ≤ zs.length
          · have HB := hide (rbytes_ok rp g q3 false zs (x : Int) w4 (unhide HR4).rd hz (by omega) (by have := unhide HJ; omega) (by have := unhide HJ; simp; omega) (heap_lt (unhide HR4).rd.row))
            go_wp2_with fail
            refine (unhide HB).mono ?_
            rintro e w5 ⟨rfl, hblk, hrd, honly⟩
            rw [show (x : Int).toNat = x from by simp] at hblk hrd ⊢
            rw [show q3 / 8 = j from by have := unhide HJ; omega] at hblk
            have r5 := (unhide HR4).only honly hrd
            have HD5 := hide ((unhide HD4).trans (Chg.only rb v honly))
            have hbs := bytes_is zs (unhide HR4).rd.small x j out hend
            rw [show 8 * (j + x) = q3 + 8 * x from by have := unhide HJ; omega, show 8 * j = q3 from (unhide HJ).symm] at hbs
            have HPF := hide ((unhide HP3 _).2 hbs)
            have HBLK := hide hblk
            have HLT := hide (heap_lt hblk)
            have HR5 := hide r5
            clear hblk hrd honly hbs HB c0 HR4 HD4
            have c2 := r5.c2
            have f2 := r5.fz 2
            obtain ⟨va, vc, hv, hvc⟩ := r5.slice'
            clear r5
            by_cases hx0 : x = 0
            · subst hx0
              have HE : Hid (Did (Infl.stored most out (Infl.bitsOf zs) p) w B rb rp g zs v most sv dv (.returned (.int .i64 0)) (w5.setCell ⟨rb, 2, none⟩ (.slice va out.length vc))) := hide (.inl ⟨v, out, q3 + 8 * 0, by rw [unhide HPF]; simp, rfl, by rw [← hv]; exact (unhide HR5).same, by rw [← hv]; exact (unhide HD5).same v⟩)
              rw [hv] at c2
              generalize out.length = ol at c2 HE hvc
              clear hv
              have HVC := hide hvc
              clear hvc
              go_wp2_with (at_builtin; go_must (refine wpList_append_zero rfl (.tmp 55) (.tmp 56) rfl va _ ol vc 0 (unhide HVC) (by rfl) (by rfl) ?_))
              go_step3
              go_wp2_with fail
              refine jump_ret_of ?_
              go_ret
              exact unhide HE
            · have hx1 : 0 < x := by omega
              have HNEW : Hid (∀ (jj : Nat) u, (((zs.drop j).take x).map bv)[jj]? = some u → w5.cell? ((⟨w4.heap.size, 0, none⟩ : Addr).add jj) = some u) := hide (fun jj u hu => World.news_of_block (unhide HBLK) jj u (by simpa using hu))
              have hkl : ((zs.drop j).take x).length = x := by simp; omega
              have HKL := hide hkl
              have HOW := hide (unhide HR5).row
              have HSM := hide (unhide HR5).rd.small
              have hlt := (unhide HR5).lt
              have HNX : Hid (∀ g' cap' w', w'.ownsRow B 5 1 (.slice (some ⟨g', 0, none⟩) (out.length + x) cap') (out.length + x) (out.map bv ++ ((zs.drop j).take x).map bv) → w5.grownBy w' v.ownBlock → (v.ownBlock = some g' ∨ g' = w5.heap.size) →
                  Did (Infl.stored most out (Infl.bitsOf zs) p) w B rb rp g zs v most sv dv (.returned (.int .i64 0)) (w'.setCell ⟨rb, 2, none⟩ (.slice (some ⟨g', 0, none⟩) (out.length + x) cap')) ∧ w'.heap[rb]? = w5.heap[rb]?) := hide fun g' cap' w' h1 h2 h3 => by
                have hg := (unhide HR5).grow (Below.refl _ _) (ys := (zs.drop j).take x) (fun z hz => unhide HSM z (List.mem_of_mem_drop (List.mem_of_mem_take hz))) (by rw [hkl]; have := unhide HBIG; omega) (by rw [hkl]; exact h1) h2 (h3.elim Or.inl (fun e => Or.inr (by omega)))
                rw [hkl] at hg
                exact ⟨.inl ⟨_, _, _, unhide HPF, rfl, hg.1, (unhide HD5).trans hg.2⟩, h2.block rb hlt (fun e => by have := ((unhide HR5).own e.symm).1; have := (unhide HR5).lb; omega)⟩
              clear hkl hx0 hv hvc
              go_wp2_with (at_builtin; go_must (refine wpList_append_lies _ rfl (.tmp 55) (.tmp 56) 22 rfl B 5 i0 (.int .u8 0) 1 1 Try.underlying22 hi hz0 hz1 hz2 rfl (by decide) v out.length (out.map bv) (by rfl) (unhide HOW) ⟨w4.heap.size, 0, none⟩ x x (((zs.drop j).take x).map bv) (by rfl) (by rw [List.length_map, unhide HKL, Nat.mul_one]) (unhide HNEW) (one_cells _) hx1 (by unfold maxLen; have := unhide HBIG; omega) (by have := unhide HBIG; omega) (unhide HR5).hB w5.heap.size rfl ?_; intro g' cap' w6 hown hgrow hat hglt; have HG := hide (unhide HNX g' cap' w6 hown hgrow hat); have hbk := (unhide HG).2; have c2' : w6.cell? ⟨rb, 2, none⟩ = some v := (by rw [← c2]; exact World.cell?_of_block hbk); have f2' : w6.frozen? ⟨rb, 2, none⟩ = false := (by rw [← f2]; exact World.frozen?_of_block hbk); clear hown hgrow hat hglt hbk))
              go_step3
              go_wp2_with fail
              refine jump_ret_of ?_
              go_ret
              exact (unhide HG).1
          · have HB := hide (rbytes_end rp g q3 false zs (x : Int) w4 (unhide HR4).rd hz (by omega) (by have := unhide HJ; omega) (by have := unhide HJ; omega))
            have c2 := (unhide HR4).c2
            have f2 := (unhide HR4).fz 2
            obtain ⟨va, vc, hv, hvc⟩ := (unhide HR4).slice'
            have HE : Hid (Did (Infl.stored most out (Infl.bitsOf zs) p) w B rb rp g zs v most sv dv (.returned (.int .i64 ((10 : Nat) : Int))) (w4.drew.setCell ⟨rb, 2, none⟩ (.slice va out.length vc))) := hide (Did.no (v1 := v) 10 ((unhide HP3 _).2 (bytes_bad x out _ q3 (by rw [bitsOf_m]; omega) (by rw [bitsOf_m]; have := unhide HJ; omega))) (by decide) (by decide) (Chg.same ((unhide HD4).drewN 1) _))
            rw [hv] at c2
            clear hend hv
            generalize out.length = ol at c2 HE hvc
            go_wp2_with fail
            refine (unhide HB).mono ?_
            rintro e w5 ⟨rfl, rfl⟩
            have c2' : w4.drew.cell? ⟨rb, 2, none⟩ = some (.slice va ol vc) := c2
            have f2' : w4.drew.frozen? ⟨rb, 2, none⟩ = false := f2
            have HVC := hide hvc
            clear hvc
            go_wp2_with (at_builtin; go_must (refine wpList_append_zero rfl (.tmp 55) (.tmp 56) rfl va none ol vc 0 (unhide HVC) (by rfl) (by rfl) ?_))
            go_step3
            go_wp2_with fail
            refine jump_ret_of ?_
            go_ret
            exact unhide HE
      · have t1 : ((y : Int) == ((65535 - x : Nat) : Int)) = false := by simp only [beq_eq_false_iff_ne, ne_eq]; omega
        have HE : Hid (Did (Infl.stored most out (Infl.bitsOf zs) p) w B rb rp g zs v most sv dv (.returned (.int .i64 ((11 : Nat) : Int))) w3) := hide (Did.no 11 ((unhide HP2 _).2 (by rw [if_pos hxy]; rfl)) (by decide) (by decide) (unhide HD3))
        clear hxy
        go_wp2_with fail
        go_step3
        refine ⟨rfl, ?_⟩
        go_wp2_with fail
        rw [Exit.noGoto_ret]
        go_ret
        exact unhide HE
    · have HE : Hid (Did (Infl.stored most out (Infl.bitsOf zs) p) w B rb rp g zs v most sv dv (.returned (.int .i64 ((10 : Nat) : Int))) w3) := hide (Did.no 10 ((unhide HP _).2 (by rw [bind_of (unhide HG2), bind_bad g3])) (by decide) (by decide) ((unhide HD2).trans d3))
      clear r3 d3 g3
      go_wp2_with fail
      go_step3
      refine ⟨rfl, ?_⟩
      go_wp2_with fail
      rw [Exit.noGoto_ret]
      go_ret
      exact unhide HE
  · have HE : Hid (Did (Infl.stored most out (Infl.bitsOf zs) p) w B rb rp g zs v most sv dv (.returned (.int .i64 ((10 : Nat) : Int))) w2) := hide (Did.no 10 ((unhide HP _).2 (bind_bad g2)) (by decide) (by decide) ((unhide HD1).trans d2))
    clear r2 d2 g2
    go_wp2_with fail
    go_step3
    refine ⟨rfl, ?_⟩
    go_wp2_with fail
    rw [Exit.noGoto_ret]
    go_ret
    exact unhide HE

end
end Go.Proofs.Ytppbnodgnphaaaa
