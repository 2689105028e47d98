/- The lengths of both codes. -/
import Derived.Test.YtppbnodgnphaaaaRp
import Derived.Test.YtppbnodgnphaaaaInn
namespace Go.Proofs.Ytppbnodgnphaaaa
open Go.RowKit Mth Infl
set_option maxRecDepth 100000
set_option linter.unusedVariables false

/-- what lengths tells -/
def LnsIs (own : List Nat) (tot : Nat) (w : World) (B rb rp g : Nat) (zs : List Nat) (p : Nat) (v : Value) (out : List Nat) (most : Nat) (sv dv : Value) (e : Ending) (w' : World) : Prop :=
  Chg rb rp v w v w' ∧ ((∃ (lv : Value) (q : Nat) (all : List Nat), e = .returned (.tuple #[lv, .int .i64 0]) ∧ lens gg own tot tot [] (Infl.bitsOf zs) p = .ok all q ∧ all.length = tot ∧ (∀ z ∈ all, z ≤ 15) ∧ RAt w' B rb rp g zs q v out most sv dv ∧ w'.ownsRow w.heap.size 3 1 lv all.length (all.map fun z : Nat => iv (z : Int))) ∨
    (∃ b : Nat, b ≠ 0 ∧ b < 100 ∧ e = .returned (.tuple #[.slice none 0 0, .int .i64 (b : Int)]) ∧ lens gg own tot tot [] (Infl.bitsOf zs) p = .bad b))

/-- within it -/
structure LnAt (own : List Nat) (tot : Nat) (w ws : World) (B rb rp g : Nat) (zs : List Nat) (p : Nat) (v : Value) (out : List Nat) (most : Nat) (sv dv : Value) (lv : Value) (all : List Nat) (f q : Nat) : Prop where
  on : lens gg own tot tot [] (Infl.bitsOf zs) p = lens gg own tot f all (Infl.bitsOf zs) q
  fu : tot ≤ all.length + f
  le : ∀ z ∈ all, z ≤ 15
  rat : RAt ws B rb rp g zs q v out most sv dv
  chg : Chg rb rp v w v ws
  row : ws.ownsRow w.heap.size 3 1 lv all.length (all.map fun z : Nat => iv (z : Int))

section
variable {rb rp : Nat} {v : Value} {w ws w1 w2 w' : World} {B g p q most : Nat} {zs out : List Nat} {sv dv : Value}

theorem RAt.grown {r : Option Nat} (h : RAt ws B rb rp g zs p v out most sv dv) (hb : Below ws.heap.size ws w1) (hg : w1.grownBy w2 r) (hr : ∀ k, r = some k → k ≠ rb ∧ k ≠ rp ∧ k ≠ g ∧ v.ownBlock ≠ some k) : RAt w2 B rb rp g zs p v out most sv dv := by
  have hs := hb.size
  have keep : ∀ k, k < ws.heap.size → r ≠ some k → w2.heap[k]? = ws.heap[k]? := fun k hk hne => by
    rw [hg.block k (by omega) (fun e => hne e.symm), hb.block k hk]
  exact ⟨by rw [keep rb h.lt (fun e => (hr rb e).1 rfl)]; exact h.blk, h.rd.keep (keep rp h.rd.lt (fun e => (hr rp e).2.1 rfl)) (keep g (heap_lt h.rd.row) (fun e => (hr g e).2.2.1 rfl)), own_keep h.row (fun k e => keep k (h.own e).2 (fun e' => (hr k e').2.2.2 e)), h.small, h.lb, h.lp, h.lg, h.ne, h.ng, h.ol, by have := hg.size; have := h.hB; omega⟩

theorem Chg.grown {r : Option Nat} {v0 : Value} {w0 : World} (h : Chg rb rp v0 w0 v ws) (hb : Below ws.heap.size ws w1) (hg : w1.grownBy w2 r) (hr : ∀ k, r = some k → w0.heap.size ≤ k) : Chg rb rp v0 w0 v w2 := by
  have hs := hb.size
  have h2 := h.size
  refine ⟨(hg.os.trans hb.os).trans h.os, (hg.tape.trans hb.tape).trans h.tape, (hg.output.trans hb.output).trans h.output, by have := hg.size; omega, fun k k1 k2 k3 k4 => ?_, h.lies⟩
  rw [hg.block k (by omega) (fun e => by have := hr k e.symm; omega), hb.block k (by omega)]
  exact h.keep k k1 k2 k3 k4

theorem own_slice {base n : Nat} {lv : Value} {xs : List Value} (h : w.ownsRow base 3 1 lv n xs) : ∃ a c, lv = .slice a n c ∧ n ≤ c ∧ (0 < n → ∃ b, a = some ⟨b, 0, none⟩ ∧ lv.ownBlock = some b) := by
  rcases h.2 with ⟨e, hn⟩ | ⟨g, c, cur, e, hb, hh, hle, _⟩
  · exact ⟨none, 0, by rw [e, hn], by omega, fun h0 => by omega⟩
  · exact ⟨_, c, e, hle, fun _ => ⟨g, rfl, by rw [e]; rfl⟩⟩

theorem row_cell {base b : Nat} {lv : Value} {all : List Nat} (h : w.ownsRow base 3 1 lv all.length (all.map fun z : Nat => iv (z : Int))) (hb : lv.ownBlock = some b) (j : Nat) (hj : j < all.length) : w.cell? ⟨b, j, none⟩ = some (.int .i64 (all.getD j 0 : Int)) := by
  have := h.cells hb j (iv (all.getD j 0 : Int)) (by rw [List.getElem?_map, List.getElem?_eq_getElem hj, List.getD_eq_getElem?_getD, List.getElem?_eq_getElem hj]; rfl)
  have e : (⟨b, 0, none⟩ : Addr).add j = ⟨b, j, none⟩ := by by_cases hq : j = 0 <;> simp [Addr.add, hq]
  rw [e] at this
  exact this

theorem room_made (w : World) (n : Nat) (hn : n ≤ 65536) : (Instr.makeSlice 35 (.int .i64 0) (.int .i64 (n : Int))).run Try.prog w = .ok (.slice (some ⟨w.heap.size, 0, none⟩) 0 n) (w.alloc (.cells (icells .i64 n (fun _ => 0)) 3)) := by
  obtain ⟨i0, hi, hz0, hz1, hz2⟩ := info_parts info3'
  have := run_make (P := Try.prog) w 35 3 i0 (.int .i64 0) Try.underlying35 hi hz0 .i64 .i64 0 (n : Int) (by omega) (by omega) (by rw [hz2]; omega) (by omega)
  rw [hz1] at this
  rw [this]
  congr 3
  apply Array.ext (by simp [madeCells, icells])
  intro k k1 k2
  simp [icells, madeCells, Value.cells, Nat.mod_one]

theorem LnAt.start (own : List Nat) (tot : Nat) (ht : tot ≤ 65536) (h : RAt w B rb rp g zs p v out most sv dv) : LnAt own tot w (w.alloc (.cells (icells .i64 tot (fun _ => 0)) 3)) B rb rp g zs p v out most sv dv (.slice (some ⟨w.heap.size, 0, none⟩) 0 tot) [] tot p := by
  have hb : Below w.heap.size w (w.alloc (.cells (icells .i64 tot (fun _ => 0)) 3)) := (Below.refl _ _).alloc (Nat.le_refl _) _
  exact ⟨rfl, by omega, fun z hz => by simp at hz, h.below hb, Chg.of_below _ _ _ hb, World.ownsRow_made w _ tot (Nat.le_refl _) (by unfold maxLen; omega) (by simp [icells])⟩

/-- within the repeats: j of them are laid -/
structure RpAt (w ws : World) (B rb rp g : Nat) (zs : List Nat) (q : Nat) (v : Value) (out : List Nat) (most : Nat) (sv dv : Value) (lv : Value) (all : List Nat) (a j : Nat) : Prop where
  rat : RAt ws B rb rp g zs q v out most sv dv
  chg : Chg rb rp v w v ws
  row : ws.ownsRow w.heap.size 3 1 lv (all.length + j) ((all ++ List.replicate j a).map fun z : Nat => iv (z : Int))

theorem RpAt.next {lv lv' : Value} {all : List Nat} {a j : Nat} (h : RpAt w ws B rb rp g zs q v out most sv dv lv all a j) (hv : ∀ k, v.ownBlock = some k → k < w.heap.size) (hB : B ≤ w.heap.size) (hb : Below ws.heap.size ws w1)
    (hown : w2.ownsRow w.heap.size 3 1 lv' (all.length + j + 1) (((all ++ List.replicate j a).map fun z : Nat => iv (z : Int)) ++ [iv (a : Int)])) (hg : w1.grownBy w2 lv.ownBlock) : RpAt w w2 B rb rp g zs q v out most sv dv lv' all a (j + 1) := by
  have hr : ∀ k, lv.ownBlock = some k → w.heap.size ≤ k := fun k e => (h.row.lt k e).1
  refine ⟨h.rat.grown hb hg (fun k e => ?_), h.chg.grown hb hg hr, ?_⟩
  · have h1 := hr k e
    have := h.rat.lb
    have := h.rat.lp
    have := h.rat.lg
    exact ⟨by omega, by omega, by omega, fun e' => by have := hv k e'; omega⟩
  · rw [List.replicate_succ', ← List.append_assoc, List.map_append]
    exact hown

set_option maxHeartbeats 4000000 in
theorem lengths_ok {own : List Nat} {cp tot : Nat} (h : RAt w B rb rp g zs p v out most sv dv) (hz : zs.length ≤ 140737488355328) (hc : COk own w B cp v) (hown : own.length = 19) (ht : tot ≤ 316) :
    Calls Try.prog 55 #[.pointer (some ⟨rb, 0, none⟩), .pointer (some ⟨cp, 0, none⟩), .int .i64 (tot : Int)] w fun e w' => LnsIs own tot w B rb rp g zs p v out most sv dv e w' := by
  obtain ⟨i0, hi, hz0, hz1, hz2⟩ := info_parts info3'
  have hm := room_made w tot (by omega)
  have HST := hide (LnAt.start own tot (by omega) h)
  have HV : Hid ((∀ j, v.ownBlock = some j → j < w.heap.size) ∧ B ≤ w.heap.size) := hide ⟨fun j e => (h.own e).2, h.hB⟩
  have HLB := hide (And.intro h.lb h.lp)
  have HC := hide hc
  clear h hc
  go_enter Try.func55, Try.ntmps55
  go_wp2_with fail
  clear hm
  generalize w.alloc (.cells (icells .i64 tot (fun _ => 0)) 3) = w1 at HST ⊢
  go_loopg [8] tot (fun gk l ws => ∃ (all : List Nat) (f q : Nat) (lv : Value), gk = tot - all.length ∧ all.length ≤ tot ∧ lv = l ∧ Hid (LnAt own tot w ws B rb rp g zs p v out most sv dv lv all f q))
  case atStart => exact ⟨[], tot, p, _, by simp, by simp, rfl, HST⟩
  case round =>
    obtain ⟨all, f, q, lv, rfl, hle, rfl, hat⟩ := hrel
    clear HST
    obtain ⟨la, lc, hlv, hlc, hlb⟩ := own_slice (unhide hat).row
    obtain ⟨L, hL⟩ : ∃ L, L = all.length := ⟨_, rfl⟩
    rw [← hL] at hlv hlc hlb hle
    by_cases hlt : L < tot
    · have tlt : (L : Int) < (tot : Int) := by omega
      have c0 := (unhide hat).rat.c0
      have HW := hide (rword (unhide hat).rat hz ((unhide HC).chg (unhide hat).chg (unhide HLB).1 (unhide HLB).2))
      obtain ⟨f', hf'⟩ : ∃ f', f = f' + 1 := ⟨f - 1, by have := (unhide hat).fu; omega⟩
      subst hf'
      have HON : Hid (lens gg own tot tot [] (Infl.bitsOf zs) p = ((word gg own).bind fun s => (stp all s).bind fun a => if tot < all.length + a.2 then Rd.fail 11 else lens gg own tot f' (all ++ List.replicate a.2 a.1)) (Infl.bitsOf zs) q) := hide (by rw [(unhide hat).on, lens_stp own tot f' all (by omega)])
      have HFU : Hid (tot ≤ L + (f' + 1)) := hide (by have := (unhide hat).fu; omega)
      have HLE := hide (unhide hat).le
      have HRAT := hide (unhide hat).rat
      have HCHG := hide (unhide hat).chg
      have HROW := hide (unhide hat).row
      have HLV := hide hlv
      have HLB2 := hide hlb
      have HL := hide hL
      clear hat hL hlb hlc
      subst hlv
      go_wp2_with fail
      refine (unhide HW).mono ?_
      rintro e w2 ⟨s, q1, b, rfl, r1, d1, g1⟩
      clear HW c0
      rcases g1 with ⟨rfl, g1, gs, _, _⟩ | ⟨gb, gb2, g1⟩
      · have hs : s < 19 := by omega
        have HROW2 : Hid (w2.ownsRow w.heap.size 3 1 (.slice la L lc) all.length (all.map fun z : Nat => iv (z : Int))) := hide (own_keep (unhide HROW) (fun k e => by
          have hk := (unhide HROW).lt k e
          have := unhide HV
          have := r1.lb
          have := r1.lp
          exact d1.keep k hk.2 (by omega) (by omega) (fun e' => by have := (unhide HV).1 k e'; omega)))
        have HR := hide (repeat_ok s hs all (unhide HLE) la lc (by have := unhide HL; omega) (fun h0 => by
          obtain ⟨b, e1, e2⟩ := unhide HLB2 (by rw [unhide HL]; exact h0)
          refine ⟨b, e1, fun j hj => row_cell (unhide HROW2) e2 j hj, ?_⟩
          have hk := (unhide HROW).lt b e2
          have := unhide HV
          have := r1.lb
          have := r1.lp
          exact ⟨by omega, by omega, fun e' => by have := (unhide HV).1 b e'; omega⟩) r1 hz)
        rw [← unhide HL] at HR
        have HD1 := hide d1
        have HG1 := hide g1
        clear r1 d1 g1 gs HROW HRAT
        go_wp2_with fail
        refine (unhide HR).mono ?_
        rintro e w3 ⟨d2, hrep⟩
        rcases hrep with ⟨a, n, q2, rfl, g2, hn1, hn2, ha, r2⟩ | ⟨b, a, n, gb, gb2, rfl, g2⟩
        · have HD2 := hide ((unhide HCHG).trans ((unhide HD1).trans d2))
          have HROW3 : Hid (w3.ownsRow w.heap.size 3 1 (.slice la L lc) all.length (all.map fun z : Nat => iv (z : Int))) := hide (own_keep (unhide HROW2) (fun k e => by
            have hk := (unhide HROW2).lt k e
            have := unhide HV
            have := r2.lb
            have := r2.lp
            exact d2.keep k hk.2 (by omega) (by omega) (fun e' => by have := (unhide HV).1 k e'; omega)))
          by_cases hfit : tot < L + n
          · have tfit : (tot : Int) - (L : Int) < (n : Int) := by omega
            have HE : Hid (LnsIs own tot w B rb rp g zs p v out most sv dv (.returned (.tuple #[.slice none 0 0, .int .i64 ((11 : Nat) : Int)])) w3) := hide ⟨unhide HD2, .inr ⟨11, by decide, by decide, rfl, by rw [unhide HON, bind_of (unhide HG1), bind_of g2]; simp only; rw [if_pos (by rw [← unhide HL]; exact hfit)]; rfl⟩⟩
            clear d2 g2 r2 hfit HR
            go_wp2_with fail
            go_ret2
            exact unhide HE
          · have tfit : ¬ (tot : Int) - (L : Int) < (n : Int) := by omega
            have HST2 : Hid (RpAt w w3 B rb rp g zs q2 v out most sv dv (.slice la L lc) all a 0) := hide ⟨r2, unhide HD2, by simpa using unhide HROW3⟩
            have HON2 : Hid (lens gg own tot tot [] (Infl.bitsOf zs) p = lens gg own tot f' (all ++ List.replicate n a) (Infl.bitsOf zs) q2) := hide (by rw [unhide HON, bind_of (unhide HG1), bind_of g2]; simp only; rw [if_neg (by rw [← unhide HL]; exact hfit)])
            have hfit2 : L + n ≤ tot := by omega
            clear d2 g2 r2 hfit HR HON HROW2 HROW3
            go_wp2_with fail
            go_loopg [8, 49] n (fun gk l c ws => ∃ (j : Nat) (lv : Value), gk = n - j ∧ j ≤ n ∧ lv = l ∧ c = .int .i64 (j : Int) ∧ Hid (RpAt w ws B rb rp g zs q2 v out most sv dv lv all a j))
            case atStart => exact ⟨0, _, by omega, by omega, rfl, rfl, HST2⟩
            case round =>
              obtain ⟨j, lv, rfl, hjn, rfl, rfl, hat⟩ := hrel
              clear HST2
              by_cases hj : j < n
              · have tj : (j : Int) < (n : Int) := by omega
                have HNEW : Hid (∀ (jj : Nat) u, [iv (a : Int)][jj]? = some u → (wr.alloc (.cells #[iv (a : Int)] 3)).cell? ((⟨wr.heap.size, 0, none⟩ : Addr).add jj) = some u) := hide (news_one _ _)
                have HOW : Hid ((wr.alloc (.cells #[iv (a : Int)] 3)).ownsRow w.heap.size 3 1 lv (L + j) ((all ++ List.replicate j a).map fun z : Nat => iv (z : Int))) := hide (by rw [unhide HL]; exact (unhide hat).row.alloc _)
                have hws : w.heap.size ≤ wr.heap.size := (unhide hat).chg.size
                go_wp2_with (at_builtin; go_must (refine wpList_append_lies _ rfl (.tmp 51) (.tmp 53) 35 rfl w.heap.size 3 i0 (.int .i64 0) 1 8 Try.underlying35 hi hz0 hz1 hz2 rfl (by decide) lv (L + j) ((all ++ List.replicate j a).map fun z : Nat => iv (z : Int)) (by rfl) (unhide HOW) ⟨wr.heap.size, 0, none⟩ 1 1 [iv (a : Int)] (by rfl) rfl (unhide HNEW) (by intro u hu; simp at hu; subst hu; rfl) (by decide) (by unfold maxLen; omega) (by omega) (by simp; omega) (wr.heap.size + 1) (by simp) ?_; intro g' cap' w4 hown' hgrow hat' hglt; have HN := hide ((unhide hat).next (unhide HV).1 (unhide HV).2 ((Below.refl _ _).alloc (Nat.le_refl _) _) (by rw [← unhide HL]; exact hown') hgrow); clear hown' hgrow hat' hglt))
                go_roundg (n - (j + 1))
                case measure => omega
                case rel => exact ⟨j + 1, _, rfl, by omega, rfl, by go_num, HN⟩
              · obtain rfl : j = n := by omega
                have HN : Hid (LnAt own tot w wr B rb rp g zs p v out most sv dv lv (all ++ List.replicate j a) f' q2) := hide ⟨unhide HON2, by rw [List.length_append, List.length_replicate, ← unhide HL]; have := unhide HFU; omega, fun z hz => by
                  rw [List.mem_append] at hz
                  rcases hz with hz | hz
                  · exact unhide HLE z hz
                  · rw [List.eq_of_mem_replicate hz]; exact ha, (unhide hat).rat, (unhide hat).chg, by rw [List.length_append, List.length_replicate]; exact (unhide hat).row⟩
                have hlen : (all ++ List.replicate j a).length = L + j := by rw [List.length_append, List.length_replicate, ← unhide HL]
                have HLEN := hide hlen
                clear hat hlen
                go_wp2_with fail
                go_roundg (tot - (L + j))
                case measure => have := unhide HL; omega
                case rel => exact ⟨_, f', q2, lv, by rw [unhide HLEN], by rw [unhide HLEN]; exact hfit2, rfl, HN⟩
        · have HE : Hid (LnsIs own tot w B rb rp g zs p v out most sv dv (.returned (.tuple #[.slice none 0 0, .int .i64 (b : Int)])) w3) := hide ⟨(unhide HCHG).trans ((unhide HD1).trans d2), .inr ⟨b, gb, gb2, rfl, by rw [unhide HON, bind_of (unhide HG1), bind_bad g2]⟩⟩
          have hb1 : ¬ (b : Int) = 0 := by omega
          have hb2 : ((b : Int) == 0) = false := by simp; omega
          clear d2 g2 gb gb2 HR
          go_wp2_with fail
          go_ret2
          exact unhide HE
      · have HE : Hid (LnsIs own tot w B rb rp g zs p v out most sv dv (.returned (.tuple #[.slice none 0 0, .int .i64 (b : Int)])) w2) := hide ⟨(unhide HCHG).trans d1, .inr ⟨b, gb, gb2, rfl, by rw [unhide HON, bind_bad g1]⟩⟩
        have hb1 : ¬ (b : Int) = 0 := by omega
        have hb2 : ((b : Int) == 0) = false := by simp; omega
        clear r1 d1 g1 gb gb2
        go_wp2_with fail
        go_ret2
        exact unhide HE
    · have hLt : L = tot := by omega
      have HE : Hid (LnsIs own tot w B rb rp g zs p v out most sv dv (.returned (.tuple #[lv, .int .i64 0])) wr) := hide ⟨(unhide hat).chg, .inl ⟨lv, q, all, rfl, by rw [(unhide hat).on, lens_done own tot f all (by omega)]; rfl, by omega, (unhide hat).le, (unhide hat).rat, (unhide hat).row⟩⟩
      have tlt : ¬ (L : Int) < (tot : Int) := by omega
      clear hat hlb hLt hL
      subst hlv
      go_wp2_with fail
      go_ret2
      exact unhide HE

end
end Go.Proofs.Ytppbnodgnphaaaa
