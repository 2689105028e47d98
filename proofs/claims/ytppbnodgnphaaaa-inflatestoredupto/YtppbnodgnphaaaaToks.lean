/- Tokens up to the block's end. -/
import Derived.Test.YtppbnodgnphaaaaPc
namespace Go.Proofs.Ytppbnodgnphaaaa
open Go.RowKit Mth Infl
set_option maxRecDepth 100000
set_option linter.unusedVariables false

section
variable {l1 l2 : List Nat} {most : Nat} {oi : List Nat} {I : In} {p q s : Nat}

theorem toks_bad {b : Nat} (h : Infl.word gg l1 I p = .bad b) : Infl.toks gg l1 l2 most 1 oi I p = .bad b := by
  rw [Infl.toks, bind_bad]
  unfold Infl.tok
  exact bind_bad h

theorem toks_end (h : Infl.word gg l1 I p = .ok 256 q) : Infl.toks gg l1 l2 most 1 oi I p = .ok oi q := by
  rw [Infl.toks, bind_of (x := none) (o := q)]
  · rfl
  · unfold Infl.tok
    rw [bind_of h, if_pos rfl]
    rfl

theorem toks_full (h : Infl.word gg l1 I p = .ok s q) (hs : s < 256) (hm : most < oi.length + 1) : Infl.toks gg l1 l2 most 1 oi I p = .bad 3 := by
  rw [Infl.toks, bind_bad]
  unfold Infl.tok
  rw [bind_of h, if_neg (by omega), if_pos hs, if_pos (by omega)]
  rfl

theorem toks_byte (h : Infl.word gg l1 I p = .ok s q) (hs : s < 256) (hm : ¬ most < oi.length + 1) (f : Nat) : Infl.toks gg l1 l2 most (f + 1) oi I p = Infl.toks gg l1 l2 most f (oi ++ [s]) I q := by
  rw [Infl.toks, bind_of (x := some (oi ++ [s])) (o := q)]
  unfold Infl.tok
  rw [bind_of h, if_neg (by omega), if_pos hs, if_neg (by omega)]
  rfl

theorem bind_more {α β : Type} {r : Rd α} {k : α → Rd β} {I : In} {p : Nat} (h : r I p = .more) : r.bind k I p = .more := by unfold Rd.bind; rw [h]

theorem tok_pc (h : Infl.word gg l1 I p = .ok s q) (hs : 256 < s) : Infl.tok gg l1 l2 most oi I p = match pc l2 most oi s I q with
    | .ok o q' => .ok (some o) q'
    | .bad e => .bad e
    | .more => .more := by
  unfold Infl.tok pc
  rw [bind_of h, if_neg (by omega), if_neg (by omega)]
  by_cases h285 : 285 < s
  · rw [if_pos h285, if_pos h285]; rfl
  · rw [if_neg h285, if_neg h285]
    cases hg : Infl.get (Infl.lenOf s).2 I q with
    | bad e => rw [bind_bad hg, bind_bad hg]
    | more => rw [bind_more hg, bind_more hg]
    | ok x q1 =>
      rw [bind_of hg, bind_of hg]
      cases hw : Infl.word gg l2 I q1 with
      | bad e => rw [bind_bad hw, bind_bad hw]
      | more => rw [bind_more hw, bind_more hw]
      | ok d q2 =>
        rw [bind_of hw, bind_of hw]
        by_cases h29 : 29 < d
        · rw [if_pos h29, if_pos h29]; rfl
        · rw [if_neg h29, if_neg h29]
          cases hd : Infl.get (Infl.distOf d).2 I q2 with
          | bad e => rw [bind_bad hd, bind_bad hd]
          | more => rw [bind_more hd, bind_more hd]
          | ok y q3 =>
            rw [bind_of hd, bind_of hd]
            split
            · rfl
            · split <;> rfl

theorem toks_no {b : Nat} (h : Infl.word gg l1 I p = .ok s q) (hs : 256 < s) (hp : pc l2 most oi s I q = .bad b) : Infl.toks gg l1 l2 most 1 oi I p = .bad b := by
  rw [Infl.toks, bind_bad]
  rw [tok_pc h hs, hp]

theorem toks_piece {o : List Nat} {q' : Nat} (h : Infl.word gg l1 I p = .ok s q) (hs : 256 < s) (hp : pc l2 most oi s I q = .ok o q') (f : Nat) : Infl.toks gg l1 l2 most (f + 1) oi I p = Infl.toks gg l1 l2 most f o I q' := by
  rw [Infl.toks, bind_of (x := some o) (o := q')]
  rw [tok_pc h hs, hp]
end

theorem loc_pc (l2 : List Nat) (most : Nat) (oi : List Nat) (s : Nat) : Infl.Loc (pc l2 most oi s) :=
  Infl.Loc.ite (.fail _) ((Infl.Loc.get _).bind fun x => (Infl.Loc.word gg gg_gl l2).bind fun d => .ite (.fail _) ((Infl.Loc.get _).bind fun y => .ite (.fail _) (.ite (.fail _) (.pure _))))

theorem pc_le {l2 oi o zs : List Nat} {most s p q : Nat} (h : pc l2 most oi s (Infl.bitsOf zs) p = .ok o q) (hp : p ≤ 8 * zs.length) : p ≤ q := ((loc_pc l2 most oi s).le _ _ _ _ hp h).1

/-- Within tokens: what has come out so far, and that the rest is told by what is left. -/
structure TkAt (w ws : World) (B rb rp g : Nat) (zs : List Nat) (p q : Nat) (v vi : Value) (out oi : List Nat) (most : Nat) (sv dv : Value) (l1 l2 : List Nat) (cs cd : Nat) : Prop where
  rat : RAt ws B rb rp g zs q vi oi most sv dv
  chg : Chg rb rp v w vi ws
  on : ∃ n, ∀ f, Infl.toks gg l1 l2 most (f + n) out (Infl.bitsOf zs) p = Infl.toks gg l1 l2 most f oi (Infl.bitsOf zs) q
  c1 : COk l1 ws B cs vi
  c2 : COk l2 ws B cd vi

section
variable {w ws w1 : World} {B rb rp g : Nat} {zs : List Nat} {p q q' : Nat} {v vi v' : Value} {out oi o : List Nat} {most : Nat} {sv dv : Value} {l1 l2 : List Nat} {cs cd : Nat}

theorem TkAt.next (h : TkAt w ws B rb rp g zs p q v vi out oi most sv dv l1 l2 cs cd) (hr : RAt w1 B rb rp g zs q' v' o most sv dv) (hc : Chg rb rp vi ws v' w1) (hs : ∀ f, Infl.toks gg l1 l2 most (f + 1) oi (Infl.bitsOf zs) q = Infl.toks gg l1 l2 most f o (Infl.bitsOf zs) q') :
    TkAt w w1 B rb rp g zs p q' v v' out o most sv dv l1 l2 cs cd := by
  refine ⟨hr, h.chg.trans hc, ?_, h.c1.chg hc hr.lb hr.lp, h.c2.chg hc hr.lb hr.lp⟩
  obtain ⟨n, hn⟩ := h.on
  exact ⟨n + 1, fun f => by rw [show f + (n + 1) = (f + 1) + n from by omega, hn, hs]⟩

theorem TkAt.no (h : TkAt w ws B rb rp g zs p q v vi out oi most sv dv l1 l2 cs cd) {b : Nat} {v1 : Value} (h0 : b ≠ 0) (h1 : b < 100) (hc : Chg rb rp vi ws v1 w1) (hs : Infl.toks gg l1 l2 most 1 oi (Infl.bitsOf zs) q = .bad b) :
    ∃ F, Did (Infl.toks gg l1 l2 most F out (Infl.bitsOf zs) p) w B rb rp g zs v most sv dv (.returned (.int .i64 (b : Int))) w1 := by
  obtain ⟨n, hn⟩ := h.on
  exact ⟨1 + n, .inr ⟨b, v1, by rw [hn, hs], h0, h1, rfl, h.chg.trans hc⟩⟩

theorem TkAt.stop (h : TkAt w ws B rb rp g zs p q v vi out oi most sv dv l1 l2 cs cd) (hr : RAt w1 B rb rp g zs q' vi oi most sv dv) (hc : Chg rb rp vi ws vi w1) (hs : Infl.toks gg l1 l2 most 1 oi (Infl.bitsOf zs) q = .ok oi q') :
    ∃ F, Did (Infl.toks gg l1 l2 most F out (Infl.bitsOf zs) p) w B rb rp g zs v most sv dv (.returned (.int .i64 0)) w1 := by
  obtain ⟨n, hn⟩ := h.on
  exact ⟨1 + n, .inl ⟨vi, oi, q', by rw [hn, hs], rfl, hr, h.chg.trans hc⟩⟩
end

section
variable {rb rp : Nat} {v : Value} {w : World} {B g p q most : Nat} {zs out : List Nat} {sv dv : Value}

theorem conv_byte (x : Nat) (hx : x < 256) (w : World) : (convert 3 5 (.int .i64 (x : Int))).run Try.prog w = .ok (.int .u8 (x : Int)) w := by
  have h : IntKind.u8.wrap (x : Int) = (x : Int) := IntWalk.u8_in _ (by omega)
  go_simp

set_option maxHeartbeats 2000000 in
theorem tokens_ok {l1 l2 : List Nat} {cs cd : Nat} (h : RAt w B rb rp g zs p v out most sv dv) (hz : zs.length ≤ 140737488355328) (hm : most ≤ 268435456) (h1 : COk l1 w B cs v) (hl1 : l1.length ≤ 288) (h2 : COk l2 w B cd v) (hl2 : l2.length ≤ 32) :
    Calls Try.prog 46 #[.pointer (some ⟨rb, 0, none⟩), .pointer (some ⟨cs, 0, none⟩), .pointer (some ⟨cd, 0, none⟩)] w fun e w' => ∃ F, Did (Infl.toks gg l1 l2 most F out (Infl.bitsOf zs) p) w B rb rp g zs v most sv dv e w' := by
  have HST : Hid (TkAt w w B rb rp g zs p p v v out out most sv dv l1 l2 cs cd) := hide ⟨h, Chg.refl _ _ _ _, ⟨0, fun f => rfl⟩, h1, h2⟩
  have hple := h.rd.le
  clear h h1 h2
  go_enter Try.func46, Try.ntmps46
  go_wp2_with fail
  go_step3
  go_wp2_with fail
  go_step3
  go_wp2_with fail
  go_loopg [] (8 * zs.length + 1 - p) (fun gk ws => ∃ (q : Nat) (vi : Value) (oi : List Nat), gk = 8 * zs.length + 1 - q ∧ q ≤ 8 * zs.length ∧ Hid (TkAt w ws B rb rp g zs p q v vi out oi most sv dv l1 l2 cs cd))
  case atStart => exact ⟨p, v, out, rfl, hple, HST⟩
  case round =>
    obtain ⟨q, vi, oi, rfl, hq, hat⟩ := hrel
    clear HST
    have c0 := (unhide hat).rat.c0
    have HW := hide (rword (unhide hat).rat hz (unhide hat).c1)
    go_wp2_with fail
    refine (unhide HW).mono ?_
    rintro e w1 ⟨s, q1, b, rfl, r1, d1, g1⟩
    clear HW c0
    rcases g1 with ⟨rfl, g1, gs, gq, gq2⟩ | ⟨gb, gb2, g1⟩
    · have HG := hide g1
      have HR1 := hide r1
      have HD1 := hide d1
      have HC2 := hide ((unhide hat).c2.chg d1 r1.lb r1.lp)
      clear g1 r1 d1
      by_cases e256 : s = 256
      · subst e256
        have HE := hide ((unhide hat).stop (unhide HR1) (unhide HD1) (toks_end (unhide HG)))
        clear hat
        go_wp2_with fail
        rw [Exit.noGoto_ret]
        go_ret
        exact unhide HE
      · have t1 : ¬ (s : Int) = 256 := by omega
        have t1b : ((s : Int) == 256) = false := by simp; omega
        by_cases l256 : s < 256
        · have t2 : (s : Int) < 256 := by omega
          have hcv := conv_byte s l256
          by_cases hfull : most < oi.length + 1
          · have HS := hide (single_no s l256 (unhide HR1) hm hfull)
            have HE : Hid (∀ w2, Chg rb rp vi w1 vi w2 → _) := hide fun w2 hc => (unhide hat).no (b := 3) (by decide) (by decide) ((unhide HD1).trans hc) (toks_full (unhide HG) l256 hfull)
            clear hat hfull
            go_wp2_with fail
            refine (unhide HS).mono ?_
            rintro e w2 ⟨rfl, hc⟩
            have HE2 := hide (unhide HE w2 hc)
            clear hc HE
            go_wp2_with fail
            rw [Exit.noGoto_ret]
            go_ret
            exact unhide HE2
          · have HS := hide (single_yes s l256 (unhide HR1) hm hfull)
            have HN : Hid (∀ w2 v2, RAt w2 B rb rp g zs q1 v2 (oi ++ [s]) most sv dv → Chg rb rp vi w1 v2 w2 → TkAt w w2 B rb rp g zs p q1 v v2 out (oi ++ [s]) most sv dv l1 l2 cs cd) := hide fun w2 v2 hr hc => (unhide hat).next hr ((unhide HD1).trans hc) (toks_byte (unhide HG) l256 hfull)
            clear hat hfull
            go_wp2_with fail
            refine (unhide HS).mono ?_
            rintro e w2 ⟨rfl, v2, hr, hc⟩
            have HN2 := hide (unhide HN w2 v2 hr hc)
            clear hr hc HN
            go_wp2_with fail
            go_roundg (8 * zs.length + 1 - q1)
            case measure => omega
            case rel => exact ⟨q1, v2, _, rfl, gq2, HN2⟩
        · have t2 : ¬ (s : Int) < 256 := by omega
          have HP := hide (piece_ok s (unhide HR1) hz hm (by omega) (unhide HC2) hl2)
          have hs2 : 256 < s := by omega
          go_wp2_with fail
          refine (unhide HP).mono ?_
          rintro e w2 hd
          rcases hd with ⟨v2, o2, q2, hp, rfl, hr, hc⟩ | ⟨b, v2, hp, hb0, hb1, rfl, hc⟩
          · have HN2 := hide ((unhide hat).next hr ((unhide HD1).trans hc) (toks_piece (unhide HG) hs2 hp))
            have hq2 := hr.rd.le
            have hlt : q1 ≤ q2 := pc_le hp gq2
            clear hr hc hat hp
            go_wp2_with fail
            go_roundg (8 * zs.length + 1 - q2)
            case measure => omega
            case rel => exact ⟨q2, v2, _, rfl, hq2, HN2⟩
          · have HE := hide ((unhide hat).no hb0 hb1 ((unhide HD1).trans hc) (toks_no (unhide HG) hs2 hp))
            have hb2 : ¬ (b : Int) = 0 := by omega
            have hb3 : ((b : Int) == 0) = false := by simp; omega
            clear hc hat hp hb0 hb1
            go_wp2_with fail
            rw [Exit.noGoto_ret]
            go_ret
            exact unhide HE
    · have HE := hide ((unhide hat).no gb gb2 d1 (toks_bad g1))
      have hb2 : ¬ (b : Int) = 0 := by omega
      have hb3 : ((b : Int) == 0) = false := by simp; omega
      clear hat r1 d1 g1 gb gb2
      go_wp2_with fail
      rw [Exit.noGoto_ret]
      go_ret
      exact unhide HE

end
end Go.Proofs.Ytppbnodgnphaaaa
