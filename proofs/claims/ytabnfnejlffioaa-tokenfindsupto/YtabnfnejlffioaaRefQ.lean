/- The document's Parse; Parse of any arguments. -/
import Derived.Test.YtabnfnejlffioaaRefP
namespace Go.Proofs.Ytabnfnejlffioaa
open Go.RowKit
set_option linter.unusedVariables false

attribute [local go_sem ↓] Go.wp_at_zero Go.wp_at_succ

/-- the document's Parse, as it goes along -/
structure RPAt (zs : List Nat) (H0 W least M P0 p : Nat) (tv : Value) (ts : List Tok) (w ws : World) : Prop where
  par : Parsed zs W least M P0 ts p
  le : p ≤ zs.length
  row : ws.ownsRow H0 37 3 tv ts.length (tcells ts)
  bel : Below H0 w ws

theorem RPAt.same {zs : List Nat} {H0 W least M P0 p : Nat} {tv : Value} {ts : List Tok} {w ws y : World} (h : RPAt zs H0 W least M P0 p tv ts w ws) (q : Nat) (e : y = ws.drewN q) : RPAt zs H0 W least M P0 p tv ts w y := by
  subst e
  exact ⟨h.par, h.le, own_keep h.row (fun _ _ => rfl), below_drewN h.bel q⟩

theorem RPAt.app {zs : List Nat} {H0 W least M P0 p q : Nat} {tv tv' : Value} {ts : List Tok} {w ws w' : World} {t : Tok} {blk : Obj} (h : RPAt zs H0 W least M P0 p tv ts w ws) (hs : H0 ≤ ws.heap.size) (hp : p < zs.length) (ht : TokAt zs W least M p t q) (hq : q ≤ zs.length) (hown : w'.ownsRow H0 37 3 tv' (ts.length + 1) (tcells (ts ++ [t]))) (hg : (ws.alloc blk).grownBy w' tv.ownBlock) : RPAt zs H0 W least M P0 q tv' (ts ++ [t]) w w' := by
  refine ⟨h.par.snoc hp ht, hq, by simpa using hown, h.bel.trans ⟨hg.os, hg.tape, hg.output, by have := hg.size; simp at this; omega, fun k hk => ?_⟩⟩
  rw [hg.block k (by simp; omega) (fun e => by have := (row_ty h.row e.symm).1; omega)]
  exact Below.heap_alloc _ _ _ (by omega)

def RParsedIs (zs : List Nat) (p W least M : Nat) (w : World) (e : Ending) (w' : World) : Prop :=
  ∃ (tv : Value) (ts : List Tok), e = .returned tv ∧ Parsed zs W least M p ts zs.length ∧ w'.ownsRow w.heap.size 37 3 tv ts.length (tcells ts) ∧ Below w.heap.size w w'

set_option maxRecDepth 100000 in
set_option maxHeartbeats 8000000 in
theorem refparse_ok (zs : List Nat) (a : Option Addr) (cap P0 W least M : Nat) (w : World) (hr : ReadsU w.heap.size w (.slice a zs.length cap) zs) (hl : zs.length ≤ 1048576) (hp0 : P0 ≤ zs.length) (hW1 : 1 ≤ W) (h1 : 1 ≤ least) :
    Calls Try.prog 12 #[.slice a zs.length cap, .int .i64 (P0 : Int), .int .i64 (W : Int), .int .i64 (least : Int), .int .i64 (M : Int)] w fun e w' => RParsedIs zs P0 W least M w e w' := by
  obtain ⟨H0, hH⟩ : ∃ H0, H0 = w.heap.size := ⟨_, rfl⟩
  have HHW := hide hH
  have HRD : Hid (∀ ws, Below H0 w ws → ReadsU H0 ws (.slice a zs.length cap) zs) := hide fun ws hb => by rw [← hH] at hr; exact hr.stays hb
  have HRM : Hid (∀ ws p, Below H0 w ws → p ≤ zs.length → Calls Try.prog 10 #[.slice a zs.length cap, .int .i64 (p : Int), .int .i64 (W : Int), .int .i64 (M : Int)] ws fun e w' => RMIs zs p W M ws e w') := hide fun ws p hb hp => refmatch_ok zs a cap p W M ws H0 (unhide HRD ws hb) hl hp hW1
  obtain ⟨L, hL⟩ : ∃ L, L = zs.length := ⟨_, rfl⟩
  have HTX := hide hL
  rw [← hL] at hl hp0 HRM ⊢
  have HR0 : Hid (RPAt zs H0 W least M P0 P0 (.slice none 0 0) [] w w) := hide ⟨.nil, by rw [← hL]; exact hp0, World.ownsRow_nil _ _ _ _, Below.refl _ _⟩
  clear hr hL hH
  go_enter Try.func12, Try.ntmps12
  go_wp2_with fail
  go_loopg [11, 12] (L - P0) (fun gk tv va ws => ∃ (p : Nat) (ts : List Tok), gk = L - p ∧ va = .int .i64 (p : Int) ∧ RPAt zs H0 W least M P0 p tv ts w ws)
  case atStart => exact ⟨P0, [], rfl, rfl, unhide HR0⟩
  case round =>
    clear HR0
    obtain ⟨p, ts, rfl, rfl, hat⟩ := hrel
    have hpL : p ≤ L := by rw [unhide HTX]; exact hat.le
    by_cases hlt : p < L
    · have hlti : (p : Int) < (L : Int) := by omega
      have HMC := hide (unhide HRM wr p hat.bel hpL)
      have HP := hide hat
      have hsz : H0 ≤ wr.heap.size := by have := hat.bel.size; rw [← unhide HHW] at this; exact this
      have hlen := (hat.par.len h1 (by rw [← unhide HTX]; exact hp0)).1
      obtain ⟨K, hK⟩ : ∃ K, K = ts.length := ⟨_, rfl⟩
      rw [← hK] at hlen
      clear hat
      go_wp2_with fail
      refine (unhide HMC).mono ?_
      rintro e W2 ⟨n, d, rfl, hbest, q, hW2⟩
      have hat2 := (unhide HP).same q hW2
      have hsz2 : H0 ≤ W2.heap.size := by rw [hW2]; exact hsz
      have hnm : n ≤ L - p := by have := hbest.le; rw [← unhide HTX] at this; omega
      clear HMC HP hW2
      by_cases hnl : least ≤ n
      · have hnli : (least : Int) ≤ (n : Int) := by omega
        have ht : TokAt zs W least M p ⟨n, d, 0⟩ (p + n) := ⟨n, d, hbest, .inl ⟨hnl, rfl, rfl⟩⟩
        have HROW := hide (hat2.row.alloc (.cells #[.int .i64 (n : Int), .int .i64 (d : Int), .int .u8 0] 37))
        have HRT : Hid (ReadsTN (W2.alloc (.cells #[.int .i64 (n : Int), .int .i64 (d : Int), .int .u8 0] 37)) (some ⟨W2.heap.size, 0, none⟩) 1 [⟨n, d, 0⟩]) := hide (new_tok W2 ⟨n, d, 0⟩)
        have HAPP : Hid (∀ v' w3, w3.ownsRow H0 37 3 v' (K + 1) (tcells (ts ++ [⟨n, d, 0⟩])) → (W2.alloc (.cells #[.int .i64 (n : Int), .int .i64 (d : Int), .int .u8 0] 37)).grownBy w3 u11.ownBlock → RPAt zs H0 W least M P0 (p + n) v' (ts ++ [⟨n, d, 0⟩]) w w3) := hide fun v' w3 q1 q2 => hat2.app hsz2 (by rw [← unhide HTX]; exact hlt) ht (by rw [← unhide HTX]; omega) (by rw [← hK]; exact q1) q2
        rw [← hK] at HROW
        obtain ⟨pn, hpn2⟩ : ∃ pn : Nat, (p : Int) + (n : Int) = (pn : Int) := ⟨p + n, by omega⟩
        have HPN : Hid (p + n = pn) := hide (by omega)
        have hwpn : IntKind.i64.wrap (pn : Int) = (pn : Int) := IntWalk.i64_in _ (by omega)
        clear hat2 ht hbest
        go_wp2_with (at_builtin; go_must (refine wpList_append_toks rfl _ _ rfl H0 u11 K ts (by rfl) (unhide HROW) _ 1 1 [⟨n, d, 0⟩] rfl (by rfl) (unhide HRT) (by omega) (by simp; omega) ?_; intro v' w3 hown hgrow; have HP3 := hide (unhide HAPP _ _ hown hgrow); clear hown hgrow HAPP HROW HRT))
        go_roundg (L - pn)
        case measure => omega
        case rel => exact ⟨pn, _, rfl, rfl, by rw [← unhide HPN]; exact unhide HP3⟩
      · have hnli : ¬ (least : Int) ≤ (n : Int) := by omega
        have hrd := unhide HRD W2 hat2.bel
        obtain ⟨ba, off, rfl⟩ : ∃ ba off, a = some ⟨ba, off, none⟩ := by
          obtain ⟨a', c', e, _, hs⟩ := hrd
          injection e with e1 e2 e3
          obtain ⟨b', off', e, _⟩ := hs (by rw [← unhide HTX]; omega)
          exact ⟨b', off', by rw [e1]; exact e⟩
        have kb : W2.cell? ⟨ba, off + p, none⟩ = some (.int .u8 (zs.getD p 0 : Int)) := by
          obtain ⟨a', c', e, _, hs⟩ := hrd
          injection e with e1 e2 e3
          obtain ⟨b', off', e, _, hc⟩ := hs (by rw [← unhide HTX]; omega)
          rw [← e1] at e
          injection e with e
          injection e with e1 e2
          subst e1 e2
          exact hc p (by rw [← unhide HTX]; exact hlt)
        obtain ⟨y, hy⟩ : ∃ y, y = zs.getD p 0 := ⟨_, rfl⟩
        rw [← hy] at kb
        have ht : TokAt zs W least M p ⟨0, 0, y⟩ (p + 1) := ⟨n, d, hbest, .inr ⟨by omega, by rw [hy], rfl⟩⟩
        have HROW := hide (hat2.row.alloc (.cells #[.int .i64 0, .int .i64 0, .int .u8 (y : Int)] 37))
        have HRT : Hid (ReadsTN (W2.alloc (.cells #[.int .i64 0, .int .i64 0, .int .u8 (y : Int)] 37)) (some ⟨W2.heap.size, 0, none⟩) 1 [⟨0, 0, y⟩]) := hide (new_tok W2 ⟨0, 0, y⟩)
        have HAPP : Hid (∀ v' w3, w3.ownsRow H0 37 3 v' (K + 1) (tcells (ts ++ [⟨0, 0, y⟩])) → (W2.alloc (.cells #[.int .i64 0, .int .i64 0, .int .u8 (y : Int)] 37)).grownBy w3 u11.ownBlock → RPAt zs H0 W least M P0 (p + 1) v' (ts ++ [⟨0, 0, y⟩]) w w3) := hide fun v' w3 q1 q2 => hat2.app hsz2 (by rw [← unhide HTX]; exact hlt) ht (by rw [← unhide HTX]; omega) (by rw [← hK]; exact q1) q2
        rw [← hK] at HROW
        clear hat2 ht hbest hy hrd
        go_wp2_with (at_builtin; go_must (refine wpList_append_toks rfl _ _ rfl H0 u11 K ts (by rfl) (unhide HROW) _ 1 1 [⟨0, 0, y⟩] rfl (by rfl) (unhide HRT) (by omega) (by simp; omega) ?_; intro v' w3 hown hgrow; have HP3 := hide (unhide HAPP _ _ hown hgrow); clear hown hgrow HAPP HROW HRT))
        go_roundg (L - (p + 1))
        case measure => omega
        case rel => exact ⟨p + 1, _, rfl, by go_num, unhide HP3⟩
    · have hlti : ¬ (p : Int) < (L : Int) := by omega
      have HE : Hid (RParsedIs zs P0 W least M w (.returned u11) wr) := hide (by
        have e : p = zs.length := by have := unhide HTX; omega
        exact ⟨u11, ts, rfl, by rw [← e]; exact hat.par, by rw [← unhide HHW]; exact hat.row, by rw [← unhide HHW]; exact hat.bel⟩)
      clear hat
      go_wp2_with fail
      go_ret
      exact unhide HE

/-- what Parse tells of any arguments -/
def ParseIs (zs : List Nat) (p W least M : Int) (w : World) (e : Ending) (w' : World) : Prop :=
  (¬ (0 ≤ p ∧ p ≤ zs.length ∧ 1 ≤ W ∧ 1 ≤ least ∧ least ≤ M) ∧ e = .returned (.tuple #[.slice none 0 0, .int .i64 2]) ∧ w' = w) ∨
  ((0 ≤ p ∧ p ≤ zs.length ∧ 1 ≤ W ∧ 1 ≤ least ∧ least ≤ M) ∧ ∃ (tv : Value) (ts : List Tok), e = .returned (.tuple #[tv, .int .i64 0]) ∧ Parsed zs W.toNat least.toNat M.toNat p.toNat ts zs.length ∧ w'.ownsRow w.heap.size 37 3 tv ts.length (tcells ts) ∧ Below w.heap.size w w')

set_option maxRecDepth 100000 in
set_option maxHeartbeats 4000000 in
theorem parse_any (zs : List Nat) (a : Option Addr) (cap : Nat) (p W least M : Int) (w : World) (hr : ReadsU w.heap.size w (.slice a zs.length cap) zs) (hcap : zs.length ≤ cap) (hz : ∀ c ∈ zs, c < 256) (hl : zs.length ≤ 1048576) (hW : W ≤ 9223372036854775807) (hM : M ≤ 9223372036854775807) (hm : ML w) :
    Calls Try.prog 9 #[.slice a zs.length cap, .int .i64 p, .int .i64 W, .int .i64 least, .int .i64 M] w fun e w' => ParseIs zs p W least M w e w' := by
  by_cases hok : 0 ≤ p ∧ p ≤ zs.length ∧ 1 ≤ W ∧ 1 ≤ least ∧ least ≤ M
  · obtain ⟨h1, h2, h3, h4, h5⟩ := hok
    obtain ⟨P, rfl⟩ := Int.eq_ofNat_of_zero_le h1
    obtain ⟨V, rfl⟩ := Int.eq_ofNat_of_zero_le (show 0 ≤ W by omega)
    obtain ⟨ls, rfl⟩ := Int.eq_ofNat_of_zero_le (show 0 ≤ least by omega)
    obtain ⟨K, rfl⟩ := Int.eq_ofNat_of_zero_le (show 0 ≤ M by omega)
    refine (parse_good zs a cap P V ls K w hr hcap hz (by omega) (by omega) (by omega) (by omega) (by omega) (by omega) (by omega) hm).mono ?_
    rintro e w' ⟨tv, ts, rfl, g1, g2, g3⟩
    exact .inr ⟨⟨h1, h2, h3, h4, h5⟩, tv, ts, rfl, by simpa using g1, g2, g3⟩
  · have HE : Hid (ParseIs zs p W least M w (.returned (.tuple #[.slice none 0 0, .int .i64 2])) w) := hide (.inl ⟨hok, rfl, rfl⟩)
    have hb : (p < 0) ∨ (¬ p < 0 ∧ (zs.length : Int) < p) ∨ (¬ p < 0 ∧ ¬ (zs.length : Int) < p ∧ W < 1) ∨ (¬ p < 0 ∧ ¬ (zs.length : Int) < p ∧ ¬ W < 1 ∧ least < 1) ∨ (¬ p < 0 ∧ ¬ (zs.length : Int) < p ∧ ¬ W < 1 ∧ ¬ least < 1 ∧ M < least) := by omega
    obtain ⟨n0, hn0⟩ : ∃ n0, n0 = zs.length := ⟨_, rfl⟩
    rw [← hn0] at hb ⊢
    clear hr hz hm hok hn0
    rcases hb with t1 | ⟨t1, t2⟩ | ⟨t1, t2, t3⟩ | ⟨t1, t2, t3, t4⟩ | ⟨t1, t2, t3, t4, t5⟩
    all_goals go_enter Try.func9, Try.ntmps9
    all_goals go_wp2_with fail
    all_goals go_ret2
    all_goals exact unhide HE

end Go.Proofs.Ytabnfnejlffioaa
