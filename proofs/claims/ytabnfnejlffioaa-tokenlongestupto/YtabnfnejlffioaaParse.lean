/- Parse. -/
import Derived.Test.YtabnfnejlffioaaPw
namespace Go.Proofs.Ytabnfnejlffioaa
open Go.RowKit Go.Maps
set_option linter.unusedVariables false

attribute [local go_sem ↓] Go.wp_at_zero Go.wp_at_succ

theorem new_tok (w : World) (t : Tok) : ReadsTN (w.alloc (.cells #[.int .i64 t.n, .int .i64 t.d, .int .u8 (t.b : Int)] 37)) (some ⟨w.heap.size, 0, none⟩) 1 [t] := by
  refine .inr ⟨_, rfl, by simp, fun j u hj => ?_⟩
  have ea : (⟨w.heap.size, 0, none⟩ : Addr).add j = ⟨w.heap.size, j, none⟩ := by by_cases hq : j = 0 <;> simp [Addr.add, hq]
  rw [ea]
  simp only [World.cell?]
  rw [heap_alloc_at, if_pos rfl]
  simpa [tcells] using hj

def ParsedIs (zs : List Nat) (p W least M : Nat) (w : World) (e : Ending) (w' : World) : Prop :=
  ∃ (tv : Value) (ts : List Tok), e = .returned (.tuple #[tv, .int .i64 0]) ∧ Parsed zs W least M p ts zs.length ∧ w'.ownsRow w.heap.size 37 3 tv ts.length (tcells ts) ∧ Below w.heap.size w w'

set_option maxRecDepth 100000 in
set_option maxHeartbeats 8000000 in
theorem parse_good (zs : List Nat) (a0 : Option Addr) (cap P0 W least M : Nat) (w : World) (hr : ReadsU w.heap.size w (.slice a0 zs.length cap) zs) (hcap : zs.length ≤ cap) (hz : ∀ c ∈ zs, c < 256) (hl : zs.length ≤ 100000000) (hp0 : P0 ≤ zs.length) (hW1 : 1 ≤ W) (h1 : 1 ≤ least) (hlM : least ≤ M) (hW : W ≤ 9223372036854775807) (hM : M ≤ 9223372036854775807) (hm : ML w) :
    Calls Try.prog 9 #[.slice a0 zs.length cap, .int .i64 (P0 : Int), .int .i64 (W : Int), .int .i64 (least : Int), .int .i64 (M : Int)] w fun e w' => ParsedIs zs P0 W least M w e w' := by
  obtain ⟨H0, hH⟩ : ∃ H0, H0 = w.heap.size := ⟨_, rfl⟩
  have HHW := hide hH
  have hH00 : 0 < H0 := by obtain ⟨m, hm⟩ := hm; have := cell_lt hm; rw [hH]; exact this
  have HMLS : Hid (∀ ws, Below H0 w ws → ML ws) := hide fun ws hb => by
    obtain ⟨m, hm⟩ := hm
    exact ⟨m, cell_below hb hm hH00⟩
  have HZD : Hid (∀ o, ∀ c ∈ zs.drop o, c < 256) := hide fun o c hc => hz c (List.mem_of_mem_drop hc)
  have HLA := hide (look_all zs a0 cap w.heap.size P0 W zs.length w hr hcap hp0 hl hW (by omega) hl)
  obtain ⟨L, hL⟩ : ∃ L, L = zs.length := ⟨_, rfl⟩
  have HLL : Hid (∀ o, (zs.drop o).length = L - o) := hide fun o => by rw [hL]; simp
  rw [← hL] at HLA hcap hl hp0 ⊢
  have HTX := hide hL
  have t1 : ¬ (P0 : Int) < 0 := by omega
  have t2 : ¬ (L : Int) < (P0 : Int) := by omega
  have t3 : ¬ (W : Int) < 1 := by omega
  have t4 : ¬ (least : Int) < 1 := by omega
  have t5 : ¬ (M : Int) < (least : Int) := by omega
  clear hm hr hz hL hH
  go_enter Try.func9, Try.ntmps9
  go_wp2_with fail
  refine (unhide HLA).mono ?_
  rintro e w' ⟨a, rfl, hrd, hww⟩
  replace hww := hww.symm
  subst hww
  obtain ⟨o, ho⟩ : ∃ o, o = P0 - min P0 W := ⟨_, rfl⟩
  obtain ⟨p, hpp⟩ : ∃ p, p = min P0 W := ⟨_, rfl⟩
  have HOP : Hid (o + p = P0) := hide (by omega)
  have HWIN : Hid (o = 0 ∨ W ≤ p) := hide (by omega)
  rw [← ho] at hrd ⊢
  rw [← hpp]
  obtain ⟨Ll, hLl⟩ : ∃ Ll, Ll = (zs.drop o).length := ⟨_, rfl⟩
  have HLO : Hid (Ll = L - o) := hide (by rw [hLl]; exact unhide HLL o)
  rw [← hLl] at hrd ⊢
  have HNW := hide (new_ok (zs.drop o) a Ll Ll p W least M w (by have := unhide HLO; omega) (by have := unhide HLO; have := unhide HOP; omega) h1 hlM hM)
  have HLLl := hide hLl
  clear hLl
  have HRD := hide hrd
  clear hrd HLA ho hpp
  go_wp2_with fail
  refine (unhide HNW).mono ?_
  rintro e w1 hnew
  obtain ⟨rfl, hb1, hx1⟩ := new_any (zs.drop o) H0 W M (min least 8) p _ w e w1 (by rw [unhide HHW]; exact Nat.le_refl _) hnew
  have hsz1 : w.heap.size = H0 := (unhide HHW).symm
  rw [hsz1] at hb1 hx1 ⊢
  have HP1 : Hid (PAt zs H0 W least M P0 o p H0 a (.slice none 0 0) [] w w1) := hide (by
    have h0 := unhide HRD
    rw [hsz1] at h0
    refine ⟨by rw [unhide HOP]; exact .nil, unhide HWIN, by rw [unhide HOP, ← unhide HTX]; exact hp0, ?_, World.ownsRow_nil _ _ _ _, hb1, by rw [← unhide HLLl]; exact hx1⟩
    rw [← unhide HLLl]
    exact h0.stays hb1)
  clear hb1 hx1 hnew HRD HNW
  obtain ⟨p0, hp0'⟩ : ∃ p0, p0 = p := ⟨_, rfl⟩
  rw [← hp0'] at HP1 HOP HWIN ⊢
  clear hp0' hsz1
  go_wp2_with fail
  go_loopg [12, 14, 15] (L - (o + p0)) (fun gk tv av sv ws => ∃ (o p gx : Nat) (a : Option Addr) (ts : List Tok), gk = L - (o + p) ∧ av = .int .i64 (p : Int) ∧ sv = .pointer (some ⟨gx, 0, none⟩) ∧ PAt zs H0 W least M P0 o p gx a tv ts w ws)
  case atStart => exact ⟨o, p0, H0, a, [], rfl, rfl, rfl, unhide HP1⟩
  case round =>
    clear HP1 HOP HWIN HLO HLLl
    obtain ⟨o, p, gx, a, ts, rfl, rfl, rfl, hat⟩ := hrel
    have c0 := hat.ix.c0
    have c1 := hat.ix.c1
    obtain ⟨Ll, hLl⟩ : ∃ Ll, Ll = (zs.drop o).length := ⟨_, rfl⟩
    have HLO : Hid (Ll = L - o) := hide (by rw [hLl]; exact unhide HLL o)
    rw [← hLl] at c0
    have HLLl := hide hLl
    have hople : o + p ≤ L := by rw [unhide HTX]; exact hat.le
    clear hLl
    by_cases hlt : p < Ll
    · have hlti : (p : Int) < (Ll : Int) := by omega
      have hopL : o + p < L := by have := unhide HLO; omega
      have HOUT := hide (out_ok gx p W wr (by omega) hW c1)
      have HP := hide hat
      clear hat c1
      go_wp2_with fail
      refine (unhide HOUT).mono ?_
      rintro e ws ⟨hor, hws⟩
      have hat : PAt zs H0 W least M P0 o p gx a u12 ts w ws := by rw [hws]; exact (unhide HP).drew
      clear hws HP HOUT c0
      rcases hor with ⟨rfl, hWp⟩ | rfl
      · have c0 := hat.ix.c0
        rw [← unhide HLLl] at c0
        have HLA2 := hide (look_all (zs.drop o) a (zs.drop o).length H0 p W L ws hat.rd (Nat.le_refl _) (by rw [← unhide HLLl]; omega) (by rw [← unhide HLLl]; have := unhide HLO; omega) hW (by rw [← unhide HLLl]; have := unhide HLO; omega) hl)
        rw [show min p W = W by omega, List.drop_drop, ← unhide HLLl] at HLA2
        obtain ⟨o2, ho2⟩ : ∃ o2, o2 = o + (p - W) := ⟨_, rfl⟩
        rw [← ho2] at HLA2
        obtain ⟨L2, hL2⟩ : ∃ L2, L2 = (zs.drop o2).length := ⟨_, rfl⟩
        have HLO2 : Hid (L2 = L - o2) := hide (by rw [hL2]; exact unhide HLL o2)
        rw [← hL2] at HLA2
        have HL2 := hide hL2
        have HO2 := hide ho2
        have hsz : H0 ≤ ws.heap.size := by have := hat.bel.size; rw [← unhide HHW] at this; exact this
        have HP := hide hat
        clear hat hL2 ho2
        go_wp2_with fail
        refine (unhide HLA2).mono ?_
        rintro e w5 ⟨a2, rfl, hrd2, hww⟩
        replace hww := hww.symm
        subst hww
        have HNW2 := hide (new_ok (zs.drop o2) a2 L2 L2 W W least M ws (by have := unhide HLO2; omega) (by have := unhide HLO2; have := unhide HO2; omega) h1 hlM hM)
        have HRD2 := hide hrd2
        clear hrd2 HLA2 c0
        go_wp2_with fail
        refine (unhide HNW2).mono ?_
        rintro e w6 hnew2
        obtain ⟨rfl, hb6, hx6⟩ := new_any (zs.drop o2) H0 W M (min least 8) W _ ws e w6 hsz hnew2
        have hat3 := (unhide HP).anew (o' := o2) (p' := W) (a' := a2) hsz (by have := unhide HO2; omega) (.inr (Nat.le_refl _)) (by rw [← unhide HL2]; exact unhide HRD2) hb6 (by rw [← unhide HL2]; exact hx6)
        have hlt2 : W < L2 := by have := unhide HLO2; have := unhide HO2; omega
        have hopL2 : o2 + W < L := by have := unhide HO2; omega
        have hme : L - (o2 + W) = L - (o + p) := by have := unhide HO2; omega
        obtain ⟨gx2, hgx2⟩ : ∃ gx2, gx2 = ws.heap.size := ⟨_, rfl⟩
        rw [← hgx2] at hat3 ⊢
        have HME := hide hme
        clear hnew2 hb6 hx6 HP HNW2 HRD2 hgx2 hlt hlti hopL HLO HLLl hme HO2
        have hsz6 : H0 ≤ w6.heap.size := by have := hat3.bel.size; rw [← unhide HHW] at this; exact this
        have HMA := hide (match_any (zs.drop o2) H0 W M (min least 8) gx2 W a2 (zs.drop o2).length w6 hat3.ix hat3.rd (Nat.le_refl _) (unhide HZD o2) (by have := unhide HLL o2; omega) (by rw [← unhide HL2]; exact hlt2) hsz6 hH00 hW hM ((unhide HMLS) _ hat3.bel))
        rw [← unhide HL2] at HMA
        have HPA := hide hat3
        clear hat3
        go_wp2_with fail
        refine (unhide HMA).mono ?_
        rintro e W2 ⟨n, d, rfl, hres, hx2, hk2⟩
        rw [← unhide HL2] at hres
        have hat2 := (unhide HPA).met hsz6 hk2 (by rw [← unhide HL2]; exact hx2)
        have hsz2 : H0 ≤ W2.heap.size := by have := hk2.size; omega
        have htok := tok_of (zs := zs) (o := o2) (p := W) (W := W) (least := least) (M := M) (s0 := min least 8) (n := n) (d := d) h1 (by omega) (by omega) (by rw [← unhide HTX]; exact hopL2) hat2.win (by rw [← unhide HL2]; exact hres)
        have c0 := hat2.ix.c0
        rw [← unhide HL2] at c0
        have hlen := (hat2.par.len h1 (by rw [← unhide HTX]; exact hp0)).1
        have hnm : n ≤ L := by
          rcases hres with hb | ⟨e, _⟩
          · have := hb.le; have := unhide HLO2; omega
          · omega
        obtain ⟨K, hK⟩ : ∃ K, K = ts.length := ⟨_, rfl⟩
        clear HMA HPA hres hx2 hk2
        by_cases hnl : n < least
        · have hnli : (n : Int) < (least : Int) := by omega
          obtain ⟨ba, off, rfl⟩ : ∃ ba off, a2 = some ⟨ba, off, none⟩ := by
            obtain ⟨a', c', e, _, hs⟩ := hat2.rd
            injection e with e1 e2 e3
            obtain ⟨b', off', e, _⟩ := hs (by rw [← unhide HL2]; omega)
            exact ⟨b', off', by rw [e1]; exact e⟩
          have kb : W2.cell? ⟨ba, off + W, none⟩ = some (.int .u8 ((zs.drop o2).getD W 0 : Int)) := by
            obtain ⟨a', c', e, _, hs⟩ := hat2.rd
            injection e with e1 e2 e3
            obtain ⟨b', off', e, _, hc⟩ := hs (by rw [← unhide HL2]; omega)
            rw [← e1] at e
            injection e with e
            injection e with e1 e2
            subst e1 e2
            exact hc W (by rw [← unhide HL2]; omega)
          have ht := htok.1 hnl
          obtain ⟨y, hy⟩ : ∃ y, y = (zs.drop o2).getD W 0 := ⟨_, rfl⟩
          rw [← hy] at kb ht
          have HROW := hide (hat2.row.alloc (.cells #[.int .i64 0, .int .i64 0, .int .u8 (y : Int)] 37))
          have HRT : Hid (ReadsTN (W2.alloc (.cells #[.int .i64 0, .int .i64 0, .int .u8 (y : Int)] 37)) (some ⟨W2.heap.size, 0, none⟩) 1 [⟨0, 0, y⟩]) := hide (new_tok W2 ⟨0, 0, y⟩)
          have HAPP : Hid (∀ v' w3, w3.ownsRow H0 37 3 v' (K + 1) (tcells (ts ++ [⟨0, 0, y⟩])) → (W2.alloc (.cells #[.int .i64 0, .int .i64 0, .int .u8 (y : Int)] 37)).grownBy w3 u12.ownBlock → PAt zs H0 W least M P0 o2 (W + 1) gx2 (some ⟨ba, off, none⟩) v' (ts ++ [⟨0, 0, y⟩]) w w3) := hide fun v' w3 q1 q2 => hat2.app hsz2 (by rw [← unhide HTX]; exact hopL2) (by rw [← Nat.add_assoc]; exact ht) (by omega) (by rw [← unhide HTX]; omega) (by rw [← hK]; exact q1) q2
          rw [← hK] at HROW
          clear hat2 ht htok hy
          go_wp2_with (at_builtin; go_must (refine wpList_append_toks rfl _ _ rfl H0 u12 K ts (by rfl) (unhide HROW) _ 1 1 [⟨0, 0, y⟩] rfl (by rfl) (unhide HRT) (by omega) (by simp; omega) ?_; intro v' w3 hown hgrow; have HP3 := hide (unhide HAPP _ _ hown hgrow); clear hown hgrow HAPP HROW HRT))
          go_roundg (L - (o2 + (W + 1)))
          case measure => have := unhide HME; omega
          case rel => exact ⟨o2, W + 1, gx2, _, _, rfl, by go_num, rfl, unhide HP3⟩
        · have hnli : ¬ (n : Int) < (least : Int) := by omega
          obtain ⟨ht, hn1, hpn⟩ := htok.2 hnl
          rw [← unhide HL2, unhide HLO2] at hpn
          have HROW := hide (hat2.row.alloc (.cells #[.int .i64 (n : Int), .int .i64 (d : Int), .int .u8 0] 37))
          have HRT : Hid (ReadsTN (W2.alloc (.cells #[.int .i64 (n : Int), .int .i64 (d : Int), .int .u8 0] 37)) (some ⟨W2.heap.size, 0, none⟩) 1 [⟨n, d, 0⟩]) := hide (new_tok W2 ⟨n, d, 0⟩)
          have HAPP : Hid (∀ v' w3, w3.ownsRow H0 37 3 v' (K + 1) (tcells (ts ++ [⟨n, d, 0⟩])) → (W2.alloc (.cells #[.int .i64 (n : Int), .int .i64 (d : Int), .int .u8 0] 37)).grownBy w3 u12.ownBlock → PAt zs H0 W least M P0 o2 (W + n) gx2 a2 v' (ts ++ [⟨n, d, 0⟩]) w w3) := hide fun v' w3 q1 q2 => hat2.app hsz2 (by rw [← unhide HTX]; exact hopL2) (by rw [← Nat.add_assoc]; exact ht) (by omega) (by rw [← unhide HTX]; omega) (by rw [← hK]; exact q1) q2
          rw [← hK] at HROW
          obtain ⟨pn, hpn2⟩ : ∃ pn : Nat, (W : Int) + (n : Int) = (pn : Int) := ⟨W + n, by omega⟩
          have HPN : Hid (W + n = pn) := hide (by omega)
          have hwpn : IntKind.i64.wrap (pn : Int) = (pn : Int) := IntWalk.i64_in _ (by omega)
          clear hat2 ht htok
          go_wp2_with (at_builtin; go_must (refine wpList_append_toks rfl _ _ rfl H0 u12 K ts (by rfl) (unhide HROW) _ 1 1 [⟨n, d, 0⟩] rfl (by rfl) (unhide HRT) (by omega) (by simp; omega) ?_; intro v' w3 hown hgrow; have HP3 := hide (unhide HAPP _ _ hown hgrow); clear hown hgrow HAPP HROW HRT))
          go_roundg (L - (o2 + pn))
          case measure => have := unhide HME; omega
          case rel => exact ⟨o2, pn, gx2, _, _, rfl, rfl, rfl, by rw [← unhide HPN]; exact unhide HP3⟩
      · have hsz : H0 ≤ ws.heap.size := by have := hat.bel.size; rw [← unhide HHW] at this; exact this
        have HMA := hide (match_any (zs.drop o) H0 W M (min least 8) gx p a (zs.drop o).length ws hat.ix hat.rd (Nat.le_refl _) (unhide HZD o) (by have := unhide HLL o; omega) (by rw [← unhide HLLl]; exact hlt) hsz hH00 hW hM ((unhide HMLS) _ hat.bel))
        rw [← unhide HLLl] at HMA
        have HPA := hide hat
        clear hat
        go_wp2_with fail
        refine (unhide HMA).mono ?_
        rintro e W2 ⟨n, d, rfl, hres, hx2, hk2⟩
        rw [← unhide HLLl] at hres
        have hat2 := (unhide HPA).met hsz hk2 (by rw [← unhide HLLl]; exact hx2)
        have hsz2 : H0 ≤ W2.heap.size := by have := hk2.size; omega
        have htok := tok_of (zs := zs) (o := o) (p := p) (W := W) (least := least) (M := M) (s0 := min least 8) (n := n) (d := d) h1 (by omega) (by omega) (by rw [← unhide HTX]; exact hopL) hat2.win (by rw [← unhide HLLl]; exact hres)
        have c0 := hat2.ix.c0
        rw [← unhide HLLl] at c0
        have hlen := (hat2.par.len h1 (by rw [← unhide HTX]; exact hp0)).1
        have hnm : n ≤ L := by
          rcases hres with hb | ⟨e, _⟩
          · have := hb.le; have := unhide HLO; omega
          · omega
        obtain ⟨K, hK⟩ : ∃ K, K = ts.length := ⟨_, rfl⟩
        clear HMA HPA hres hx2 hk2
        by_cases hnl : n < least
        · have hnli : (n : Int) < (least : Int) := by omega
          obtain ⟨ba, off, rfl⟩ : ∃ ba off, a = some ⟨ba, off, none⟩ := by
            obtain ⟨a', c', e, _, hs⟩ := hat2.rd
            injection e with e1 e2 e3
            obtain ⟨b', off', e, _⟩ := hs (by rw [← unhide HLLl]; omega)
            exact ⟨b', off', by rw [e1]; exact e⟩
          have kb : W2.cell? ⟨ba, off + p, none⟩ = some (.int .u8 ((zs.drop o).getD p 0 : Int)) := by
            obtain ⟨a', c', e, _, hs⟩ := hat2.rd
            injection e with e1 e2 e3
            obtain ⟨b', off', e, _, hc⟩ := hs (by rw [← unhide HLLl]; omega)
            rw [← e1] at e
            injection e with e
            injection e with e1 e2
            subst e1 e2
            exact hc p (by rw [← unhide HLLl]; omega)
          have ht := htok.1 hnl
          obtain ⟨y, hy⟩ : ∃ y, y = (zs.drop o).getD p 0 := ⟨_, rfl⟩
          rw [← hy] at kb ht
          have HROW := hide (hat2.row.alloc (.cells #[.int .i64 0, .int .i64 0, .int .u8 (y : Int)] 37))
          have HRT : Hid (ReadsTN (W2.alloc (.cells #[.int .i64 0, .int .i64 0, .int .u8 (y : Int)] 37)) (some ⟨W2.heap.size, 0, none⟩) 1 [⟨0, 0, y⟩]) := hide (new_tok W2 ⟨0, 0, y⟩)
          have HAPP : Hid (∀ v' w3, w3.ownsRow H0 37 3 v' (K + 1) (tcells (ts ++ [⟨0, 0, y⟩])) → (W2.alloc (.cells #[.int .i64 0, .int .i64 0, .int .u8 (y : Int)] 37)).grownBy w3 u12.ownBlock → PAt zs H0 W least M P0 o (p + 1) gx (some ⟨ba, off, none⟩) v' (ts ++ [⟨0, 0, y⟩]) w w3) := hide fun v' w3 q1 q2 => hat2.app hsz2 (by rw [← unhide HTX]; exact hopL) (by rw [← Nat.add_assoc]; exact ht) (by omega) (by rw [← unhide HTX]; omega) (by rw [← hK]; exact q1) q2
          rw [← hK] at HROW
          clear hat2 ht htok hy
          go_wp2_with (at_builtin; go_must (refine wpList_append_toks rfl _ _ rfl H0 u12 K ts (by rfl) (unhide HROW) _ 1 1 [⟨0, 0, y⟩] rfl (by rfl) (unhide HRT) (by omega) (by simp; omega) ?_; intro v' w3 hown hgrow; have HP3 := hide (unhide HAPP _ _ hown hgrow); clear hown hgrow HAPP HROW HRT))
          go_roundg (L - (o + (p + 1)))
          case measure => omega
          case rel => exact ⟨o, p + 1, gx, _, _, rfl, by go_num, rfl, unhide HP3⟩
        · have hnli : ¬ (n : Int) < (least : Int) := by omega
          obtain ⟨ht, hn1, hpn⟩ := htok.2 hnl
          rw [← unhide HLLl, unhide HLO] at hpn
          have HROW := hide (hat2.row.alloc (.cells #[.int .i64 (n : Int), .int .i64 (d : Int), .int .u8 0] 37))
          have HRT : Hid (ReadsTN (W2.alloc (.cells #[.int .i64 (n : Int), .int .i64 (d : Int), .int .u8 0] 37)) (some ⟨W2.heap.size, 0, none⟩) 1 [⟨n, d, 0⟩]) := hide (new_tok W2 ⟨n, d, 0⟩)
          have HAPP : Hid (∀ v' w3, w3.ownsRow H0 37 3 v' (K + 1) (tcells (ts ++ [⟨n, d, 0⟩])) → (W2.alloc (.cells #[.int .i64 (n : Int), .int .i64 (d : Int), .int .u8 0] 37)).grownBy w3 u12.ownBlock → PAt zs H0 W least M P0 o (p + n) gx a v' (ts ++ [⟨n, d, 0⟩]) w w3) := hide fun v' w3 q1 q2 => hat2.app hsz2 (by rw [← unhide HTX]; exact hopL) (by rw [← Nat.add_assoc]; exact ht) (by omega) (by rw [← unhide HTX]; omega) (by rw [← hK]; exact q1) q2
          rw [← hK] at HROW
          obtain ⟨pn, hpn2⟩ : ∃ pn : Nat, (p : Int) + (n : Int) = (pn : Int) := ⟨p + n, by omega⟩
          have HPN : Hid (p + n = pn) := hide (by omega)
          have hwpn : IntKind.i64.wrap (pn : Int) = (pn : Int) := IntWalk.i64_in _ (by omega)
          clear hat2 ht htok
          go_wp2_with (at_builtin; go_must (refine wpList_append_toks rfl _ _ rfl H0 u12 K ts (by rfl) (unhide HROW) _ 1 1 [⟨n, d, 0⟩] rfl (by rfl) (unhide HRT) (by omega) (by simp; omega) ?_; intro v' w3 hown hgrow; have HP3 := hide (unhide HAPP _ _ hown hgrow); clear hown hgrow HAPP HROW HRT))
          go_roundg (L - (o + pn))
          case measure => omega
          case rel => exact ⟨o, pn, gx, _, _, rfl, rfl, rfl, by rw [← unhide HPN]; exact unhide HP3⟩
    · have hlti : ¬ (p : Int) < (Ll : Int) := by omega
      have HE : Hid (ParsedIs zs P0 W least M w (.returned (.tuple #[u12, .int .i64 0])) wr) := hide (by
        have e : o + p = zs.length := by have := unhide HLO; have := unhide HTX; omega
        refine ⟨u12, ts, rfl, by rw [← e]; exact hat.par, by rw [← unhide HHW]; exact hat.row, by rw [← unhide HHW]; exact hat.bel⟩)
      clear hat c1
      go_wp2_with fail
      go_ret2
      exact unhide HE

end Go.Proofs.Ytabnfnejlffioaa
