/- TokenExpands: any tokens behind any text make the document's text, or are refused. -/
import Derived.Test.YtabgoggjlinggaaJoins
namespace Go.Proofs.Ytabgoggjlinggaa
open Go.RowKit
set_option linter.unusedVariables false

attribute [local go_sem ↓] Go.wp_at_zero Go.wp_at_succ

theorem refexp_ok (bs : List Nat) (ts : List Tok) (ab at' : Option Addr) (cb ct : Nat) (w : World) (hb : ReadsB w ab cb bs) (ht : ReadsTN w at' ct ts) (hin : InT ts) (hbl : bs.length ≤ 274877906944) (htl : ts.length ≤ 140737488355328) :
    Calls Try.prog 15 #[.slice ab bs.length cb, .slice at' ts.length ct] w fun e w' => ∃ v x, e = .returned (.tuple #[v, .int .i64 x]) ∧ RefIs bs ts w.heap.size v x w' ∧ Below w.heap.size w w' :=
  refexp_loop bs ts ab at' cb ct w.heap.size w hb ht.t (Nat.le_refl _) hin hbl htl

/-- what all five calls tell -/
theorem expands_same {bs : List Nat} {ts : List Tok} {b1 b2 b3 : Nat} {vx vy vw : Value} {ex ey ew : Int} {w1 w2 w3 : World} (h1 : ExpIs bs ts b1 vx ex w1) (h2 : ExpIs bs ts b2 vy ey w2) (h3 : RefIs bs ts b3 vw ew w3) :
    (∃ ax cx ay cy aw cw, vx = .slice ax 0 cx ∧ vy = .slice ay 0 cy ∧ vw = .slice aw 0 cw ∧ ew = ex) ∨
    (ex = 0 ∧ ew = 0 ∧ 0 < (mades bs ts ts.length).length ∧ (mades bs ts ts.length).length ≤ 268435456 ∧ w1.ownsRow b1 5 1 vx (mades bs ts ts.length).length ((mades bs ts ts.length).map bv) ∧ w2.ownsRow b2 5 1 vy (mades bs ts ts.length).length ((mades bs ts ts.length).map bv) ∧ ReadsF b3 w3 vw (mades bs ts ts.length)) := by
  rcases h1 with ⟨f1, rfl⟩ | ⟨g1, rfl, o1⟩ <;> rcases h2 with ⟨f2, rfl⟩ | ⟨g2, rfl, o2⟩ <;> rcases h3 with ⟨f3, rfl⟩ | ⟨g3, rfl, o3⟩
  · exact .inl ⟨none, 0, none, 0, none, 0, rfl, rfl, rfl, f3.one f1⟩
  · exact absurd g3 f1.not
  · exact absurd g2 f1.not
  · exact absurd g2 f1.not
  · exact absurd g1 f2.not
  · exact absurd g1 f2.not
  · exact absurd g1 f3.not
  · rcases Nat.eq_zero_or_pos (mades bs ts ts.length).length with h0 | h0
    · obtain ⟨ax, cx, e1⟩ := own_shape o1
      obtain ⟨ay, cy, e2⟩ := own_shape o2
      obtain ⟨aw, cw, e3, _⟩ := o3
      rw [h0] at e1 e2 e3
      exact .inl ⟨ax, cx, ay, cy, aw, cw, e1, e2, e3, rfl⟩
    · exact .inr ⟨rfl, rfl, h0, by rw [mades_length]; exact g1.sum, o1, o2, o3⟩

theorem snoc_reads {w : World} {base n : Nat} {v : Value} {bs : List Nat} {z : Nat} (h : w.ownsRow base 5 1 v n ((bs ++ [z]).map bv)) : ∃ g c, v = .slice (some ⟨g, 0, none⟩) (bs.length + 1) c ∧ bs.length + 1 ≤ c ∧ n = bs.length + 1 ∧ ReadsB w (some ⟨g, 0, none⟩) c bs ∧ ReadsB w (some ⟨g, 0, none⟩) c (bs ++ [z]) := by
  obtain ⟨a, c, rfl, hc, hn, hr⟩ := own_readsB h
  simp at hn
  subst hn
  rcases h.2 with ⟨e, _⟩ | ⟨g, c', cur, e, _⟩
  · cases e
  · injection e with e1 e2 e3
    subst e1 e3
    refine ⟨g, c, rfl, hc, rfl, ?_, hr⟩
    rcases hr with ⟨e, _⟩ | ⟨ad, e, hcell⟩
    · cases e
    · injection e with e
      subst e
      refine .inr ⟨_, rfl, fun j u hj => hcell j u ?_⟩
      have hl : j < bs.length := by
        have := (List.getElem?_eq_some_iff.1 hj).1
        simpa using this
      rw [List.map_append, List.getElem?_append_left (by simpa using hl)]
      exact hj

/-- bytes of one block are changed, no other -/
structure XAt (w8 ws : World) (gx X : Nat) : Prop where
  only : Only gx w8 ws
  row : 0 < X → RowB ws gx X

theorem XAt.set {w8 ws : World} {gx X : Nat} (h : XAt w8 ws gx X) (j : Nat) (y : Int) : XAt w8 (ws.setCell ⟨gx, j, none⟩ (.int .u8 y)) gx X := ⟨h.only.set j _, fun h0 => (h.row h0).set j y⟩

theorem ReadsF.only {B gx : Nat} {w ws : World} {v : Value} {zs : List Nat} (h : ReadsF B w v zs) (hB : gx < B) (ho : Only gx w ws) : Reads ws v zs := by
  obtain ⟨a, cap, rfl, hs⟩ := h
  refine ⟨a, cap, rfl, fun h0 => ?_⟩
  obtain ⟨ad, rfl, hb, hc⟩ := hs h0
  refine ⟨ad, rfl, fun j u hj => ?_⟩
  have h1 := hc j u hj
  have hbl : (ad.add j).block = ad.block := by unfold Addr.add; split <;> rfl
  rw [World.cell?_of_block (ho.keep _ (cell_lt h1) (by rw [hbl]; omega))]
  exact h1

theorem ReadsF.stays {B : Nat} {w w1 : World} (hb : Below w.heap.size w w1) {v : Value} {zs : List Nat} (h : ReadsF B w v zs) : ReadsF B w1 v zs := by
  obtain ⟨a, cap, rfl, hs⟩ := h
  refine ⟨a, cap, rfl, fun h0 => ?_⟩
  obtain ⟨ad, rfl, h1, hc⟩ := hs h0
  exact ⟨ad, rfl, h1, fun j u hj => cell_stays hb (hc j u hj)⟩

theorem own_readsF {w : World} {B n : Nat} {v : Value} {zs : List Nat} (h : w.ownsRow B 5 1 v n (zs.map bv)) : ReadsF B w v zs := by
  obtain ⟨a, c, rfl, hc, hn, hr⟩ := own_readsB h
  refine ⟨a, c, by rw [hn], fun h0 => ?_⟩
  rcases hr with ⟨_, _, rfl⟩ | ⟨ad, rfl, hcell⟩
  · simp at h0
  · exact ⟨ad, rfl, (h.lt ad.block rfl).1, hcell⟩

set_option maxRecDepth 100000 in
set_option maxHeartbeats 2000000 in
theorem expands_walk (bs : List Nat) (ts : List Tok) (ab at' : Option Addr) (cb ct : Nat) (w : World) (hb : ReadsB w ab cb bs) (ht : ReadsTN w at' ct ts)
    (hsm : ∀ z ∈ bs, z < 256) (hin : InT ts) (hst : SmallT ts) (hbl : bs.length ≤ 1048576) (htl : ts.length ≤ 1048576) :
    Calls Try.prog 4 #[.slice ab bs.length cb, .slice at' ts.length ct] w fun e w' => e = .returned (.bool true) ∧ Below w.heap.size w w' := by
  have HRB := hide hb
  have HT := hide ht
  have HSM := hide hsm
  have HIN := hide hin
  have HST := hide hst
  clear hb ht hsm hin hst
  have HBA : Hid (Below w.heap.size w (w.alloc (.cells #[] 5))) := hide ((Below.refl _ _).alloc (Nat.le_refl _) _)
  have HRB2 : Hid (ReadsB (w.alloc (.cells #[] 5)) ab cb bs) := hide ((unhide HRB).stays (unhide HBA))
  have HOB := hide (built_none w w.heap.size (Nat.le_refl _))
  obtain ⟨N, hN⟩ : ∃ N, N = bs.length := ⟨_, rfl⟩
  obtain ⟨P, hP⟩ : ∃ P, P = ts.length := ⟨_, rfl⟩
  rw [← hN] at hbl ⊢
  rw [← hP] at htl ⊢
  have HN := hide hN
  have HP := hide hP
  clear hN hP
  go_enter Try.func4, Try.ntmps4
  go_upto_region 2 with (at_builtin; first | (refine wpList_append_bytes rfl (.tmp 18) (.tmp 19) rfl w.heap.size (.slice (some ⟨w.heap.size, 0, none⟩) 0 0) 0 [] (by rfl) (unhide HOB) ab N cb bs (unhide HN) (by rfl) (unhide HRB2) (by omega) (by simp) ?_; intro v1 w1 ho1 hg1; have HO1 : Hid (w1.ownsRow w.heap.size 5 1 v1 N (bs.map bv)) := hide (by simpa using ho1); have HB1 : Hid (Below w.heap.size w w1) := hide ((unhide HBA).grown hg1 (by simp) (fun x e => by simp [Value.ownBlock] at e; omega)); have hb1s := (unhide HB1).size; have HNW : Hid (ReadsB (w1.alloc (.cells #[bv 90] 5)) (some ⟨w1.heap.size, 0, none⟩) 1 [90]) := hide (.inr ⟨_, rfl, news_one (bv 90) 5⟩); clear ho1 hg1) | (refine wpList_append_bytes rfl (.tmp 20) (.tmp 21) rfl w.heap.size v1 N bs (by rfl) ((unhide HO1).alloc _) (some ⟨w1.heap.size, 0, none⟩) 1 1 [90] rfl (by rfl) (by exact unhide HNW) (by omega) (by simp; omega) ?_; intro v2 w2 ho2 hg2; have HO2 := hide ho2; have HB2 : Hid (Below w.heap.size w w2) := hide (((unhide HB1).alloc hb1s _).grown hg2 (by simp; omega) (fun x e => ((unhide HO1).lt x e).1)); clear ho2 hg2))
  obtain ⟨gi, ci, rfl, hci, hni, hri1, hri2⟩ := snoc_reads (unhide HO2)
  rw [← unhide HN] at hci ⊢
  have HI1 := hide hri1
  have HI2 := hide hri2
  have hb2s := (unhide HB2).size
  have HB2A : Hid (Below w2.heap.size w2 (w2.alloc (.cells #[] 37))) := hide ((Below.refl _ _).alloc (Nat.le_refl _) _)
  have HT2 : Hid (ReadsTN (w2.alloc (.cells #[] 37)) at' ct ts) := hide ((unhide HT).stays ((unhide HB2).alloc hb2s _))
  have HOT := hide (built_toks w2 w2.heap.size (Nat.le_refl _))
  clear hri1 hri2 hni HO2 HO1 HOB HRB2 HBA HNW HB1 hb1s
  go_upto_region 3 with (at_builtin; go_must (refine wpList_append_toks rfl (.tmp 23) (.tmp 24) rfl w2.heap.size (.slice (some ⟨w2.heap.size, 0, none⟩) 0 0) 0 [] (by rfl) (unhide HOT) at' P ct ts (unhide HP) (by rfl) (unhide HT2) (by omega) (by simp) ?_; intro v3 w3 ho3 hg3; have HO3 : Hid (w3.ownsRow w2.heap.size 37 3 v3 P (tcells ts)) := hide (by simpa using ho3); have HB23 : Hid (Below w2.heap.size w2 w3) := hide ((unhide HB2A).grown hg3 (by simp) (fun x e => by simp [Value.ownBlock] at e; omega)); clear ho3 hg3))
  obtain ⟨a3, c3, rfl, hr3⟩ := own_toks (unhide HO3) (unhide HP)
  have HT3 := hide hr3
  have HB3 := hide (below_next (unhide HB2) (unhide HB23))
  have HI3 := hide ((unhide HI1).stays (unhide HB23))
  have HC4 : Hid (∀ w', Below w3.heap.size w3 w' → Calls Try.prog 14 #[.slice (some ⟨gi, 0, none⟩) N ci, .slice a3 P c3] w' fun e w'' => ∃ v x, e = .returned (.tuple #[v, .int .i64 x]) ∧ ExpIs bs ts w'.heap.size v x w'' ∧ Below w'.heap.size w' w'') := hide fun w' hb => by
    have h1 := (((unhide HI3).stays hb).reads.u (by rw [← unhide HN]; omega))
    have h2 := ((unhide HT3).stays hb).t
    rw [← unhide HN] at h1
    rw [← unhide HP] at h2
    exact expand_ok bs ts _ _ w'.heap.size w' h1 h2 (Nat.le_refl _) (unhide HIN) (by rw [← unhide HN]; omega) (by rw [← unhide HP]; omega)
  clear hr3 HO3 HOT HT2 HB2A
  have hNc : N ≤ ci := by omega
  go_wp2_with fail
  refine (unhide HC4 w3 (Below.refl _ _)).mono ?_
  rintro e w4 ⟨vx, ex, rfl, h1, h2⟩
  have HX4 := hide h1
  have HB34 := hide h2
  clear h1 h2
  go_wp2_with fail
  refine (unhide HC4 w4 (unhide HB34)).mono ?_
  rintro e w5 ⟨vy, ey, rfl, h1, h2⟩
  have HX5 := hide h1
  have HB45 := hide h2
  have HB35 := hide (below_next (unhide HB34) h2)
  have HB5 := hide (below_next (unhide HB3) (unhide HB35))
  clear h1 h2 HC4
  have HC6 := hide (refexp_ok bs ts ab at' cb ct w5 ((unhide HRB).stays (unhide HB5)) ((unhide HT).stays (unhide HB5)) (unhide HIN) (by rw [← unhide HN]; omega) (by rw [← unhide HP]; omega))
  rw [← unhide HN, ← unhide HP] at HC6
  go_wp2_with fail
  refine (unhide HC6).mono ?_
  rintro e w6 ⟨vw, ew, rfl, h1, h2⟩
  have HX6 := hide h1
  have HB56 := hide h2
  have HB46 := hide (below_next (unhide HB45) h2)
  have HB36 := hide (below_next (unhide HB35) h2)
  have HB6 := hide (below_next (unhide HB5) h2)
  clear h1 h2 HC6
  have HC7 := hide (length_ok ts (.slice a3 P c3) w6.heap.size w6 (by have := ((unhide HT3).stays (unhide HB36)).t; rw [← unhide HP] at this; exact this) (Nat.le_refl _) (unhide HIN) (by rw [← unhide HP]; omega))
  go_wp2_with fail
  refine (unhide HC7).mono ?_
  rintro e w7 ⟨n7, f7, rfl, h1, h2⟩
  have HX7 := hide h1
  have HB67 := hide h2
  have HB7 := hide (below_next (unhide HB6) h2)
  clear h1 h2 HC7
  have HC8 := hide (reflen_ok ts (.slice at' P ct) w7.heap.size w7 (by have := ((unhide HT).stays (unhide HB7)).t; rw [← unhide HP] at this; exact this) (Nat.le_refl _) (unhide HIN) (by rw [← unhide HP]; omega))
  go_wp2_with fail
  refine (unhide HC8).mono ?_
  rintro e w8 ⟨n8, f8, rfl, h1, h2⟩
  obtain ⟨h3, h4⟩ := h1.one (unhide HX7)
  subst h3 h4
  have HB68 := hide (below_next (unhide HB67) h2)
  have HB8 := hide (below_next (unhide HB7) h2)
  clear h1 h2 HC8 HX7
  have HS8 : Hid (Calls Try.prog 13 #[.slice a3 P c3, .slice at' P ct] w8 fun e w' => e = .returned (.bool true) ∧ ∃ q, w' = w8.drewN q) := hide (by
    have h1 := ((unhide HT3).stays (below_next (unhide HB36) (unhide HB68))).t
    have h2 := ((unhide HT).stays (unhide HB8)).t
    rw [← unhide HP] at h1 h2
    exact same_yes ts _ _ _ _ w8 (by rw [← unhide HP]; omega) h1 h2)
  have hki : (convert 22 9 (.slice (some ⟨gi, 0, none⟩) (N + 1) ci)).run Try.prog w8 = .ok (.string (str (bs ++ [90]))) w8 := by
    have := conv_reads (((unhide HI2).stays (unhide HB23)).stays (below_next (unhide HB36) (unhide HB68))).reads (by intro z hz; rw [List.mem_append] at hz; rcases hz with hz | hz; exact unhide HSM z hz; simp at hz; omega)
    rw [List.length_append, ← unhide HN] at this
    exact this
  have hkb : (convert 22 9 (.slice ab N cb)).run Try.prog w8 = .ok (.string (str bs)) w8 := by
    have := conv_reads ((unhide HRB).stays (unhide HB8)).reads (unhide HSM)
    rw [← unhide HN] at this
    exact this
  have hcat : str bs ++ ⟨#[90]⟩ = str (bs ++ [90]) := str_app bs [90]
  have hsz : ¬ 9223372036854775807 < (str bs).size + 1 := by
    have : (str bs).size = N := by rw [unhide HN]; simp [str, ByteArray.size]
    omega
  obtain ⟨SB, hSB⟩ : ∃ S, S = str bs := ⟨_, rfl⟩
  obtain ⟨SI, hSI⟩ : ∃ S, S = str (bs ++ [90]) := ⟨_, rfl⟩
  rw [← hSB] at hkb hcat hsz
  rw [← hSI] at hki hcat
  clear hSB hSI
  rcases expands_same (unhide HX4) (unhide HX5) (unhide HX6) with ⟨ax, cx, ay, cy, aw, cw, rfl, rfl, rfl, rfl⟩ | ⟨rfl, rfl, h0, hml, ox, oy, rw'⟩
  · have he1 : (ew != ew) = false := by simp
    have he2 : (n8 != n8) = false := by simp
    have he3 : (f8 != f8) = false := by simp
    obtain ⟨X, hX⟩ : ∃ X, X = 0 := ⟨_, rfl⟩
    obtain ⟨gx, hgx⟩ : ∃ gx, gx = w8.heap.size := ⟨_, rfl⟩
    have hc0 : ∀ (ws : World) (a : Option Addr) (c : Nat), (convert 22 9 (.slice a X c)).run Try.prog ws = .ok (.string ⟨#[]⟩) ws := fun ws a c => by rw [hX]; exact conv_zero ws a c
    have hkx := hc0 w8 ax cx
    have hkw := hc0 w8 aw cw
    have HROW : Hid (0 < X → RowB w8 gx X) := hide fun h => by omega
    have HAX : Hid (0 < X → ax = some ⟨gx, 0, none⟩) := hide fun h => by omega
    have HLAST : Hid (∀ ws, XAt w8 ws gx X → (convert 22 9 (.slice ay X cy)).run Try.prog ws = .ok (.string ⟨#[]⟩) ws ∧ (convert 22 9 (.slice aw X cw)).run Try.prog ws = .ok (.string ⟨#[]⟩) ws ∧ Below w.heap.size w ws) := hide fun ws h => ⟨hc0 ws ay cy, hc0 ws aw cw, (unhide HB8).trans (h.only.below (by rw [hgx]; exact (unhide HB8).size) (unhide HB8).size)⟩
    have hXb : X ≤ 268435456 := by omega
    have e1 : Value.slice ax 0 cx = .slice ax X cx := by rw [hX]
    have e2 : Value.slice ay 0 cy = .slice ay X cy := by rw [hX]
    have e3 : Value.slice aw 0 cw = .slice aw X cw := by rw [hX]
    rw [e1, e2, e3]
    clear HX4 HX5 HX6 hX hgx hc0 e1 e2 e3
    go_wp2_with (go_at_call 13; go_must (refine (unhide HS8).mono ?_; rintro e w9 ⟨rfl, q, hw9⟩))
    have HAT : Hid (XAt w8 (w8.drewN q) gx X) := hide ⟨Only.drewN _ _ _, unhide HROW⟩
    clear hki hkb hcat hsz hkx hkw HS8
    go_loopg [17] X (fun gk d ws => ∃ (k : Nat), gk = X - k ∧ k ≤ X ∧ d = .int .i64 (k : Int) ∧ Hid (XAt w8 ws gx X))
    case atStart => exact ⟨0, by omega, by omega, rfl, HAT⟩
    case round =>
      obtain ⟨k, rfl, hk, rfl, hat⟩ := hrel
      by_cases hlt : k < X
      · obtain rfl := unhide HAX (by omega)
        obtain ⟨⟨y, hy⟩, hfz⟩ := ((unhide hat).row (by omega)).cell k hlt
        have hki : (k : Int) < (X : Int) := by omega
        have HNX : Hid (∀ z, XAt w8 (wr.setCell ⟨gx, k, none⟩ (.int .u8 z)) gx X) := hide fun z => (unhide hat).set k z
        clear hat
        go_wp2_with fail
        go_roundg (X - (k + 1))
        case measure => omega
        case rel => exact ⟨k + 1, rfl, by omega, by go_num, hide (unhide HNX _)⟩
      · obtain rfl : k = X := by omega
        have hki : ¬ (k : Int) < (k : Int) := by omega
        obtain ⟨hky, hkw, hbl⟩ := unhide HLAST wr (unhide hat)
        have HBF := hide hbl
        clear hbl hat
        go_wp2_with (go_at_call 11; go_must (refine (names_ok _).mono ?_; rintro e w' ⟨rfl, hww⟩; replace hww := hww.symm; subst hww))
        go_ret
        exact ⟨rfl, unhide HBF⟩
  · have he2 : (n8 != n8) = false := by simp
    have he3 : (f8 != f8) = false := by simp
    obtain ⟨gx, cx, rfl, hcx, hgb, hcell⟩ := own_cells ox h0
    have hgx4 := (ox.lt gx rfl).2
    have hB48 := below_next (unhide HB46) (unhide HB68)
    have hB58 := below_next (unhide HB56) (unhide HB68)
    have ox8 : w8.ownsRow w3.heap.size 5 1 (.slice (some ⟨gx, 0, none⟩) (mades bs ts ts.length).length cx) (mades bs ts ts.length).length ((mades bs ts ts.length).map bv) := own_keep ox (fun g e => by simp [Value.ownBlock] at e; subst e; exact hB48.block _ hgx4)
    have fy8 := (own_readsF oy).stays hB58
    have fw8 := rw'.stays (unhide HB68)
    have hzs := mades_small (unhide HSM) (unhide HST) ts.length
    obtain ⟨Z, hZ⟩ : ∃ Z, Z = mades bs ts ts.length := ⟨_, rfl⟩
    rw [← hZ] at ox8 fy8 fw8 hzs hml h0 hcx hcell ⊢
    obtain ⟨ay, cy, rfl, hy⟩ := id fy8
    obtain ⟨aw, cw, rfl, hw⟩ := id fw8
    obtain ⟨X, hX⟩ : ∃ X, X = Z.length := ⟨_, rfl⟩
    have hkx := conv_reads (reads_row ox8 rfl) hzs
    have hkw := conv_reads fw8.reads hzs
    have HROW : Hid (0 < X → RowB w8 gx X) := hide fun _ => by rw [hX]; exact RowB.of ox8 rfl
    obtain ⟨SZ, hSZ⟩ : ∃ S : ByteArray, S = ⟨(Z.map UInt8.ofNat).toArray⟩ := ⟨_, rfl⟩
    have HLAST : Hid (∀ ws, XAt w8 ws gx X → (convert 22 9 (.slice ay X cy)).run Try.prog ws = .ok (.string SZ) ws ∧ (convert 22 9 (.slice aw X cw)).run Try.prog ws = .ok (.string SZ) ws ∧ Below w.heap.size w ws) := hide fun ws h => by
      rw [hX, hSZ]
      refine ⟨conv_reads (fy8.only hgx4 h.only) hzs, conv_reads (fw8.only (Nat.lt_of_lt_of_le hgx4 (unhide HB45).size) h.only) hzs, (unhide HB8).trans (h.only.below ?_ (unhide HB8).size)⟩
      exact Nat.le_trans (unhide HB3).size hgb
    rw [← hX] at hkx hkw hml h0 hcx ⊢
    rw [← hSZ] at hkx hkw
    obtain ⟨ax, hax⟩ : ∃ ax : Option Addr, ax = some ⟨gx, 0, none⟩ := ⟨_, rfl⟩
    have HAX : Hid (0 < X → ax = some ⟨gx, 0, none⟩) := hide fun h => hax
    rw [← hax] at hkx ⊢
    have hXb : X ≤ 268435456 := hml
    clear HX4 HX5 HX6 hX hax hSZ hZ hzs ox oy rw' ox8 fy8 fw8 hy hw hB48 hB58 hcell hgx4
    go_wp2_with (go_at_call 13; go_must (refine (unhide HS8).mono ?_; rintro e w9 ⟨rfl, q, hw9⟩))
    have HAT : Hid (XAt w8 (w8.drewN q) gx X) := hide ⟨Only.drewN _ _ _, unhide HROW⟩
    clear hki hkb hcat hsz hkx hkw HS8
    go_loopg [17] X (fun gk d ws => ∃ (k : Nat), gk = X - k ∧ k ≤ X ∧ d = .int .i64 (k : Int) ∧ Hid (XAt w8 ws gx X))
    case atStart => exact ⟨0, by omega, by omega, rfl, HAT⟩
    case round =>
      obtain ⟨k, rfl, hk, rfl, hat⟩ := hrel
      by_cases hlt : k < X
      · obtain rfl := unhide HAX (by omega)
        obtain ⟨⟨y, hy⟩, hfz⟩ := ((unhide hat).row (by omega)).cell k hlt
        have hki : (k : Int) < (X : Int) := by omega
        have HNX : Hid (∀ z, XAt w8 (wr.setCell ⟨gx, k, none⟩ (.int .u8 z)) gx X) := hide fun z => (unhide hat).set k z
        clear hat
        go_wp2_with fail
        go_roundg (X - (k + 1))
        case measure => omega
        case rel => exact ⟨k + 1, rfl, by omega, by go_num, hide (unhide HNX _)⟩
      · obtain rfl : k = X := by omega
        have hki : ¬ (k : Int) < (k : Int) := by omega
        obtain ⟨hky, hkw, hbl⟩ := unhide HLAST wr (unhide hat)
        have HBF := hide hbl
        clear hbl hat
        go_wp2_with (go_at_call 11; go_must (refine (names_ok _).mono ?_; rintro e w' ⟨rfl, hww⟩; replace hww := hww.symm; subst hww))
        go_ret
        exact ⟨rfl, unhide HBF⟩

end Go.Proofs.Ytabgoggjlinggaa
