/- TokenFinds. -/
import Derived.Test.YtabnfnejlffioaaRefQ
namespace Go.Proofs.Ytabnfnejlffioaa
open Go.RowKit
set_option linter.unusedVariables false

attribute [local go_sem ↓] Go.wp_at_zero Go.wp_at_succ

theorem below_up {B : Nat} {a b c : World} (h : Below B a b) (k : Below b.heap.size b c) (hB : B ≤ b.heap.size) : Below B a c :=
  ⟨k.os.trans h.os, k.tape.trans h.tape, k.output.trans h.output, Nat.le_trans h.size k.size, fun x hx => by rw [k.block x (by omega), h.block x hx]⟩

theorem row_low {w : World} {B B' e size n : Nat} {v : Value} {xs : List Value} (h : w.ownsRow B e size v n xs) (hB : B' ≤ B) : w.ownsRow B' e size v n xs := by
  obtain ⟨h1, h2⟩ := h
  refine ⟨h1, ?_⟩
  rcases h2 with e | ⟨g, cap, cur, e, hb, r⟩
  · exact .inl e
  · exact .inr ⟨g, cap, cur, e, by omega, r⟩

/-- a list of tokens whose lengths are written over -/
structure OverAt (g k : Nat) (w ws : World) : Prop where
  os : ws.os = w.os
  tape : ws.tape = w.tape
  output : ws.output = w.output
  size : w.heap.size ≤ ws.heap.size
  kp : ∀ x : Nat, x < w.heap.size → x ≠ g → ws.heap[x]? = w.heap[x]?
  row : ∃ cs : Array Value, k * 3 ≤ cs.size ∧ ws.heap[g]? = some (.cells cs 37 (0, 0))

theorem OverAt.set {g k : Nat} {w ws : World} (h : OverAt g k w ws) (i : Nat) (u : Value) : OverAt g k w (ws.setCell ⟨g, i, none⟩ u) := by
  obtain ⟨cs, h1, h2⟩ := h.row
  exact ⟨h.os, h.tape, h.output, by simpa using h.size, fun x hx hne => by rw [heap_setCell_other _ _ _ _ (by exact hne)]; exact h.kp x hx hne, _, by simpa using h1, heap_setCell_same ws g i cs 37 u h2⟩

theorem OverAt.cell {g k : Nat} {w ws : World} (h : OverAt g k w ws) {i : Nat} (hi : i < k * 3) : (∃ u, ws.cell? ⟨g, i, none⟩ = some u) ∧ ws.frozen? ⟨g, i, none⟩ = false := by
  obtain ⟨cs, h1, h2⟩ := h.row
  exact ⟨cell_at h2 (by omega), by simp [World.frozen?, h2]⟩

set_option maxRecDepth 100000 in
set_option maxHeartbeats 8000000 in
theorem finds_walk (bs : List Nat) (a : Option Addr) (cap : Nat) (x0 x1 x2 x3 : Int) (w : World) (hb : ReadsB w a cap bs) (hcap : bs.length ≤ cap) (hsm : ∀ z ∈ bs, z < 256) (hl : bs.length ≤ 1048576) (hx1 : x1 ≤ 9223372036854775807) (hx2 : x2 ≤ 9223372036854775807) (hx3 : x3 ≤ 9223372036854775807) (hm : ML w) :
    Calls Try.prog 3 #[.slice a bs.length cap, .agg #[.int .i64 x0, .int .i64 x1, .int .i64 x2, .int .i64 x3]] w fun e w' => e = .returned (.bool true) ∧ Below w.heap.size w w' := by
  obtain ⟨H, hH⟩ : ∃ H, H = w.heap.size := ⟨_, rfl⟩
  obtain ⟨W0, hW0⟩ : ∃ W0, W0 = w.alloc (.cells #[.int .i64 x0, .int .i64 x1, .int .i64 x2, .int .i64 x3] 24) := ⟨_, rfl⟩
  have HBX : Hid (W0.heap[H]? = some (.cells #[.int .i64 x0, .int .i64 x1, .int .i64 x2, .int .i64 x3] 24 (0, 0))) := hide (by rw [hW0, hH]; exact heap_alloc_new _ _)
  have hbl0 : Below H w W0 := by rw [hW0, hH]; exact (Below.refl _ _).alloc (Nat.le_refl _) _
  have HS0 : Hid (W0.heap.size = H + 1) := hide (by rw [hW0, hH]; simp)
  have HHW := hide hH
  have HB := hide hb
  have HSM := hide hsm
  have HML := hide hm
  have HBL0 := hide hbl0
  have HBA : Hid (Below W0.heap.size W0 (W0.alloc (.cells #[] 5))) := hide ((Below.refl _ _).alloc (Nat.le_refl _) _)
  have HRB2 : Hid (ReadsB (W0.alloc (.cells #[] 5)) a cap bs) := hide ((hb.stays (by rw [← hH]; exact hbl0)).stays (unhide HBA))
  have HOB := hide (built_none W0 W0.heap.size (Nat.le_refl _))
  obtain ⟨N, hN⟩ : ∃ N, N = bs.length := ⟨_, rfl⟩
  rw [← hN] at hcap hl ⊢
  have HN := hide hN
  clear hb hsm hm hbl0 hN
  go_enter Try.func3, Try.ntmps3
  go_upto_region 1 with fail
  rw [← hW0, ← hH]
  clear hW0 hH
  go_upto_region 2 with (at_builtin; first | (refine wpList_append_bytes rfl (.tmp 19) (.tmp 20) rfl W0.heap.size (.slice (some ⟨W0.heap.size, 0, none⟩) 0 0) 0 [] (by rfl) (unhide HOB) a N cap bs (unhide HN) (by rfl) (unhide HRB2) (by omega) (by simp) ?_; intro v1 w1 ho1 hg1; have HO1 : Hid (w1.ownsRow W0.heap.size 5 1 v1 N (bs.map bv)) := hide (by simpa using ho1); have HB1 : Hid (Below W0.heap.size W0 w1) := hide ((unhide HBA).grown hg1 (by simp) (fun x e => by simp [Value.ownBlock] at e; omega)); have hb1s := (unhide HB1).size; clear ho1 hg1) | (refine wpList_append_bytes rfl (.tmp 21) (.tmp 22) rfl W0.heap.size v1 N bs (by rfl) (unhide HO1) a N cap bs (unhide HN) (by rfl) (((unhide HB).stays (by rw [← unhide HHW]; exact unhide HBL0)).stays (unhide HB1)) (by omega) hb1s ?_; intro v2 w2 ho2 hg2; have HO2 := hide ho2; have HB2 : Hid (Below W0.heap.size W0 w2) := hide ((unhide HB1).grown hg2 hb1s (fun x e => ((unhide HO1).lt x e).1)); clear ho2 hg2))
  obtain ⟨ai, ci, rfl, hci, hni, hri⟩ := own_readsB (unhide HO2)
  have hbi : ReadsB w2 ai ci bs := by
    have h := hri.take N
    rw [unhide HN, List.take_left'] at h
    · exact h
    · rfl
  have HB02 : Hid (Below H w w2) := hide (below_up (unhide HBL0) (unhide HB2) (by rw [unhide HS0]; omega))
  have HH2 : Hid (H ≤ w2.heap.size) := hide (by have := (unhide HB02).size; rw [← unhide HHW] at this; exact this)
  have HCH : Hid (∀ y, Below w2.heap.size w2 y → (y.cell? ⟨H, 0, none⟩ = some (.int .i64 x0) ∧ y.cell? ⟨H, 1, none⟩ = some (.int .i64 x1) ∧ y.cell? ⟨H, 2, none⟩ = some (.int .i64 x2) ∧ y.cell? ⟨H, 3, none⟩ = some (.int .i64 x3)) ∧ ReadsU y.heap.size y (.slice ai N ci) bs ∧ Reads y (.slice ai (N + N) ci) (bs ++ bs) ∧ ReadsU y.heap.size y (.slice a N cap) bs ∧ ML y ∧ Below H w y) := hide fun y hy => by
    have hHl : H < W0.heap.size := heap_lt (unhide HBX)
    have hsz := (unhide HB2).size
    have hbx : y.heap[H]? = some (.cells #[.int .i64 x0, .int .i64 x1, .int .i64 x2, .int .i64 x3] 24 (0, 0)) := by
      rw [hy.block H (by omega), (unhide HB2).block H hHl]; exact unhide HBX
    have hbw : Below H w y := below_up (unhide HB02) hy (by omega)
    refine ⟨⟨by simp [World.cell?, hbx], by simp [World.cell?, hbx], by simp [World.cell?, hbx], by simp [World.cell?, hbx]⟩, ?_, ?_, ?_, ?_, hbw⟩
    · have h := (hbi.stays hy).reads.u (by rw [← unhide HN]; omega)
      rw [← unhide HN] at h
      exact h
    · have h := (hri.stays hy).reads
      rw [← hni] at h
      exact h
    · have h := ((unhide HB).stays (by rw [← unhide HHW]; exact hbw)).reads.u (by rw [← unhide HN]; exact hcap)
      rw [← unhide HN] at h
      exact h
    · exact (unhide HML).stays (by rw [← unhide HHW]; exact hbw)
  obtain ⟨⟨g0, g1, g2, g3⟩, hru, _, _, hml, _⟩ := unhide HCH w2 (Below.refl _ _)
  have HMA := hide (match_ok bs ai ci w2.heap.size x0 x1 x3 w2 (by rw [← unhide HN]; exact hru) (by rw [← unhide HN]; omega) (unhide HSM) (by rw [← unhide HN]; omega) hx1 hx3 hml)
  rw [← unhide HN] at HMA
  clear hri hbi hru hml HO1 HO2 HOB HRB2 HBA HB1 hb1s hni HBX HB2 HML HB HBL0 HS0 HB02
  go_wp2_with fail
  refine (unhide HMA).mono ?_
  rintro e w3 ⟨n, d, x, rfl, hmis, q, hw3⟩
  have hb23 : Below w2.heap.size w2 w3 := by rw [hw3]; exact below_drewN (Below.refl _ _) q
  have HH3 : Hid (H ≤ w3.heap.size) := hide (by have h1 := hb23.size; have h2 := unhide HH2; omega)
  clear hw3 HMA g0 g1 g2 g3
  obtain ⟨⟨g0, g1, g2, g3⟩, hru, _, _, hml, _⟩ := unhide HCH w3 hb23
  have HPA := hide (parse_any bs ai ci x0 x1 x2 x3 w3 (by rw [← unhide HN]; exact hru) (by rw [← unhide HN]; omega) (unhide HSM) (by rw [← unhide HN]; omega) hx1 hx3 hml)
  rw [← unhide HN] at HPA
  have HB23 := hide hb23
  have HMI := hide hmis
  clear hru hml hb23 hmis
  go_wp2_with fail
  refine (unhide HPA).mono ?_
  rintro e w4 hp4
  have hb34 : Below w3.heap.size w3 w4 := by
    rcases hp4 with ⟨_, _, rfl⟩ | ⟨_, tv, ts, _, _, _, h⟩
    · exact Below.refl _ _
    · exact h
  have hb24 : Below w2.heap.size w2 w4 := below_up (unhide HB23) hb34 (unhide HB23).size
  obtain ⟨⟨k0, k1, k2, k3⟩, hru, _, _, hml, _⟩ := unhide HCH w4 hb24
  have HPB := hide (parse_any bs ai ci x0 x1 x2 x3 w4 (by rw [← unhide HN]; exact hru) (by rw [← unhide HN]; omega) (unhide HSM) (by rw [← unhide HN]; omega) hx1 hx3 hml)
  rw [← unhide HN] at HPB
  have HB24 := hide hb24
  clear hru hml hb34 hb24 HPA g0 g1 g2 g3
  by_cases hok : 0 ≤ x0 ∧ x0 ≤ (N : Int) ∧ 1 ≤ x1 ∧ 1 ≤ x2 ∧ x2 ≤ x3
  · obtain ⟨p1, p2, p3, p4, p5⟩ := hok
    obtain ⟨P, rfl⟩ := Int.eq_ofNat_of_zero_le p1
    obtain ⟨V, rfl⟩ := Int.eq_ofNat_of_zero_le (show 0 ≤ x1 by omega)
    obtain ⟨ls, rfl⟩ := Int.eq_ofNat_of_zero_le (show 0 ≤ x2 by omega)
    obtain ⟨K, rfl⟩ := Int.eq_ofNat_of_zero_le (show 0 ≤ x3 by omega)
    obtain ⟨tl, ts, rfl, hpar, hol⟩ : ∃ (tl : Value) (ts : List Tok), e = .returned (.tuple #[tl, .int .i64 0]) ∧ Parsed bs V ls K P ts bs.length ∧ w4.ownsRow w3.heap.size 37 3 tl ts.length (tcells ts) := by
      rcases hp4 with ⟨h, _⟩ | ⟨_, tv, ts, h1, h2, h3, _⟩
      · exact absurd ⟨p1, by rw [← unhide HN]; exact p2, p3, p4, p5⟩ h
      · exact ⟨tv, ts, h1, by simpa using h2, h3⟩
    have hkl := (hpar.len (by omega) (by rw [← unhide HN]; omega)).1
    rw [← unhide HN] at hkl
    have HOL := hide hol
    have HPAR := hide hpar
    clear hp4 hol hpar
    go_wp2_with fail
    refine (unhide HPB).mono ?_
    rintro e w5 hp5
    obtain ⟨tm, rfl, hom, hb45⟩ : ∃ tm : Value, e = .returned (.tuple #[tm, .int .i64 0]) ∧ w5.ownsRow w4.heap.size 37 3 tm ts.length (tcells ts) ∧ Below w4.heap.size w4 w5 := by
      rcases hp5 with ⟨h, _⟩ | ⟨_, tv, ts2, h1, h2, h3, h4⟩
      · exact absurd ⟨p1, by rw [← unhide HN]; exact p2, p3, p4, p5⟩ h
      · have h2' : Parsed bs V ls K P ts2 bs.length := by simpa using h2
        obtain rfl := (unhide HPAR).eq h2'
        exact ⟨tv, h1, h3, h4⟩
    have HB25 : Hid (Below w2.heap.size w2 w5) := hide (below_up (unhide HB24) hb45 (unhide HB24).size)
    obtain ⟨⟨m0, m1, m2, m3⟩, _, _, hra, _, _⟩ := unhide HCH w5 (unhide HB25)
    obtain ⟨rfl, n', d', rfl, rfl, hbest⟩ : x = 0 ∧ ∃ n' d' : Nat, n = (n' : Int) ∧ d = (d' : Int) ∧ IsBest (zf bs) P (min P V) (min K (bs.length - P)) n' d' := by
      rcases unhide HMI with ⟨h, _⟩ | ⟨_, h1, n', d', h2, h3, h4⟩
      · exact absurd ⟨p1, by rw [← unhide HN]; exact p2, p3, by omega⟩ h
      · exact ⟨h1, n', d', h2, h3, by simp only [Int.toNat_natCast] at h4; exact h4⟩
    have HRM := hide (refmatch_ok bs a cap P V K w5 w5.heap.size (by rw [← unhide HN]; exact hra) (by rw [← unhide HN]; exact hl) (by rw [← unhide HN]; omega) (by omega))
    rw [← unhide HN] at HRM
    have HOM := hide hom
    have HB45 := hide hb45
    have HBEST := hide hbest
    have r3 : 1 ≤ (K : Int) := by omega
    clear hp5 HPB HMI hom hb45 hbest hra k0 k1 k2 k3
    go_wp2_with fail
    refine (unhide HRM).mono ?_
    rintro e w6 ⟨n2, d2, rfl, hb2, q2, hw6⟩
    obtain ⟨rfl, rfl⟩ := (unhide HBEST).eq hb2
    have HB56 : Hid (Below w5.heap.size w5 w6) := hide (by rw [hw6]; exact below_drewN (Below.refl _ _) q2)
    have HB26 : Hid (Below w2.heap.size w2 w6) := hide (below_up (unhide HB25) (unhide HB56) (unhide HB25).size)
    clear hw6 hb2 HRM HBEST m0 m1 m2 m3
    obtain ⟨⟨m0, m1, m2, m3⟩, _, _, hra, _, _⟩ := unhide HCH w6 (unhide HB26)
    have HRP := hide (refparse_ok bs a cap P V ls K w6 (by rw [← unhide HN]; exact hra) (by rw [← unhide HN]; exact hl) (by rw [← unhide HN]; omega) (by omega) (by omega))
    rw [← unhide HN] at HRP
    have z1 : ((n' : Int) != (n' : Int)) = false := by simp
    have z2 : ((d' : Int) != (d' : Int)) = false := by simp
    have r1 : ¬ (ls : Int) < 1 := by omega
    have r2 : ¬ (K : Int) < (ls : Int) := by omega
    clear hra
    go_wp2_with fail
    refine (unhide HRP).mono ?_
    rintro e w7 ⟨tw, ts2, rfl, hpw, how, hb67⟩
    obtain rfl := (unhide HPAR).eq hpw
    have HB27 : Hid (Below w2.heap.size w2 w7) := hide (below_up (unhide HB26) hb67 (unhide HB26).size)
    have HB47 : Hid (Below w4.heap.size w4 w7) := hide (below_up (below_up (unhide HB45) (unhide HB56) (unhide HB45).size) hb67 (Nat.le_trans (unhide HB45).size (unhide HB56).size))
    have HB57 : Hid (Below w5.heap.size w5 w7) := hide (below_up (unhide HB56) hb67 (unhide HB56).size)
    have HOL7 : Hid (w7.ownsRow w3.heap.size 37 3 tl ts.length (tcells ts)) := hide (own_keep (unhide HOL) (fun q hq => (unhide HB47).block q (row_type (unhide HOL) hq).1))
    have HOM7 : Hid (w7.ownsRow w4.heap.size 37 3 tm ts.length (tcells ts)) := hide (own_keep (unhide HOM) (fun q hq => (unhide HB57).block q (row_type (unhide HOM) hq).1))
    have HOW7 : Hid (w7.ownsRow w4.heap.size 37 3 tw ts.length (tcells ts)) := hide (row_low how (Nat.le_trans (unhide HB45).size (unhide HB56).size))
    have HLT : Hid (∀ q, tl.ownBlock = some q → q < w4.heap.size) := hide fun q hq => (row_type (unhide HOL) hq).1
    have h47 := (unhide HB47).size
    obtain ⟨⟨_, _, _, _⟩, _, hrin, hra, _, hbw⟩ := unhide HCH w7 (unhide HB27)
    obtain ⟨al, cl, rfl, hrl⟩ := own_toks (unhide HOL7) rfl
    obtain ⟨am, cm, rfl, hrm⟩ := own_toks (unhide HOM7) rfl
    obtain ⟨aw, cw, rfl, hrw⟩ := own_toks (unhide HOW7) rfl
    have HSA := hide (same_yes ts (.slice al ts.length cl) (.slice aw ts.length cw) w7.heap.size w7.heap.size w7 (by omega) hrl.t hrw.t)
    have HRIN := hide hrin
    have HRA := hide hra.reads
    have HBW := hide hbw
    obtain ⟨k, hk⟩ : ∃ k, k = ts.length := ⟨_, rfl⟩
    rw [← hk] at HSA HOL7 HOM7 HOW7 HLT hkl ⊢
    have HK := hide hk
    clear hrl hrm hrw hrin hra hbw how hpw hb67 HRP HOL HOM HB24 HB25 HB26 HB27 HB45 HB56 HB57 HCH HPAR hk m0 m1 m2 m3
    go_wp2_with fail
    refine (unhide HSA).mono ?_
    rintro e w8 ⟨rfl, q8, hw8⟩
    have hb78 : Below w7.heap.size w7 w8 := by rw [hw8]; exact below_drewN (Below.refl _ _) q8
    have HV1 : Hid ((convert 22 9 (.slice ai (N + N) ci)).run Try.prog w8 = .ok (.string (str (bs ++ bs))) w8) := hide (by
      have h := conv_reads (w := w8) (v := .slice ai (N + N) ci) (zs := bs ++ bs) (by rw [hw8]; exact unhide HRIN) (fun z hz => by
        rcases List.mem_append.1 hz with h | h <;> exact unhide HSM z h)
      exact h)
    have HV2 : Hid ((convert 22 9 (.slice a N cap)).run Try.prog w8 = .ok (.string (str bs)) w8) := hide (conv_reads (w := w8) (v := .slice a N cap) (zs := bs) (by rw [hw8]; exact unhide HRA) (unhide HSM))
    have hS := str_app bs bs
    obtain ⟨S1, hS1⟩ : ∃ S1, S1 = str bs := ⟨_, rfl⟩
    obtain ⟨S2, hS2⟩ : ∃ S2, S2 = str (bs ++ bs) := ⟨_, rfl⟩
    rw [← hS1, ← hS2] at hS
    rw [← hS2] at HV1
    rw [← hS1] at HV2
    have hv1 := unhide HV1
    have hv2 := unhide HV2
    have HB8 : Hid (Below H w w8) := hide (below_up (unhide HBW) hb78 (by have := (unhide HBW).size; rw [← unhide HHW] at this; exact this))
    have HOM8 : Hid (w8.ownsRow w4.heap.size 37 3 (.slice am k cm) k (tcells ts)) := hide (own_keep (unhide HOM7) (fun q hq => hb78.block q (row_type (unhide HOM7) hq).1))
    have HOW8 : Hid (w8.ownsRow w4.heap.size 37 3 (.slice aw k cw) k (tcells ts)) := hide (own_keep (unhide HOW7) (fun q hq => hb78.block q (row_type (unhide HOW7) hq).1))
    have HOL8 : Hid (w8.ownsRow w3.heap.size 37 3 (.slice al k cl) k (tcells ts)) := hide (own_keep (unhide HOL7) (fun q hq => hb78.block q (row_type (unhide HOL7) hq).1))
    have hszl : ¬ 9223372036854775807 < S1.size + S1.size := by
      have : S1.size = N := by rw [hS1, unhide HN]; simp [str, ByteArray.size]
      omega
    clear hb78 hw8 HSA HRIN HRA HBW HOL7 HOM7 HOW7 HB47 hS1 hS2 HV1 HV2
    go_upto_region 18 with fail
    have hk4 : k ≤ N := by omega
    have HMW : Hid (∀ ws, (∀ q, w4.heap.size ≤ q → q < w8.heap.size → ws.heap[q]? = w8.heap[q]?) → Calls Try.prog 13 #[.slice am k cm, .slice aw k cw] ws fun e w' => e = .returned (.bool true) ∧ ∃ q, w' = ws.drewN q) := hide fun ws ho => by
      have om : ws.ownsRow w4.heap.size 37 3 (.slice am k cm) k (tcells ts) := own_keep (unhide HOM8) (fun q hq => ho q (row_ty (unhide HOM8) hq).1 (row_type (unhide HOM8) hq).1)
      have ow : ws.ownsRow w4.heap.size 37 3 (.slice aw k cw) k (tcells ts) := own_keep (unhide HOW8) (fun q hq => ho q (row_ty (unhide HOW8) hq).1 (row_type (unhide HOW8) hq).1)
      obtain ⟨am', cm', e1, hrm⟩ := own_toks om (unhide HK)
      obtain ⟨aw', cw', e2, hrw⟩ := own_toks ow (unhide HK)
      injection e1 with e1 _ e1'
      injection e2 with e2 _ e2'
      subst e1 e1' e2 e2'
      have h := same_yes ts (.slice am ts.length cm) (.slice aw ts.length cw) ws.heap.size ws.heap.size ws (by rw [← unhide HK]; omega) hrm.t hrw.t
      rw [← unhide HK] at h
      exact h
    by_cases hk0 : k = 0
    · have HSB := hide (unhide HMW w8 (fun _ _ _ => rfl))
      subst hk0
      clear HOL8 HOM8 HOW8 hv1 hv2 hS hszl HMW
      go_wp2_with fail
      go_loopg [18] 0 (fun gi vi ws => gi = 0 ∧ vi = .int .i64 0 ∧ w8 = ws)
      case atStart => exact ⟨rfl, rfl, rfl⟩
      case round =>
        obtain ⟨-, rfl, rfl⟩ := hrel
        go_wp2_with fail
        refine (unhide HSB).mono ?_
        rintro e w9 ⟨rfl, q9, hw9⟩
        have HNM := hide (names_ok w9)
        have HBG : Hid (Below w.heap.size w w9) := hide (by rw [hw9, ← unhide HHW]; exact below_drewN (unhide HB8) q9)
        clear hw9
        go_wp2_with (go_at_call 11; refine (unhide HNM).mono ?_; rintro e w10 ⟨rfl, hw10⟩; replace hw10 := hw10.symm; subst hw10)
        go_ret
        exact ⟨rfl, unhide HBG⟩
    · obtain ⟨gl, hal⟩ : ∃ gl, al = some ⟨gl, 0, none⟩ := by
        rcases (unhide HOL8).2 with ⟨_, e⟩ | ⟨g, cp, cur, e, _⟩
        · omega
        · injection e with e1
          exact ⟨g, e1⟩
      subst hal
      have hgl : gl < w4.heap.size := unhide HLT gl rfl
      have HOV : Hid (OverAt gl k w8 w8) := hide (by
        obtain ⟨_, cs, hcs⟩ := row_type (unhide HOL8) (q := gl) rfl
        refine ⟨rfl, rfl, rfl, Nat.le_refl _, fun _ _ _ => rfl, cs, ?_, hcs⟩
        rcases (unhide HOL8).2 with ⟨_, e⟩ | ⟨g, cp, cur, e, _, hh, hle, _, hsz, _⟩
        · omega
        · injection e with e1
          injection e1 with e1
          injection e1 with e1
          subst e1
          rw [hh] at hcs
          injection hcs with hcs
          injection hcs with hcs _ _
          subst hcs
          rw [hsz]
          exact Nat.mul_le_mul_right 3 hle)
      have HGH : Hid (H ≤ gl) := hide (by have h1 := (row_ty (unhide HOL8) (x := gl) rfl).1; have h2 := unhide HH3; omega)
      clear HOL8 HOM8 HOW8 hv1 hv2 hS hszl
      go_wp2_with fail
      go_loopg [18] k (fun gi vi ws => ∃ i : Nat, gi = k - i ∧ i ≤ k ∧ vi = .int .i64 (i : Int) ∧ OverAt gl k w8 ws)
      case atStart => exact ⟨0, rfl, by omega, rfl, unhide HOV⟩
      case round =>
        obtain ⟨i, rfl, hi, rfl, hov⟩ := hrel
        clear HOV
        by_cases hlt : i < k
        · have hlti : (i : Int) < (k : Int) := by omega
          obtain ⟨⟨u, hu⟩, hfz⟩ := hov.cell (i := i * 3) (by omega)
          have HOV2 := hide (hov.set (i * 3) (.int .i64 (-1)))
          clear hov
          go_wp2_with fail
          go_roundg (k - (i + 1))
          case measure => omega
          case rel => exact ⟨i + 1, rfl, by omega, by go_num, unhide HOV2⟩
        · have hlti : ¬ (i : Int) < (k : Int) := by omega
          have HSB := hide (unhide HMW wr (fun q h1 h2 => hov.kp q h2 (by omega)))
          have HBF : Hid (Below H w wr) := hide (by
            have h8 := unhide HB8
            have hg := unhide HGH
            exact ⟨hov.os.trans h8.os, hov.tape.trans h8.tape, hov.output.trans h8.output, Nat.le_trans h8.size hov.size, fun x hx => by rw [hov.kp x (by have := h8.size; rw [← unhide HHW] at this; omega) (by omega)]; exact h8.block x hx⟩)
          clear hov
          go_wp2_with fail
          refine (unhide HSB).mono ?_
          rintro e w9 ⟨rfl, q9, hw9⟩
          have HNM := hide (names_ok w9)
          have HBG : Hid (Below w.heap.size w w9) := hide (by rw [hw9, ← unhide HHW]; exact below_drewN (unhide HBF) q9)
          clear hw9
          go_wp2_with (go_at_call 11; refine (unhide HNM).mono ?_; rintro e w10 ⟨rfl, hw10⟩; replace hw10 := hw10.symm; subst hw10)
          go_ret
          exact ⟨rfl, unhide HBG⟩
  · obtain ⟨rfl, hw4⟩ : e = .returned (.tuple #[.slice none 0 0, .int .i64 2]) ∧ w4 = w3 := by
      rcases hp4 with ⟨_, h1, h2⟩ | ⟨h, _⟩
      · exact ⟨h1, h2⟩
      · rw [← unhide HN] at h; exact absurd h hok
    clear hp4 hw4
    go_wp2_with fail
    refine (unhide HPB).mono ?_
    rintro e w5 hp5
    obtain ⟨rfl, hw5⟩ : e = .returned (.tuple #[.slice none 0 0, .int .i64 2]) ∧ w5 = w4 := by
      rcases hp5 with ⟨_, h1, h2⟩ | ⟨h, _⟩
      · exact ⟨h1, h2⟩
      · rw [← unhide HN] at h; exact absurd h hok
    clear hp5
    replace hw5 := hw5.symm
    subst hw5
    have HNM := hide (names_ok w4)
    by_cases hpl : 0 ≤ x0 ∧ x0 ≤ (N : Int) ∧ 1 ≤ x1
    · obtain ⟨p1, p2, p3⟩ := hpl
      by_cases hm3 : 1 ≤ x3
      · obtain ⟨P, rfl⟩ := Int.eq_ofNat_of_zero_le p1
        obtain ⟨V, rfl⟩ := Int.eq_ofNat_of_zero_le (show 0 ≤ x1 by omega)
        obtain ⟨K, rfl⟩ := Int.eq_ofNat_of_zero_le (show 0 ≤ x3 by omega)
        obtain ⟨rfl, n', d', rfl, rfl, hbest⟩ : x = 0 ∧ ∃ n' d' : Nat, n = (n' : Int) ∧ d = (d' : Int) ∧ IsBest (zf bs) P (min P V) (min K (bs.length - P)) n' d' := by
          rcases unhide HMI with ⟨h, _⟩ | ⟨_, h1, n', d', h2, h3, h4⟩
          · exact absurd ⟨p1, by rw [← unhide HN]; exact p2, p3, hm3⟩ h
          · exact ⟨h1, n', d', h2, h3, by simp only [Int.toNat_natCast] at h4; exact h4⟩
        have HRM := hide (refmatch_ok bs a cap P V K w4 w4.heap.size (by rw [← unhide HN]; exact (unhide HCH w4 (unhide HB24)).2.2.2.1) (by rw [← unhide HN]; exact hl) (by rw [← unhide HN]; omega) (by omega))
        rw [← unhide HN] at HRM
        have hcc : x2 < 1 ∨ (¬ x2 < 1 ∧ (K : Int) < x2) := by omega
        have HBE : Hid (Below H w w4) := hide (unhide HCH w4 (unhide HB24)).2.2.2.2.2
        have HBEST := hide hbest
        clear HMI HPB HCH hok hbest
        go_wp2_with fail
        refine (unhide HRM).mono ?_
        rintro e w6 ⟨n2, d2, rfl, hb2, q2, hw6⟩
        obtain ⟨rfl, rfl⟩ := (unhide HBEST).eq hb2
        have HNM2 := hide (names_ok w6)
        have HBF : Hid (Below w.heap.size w w6) := hide (by rw [hw6, ← unhide HHW]; exact below_drewN (unhide HBE) q2)
        have j2 : w6.cell? ⟨H, 2, none⟩ = some (.int .i64 x2) := by rw [hw6]; exact k2
        have j3 : w6.cell? ⟨H, 3, none⟩ = some (.int .i64 (K : Int)) := by rw [hw6]; exact k3
        have z1 : ((n' : Int) != (n' : Int)) = false := by simp
        have z2 : ((d' : Int) != (d' : Int)) = false := by simp
        clear hw6 hb2 HRM HBEST HNM
        rcases hcc with u1 | ⟨u1, u2⟩
        all_goals
          go_wp2_with (go_at_call 11; refine (unhide HNM2).mono ?_; rintro e w9 ⟨rfl, hw9⟩; replace hw9 := hw9.symm; subst hw9)
          go_ret
          exact ⟨rfl, unhide HBF⟩
      · obtain ⟨rfl, rfl, rfl⟩ : n = 0 ∧ d = 0 ∧ x = 2 := by
          rcases unhide HMI with ⟨_, h1, h2, h3⟩ | ⟨h, _⟩
          · exact ⟨h1, h2, h3⟩
          · exact absurd h.2.2.2 hm3
        have hcc : x2 < 1 ∨ (¬ x2 < 1 ∧ x3 < x2) := by omega
        have HBE : Hid (Below w.heap.size w w4) := hide (by rw [← unhide HHW]; exact (unhide HCH w4 (unhide HB24)).2.2.2.2.2)
        clear HMI HPB HCH hok
        rcases hcc with u1 | ⟨u1, u2⟩
        all_goals
          go_wp2_with (go_at_call 11; refine (unhide HNM).mono ?_; rintro e w6 ⟨rfl, hw6⟩; replace hw6 := hw6.symm; subst hw6)
          go_ret
          exact ⟨rfl, unhide HBE⟩
    · obtain ⟨rfl, rfl, rfl⟩ : n = 0 ∧ d = 0 ∧ x = 2 := by
        rcases unhide HMI with ⟨_, h1, h2, h3⟩ | ⟨h, _⟩
        · exact ⟨h1, h2, h3⟩
        · rw [← unhide HN] at h; exact absurd ⟨h.1, h.2.1, h.2.2.1⟩ hpl
      have hcc : (¬ 0 ≤ x0) ∨ (0 ≤ x0 ∧ ¬ x0 ≤ (N : Int)) ∨ (0 ≤ x0 ∧ x0 ≤ (N : Int) ∧ ¬ 1 ≤ x1) := by omega
      have HBE : Hid (Below w.heap.size w w4) := hide (by rw [← unhide HHW]; exact (unhide HCH w4 (unhide HB24)).2.2.2.2.2)
      clear HMI HPB HCH hok hpl
      rcases hcc with u1 | ⟨u1, u2⟩ | ⟨u1, u2, u3⟩
      all_goals
        go_wp2_with (go_at_call 11; refine (unhide HNM).mono ?_; rintro e w6 ⟨rfl, hw6⟩; replace hw6 := hw6.symm; subst hw6)
        go_ret
        exact ⟨rfl, unhide HBE⟩

end Go.Proofs.Ytabnfnejlffioaa
