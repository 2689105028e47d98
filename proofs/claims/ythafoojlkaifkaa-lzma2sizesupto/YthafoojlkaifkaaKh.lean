/- A chunk behind its kind. -/
import Derived.Test.YthafoojlkaifkaaKg
namespace Go.Proofs.Ythafoojlkaifkaa.K
open Go.RowKit H
set_option maxRecDepth 100000
set_option linter.unusedVariables false
attribute [local go_sem ↓] Go.wp_at_zero Go.wp_at_succ

section
variable {w : World} {bb ub : Nat} {va : Option Addr} {vc : Nat} {zs : List Nat} {p q : Nat} {cb k n : Nat} {lc lp pb : Int} {body : Value}

/-- the next bytes, or none -/
def NxIs (bb ub : Nat) (va : Option Addr) (vc : Nat) (zs : List Nat) (p m : Nat) (x : World) (a : Option Addr) (c : Nat) (n : Nat) (er : Int) (w' : World) : Prop :=
  (zs.length < p + m ∧ er = 10 ∧ w' = x) ∨ (p + m ≤ zs.length ∧ er = 0 ∧ n = m ∧ c = vc - p ∧ (∃ g o, va = some ⟨g, o, none⟩ ∧ a = some ⟨g, o + p, none⟩) ∧ NK w' bb ub va vc zs (p + m) ∧ But [ub] x w')

theorem nx_any (h : NK w bb ub va vc zs p) (m : Nat) (hm : 1 ≤ m) (hm2 : m ≤ 65536) : Calls Try.prog 11 #[.int .i64 (m : Int), .pointer (some ⟨bb, 0, none⟩), .pointer (some ⟨ub, 0, none⟩)] w fun e w' => ∃ a n c er, e = .returned (.tuple #[.slice a n c, .int .i64 er]) ∧ NxIs bb ub va vc zs p m w a c n er w' := by
  by_cases hn : zs.length < p + m
  · refine (next_end h m hn hm2).mono ?_
    rintro e w' ⟨rfl, rfl⟩
    exact ⟨_, _, _, _, rfl, .inl ⟨hn, rfl, rfl⟩⟩
  · refine (next_ok h m (by omega) hm).mono ?_
    rintro e w' ⟨g, o, rfl, rfl, h1, h2⟩
    exact ⟨_, _, _, _, rfl, .inr ⟨by omega, rfl, rfl, rfl, ⟨g, o, rfl, rfl⟩, h1, h2⟩⟩

/-- what came of a chunk's reading -/
def ReadIs (R : Ck) (bb ub : Nat) (va : Option Addr) (vc : Nat) (zs : List Nat) (cb : Nat) (w : World) (e : Ending) (w' : World) : Prop :=
  (∃ er : Nat, R = .err er ∧ er ≠ 0 ∧ e = .returned (.int .i64 (er : Int)) ∧ But [ub, cb] w w' ∧ UB w' ub) ∨ (∃ k n s m, R = .told k n s m ∧ e = .returned (.int .i64 0) ∧ NK w' bb ub va vc zs (s + m) ∧ (∃ l1 l2 l3 g o, va = some ⟨g, o, none⟩ ∧ CAt w' cb k n l1 l2 l3 (.slice (some ⟨g, o + s, none⟩) m (vc - s))) ∧ But [ub, cb] w w')

theorem fits_yes (n : Int) (w : World) : Calls Try.prog 7 #[.int .i64 n] w fun e w' => e = .returned (.bool true) ∧ w' = w := by
  go_enter Try.func7, Try.ntmps7
  go_wp2_with fail
  go_ret
  exact ⟨rfl, rfl⟩

def CALLR (R : Ck) (bb ub : Nat) (va : Option Addr) (vc : Nat) (zs : List Nat) (cb : Nat) (w : World) : Prop := Calls Try.prog 13 #[.pointer (some ⟨cb, 0, none⟩), nextV bb ub, .func (.func 7) #[] #[]] w (ReadIs R bb ub va vc zs cb w)

/-- where the sizes lack -/
theorem read_end (hs : Calls Try.prog 17 #[.pointer (some ⟨cb, 0, none⟩), nextV bb ub] w (EndIs ub [ub, cb] w)) : CALLR (.err 10) bb ub va vc zs cb w := by
  unfold CALLR
  have HS := hide hs
  have HF : Hid (∀ x, But [ub, cb] w x → UB x ub → ReadIs (.err 10) bb ub va vc zs cb w (.returned (.int .i64 10)) x) := hide fun x h h2 => .inl ⟨10, rfl, by decide, rfl, h, h2⟩
  generalize ReadIs (.err 10) bb ub va vc zs cb w = POST at HF ⊢
  clear hs
  go_enter Try.func13, Try.ntmps13
  go_wp2_with fail
  refine (unhide HS).mono ?_
  rintro e w1 ⟨⟨x, rfl⟩, hb, hu⟩
  have HB := hide (unhide HF _ hb hu)
  clear hb hu
  go_wp2_with fail
  first
  | exact unhide HB
  | (go_ret; exact unhide HB)

/-- a chunk without props, behind its sizes -/
theorem read_plain (N s m : Nat) (R : Ck) (hs : Calls Try.prog 17 #[.pointer (some ⟨cb, 0, none⟩), nextV bb ub] w fun e w' => e = .returned (.tuple #[.int .i64 (m : Int), .int .i64 0]) ∧ NK w' bb ub va vc zs s ∧ CAt w' cb k N lc lp pb body ∧ But [ub, cb] w w')
    (hk : k < 192) (hm : 1 ≤ m ∧ m ≤ 65536) (hR : R = if zs.length < s + m then .err 10 else .told k N s m) : CALLR R bb ub va vc zs cb w := by
  unfold CALLR
  have HS := hide hs
  have HF : Hid (∀ x y a c n' er, CAt x cb k N lc lp pb body → NK x bb ub va vc zs s → But [ub, cb] w x → NxIs bb ub va vc zs s m x a c n' er y → ReadIs R bb ub va vc zs cb w (.returned (.int .i64 er)) (y.setCell ⟨cb, 5, none⟩ (.slice a n' c))) := hide fun x y a c n' er hc hN hb hx => by
    rcases hx with ⟨h1, rfl, rfl⟩ | ⟨h1, rfl, rfl, rfl, ⟨g, o, h2, rfl⟩, h3, h4⟩
    · rw [if_pos h1] at hR
      exact .inl ⟨10, hR, by decide, rfl, hb.set (g := cb) (by simp) 5 _, (hN.setC hc).ub⟩
    · rw [if_neg (by omega)] at hR
      have hc2 := hc.keep h4 (by simpa using hN.ne_c hc)
      exact .inr ⟨k, N, s, n', hR, rfl, h3.setC hc2, ⟨lc, lp, pb, g, o, h2, hc2.setB _⟩, (hb.trans (h4.more (by simp))).set (g := cb) (by simp) 5 _⟩
  generalize ReadIs R bb ub va vc zs cb w = POST at HF ⊢
  have HM := hide hm
  have HK : Hid (k < 192) := hide hk
  clear hs hR hm hk
  go_enter Try.func13, Try.ntmps13
  go_wp2_with fail
  refine (unhide HS).mono ?_
  rintro e w1 ⟨rfl, h1, h2, h3⟩
  have c1 := h2.c1
  have HN := hide (nx_any h1 m (unhide HM).1 (unhide HM).2)
  have HP := hide (hasP_ok h2 false (by have := unhide HK; simp; omega))
  have H12 := hide (And.intro h2 (And.intro h1 h3))
  clear h1 h2 h3 HS
  go_wp2_with fail
  refine (fits_yes _ _).mono ?_
  rintro e w2 ⟨rfl, rfl⟩
  go_wp2_with fail
  refine (unhide HP).mono ?_
  rintro e w2 ⟨rfl, rfl⟩
  unfold nextV at *
  go_wp2_with fail
  refine (unhide HN).mono ?_
  rintro e w3 ⟨a, n', c, er, rfl, hx⟩
  have hx' := hx
  obtain ⟨h2, h1, h3⟩ := unhide H12
  have hc3 : CAt w3 cb k N lc lp pb body := by
    rcases hx with ⟨_, _, rfl⟩ | ⟨_, _, _, _, _, _, h4⟩
    · exact h2
    · exact h2.keep h4 (by simpa using h1.ne_c h2)
  have c5 := hc3.c5
  have fr := hc3.fr
  have HFF := hide (unhide HF _ _ _ _ _ _ h2 h1 h3 hx')
  clear hc3 h1 h2 h3 hx hx' HF HN H12
  go_wp2_with fail
  first
  | exact unhide HFF
  | (go_ret; exact unhide HFF)

/-- a chunk with props: up to these -/
theorem read_propsE (N s : Nat) (m er : Nat) (he : er ≠ 0) (hs : Calls Try.prog 17 #[.pointer (some ⟨cb, 0, none⟩), nextV bb ub] w fun e w' => e = .returned (.tuple #[.int .i64 (m : Int), .int .i64 0]) ∧ NK w' bb ub va vc zs s ∧ CAt w' cb k N lc lp pb body ∧ But [ub, cb] w w')
    (hk : 192 ≤ k) (hp : ∀ w1, NK w1 bb ub va vc zs s → CAt w1 cb k N lc lp pb body → Calls Try.prog 19 #[.pointer (some ⟨cb, 0, none⟩), nextV bb ub] w1 fun e w' => e = .returned (.int .i64 (er : Int)) ∧ But [ub, cb] w1 w' ∧ UB w' ub) : CALLR (.err er) bb ub va vc zs cb w := by
  unfold CALLR
  have HS := hide hs
  have HPP := hide hp
  have HF : Hid (∀ x y, But [ub, cb] w x → But [ub, cb] x y → UB y ub → ReadIs (.err er) bb ub va vc zs cb w (.returned (.int .i64 (er : Int))) y) := hide fun x y h1 h2 h3 => .inl ⟨er, rfl, he, rfl, h1.trans h2, h3⟩
  generalize ReadIs (.err er) bb ub va vc zs cb w = POST at HF ⊢
  have HK : Hid (192 ≤ k) := hide hk
  have t0 : ¬ (er : Int) = 0 := by omega
  clear hs hk hp
  go_enter Try.func13, Try.ntmps13
  go_wp2_with fail
  refine (unhide HS).mono ?_
  rintro e w1 ⟨rfl, h1, h2, h3⟩
  have c1 := h2.c1
  have HN := hide (unhide HPP w1 h1 h2)
  have HP := hide (hasP_ok h2 true (by have := unhide HK; simp; omega))
  have H12 := hide h3
  clear h1 h2 h3 HS HPP
  go_wp2_with fail
  refine (fits_yes _ _).mono ?_
  rintro e w2 ⟨rfl, rfl⟩
  go_wp2_with fail
  refine (unhide HP).mono ?_
  rintro e w2 ⟨rfl, rfl⟩
  go_wp2_with fail
  refine (unhide HN).mono ?_
  rintro e w3 ⟨rfl, hb, hu⟩
  have HFF := hide (unhide HF _ _ (unhide H12) hb hu)
  clear hb hu HF HN H12
  go_wp2_with fail
  first
  | exact unhide HFF
  | (go_ret; exact unhide HFF)

theorem read_props (N s m : Nat) (R : Ck) (hs : Calls Try.prog 17 #[.pointer (some ⟨cb, 0, none⟩), nextV bb ub] w fun e w' => e = .returned (.tuple #[.int .i64 (m : Int), .int .i64 0]) ∧ NK w' bb ub va vc zs s ∧ CAt w' cb k N lc lp pb body ∧ But [ub, cb] w w')
    (hk : 192 ≤ k) (hl : s + 1 ≤ zs.length) (hpr : propsB (zs.getD s 0) = true) (hm : 1 ≤ m ∧ m ≤ 65536) (hR : R = if zs.length < s + 1 + m then .err 10 else .told k N (s + 1) m) : CALLR R bb ub va vc zs cb w := by
  unfold CALLR
  have HS := hide hs
  have HF : Hid (∀ x y a c n' er l1 l2 l3, CAt x cb k N l1 l2 l3 body → NK x bb ub va vc zs (s + 1) → But [ub, cb] w x → NxIs bb ub va vc zs (s + 1) m x a c n' er y → ReadIs R bb ub va vc zs cb w (.returned (.int .i64 er)) (y.setCell ⟨cb, 5, none⟩ (.slice a n' c))) := hide fun x y a c n' er l1 l2 l3 hc hN hb hx => by
    rcases hx with ⟨h1, rfl, rfl⟩ | ⟨h1, rfl, rfl, rfl, ⟨g, o, h2, rfl⟩, h3, h4⟩
    · rw [if_pos h1] at hR
      exact .inl ⟨10, hR, by decide, rfl, hb.set (g := cb) (by simp) 5 _, (hN.setC hc).ub⟩
    · rw [if_neg (by omega)] at hR
      have hc2 := hc.keep h4 (by simpa using hN.ne_c hc)
      exact .inr ⟨k, N, s + 1, n', hR, rfl, h3.setC hc2, ⟨l1, l2, l3, g, o, h2, hc2.setB _⟩, (hb.trans (h4.more (by simp))).set (g := cb) (by simp) 5 _⟩
  generalize ReadIs R bb ub va vc zs cb w = POST at HF ⊢
  have HM := hide hm
  have HK : Hid (192 ≤ k) := hide hk
  have HL := hide hl
  have HPR := hide hpr
  clear hs hR hm hk hl hpr
  go_enter Try.func13, Try.ntmps13
  go_wp2_with fail
  refine (unhide HS).mono ?_
  rintro e w1 ⟨rfl, h1, h2, h3⟩
  have c1 := h2.c1
  have HQ := hide (props_any h1 h2 (unhide HL))
  rw [if_pos (unhide HPR)] at HQ
  have HP := hide (hasP_ok h2 true (by have := unhide HK; simp; omega))
  have H3 := hide h3
  clear h1 h2 h3 HS
  go_wp2_with fail
  refine (fits_yes _ _).mono ?_
  rintro e w2 ⟨rfl, rfl⟩
  go_wp2_with fail
  refine (unhide HP).mono ?_
  rintro e w2 ⟨rfl, rfl⟩
  go_wp2_with fail
  refine (unhide HQ).mono ?_
  rintro e w2 ⟨rfl, h1, ⟨l1, l2, l3, h2⟩, h4⟩
  have HN := hide (nx_any h1 m (unhide HM).1 (unhide HM).2)
  have H12 := hide (And.intro h2 (And.intro h1 ((unhide H3).trans h4)))
  clear h1 h2 h4 HQ HP
  unfold nextV at *
  go_wp2_with fail
  refine (unhide HN).mono ?_
  rintro e w3 ⟨a, n', c, er, rfl, hx⟩
  have hx' := hx
  obtain ⟨h2, h1, h3⟩ := unhide H12
  have hc3 : CAt w3 cb k N l1 l2 l3 body := by
    rcases hx with ⟨_, _, rfl⟩ | ⟨_, _, _, _, _, _, h4⟩
    · exact h2
    · exact h2.keep h4 (by simpa using h1.ne_c h2)
  have c5 := hc3.c5
  have fr := hc3.fr
  have HFF := hide (unhide HF _ _ _ _ _ _ _ _ _ h2 h1 h3 hx')
  clear hc3 h1 h2 h3 hx hx' HF HN H12
  go_wp2_with fail
  first
  | exact unhide HFF
  | (go_ret; exact unhide HFF)

/-- a chunk behind its kind, whatever it is -/
theorem read_ok {first props : Bool} {v : Option Addr} {vn vcc : Nat} (h : NK w bb ub va vc zs (q + 1)) (hc : CAt w cb (zs.getD q 0) n lc lp pb (.slice v vn vcc)) (hbad : badK (zs.getD q 0) first props = false) (h0 : zs.getD q 0 ≠ 0) : CALLR (ckF zs q first props 1099511627776) bb ub va vc zs cb w := by
  have hk := getD_small h.sm q
  have hle := h.le
  have t1 := two_le h.sm (q + 1)
  have t3 := two_le h.sm (q + 3)
  unfold ckF
  rw [if_neg (by omega), hbad, if_neg (by simp), if_neg h0]
  by_cases c3 : zs.length < q + 3
  · rw [if_pos c3]; exact read_end (sizes_end1 h hc (by omega))
  rw [if_neg c3]
  by_cases c4 : zs.getD q 0 < 128
  · rw [if_pos c4, if_neg (by omega)]
    exact read_plain _ _ _ _ (sizes_copy h hc (by omega) c4) (by omega) ⟨t1.2, t1.1⟩ rfl
  rw [if_neg c4]
  by_cases c5 : zs.length < q + 5
  · rw [if_pos c5]; exact read_end (sizes_end2 h hc (by omega) (by omega) hk (by omega))
  rw [if_neg c5, if_neg (by omega)]
  have hs := sizes_packed h hc (by omega) (by omega) hk
  by_cases c6 : zs.getD q 0 < 192
  · rw [if_pos c6]
    exact read_plain _ _ _ _ hs c6 ⟨t3.2, t3.1⟩ rfl
  rw [if_neg c6]
  by_cases c7 : zs.length < q + 6
  · rw [if_pos c7]
    exact read_propsE _ _ _ 10 (by decide) hs (by omega) fun w1 h1 h2 => (props_end h1 (by omega)).mono (by rintro e w' ⟨rfl, rfl⟩; exact ⟨rfl, But.refl _ _, h1.ub⟩)
  rw [if_neg c7]
  cases hpr : propsB (zs.getD (q + 5) 0)
  · rw [if_pos rfl]
    exact read_propsE _ _ _ 11 (by decide) hs (by omega) fun w1 h1 h2 => (props_any h1 h2 (by omega)).mono (by rintro e w' ⟨rfl, hN, _, hb⟩; refine ⟨?_, hb, hN.ub⟩; rw [show q + 1 + 4 = q + 5 by omega, hpr]; rfl)
  · rw [if_neg (by simp)]
    exact read_props _ _ _ _ hs (by omega) (by omega) hpr ⟨t3.2, t3.1⟩ rfl
end
end Go.Proofs.Ythafoojlkaifkaa.K
