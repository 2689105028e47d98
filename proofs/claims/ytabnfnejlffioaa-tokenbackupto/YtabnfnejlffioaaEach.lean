/- level.each with walk's closure: the places of a piece weighed, from the nearest one back. -/
import Derived.Test.YtabnfnejlffioaaWeigh
namespace Go.Proofs.Ytabnfnejlffioaa
open Go.RowKit Go.Maps
set_option linter.unusedVariables false

attribute [local go_sem ↓] Go.wp_at_zero Go.wp_at_succ

theorem getD_drop (zs : List Nat) (x i : Nat) : (zs.drop x).getD i 0 = zs.getD (x + i) 0 := by
  simp [List.getD_eq_getElem?_getD]

theorem common_same {zs : List Nat} {p x M c : Nat} (hp : p + M ≤ zs.length) (hx : x < p) (h : IsCommon (zs.drop x) ((zs.drop p).take M) c) : c ≤ M ∧ Same (zf zs) p x c ∧ (c < M → ¬ Same (zf zs) p x (c + 1)) := by
  have hc : c ≤ M := by have := h.l2; simp at this; omega
  refine ⟨hc, fun i hi => ?_, fun hlt hs => ?_⟩
  · have := h.eq i hi
    rw [getD_drop, slice_get _ _ _ _ (by omega)] at this
    exact this
  · have h1 := h.ne (by simp; omega) (by simp; omega)
    rw [getD_drop, slice_get _ _ _ _ hlt] at h1
    exact h1 (hs c (by omega))

theorem chain_step {zs : List Nat} (hz : ∀ c ∈ zs, c < 256) {p f M s n d x n' d' c' : Nat} {left left' : Int} (hp : p + M ≤ zs.length) (hs1 : 1 ≤ s) (hsM : s ≤ M) (hfx : f ≤ x) (hx : Same (zf zs) p x s) (hn : n < M)
    (h : ChainAt (zf zs) p f M s n d (x + 1)) (hw : Weighed zs p M x n d left n' d' left') (hc' : c' = lastOf zs s x (keyAt zs s p)) : ChainAt (zf zs) p f M s n' d' c' ∧ s ≤ n' ∧ left' ≤ left ∧ left - 1 - M ≤ left' := by
  have hxp : x < p := by have := h.cle; omega
  have hcx : c' ≤ x := by rw [hc']; exact lastOf_le _ _ _ _
  have hno := chain_none hz (show p + s ≤ zs.length by omega) (by omega) hc'
  rcases hw with ⟨h1, rfl, rfl, rfl⟩ | ⟨h1, c, hcm, rfl, hr⟩
  · have hsn : s ≤ n' := by
      refine Classical.byContradiction fun hc => h1 ?_
      exact hx n' (by omega)
    exact ⟨h.skip hcx (fun hs => h1 (hs n' (by omega))) hno, hsn, by omega, by omega⟩
  · obtain ⟨k1, k2, k3⟩ := common_same hp hxp hcm
    have hsc : s ≤ c := by
      refine Classical.byContradiction fun hc => ?_
      exact k3 (by omega) (hx.mono (by omega))
    rcases hr with ⟨r1, rfl, rfl⟩ | ⟨r1, rfl, rfl⟩
    · exact ⟨h.better hn hs1 hsM hcx hfx hx hno k2 k1 k3 r1, hsc, by omega, by omega⟩
    · exact ⟨h.skip hcx (fun hs => k3 (by omega) (hs.mono (by omega))) hno, by omega, by omega, by omega⟩

theorem row_cell {w : World} {B m : Nat} {v : Value} {zs : List Nat} {s : Nat} (h : w.ownsRow B 3 1 v m ((befs zs s m).map iv)) {x : Nat} (hx : x < m) : ∃ g c, v = .slice (some ⟨g, 0, none⟩) m c ∧ v.ownBlock = some g ∧ w.cell? ⟨g, x, none⟩ = some (.int .i64 ((lastOf zs s x (keyAt zs s x) : Nat) : Int)) := by
  rcases h.2 with ⟨e, e'⟩ | ⟨g, cap, cur, e, _, hh, _, _, _, ht⟩
  · omega
  · refine ⟨g, cap, e, by rw [e]; rfl, ?_⟩
    have h2 : (cur.toList.take (m * 1))[x]? = ((befs zs s m).map iv)[x]? := by rw [ht]
    rw [List.getElem?_take, if_pos (by omega), List.getElem?_map, befs_get zs s m x hx] at h2
    simp only [World.cell?, hh]
    simpa [iv] using h2

def EachIs (zs : List Nat) (H : Nat) (tx pc : Value) (p f M : Nat) (w : World) (e : Ending) (w' : World) : Prop :=
  ∃ (n d : Nat) (left : Int), e = .returned (.tuple #[]) ∧ WB H tx pc p M left n d w' ∧ WKeep H w w' ∧ ((n < M ∧ left ≤ 0) ∨ IsBest (zf zs) p (p - f) M n d) ∧ n ≤ M

set_option maxRecDepth 100000 in
set_option maxHeartbeats 4000000 in
theorem each_ok (zs : List Nat) (H B ba off cap p f M s b c0 : Nat) (v : Value) (w : World) (hr : ReadsU B w (.slice (some ⟨ba, off, none⟩) zs.length cap) zs) (hcap : zs.length ≤ cap) (hz : ∀ c ∈ zs, c < 256) (hl : zs.length ≤ 100000000) (hp : p + M ≤ zs.length) (hs1 : 1 ≤ s) (hsM : s ≤ M) (hBH : B ≤ H) (hHw : H ≤ w.heap.size)
    (hlv : LvlAt zs s p B w H 0 b v) (hv : ∀ q, v.ownBlock = some q → q < H) (hc0 : c0 = lastOf zs s p (keyAt zs s p)) (hf : f < c0)
    (hb : WB H (.slice (some ⟨ba, off, none⟩) zs.length cap) (.slice (some ⟨ba, off + p, none⟩) M M) p M ((p : Int) - (f : Int)) 0 0 w) :
    Calls Try.prog 46 #[.pointer (some ⟨H, 0, none⟩), .int .i64 ((c0 : Int) - 1), .int .i64 (f : Int), .func (.func 45) #[] #[.pointer (some ⟨H + 7, 0, none⟩), .pointer (some ⟨H + 5, 0, none⟩), .pointer (some ⟨H + 3, 0, none⟩), .pointer (some ⟨H + 6, 0, none⟩), .pointer (some ⟨H + 1, 0, none⟩), .pointer (some ⟨H + 4, 0, none⟩), .pointer (some ⟨H + 2, 0, none⟩)]] w fun e w' =>
      EachIs zs H (.slice (some ⟨ba, off, none⟩) zs.length cap) (.slice (some ⟨ba, off + p, none⟩) M M) p f M w e w' := by
  have hc0p : c0 ≤ p := by rw [hc0]; exact lastOf_le _ _ _ _
  have HST : Hid (ChainAt (zf zs) p f M s 0 0 c0) := hide (ChainAt.start hc0p (chain_none hz (by omega) (Nat.le_refl _) hc0))
  have HHIT : Hid (∀ x, lastOf zs s p (keyAt zs s p) = x + 1 → Same (zf zs) p x s ∧ keyAt zs s x = keyAt zs s p) := hide fun x hx => ⟨(chain_hit hz (by omega) (Nat.le_refl _) hx).2, (lastOf_hit _ _ _ _ _ hx).2⟩
  have HHIT2 : Hid (∀ y x, y ≤ p → lastOf zs s y (keyAt zs s p) = x + 1 → Same (zf zs) p x s ∧ keyAt zs s x = keyAt zs s p) := hide fun y x hy hx => ⟨(chain_hit hz (by omega) hy hx).2, (lastOf_hit _ _ _ _ _ hx).2⟩
  have HR := hide hr
  have HZ := hide hz
  have HLV := hide hlv
  have HV := hide hv
  have HB := hide hb
  clear hr hz hlv hv hb
  obtain ⟨tx, htx⟩ : ∃ tx : Value, tx = .slice (some ⟨ba, off, none⟩) zs.length cap := ⟨_, rfl⟩
  obtain ⟨pc, hpc⟩ : ∃ pc : Value, pc = .slice (some ⟨ba, off + p, none⟩) M M := ⟨_, rfl⟩
  rw [← htx, ← hpc] at HB ⊢
  have HTX := hide htx
  have HPC := hide hpc
  clear htx hpc
  obtain ⟨L, hL⟩ : ∃ L, L = zs.length := ⟨_, rfl⟩
  rw [← hL] at hcap hl hp
  have HL := hide hL
  have HC0 := hide hc0
  clear hL hc0
  go_enter Try.func46, Try.ntmps46
  go_wp2_with fail
  go_loopg [8] (c0 + 1) (fun gk d8 ws => ∃ (c n d : Nat) (left : Int), gk = c + 1 ∧ c ≤ p ∧ d8 = .int .i64 ((c : Int) - 1) ∧ n < M ∧ 0 < left ∧ left ≤ p ∧ (f < c ∨ s ≤ n) ∧ Hid (ChainAt (zf zs) p f M s n d c) ∧ Hid (∃ y, y ≤ p ∧ c = lastOf zs s y (keyAt zs s p)) ∧ WB H tx pc p M left n d ws ∧ WKeep H w ws)
  case atStart => exact ⟨c0, 0, 0, _, rfl, hc0p, rfl, by omega, by omega, by omega, .inl hf, HST, hide ⟨p, Nat.le_refl _, unhide HC0⟩, unhide HB, WKeep.refl _ _⟩
  case round =>
    obtain ⟨c, n, d, left, rfl, hcp, rfl, hnM, hl0, hlp, hfc, HCH, HLO, hb, hk⟩ := hrel
    by_cases hlt : f < c
    · obtain ⟨x, rfl⟩ : ∃ x, c = x + 1 := ⟨c - 1, by omega⟩
      have ex : ((x + 1 : Nat) : Int) - 1 = (x : Int) := by omega
      rw [ex]
      clear ex
      have hxf : (f : Int) ≤ (x : Int) := by omega
      obtain ⟨y, hy, hyc⟩ := unhide HLO
      obtain ⟨hsame, hkey⟩ := unhide HHIT2 y x hy hyc.symm
      have hrd : ReadsU B wr (.slice (some ⟨ba, off, none⟩) zs.length cap) zs := (unhide HR).stays ⟨hk.os, hk.tape, hk.output, hk.size, fun i hi => hk.kp i (by omega) (by omega) (by omega) (by omega)⟩
      have HCALL := hide (weigh_ok zs H B ba off cap p M x n d left wr hrd (by rw [← unhide HL]; exact hcap) (by rw [← unhide HL]; exact hl) (by rw [← unhide HL]; exact hp) (by omega) hnM hBH (by have := hk.size; omega) (by omega) (by rw [← unhide HTX, ← unhide HPC]; exact hb))
      rw [← unhide HTX, ← unhide HPC] at HCALL
      have HSTEP : Hid (∀ n' d' left', Weighed zs p M x n d left n' d' left' → ChainAt (zf zs) p f M s n' d' (lastOf zs s x (keyAt zs s p)) ∧ s ≤ n' ∧ left' ≤ left ∧ left - 1 - M ≤ left') := hide fun n' d' left' hw => chain_step (unhide HZ) (by rw [← unhide HL]; exact hp) hs1 hsM (by omega) hsame hnM (unhide HCH) hw rfl
      obtain ⟨g, cp, hvv, hob, hcell⟩ := row_cell (unhide HLV).row (show x < p by omega)
      have HLVR := hide (LvlAt.c2 (unhide HLV))
      have hHl : H < w.heap.size := cell_lt (unhide HLVR)
      have HKW := hide hk
      have hxp : x < p := by omega
      clear hb hk hrd hyc hsame HLO HCH hy
      go_wp2_with fail
      refine (unhide HCALL).mono ?_
      rintro e w' ⟨r, n', d', left', rfl, hb', hw', hr', hk'⟩
      obtain ⟨hch', hsn', hl1, hl2⟩ := unhide HSTEP _ _ _ hw'
      have hkw := (unhide HKW).trans hk'
      have q2 : w'.cell? ⟨H, 2, none⟩ = some v := by rw [World.cell?_of_block (hkw.kp H hHl (by omega) (by omega) (by omega))]; exact unhide HLVR
      have hgH := unhide HV g hob
      have q3 : w'.cell? ⟨g, x, none⟩ = some (.int .i64 ((lastOf zs s x (keyAt zs s x) : Nat) : Int)) := by rw [World.cell?_of_block (hkw.kp g (cell_lt hcell) (by show g ≠ _; omega) (by show g ≠ _; omega) (by show g ≠ _; omega))]; exact hcell
      rw [hvv] at q2
      rw [hkey] at q3
      have hzl : lastOf zs s x (keyAt zs s p) ≤ x := lastOf_le _ _ _ _
      have HLO' : Hid (∃ y, y ≤ p ∧ lastOf zs s x (keyAt zs s p) = lastOf zs s y (keyAt zs s p)) := hide ⟨x, by omega, rfl⟩
      have HCH' := hide hch'
      have HB' := hide hb'
      have HK' := hide hkw
      obtain ⟨c', hc'⟩ : ∃ c', c' = lastOf zs s x (keyAt zs s p) := ⟨_, rfl⟩
      rw [← hc'] at q3 hzl HLO' HCH'
      have hxpi : (x : Int) < (p : Int) := by omega
      have hw1 : IntKind.i64.wrap ((c' : Int) - 1) = (c' : Int) - 1 := IntWalk.i64_in _ (by omega)
      clear hch' hb' hkw hk' hw' HCALL HSTEP HKW hcell hkey hc' HLVR hvv hob hgH
      rcases hr' with ⟨rfl, hn', hl'⟩ | ⟨rfl, hor⟩
      · go_wp2_with fail
        go_roundg (c' + 1)
        case measure => omega
        case rel => exact ⟨c', n', d', left', rfl, by omega, rfl, hn', hl', by omega, .inr hsn', HCH', HLO', unhide HB', unhide HK'⟩
      · have HE : Hid (EachIs zs H tx pc p f M w (.returned (.tuple #[])) w') := hide ⟨n', d', left', rfl, unhide HB', unhide HK', by
          by_cases hn' : n' < M
          · exact .inl ⟨hn', by omega⟩
          · exact .inr ((unhide HCH').best hs1 hsn' (.inr (by have := (unhide HCH').nle; omega))), (unhide HCH').nle⟩
        clear hor HB' HK' HCH' HLO'
        go_wp2_with fail
        go_end0
        exact unhide HE
    · have hcf : ¬ (f : Int) ≤ (c : Int) - 1 := by omega
      have HE : Hid (EachIs zs H tx pc p f M w (.returned (.tuple #[])) wr) := hide ⟨n, d, left, rfl, hb, hk, .inr ((unhide HCH).best hs1 (by omega) (.inl (by omega))), by omega⟩
      clear hb hk HCH HLO
      go_wp2_with fail
      go_end0
      exact unhide HE

end Go.Proofs.Ytabnfnejlffioaa
