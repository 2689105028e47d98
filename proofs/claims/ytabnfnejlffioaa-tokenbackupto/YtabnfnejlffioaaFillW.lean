/- index.fill, walked. -/
import Derived.Test.YtabnfnejlffioaaFill
namespace Go.Proofs.Ytabnfnejlffioaa
open Go.RowKit Go.Maps
set_option linter.unusedVariables false

attribute [local go_sem ↓] Go.wp_at_zero Go.wp_at_succ

theorem cnt_all {L s f : Nat} (h : f + s ≤ L) : cnt L s f = f ∧ cnt L s (f + 1) = f + 1 := by unfold cnt; omega
theorem cnt_short {L s f : Nat} (h : L < f + s) : cnt L s (f + 1) = cnt L s f := by unfold cnt; omega

/-- blocks that are none of the index's -/
def Apart (T : Nat → Prop) (w : World) (N gx gl : Nat) (b : Nat → Nat) (v : Nat → Value) : Prop := ∀ x, T x → x < w.heap.size ∧ x ≠ gx ∧ x ≠ gl ∧ ∀ j, j < N → x ≠ b j ∧ (v j).ownBlock ≠ some x

theorem Apart.added {T : Nat → Prop} {w wr w' : World} {N gx gl o : Nat} {b : Nat → Nat} {v : Nat → Value} {v' : Value} {j : Nat} (h : Apart T w N gx gl b v) (hj : j < N) (hs : w.heap.size ≤ wr.heap.size) (hc : AddChg wr gl o (b j) (v j) v' w') : Apart T w N gx gl b (upf v j v') ∧ ∀ x, T x → w'.heap[x]? = wr.heap[x]? := by
  refine ⟨fun x hx => ?_, fun x hx => ?_⟩
  · obtain ⟨h1, h2, h3, h4⟩ := h x hx
    refine ⟨h1, h2, h3, fun i hi => ⟨(h4 i hi).1, ?_⟩⟩
    by_cases e : i = j
    · subst e
      rw [show upf v i v' i = v' by simp [upf]]
      rcases hc.own with e | ⟨q, e, hq⟩
      · rw [e]; exact (h4 i hi).2
      · rw [e]; intro e2; injection e2 with e2; omega
    · rw [show upf v j v' i = v i by simp [upf, e]]
      exact (h4 i hi).2
  · obtain ⟨h1, h2, h3, h4⟩ := h x hx
    exact hc.kp x (by omega) h3 (h4 j hj).1 (h4 j hj).2

set_option maxRecDepth 100000 in
set_option maxHeartbeats 4000000 in
theorem fill_ok (T : Nat → Prop) (zs : List Nat) (B N : Nat) (sz b : Nat → Nat) (v0 : Nat → Value) (gx gl lc W M f0 p cap ba off : Nat) (w : World) (hN : N ≤ 4) (hlc : N ≤ lc) (hsz : ∀ j, j < N → 1 ≤ sz j ∧ sz j ≤ 8) (hr : ReadsU B w (.slice (some ⟨ba, off, none⟩) zs.length cap) zs) (hcap : zs.length ≤ cap) (hz : ∀ c ∈ zs, c < 256) (hp : p ≤ zs.length) (hf : f0 ≤ p) (hl : zs.length ≤ 100000000) (hB : B ≤ w.heap.size)
    (hx : IdxAt zs B N sz b v0 (fun j => cnt zs.length (sz j) f0) gx gl lc W M f0 (.slice (some ⟨ba, off, none⟩) zs.length cap) w) (hT : Apart T w N gx gl b v0) :
    Calls Try.prog 30 #[.pointer (some ⟨gx, 0, none⟩), .int .i64 (p : Int)] w fun e w' => e = .returned (.tuple #[]) ∧ (∃ v, IdxAt zs B N sz b v (fun j => cnt zs.length (sz j) p) gx gl lc W M p (.slice (some ⟨ba, off, none⟩) zs.length cap) w' ∧ Apart T w N gx gl b v) ∧ Keeps B [3, 54, 65] w w' ∧ ∀ x, T x → w'.heap[x]? = w.heap[x]? := by
  have HT := hide hT
  clear hT
  have HR := hide hr
  have HZ := hide hz
  have HX := hide hx
  have HSZ := hide hsz
  clear hr hz hx hsz
  obtain ⟨L, hL⟩ : ∃ L, L = zs.length := ⟨_, rfl⟩
  rw [← hL] at HR HX hcap hp hl ⊢
  have HL := hide hL
  clear hL
  go_enter Try.func30, Try.ntmps30
  go_wp2_with fail
  go_loopg [] (p - f0) (fun gk ws => ∃ (f : Nat) (v : Nat → Value), gk = p - f ∧ f ≤ p ∧ IdxAt zs B N sz b v (fun j => cnt L (sz j) f) gx gl lc W M f (.slice (some ⟨ba, off, none⟩) L cap) ws ∧ Keeps B [3, 54, 65] w ws ∧ Hid (Apart T w N gx gl b v ∧ ∀ x, T x → ws.heap[x]? = w.heap[x]?))
  case atStart => exact ⟨f0, v0, rfl, hf, unhide HX, Keeps.refl _ _ _, hide ⟨unhide HT, fun _ _ => rfl⟩⟩
  case round =>
    obtain ⟨f, v, rfl, hfp, hx, hk, HTT⟩ := hrel
    clear HX
    have c4 := hx.x4
    have c3 := hx.x3
    by_cases hlt : f < p
    · have hfi : (f : Int) < (p : Int) := by omega
      have HX := hide hx
      have HK := hide hk
      clear hx hk
      go_wp2_with fail
      go_loopg [23] N (fun gi d ws => ∃ (i : Nat) (v : Nat → Value), gi = N - i ∧ i ≤ N ∧ d = .int .i64 (i : Int) ∧ IdxAt zs B N sz b v (fun j => if j < i then cnt L (sz j) (f + 1) else cnt L (sz j) f) gx gl lc W M f (.slice (some ⟨ba, off, none⟩) L cap) ws ∧ Keeps B [3, 54, 65] w ws ∧ Hid (Apart T w N gx gl b v ∧ ∀ x, T x → ws.heap[x]? = w.heap[x]?))
      case atStart => exact ⟨0, v, rfl, by omega, rfl, (unhide HX).cong (fun j hj => by simp), unhide HK, HTT⟩
      case round =>
        obtain ⟨i, v, rfl, hi, rfl, hx, hk, HTI⟩ := hrel
        clear HX HK c4 c3 HTT
        by_cases hlti : i < N
        · have hii : (i : Int) < (N : Int) := by omega
          have c0 := hx.x0
          have c3 := hx.x3
          have c4 := hx.x4
          have hs := unhide HSZ i hlti
          have HNX : Hid (∀ v' w', LvlAt zs (sz i) (cnt L (sz i) (f + 1)) B w' gl (i * 3) (b i) v' → AddChg wr.drew gl (i * 3) (b i) (v i) v' w' → IdxAt zs B N sz b (upf v i v') (fun j => if j < i + 1 then cnt L (sz j) (f + 1) else cnt L (sz j) f) gx gl lc W M f (.slice (some ⟨ba, off, none⟩) L cap) w' ∧ Keeps B [3, 54, 65] w w' ∧ Hid (Apart T w N gx gl b (upf v i v') ∧ ∀ x, T x → w'.heap[x]? = w.heap[x]?)) := hide fun v' w' h1 h2 => by
            have h4 := (unhide HTI).1.added hlti (show w.heap.size ≤ wr.drew.heap.size from hk.size) h2
            have h3 := (hx.grown (y := wr.drew) (fun _ _ => rfl)).add hlti h1 h2
            refine ⟨h3.1.cong (fun j hj => ?_), hk.trans ⟨h3.2.os, h3.2.tape, h3.2.output, h3.2.size, h3.2.low, h3.2.typ⟩, hide ⟨h4.1, fun x hx => (h4.2 x hx).trans ((unhide HTI).2 x hx)⟩⟩
            unfold upf
            by_cases e : j = i
            · rw [if_pos e, if_pos (by omega), e]
            · rw [if_neg e]
              by_cases e2 : j < i
              · simp only [if_pos e2, if_pos (show j < i + 1 by omega)]
              · simp only [if_neg e2, if_neg (show ¬ j < i + 1 by omega)]
          have hlv : LvlAt zs (sz i) (cnt L (sz i) f) B wr.drew gl (i * 3) (b i) (v i) := by
            have h1 := (hx.lvs.lv i hlti).same (y := wr.drew) rfl
            have e : (fun j => if j < i then cnt L (sz j) (f + 1) else cnt L (sz j) f) i = cnt L (sz i) f := by simp
            simp only [e] at h1
            exact h1
          obtain ⟨cs, hcs⟩ := hx.lvs.blk
          have HCALL : Hid (Calls Try.prog 42 #[.pointer (some ⟨gl, i * 3, none⟩), .slice (some ⟨ba, off, none⟩) L cap, .int .i64 (f : Int)] wr.drew fun e w' => e = .returned (.tuple #[]) ∧ ∃ v, IdxAt zs B N sz b v (fun j => if j < i + 1 then cnt L (sz j) (f + 1) else cnt L (sz j) f) gx gl lc W M f (.slice (some ⟨ba, off, none⟩) L cap) w' ∧ Keeps B [3, 54, 65] w w' ∧ Hid (Apart T w N gx gl b v ∧ ∀ x, T x → w'.heap[x]? = w.heap[x]?)) := hide (by
            by_cases hfs : f + sz i ≤ L
            · have hc := cnt_all hfs
              rw [hc.1] at hlv
              have hrd : ReadsU B wr.drew (.slice (some ⟨ba, off, none⟩) zs.length cap) zs := by
                have h1 := unhide HR
                rw [unhide HL] at h1
                have h2 := h1.stays (hk.below hB)
                exact h2.stays ⟨rfl, rfl, rfl, Nat.le_refl _, fun _ _ => rfl⟩
              have := add_ok zs (sz i) f B gl (i * 3) (b i) cap ba off (v i) cs wr.drew hs.1 hs.2 hrd (by rw [← unhide HL]; exact hcap) (unhide HZ) (by rw [← unhide HL]; exact hfs) (by rw [← unhide HL]; exact hl) (by have := hk.size; show B ≤ wr.heap.size; omega) hlv hcs
              rw [← unhide HL] at this
              refine this.mono ?_
              rintro e w' ⟨rfl, v', h1, h2⟩
              rw [← hc.2] at h1
              exact ⟨rfl, _, unhide HNX v' w' h1 h2⟩
            · have hc := cnt_short (show L < f + sz i by omega)
              refine (add_short L (sz i) f gl (i * 3) _ cap wr.drew hs.2 (by omega) hl (by omega) hlv.c0).mono ?_
              rintro e w' ⟨rfl, rfl⟩
              refine ⟨rfl, v, (hx.cong (fun j hj => ?_)).grown (fun _ _ => rfl), hk.trans ⟨rfl, rfl, rfl, Nat.le_refl _, fun _ _ _ => rfl, fun _ _ _ _ _ _ => rfl⟩, HTI⟩
              by_cases e2 : j < i
              · simp only [if_pos e2, if_pos (show j < i + 1 by omega)]
              · by_cases e3 : j = i
                · subst e3
                  simp only [if_pos (show j < j + 1 by omega), if_neg e2]
                  exact hc
                · simp only [if_neg e2, if_neg (show ¬ j < i + 1 by omega)])
          clear hx hk HNX hlv hcs
          go_wp2_with fail
          refine wp_tail 14 (by kernel_rfl) (by kernel_rfl) ?_
          simp only [List.take_succ_cons, List.take_zero, List.drop_succ_cons, List.drop_zero]
          repeat still_step
          try refine wpStill_nil ?_
          go_wp2_with (go_at_call 42; refine (unhide HCALL).mono ?_; rintro e w' ⟨rfl, v', hx', hk', HT'⟩)
          go_roundg (N - (i + 1))
          case measure => omega
          case rel => exact ⟨i + 1, v', rfl, by omega, by go_num, hx', hk', HT'⟩
        · obtain rfl : i = N := by omega
          have hii : ¬ (i : Int) < (i : Int) := by omega
          have hx2 := hx.cong (m' := fun j => cnt L (sz j) (f + 1)) (fun j hj => by simp only [if_pos hj])
          have c4 := hx2.x4
          have fz4 := hx2.fz 4
          obtain ⟨h1, h2⟩ := hx2.next (f + 1)
          have HX2 := hide h1
          have HK2 := hide (hk.trans h2)
          have HT2 : Hid (Apart T w i gx gl b v ∧ ∀ x, T x → (wr.setCell ⟨gx, 4, none⟩ (.int .i64 ((f + 1 : Nat) : Int))).heap[x]? = w.heap[x]?) := hide ⟨(unhide HTI).1, fun x hx => by rw [heap_setCell_other _ _ _ _ (by exact ((unhide HTI).1 x hx).2.1)]; exact (unhide HTI).2 x hx⟩
          have e1 : ((f + 1 : Nat) : Int) = (f : Int) + 1 := by omega
          rw [e1] at HX2 HK2 HT2
          clear hx hk hx2 h1 h2 e1
          go_wp2_with fail
          go_roundg (p - (f + 1))
          case measure => omega
          case rel => exact ⟨f + 1, v, rfl, by omega, by
            have h1 := unhide HX2
            exact ⟨h1.xb, h1.lvs, h1.xB⟩, unhide HK2, HT2⟩
    · obtain rfl : f = p := by omega
      have hfi : ¬ (f : Int) < (f : Int) := by omega
      have HX := hide hx
      have HK := hide hk
      clear hx hk
      go_wp2_with fail
      go_end0
      exact ⟨rfl, ⟨v, unhide HX, (unhide HTT).1⟩, unhide HK, (unhide HTT).2⟩

end Go.Proofs.Ytabnfnejlffioaa
