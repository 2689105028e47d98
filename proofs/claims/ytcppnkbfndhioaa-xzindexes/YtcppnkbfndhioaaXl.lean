/- What ReadIndex tells. -/
import Derived.Test.YtcppnkbfndhioaaXk
namespace Go.Proofs.Ytcppnkbfndhioaa
open Go.RowKit
set_option maxRecDepth 100000
set_option linter.unusedVariables false
attribute [local go_sem ↓] Go.wp_at_zero Go.wp_at_succ

/-- what ReadIndex tells: the records, how many bytes they take, the error -/
def riF (zs : List Nat) : List (Int × Int) × Nat × Nat :=
  if (headF zs).2.1 ≠ 0 then ([], 0, (headF zs).2.1)
  else if (fillGo zs (lack (headF zs).2.2) (headF zs).2.2).1 ≠ 0 then ([], 0, (fillGo zs (lack (headF zs).2.2) (headF zs).2.2).1)
  else if (sumF zs (fillGo zs (lack (headF zs).2.2) (headF zs).2.2).2).1 ≠ 0 then ([], 0, (sumF zs (fillGo zs (lack (headF zs).2.2) (headF zs).2.2).2).1)
  else ((headF zs).1, (sumF zs (fillGo zs (lack (headF zs).2.2) (headF zs).2.2).2).2, 0)

theorem recF_in (zs : List Nat) (p : Nat) (hp : p ≤ zs.length) : p ≤ (recF zs p).2.2 ∧ (recF zs p).2.2 ≤ zs.length := by
  have h1 := longF_in zs p hp
  have h2 := longF_in zs (longF zs p).2.2 h1.2.2
  rw [recF_def]
  split
  · exact h1.2
  · split
    · exact ⟨Nat.le_trans h1.2.1 h2.2.1, h2.2.2⟩
    · split
      · exact ⟨Nat.le_trans h1.2.1 h2.2.1, h2.2.2⟩
      · exact ⟨Nat.le_trans h1.2.1 h2.2.1, h2.2.2⟩

theorem recsGo_in (zs : List Nat) : ∀ (k p : Nat) (rs : List (Int × Int)), p ≤ zs.length → p ≤ (recsGo zs k p rs).2.2 ∧ (recsGo zs k p rs).2.2 ≤ zs.length
  | 0, p, rs, hp => ⟨Nat.le_refl _, hp⟩
  | k + 1, p, rs, hp => by
    have h1 := recF_in zs p hp
    rw [recsGo]
    split
    · have h2 := recsGo_in zs k _ (rs ++ [(((recF zs p).1.1 : Int), ((recF zs p).1.2 : Int))]) h1.2
      exact ⟨Nat.le_trans h1.1 h2.1, h2.2⟩
    · exact h1

theorem expF_zero {zs : List Nat} {p x : Nat} {ws : List Nat} (hx : x ≠ 0) (h : (expF zs p ws x).1 = 0) : (expF zs p ws x).2 = p + ws.length ∧ p + ws.length ≤ zs.length ∧ (zs.drop p).take ws.length = ws := by
  unfold expF at h ⊢
  by_cases h1 : zs.length < p + ws.length
  · rw [if_pos h1] at h; exact absurd h (by simp)
  · rw [if_neg h1] at h ⊢
    by_cases h2 : (zs.drop p).take ws.length = ws
    · rw [if_pos h2]; exact ⟨rfl, by omega, h2⟩
    · rw [if_neg h2] at h; exact absurd h hx

theorem headF_in (zs : List Nat) (h : (headF zs).2.1 = 0) : 1 ≤ (headF zs).2.2 ∧ (headF zs).2.2 ≤ zs.length := by
  unfold headF at h ⊢
  by_cases h1 : (expF zs 0 [0] 11).1 ≠ 0
  · rw [if_pos h1] at h; exact absurd h h1
  rw [if_neg h1] at h ⊢
  have hz := (expF_zero (by decide) (Decidable.not_not.1 h1)).2.1
  have hL := longF_in zs 1 (by simpa using hz)
  by_cases h2 : (longF zs 1).2.1 ≠ 0
  · rw [if_pos h2] at h; exact absurd h h2
  rw [if_neg h2] at h ⊢
  by_cases h3 : 65536 < (longF zs 1).1
  · rw [if_pos h3] at h; exact absurd h (by simp)
  rw [if_neg h3]
  have := recsGo_in zs (longF zs 1).1 (longF zs 1).2.2 [] hL.2.2
  exact ⟨Nat.le_trans hL.2.1 this.1, this.2⟩

theorem expF_in {zs : List Nat} {p : Nat} (hp : p ≤ zs.length) (ws : List Nat) (x : Nat) : p ≤ (expF zs p ws x).2 := by
  unfold expF
  split
  · exact Nat.le_refl _
  · split
    · show p ≤ p + ws.length; omega
    · show p ≤ p + ws.length; omega

theorem fillGo_in (zs : List Nat) : ∀ (k p : Nat), p ≤ zs.length → p ≤ (fillGo zs k p).2 ∧ (fillGo zs k p).2 ≤ zs.length
  | 0, p, hp => ⟨Nat.le_refl _, hp⟩
  | k + 1, p, hp => by
    have h1 := expF_in hp [0] 11
    have h2 := expF_le hp [0] 11
    rw [fillGo]
    split
    · have h3 := fillGo_in zs k _ h2
      exact ⟨Nat.le_trans h1 h3.1, h3.2⟩
    · exact ⟨h1, h2⟩

set_option maxHeartbeats 2000000 in
theorem readIndex_ok (h cap : Nat) (zs : List Nat) (w : World) (hb : ∀ j, j < zs.length → w.cell? ⟨h, j, none⟩ = some (bv (zs.getD j 0))) (hh : h < w.heap.size) (hcap : zs.length ≤ cap) (hsm : zs.length ≤ 140737488351232) (ho : ∀ z ∈ zs, z < 256) :
    Calls Try.prog 7 #[.slice (some ⟨h, 0, none⟩) zs.length cap] w fun e w' => ∃ lv, e = .returned (.tuple #[lv, .int .i64 ((riF zs).2.1 : Int), .int .i64 ((riF zs).2.2 : Int)]) ∧ ((riF zs).2.2 = 0 → OwnR w.heap.size w' lv (riF zs).1) ∧ ((riF zs).2.2 ≠ 0 → lv = .slice none 0 0) ∧ Below w.heap.size w w' := by
  have HF : Hid (riF zs = if (headF zs).2.1 ≠ 0 then ([], 0, (headF zs).2.1) else if (fillGo zs (lack (headF zs).2.2) (headF zs).2.2).1 ≠ 0 then ([], 0, (fillGo zs (lack (headF zs).2.2) (headF zs).2.2).1) else if (sumF zs (fillGo zs (lack (headF zs).2.2) (headF zs).2.2).2).1 ≠ 0 then ([], 0, (sumF zs (fillGo zs (lack (headF zs).2.2) (headF zs).2.2).2).1) else ((headF zs).1, (sumF zs (fillGo zs (lack (headF zs).2.2) (headF zs).2.2).2).2, 0)) := hide rfl
  generalize riF zs = R at *
  obtain ⟨L, hL⟩ : ∃ L, L = zs.length := ⟨_, rfl⟩
  obtain ⟨W0, hW0⟩ : ∃ W0, W0 = w.alloc (.cells #[.slice (some ⟨h, 0, none⟩) L cap, .int .i64 0] 49) := ⟨_, rfl⟩
  have hbel : Below w.heap.size w W0 := by rw [hW0]; exact (Below.refl _ _).alloc (Nat.le_refl _) _
  have hc : Cur W0 w.heap.size h cap zs 0 := ⟨by rw [hW0, hL]; exact heap_alloc_new w _, fun j hj => cell_stays hbel (hb j hj), by omega, by have := hbel.size; omega, by omega, hcap, hsm, ho⟩
  have hsz : W0.heap.size = w.heap.size + 1 := by rw [hW0]; simp
  have HB : Hid (∀ W q, Step W0 W w.heap.size h cap zs q → Below w.heap.size w W) := hide (fun W q hs => hbel.trans (hs.only.below (Nat.le_refl _) (by omega)))
  have HRR := hide (readRecords_ok w.heap.size h cap zs W0 hc)
  have HIN := hide (headF_in zs)
  have HC := hide hc
  have HOW : Hid (∀ W lv l, OwnR W0.heap.size W lv l → OwnR w.heap.size W lv l) := hide (fun W lv l ho => own_base ho (by omega))
  rw [← hL]
  have HW0 := hide hW0
  have HGL : Hid (w.heap.size < W0.heap.size) := hide (by omega)
  clear hb hh hcap hsm ho hW0 hc hbel hL hsz
  generalize headF zs = Hd at *
  obtain ⟨rs, x, p⟩ := Hd
  simp only at HF HRR HIN
  by_cases hx : x = 0
  · subst hx
    rw [if_neg (by simp)] at HF
    have hp := unhide HIN rfl
    have HFI : Hid (∀ W, Step W0 W w.heap.size h cap zs p → _) := hide (fun W hW => readFill_ok w.heap.size h cap p zs W hW.cur)
    have HIN2 := hide (fillGo_in zs (lack p) p hp.2)
    generalize fillGo zs (lack p) p = F at *
    obtain ⟨y, q⟩ := F
    simp only at HF HFI HIN2
    by_cases hy : y = 0
    · subst hy
      rw [if_neg (by simp)] at HF
      have hq := unhide HIN2
      have HSU : Hid (∀ W, Step W0 W w.heap.size h cap zs q → _) := hide (fun W hW => readSum_ok w.heap.size h cap q zs W hW.cur (by omega))
      generalize sumF zs q = S at *
      obtain ⟨z, q2⟩ := S
      simp only at HF HSU
      by_cases hz : z = 0
      · subst hz
        rw [if_neg (by simp)] at HF
        obtain rfl : R = (rs, q2, 0) := unhide HF
        go_enter Try.func7, Try.ntmps7
        go_wp2_with fail
        rw [← unhide HW0]
        refine (unhide HRR).mono ?_
        rintro e w1 ⟨lv, rfl, h1, ho1, _⟩
        have H1 := hide h1
        have HO1 := hide (ho1 (by first | rfl | trivial))
        clear h1 ho1
        go_wp2_with fail
        refine (unhide HFI _ (unhide H1)).mono ?_
        rintro e w2 ⟨rfl, h2⟩
        have HO2 := hide ((unhide HO1).step h2 (unhide HGL))
        have H2 := hide ((unhide H1).trans h2)
        clear h2 H1 HO1
        go_wp2_with fail
        refine (unhide HSU _ (unhide H2)).mono ?_
        rintro e w3 ⟨rfl, h3⟩
        have HO3 := hide ((unhide HO2).step h3 (unhide HGL))
        have H3 := hide ((unhide H2).trans h3)
        clear h3 H2 HO2
        have c1 := (unhide H3).cur.cell1
        go_wp2_with fail
        go_quiet (fail)
        go_wp2_with fail
        go_ret3
        exact ⟨_, rfl, fun _ => unhide HOW _ _ _ (unhide HO3), fun h => absurd rfl h, unhide HB _ _ ((unhide H3).drew _)⟩
      · rw [if_pos hz] at HF
        have hzz : ((z : Int) != 0) = true := by simp; omega
        obtain rfl : R = ([], 0, z) := unhide HF
        go_enter Try.func7, Try.ntmps7
        go_wp2_with fail
        rw [← unhide HW0]
        refine (unhide HRR).mono ?_
        rintro e w1 ⟨lv, rfl, h1, ho1, _⟩
        have H1 := hide h1
        have HO1 := hide (ho1 (by first | rfl | trivial))
        clear h1 ho1
        go_wp2_with fail
        refine (unhide HFI _ (unhide H1)).mono ?_
        rintro e w2 ⟨rfl, h2⟩
        have HO2 := hide ((unhide HO1).step h2 (unhide HGL))
        have H2 := hide ((unhide H1).trans h2)
        clear h2 H1 HO1
        go_wp2_with fail
        refine (unhide HSU _ (unhide H2)).mono ?_
        rintro e w3 ⟨rfl, h3⟩
        have HO3 := hide ((unhide HO2).step h3 (unhide HGL))
        have H3 := hide ((unhide H2).trans h3)
        clear h3 H2 HO2
        go_wp2_with fail
        go_ret3
        exact ⟨_, rfl, fun h => absurd h hz, fun _ => rfl, unhide HB _ _ (unhide H3)⟩
    · rw [if_pos hy] at HF
      have hyy : ((y : Int) != 0) = true := by simp; omega
      have hyz : ((y : Int) == 0) = false := by simp; omega
      obtain rfl : R = ([], 0, y) := unhide HF
      go_enter Try.func7, Try.ntmps7
      go_wp2_with fail
      rw [← unhide HW0]
      refine (unhide HRR).mono ?_
      rintro e w1 ⟨lv, rfl, h1, _, _⟩
      have H1 := hide h1
      clear h1
      go_wp2_with fail
      refine (unhide HFI _ (unhide H1)).mono ?_
      rintro e w2 ⟨rfl, h2⟩
      have H2 := hide ((unhide H1).trans h2)
      clear h2 H1
      go_wp2_with fail
      go_ret3
      exact ⟨_, rfl, fun h => absurd h hy, fun _ => rfl, unhide HB _ _ (unhide H2)⟩
  · rw [if_pos hx] at HF
    have hxx : ((x : Int) != 0) = true := by simp; omega
    have hxz : ((x : Int) == 0) = false := by simp; omega
    obtain rfl : R = ([], 0, x) := unhide HF
    go_enter Try.func7, Try.ntmps7
    go_wp2_with fail
    rw [← unhide HW0]
    refine (unhide HRR).mono ?_
    rintro e w1 ⟨lv, rfl, h1, _, _⟩
    have H1 := hide h1
    clear h1
    go_wp2_with fail
    go_ret3
    exact ⟨_, rfl, fun h => absurd h hx, fun _ => rfl, unhide HB _ _ (unhide H1)⟩
end Go.Proofs.Ytcppnkbfndhioaa
