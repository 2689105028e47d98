/- Records in memory; are they fit? -/
import Derived.Test.YtcppnkbfndhioaaXb
namespace Go.Proofs.Ytcppnkbfndhioaa
open Go.RowKit
set_option maxRecDepth 100000
set_option linter.unusedVariables false
attribute [local go_sem ↓] Go.wp_at_zero Go.wp_at_succ

/-- the cells of records -/
def rcells : List (Int × Int) → List Value
  | [] => []
  | r :: l => .int .i64 r.1 :: .int .i64 r.2 :: rcells l

theorem rcells_length : ∀ l : List (Int × Int), (rcells l).length = l.length * 2
  | [] => rfl
  | r :: l => by simp [rcells, rcells_length l]; omega

theorem rcells_append : ∀ a b : List (Int × Int), rcells (a ++ b) = rcells a ++ rcells b
  | [], _ => rfl
  | t :: ts, b => by simp [rcells, rcells_append ts b]

theorem rcells_get : ∀ (l : List (Int × Int)) (j : Nat), j < l.length → (rcells l)[j * 2]? = some (.int .i64 (l.getD j (0, 0)).1) ∧ (rcells l)[j * 2 + 1]? = some (.int .i64 (l.getD j (0, 0)).2)
  | [], j, h => by simp at h
  | r :: l, 0, _ => by simp [rcells]
  | r :: l, j + 1, h => by
    have := rcells_get l j (by simpa using h)
    rw [show (j + 1) * 2 = j * 2 + 1 + 1 by omega, show j * 2 + 1 + 1 + 1 = (j * 2 + 1) + 1 + 1 by omega]
    simpa [rcells] using this

theorem rcells_one (l : List (Int × Int)) : ∀ u ∈ rcells l, u.oneCell' = true := by
  induction l with
  | nil => intro u hu; simp [rcells] at hu
  | cons r l ih =>
    intro u hu
    simp only [rcells, List.mem_cons] at hu
    rcases hu with rfl | rfl | hu
    · rfl
    · rfl
    · exact ih u hu

/-- a slice that reads as records -/
def ReadsR (w : World) (v : Value) (l : List (Int × Int)) : Prop :=
  ∃ a cap, v = .slice a l.length cap ∧ l.length ≤ cap ∧ (0 < l.length → ∃ b off, a = some ⟨b, off, none⟩ ∧ b < w.heap.size ∧ ∀ j, j < l.length →
    w.cell? ⟨b, off + j * 2, none⟩ = some (.int .i64 (l.getD j (0, 0)).1) ∧ w.cell? ⟨b, off + j * 2 + 1, none⟩ = some (.int .i64 (l.getD j (0, 0)).2))

theorem ReadsR.stays {w w1 : World} {v : Value} {l : List (Int × Int)} (h : ReadsR w v l) (hb : Below w.heap.size w w1) : ReadsR w1 v l := by
  obtain ⟨a, cap, rfl, hc, hs⟩ := h
  refine ⟨a, cap, rfl, hc, fun h0 => ?_⟩
  obtain ⟨b, off, rfl, h1, h2⟩ := hs h0
  exact ⟨b, off, rfl, Nat.lt_of_lt_of_le h1 hb.size, fun j hj => ⟨cell_stays hb (h2 j hj).1, cell_stays hb (h2 j hj).2⟩⟩

theorem ReadsR.own {w : World} {B : Nat} {t : TypeId} {v : Value} {l : List (Int × Int)} (h : w.ownsRow B t 2 v l.length (rcells l)) : ReadsR w v l := by
  rcases h.2 with ⟨e1, e2⟩ | ⟨g, cap, cur, e1, hb, hg, hn, _⟩
  · have e3 : l = [] := List.length_eq_zero_iff.1 e2
    subst e3
    exact ⟨none, 0, by rw [e1]; rfl, Nat.le_refl _, fun h => absurd h (by simp)⟩
  · refine ⟨some ⟨g, 0, none⟩, cap, e1, hn, fun _ => ⟨g, 0, rfl, heap_lt hg, fun j hj => ?_⟩⟩
    rw [e1] at h
    have hc := h.cells (g := g) rfl
    obtain ⟨r1, r2⟩ := rcells_get l j hj
    have e : ∀ k, (⟨g, 0, none⟩ : Addr).add k = ⟨g, 0 + k, none⟩ := fun k => by by_cases hq : k = 0 <;> simp [Addr.add, hq]
    have k1 := hc _ _ r1
    have k2 := hc _ _ r2
    rw [e] at k1 k2
    exact ⟨k1, by rw [show 0 + j * 2 + 1 = 0 + (j * 2 + 1) by omega]; exact k2⟩

theorem getD_at {l : List (Int × Int)} {i : Nat} (h : i < l.length) : l.getD i (0, 0) = l[i] := by simp [List.getD_eq_getElem?_getD, h]

/-- all of them may be -/
def allMay (l : List (Int × Int)) : Bool := l.all fun r => may r.1 r.2

theorem allMay_take {l : List (Int × Int)} {i : Nat} (h : i < l.length) : allMay (l.take (i + 1)) = (allMay (l.take i) && may (l.getD i (0, 0)).1 (l.getD i (0, 0)).2) := by
  unfold allMay
  rw [List.take_succ_eq_append_getElem h, List.all_append]
  simp [h]

theorem allMay_bad {l : List (Int × Int)} {i : Nat} (h : i < l.length) (hm : may (l.getD i (0, 0)).1 (l.getD i (0, 0)).2 = false) : allMay l = false := by
  unfold allMay
  rw [List.all_eq_false]
  refine ⟨l[i], List.getElem_mem _, ?_⟩
  rw [getD_at h] at hm
  simp [hm]

theorem allMay_at {l : List (Int × Int)} {i : Nat} (h : i < l.length) (hm : allMay l = true) : may (l.getD i (0, 0)).1 (l.getD i (0, 0)).2 = true := by
  unfold allMay at hm
  rw [List.all_eq_true] at hm
  have := hm l[i] (List.getElem_mem _)
  rw [getD_at h]
  exact this

theorem find_ok (l : List (Int × Int)) (v : Value) (w : World) (hr : ReadsR w v l) (hl : l.length ≤ 140737488355328) :
    Calls Try.prog 24 #[v, .func (.func 12) #[] #[]] w fun e w' => ∃ x : Int, e = .returned (.int .i64 x) ∧ decide (0 ≤ x) = !allMay l ∧ Below w.heap.size w w' := by
  have HR := hide hr
  obtain ⟨a, cap, rfl, hcap, _⟩ := hr
  obtain ⟨n, hn⟩ : ∃ n, n = l.length := ⟨_, rfl⟩
  rw [← hn] at hl hcap HR ⊢
  have HN := hide hn
  clear hn
  go_enter Try.func24, Try.ntmps24
  go_wp2_with fail
  go_loopg [5, 8] n (fun gk b c ws => ∃ (i : Nat), gk = n - i ∧ i ≤ n ∧ c = .int .i64 (i : Int) ∧ Hid (allMay (l.take i) = true) ∧ Hid (Below w.heap.size w ws))
  case atStart => exact ⟨0, by omega, by omega, rfl, hide rfl, hide (Below.refl _ _)⟩
  case round =>
    obtain ⟨i, rfl, hi, rfl, HA, HB⟩ := hrel
    by_cases hlt : i < n
    · obtain ⟨a', cap', e, _, hs⟩ := (unhide HR).stays (unhide HB)
      injection e with e1 e2 e3
      subst e1 e3
      obtain ⟨b, off, rfl, hbB, hcell⟩ := hs (by rw [← unhide HN]; omega)
      obtain ⟨k1, k2⟩ := hcell i (by rw [← unhide HN]; omega)
      have HT : Hid (allMay (l.take (i + 1)) = (allMay (l.take i) && may (l.getD i (0, 0)).1 (l.getD i (0, 0)).2)) := hide (allMay_take (by rw [← unhide HN]; omega))
      have HX : Hid (may (l.getD i (0, 0)).1 (l.getD i (0, 0)).2 = false → allMay l = false) := hide (allMay_bad (by rw [← unhide HN]; omega))
      generalize l.getD i (0, 0) = r at k1 k2 HT HX
      obtain ⟨s, t⟩ := r
      have HU := hide (unfit_ok s t wr)
      have HLT := hide hlt
      have hki : (i : Int) < (n : Int) := by omega
      clear hcell hs e2 hlt hi
      cases hm : may s t with
      | true =>
        rw [hm] at HU HT
        go_wp2_with (go_at_call 12; go_must (refine (unhide HU).mono ?_; rintro e w1 ⟨rfl, h1⟩; have H1 := hide h1; clear h1))
        go_roundg (n - (i + 1))
        case measure => have := unhide HLT; omega
        case rel => exact ⟨i + 1, rfl, unhide HLT, by go_num, hide (by rw [unhide HT, unhide HA]; rfl), hide ((unhide HB).trans ((unhide H1).mono (unhide HB).size))⟩
      | false =>
        rw [hm] at HU HX
        go_wp2_with (go_at_call 12; go_must (refine (unhide HU).mono ?_; rintro e w1 ⟨rfl, h1⟩; have H1 := hide h1; clear h1))
        go_ret
        exact ⟨_, rfl, by rw [unhide HX (by first | rfl | trivial)]; simp, (unhide HB).trans ((unhide H1).mono (unhide HB).size)⟩
    · obtain rfl : i = n := by omega
      have HT : Hid (l.take i = l) := hide (List.take_of_length_le (by rw [← unhide HN]; exact Nat.le_refl _))
      rw [unhide HT] at HA
      go_wp2_with fail
      go_ret
      exact ⟨_, rfl, by rw [unhide HA]; rfl, unhide HB⟩

theorem contains_ok (l : List (Int × Int)) (v : Value) (w : World) (hr : ReadsR w v l) (hl : l.length ≤ 140737488355328) :
    Calls Try.prog 11 #[v, .func (.func 12) #[] #[]] w fun e w' => e = .returned (.bool (!allMay l)) ∧ Below w.heap.size w w' := by
  have HF := hide (find_ok l v w hr hl)
  clear hr
  go_enter Try.func11, Try.ntmps11
  go_wp2_with fail
  refine (unhide HF).mono ?_
  rintro e w1 ⟨x, rfl, h1, h2⟩
  have H1 := hide h1
  have H2 := hide h2
  clear h1 h2 HF
  go_wp2_with fail
  go_ret
  exact ⟨by rw [← unhide H1]; rfl, unhide H2⟩
end Go.Proofs.Ytcppnkbfndhioaa
