/-
  What Var reads has one form.
-/
import Derived.Test.YtbefokclbcdmhaaDoorHigh
namespace Go.Proofs.YtbefokclbcdmhaaDoor
open Go.RowKit

/-- n bytes at p spell u, all but the last with bit 7 set, the last not 0 unless it is the first -/
structure Spells (zs : List Nat) (p n u : Nat) : Prop where
  pos : 1 ≤ n
  le : n ≤ 9
  room : p + n ≤ zs.length
  lt : u < 128 ^ n
  big : n = 1 ∨ 128 ^ (n - 1) ≤ u
  ahead : ∀ j, j < n - 1 → zs.getD (p + j) 0 = u / 128 ^ j % 128 + 128
  last : zs.getD (p + (n - 1)) 0 = u / 128 ^ (n - 1) % 128

theorem digit_keep (v c i j : Nat) (h : j < i) : (v + c * 128 ^ i) / 128 ^ j % 128 = v / 128 ^ j % 128 := by
  have e : 128 ^ i = 128 ^ j * (128 * 128 ^ (i - j - 1)) := by rw [← Nat.mul_assoc, ← Nat.pow_succ, ← Nat.pow_add]; congr 1; omega
  rw [e, show c * (128 ^ j * (128 * 128 ^ (i - j - 1))) = 128 ^ j * (128 * (c * 128 ^ (i - j - 1))) by
    rw [Nat.mul_left_comm c, Nat.mul_left_comm c 128], Nat.add_mul_div_left _ _ (Nat.pow_pos (by omega)), Nat.add_mul_mod_self_left]

theorem digit_top (v c i : Nat) (hv : v < 128 ^ i) : (v + c * 128 ^ i) / 128 ^ i = c := by
  rw [Nat.mul_comm, Nat.add_mul_div_left _ _ (Nat.pow_pos (by omega)), Nat.div_eq_of_lt hv, Nat.zero_add]

theorem var_spells (zs : List Nat) (p : Nat) (hs : ∀ j, zs.getD j 0 < 256) : ∀ k i v u q, i + k = 9 → p + i ≤ zs.length → v < 128 ^ i → (∀ j, j < i → zs.getD (p + j) 0 = v / 128 ^ j % 128 + 128) → varRd zs p k i v = (u, q, 0) →
    ∃ n, q = p + n ∧ Spells zs p n u
  | 0, i, v, u, q, _, _, _, _, h => by rw [varRd] at h; split at h <;> simp at h
  | k + 1, i, v, u, q, hk, hp, hv, ha, h => by
    rw [varRd] at h
    split at h
    · simp at h
    · rename_i hend
      split at h
      · simp at h
      · rename_i hz
        have hc := hs (p + i)
        split at h
        · rename_i hlt
          have hcm : zs.getD (p + i) 0 % 128 = zs.getD (p + i) 0 := Nat.mod_eq_of_lt hlt
          rw [hcm] at h
          simp only [Prod.mk.injEq] at h
          obtain ⟨rfl, rfl, -⟩ := h
          generalize hce : zs.getD (p + i) 0 = c at hz hc hlt hcm ⊢
          refine ⟨i + 1, by omega, ⟨by omega, by omega, by omega, ?_, ?_, ?_, ?_⟩⟩
          · rw [Nat.pow_succ]
            have h2 : c * 128 ^ i ≤ 127 * 128 ^ i := Nat.mul_le_mul (by omega) (Nat.le_refl _)
            omega
          · by_cases e : i = 0
            · left; omega
            · right
              have : 1 ≤ c := by omega
              have h2 : 1 * 128 ^ i ≤ c * 128 ^ i := Nat.mul_le_mul this (Nat.le_refl _)
              rw [Nat.add_sub_cancel]
              omega
          · intro j hj
            rw [Nat.add_sub_cancel] at hj
            rw [digit_keep v c i j hj]
            exact ha j hj
          · rw [Nat.add_sub_cancel, digit_top v c i hv, Nat.mod_eq_of_lt hlt]
            exact hce
        · rename_i hge
          refine var_spells zs p hs k (i + 1) _ u q (by omega) (by omega) ?_ ?_ h
          · rw [Nat.pow_succ]
            have h2 : zs.getD (p + i) 0 % 128 * 128 ^ i ≤ 127 * 128 ^ i := Nat.mul_le_mul (by omega) (Nat.le_refl _)
            omega
          · intro j hj
            by_cases e : j = i
            · subst e
              rw [digit_top _ _ _ hv]
              omega
            · rw [digit_keep _ _ i j (by omega)]
              exact ha j (by omega)

theorem nb_unique (u n : Nat) (hu : u < 9223372036854775808) (h1 : 1 ≤ n) (h2 : u < 128 ^ n) (h3 : n = 1 ∨ 128 ^ (n - 1) ≤ u) (h9 : n ≤ 9) : nb u = n := by
  have hn := nb_le u hu
  obtain ⟨s1, s2⟩ := nb_spec 9 u (by omega) hu
  rcases Nat.lt_trichotomy (nb u) n with h | h | h
  · have e1 : u < 128 ^ (nb u - 1) * 128 := by
      have := Nat.lt_mul_of_div_lt s1 (Nat.pow_pos (n := nb u - 1) (show 0 < 128 by omega))
      rw [Nat.mul_comm]; exact this
    rw [← Nat.pow_succ, show (nb u - 1).succ = nb u by omega] at e1
    have e2 : 128 ^ nb u ≤ 128 ^ (n - 1) := Nat.pow_le_pow_right (by omega) (by omega)
    rcases h3 with h3 | h3 <;> omega
  · exact h
  · have := s2 (n - 1) (by omega)
    have e1 : 128 * 128 ^ (n - 1) ≤ u := by
      have h4 := Nat.mul_le_mul this (Nat.le_refl (128 ^ (n - 1)))
      exact Nat.le_trans h4 (Nat.div_mul_le_self _ _)
    rw [Nat.mul_comm, ← Nat.pow_succ, show (n - 1).succ = n by omega] at e1
    omega

theorem spells_lt {zs : List Nat} {p n u : Nat} (h : Spells zs p n u) : u < 9223372036854775808 := by
  have h1 := h.lt
  have h2 : 128 ^ n ≤ 128 ^ 9 := Nat.pow_le_pow_right (by omega) h.le
  omega

theorem spells_form {zs : List Nat} {n u : Nat} (h : Spells zs 0 n u) : zs.take n = varB u ∧ nb u = n := by
  have hnb := nb_unique u n (spells_lt h) h.pos h.lt h.big h.le
  refine ⟨?_, hnb⟩
  have hr := h.room
  apply List.ext_getElem?
  intro j
  by_cases hj : j < n
  · rw [List.getElem?_take, if_pos hj]
    have h1 : j < zs.length := by omega
    have h2 : j < (varB u).length := by rw [varB_length u (by have := h.pos; omega), hnb]; exact hj
    have e1 : zs[j]? = some (zs.getD j 0) := by simp [List.getD_eq_getElem?_getD, h1]
    have e2 : (varB u)[j]? = some ((varB u).getD j 0) := by simp [List.getD_eq_getElem?_getD, h2]
    rw [e1, e2]
    congr 1
    by_cases e : j = n - 1
    · rw [(varB_get u j).2 (by omega), hnb]
      have := h.last
      rw [Nat.zero_add] at this
      rw [e]; exact this
    · rw [(varB_get u j).1 (by omega)]
      have := h.ahead j (by omega)
      rw [Nat.zero_add] at this
      exact this
  · rw [List.getElem?_eq_none (by simp; omega), List.getElem?_eq_none (by rw [varB_length u (by have := h.pos; omega), hnb]; omega)]
end Go.Proofs.YtbefokclbcdmhaaDoor
