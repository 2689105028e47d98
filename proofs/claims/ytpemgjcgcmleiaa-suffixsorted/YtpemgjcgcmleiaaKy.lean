/- The first bytes of turnings as a number; places sorted by it byte by byte. -/
import Derived.Test.YtpemgjcgcmleiaaGq
import Derived.Test.YtpemgjcgcmleiaaCs
namespace Go.Proofs.Ytpemgjcgcmleiaa.Suf
set_option linter.unusedVariables false

/-- the first bytes of a turning as a number -/
def key (b : List Nat) (i : Nat) : Nat → Nat
  | 0 => 0
  | j + 1 => key b i j * 256 + tw b i j

theorem tw_small {b : List Nat} (hb : ∀ z ∈ b, z < 256) (i m : Nat) : tw b i m < 256 := by
  unfold tw
  rcases Nat.lt_or_ge ((i + m) % b.length) b.length with h | h
  · exact hb _ (getD_mem h)
  · rw [List.getD_eq_getElem?_getD, List.getElem?_eq_none h]
    exact Nat.zero_lt_succ _

theorem key_eq {b : List Nat} (hb : ∀ z ∈ b, z < 256) (i k : Nat) : ∀ j, key b i j = key b k j → EqTo b j i k
  | 0, _ => fun m hm => by omega
  | j + 1, h => by
    have h1 := tw_small hb i j
    have h2 := tw_small hb k j
    unfold key at h
    have h3 := key_eq hb i k j (by omega)
    intro m hm
    rcases Nat.lt_or_ge m j with h4 | h4
    · exact h3 m h4
    · rw [show m = j by omega]
      omega

theorem key_lt {b : List Nat} (hb : ∀ z ∈ b, z < 256) (i k : Nat) : ∀ j, key b i j < key b k j → LtR b i k
  | 0, h => by unfold key at h; omega
  | j + 1, h => by
    have h1 := tw_small hb i j
    have h2 := tw_small hb k j
    unfold key at h
    rcases Nat.lt_or_ge (key b i j) (key b k j) with h3 | h3
    · exact key_lt hb i k j h3
    · exact ⟨j, key_eq hb i k j (by omega), by omega⟩

theorem key_small {b : List Nat} (hb : ∀ z ∈ b, z < 256) (i : Nat) : ∀ j, key b i j < 256 ^ j
  | 0 => by unfold key; exact Nat.zero_lt_succ _
  | j + 1 => by
    have h1 := tw_small hb i j
    have h2 := key_small hb i j
    unfold key
    rw [Nat.pow_succ]
    omega

/-- a byte of a number -/
def dig (F : Nat → Nat) (i x : Nat) : Nat := F x / 256 ^ i % 256

theorem dig_small (F : Nat → Nat) (i x : Nat) : dig F i x < 256 := Nat.mod_lt _ (by omega)

/-- sorted by some bytes, the lowest first -/
def rad (F : Nat → Nat) (n : Nat) : Nat → List Nat
  | 0 => List.range n
  | i + 1 => bys (dig F i) (rad F n i) 256

theorem rad_nodup (F : Nat → Nat) (n : Nat) : ∀ i, (rad F n i).Nodup
  | 0 => List.nodup_range
  | i + 1 => bys_nodup _ (rad_nodup F n i) _

theorem rad_perm (F : Nat → Nat) (n : Nat) : ∀ i, (rad F n i).Perm (List.range n)
  | 0 => List.Perm.refl _
  | i + 1 => (bys_perm _ (rad_nodup F n i) fun x _ => dig_small F i x).trans (rad_perm F n i)

theorem rad_len (F : Nat → Nat) (n i : Nat) : (rad F n i).length = n := by rw [(rad_perm F n i).length_eq, List.length_range]

theorem rad_sorted (F : Nat → Nat) (n : Nat) : ∀ i, (rad F n i).Pairwise fun x y => F x % 256 ^ i ≤ F y % 256 ^ i
  | 0 => by
    refine List.Pairwise.imp ?_ (List.pairwise_lt_range (n := n))
    intro x y _
    rw [Nat.pow_zero, Nat.mod_one, Nat.mod_one]
    exact Nat.le_refl _
  | i + 1 => by
    refine (bys_sorted (dig F i) (rad_sorted F n i) 256).imp ?_
    intro x y h
    unfold dig at h
    rw [Nat.pow_succ, Nat.mod_mul, Nat.mod_mul]
    have hx : F x % 256 ^ i < 256 ^ i := Nat.mod_lt _ (Nat.pow_pos (by omega))
    rcases h with h | ⟨h1, h2⟩
    · have := Nat.mul_le_mul_left (256 ^ i) (show F x / 256 ^ i % 256 + 1 ≤ F y / 256 ^ i % 256 by omega)
      rw [Nat.mul_add, Nat.mul_one] at this
      omega
    · rw [h1]
      omega

theorem rad_key {F : Nat → Nat} {n : Nat} (hF : ∀ x, x < n → F x < 4294967296) : ∀ r s, r < s → s < n → F ((rad F n 4).getD r 0) ≤ F ((rad F n 4).getD s 0) := by
  intro r s hrs hs
  have hl := rad_len F n 4
  have hp := List.pairwise_iff_getElem.1 (rad_sorted F n 4) r s (by omega) (by omega) hrs
  have e : ∀ q (hq : q < n), (rad F n 4).getD q 0 = (rad F n 4)[q]'(by omega) := fun q hq => by simp [List.getD_eq_getElem?_getD, List.getElem?_eq_getElem (show q < (rad F n 4).length by omega)]
  have hm : ∀ q (hq : q < n), (rad F n 4)[q]'(by omega) < n := fun q hq => List.mem_range.1 ((rad_perm F n 4).mem_iff.1 (List.getElem_mem _))
  rw [e r (by omega), e s hs]
  have h1 := hF _ (hm r (by omega))
  have h2 := hF _ (hm s hs)
  rw [Nat.mod_eq_of_lt (by omega), Nat.mod_eq_of_lt (by omega)] at hp
  exact hp

theorem perm_rows {L : List Nat} {n : Nat} (h : L.Perm (List.range n)) : (∀ r, r < n → L.getD r 0 < n) ∧ (∀ r s, r < n → s < n → L.getD r 0 = L.getD s 0 → r = s) ∧ ∀ i, i < n → ∃ r, r < n ∧ L.getD r 0 = i := by
  have hl : L.length = n := by rw [h.length_eq, List.length_range]
  have hd : L.Nodup := h.nodup_iff.2 List.nodup_range
  have e : ∀ q (hq : q < n), L.getD q 0 = L[q]'(by omega) := fun q hq => by simp [List.getD_eq_getElem?_getD, List.getElem?_eq_getElem (show q < L.length by omega)]
  refine ⟨fun r hr => ?_, fun r s hr hs he => ?_, fun i hi => ?_⟩
  · exact List.mem_range.1 (h.mem_iff.1 (getD_mem (by omega)))
  · rw [e r hr, e s hs] at he
    rcases Nat.lt_trichotomy r s with h1 | h1 | h1
    · exact absurd he (List.pairwise_iff_getElem.1 (List.nodup_iff_pairwise_ne.1 hd) r s (by omega) (by omega) h1)
    · exact h1
    · exact absurd he.symm (List.pairwise_iff_getElem.1 (List.nodup_iff_pairwise_ne.1 hd) s r (by omega) (by omega) h1)
  · obtain ⟨r, hr, e'⟩ := List.getElem_of_mem (h.mem_iff.2 (List.mem_range.2 hi))
    exact ⟨r, by omega, by rw [e r (by omega), e']⟩

/-- the beginning -/
theorem begin_grps {b : List Nat} (hb : ∀ z ∈ b, z < 256) {R R' : Nat → Nat} {ps : List (Nat × Nat)} (hc : Cut (fun x => key b x 4) (fun r => (rad (fun x => key b x 4) b.length 4).getD r 0) 0 b.length ps) (hr : Ranked b.length (fun r => (rad (fun x => key b x 4) b.length 4).getD r 0) R R' 0 b.length ps) :
    Grps b 4 (fun r => (rad (fun x => key b x 4) b.length 4).getD r 0) R' (wide ps) [] := by
  obtain ⟨h1, h2, h3⟩ := perm_rows (rad_perm (fun x => key b x 4) b.length 4)
  exact Grps.begin h1 h2 h3 (rad_key fun x _ => key_small hb x 4) (fun i k _ _ h => key_lt hb i k 4 h) (fun i k _ _ h => key_eq hb i k 4 h) hc hr

end Go.Proofs.Ytpemgjcgcmleiaa.Suf
