/-
  Plain facts for BitsWrites, with no program in them: noughts up to a whole byte, and bytes laid behind whole bytes.
-/
import Derived.Test.YtcplockmnabccaaMath
namespace Go.Proofs.Ytcplockmnabccaa.Mth

theorem getD_append_false (L : List Bool) (k j : Nat) : (L ++ List.replicate k false).getD j false = L.getD j false := by
  simp only [List.getD_eq_getElem?_getD]
  by_cases h : j < L.length
  · rw [List.getElem?_append_left h]
  · rw [List.getElem?_append_right (by omega), List.getElem?_eq_none (l := L) (by omega), List.getElem?_replicate]
    split <;> rfl

theorem octet_pad (high : Bool) (L : List Bool) (k i : Nat) : octet high (L ++ List.replicate k false) i = octet high L i := by
  unfold octet
  congr 1
  funext r
  exact getD_append_false _ _ _

theorem pk_pad (high : Bool) (m : Nat) (L : List Bool) (k : Nat) : pk high m (L ++ List.replicate k false) = pk high m L := by
  unfold pk
  congr 1
  funext i
  exact octet_pad _ _ _ _

/-- The bits of bytes. -/
def ofBytes (high : Bool) (zs : List Nat) : List Bool := (List.range (8 * zs.length)).map (bitIn high zs)

theorem ofBytes_length (high : Bool) (zs : List Nat) : (ofBytes high zs).length = 8 * zs.length := by simp [ofBytes]
theorem ofBytes_getD (high : Bool) (zs : List Nat) (i : Nat) (h : i < 8 * zs.length) : (ofBytes high zs).getD i false = bitIn high zs i := by
  simp [ofBytes, h]

theorem octet_append_ge (high : Bool) (L : List Bool) (m : Nat) (zs : List Nat) (hL : L.length = 8 * m) (hz : ∀ z ∈ zs, z < 256) (i : Nat) (hi : i < zs.length) :
    octet high (L ++ ofBytes high zs) (m + i) = zs.getD i 0 := by
  apply Nat.eq_of_testBit_eq
  intro r
  rw [octet_testBit]
  have hzi : zs.getD i 0 < 256 := hz _ (by rw [List.getD_eq_getElem?_getD, List.getElem?_eq_getElem hi]; exact List.getElem_mem _)
  by_cases h8 : r < 8
  · have h1 := rk_lt (high := high) h8
    have e : (L ++ ofBytes high zs).getD (8 * (m + i) + rk high 8 r) false = bitIn high zs (8 * i + rk high 8 r) := by
      rw [List.getD_eq_getElem?_getD, List.getElem?_append_right (by omega), show 8 * (m + i) + rk high 8 r - L.length = 8 * i + rk high 8 r by omega, ← List.getD_eq_getElem?_getD]
      exact ofBytes_getD _ _ _ (by omega)
    rw [e]
    unfold bitIn
    rw [show (8 * i + rk high 8 r) / 8 = i by omega, show (8 * i + rk high 8 r) % 8 = rk high 8 r by omega, rk_rk h8]
    simp [h8]
  · have : (zs.getD i 0).testBit r = false := Nat.testBit_lt_two_pow (Nat.lt_of_lt_of_le hzi (by
      have : 2 ^ 8 ≤ 2 ^ r := Nat.pow_le_pow_right (by decide) (by omega)
      omega))
    simp [h8] at this ⊢
    exact this

theorem octet_append_lt (high : Bool) (L M : List Bool) (i : Nat) (h : 8 * i + 8 ≤ L.length) : octet high (L ++ M) i = octet high L i := by
  apply Nat.eq_of_testBit_eq
  intro r
  rw [octet_testBit, octet_testBit]
  by_cases h8 : r < 8
  · have := rk_lt (high := high) h8
    simp only [List.getD_eq_getElem?_getD]
    rw [List.getElem?_append_left (by omega)]
  · simp [h8]

theorem pk_append_bytes (high : Bool) (L : List Bool) (m : Nat) (zs : List Nat) (hL : L.length = 8 * m) (hz : ∀ z ∈ zs, z < 256) :
    pk high (m + zs.length) (L ++ ofBytes high zs) = pk high m L ++ zs := by
  apply List.ext_getElem?
  intro i
  by_cases h : i < m
  · rw [pk_get _ _ _ _ (by omega), List.getElem?_append_left (by rw [pk_length]; exact h), pk_get _ _ _ _ h, octet_append_lt _ _ _ _ (by omega)]
  · by_cases h2 : i < m + zs.length
    · obtain ⟨j, rfl⟩ : ∃ j, i = m + j := ⟨i - m, by omega⟩
      rw [pk_get _ _ _ _ h2, octet_append_ge high L m zs hL hz j (by omega), List.getElem?_append_right (by rw [pk_length]; omega), pk_length, show m + j - m = j by omega, List.getElem?_eq_getElem (by omega)]
      simp [show j < zs.length by omega]
    · rw [List.getElem?_eq_none (by rw [pk_length]; omega), List.getElem?_eq_none (by rw [List.length_append, pk_length]; omega)]

theorem pk_append_any (high : Bool) (L : List Bool) (b : Bool) (M : Nat) :
    pk high M (L ++ [b]) = (pk high M L).set (L.length / 8) (octet high L (L.length / 8) ||| (b.toNat <<< rk high 8 (L.length % 8))) := by
  apply List.ext_getElem?
  intro j
  by_cases hj : j < M
  · by_cases e : j = L.length / 8
    · subst e
      rw [pk_get _ _ _ _ hj, octet_append_at high L b (L.length / 8) (L.length % 8) (by omega) (by omega), List.getElem?_set_self (by rw [pk_length]; exact hj)]
    · rw [pk_get _ _ _ _ hj, List.getElem?_set_ne (by omega), pk_get _ _ _ _ hj, octet_append_other high L b j (by omega)]
  · rw [List.getElem?_eq_none (by rw [pk_length]; omega), List.getElem?_eq_none (by rw [List.length_set, pk_length]; omega)]

end Go.Proofs.Ytcplockmnabccaa.Mth
