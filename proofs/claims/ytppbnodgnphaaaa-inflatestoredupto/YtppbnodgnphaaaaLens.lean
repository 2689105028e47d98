/- Lengths, summed and counted. -/
import Derived.Test.YtppbnodgnphaaaaWords
namespace Go.Proofs.Ytppbnodgnphaaaa
open Go.RowKit
set_option maxRecDepth 100000

/-- the words as they are laid: a symbol without one has 0 -/
def wdz (ls : List Nat) (i : Nat) : Nat := if Canon.ln ls i = 0 then 0 else Canon.wd ls i

theorem w64 {x : Int} (h0 : 0 ≤ x) (h1 : x < 4611686018427387904) : wrap64 x = x := by unfold wrap64; omega

theorem pow_small {l : Nat} (h : 0 < l) : 2 ^ (20 - l) ≤ 524288 := by
  have h19 : (2 : Nat) ^ (20 - l) ≤ 2 ^ 19 := Nat.pow_le_pow_right (by omega) (by omega)
  simpa using h19

theorem words_snoc (ls : List Nat) (x : Nat) : words (ls ++ [x]) = words ls + (if 0 < x then 1 else 0) := by
  unfold words
  rw [List.filter_append, List.length_append]
  by_cases h : 0 < x <;> simp [h]

theorem count_snoc (ls : List Nat) (x : Nat) : (ls ++ [x]).count 1 = ls.count 1 + (if x = 1 then 1 else 0) := by
  rw [List.count_append, List.count_singleton]
  by_cases h : x = 1 <;> simp [h]

theorem nat_take (zs : List Int) (i : Nat) (h : i < zs.length) : (nat zs).take (i + 1) = (nat zs).take i ++ [(zs.getD i 0).toNat] := by
  have h' : i < (nat zs).length := by simpa [nat] using h
  rw [List.take_succ_eq_append_getElem h']
  simp [nat, h]

theorem sum_words (ls : List Nat) (h : ∀ l ∈ ls, l ≤ 20) : ∀ k, k ≤ ls.length → Canon.sum (ls.take k) ≤ words (ls.take k) * 524288
  | 0, _ => by simp [Canon.sum_nil]
  | k + 1, hk => by
    have ih := sum_words ls h k (by omega)
    rw [List.take_succ_eq_append_getElem (by omega), Canon.sum_snoc _ _ (h _ (List.getElem_mem _)), words_snoc]
    by_cases h0 : 0 < ls[k]
    · rw [if_pos h0, if_pos h0]
      have := pow_small h0
      generalize 2 ^ (20 - ls[k]) = P at this
      omega
    · rw [if_neg h0, if_neg h0]; omega

theorem okSum.le {ls : List Nat} {loose : Bool} (h : ∀ l ∈ ls, l ≤ 20) (ho : okSum ls loose) : Canon.sum ls ≤ 1048576 := by
  rcases ho with e | ⟨_, e⟩
  · omega
  · have := sum_words ls h ls.length (Nat.le_refl _)
    rw [List.take_length] at this
    rcases e with e | ⟨e, _⟩ <;> rw [e] at this <;> omega

/-- the numbers stay small -/
theorem fst_le {ls : List Nat} (hs : Canon.sum ls ≤ 1048576) (l : Nat) (hl : l ≤ 20) : Canon.fst ls l + Canon.cn ls l ≤ 1048576 := by
  have h1 := Canon.fst_kr ls l hl
  have h2 := Canon.kr_mono ls (show l + 1 ≤ 21 by omega)
  rw [Canon.kr, ← h1, ← Nat.add_mul] at h2
  have hp : 0 < 2 ^ (20 - l) := Nat.two_pow_pos _
  have h3 : Canon.fst ls l + Canon.cn ls l ≤ (Canon.fst ls l + Canon.cn ls l) * 2 ^ (20 - l) := Nat.le_mul_of_pos_right _ hp
  unfold Canon.sum at hs
  omega

theorem ne_c {a l z i' : Nat} (he : a = l) (q1 : 1 ≤ l) (ei : i' = z + 1) (h1 : a = 0 ∨ l < a ∨ a = l ∧ i' ≤ z) : False := by omega
theorem lt_b {z i i' : Nat} (ei : i' = i + 1) (hz : z < i') (e : ¬ z = i) : z < i := by omega
theorem or_d {a l z i i' : Nat} (ei : i' = i + 1) (h1 : a = 0 ∨ l < a ∨ a = l ∧ i' ≤ z) : a = 0 ∨ l < a ∨ a = l ∧ i ≤ z := by omega

end Go.Proofs.Ytppbnodgnphaaaa
