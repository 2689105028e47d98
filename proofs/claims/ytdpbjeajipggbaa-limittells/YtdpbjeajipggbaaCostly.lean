/- What the lengths cost. -/
import Derived.Test.YtdpbjeajipggbaaLens
namespace Go.Proofs.Ytdpbjeajipggbaa
open Go.RowKit
set_option linter.unusedVariables false

/-- lengths as a list -/
def lensL (C : Nat → Nat) (n : Nat) : List Int := (List.range n).map fun i => (C i : Int)
theorem lensL_length (C : Nat → Nat) (n : Nat) : (lensL C n).length = n := by simp [lensL]
theorem lensL_get (C : Nat → Nat) (n i : Nat) (h : i < n) : (lensL C n).getD i 0 = (C i : Int) := by
  unfold lensL
  rw [List.getD_eq_getElem?_getD, List.getElem?_map, List.getElem?_range h]
  rfl

theorem IntsAt.lens {w : World} {g n : Nat} {C : Nat → Nat} (h : IntsAt w .i64 3 g n C) : ReadsI w (.slice (some ⟨g, 0, none⟩) n n) (lensL C n) :=
  ⟨_, n, by rw [lensL_length], fun _ => ⟨g, 0, rfl, fun j hj => by
    rw [lensL_length] at hj
    rw [Nat.zero_add, h.cell j hj, lensL_get C n j hj]⟩⟩

theorem acc_raw (os : List Int) (C : Nat → Nat) (n : Nat) : ∀ k, k ≤ n → acc os (lensL C n) k = ((raw os k).map fun j => wt os j * C j).sum
  | 0, _ => by simp [acc, raw]
  | k + 1, h => by
    rw [acc, acc_raw os C n k (by omega), raw_succ, lensL_get C n k (by omega), Int.toNat_natCast]
    have e : (os.getD k 0).toNat = wt os k := rfl
    rw [e]
    by_cases h0 : 0 < wt os k
    · rw [if_pos h0]; simp
    · rw [if_neg h0, show wt os k = 0 by omega]; simp

theorem acc_order {os : List Int} {l : List Nat} (h : IsOrder os l) (C : Nat → Nat) : acc os (lensL C os.length) os.length = Merge.lsum (fun i => C i * wt os i) l := by
  have hp : l.Perm (raw os os.length) := (List.perm_ext_iff_of_nodup h.nodup (raw_nodup os _)).2 fun i => by rw [h.mem, raw_mem]
  rw [acc_raw os C os.length os.length (Nat.le_refl _), ← (hp.map fun j => wt os j * C j).sum_nat]
  unfold Merge.lsum
  congr 1
  exact List.map_congr_left fun i _ => Nat.mul_comm _ _

/-- where at least two come, the lengths are those of the packages -/
theorem ans_out {os : List Int} {l : List Nat} {M : Nat} (hM : 1 ≤ M) (hn : l.length ≤ 2 ^ M) (h1 : l.length ≠ 1) (i : Nat) : ans os l M i = Merge.out (wt os) l M i := by
  unfold ans
  rw [if_neg h1, worths_fs]
  exact Merge.len_out (wt os) l M hM hn i

theorem ans_le {os : List Int} {l : List Nat} (h : IsOrder os l) {M : Nat} (hM : 1 ≤ M) (hn : l.length ≤ 2 ^ M) (i : Nat) : ans os l M i ≤ M := by
  by_cases h1 : l.length = 1
  · unfold ans
    rw [if_pos h1]
    by_cases e : i = l.getD 0 0
    · simp only [if_pos e]; exact hM
    · simp only [if_neg e]; omega
  · rw [ans_out hM hn h1]
    exact Merge.out_le h.nodup hM hn i

theorem cost_small {os : List Int} {l : List Nat} (h : IsOrder os l) {M : Nat} (hM : 1 ≤ M) (hM2 : M ≤ 20) (hn : l.length ≤ 2 ^ M) (ht : tot os os.length ≤ 1099511627776) : acc os (lensL (ans os l M) os.length) os.length ≤ 4611686018427387904 := by
  rw [acc_order h]
  have h1 : Merge.lsum (fun i => ans os l M i * wt os i) l ≤ Merge.lsum (fun i => wt os i * 20) l := Merge.lsum_le fun i _ => by
    rw [Nat.mul_comm]
    exact Nat.mul_le_mul_left _ (Nat.le_trans (ans_le h hM hn i) hM2)
  rw [Merge.lsum_mul] at h1
  have h2 : Merge.lsum (fun i => wt os i) l = tot os os.length := by rw [← order_sum h]; rfl
  rw [h2] at h1
  omega

/-- longer words never cost more -/
theorem cost_more {os : List Int} {l : List Nat} (h : IsOrder os l) {M : Nat} (hM : 1 ≤ M) (hn : l.length ≤ 2 ^ M) : acc os (lensL (ans os l (M + 1)) os.length) os.length ≤ acc os (lensL (ans os l M) os.length) os.length := by
  rw [acc_order h, acc_order h]
  have hn2 : l.length ≤ 2 ^ (M + 1) := Nat.le_trans hn (Nat.pow_le_pow_right (by decide) (by omega))
  by_cases h1 : l.length = 1
  · have e : ans os l (M + 1) = ans os l M := by unfold ans; rw [if_pos h1, if_pos h1]
    rw [e]
    exact Nat.le_refl _
  · by_cases h0 : l.length = 0
    · rw [List.length_eq_zero_iff.1 h0]
      exact Nat.le_refl _
    · have e1 : (fun i => ans os l (M + 1) i * wt os i) = fun i => Merge.out (wt os) l (M + 1) i * wt os i := funext fun i => by rw [ans_out (by omega) hn2 h1]
      have e2 : (fun i => ans os l M i * wt os i) = fun i => Merge.out (wt os) l M i * wt os i := funext fun i => by rw [ans_out hM hn h1]
      rw [e1, e2]
      exact Merge.out_more h.sorted h.nodup hM hn (by omega)

end Go.Proofs.Ytdpbjeajipggbaa
