/- The sums of LimitBest: the lengths fill a code, and no other lengths that fit cost less. -/
import Derived.Test.YtdpbjeajipggbaaCostly
namespace Go.Proofs.Ytdpbjeajipggbaa
open Go.RowKit
set_option linter.unusedVariables false

/-- what the lengths take of 2^20, up to a place -/
def ksum (C : Nat → Nat) : Nat → Nat
  | 0 => 0
  | k + 1 => ksum C k + (if 0 < C k then 2 ^ (20 - C k) else 0)

theorem ksum_le (C : Nat → Nat) : ∀ k, ksum C k ≤ k * 1048576
  | 0 => Nat.le_refl _
  | k + 1 => by
    have h1 := ksum_le C k
    have h2 : 2 ^ (20 - C k) ≤ 2 ^ 20 := Nat.pow_le_pow_right (by decide) (by omega)
    have h3 : (2 : Nat) ^ 20 = 1048576 := by decide
    rw [h3] at h2
    rw [ksum, Nat.succ_mul]
    generalize k * 1048576 = y at h1 ⊢
    generalize ksum C k = x at h1 ⊢
    generalize 2 ^ (20 - C k) = z at h2 ⊢
    split <;> omega

theorem ksum_raw {os : List Int} {C : Nat → Nat} : ∀ k, (∀ j, j < k → (0 < C j ↔ 0 < wt os j)) → ksum C k = ((raw os k).map fun j => 2 ^ (20 - C j)).sum
  | 0, _ => by simp [ksum, raw]
  | k + 1, h => by
    rw [ksum, ksum_raw k (fun j hj => h j (by omega)), raw_succ]
    have := h k (by omega)
    by_cases h0 : 0 < wt os k
    · rw [if_pos h0, if_pos (this.2 h0)]; simp
    · rw [if_neg h0, if_neg (fun c => h0 (this.1 c))]; simp

theorem ksum_ge {os : List Int} {C : Nat → Nat} : ∀ k, (∀ j, j < k → 0 < wt os j → 0 < C j) → ((raw os k).map fun j => 2 ^ (20 - C j)).sum ≤ ksum C k
  | 0, _ => by simp [ksum, raw]
  | k + 1, h => by
    have h1 := ksum_ge k (fun j hj => h j (by omega))
    rw [ksum, raw_succ]
    by_cases h0 : 0 < wt os k
    · rw [if_pos h0, if_pos (h k (by omega) h0)]; simp; omega
    · rw [if_neg h0]; omega

section
variable {os : List Int} {l : List Nat} {M : Nat}

theorem raw_perm (h : IsOrder os l) : l.Perm (raw os os.length) := (List.perm_ext_iff_of_nodup h.nodup (raw_nodup os _)).2 fun i => by rw [h.mem, raw_mem]

/-- a length stands just where a symbol comes -/
theorem ans_iff (h : IsOrder os l) (hM : 1 ≤ M) (hn : l.length ≤ 2 ^ M) (j : Nat) (hj : j < os.length) : 0 < ans os l M j ↔ 0 < wt os j := by
  have hm : j ∈ l ↔ 0 < wt os j := by rw [h.mem]; exact ⟨fun h => h.2, fun h => ⟨hj, h⟩⟩
  by_cases h1 : l.length = 1
  · unfold ans
    rw [if_pos h1]
    obtain ⟨x, rfl⟩ := List.length_eq_one_iff.1 h1
    rw [← hm]
    by_cases e : j = x
    · subst e; simp
    · simp [e]
  · rw [ans_out hM hn h1, ← hm]
    by_cases h0 : l.length = 0
    · rw [List.length_eq_zero_iff.1 h0]
      simp [Merge.out, Merge.syms]
    · constructor
      · intro hp
        refine Classical.byContradiction fun hc => ?_
        obtain ⟨c, _, _, h3, _⟩ := Merge.out_counts (w := wt os) (order := l) hM hn
        rw [h3 j] at hp
        have : Merge.jsum (fun j_1 => (l.take (c j_1)).count j) (M - 1) = Merge.jsum (fun _ => 0) (M - 1) := Merge.jsum_congr _ fun i _ => List.count_eq_zero.2 fun hc' => hc (List.mem_of_mem_take hc')
        rw [this] at hp
        have h0 : ∀ k, Merge.jsum (fun _ => 0) k = 0 := fun k => by
          have := Merge.jsum_mul (fun _ => 0) 0 k
          simpa using this
        rw [h0] at hp
        omega
      · intro hi
        exact Merge.out_pos h.nodup hM hn (by omega) hi

/-- the code is full -/
theorem ksum_full (h : IsOrder os l) (hM : 1 ≤ M) (hM2 : M ≤ 20) (hn : l.length ≤ 2 ^ M) (h2 : 2 ≤ l.length) : ksum (ans os l M) os.length = 1048576 := by
  rw [ksum_raw os.length fun j hj => ans_iff h hM hn j hj, ← ((raw_perm h).map fun j => 2 ^ (20 - ans os l M j)).sum_nat]
  have e1 : (fun i => 2 ^ (20 - ans os l M i)) = fun i => 2 ^ (M + (20 - M) - Merge.out (wt os) l M i) := funext fun i => by rw [ans_out hM hn (by omega), show M + (20 - M) = 20 by omega]
  show Merge.lsum (fun i => 2 ^ (20 - ans os l M i)) l = 1048576
  rw [e1, Merge.kraft_more (fun i _ => Merge.out_le h.nodup hM hn i) (20 - M), Merge.out_full h.sorted h.nodup (fun i hi => ((h.mem i).1 hi).2) hM hn h2, ← Nat.pow_add, show M + (20 - M) = 20 by omega]

theorem lens_of (ls : List Int) (h : NoneBelow ls) : ls = lensL (fun i => (ls.getD i 0).toNat) ls.length := by
  apply List.ext_getElem (by rw [lensL_length])
  intro i h1 h2
  have h3 := lensL_get (fun i => (ls.getD i 0).toNat) ls.length i h1
  have h4 := h i h1
  rw [List.getD_eq_getElem?_getD, List.getElem?_eq_getElem h2] at h3
  simp only [Option.getD_some] at h3
  rw [h3]
  rw [List.getD_eq_getElem?_getD, List.getElem?_eq_getElem h1] at h4 ⊢
  simp only [Option.getD_some] at h4 ⊢
  omega

/-- other lengths cost no less, and their cost can be told -/
theorem other_best (h : IsOrder os l) (hM : 1 ≤ M) (hM2 : M ≤ 20) (hn : l.length ≤ 2 ^ M) (h2 : 2 ≤ l.length) (ht : tot os os.length ≤ 1099511627776) (ls : List Int) (hl : ls.length = os.length) (hb : NoneBelow ls)
    (hm : ∀ j, j < ls.length → ls.getD j 0 ≤ (M : Int)) (hz : ∀ j, j < ls.length → 0 < wt os j → 0 < ls.getD j 0) :
    acc os ls os.length ≤ 4611686018427387904 ∧ (ksum (fun i => (ls.getD i 0).toNat) os.length ≤ 1048576 → acc os (lensL (ans os l M) os.length) os.length ≤ acc os ls os.length) := by
  have hls := lens_of ls hb
  rw [hl] at hls
  obtain ⟨D, hD⟩ : ∃ D : Nat → Nat, D = fun i => (ls.getD i 0).toNat := ⟨_, rfl⟩
  rw [← hD] at hls ⊢
  have hDM : ∀ i ∈ l, D i ≤ M := fun i hi => by
    have := hm i (by rw [hl]; exact ((h.mem i).1 hi).1)
    rw [hD]
    show (ls.getD i 0).toNat ≤ M
    omega
  have hDz : ∀ j, j < os.length → 0 < wt os j → 0 < D j := fun j hj hw => by
    have := hz j (by omega) hw
    rw [hD]
    show 0 < (ls.getD j 0).toNat
    omega
  rw [hls, acc_order h]
  refine ⟨?_, fun hk => ?_⟩
  · have h1 : Merge.lsum (fun i => D i * wt os i) l ≤ Merge.lsum (fun i => wt os i * 20) l := Merge.lsum_le fun i hi => by
      rw [Nat.mul_comm]
      exact Nat.mul_le_mul_left _ (Nat.le_trans (hDM i hi) hM2)
    rw [Merge.lsum_mul] at h1
    have h2 : Merge.lsum (fun i => wt os i) l = tot os os.length := by rw [← order_sum h]; rfl
    rw [h2] at h1
    omega
  · rw [acc_order h]
    have e1 : (fun i => ans os l M i * wt os i) = fun i => Merge.out (wt os) l M i * wt os i := funext fun i => by rw [ans_out hM hn (by omega)]
    rw [e1]
    refine Merge.out_best h.sorted h.nodup hM hn D hDM (Merge.kraft_twenty hM2 hDM ?_)
    have h3 := ksum_ge os.length hDz
    rw [← ((raw_perm h).map fun j => 2 ^ (20 - D j)).sum_nat] at h3
    exact Nat.le_trans h3 hk

end

/-- the probe -/
theorem probe_order : IsOrder [1, 1, 2, 4] [0, 1, 2, 3] := by
  refine ⟨?_, fun i => ?_⟩
  · simp [Ahead, wt]
  · constructor
    · intro h
      simp at h
      rcases h with rfl | rfl | rfl | rfl <;> simp [wt]
    · rintro ⟨h1, h2⟩
      simp at h1
      simp
      omega

theorem probe_ans : lensL (ans [1, 1, 2, 4] [0, 1, 2, 3] 3) 4 = [3, 3, 2, 1] := by decide +kernel

end Go.Proofs.Ytdpbjeajipggbaa
