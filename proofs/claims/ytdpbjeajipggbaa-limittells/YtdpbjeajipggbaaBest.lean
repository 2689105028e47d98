/- The lengths that packages of coins make: they are full, and no others cost less. (For stage 5; it names no program.) -/
import Derived.Test.YtdpbjeajipggbaaMerge
namespace Go.Proofs.Ytdpbjeajipggbaa.Merge

def lsum (f : Nat → Nat) (L : List Nat) : Nat := (L.map f).sum

theorem lsum_nil (f : Nat → Nat) : lsum f [] = 0 := rfl
theorem lsum_cons (f : Nat → Nat) (x : Nat) (L : List Nat) : lsum f (x :: L) = f x + lsum f L := by simp [lsum]
theorem lsum_add (f g : Nat → Nat) (L : List Nat) : lsum (fun i => f i + g i) L = lsum f L + lsum g L := by
  induction L with
  | nil => rfl
  | cons x r ih => rw [lsum_cons, lsum_cons, lsum_cons, ih]; omega
theorem lsum_le {f g : Nat → Nat} {L : List Nat} (h : ∀ i ∈ L, f i ≤ g i) : lsum f L ≤ lsum g L := by
  induction L with
  | nil => exact Nat.le_refl _
  | cons x r ih =>
    have h1 := h x (by simp)
    have h2 := ih (fun i hi => h i (by simp [hi]))
    rw [lsum_cons, lsum_cons]; omega
theorem lsum_congr {f g : Nat → Nat} {L : List Nat} (h : ∀ i ∈ L, f i = g i) : lsum f L = lsum g L :=
  Nat.le_antisymm (lsum_le fun i hi => Nat.le_of_eq (h i hi)) (lsum_le fun i hi => Nat.le_of_eq (h i hi).symm)
theorem lsum_const (c : Nat) (L : List Nat) : lsum (fun _ => c) L = L.length * c := by
  induction L with
  | nil => simp [lsum]
  | cons x r ih => rw [lsum_cons, ih, List.length_cons, Nat.add_mul]; omega
theorem lsum_zero (L : List Nat) : lsum (fun _ => 0) L = 0 := by rw [lsum_const]; omega

def jsum (f : Nat → Nat) : Nat → Nat
  | 0 => f 0
  | k + 1 => jsum f k + f (k + 1)

theorem jsum_congr {f g : Nat → Nat} : ∀ k, (∀ j, j ≤ k → f j = g j) → jsum f k = jsum g k
  | 0, h => h 0 (Nat.le_refl _)
  | k + 1, h => by rw [jsum, jsum, jsum_congr k (fun j hj => h j (by omega)), h (k + 1) (Nat.le_refl _)]

theorem jsum_le {f g : Nat → Nat} : ∀ k, (∀ j, j ≤ k → f j ≤ g j) → jsum f k ≤ jsum g k
  | 0, h => h 0 (Nat.le_refl _)
  | k + 1, h => Nat.add_le_add (jsum_le k (fun j hj => h j (by omega))) (h (k + 1) (Nat.le_refl _))

theorem jsum_lsum (g : Nat → Nat → Nat) (L : List Nat) : ∀ k, jsum (fun j => lsum (fun i => g i j) L) k = lsum (fun i => jsum (g i) k) L
  | 0 => rfl
  | k + 1 => by
    rw [jsum, jsum_lsum g L k]
    show _ = lsum (fun i => jsum (g i) k + g i (k + 1)) L
    rw [lsum_add]

theorem wide_jsum (c : Nat → Nat) : ∀ k, wide c k = jsum (fun j => c j * 2 ^ j) k
  | 0 => by simp [wide, jsum]
  | k + 1 => by rw [wide, jsum, wide_jsum c k]

theorem price_jsum (base : List Coin) (c : Nat → Nat) : ∀ k, price base c k = jsum (fun j => pre base (c j)) k
  | 0 => rfl
  | k + 1 => by rw [price, jsum, price_jsum base c k]

/-- one of a kind each -/
def baseOf (w : Nat → Nat) (order : List Nat) : List Coin := order.map fun i => (w i, [i])

theorem base_syms (w : Nat → Nat) (order : List Nat) : syms (baseOf w order) = order := by
  induction order with
  | nil => rfl
  | cons x r ih => rw [baseOf, List.map_cons, syms_cons]; show [x] ++ syms (baseOf w r) = _; rw [ih]; rfl

theorem base_take (w : Nat → Nat) (order : List Nat) (m : Nat) : (baseOf w order).take m = baseOf w (order.take m) := by simp [baseOf]
theorem base_length (w : Nat → Nat) (order : List Nat) : (baseOf w order).length = order.length := by simp [baseOf]
theorem base_fair (w : Nat → Nat) (order : List Nat) : Fair w (baseOf w order) := fun x hx => by
  obtain ⟨i, _, rfl⟩ := List.mem_map.1 hx
  simp

/-- a list whose members are of order, counted -/
theorem count_sum {order : List Nat} (hd : order.Nodup) (w : Nat → Nat) : ∀ (s : List Nat), (∀ i ∈ s, i ∈ order) → (s.map w).sum = lsum (fun i => s.count i * w i) order
  | [], _ => by simp [lsum_zero]
  | x :: s, h => by
    have ih := count_sum hd w s (fun i hi => h i (by simp [hi]))
    have hx := h x (by simp)
    rw [List.map_cons, List.sum_cons, ih]
    have e : lsum (fun i => (x :: s).count i * w i) order = lsum (fun i => (if x = i then w i else 0) + s.count i * w i) order := lsum_congr fun i _ => by
      rw [List.count_cons]
      by_cases e : x = i
      · subst e; simp [Nat.add_mul]; omega
      · simp [e]
    rw [e, lsum_add]
    congr 1
    clear e ih h
    induction order with
    | nil => simp at hx
    | cons y r ih2 =>
      rw [lsum_cons]
      have hd' := List.nodup_cons.1 hd
      by_cases e : x = y
      · subst e
        rw [if_pos rfl, lsum_congr (g := fun _ => 0) (fun i hi => if_neg (fun e : x = i => hd'.1 (by rw [e]; exact hi))), lsum_zero]; omega
      · rw [if_neg e, ← ih2 hd'.2 (by simpa [e] using hx)]; omega

theorem chosen_mem {w : Nat → Nat} {order : List Nat} {c : Nat → Nat} : ∀ k i, i ∈ chosen (baseOf w order) c k → i ∈ order
  | 0, i, h => by rw [chosen, base_take, base_syms] at h; exact List.mem_of_mem_take h
  | k + 1, i, h => by
    rw [chosen] at h
    rcases List.mem_append.1 h with h | h
    · exact chosen_mem k i h
    · rw [base_take, base_syms] at h; exact List.mem_of_mem_take h

theorem chosen_count {w : Nat → Nat} {order : List Nat} (c : Nat → Nat) (i : Nat) : ∀ k, (chosen (baseOf w order) c k).count i = jsum (fun j => (order.take (c j)).count i) k
  | 0 => by rw [chosen, base_take, base_syms]; rfl
  | k + 1 => by rw [chosen, List.count_append, chosen_count c i k, base_take, base_syms]; rfl

theorem take_count {order : List Nat} (hd : order.Nodup) (m i : Nat) : (order.take m).count i ≤ 1 :=
  List.nodup_iff_count.1 ((List.take_sublist m order).nodup hd) i

/-- the widest that so many different rounds can be -/
theorem powers (q : Nat → Nat) (hq : ∀ j, q j ≤ 1) : ∀ k, jsum (fun j => q j * 2 ^ j) k + 2 ^ (k + 1 - jsum q k) ≤ 2 ^ (k + 1) ∧ jsum q k ≤ k + 1
  | 0 => by
    have h0 := hq 0
    simp only [jsum]
    have : q 0 = 0 ∨ q 0 = 1 := by omega
    rcases this with e | e <;> rw [e] <;> simp
  | k + 1 => by
    obtain ⟨ih, ih2⟩ := powers q hq k
    have h0 := hq (k + 1)
    simp only [jsum]
    have : q (k + 1) = 0 ∨ q (k + 1) = 1 := by omega
    have hp : 2 ^ (k + 1 + 1) = 2 * 2 ^ (k + 1) := by rw [Nat.pow_succ]; omega
    rcases this with e | e
    · rw [e]
      refine ⟨?_, by omega⟩
      simp only [Nat.zero_mul, Nat.add_zero]
      rw [hp, show k + 1 + 1 - jsum q k = (k + 1 - jsum q k) + 1 by omega, Nat.pow_succ]
      omega
    · rw [e]
      refine ⟨?_, by omega⟩
      rw [hp, Nat.one_mul, show k + 1 + 1 - (jsum q k + 1) = k + 1 - jsum q k by omega]
      omega

/-! ### The lengths -/

/-- how often a symbol is in the coins that are taken -/
def out (w : Nat → Nat) (order : List Nat) (M : Nat) (i : Nat) : Nat := (syms ((rounds (baseOf w order) (M - 1)).take (2 * order.length - 2))).count i

theorem enough (w : Nat → Nat) (order : List Nat) (M : Nat) (hM : 1 ≤ M) (hn : order.length ≤ 2 ^ M) : 2 * order.length - 2 ≤ (rounds (baseOf w order) (M - 1)).length := by
  obtain ⟨k, rfl⟩ : ∃ k, M = k + 1 := ⟨M - 1, by omega⟩
  have h := wide_lt (baseOf w order) (fun _ => order.length) (fun _ => by rw [base_length]; exact Nat.le_refl _) k
  have e : ∀ k, wide (fun _ => order.length) k + order.length = order.length * 2 ^ (k + 1) := by
    intro k
    induction k with
    | zero => simp [wide]; omega
    | succ k ih => rw [wide, Nat.pow_succ 2 (k + 1), ← Nat.mul_assoc]; omega
  have e1 := e k
  rw [Nat.add_sub_cancel]
  have hp : 2 ^ (k + 1) = 2 * 2 ^ k := by rw [Nat.pow_succ]; omega
  by_cases h1 : order.length ≤ 1
  · omega
  · have h2 : (2 * order.length - 2) * 2 ^ k < ((rounds (baseOf w order) k).length + 1) * 2 ^ k := by
      refine Nat.lt_of_le_of_lt ?_ h
      rw [Nat.sub_mul]
      rw [hp] at e1 hn
      rw [show order.length * (2 * 2 ^ k) = 2 * order.length * 2 ^ k by rw [Nat.mul_comm 2 order.length, Nat.mul_assoc]] at e1
      omega
    have := Nat.lt_of_mul_lt_mul_right h2
    omega

section
variable {w : Nat → Nat} {order : List Nat} {M : Nat}

/-- the counts of the rounds -/
theorem out_counts (hM : 1 ≤ M) (hn : order.length ≤ 2 ^ M) : ∃ c : Nat → Nat, (∀ j, c j ≤ order.length) ∧ wide c (M - 1) = (2 * order.length - 2) * 2 ^ (M - 1) ∧ (∀ i, out w order M i = jsum (fun j => (order.take (c j)).count i) (M - 1)) ∧
    (∀ i ∈ syms ((rounds (baseOf w order) (M - 1)).take (2 * order.length - 2)), i ∈ order) := by
  obtain ⟨c, c1, c2, c3⟩ := pieces (baseOf w order) (M - 1) (2 * order.length - 2) (enough w order M hM hn)
  rw [base_length] at c1
  exact ⟨c, c1, c2, fun i => by rw [out, c3.count_eq, chosen_count], fun i hi => chosen_mem _ i (c3.mem_iff.1 hi)⟩

theorem out_le (hd : order.Nodup) (hM : 1 ≤ M) (hn : order.length ≤ 2 ^ M) (i : Nat) : out w order M i ≤ M := by
  obtain ⟨c, _, _, c3, _⟩ := out_counts (w := w) hM hn
  rw [c3]
  have := (powers _ (fun j => take_count hd (c j) i) (M - 1)).2
  omega

/-- they are not over-full -/
theorem out_kraft (hd : order.Nodup) (hM : 1 ≤ M) (hn : order.length ≤ 2 ^ M) (h2 : 2 ≤ order.length) : lsum (fun i => 2 ^ (M - out w order M i)) order ≤ 2 ^ M := by
  obtain ⟨c, c1, c2, c3, _⟩ := out_counts (w := w) hM hn
  have e1 : wide c (M - 1) = lsum (fun i => jsum (fun j => (order.take (c j)).count i * 2 ^ j) (M - 1)) order := by
    rw [wide_jsum, ← jsum_lsum]
    refine jsum_congr _ (fun j _ => ?_)
    have := count_sum hd (fun _ => 2 ^ j) (order.take (c j)) (fun i hi => List.mem_of_mem_take hi)
    rw [← this]
    have hl : (order.take (c j)).length = c j := by rw [List.length_take]; have := c1 j; omega
    have := lsum_const (2 ^ j) (order.take (c j))
    rw [hl] at this
    exact this.symm
  have e2 : lsum (fun i => jsum (fun j => (order.take (c j)).count i * 2 ^ j) (M - 1) + 2 ^ (M - out w order M i)) order ≤ lsum (fun _ => 2 ^ M) order := lsum_le fun i _ => by
    have := (powers _ (fun j => take_count hd (c j) i) (M - 1)).1
    rw [show M - 1 + 1 = M by omega] at this
    rw [c3]
    exact this
  rw [lsum_add, ← e1, c2, lsum_const] at e2
  obtain ⟨k, rfl⟩ : ∃ k, M = k + 1 := ⟨M - 1, by omega⟩
  rw [Nat.add_sub_cancel] at e2
  have hp : 2 ^ (k + 1) = 2 * 2 ^ k := by rw [Nat.pow_succ]; omega
  rw [Nat.sub_mul, hp, show order.length * (2 * 2 ^ k) = 2 * order.length * 2 ^ k by rw [Nat.mul_comm 2 order.length, Nat.mul_assoc]] at e2
  have h3 : 2 * 2 ^ k ≤ 2 * order.length * 2 ^ k := Nat.mul_le_mul_right _ (by omega)
  rw [hp]
  omega

theorem out_cost (hd : order.Nodup) (hM : 1 ≤ M) (hn : order.length ≤ 2 ^ M) : lsum (fun i => out w order M i * w i) order = pre (rounds (baseOf w order) (M - 1)) (2 * order.length - 2) := by
  obtain ⟨c, _, _, _, c4⟩ := out_counts (w := w) hM hn
  rw [fair_pre (fair_rounds (base_fair w order) _), count_sum hd w _ c4]
  rfl

/-! ### No others cost less -/

theorem pre_tail {x : Coin} {l : List Coin} (hs : Sorted (x :: l)) {m : Nat} (h : m ≤ l.length) : pre (x :: l) m ≤ pre l m := by
  rcases m with _ | m
  · rw [pre_zero, pre_zero]; exact Nat.le_refl _
  · rw [pre_cons]
    have hl : Sorted l := (List.pairwise_cons.1 hs).2
    cases l with
    | nil => simp at h
    | cons y r =>
      have h1 := (List.pairwise_cons.1 hs).1 y (by simp)
      have h2 := pre_step hl (m := m) (by simp at h ⊢; omega)
      omega

/-- the first are worth no more than as many others -/
theorem pre_sub {l s : List Coin} (h : s.Sublist l) : Sorted l → pre l s.length ≤ worth s := by
  induction h with
  | slnil => intro _; simp [pre_zero, worth_nil]
  | cons x h ih =>
    intro hs
    have := ih (List.pairwise_cons.1 hs).2
    exact Nat.le_trans (pre_tail hs h.length_le) this
  | cons_cons x h ih =>
    intro hs
    have := ih (List.pairwise_cons.1 hs).2
    rw [List.length_cons, pre_cons, worth_cons]
    omega

/-- how many of the last rounds' powers make so long a word -/
theorem top_powers (l : Nat) : ∀ k, l ≤ k + 1 → jsum (fun j => (if k + 1 - j ≤ l then 1 else 0) * 2 ^ j) k + 2 ^ (k + 1 - l) = 2 ^ (k + 1) := by
  have gen : ∀ K k, k ≤ K → l ≤ K + 1 → jsum (fun j => (if K + 1 - j ≤ l then 1 else 0) * 2 ^ j) k + (if K + 1 - k ≤ l then 2 ^ (K + 1 - l) else 2 ^ (k + 1)) = 2 ^ (k + 1) := by
    intro K k
    induction k with
    | zero =>
      intro _ hl
      simp only [jsum]
      by_cases e : K + 1 - 0 ≤ l
      · rw [if_pos e, if_pos e, show K + 1 - l = 0 by omega]
      · rw [if_neg e, if_neg e]
    | succ k ih =>
      intro hk hl
      have ih' := ih (by omega) hl
      have hp : 2 ^ (k + 1 + 1) = 2 * 2 ^ (k + 1) := by rw [Nat.pow_succ]; omega
      rw [jsum]
      by_cases e : K + 1 - (k + 1) ≤ l
      · rw [if_pos e, if_pos e, Nat.one_mul, hp]
        by_cases e2 : K + 1 - k ≤ l
        · rw [if_pos e2] at ih'; omega
        · rw [if_neg e2] at ih'
          rw [show K + 1 - l = k + 1 by omega]
          omega
      · rw [if_neg e, if_neg e, Nat.zero_mul, hp]
        rw [if_neg (by omega)] at ih'
        omega
  intro k hl
  have := gen k k (Nat.le_refl _) hl
  by_cases e : k + 1 - k ≤ l
  · rw [if_pos e] at this; exact this
  · rw [if_neg e] at this
    obtain rfl : l = 0 := by omega
    exact this

theorem top_count (l : Nat) : ∀ k, l ≤ k + 1 → jsum (fun j => if k + 1 - j ≤ l then 1 else 0) k = l := by
  have gen : ∀ K k, k ≤ K → jsum (fun j => if K + 1 - j ≤ l then 1 else 0) k = k + 1 - (K + 1 - l) := by
    intro K k
    induction k with
    | zero =>
      intro _
      simp only [jsum]
      by_cases e : K + 1 - 0 ≤ l
      · rw [if_pos e]; omega
      · rw [if_neg e]; omega
    | succ k ih =>
      intro hk
      rw [jsum, ih (by omega)]
      by_cases e : K + 1 - (k + 1) ≤ l
      · rw [if_pos e]; omega
      · rw [if_neg e]; omega
  intro k hl
  rw [gen k k (Nat.le_refl _)]; omega

theorem lsum_mul (f : Nat → Nat) (c : Nat) (L : List Nat) : lsum (fun i => f i * c) L = lsum f L * c := by
  induction L with
  | nil => simp [lsum_nil]
  | cons x r ih => rw [lsum_cons, lsum_cons, ih, Nat.add_mul]

theorem jsum_mul (f : Nat → Nat) (c : Nat) : ∀ k, jsum (fun j => f j * c) k = jsum f k * c
  | 0 => rfl
  | k + 1 => by rw [jsum, jsum, jsum_mul f c k, Nat.add_mul]

theorem filter_lsum (p : Nat → Bool) (w : Nat → Nat) (L : List Nat) : ((L.filter p).map w).sum = lsum (fun i => (if p i = true then 1 else 0) * w i) L := by
  induction L with
  | nil => rfl
  | cons x r ih =>
    rw [lsum_cons]
    by_cases e : p x = true
    · rw [List.filter_cons_of_pos e, List.map_cons, List.sum_cons, ih, if_pos e]; omega
    · rw [List.filter_cons_of_neg e, ih, if_neg e]; omega

/-- any lengths that are not over-full cost at least as much -/
theorem other_cost (hs : Sorted (baseOf w order)) (hM : 1 ≤ M) (l : Nat → Nat) (hl : ∀ i ∈ order, l i ≤ M) (hk : lsum (fun i => 2 ^ (M - l i)) order ≤ 2 ^ M) :
    pre (rounds (baseOf w order) (M - 1)) (2 * order.length - 2) ≤ lsum (fun i => l i * w i) order := by
  obtain ⟨k, rfl⟩ : ∃ k, M = k + 1 := ⟨M - 1, by omega⟩
  rw [Nat.add_sub_cancel]
  have hc : ∀ j, (order.filter (fun i => decide (k + 1 - j ≤ l i))).length ≤ (baseOf w order).length := fun j => by rw [base_length]; exact List.length_filter_le _ _
  have hwide : wide (fun j => (order.filter (fun i => decide (k + 1 - j ≤ l i))).length) k = lsum (fun i => jsum (fun j => (if k + 1 - j ≤ l i then 1 else 0) * 2 ^ j) k) order := by
    rw [wide_jsum, ← jsum_lsum]
    refine jsum_congr _ (fun j _ => ?_)
    have := filter_lsum (fun i => decide (k + 1 - j ≤ l i)) (fun _ => 2 ^ j) order
    simp only [decide_eq_true_eq] at this
    rw [← this]
    have h3 := lsum_const (2 ^ j) (order.filter (fun i => decide (k + 1 - j ≤ l i)))
    exact h3.symm
  have hw2 : (2 * order.length - 2) * 2 ^ k ≤ wide (fun j => (order.filter (fun i => decide (k + 1 - j ≤ l i))).length) k := by
    have e : lsum (fun i => jsum (fun j => (if k + 1 - j ≤ l i then 1 else 0) * 2 ^ j) k + 2 ^ (k + 1 - l i)) order = lsum (fun _ => 2 ^ (k + 1)) order := lsum_congr fun i hi => top_powers (l i) k (hl i hi)
    rw [lsum_add, ← hwide, lsum_const] at e
    have hp : 2 ^ (k + 1) = 2 * 2 ^ k := by rw [Nat.pow_succ]; omega
    rw [hp, show order.length * (2 * 2 ^ k) = 2 * order.length * 2 ^ k by rw [Nat.mul_comm 2 order.length, Nat.mul_assoc]] at e
    rw [hp] at hk
    rw [Nat.sub_mul]
    omega
  refine Nat.le_trans (best hs _ hc k _ hw2) ?_
  rw [price_jsum]
  have e : lsum (fun i => l i * w i) order = jsum (fun j => lsum (fun i => (if k + 1 - j ≤ l i then 1 else 0) * w i) order) k := by
    rw [jsum_lsum]
    refine lsum_congr fun i hi => ?_
    rw [jsum_mul, top_count (l i) k (hl i hi)]
  rw [e]
  refine jsum_le _ (fun j _ => ?_)
  have hf := filter_lsum (fun i => decide (k + 1 - j ≤ l i)) w order
  simp only [decide_eq_true_eq] at hf
  rw [← hf]
  have hsub : (baseOf w (order.filter (fun i => decide (k + 1 - j ≤ l i)))).Sublist (baseOf w order) := (List.filter_sublist).map _
  have := pre_sub hsub hs
  rw [base_length] at this
  refine Nat.le_trans this (Nat.le_of_eq ?_)
  simp [worth, baseOf, List.map_map, Function.comp_def]

/-! ### They are full -/

theorem lsum_change {f g : Nat → Nat} {i : Nat} : ∀ {L : List Nat}, L.Nodup → i ∈ L → lsum (fun x => if x = i then g x else f x) L + f i = lsum f L + g i
  | [], _, h => by simp at h
  | y :: r, hd, h => by
    have hd' := List.nodup_cons.1 hd
    rw [lsum_cons, lsum_cons]
    by_cases e : y = i
    · subst e
      rw [if_pos rfl, lsum_congr (f := fun x => if x = y then g x else f x) (g := f) (fun x hx => if_neg (fun e : x = y => hd'.1 (by rw [← e]; exact hx)))]
      omega
    · rw [if_neg e]
      have := lsum_change (f := f) (g := g) hd'.2 (show i ∈ r by rcases List.mem_cons.1 h with h | h; exact absurd h.symm e; exact h)
      omega

theorem lsum_more {f : Nat → Nat} (hf : ∀ x, 1 ≤ f x) {i : Nat} : ∀ {L : List Nat}, i ∈ L → f i + (L.length - 1) ≤ lsum f L
  | [], h => by simp at h
  | y :: r, h => by
    rw [lsum_cons, List.length_cons, Nat.add_sub_cancel]
    have hr : r.length ≤ lsum f r := by
      have := lsum_le (L := r) (f := fun _ => 1) (g := f) (fun x _ => hf x)
      rw [lsum_const] at this
      omega
    rcases List.mem_cons.1 h with rfl | h
    · omega
    · have := lsum_more hf h
      have h1 := hf y
      have h3 : 0 < r.length := List.length_pos_of_mem h
      omega

theorem greatest (f : Nat → Nat) : ∀ {L : List Nat}, L ≠ [] → ∃ i, i ∈ L ∧ ∀ x ∈ L, f x ≤ f i
  | [], h => absurd rfl h
  | [y], _ => ⟨y, by simp, fun x hx => by simp at hx; subst hx; exact Nat.le_refl _⟩
  | y :: z :: r, _ => by
    obtain ⟨i, h1, h2⟩ := greatest f (L := z :: r) (by simp)
    by_cases e : f y ≤ f i
    · exact ⟨i, List.mem_cons_of_mem _ h1, fun x hx => by rcases List.mem_cons.1 hx with rfl | hx; exact e; exact h2 x hx⟩
    · exact ⟨y, by simp, fun x hx => by rcases List.mem_cons.1 hx with rfl | hx; exact Nat.le_refl _; have := h2 x hx; omega⟩

theorem lsum_dvd {f : Nat → Nat} {d : Nat} : ∀ {L : List Nat}, (∀ x ∈ L, d ∣ f x) → d ∣ lsum f L
  | [], _ => by rw [lsum_nil]; exact Nat.dvd_zero d
  | y :: r, h => by rw [lsum_cons]; exact Nat.dvd_add (h y (by simp)) (lsum_dvd fun x hx => h x (by simp [hx]))

theorem out_pos (hd : order.Nodup) (hM : 1 ≤ M) (hn : order.length ≤ 2 ^ M) (h2 : 2 ≤ order.length) {i : Nat} (hi : i ∈ order) : 1 ≤ out w order M i := by
  have hk := out_kraft (w := w) hd hM hn h2
  rcases Nat.eq_zero_or_pos (out w order M i) with e | e
  · have := lsum_more (f := fun i => 2 ^ (M - out w order M i)) (fun x => Nat.two_pow_pos _) hi
    simp only [e, Nat.sub_zero] at this
    omega
  · exact e

theorem out_full (hs : Sorted (baseOf w order)) (hd : order.Nodup) (hw : ∀ i ∈ order, 0 < w i) (hM : 1 ≤ M) (hn : order.length ≤ 2 ^ M) (h2 : 2 ≤ order.length) : lsum (fun i => 2 ^ (M - out w order M i)) order = 2 ^ M := by
  have hk := out_kraft (w := w) hd hM hn h2
  rcases Nat.lt_or_ge (lsum (fun i => 2 ^ (M - out w order M i)) order) (2 ^ M) with hlt | hge
  · exfalso
    obtain ⟨i, hi, hmax⟩ := greatest (out w order M) (L := order) (by intro e; rw [e] at h2; simp at h2)
    have hp := out_pos (w := w) hd hM hn h2 hi
    have hle := out_le (w := w) hd hM hn i
    obtain ⟨T, hT⟩ : ∃ T, T = out w order M i := ⟨_, rfl⟩
    -- all are multiples of the least one
    have hdv : 2 ^ (M - T) ∣ lsum (fun i => 2 ^ (M - out w order M i)) order := lsum_dvd fun x hx => Nat.pow_dvd_pow 2 (by have := hmax x hx; omega)
    have hdv2 : 2 ^ (M - T) ∣ 2 ^ M := Nat.pow_dvd_pow 2 (by omega)
    have hroom : lsum (fun i => 2 ^ (M - out w order M i)) order + 2 ^ (M - T) ≤ 2 ^ M := by
      obtain ⟨a, ha⟩ := hdv
      obtain ⟨b, hb⟩ := hdv2
      rw [ha, hb] at hlt ⊢
      have hab : a < b := Nat.lt_of_mul_lt_mul_left hlt
      have := Nat.mul_le_mul_left (2 ^ (M - T)) (show a + 1 ≤ b from hab)
      rw [Nat.mul_add, Nat.mul_one] at this
      exact this
    -- a shorter word there
    have hch := lsum_change (f := fun x => 2 ^ (M - out w order M x)) (g := fun x => 2 ^ (M - (out w order M x - 1))) hd hi
    have hk2 : lsum (fun x => 2 ^ (M - (if x = i then out w order M x - 1 else out w order M x))) order ≤ 2 ^ M := by
      have e : lsum (fun x => 2 ^ (M - (if x = i then out w order M x - 1 else out w order M x))) order = lsum (fun x => if x = i then 2 ^ (M - (out w order M x - 1)) else 2 ^ (M - out w order M x)) order := lsum_congr fun x _ => by
        by_cases e : x = i
        · rw [if_pos e, if_pos e]
        · rw [if_neg e, if_neg e]
      rw [e]
      simp only [← hT] at hch hp hle
      have hpw : 2 ^ (M - (T - 1)) = 2 * 2 ^ (M - T) := by rw [show M - (T - 1) = (M - T) + 1 by omega, Nat.pow_succ]; omega
      rw [hpw] at hch
      omega
    have hco := other_cost hs hM (fun x => if x = i then out w order M x - 1 else out w order M x) (fun x hx => by
      have := out_le (w := w) hd hM hn x
      by_cases e : x = i
      · simp only [if_pos e]; omega
      · simp only [if_neg e]; exact this) hk2
    rw [← out_cost hd hM hn] at hco
    have hch2 := lsum_change (f := fun x => out w order M x * w x) (g := fun x => (out w order M x - 1) * w x) hd hi
    have e2 : lsum (fun x => (if x = i then out w order M x - 1 else out w order M x) * w x) order = lsum (fun x => if x = i then (out w order M x - 1) * w x else out w order M x * w x) order := lsum_congr fun x _ => by
      by_cases e : x = i
      · rw [if_pos e, if_pos e]
      · rw [if_neg e, if_neg e]
    rw [e2] at hco
    have hwi := hw i hi
    have hmul : out w order M i * w i = (out w order M i - 1) * w i + w i := by
      have : out w order M i = (out w order M i - 1) + 1 := by omega
      rw [this, Nat.add_mul, Nat.one_mul, Nat.add_sub_cancel]
    omega
  · omega

/-- none that is not over-full costs less -/
theorem out_best (hs : Sorted (baseOf w order)) (hd : order.Nodup) (hM : 1 ≤ M) (hn : order.length ≤ 2 ^ M) (l : Nat → Nat) (hl : ∀ i ∈ order, l i ≤ M) (hk : lsum (fun i => 2 ^ (M - l i)) order ≤ 2 ^ M) :
    lsum (fun i => out w order M i * w i) order ≤ lsum (fun i => l i * w i) order := by
  rw [out_cost hd hM hn]
  exact other_cost hs hM l hl hk

theorem kraft_more {l : Nat → Nat} {L : List Nat} (hl : ∀ i ∈ L, l i ≤ M) (d : Nat) : lsum (fun i => 2 ^ (M + d - l i)) L = lsum (fun i => 2 ^ (M - l i)) L * 2 ^ d := by
  rw [← lsum_mul]
  refine lsum_congr fun i hi => ?_
  have := hl i hi
  rw [← Nat.pow_add]
  congr 1
  omega

/-- longer words that may be never make a code that costs more -/
theorem out_more (hs : Sorted (baseOf w order)) (hd : order.Nodup) (hM : 1 ≤ M) (hn : order.length ≤ 2 ^ M) (h2 : 2 ≤ order.length) :
    lsum (fun i => out w order (M + 1) i * w i) order ≤ lsum (fun i => out w order M i * w i) order := by
  have hp : 2 ^ (M + 1) = 2 ^ M * 2 := Nat.pow_succ 2 M
  refine out_best hs hd (by omega) (by omega) _ (fun i _ => Nat.le_succ_of_le (out_le hd hM hn i)) ?_
  rw [kraft_more (fun i _ => out_le hd hM hn i) 1, hp]
  have := out_kraft (w := w) hd hM hn h2
  omega

/-- by 2^20, as the sums are told -/
theorem kraft_twenty {l : Nat → Nat} {L : List Nat} (hM : M ≤ 20) (hl : ∀ i ∈ L, l i ≤ M) (h : lsum (fun i => 2 ^ (20 - l i)) L ≤ 1048576) : lsum (fun i => 2 ^ (M - l i)) L ≤ 2 ^ M := by
  have e := kraft_more hl (20 - M)
  rw [show M + (20 - M) = 20 by omega] at e
  rw [e, show 1048576 = 2 ^ M * 2 ^ (20 - M) by rw [← Nat.pow_add, show M + (20 - M) = 20 by omega]] at h
  exact Nat.le_of_mul_le_mul_right h (Nat.two_pow_pos _)

end

end Go.Proofs.Ytdpbjeajipggbaa.Merge
