/- Packages of coins: the best code of words that are not too long. (For stage 5; it names no program.) -/
import Derived.KernelRfl
namespace Go.Proofs.Ytdpbjeajipggbaa.Merge

abbrev Coin := Nat × List Nat

def pack : List Coin → List Coin
  | a :: b :: r => (a.1 + b.1, a.2 ++ b.2) :: pack r
  | _ => []

/-- merged by what they are worth: of equal worth the first list's first -/
def mrg : List Coin → List Coin → List Coin
  | [], ps => ps
  | bs, [] => bs
  | b :: bs, p :: ps => if p.1 < b.1 then p :: mrg (b :: bs) ps else b :: mrg bs (p :: ps)
termination_by a b => a.length + b.length

/-- the coins of round k + 1 -/
def rounds (base : List Coin) : Nat → List Coin
  | 0 => base
  | k + 1 => mrg base (pack (rounds base k))

def worth (l : List Coin) : Nat := (l.map Prod.fst).sum
/-- what the first m are worth -/
def pre (l : List Coin) (m : Nat) : Nat := worth (l.take m)
def Sorted (l : List Coin) : Prop := l.Pairwise fun a b => a.1 ≤ b.1

theorem worth_nil : worth [] = 0 := rfl
theorem worth_cons (a : Coin) (l : List Coin) : worth (a :: l) = a.1 + worth l := by simp [worth]
theorem worth_append (a b : List Coin) : worth (a ++ b) = worth a + worth b := by simp [worth]

theorem pre_zero (l : List Coin) : pre l 0 = 0 := by simp [pre, worth]
theorem pre_cons (a : Coin) (l : List Coin) (m : Nat) : pre (a :: l) (m + 1) = a.1 + pre l m := by simp [pre, worth]
theorem pre_nil (m : Nat) : pre [] m = 0 := by simp [pre, worth]

theorem pre_mono (l : List Coin) : ∀ {a b : Nat}, a ≤ b → pre l a ≤ pre l b := by
  induction l with
  | nil => intro a b _; simp [pre_nil]
  | cons x r ih =>
    intro a b h
    rcases a with _ | a
    · rw [pre_zero]; omega
    · rcases b with _ | b
      · omega
      · rw [pre_cons, pre_cons]
        have := ih (show a ≤ b by omega)
        omega

/-- one more of a sorted list is worth at least what its first is -/
theorem pre_step {x : Coin} {l : List Coin} (hs : Sorted (x :: l)) : ∀ {m : Nat}, m < l.length + 1 → pre (x :: l) m + x.1 ≤ pre (x :: l) (m + 1) := by
  induction l generalizing x with
  | nil => intro m h; obtain rfl : m = 0 := by simp at h; omega
           rw [pre_zero, pre_cons, pre_zero]; omega
  | cons y r ih =>
    intro m h
    rcases m with _ | m
    · rw [pre_zero, pre_cons, pre_zero]; omega
    · rw [pre_cons, pre_cons]
      have hs' : Sorted (y :: r) := (List.pairwise_cons.1 hs).2
      have hxy : x.1 ≤ y.1 := (List.pairwise_cons.1 hs).1 y (by simp)
      have := ih hs' (m := m) (by simp at h ⊢; omega)
      omega

theorem mrg_nil_left (ps : List Coin) : mrg [] ps = ps := by unfold mrg; rfl
theorem mrg_nil_right (bs : List Coin) : mrg bs [] = bs := by
  cases bs <;> simp [mrg]

theorem mrg_length : ∀ (a b : List Coin), (mrg a b).length = a.length + b.length
  | [], ps => by rw [mrg_nil_left]; simp
  | b :: bs, [] => by rw [mrg_nil_right]; simp
  | b :: bs, p :: ps => by
    rw [mrg]
    split
    · rw [List.length_cons, mrg_length (b :: bs) ps]; simp only [List.length_cons]; omega
    · rw [List.length_cons, mrg_length bs (p :: ps)]; simp only [List.length_cons]; omega
termination_by a b => a.length + b.length

/-- the first of merged lists are worth no more than any firsts of both -/
theorem mrg_pre : ∀ (A B : List Coin), Sorted A → Sorted B → ∀ a b, a ≤ A.length → b ≤ B.length → pre (mrg A B) (a + b) ≤ pre A a + pre B b
  | [], B, _, _, a, b, ha, _ => by
    obtain rfl : a = 0 := by simpa using ha
    rw [mrg_nil_left, pre_nil, Nat.zero_add, Nat.zero_add]; exact Nat.le_refl _
  | x :: A, [], _, _, a, b, _, hb => by
    obtain rfl : b = 0 := by simpa using hb
    rw [mrg_nil_right, pre_nil, Nat.add_zero, Nat.add_zero]; exact Nat.le_refl _
  | x :: A, y :: B, hA, hB, a, b, ha, hb => by
    have hA' : Sorted A := (List.pairwise_cons.1 hA).2
    have hB' : Sorted B := (List.pairwise_cons.1 hB).2
    rw [mrg]
    split
    · rename_i hlt
      rcases b with _ | b
      · rcases a with _ | a
        · rw [Nat.add_zero, pre_zero]; omega
        · have ih := mrg_pre (x :: A) B hA hB' a 0 (by omega) (by omega)
          have st := pre_step hA (m := a) (by simp at ha ⊢; omega)
          rw [Nat.add_zero, pre_cons, pre_zero]
          rw [Nat.add_zero, pre_zero] at ih
          omega
      · have ih := mrg_pre (x :: A) B hA hB' a b ha (by simp at hb; omega)
        rw [← Nat.add_assoc, pre_cons, pre_cons]
        omega
    · rename_i hge
      rcases a with _ | a
      · rcases b with _ | b
        · rw [Nat.add_zero, pre_zero]; omega
        · have ih := mrg_pre A (y :: B) hA' hB 0 b (by omega) (by omega)
          have st := pre_step hB (m := b) (by simp at hb ⊢; omega)
          rw [Nat.zero_add, pre_cons, pre_zero]
          rw [Nat.zero_add, pre_zero] at ih
          omega
      · have ih := mrg_pre A (y :: B) hA' hB a b (by simp at ha; omega) hb
        rw [show a + 1 + b = (a + b) + 1 by omega, pre_cons, pre_cons]
        omega
termination_by A B => A.length + B.length

theorem pack_length : ∀ l : List Coin, (pack l).length = l.length / 2
  | [] => by simp [pack]
  | [_] => by simp [pack]
  | a :: b :: r => by rw [pack, List.length_cons, pack_length r]; simp only [List.length_cons]; omega

theorem pack_pre : ∀ (l : List Coin) (p : Nat), 2 * p ≤ l.length → pre (pack l) p = pre l (2 * p)
  | _, 0, _ => by rw [pre_zero, Nat.mul_zero, pre_zero]
  | [], p + 1, h => by simp at h
  | [_], p + 1, h => by simp at h; omega
  | a :: b :: r, p + 1, h => by
    rw [pack, pre_cons, show 2 * (p + 1) = (2 * p + 1) + 1 by omega, pre_cons, pre_cons, pack_pre r p (by simp at h; omega)]
    omega

theorem mem_mrg {x : Coin} : ∀ (A B : List Coin), x ∈ mrg A B → x ∈ A ∨ x ∈ B
  | [], B, h => by rw [mrg_nil_left] at h; exact .inr h
  | a :: A, [], h => by rw [mrg_nil_right] at h; exact .inl h
  | a :: A, b :: B, h => by
    rw [mrg] at h
    split at h
    · rcases List.mem_cons.1 h with rfl | h
      · exact .inr (by simp)
      · rcases mem_mrg (a :: A) B h with h | h
        · exact .inl h
        · exact .inr (List.mem_cons_of_mem _ h)
    · rcases List.mem_cons.1 h with rfl | h
      · exact .inl (by simp)
      · rcases mem_mrg A (b :: B) h with h | h
        · exact .inl (List.mem_cons_of_mem _ h)
        · exact .inr h
termination_by A B => A.length + B.length

theorem mrg_sorted : ∀ (A B : List Coin), Sorted A → Sorted B → Sorted (mrg A B)
  | [], B, _, h => by rw [mrg_nil_left]; exact h
  | a :: A, [], h, _ => by rw [mrg_nil_right]; exact h
  | a :: A, b :: B, hA, hB => by
    have hA' := List.pairwise_cons.1 hA
    have hB' := List.pairwise_cons.1 hB
    rw [mrg]
    split
    · rename_i hlt
      refine List.pairwise_cons.2 ⟨fun x hx => ?_, mrg_sorted (a :: A) B hA hB'.2⟩
      rcases mem_mrg _ _ hx with h | h
      · rcases List.mem_cons.1 h with rfl | h
        · omega
        · have := hA'.1 x h; omega
      · exact hB'.1 x h
    · rename_i hge
      refine List.pairwise_cons.2 ⟨fun x hx => ?_, mrg_sorted A (b :: B) hA'.2 hB⟩
      rcases mem_mrg _ _ hx with h | h
      · exact hA'.1 x h
      · rcases List.mem_cons.1 h with rfl | h
        · omega
        · have := hB'.1 x h; omega
termination_by A B => A.length + B.length

theorem pack_ge {m : Nat} : ∀ (l : List Coin), (∀ x ∈ l, m ≤ x.1) → ∀ x ∈ pack l, m + m ≤ x.1
  | [], _, x, h => by simp [pack] at h
  | [_], _, x, h => by simp [pack] at h
  | a :: b :: r, hl, x, h => by
    rw [pack] at h
    rcases List.mem_cons.1 h with rfl | h
    · have h1 := hl a (by simp)
      have h2 := hl b (by simp)
      show m + m ≤ a.1 + b.1
      omega
    · exact pack_ge r (fun y hy => hl y (by simp [hy])) x h

theorem pack_sorted : ∀ (l : List Coin), Sorted l → Sorted (pack l)
  | [], _ => by simp [pack, Sorted]
  | [_], _ => by simp [pack, Sorted]
  | a :: b :: r, h => by
    rw [pack]
    have h1 := List.pairwise_cons.1 h
    have h2 := List.pairwise_cons.1 h1.2
    refine List.pairwise_cons.2 ⟨fun x hx => ?_, pack_sorted r h2.2⟩
    have h3 := pack_ge (m := b.1) r (fun y hy => h2.1 y hy) x hx
    have h4 := h1.1 b (by simp)
    show a.1 + b.1 ≤ x.1
    omega

theorem rounds_sorted {base : List Coin} (h : Sorted base) : ∀ k, Sorted (rounds base k)
  | 0 => h
  | k + 1 => mrg_sorted _ _ h (pack_sorted _ (rounds_sorted h k))

/-! ### No choice of coins is worth less -/

/-- how wide the coins are, counted in those of the first round -/
def wide (c : Nat → Nat) : Nat → Nat
  | 0 => c 0
  | k + 1 => wide c k + c (k + 1) * 2 ^ (k + 1)

/-- what the cheapest of so many are worth -/
def price (base : List Coin) (c : Nat → Nat) : Nat → Nat
  | 0 => pre base (c 0)
  | k + 1 => price base c k + pre base (c (k + 1))

theorem wide_lt (base : List Coin) (c : Nat → Nat) (hc : ∀ j, c j ≤ base.length) : ∀ k, wide c k < ((rounds base k).length + 1) * 2 ^ k
  | 0 => by have := hc 0; simp [wide, rounds]; omega
  | k + 1 => by
    have ih := wide_lt base c hc k
    have h1 := hc (k + 1)
    rw [wide, rounds, mrg_length, pack_length, Nat.pow_succ]
    generalize (rounds base k).length = n at ih ⊢
    have h2 : (n + 1) * 2 ^ k ≤ (n / 2 + 1) * (2 ^ k * 2) := by
      rw [show (n / 2 + 1) * (2 ^ k * 2) = (2 * (n / 2) + 2) * 2 ^ k by rw [Nat.mul_comm (2 ^ k) 2, ← Nat.mul_assoc]; congr 1; omega]
      exact Nat.mul_le_mul_right _ (by omega)
    have h3 : c (k + 1) * (2 ^ k * 2) ≤ base.length * (2 ^ k * 2) := Nat.mul_le_mul_right _ h1
    rw [show (base.length + n / 2 + 1) * (2 ^ k * 2) = base.length * (2 ^ k * 2) + (n / 2 + 1) * (2 ^ k * 2) by rw [← Nat.add_mul, Nat.add_assoc]]
    omega

theorem best {base : List Coin} (hs : Sorted base) (c : Nat → Nat) (hc : ∀ j, c j ≤ base.length) : ∀ k m, m * 2 ^ k ≤ wide c k → pre (rounds base k) m ≤ price base c k
  | 0, m, h => by
    simp only [wide, Nat.pow_zero, Nat.mul_one] at h
    exact pre_mono _ h
  | k + 1, m, h => by
    have hw := wide_lt base c hc k
    have hp : 0 < 2 ^ k := Nat.two_pow_pos _
    obtain ⟨p, hpd⟩ : ∃ p, p = wide c k / (2 ^ k * 2) := ⟨_, rfl⟩
    have hd := Nat.div_add_mod (wide c k) (2 ^ k * 2)
    have hr := Nat.mod_lt (wide c k) (show 0 < 2 ^ k * 2 by omega)
    rw [← hpd] at hd
    have h1 : (2 * p) * 2 ^ k ≤ wide c k := by
      rw [show 2 * p * 2 ^ k = 2 ^ k * 2 * p by rw [Nat.mul_comm 2 p, Nat.mul_assoc, Nat.mul_comm p, Nat.mul_comm 2]]
      omega
    have h2 : 2 * p ≤ (rounds base k).length := by
      have : 2 * p * 2 ^ k < ((rounds base k).length + 1) * 2 ^ k := Nat.lt_of_le_of_lt h1 hw
      have := Nat.lt_of_mul_lt_mul_right this
      omega
    have h3 : m ≤ c (k + 1) + p := by
      rw [wide, Nat.pow_succ] at h
      have h4 : m * (2 ^ k * 2) < (c (k + 1) + p + 1) * (2 ^ k * 2) := by
        rw [show (c (k + 1) + p + 1) * (2 ^ k * 2) = c (k + 1) * (2 ^ k * 2) + 2 ^ k * 2 * p + 2 ^ k * 2 by rw [Nat.add_mul, Nat.add_mul, Nat.one_mul, Nat.mul_comm p]]
        omega
      have := Nat.lt_of_mul_lt_mul_right h4
      omega
    have ih := best hs c hc k (2 * p) h1
    rw [← pack_pre _ p h2] at ih
    have hm := mrg_pre base (pack (rounds base k)) hs (pack_sorted _ (rounds_sorted hs k)) (c (k + 1)) p (hc _) (by rw [pack_length]; omega)
    have hmo := pre_mono (mrg base (pack (rounds base k))) h3
    rw [rounds, price]
    omega

/-! ### What is chosen -/

/-- all symbols of coins -/
def syms (l : List Coin) : List Nat := l.flatMap Prod.snd

theorem syms_append (a b : List Coin) : syms (a ++ b) = syms a ++ syms b := by simp [syms]
theorem syms_cons (a : Coin) (l : List Coin) : syms (a :: l) = a.2 ++ syms l := by simp [syms]

theorem pack_syms : ∀ (l : List Coin) (p : Nat), 2 * p ≤ l.length → syms ((pack l).take p) = syms (l.take (2 * p))
  | _, 0, _ => by simp [syms]
  | [], p + 1, h => by simp at h
  | [_], p + 1, h => by simp at h; omega
  | a :: b :: r, p + 1, h => by
    rw [pack, List.take_succ_cons, show 2 * (p + 1) = (2 * p + 1) + 1 by omega, List.take_succ_cons, List.take_succ_cons, syms_cons, syms_cons, syms_cons, pack_syms r p (by simp at h; omega), List.append_assoc]

/-- the first m of merged lists are firsts of both -/
theorem mrg_take : ∀ (A B : List Coin) (m : Nat), m ≤ A.length + B.length → ∃ a b, a + b = m ∧ a ≤ A.length ∧ b ≤ B.length ∧ ((mrg A B).take m).Perm (A.take a ++ B.take b)
  | A, B, 0, _ => ⟨0, 0, rfl, by omega, by omega, by simp⟩
  | [], B, m + 1, h => ⟨0, m + 1, by omega, by omega, by simpa using h, by rw [mrg_nil_left]; simp⟩
  | x :: A, [], m + 1, h => ⟨m + 1, 0, by omega, by simpa using h, by omega, by rw [mrg_nil_right]; simp⟩
  | x :: A, y :: B, m + 1, h => by
    rw [mrg]
    split
    · obtain ⟨a, b, h1, h2, h3, h4⟩ := mrg_take (x :: A) B m (by simp at h ⊢; omega)
      refine ⟨a, b + 1, by omega, h2, by simpa using h3, ?_⟩
      rw [List.take_succ_cons, List.take_succ_cons]
      exact (h4.cons y).trans List.perm_middle.symm
    · obtain ⟨a, b, h1, h2, h3, h4⟩ := mrg_take A (y :: B) m (by simp at h ⊢; omega)
      refine ⟨a + 1, b, by omega, by simpa using h2, h3, ?_⟩
      rw [List.take_succ_cons, List.take_succ_cons, List.cons_append]
      exact h4.cons x
termination_by A B => A.length + B.length

/-- the symbols of what is chosen, round by round -/
def chosen (base : List Coin) (c : Nat → Nat) : Nat → List Nat
  | 0 => syms (base.take (c 0))
  | k + 1 => chosen base c k ++ syms (base.take (c (k + 1)))

theorem chosen_congr {base : List Coin} {c d : Nat → Nat} : ∀ k, (∀ j, j ≤ k → c j = d j) → chosen base c k = chosen base d k
  | 0, h => by rw [chosen, chosen, h 0 (Nat.le_refl _)]
  | k + 1, h => by rw [chosen, chosen, chosen_congr k (fun j hj => h j (by omega)), h (k + 1) (Nat.le_refl _)]

theorem wide_congr {c d : Nat → Nat} : ∀ k, (∀ j, j ≤ k → c j = d j) → wide c k = wide d k
  | 0, h => by rw [wide, wide, h 0 (Nat.le_refl _)]
  | k + 1, h => by rw [wide, wide, wide_congr k (fun j hj => h j (by omega)), h (k + 1) (Nat.le_refl _)]

theorem pieces (base : List Coin) : ∀ k m, m ≤ (rounds base k).length → ∃ c : Nat → Nat, (∀ j, c j ≤ base.length) ∧ wide c k = m * 2 ^ k ∧ (syms ((rounds base k).take m)).Perm (chosen base c k)
  | 0, m, h => ⟨fun j => if j = 0 then m else 0, fun j => by
      by_cases e : j = 0
      · simp only [if_pos e]; exact h
      · simp only [if_neg e]; omega, by simp [wide], by simp [chosen, rounds]⟩
  | k + 1, m, h => by
    rw [rounds] at h ⊢
    rw [mrg_length] at h
    obtain ⟨a, b, h1, h2, h3, h4⟩ := mrg_take base (pack (rounds base k)) m h
    rw [pack_length] at h3
    obtain ⟨c, c1, c2, c3⟩ := pieces base k (2 * b) (by omega)
    refine ⟨fun j => if j = k + 1 then a else c j, fun j => ?_, ?_, ?_⟩
    · by_cases e : j = k + 1
      · simp only [if_pos e]; exact h2
      · simp only [if_neg e]; exact c1 j
    · rw [wide, wide_congr (d := c) k (fun j hj => if_neg (by omega)), c2, if_pos rfl, ← h1, Nat.pow_succ, Nat.add_mul, Nat.add_comm (a * _)]
      congr 1
      rw [Nat.mul_comm 2 b, Nat.mul_assoc, Nat.mul_comm 2]
    · rw [chosen, chosen_congr (d := c) k (fun j hj => if_neg (by omega)), if_pos rfl]
      have hp : (syms ((mrg base (pack (rounds base k))).take m)).Perm (syms (base.take a ++ (pack (rounds base k)).take b)) := List.Perm.flatMap_right _ h4
      rw [syms_append, pack_syms _ b (by omega)] at hp
      exact hp.trans (List.perm_append_comm.trans (c3.append_right _))

/-! ### Worth by symbols -/

/-- each coin is worth its symbols -/
def Fair (w : Nat → Nat) (l : List Coin) : Prop := ∀ x ∈ l, x.1 = (x.2.map w).sum

theorem fair_worth {w : Nat → Nat} {l : List Coin} (h : Fair w l) : worth l = ((syms l).map w).sum := by
  induction l with
  | nil => rfl
  | cons x r ih =>
    rw [worth_cons, syms_cons, List.map_append, List.sum_append, ← ih (fun y hy => h y (by simp [hy])), h x (by simp)]

theorem fair_pack {w : Nat → Nat} : ∀ {l : List Coin}, Fair w l → Fair w (pack l)
  | [], _ => by simp [pack, Fair]
  | [_], _ => by simp [pack, Fair]
  | a :: b :: r, h => by
    rw [pack]
    intro x hx
    rcases List.mem_cons.1 hx with rfl | hx
    · show a.1 + b.1 = ((a.2 ++ b.2).map w).sum
      rw [h a (by simp), h b (by simp), List.map_append, List.sum_append]
    · exact fair_pack (l := r) (fun y hy => h y (by simp [hy])) x hx

theorem fair_rounds {w : Nat → Nat} {base : List Coin} (h : Fair w base) : ∀ k, Fair w (rounds base k)
  | 0 => h
  | k + 1 => fun x hx => by
    rcases mem_mrg _ _ hx with hx | hx
    · exact h x hx
    · exact fair_pack (fair_rounds h k) x hx

theorem fair_pre {w : Nat → Nat} {l : List Coin} (h : Fair w l) (m : Nat) : pre l m = ((syms (l.take m)).map w).sum :=
  fair_worth (fun x hx => h x (List.mem_of_mem_take hx))

end Go.Proofs.Ytdpbjeajipggbaa.Merge
