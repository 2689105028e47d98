/- Runs written shorter, and read again: the mathematics of chapter 11. -/
namespace Go.Proofs.Ytgafabhhalhccaa.Runs
set_option linter.unusedVariables false

/-- how many of the first ones are the byte, at most so many -/
def lead (c : Nat) : Nat → List Nat → Nat
  | 0, _ => 0
  | _ + 1, [] => 0
  | m + 1, x :: l => if x = c then lead c m l + 1 else 0

theorem lead_le (c : Nat) : ∀ m l, lead c m l ≤ m ∧ lead c m l ≤ l.length
  | 0, _ => by simp [lead]
  | _ + 1, [] => by simp [lead]
  | m + 1, x :: l => by
    have := lead_le c m l
    unfold lead
    split
    · simp; omega
    · simp

theorem lead_all (c : Nat) : ∀ m l, ∀ j, j < lead c m l → l.getD j 0 = c
  | 0, _, j, h => by simp [lead] at h
  | _ + 1, [], j, h => by simp [lead] at h
  | m + 1, x :: l, j, h => by
    unfold lead at h
    split at h
    · rename_i hx
      cases j with
      | zero => simpa using hx
      | succ j => simpa using lead_all c m l j (by omega)
    · omega

theorem lead_stop (c : Nat) : ∀ m l, lead c m l < m → lead c m l < l.length → l.getD (lead c m l) 0 ≠ c
  | 0, _, h, _ => by simp [lead] at h
  | _ + 1, [], _, h => by simp at h
  | m + 1, x :: l, h1, h2 => by
    unfold lead at h1 h2 ⊢
    split at h1
    · rename_i hx
      rw [if_pos hx] at h2 ⊢
      simpa using lead_stop c m l (by omega) (by simpa using h2)
    · rename_i hx
      rw [if_neg hx]
      simpa using hx

theorem lead_is (c : Nat) : ∀ m l k, k ≤ m → k ≤ l.length → (∀ j, j < k → l.getD j 0 = c) → (k = m ∨ k = l.length ∨ l.getD k 0 ≠ c) → lead c m l = k
  | 0, _, k, h, _, _, _ => by simp [lead]; omega
  | _ + 1, [], k, _, h, _, _ => by simp at h; simp [lead, h]
  | m + 1, x :: l, k, h1, h2, h3, h4 => by
    unfold lead
    cases k with
    | zero =>
      rw [if_neg]
      intro e
      rcases h4 with h | h | h
      · omega
      · simp at h
      · exact h (by simpa using e)
    | succ k =>
      rw [if_pos (by simpa using h3 0 (by omega)), lead_is c m l k (by omega) (by simpa using h2) (fun j hj => by simpa using h3 (j + 1) (by omega)) (by
        rcases h4 with h | h | h
        · exact .inl (by omega)
        · exact .inr (.inl (by simpa using h))
        · exact .inr (.inr (by simpa using h)))]

theorem lead_take (c : Nat) (m : Nat) (l : List Nat) : l = List.replicate (lead c m l) c ++ l.drop (lead c m l) := by
  have h := lead_le c m l
  conv => lhs; rw [← List.take_append_drop (lead c m l) l]
  congr 1
  refine List.ext_getElem? fun j => ?_
  by_cases hj : j < lead c m l
  · rw [List.getElem?_take, if_pos hj, List.getElem?_replicate, if_pos hj]
    have := lead_all c m l j hj
    rw [List.getD_eq_getElem?_getD, List.getElem?_eq_getElem (by omega)] at this
    rw [List.getElem?_eq_getElem (by omega)]
    simpa using this
  · rw [List.getElem?_eq_none (by simp; omega), List.getElem?_eq_none (by simp; omega)]

/-- a run, written -/
def piece (c n : Nat) : List Nat := if n < 4 then List.replicate n c else List.replicate 4 c ++ [n - 4]

/-- a text, written shorter -/
def packG : Nat → List Nat → List Nat
  | 0, _ => []
  | _ + 1, [] => []
  | f + 1, c :: l => piece c (lead c 258 l + 1) ++ packG f (l.drop (lead c 258 l))

def packF (b : List Nat) : List Nat := packG b.length b

theorem packG_fuel : ∀ f g l, l.length ≤ f → l.length ≤ g → packG f l = packG g l
  | 0, g, l, h, _ => by
    obtain rfl : l = [] := List.eq_nil_of_length_eq_zero (by omega)
    cases g <;> rfl
  | f + 1, g, [], _, _ => by cases g <;> rfl
  | f + 1, 0, c :: l, _, h => by simp at h
  | f + 1, g + 1, c :: l, h1, h2 => by
    unfold packG
    simp at h1 h2
    rw [packG_fuel f g _ (by simp; omega) (by simp; omega)]

theorem packF_cons (c : Nat) (l : List Nat) : packF (c :: l) = piece c (lead c 258 l + 1) ++ packF (l.drop (lead c 258 l)) := by
  unfold packF
  show packG (l.length + 1) (c :: l) = _
  rw [packG, packG_fuel l.length (l.drop (lead c 258 l)).length _ (by simp) (Nat.le_refl _)]

theorem piece_len (c n : Nat) : (piece c n).length ≤ n + n / 4 := by
  unfold piece
  split
  · simp
  · simp; omega

theorem packF_len : ∀ (k : Nat) (b : List Nat), b.length ≤ k → (packF b).length ≤ b.length + b.length / 4
  | 0, b, h => by
    obtain rfl : b = [] := List.eq_nil_of_length_eq_zero (by omega)
    simp [packF, packG]
  | k + 1, [], _ => by simp [packF, packG]
  | k + 1, c :: l, h => by
    have h1 := lead_le c 258 l
    have h2 := packF_len k (l.drop (lead c 258 l)) (by simp at h ⊢; omega)
    have h3 := piece_len c (lead c 258 l + 1)
    rw [packF_cons, List.length_append]
    rw [List.length_drop] at h2
    simp only [List.length_cons] at h ⊢
    omega

/-- bytes, one by one: how many like ones came last, the last one, what has come out -/
def unp (most : Int) : List Nat → Nat → Nat → List Nat → List Nat × Nat
  | [], like, _, out => if like = 4 then ([], 10) else (out, 0)
  | c :: r, like, last, out =>
    if like = 4 then (if most - (out.length : Int) < (c : Int) then ([], 3) else unp most r 0 c (out ++ List.replicate c last))
    else if (out.length : Int) = most then ([], 3)
    else unp most r (if 0 < like ∧ c = last then like + 1 else 1) c (out ++ [c])

def unpackF (b : List Nat) (most : Int) : List Nat × Nat := if most < 0 then ([], 2) else unp most b 0 0 []

theorem unp_feed (most : Int) (c : Nat) (rest : List Nat) : ∀ (k j : Nat) (out : List Nat), 1 ≤ j → j + k ≤ 4 → (out.length : Int) + k ≤ most → unp most (List.replicate k c ++ rest) j c out = unp most rest (j + k) c (out ++ List.replicate k c)
  | 0, j, out, _, _, _ => by simp
  | k + 1, j, out, h1, h2, h3 => by
    rw [List.replicate_succ, List.cons_append, unp, if_neg (by omega), if_neg (by omega), if_pos ⟨by omega, rfl⟩, unp_feed most c rest k (j + 1) (out ++ [c]) (by omega) (by omega) (by simp; omega)]
    rw [show j + 1 + k = j + (k + 1) by omega, List.append_assoc]
    rfl

theorem unp_start (most : Int) (c : Nat) (rest : List Nat) (k like last : Nat) (out : List Nat) (hk : 1 ≤ k ∧ k ≤ 4) (hl : like < 4) (hs : like = 0 ∨ last ≠ c) (hm : (out.length : Int) + k ≤ most) : unp most (List.replicate k c ++ rest) like last out = unp most rest k c (out ++ List.replicate k c) := by
  obtain ⟨k, rfl⟩ : ∃ j, k = j + 1 := ⟨k - 1, by omega⟩
  rw [List.replicate_succ, List.cons_append, unp, if_neg (by omega), if_neg (by omega), if_neg (by rintro ⟨h1, h2⟩; rcases hs with h | h; omega; exact h h2.symm)]
  rw [unp_feed most c rest k 1 (out ++ [c]) (by omega) (by omega) (by simp; omega), show 1 + k = k + 1 by omega, List.append_assoc]
  rfl

/-- what is written shorter is read again -/
theorem unp_pack (most : Int) : ∀ (f : Nat) (l : List Nat) (like last : Nat) (out : List Nat), l.length ≤ f → like < 4 → (like = 0 ∨ ∀ c r, l = c :: r → last ≠ c) → (out.length : Int) + l.length ≤ most → unp most (packF l) like last out = (out ++ l, 0)
  | f, [], like, last, out, _, h1, _, _ => by
    show unp most [] like last out = _
    rw [unp, if_neg (by omega), List.append_nil]
  | 0, c :: l, _, _, _, h, _, _, _ => by simp at h
  | f + 1, c :: l, like, last, out, h, h1, h2, h3 => by
    have hle := lead_le c 258 l
    have hst := lead_stop c 258 l
    have hlt := lead_take c 258 l
    obtain ⟨n, hn⟩ : ∃ n, n = lead c 258 l := ⟨_, rfl⟩
    rw [packF_cons]
    rw [← hn] at hle hst hlt ⊢
    have hs : like = 0 ∨ last ≠ c := by
      rcases h2 with h2 | h2
      · exact .inl h2
      · exact .inr (h2 c l rfl)
    simp only [List.length_cons] at h h3
    have hout : out ++ (c :: l) = out ++ List.replicate (n + 1) c ++ l.drop n := by
      rw [List.append_assoc, List.replicate_succ, List.cons_append, ← hlt]
    rw [hout]
    unfold piece
    by_cases h4 : n + 1 < 4
    · rw [if_pos h4, unp_start most c _ (n + 1) like last out (by omega) h1 hs (by omega)]
      refine unp_pack most f (l.drop n) (n + 1) c _ (by simp; omega) h4 (.inr fun c' r e => ?_) (by simp; omega)
      have hlen : n < l.length := by
        have := congrArg List.length e
        simp at this
        omega
      have h5 := hst (by omega) hlen
      rw [List.drop_eq_getElem_cons hlen] at e
      injection e with e1 e2
      rw [List.getD_eq_getElem?_getD, List.getElem?_eq_getElem hlen] at h5
      rw [← e1]
      exact fun e => h5 (by simpa using e.symm)
    · rw [if_neg h4, List.append_assoc, unp_start most c _ 4 like last out (by omega) h1 hs (by omega)]
      rw [List.singleton_append, unp, if_pos rfl, if_neg (by simp; omega)]
      rw [unp_pack most f (l.drop n) 0 (n + 1 - 4) _ (by simp; omega) (by omega) (.inl rfl) (by simp; omega)]
      rw [List.append_assoc out, List.replicate_append_replicate, show 4 + (n + 1 - 4) = n + 1 by omega]

theorem unpack_pack (b : List Nat) : unpackF (packF b) (b.length : Int) = (b, 0) := by
  unfold unpackF
  rw [if_neg (by omega), unp_pack _ b.length b 0 0 [] (Nat.le_refl _) (by omega) (.inl rfl) (by simp)]
  simp

/-- the bytes that come, rising -/
def usedF (b : List Nat) : List Nat := (List.range 256).filter fun c => decide (c ∈ b)

theorem mem_used {b : List Nat} {c : Nat} : c ∈ usedF b ↔ c < 256 ∧ c ∈ b := by
  unfold usedF
  rw [List.mem_filter, List.mem_range, decide_eq_true_iff]

theorem used_sorted (b : List Nat) : (usedF b).Pairwise fun x y => x < y := (List.pairwise_lt_range (n := 256)).filter _

theorem used_len (b : List Nat) : (usedF b).length ≤ 256 := by
  have := List.length_filter_le (fun c => decide (c ∈ b)) (List.range 256)
  rwa [List.length_range] at this

/-- the one at a place goes to the front -/
def toFront (l : List Nat) (k : Nat) : List Nat := l.getD k 0 :: (l.take k ++ l.drop (k + 1))

theorem toFront_perm {l : List Nat} {k : Nat} (hk : k < l.length) : (toFront l k).Perm l := by
  unfold toFront
  have e : l = l.take k ++ l.getD k 0 :: l.drop (k + 1) := by
    rw [List.getD_eq_getElem?_getD, List.getElem?_eq_getElem hk]
    conv => lhs; rw [← List.take_append_drop k l, List.drop_eq_getElem_cons hk]
    rfl
  conv => rhs; rw [e]
  exact List.perm_middle.symm

theorem toFront_len {l : List Nat} {k : Nat} (hk : k < l.length) : (toFront l k).length = l.length := (toFront_perm hk).length_eq

/-- the first place of a byte -/
def place (c : Nat) : List Nat → Nat
  | [] => 0
  | x :: l => if x = c then 0 else place c l + 1

theorem place_lt {c : Nat} : ∀ {l : List Nat}, c ∈ l → place c l < l.length ∧ l.getD (place c l) 0 = c
  | [], h => by simp at h
  | x :: l, h => by
    unfold place
    by_cases e : x = c
    · rw [if_pos e]; simp [e]
    · rw [if_neg e]
      have := place_lt (c := c) (l := l) (by
        rcases List.mem_cons.1 h with h | h
        · exact absurd h.symm e
        · exact h)
      simp
      exact ⟨this.1, by simpa using this.2⟩

theorem place_first {c : Nat} : ∀ {l : List Nat} {j : Nat}, j < place c l → l.getD j 0 ≠ c
  | [], j, h => by simp [place] at h
  | x :: l, j, h => by
    unfold place at h
    split at h
    · omega
    · rename_i hx
      cases j with
      | zero => simpa using hx
      | succ j => simpa using place_first (c := c) (l := l) (j := j) (by omega)

/-- bytes by how lately they came -/
def frontG : List Nat → List Nat → List Nat
  | _, [] => []
  | l, c :: r => place c l :: frontG (toFront l (place c l)) r

def frontF (b : List Nat) : List Nat := frontG (usedF b) b

def unf : List Nat → List Int → List Nat → List Nat × Nat
  | _, [], out => (out, 0)
  | l, k :: r, out => if k < 0 ∨ (l.length : Int) ≤ k then ([], 2) else unf (toFront l k.toNat) r (out ++ [l.getD k.toNat 0])

theorem unf_front : ∀ (b l out : List Nat), (∀ c ∈ b, c ∈ l) → unf l ((frontG l b).map fun k : Nat => (k : Int)) out = (out ++ b, 0)
  | [], l, out, _ => by simp [frontG, unf]
  | c :: r, l, out, h => by
    have hp := place_lt (h c (List.mem_cons_self ..))
    rw [frontG, List.map_cons, unf, if_neg (by omega), Int.toNat_natCast, hp.2, unf_front r _ _ (fun x hx => (toFront_perm hp.1).mem_iff.2 (h x (List.mem_cons_of_mem _ hx)))]
    simp

theorem front_len : ∀ (b l : List Nat), (frontG l b).length = b.length
  | [], l => rfl
  | c :: r, l => by rw [frontG]; simp [front_len r]

theorem front_lt : ∀ (b l : List Nat), (∀ c ∈ b, c ∈ l) → ∀ k ∈ frontG l b, k < l.length
  | [], l, _, k, hk => by simp [frontG] at hk
  | c :: r, l, h, k, hk => by
    have hp := place_lt (h c (List.mem_cons_self ..))
    rw [frontG, List.mem_cons] at hk
    rcases hk with rfl | hk
    · exact hp.1
    · have := front_lt r _ (fun x hx => (toFront_perm hp.1).mem_iff.2 (h x (List.mem_cons_of_mem _ hx))) k hk
      rw [toFront_len hp.1] at this
      exact this

/-- a place is 0 just where the byte ahead comes again -/
theorem front_zero : ∀ (b l : List Nat), (∀ c ∈ b, c ∈ l) → ∀ i, i + 1 < b.length → ((frontG l b).getD (i + 1) 0 = 0 ↔ b.getD (i + 1) 0 = b.getD i 0)
  | [], l, _, i, hi => by simp at hi
  | [c], l, _, i, hi => by simp at hi
  | c :: d :: r, l, h, i, hi => by
    have hp := place_lt (h c (List.mem_cons_self ..))
    have h2 : ∀ x ∈ d :: r, x ∈ toFront l (place c l) := fun x hx => (toFront_perm hp.1).mem_iff.2 (h x (List.mem_cons_of_mem _ hx))
    cases i with
    | zero =>
      rw [frontG, frontG]
      simp only [List.getD_cons_succ, List.getD_cons_zero]
      unfold toFront place
      rw [hp.2]
      by_cases e : c = d
      · simp [e]
      · rw [if_neg e]
        constructor
        · intro q; omega
        · intro q; exact absurd q.symm e
    | succ i =>
      have := front_zero (d :: r) _ h2 i (by simpa using hi)
      rw [frontG]
      simpa using this

/-- a number by the symbols 0 and 1 -/
def digits : Nat → List Nat
  | 0 => []
  | k + 1 => k % 2 :: digits (k / 2)
decreasing_by omega

def symG (n : Nat) : List Nat → Nat → List Nat
  | [], run => digits run ++ [n + 1]
  | p :: r, run => if p = 0 then symG n r (run + 1) else digits run ++ (p + 1) :: symG n r 0

/-- symbols, one by one: the run so far, its symbols, what has come out -/
def plc (n most : Int) : List Int → Nat → Nat → List Nat → List Nat × Nat
  | [], run, k, out => if most - (out.length : Int) < (run : Int) then ([], 3) else ([], 10)
  | s :: r, run, k, out =>
    if s = 0 ∨ s = 1 then (if k = 20 then ([], 11) else plc n most r (run + (s.toNat + 1) * 2 ^ k) (k + 1) out)
    else if most - (out.length : Int) < (run : Int) then ([], 3)
    else if s < 0 ∨ n + 1 < s then ([], 11)
    else if s = n + 1 then (if r = [] then (out ++ List.replicate run 0, 0) else ([], 15))
    else if ((out.length + run : Nat) : Int) = most then ([], 3)
    else plc n most r 0 0 (out ++ List.replicate run 0 ++ [(s - 1).toNat])

theorem digits_len : ∀ k, 2 ^ (digits k).length ≤ k + 1 := by
  intro k
  induction k using Nat.strongRecOn with
  | ind k ih =>
    cases k with
    | zero => simp [digits]
    | succ k =>
      rw [digits, List.length_cons, Nat.pow_succ]
      have := ih (k / 2) (by omega)
      omega

theorem plc_digits (n most : Int) (rest : List Int) (out : List Nat) : ∀ m run k, k + (digits m).length ≤ 20 → plc n most ((digits m).map (fun d : Nat => (d : Int)) ++ rest) run k out = plc n most rest (run + m * 2 ^ k) (k + (digits m).length) out := by
  intro m
  induction m using Nat.strongRecOn with
  | ind m ih =>
    intro run k hk
    cases m with
    | zero => simp [digits]
    | succ m =>
      rw [digits] at hk ⊢
      simp only [List.length_cons] at hk
      rw [List.map_cons, List.cons_append, plc, if_pos (by omega), if_neg (by omega), ih (m / 2) (by omega) _ (k + 1) (by omega)]
      rw [List.length_cons, Int.toNat_natCast, show k + 1 + (digits (m / 2)).length = k + ((digits (m / 2)).length + 1) by omega]
      congr 1
      have e : m + 1 = m % 2 + 1 + m / 2 * 2 := by omega
      conv => rhs; rw [e]
      rw [Nat.pow_succ, Nat.add_mul (m % 2 + 1), Nat.mul_assoc (m / 2) 2, Nat.mul_comm 2 (2 ^ k)]
      omega

/-- the symbols of places are read again -/
theorem plc_sym (n : Nat) (most : Int) : ∀ (ps : List Nat) (run : Nat) (out : List Nat), (∀ p ∈ ps, p < n) → 1 ≤ n → (out.length : Int) + run + ps.length ≤ most → run + ps.length ≤ 1048576 → plc n most ((symG n ps run).map fun d : Nat => (d : Int)) 0 0 out = (out ++ List.replicate run 0 ++ ps, 0)
  | [], run, out, _, hn, hm, hr => by
    have hd : (digits run).length ≤ 20 := by
      have := digits_len run
      rcases Nat.lt_or_ge 20 (digits run).length with h | h
      · have := Nat.pow_le_pow_right (n := 2) (by omega) h
        simp at hr
        omega
      · exact h
    rw [symG, List.map_append, plc_digits _ _ _ _ run 0 0 (by omega), List.map_singleton, plc, if_neg (by omega), if_neg (by simp at hm ⊢; omega), if_neg (by omega), if_pos (by omega), if_pos rfl]
    simp
  | p :: r, run, out, h, hn, hm, hr => by
    simp only [List.length_cons] at hm hr
    have hp := h p (List.mem_cons_self ..)
    by_cases e : p = 0
    · rw [symG, if_pos e, plc_sym n most r (run + 1) out (fun x hx => h x (List.mem_cons_of_mem _ hx)) hn (by omega) (by omega), e, List.replicate_succ']
      simp
    · have hd : (digits run).length ≤ 20 := by
        have := digits_len run
        rcases Nat.lt_or_ge 20 (digits run).length with h | h
        · have := Nat.pow_le_pow_right (n := 2) (by omega) h
          omega
        · exact h
      rw [symG, if_neg e, List.map_append, plc_digits _ _ _ _ run 0 0 (by omega), List.map_cons, plc, if_neg (by omega), if_neg (by simp; omega), if_neg (by omega), if_neg (by omega), if_neg (by simp; omega)]
      rw [plc_sym n most r 0 _ (fun x hx => h x (List.mem_cons_of_mem _ hx)) hn (by simp; omega) (by omega)]
      simp

end Go.Proofs.Ytgafabhhalhccaa.Runs
