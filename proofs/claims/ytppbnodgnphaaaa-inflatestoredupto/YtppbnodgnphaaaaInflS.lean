/- Bytes that stand as they are, in blocks. It names no program. Made ahead for stage 7. -/
import Derived.Test.YtppbnodgnphaaaaInflG
namespace Go.Proofs.Ytppbnodgnphaaaa.Infl
set_option linter.unusedVariables false

/-- bytes' bits, the lowest first -/
def bitsOf (l : List Nat) : In := ⟨fun i => (l.getD (i / 8) 0).testBit (i % 8), l.length⟩

theorem bitsOf_m (l : List Nat) : (bitsOf l).m = 8 * l.length := rfl

theorem num_add (f : Nat → Bool) (p n : Nat) : ∀ m, num f p (n + m) = num f p n + 2 ^ n * num f (p + n) m
  | 0 => by simp [num]
  | m + 1 => by
    rw [← Nat.add_assoc, num, num_add f p n m, num, Nat.mul_add, Nat.add_assoc p n m, Nat.pow_add, Nat.add_assoc]
    congr 2
    rw [Nat.mul_comm, Nat.mul_assoc, Nat.mul_comm (2 ^ m)]

theorem num_test (f : Nat → Bool) (p b : Nat) : ∀ n, (∀ i, i < n → f (p + i) = b.testBit i) → num f p n = b % 2 ^ n
  | 0, _ => by simp [num, Nat.mod_one]
  | n + 1, h => by
    rw [num, num_test f p b n (fun i hi => h i (by omega)), h n (by omega), Nat.testBit_eq_decide_div_mod_eq]
    rw [Nat.pow_succ, Nat.mod_mul]
    have : b / 2 ^ n % 2 < 2 := Nat.mod_lt _ (by decide)
    by_cases e : b / 2 ^ n % 2 = 1
    · rw [e]; simp
    · have e0 : b / 2 ^ n % 2 = 0 := by omega
      rw [e0]; simp

theorem num_byte (l : List Nat) (j b n : Nat) (hb : l[j]? = some b) (hn : n ≤ 8) : num (bitsOf l).f (8 * j) n = b % 2 ^ n := by
  refine num_test _ _ b n (fun i hi => ?_)
  have e1 : (8 * j + i) / 8 = j := by omega
  have e2 : (8 * j + i) % 8 = i := by omega
  simp only [bitsOf, e1, e2, List.getD, hb, Option.getD_some]

theorem get8 (l : List Nat) (j b : Nat) (hb : l[j]? = some b) (h : b < 256) : get 8 (bitsOf l) (8 * j) = .ok b (8 * (j + 1)) := by
  have hj : j < l.length := by
    rcases Nat.lt_or_ge j l.length with h | h
    · exact h
    · rw [List.getElem?_eq_none h] at hb; cases hb
  unfold get
  rw [bitsOf_m, if_pos (by omega), num_byte l j b 8 hb (by decide), Nat.mod_eq_of_lt (by omega)]
  rfl

theorem get16 (l : List Nat) (j b c : Nat) (hb : l[j]? = some b) (hc : l[j + 1]? = some c) (h : b < 256) (h' : c < 256) : get 16 (bitsOf l) (8 * j) = .ok (b + 256 * c) (8 * (j + 2)) := by
  have hj : j + 1 < l.length := by
    rcases Nat.lt_or_ge (j + 1) l.length with h | h
    · exact h
    · rw [List.getElem?_eq_none h] at hc; cases hc
  unfold get
  rw [bitsOf_m, if_pos (by omega), show (16 : Nat) = 8 + 8 from rfl, num_add, num_byte l j b 8 hb (by decide), show 8 * j + 8 = 8 * (j + 1) from by omega, num_byte l (j + 1) c 8 hc (by decide), Nat.mod_eq_of_lt (by omega), Nat.mod_eq_of_lt (by omega)]
  rfl

theorem get1 (l : List Nat) (j b : Nat) (hb : l[j]? = some b) (h : b < 2) : get 1 (bitsOf l) (8 * j) = .ok b (8 * j + 1) := by
  have hj : j < l.length := by
    rcases Nat.lt_or_ge j l.length with h | h
    · exact h
    · rw [List.getElem?_eq_none h] at hb; cases hb
  unfold get
  rw [bitsOf_m, if_pos (by omega), num_byte l j b 1 hb (by decide), Nat.mod_eq_of_lt (by omega)]

theorem get2 (l : List Nat) (j b : Nat) (hb : l[j]? = some b) (h : b < 2) : get 2 (bitsOf l) (8 * j + 1) = .ok 0 (8 * j + 3) := by
  have hj : j < l.length := by
    rcases Nat.lt_or_ge j l.length with h | h
    · exact h
    · rw [List.getElem?_eq_none h] at hb; cases hb
  unfold get
  rw [bitsOf_m, if_pos (by omega)]
  have e : num (bitsOf l).f (8 * j) 3 = b := by rw [num_byte l j b 3 hb (by decide), Nat.mod_eq_of_lt (by omega)]
  have e1 : num (bitsOf l).f (8 * j) 1 = b := by rw [num_byte l j b 1 hb (by decide), Nat.mod_eq_of_lt (by omega)]
  rw [show (3 : Nat) = 1 + 2 from rfl, num_add, e1] at e
  have : num (bitsOf l).f (8 * j + 1) 2 = 0 := by omega
  rw [this]

theorem bytes_at (l : List Nat) : ∀ (c : List Nat) (j : Nat) (out : List Nat) , (∀ i, i < c.length → l[j + i]? = c[i]?) → (∀ x, x ∈ c → x < 256) → bytes c.length out (bitsOf l) (8 * j) = .ok (out ++ c) (8 * (j + c.length))
  | [], j, out, _, _ => by simp [bytes, Rd.pure]
  | x :: c, j, out, h, hx => by
    have h0 := h 0 (by simp)
    rw [List.length_cons, bytes, bind_of (get8 l j x (by simpa using h0) (hx x (by simp)))]
    rw [bytes_at l c (j + 1) (out ++ [x]) (fun i hi => ?_) (fun y hy => hx y (by simp [hy]))]
    · rw [List.append_assoc, List.singleton_append, show j + 1 + c.length = j + (c.length + 1) from by omega]
    · have := h (i + 1) (by simp; omega)
      rw [show j + 1 + i = j + (i + 1) from by omega, this]
      rfl

/-- a block's five bytes and what stands in it -/
def blk (last : Nat) (c : List Nat) : List Nat := [last, c.length % 256, c.length / 256, 255 - c.length % 256, 255 - c.length / 256] ++ c

theorem stored_at (l : List Nat) (j last most : Nat) (c out : List Nat) (hc : c.length ≤ 65535) (hx : ∀ x, x ∈ c → x < 256) (hl : ∀ i, i < c.length + 5 → l[j + i]? = (blk last c)[i]?) (hm : out.length + c.length ≤ most) :
    stored most out (bitsOf l) (8 * j + 3) = .ok (out ++ c) (8 * (j + (c.length + 5))) := by
  unfold stored
  have ha : align (bitsOf l) (8 * j + 3) = .ok () (8 * (j + 1)) := by
    unfold align
    congr 1
    omega
  have l1 := hl 1 (by omega)
  have l2 := hl 2 (by omega)
  have l3 := hl 3 (by omega)
  have l4 := hl 4 (by omega)
  simp only [blk, List.cons_append, List.nil_append, List.getElem?_cons_succ, List.getElem?_cons_zero] at l1 l2 l3 l4
  have d1 : c.length % 256 < 256 := Nat.mod_lt _ (by decide)
  have d2 : c.length / 256 < 256 := by omega
  rw [bind_of ha, bind_of (get16 l (j + 1) _ _ l1 l2 d1 d2)]
  have e : c.length % 256 + 256 * (c.length / 256) = c.length := by omega
  rw [e, show j + 1 + 2 = j + 3 from rfl, bind_of (get16 l (j + 3) _ _ l3 l4 (by omega) (by omega))]
  rw [if_neg (by omega), if_neg (by omega), show j + 3 + 2 = j + 5 from rfl, bytes_at l c (j + 5) out (fun i hi => ?_) hx]
  · rw [show j + 5 + c.length = j + (c.length + 5) from by omega]
  · have := hl (i + 5) (by omega)
    rw [show j + 5 + i = j + (i + 5) from by omega, this]
    simp only [blk, List.cons_append, List.nil_append, List.getElem?_cons_succ]

section
variable {g : List Nat → (Nat → Bool) → Nat → Nat × Nat × Nat} {ce : List Nat → Nat → Bool → Nat}

theorem block_at (l : List Nat) (j last most fuel : Nat) (c out : List Nat) (hla : last < 2) (hc : c.length ≤ 65535) (hx : ∀ x, x ∈ c → x < 256) (hl : ∀ i, i < c.length + 5 → l[j + i]? = (blk last c)[i]?) (hm : out.length + c.length ≤ most) :
    block g ce most fuel out (bitsOf l) (8 * j) = .ok (last, out ++ c) (8 * (j + (c.length + 5))) := by
  have l0 := hl 0 (by omega)
  simp only [blk, List.cons_append, List.nil_append, List.getElem?_cons_zero, Nat.add_zero] at l0
  unfold block
  rw [bind_of (get1 l j last l0 hla), bind_of (get2 l j last l0 hla), if_pos rfl, bind_of (stored_at l j last most c out hc hx hl hm)]
  rfl

/-- pieces, each in a block, the last one told to be it -/
def pack : List (List Nat) → List Nat
  | [] => []
  | [c] => blk 1 c
  | c :: d :: cs => blk 0 c ++ pack (d :: cs)

/-- as a loop lays them -/
theorem pack_snoc (c : List Nat) : ∀ cs : List (List Nat), pack (cs ++ [c]) = (cs.map (blk 0)).flatten ++ blk 1 c
  | [] => rfl
  | [d] => by simp [pack]
  | d :: e :: cs => by
    have h := pack_snoc c (e :: cs)
    rw [List.map_cons, List.flatten_cons, List.append_assoc, ← h]
    rfl

theorem blk_len (last : Nat) (c : List Nat) : (blk last c).length = c.length + 5 := by simp [blk]

theorem blocks_at (l : List Nat) (most fuel : Nat) : ∀ (cs : List (List Nat)) (j : Nat) (out : List Nat), cs ≠ [] → (∀ c, c ∈ cs → c.length ≤ 65535 ∧ ∀ x, x ∈ c → x < 256) → (∀ i, i < (pack cs).length → l[j + i]? = (pack cs)[i]?) → out.length + cs.flatten.length ≤ most →
    blocks g ce most fuel cs.length out (bitsOf l) (8 * j) = .ok (out ++ cs.flatten) (8 * (j + (pack cs).length))
  | [], _, _, h, _, _, _ => absurd rfl h
  | [c], j, out, _, hc, hl, hm => by
    have h1 := hc c (by simp)
    rw [pack, blk_len] at hl
    simp only [List.flatten_cons, List.flatten_nil, List.append_nil] at hm ⊢
    rw [List.length_singleton, blocks, bind_of (block_at l j 1 most fuel c out (by decide) h1.1 h1.2 hl hm), pack, blk_len]
    rfl
  | c :: d :: cs, j, out, _, hc, hl, hm => by
    have h1 := hc c (by simp)
    rw [List.flatten_cons, List.length_append] at hm
    rw [pack, List.length_append, blk_len] at hl
    rw [List.length_cons, blocks, bind_of (block_at l j 0 most fuel c out (by decide) h1.1 h1.2 (fun i hi => by rw [hl i (by omega), List.getElem?_append_left (by rw [blk_len]; exact hi)]) (by omega))]
    simp only
    rw [if_neg (by decide), blocks_at l most fuel (d :: cs) (j + (c.length + 5)) (out ++ c) (by simp) (fun x hx => hc x (by simp only [List.mem_cons] at hx ⊢; exact .inr hx)) (fun i hi => ?_) (by rw [List.length_append]; omega)]
    · rw [List.flatten_cons, List.append_assoc, pack, List.length_append, blk_len, Nat.add_assoc]
      rfl
    · rw [show j + (c.length + 5) + i = j + (c.length + 5 + i) from by omega, hl _ (by omega), List.getElem?_append_right (by rw [blk_len]; omega), blk_len]
      congr 1
      omega

/-- bytes that stand as they are, in blocks of any lengths, are told as they are -/
theorem stored_tells (cs : List (List Nat)) (most : Nat) (h : cs ≠ []) (hc : ∀ c, c ∈ cs → c.length ≤ 65535 ∧ ∀ x, x ∈ c → x < 256) :
    (cs.flatten.length ≤ most → Tells g ce (bitsOf (pack cs)) most (.ok cs.flatten (8 * (pack cs).length))) ∧ (most < cs.flatten.length → Tells g ce (bitsOf (pack cs)) most (.bad 3)) := by
  have k : Tells g ce (bitsOf (pack cs)) cs.flatten.length (.ok cs.flatten (8 * (pack cs).length)) := by
    refine ⟨by simp, 0, cs.length, ?_⟩
    have := blocks_at (g := g) (ce := ce) (pack cs) cs.flatten.length 0 cs 0 [] h hc (fun i hi => by rw [Nat.zero_add]) (by simp)
    rw [List.nil_append, Nat.zero_add, Nat.mul_zero] at this
    exact this
  exact k.room
end

end Go.Proofs.Ytppbnodgnphaaaa.Infl
