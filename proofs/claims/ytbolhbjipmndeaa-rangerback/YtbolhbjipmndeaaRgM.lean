/- Bits written into a range that shrinks: the mathematics of chapter 13. -/
namespace Go.Proofs.Ytbolhbjipmndeaa.Rang
set_option linter.unusedVariables false
set_option maxRecDepth 20000

/-- an encoder: low, range, the byte kept, how many wait, what was written -/
structure Enc where
  low : Nat
  rng : Nat
  kept : Nat
  wait : Nat
  out : List Nat

def enc0 : Enc := ⟨0, 4294967295, 0, 1, []⟩

/-- a byte is shifted out -/
def shiftE (c : Enc) : Enc :=
  if c.low < 4278190080 ∨ 4294967295 < c.low then
    ⟨c.low % 16777216 * 256, c.rng, c.low / 16777216 % 256, 1, c.out ++ (match c.wait with | 0 => [] | n + 1 => (c.kept + c.low / 4294967296) % 256 :: List.replicate n ((255 + c.low / 4294967296) % 256))⟩
  else ⟨c.low % 16777216 * 256, c.rng, c.kept, c.wait + 1, c.out⟩

/-- the range is wide again -/
def settleE (c : Enc) : Enc := if c.rng < 16777216 then shiftE { c with rng := c.rng * 256 } else c

/-- a chance behind a bit -/
def after (p : Nat) (bit : Bool) : Nat := if bit then p - p / 32 else p + (2048 - p) / 32

theorem after_ok {p : Nat} (h : 31 ≤ p ∧ p ≤ 2017) (bit : Bool) : 31 ≤ after p bit ∧ after p bit ≤ 2017 := by
  unfold after
  cases bit
  · simp; omega
  · simp; omega

/-- a bit by a chance -/
def putE (c : Enc) (p : Nat) (bit : Bool) : Enc :=
  settleE (if bit then { c with low := c.low + c.rng / 2048 * p, rng := c.rng - c.rng / 2048 * p } else { c with rng := c.rng / 2048 * p })

/-- a direct bit -/
def dirE (c : Enc) (bit : Bool) : Enc :=
  settleE (if bit then { c with low := c.low + c.rng / 2, rng := c.rng / 2 } else { c with rng := c.rng / 2 })

/-- what was written, and the end -/
def bytesE (c : Enc) : List Nat := (shiftE (shiftE (shiftE (shiftE (shiftE c))))).out

/-- bytes as a number -/
def num : List Nat → Nat := List.foldl (fun v b => v * 256 + b) 0

theorem foldl_num (l : List Nat) (a : Nat) : l.foldl (fun v b => v * 256 + b) a = a * 256 ^ l.length + num l := by
  unfold num
  induction l generalizing a with
  | nil => simp
  | cons x l ih =>
    rw [List.foldl_cons, List.foldl_cons, ih, ih (0 * 256 + x), List.length_cons, Nat.pow_succ]
    rw [Nat.zero_mul, Nat.zero_add, Nat.add_mul, Nat.mul_assoc, Nat.mul_comm 256]
    omega

theorem num_append (a b : List Nat) : num (a ++ b) = num a * 256 ^ b.length + num b := by
  rw [show num (a ++ b) = b.foldl (fun v b => v * 256 + b) (num a) by unfold num; rw [List.foldl_append], foldl_num]

theorem num_single (x : Nat) : num [x] = x := by simp [num]

theorem num_cons (x : Nat) (l : List Nat) : num (x :: l) = x * 256 ^ l.length + num l := by
  rw [← List.singleton_append, num_append, num_single]

theorem num_lt {l : List Nat} (h : ∀ z ∈ l, z < 256) : num l < 256 ^ l.length := by
  induction l with
  | nil => simp [num]
  | cons x l ih =>
    have h1 := ih fun z hz => h z (List.mem_cons_of_mem _ hz)
    have h2 := h x (List.mem_cons_self ..)
    rw [num_cons, List.length_cons, Nat.pow_succ]
    have h3 : x * 256 ^ l.length ≤ 255 * 256 ^ l.length := Nat.mul_le_mul_right _ (by omega)
    omega

theorem num_ff : ∀ n, num (List.replicate n 255) + 1 = 256 ^ n
  | 0 => by simp [num]
  | n + 1 => by
    have := num_ff n
    rw [List.replicate_succ, num_cons, List.length_replicate, Nat.pow_succ]
    omega

theorem num_zero : ∀ n, num (List.replicate n 0) = 0
  | 0 => by simp [num]
  | n + 1 => by rw [List.replicate_succ, num_cons, num_zero n, Nat.zero_mul]

/-- an encoder stands at T, behind k bytes; what is still to come reaches no further than r -/
structure Stands (c : Enc) (T k r : Nat) : Prop where
  wait : 1 ≤ c.wait
  len : c.out.length + c.wait = k + 1
  kept : c.kept < 256
  small : ∀ z ∈ c.out, z < 256
  val : (num c.out * 256 ^ c.wait + c.kept * 256 ^ (c.wait - 1) + num (List.replicate (c.wait - 1) 255)) * 4294967296 + c.low = T
  pos : 1 ≤ r
  lo : c.low + r ≤ 8589934592
  hi : T + r ≤ (num c.out + 1) * 256 ^ c.wait * 4294967296
  room : T + r ≤ 256 ^ k * 4294967296

theorem stands0 : Stands enc0 0 0 4294967295 := ⟨by decide, rfl, by decide, by simp [enc0], by simp [enc0, num], by decide, by decide, by decide, by decide⟩

theorem stands_less {c : Enc} {T k r : Nat} (h : Stands c T k r) (r' x : Nat) (h1 : 1 ≤ r') (h2 : r' ≤ r) : Stands { c with rng := x } T k r' :=
  ⟨h.wait, h.len, h.kept, h.small, h.val, h1, by have := h.lo; simp only; omega, by have := h.hi; simp only; omega, by have := h.room; omega⟩

theorem stands_add {c : Enc} {T k r : Nat} (h : Stands c T k r) (b r' x : Nat) (h1 : 1 ≤ r') (h2 : b + r' ≤ r) : Stands { c with low := c.low + b, rng := x } (T + b) k r' :=
  ⟨h.wait, h.len, h.kept, h.small, by have := h.val; simp only; omega, h1, by have := h.lo; simp only; omega, by have := h.hi; simp only; omega, by have := h.room; omega⟩

theorem ar1 (Z cy tp rs : Nat) : (Z + cy) * 4294967296 + (tp * 16777216 + rs) = Z * 4294967296 + (cy * 4294967296 + tp * 16777216 + rs) := by omega
theorem ar2 (Z tp rs : Nat) : (Z * 256 + tp + 0) * 4294967296 + rs * 256 = (Z * 4294967296 + (tp * 16777216 + rs)) * 256 := by omega
theorem ar3 (P Q Z rs : Nat) : (P * 256 * 256 + Q * 256 + (Z * 256 + 255)) * 4294967296 + rs * 256 = ((P * 256 + Q + Z) * 4294967296 + (255 * 16777216 + rs)) * 256 := by omega
theorem ar4 (T r Y : Nat) (h : T + r ≤ Y * 4294967296) : T * 256 + r * 256 ≤ Y * 256 * 4294967296 := by omega

/-- all that is there, shifted: nothing is lost -/
theorem stands_shift {c : Enc} {T k r : Nat} (h : Stands c T k r) (hr : r ≤ 16777216) : Stands (shiftE c) (T * 256) (k + 1) (r * 256) := by
  obtain ⟨low, rng, kept, wait, out⟩ := c
  obtain ⟨hw, hlen, hk, hsm, hval, hpos, hlo, hhi, hroom⟩ := h
  simp only at hw hlen hk hsm hlo hval hhi
  have hroom' : T * 256 + r * 256 ≤ 256 ^ (k + 1) * 4294967296 := by
    rw [Nat.pow_succ, Nat.mul_assoc, Nat.mul_comm 256, ← Nat.mul_assoc]
    omega
  obtain ⟨w, rfl⟩ : ∃ w, wait = w + 1 := ⟨wait - 1, by omega⟩
  rw [Nat.add_sub_cancel] at hval
  have hf := num_ff w
  unfold shiftE
  by_cases hc : low < 4278190080 ∨ 4294967295 < low
  · simp only [if_pos hc]
    obtain ⟨cy, hcy⟩ : ∃ cy, cy = low / 4294967296 := ⟨_, rfl⟩
    obtain ⟨tp, htp⟩ : ∃ tp, tp = low / 16777216 % 256 := ⟨_, rfl⟩
    obtain ⟨rs, hrs⟩ : ∃ rs, rs = low % 16777216 := ⟨_, rfl⟩
    have hlow : low = cy * 4294967296 + tp * 16777216 + rs := by omega
    have hc1 : cy ≤ 1 := by omega
    have htp2 : tp < 256 := by omega
    have hrs2 : rs < 16777216 := by omega
    have hcl : cy = 0 → low < 4278190080 := by omega
    rw [← hcy, ← htp, ← hrs]
    obtain ⟨news, hnews⟩ : ∃ news, news = (kept + cy) % 256 :: List.replicate w ((255 + cy) % 256) := ⟨_, rfl⟩
    have hnl : news.length = w + 1 := by rw [hnews]; simp
    have hns : ∀ z ∈ news, z < 256 := by
      rw [hnews]
      intro z hz
      rcases List.mem_cons.1 hz with rfl | hz
      · omega
      · rw [List.mem_replicate] at hz; omega
    obtain ⟨O, hO⟩ : ∃ O, O = num out * 256 ^ (w + 1) := ⟨_, rfl⟩
    obtain ⟨X, hX⟩ : ∃ X, X = 256 ^ w := ⟨_, rfl⟩
    have hX1 : 256 ^ (w + 1) = X * 256 := by rw [Nat.pow_succ, hX]
    have hhi' : T + r ≤ (O + X * 256) * 4294967296 := by
      rw [Nat.add_mul, Nat.one_mul, ← hO, hX1] at hhi
      exact hhi
    have hnum : num news + O = O + kept * X + num (List.replicate w 255) + cy := by
      rw [hnews, num_cons, List.length_replicate, ← hX]
      rcases Nat.lt_or_ge cy 1 with h0 | h0
      · obtain rfl : cy = 0 := by omega
        rw [show (255 + 0) % 256 = 255 from rfl, Nat.add_zero, Nat.mod_eq_of_lt hk, Nat.add_zero]
        omega
      · obtain rfl : cy = 1 := by omega
        rw [show (255 + 1) % 256 = 0 by omega, num_zero]
        by_cases hk2 : kept = 255
        · exfalso
          subst hk2
          rw [← hO, ← hX] at hval
          rw [← hX] at hf
          omega
        · rw [Nat.mod_eq_of_lt (by omega), Nat.add_mul]
          rw [← hX] at hf
          omega
    have hval2 : (num news + O) * 4294967296 + (tp * 16777216 + rs) = T := by
      rw [hnum, ← hval, ← hO, hlow, ← hX]
      exact ar1 _ _ _ _
    have hall : num (out ++ news) = num news + O := by
      rw [num_append, hnl, ← hO, Nat.add_comm]
    rw [← hnews]
    refine ⟨by simp, ?_, htp2, ?_, ?_, by omega, ?_, ?_, hroom'⟩
    · simp only [List.length_append, hnl]; omega
    · intro z hz
      rcases List.mem_append.1 hz with h | h
      · exact hsm z h
      · exact hns z h
    · simp only [hall, Nat.pow_one, Nat.sub_self, Nat.pow_zero, Nat.mul_one, List.replicate_zero]
      show ((num news + O) * 256 + tp + num []) * 4294967296 + rs * 256 = _
      rw [show num [] = 0 from rfl, ← hval2]
      exact ar2 _ _ _
    · simp only; omega
    · simp only [hall, Nat.pow_one]
      rw [← hval2]
      have : tp * 16777216 + rs + r ≤ 4294967296 := by
        rcases Nat.lt_or_ge cy 1 with h0 | h0
        · have := hcl (by omega); omega
        · omega
      omega
  · simp only [if_neg hc]
    have hl1 : low / 16777216 = 255 := by omega
    obtain ⟨rs, hrs⟩ : ∃ rs, rs = low % 16777216 := ⟨_, rfl⟩
    have hlow : low = 255 * 16777216 + rs := by omega
    rw [← hrs]
    have hrs2 : rs < 16777216 := by omega
    obtain ⟨X, hX⟩ : ∃ X, X = 256 ^ w := ⟨_, rfl⟩
    have hX1 : 256 ^ (w + 1) = X * 256 := by rw [Nat.pow_succ, hX]
    have hX2 : 256 ^ (w + 1 + 1) = X * 256 * 256 := by rw [Nat.pow_succ, hX1]
    obtain ⟨P, hP⟩ : ∃ P, P = num out * X := ⟨_, rfl⟩
    have hP1 : num out * (X * 256) = P * 256 := by rw [← Nat.mul_assoc, hP]
    have hP2 : num out * (X * 256 * 256) = P * 256 * 256 := by rw [← Nat.mul_assoc, hP1]
    refine ⟨by simp, by simp only; omega, hk, hsm, ?_, by omega, by simp only; omega, ?_, hroom'⟩
    · simp only [Nat.add_sub_cancel]
      have hff : num (List.replicate (w + 1) 255) = num (List.replicate w 255) * 256 + 255 := by
        rw [List.replicate_succ', num_append, num_single]
        rfl
      rw [hff, hX2, hX1, hP2, ← hval, hX1, hP1, hlow, ← hX]
      obtain ⟨Q, hQ⟩ : ∃ Q, Q = kept * X := ⟨_, rfl⟩
      rw [← Nat.mul_assoc kept, ← hQ]
      exact ar3 _ _ _ _
    · simp only
      rw [hX2]
      rw [hX1] at hhi
      have e : (num out + 1) * (X * 256 * 256) = (num out + 1) * (X * 256) * 256 := by rw [← Nat.mul_assoc]
      rw [e]
      exact ar4 _ _ _ hhi

theorem shift_low (c : Enc) : (shiftE c).low = c.low % 16777216 * 256 ∧ (shiftE c).rng = c.rng := by
  unfold shiftE
  split <;> exact ⟨rfl, rfl⟩

/-- what was written, and the end, is T -/
theorem bytes_are {c : Enc} {T k r : Nat} (h : Stands c T k r) : num (bytesE c) = T ∧ (bytesE c).length = k + 5 ∧ ∀ z ∈ bytesE c, z < 256 := by
  have h1 : Stands c T k 1 := by have := stands_less h 1 c.rng (by omega) h.pos; exact this
  have s : ∀ {c : Enc} {T k : Nat}, Stands c T k 1 → Stands (shiftE c) (T * 256) (k + 1) 1 := fun {c T k} h => by
    have := stands_less (stands_shift h (by omega)) 1 (shiftE c).rng (by omega) (by omega)
    exact this
  have h5 := s (s (s (s h1)))
  have l1 := (shift_low c).1
  have l2 := (shift_low (shiftE c)).1
  have l3 := (shift_low (shiftE (shiftE c))).1
  have l4 := (shift_low (shiftE (shiftE (shiftE c)))).1
  obtain ⟨d, hd⟩ : ∃ d, d = shiftE (shiftE (shiftE (shiftE c))) := ⟨_, rfl⟩
  have hl : d.low = 0 := by rw [hd, l4, l3, l2, l1]; omega
  rw [← hd] at h5
  have h6 := s h5
  unfold bytesE
  rw [← hd]
  have hw : (shiftE d).wait = 1 ∧ (shiftE d).kept = 0 ∧ (shiftE d).low = 0 := by
    unfold shiftE
    rw [if_pos (by omega)]
    simp [hl]
  have hv := h6.val
  have hlen := h6.len
  rw [hw.1, hw.2.1, hw.2.2] at hv
  rw [hw.1] at hlen
  refine ⟨?_, by omega, h6.small⟩
  simp [num] at hv
  show num (shiftE d).out = T
  unfold num
  omega

/-- an encoder whose range is wide -/
structure Wide (c : Enc) (T k : Nat) : Prop where
  st : Stands c T k c.rng
  lo : 16777216 ≤ c.rng
  hi : c.rng < 4294967296

theorem wide0 : Wide enc0 0 0 := ⟨stands0, by decide, by decide⟩

/-- how far the range is widened -/
def stepT (r T : Nat) : Nat := if r < 16777216 then T * 256 else T
def stepK (r k : Nat) : Nat := if r < 16777216 then k + 1 else k

theorem settle_wide {c : Enc} {T k : Nat} (h : Stands c T k c.rng) (h1 : 65536 ≤ c.rng) (h2 : c.rng < 4294967296) : Wide (settleE c) (stepT c.rng T) (stepK c.rng k) ∧ (settleE c).rng = stepT c.rng c.rng := by
  unfold settleE stepT stepK
  by_cases hr : c.rng < 16777216
  · simp only [if_pos hr]
    have h3 := stands_less h c.rng (c.rng * 256) (by omega) (Nat.le_refl _)
    have h4 := stands_shift h3 (by omega)
    have h5 := (shift_low { c with rng := c.rng * 256 }).2
    simp only at h5
    exact ⟨⟨by rw [h5]; exact h4, by rw [h5]; omega, by rw [h5]; omega⟩, h5⟩
  · simp only [if_neg hr]
    exact ⟨⟨h, by omega, h2⟩, trivial⟩

/-- where a bit by a chance leads, ahead of the widening -/
def putT (r T p : Nat) (bit : Bool) : Nat := if bit then T + r / 2048 * p else T
def putR (r p : Nat) (bit : Bool) : Nat := if bit then r - r / 2048 * p else r / 2048 * p

theorem chance_split {r p : Nat} (h1 : 16777216 ≤ r) (hp : 31 ≤ p ∧ p ≤ 2017) : 253952 ≤ r / 2048 * p ∧ r / 2048 * p + 253952 ≤ r := by
  obtain ⟨q, hq⟩ : ∃ q, q = r / 2048 := ⟨_, rfl⟩
  rw [← hq]
  have h2 : 8192 ≤ q := by omega
  have h3 : q * 31 ≤ q * p := Nat.mul_le_mul_left _ hp.1
  have h4 : q * p ≤ q * 2017 := Nat.mul_le_mul_left _ hp.2
  have h5 : q * 2048 ≤ r := by omega
  omega

theorem put_wide {c : Enc} {T k p : Nat} (h : Wide c T k) (hp : 31 ≤ p ∧ p ≤ 2017) (bit : Bool) :
    Wide (putE c p bit) (stepT (putR c.rng p bit) (putT c.rng T p bit)) (stepK (putR c.rng p bit) k) ∧ (putE c p bit).rng = stepT (putR c.rng p bit) (putR c.rng p bit) := by
  have hs := chance_split h.lo hp
  have hhi := h.hi
  unfold putE putT putR
  cases bit
  · simp only [if_neg Bool.false_ne_true]
    exact settle_wide (c := { c with rng := c.rng / 2048 * p }) (stands_less h.st (c.rng / 2048 * p) (c.rng / 2048 * p) (by omega) (by omega)) (by simp only; omega) (by simp only; omega)
  · simp only [if_true]
    exact settle_wide (c := { c with low := c.low + c.rng / 2048 * p, rng := c.rng - c.rng / 2048 * p }) (stands_add h.st (c.rng / 2048 * p) (c.rng - c.rng / 2048 * p) (c.rng - c.rng / 2048 * p) (by omega) (by omega)) (by simp only; omega) (by simp only; omega)

def dirT (r T : Nat) (bit : Bool) : Nat := if bit then T + r / 2 else T

theorem dir_wide {c : Enc} {T k : Nat} (h : Wide c T k) (bit : Bool) :
    Wide (dirE c bit) (stepT (c.rng / 2) (dirT c.rng T bit)) (stepK (c.rng / 2) k) ∧ (dirE c bit).rng = stepT (c.rng / 2) (c.rng / 2) := by
  have hlo := h.lo
  have hhi := h.hi
  unfold dirE dirT
  cases bit
  · simp only [if_neg Bool.false_ne_true]
    exact settle_wide (c := { c with rng := c.rng / 2 }) (stands_less h.st (c.rng / 2) (c.rng / 2) (by omega) (by omega)) (by simp only; omega) (by simp only; omega)
  · simp only [if_true]
    exact settle_wide (c := { c with low := c.low + c.rng / 2, rng := c.rng / 2 }) (stands_add h.st (c.rng / 2) (c.rng / 2) (c.rng / 2) (by omega) (by omega)) (by simp only; omega) (by simp only; omega)

/-- a number lies where an encoder may still go -/
structure Ahead (T k r Tf K : Nat) : Prop where
  le : k ≤ K
  lo : T * 256 ^ (K - k) ≤ Tf
  hi : Tf < (T + r) * 256 ^ (K - k)

theorem Ahead.self {c : Enc} {T k : Nat} (h : Wide c T k) : Ahead T k c.rng T k :=
  ⟨Nat.le_refl _, by simp, by have := h.lo; simp; omega⟩

/-- behind the widening and ahead of it -/
theorem Ahead.step {T k r Tf K : Nat} (h : Ahead (stepT r T) (stepK r k) (stepT r r) Tf K) : Ahead T k r Tf K := by
  unfold stepT stepK at h
  by_cases hr : r < 16777216
  · simp only [if_pos hr] at h
    have h1 := h.le
    have e : 256 ^ (K - k) = 256 * 256 ^ (K - (k + 1)) := by
      rw [show K - k = K - (k + 1) + 1 by omega, Nat.pow_succ, Nat.mul_comm]
    exact ⟨by omega, by rw [e, ← Nat.mul_assoc]; exact h.lo, by rw [e, ← Nat.mul_assoc, Nat.add_mul]; exact h.hi⟩
  · simp only [if_neg hr] at h
    exact h

theorem Ahead.wider {T k r T0 r0 Tf K : Nat} (h : Ahead T k r Tf K) (h1 : T0 ≤ T) (h2 : T + r ≤ T0 + r0) : Ahead T0 k r0 Tf K :=
  ⟨h.le, Nat.le_trans (Nat.mul_le_mul_right _ h1) h.lo, Nat.lt_of_lt_of_le h.hi (Nat.mul_le_mul_right _ h2)⟩

theorem Ahead.put {c : Enc} {T k p Tf K : Nat} {bit : Bool} (hw : Wide c T k) (hp : 31 ≤ p ∧ p ≤ 2017) (h : Ahead (stepT (putR c.rng p bit) (putT c.rng T p bit)) (stepK (putR c.rng p bit) k) (putE c p bit).rng Tf K) : Ahead (putT c.rng T p bit) k (putR c.rng p bit) Tf K ∧ Ahead T k c.rng Tf K := by
  rw [(put_wide hw hp bit).2] at h
  have h1 := h.step
  have hs := chance_split hw.lo hp
  refine ⟨h1, h1.wider ?_ ?_⟩
  · unfold putT; split <;> omega
  · unfold putT putR; split <;> omega

theorem Ahead.dir {c : Enc} {T k Tf K : Nat} {bit : Bool} (hw : Wide c T k) (h : Ahead (stepT (c.rng / 2) (dirT c.rng T bit)) (stepK (c.rng / 2) k) (dirE c bit).rng Tf K) : Ahead (dirT c.rng T bit) k (c.rng / 2) Tf K ∧ Ahead T k c.rng Tf K := by
  rw [(dir_wide hw bit).2] at h
  have h1 := h.step
  refine ⟨h1, h1.wider ?_ ?_⟩
  · unfold dirT; split <;> omega
  · unfold dirT; split <;> omega

/-- a decoder -/
structure Dec where
  code : Nat
  rng : Nat
  at_ : Nat
  over : Bool

def settleD (B : List Nat) (d : Dec) : Dec :=
  if d.rng < 16777216 ∧ d.over = false then (if d.at_ = B.length then { d with over := true } else ⟨(d.code * 256 + B.getD d.at_ 0) % 4294967296, d.rng * 256, d.at_ + 1, d.over⟩) else d

/-- a bit by a chance -/
def getD (B : List Nat) (d : Dec) (p : Nat) : Bool × Dec :=
  if d.code < d.rng / 2048 * p then (false, settleD B { d with rng := d.rng / 2048 * p }) else (true, settleD B { d with code := d.code - d.rng / 2048 * p, rng := d.rng - d.rng / 2048 * p })

/-- a direct bit -/
def dirD (B : List Nat) (d : Dec) : Bool × Dec :=
  if d.rng / 2 ≤ d.code then (true, settleD B { d with code := d.code - d.rng / 2, rng := d.rng / 2 }) else (false, settleD B { d with rng := d.rng / 2 })

def dec0 (B : List Nat) : Dec := ⟨num ((B.take 5).drop 1), 4294967295, 5, false⟩

/-- a decoder follows an encoder that stood at T -/
structure Follows (B : List Nat) (d : Dec) (r T k : Nat) : Prop where
  rng : d.rng = r
  over : d.over = false
  at_ : d.at_ = k + 5
  code : d.code + T = num (B.take (k + 5))

theorem take_num {B : List Nat} {K : Nat} (hl : B.length = K + 5) (hb : ∀ z ∈ B, z < 256) (k : Nat) (hk : k ≤ K) : num (B.take (k + 5)) * 256 ^ (K - k) ≤ num B ∧ num B < (num (B.take (k + 5)) + 1) * 256 ^ (K - k) := by
  have h1 : num B = num (B.take (k + 5)) * 256 ^ (B.drop (k + 5)).length + num (B.drop (k + 5)) := by
    rw [← num_append, List.take_append_drop]
  have h2 : (B.drop (k + 5)).length = K - k := by rw [List.length_drop, hl]; omega
  have h3 := num_lt (l := B.drop (k + 5)) (fun z hz => hb z (List.mem_of_mem_drop hz))
  rw [h2] at h1 h3
  rw [Nat.add_mul, Nat.one_mul]
  omega

/-- what has been read lies where the encoder went -/
theorem Ahead.read {B : List Nat} {T k r K : Nat} (hl : B.length = K + 5) (hb : ∀ z ∈ B, z < 256) (h : Ahead T k r (num B) K) : T ≤ num (B.take (k + 5)) ∧ num (B.take (k + 5)) < T + r := by
  have h1 := take_num hl hb k h.le
  have h2 := h.lo
  have h3 := h.hi
  constructor
  · have h4 : T * 256 ^ (K - k) < (num (B.take (k + 5)) + 1) * 256 ^ (K - k) := by omega
    have := Nat.lt_of_mul_lt_mul_right h4
    omega
  · have h4 : num (B.take (k + 5)) * 256 ^ (K - k) < (T + r) * 256 ^ (K - k) := by omega
    exact Nat.lt_of_mul_lt_mul_right h4

/-- the widening is followed -/
theorem follows_settle {B : List Nat} {d : Dec} {r T k K : Nat} (hl : B.length = K + 5) (hb : ∀ z ∈ B, z < 256) (h : Follows B d r T k) (ha : Ahead T k r (num B) K) (hk : stepK r k ≤ K) : Follows B (settleD B d) (stepT r r) (stepT r T) (stepK r k) := by
  have hr := ha.read hl hb
  unfold settleD stepT
  unfold stepK at hk ⊢
  by_cases hr1 : r < 16777216
  · simp only [if_pos hr1] at hk ⊢
    have hc := h.code
    have hlt : k + 5 < B.length := by omega
    rw [if_pos ⟨by rw [h.rng]; exact hr1, h.over⟩, if_neg (by rw [h.at_]; omega)]
    have hx : B.getD (k + 5) 0 < 256 := by
      rw [List.getD_eq_getElem?_getD, List.getElem?_eq_getElem hlt]
      exact hb _ (List.getElem_mem hlt)
    have ht : num (B.take (k + 1 + 5)) = num (B.take (k + 5)) * 256 + B.getD (k + 5) 0 := by
      rw [show k + 1 + 5 = k + 5 + 1 by omega, List.take_add_one, List.getElem?_eq_getElem hlt, List.getD_eq_getElem?_getD, List.getElem?_eq_getElem hlt]
      show num (B.take (k + 5) ++ [B[k + 5]]) = _
      rw [num_append, num_single]
      rfl
    rw [h.at_]
    refine ⟨by simp only; rw [h.rng], h.over, by simp only [Nat.add_right_comm], ?_⟩
    simp only
    rw [ht, Nat.mod_eq_of_lt (by omega)]
    omega
  · simp only [if_neg hr1] at hk ⊢
    rw [if_neg (by rw [h.rng]; omega)]
    exact h

theorem follows_put {B : List Nat} {d : Dec} {c : Enc} {T k p K : Nat} {bit : Bool} (hl : B.length = K + 5) (hb : ∀ z ∈ B, z < 256) (hw : Wide c T k) (hp : 31 ≤ p ∧ p ≤ 2017) (h : Follows B d c.rng T k)
    (ha : Ahead (stepT (putR c.rng p bit) (putT c.rng T p bit)) (stepK (putR c.rng p bit) k) (putE c p bit).rng (num B) K) :
    (getD B d p).1 = bit ∧ Follows B (getD B d p).2 (putE c p bit).rng (stepT (putR c.rng p bit) (putT c.rng T p bit)) (stepK (putR c.rng p bit) k) := by
  have hk := ha.le
  have h1 := (Ahead.put hw hp ha).1
  have hr := h1.read hl hb
  rw [(put_wide hw hp bit).2]
  have hs := chance_split hw.lo hp
  have hc := h.code
  unfold getD
  rw [h.rng]
  cases bit
  · have e1 : putT c.rng T p false = T := rfl
    have e2 : putR c.rng p false = c.rng / 2048 * p := rfl
    rw [e1, e2] at hr h1 ⊢
    rw [e2] at hk
    rw [if_pos (by omega)]
    exact ⟨rfl, follows_settle hl hb ⟨rfl, h.over, h.at_, h.code⟩ h1 hk⟩
  · have e1 : putT c.rng T p true = T + c.rng / 2048 * p := rfl
    have e2 : putR c.rng p true = c.rng - c.rng / 2048 * p := rfl
    rw [e1, e2] at hr h1 ⊢
    rw [e2] at hk
    rw [if_neg (by omega)]
    exact ⟨rfl, follows_settle hl hb ⟨rfl, h.over, h.at_, by simp only; omega⟩ h1 hk⟩

theorem follows_dir {B : List Nat} {d : Dec} {c : Enc} {T k K : Nat} {bit : Bool} (hl : B.length = K + 5) (hb : ∀ z ∈ B, z < 256) (hw : Wide c T k) (h : Follows B d c.rng T k)
    (ha : Ahead (stepT (c.rng / 2) (dirT c.rng T bit)) (stepK (c.rng / 2) k) (dirE c bit).rng (num B) K) :
    (dirD B d).1 = bit ∧ Follows B (dirD B d).2 (dirE c bit).rng (stepT (c.rng / 2) (dirT c.rng T bit)) (stepK (c.rng / 2) k) := by
  have hk := ha.le
  have h1 := (Ahead.dir hw ha).1
  have hr := h1.read hl hb
  rw [(dir_wide hw bit).2]
  have hc := h.code
  have hlo := hw.lo
  unfold dirD
  rw [h.rng]
  cases bit
  · have e1 : dirT c.rng T false = T := rfl
    rw [e1] at hr h1 ⊢
    rw [if_neg (by omega)]
    exact ⟨rfl, follows_settle hl hb ⟨rfl, h.over, h.at_, h.code⟩ h1 hk⟩
  · have e1 : dirT c.rng T true = T + c.rng / 2 := rfl
    rw [e1] at hr h1 ⊢
    rw [if_pos (by omega)]
    exact ⟨rfl, follows_settle hl hb ⟨rfl, h.over, h.at_, by simp only; omega⟩ h1 hk⟩

/-- the first byte is 0, and a decoder begins where the encoder did -/
theorem follows0 {B : List Nat} {K Tf : Nat} (hl : B.length = K + 5) (hb : ∀ z ∈ B, z < 256) (hn : num B < 256 ^ K * 4294967296) : B.getD 0 0 = 0 ∧ Follows B (dec0 B) 4294967295 0 0 := by
  have h1 := take_num hl hb 0 (by omega)
  cases B with
  | nil => simp at hl
  | cons x B =>
    have hx : x = 0 := by
      rw [num_cons] at hn
      simp only [List.length_cons] at hl
      have hl2 : B.length = K + 4 := by omega
      rw [hl2, Nat.pow_add] at hn
      rcases Nat.eq_zero_or_pos x with h | h
      · exact h
      · have h2 : 1 * (256 ^ K * 256 ^ 4) ≤ x * (256 ^ K * 256 ^ 4) := Nat.mul_le_mul_right _ h
        have h3 : (256 : Nat) ^ 4 = 4294967296 := by decide
        rw [h3] at h2 hn
        omega
    subst hx
    refine ⟨rfl, rfl, rfl, rfl, ?_⟩
    show num (List.drop 1 (List.take 5 (0 :: B))) + 0 = num (List.take 5 (0 :: B))
    rw [List.take_succ_cons, num_cons, List.drop_succ_cons, List.drop_zero]
    omega

/-- an encoder's bytes: where it stood -/
theorem bytes_wide {c : Enc} {T k : Nat} (h : Wide c T k) : num (bytesE c) = T ∧ (bytesE c).length = k + 5 ∧ (∀ z ∈ bytesE c, z < 256) ∧ T < 256 ^ k * 4294967296 := by
  have := bytes_are h.st
  have h2 := h.st.room
  have h3 := h.lo
  exact ⟨this.1, this.2.1, this.2.2, by omega⟩

/-- in the end nothing is left -/
theorem follows_end {B : List Nat} {d : Dec} {r T k : Nat} (hl : B.length = k + 5) (hn : num B = T) (h : Follows B d r T k) : d.at_ = B.length ∧ d.code = 0 ∧ d.over = false := by
  have hc := h.code
  rw [← hl, List.take_length, hn] at hc
  exact ⟨by rw [h.at_, hl], by omega, h.over⟩

end Go.Proofs.Ytbolhbjipmndeaa.Rang
