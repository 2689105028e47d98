/- Sums of joined texts, of texts laid over one another, and of texts of which one bit is another one. -/
import Derived.Test.YtnijllkafakoiaaJoinMath
import Derived.Test.YtnijllkafakoiaaAdl
namespace Go.Proofs.Ytnijllkafakoiaa

theorem crc_append (f : Nat → Nat) (s r : Nat) (a b : List Nat) : crc f s r (a ++ b) = crc f s (crc f s r a) b := by
  rw [crc, List.foldl_append]; rfl

/-- a register laid over another one goes its own way -/
theorem crc_split {f : Nat → Nat} (hf : Lin f) (s : Nat) : ∀ (zs : List Nat) (r r' : Nat), crc f s (r ^^^ r') zs = crc f s r zs ^^^ it f (8 * zs.length) r'
  | [], r, r' => rfl
  | z :: zs, r, r' => by
    show crc f s (it f 8 (r ^^^ r' ^^^ z * s)) zs = crc f s (it f 8 (r ^^^ z * s)) zs ^^^ _
    rw [show r ^^^ r' ^^^ z * s = r ^^^ z * s ^^^ r' by rw [Nat.xor_assoc, Nat.xor_comm r', ← Nat.xor_assoc], hf.it 8, crc_split hf s zs]
    congr 1

theorem xor_back (m x : Nat) : m ^^^ (m ^^^ x) = x := by rw [← Nat.xor_assoc, Nat.xor_self, Nat.zero_xor]

theorem sum32_go (f : Nat → Nat) (s sum : Nat) (a b : List Nat) : sum32 f s (sum32 f s sum a) b = sum32 f s sum (a ++ b) := by
  rw [sum32, sum32, sum32, xor_back, crc_append]

theorem sum64_go (f : Nat → Nat) (s sum : Nat) (a b : List Nat) : sum64 f s (sum64 f s sum a) b = sum64 f s sum (a ++ b) := by
  rw [sum64, sum64, sum64, xor_back, crc_append]

theorem join_go (a b : List Nat) : joined (sum32 (lstep pl) 1 0 a) (sum32 (lstep pl) 1 0 b) b.length = sum32 (lstep pl) 1 0 (a ++ b) := by
  have h := crc_split (lstep_lin pl) 1 b (4294967295 ^^^ 0) (sum32 (lstep pl) 1 0 a)
  have e : 4294967295 ^^^ 0 ^^^ sum32 (lstep pl) 1 0 a = crc (lstep pl) 1 (4294967295 ^^^ 0) a := by
    rw [Nat.xor_zero, sum32, Nat.xor_zero, xor_back]
  rw [e] at h
  show it (lstep pl) (8 * b.length) (sum32 (lstep pl) 1 0 a) ^^^ sum32 (lstep pl) 1 0 b = 4294967295 ^^^ crc (lstep pl) 1 (4294967295 ^^^ 0) (a ++ b)
  rw [crc_append, h, ← Nat.xor_assoc, Nat.xor_comm]
  rfl

theorem adl_append (s : Nat × Nat) (a b : List Nat) : adl s (a ++ b) = adl (adl s a) b := by
  rw [adl, List.foldl_append]; rfl

theorem adler_go (sum : Nat) (hs : sum < 4294967296) (a b : List Nat) : adler (adler sum a) b = adler sum (a ++ b) := by
  obtain ⟨h1, h2⟩ := adl_lt (sum % 65536, sum / 65536) (by show sum % 65536 < 65536; omega) (by show sum / 65536 < 65536; omega) a
  have e1 : adler sum a % 65536 = (adl (sum % 65536, sum / 65536) a).1 := by rw [adler]; omega
  have e2 : adler sum a / 65536 = (adl (sum % 65536, sum / 65536) a).2 := by rw [adler]; omega
  rw [adler, e1, e2, adler, adl_append]

/-- texts laid over one another -/
def over (a b : List Nat) : List Nat := List.zipWith (· ^^^ ·) a b

theorem crc_over {f : Nat → Nat} (hf : Lin f) (k : Nat) : ∀ (a b : List Nat), a.length = b.length → ∀ r r', crc f (2 ^ k) (r ^^^ r') (over a b) = crc f (2 ^ k) r a ^^^ crc f (2 ^ k) r' b
  | [], [], _, r, r' => rfl
  | x :: a, y :: b, h, r, r' => by
    show crc f (2 ^ k) (it f 8 (r ^^^ r' ^^^ (x ^^^ y) * 2 ^ k)) (over a b) = crc f (2 ^ k) (it f 8 (r ^^^ x * 2 ^ k)) a ^^^ crc f (2 ^ k) (it f 8 (r' ^^^ y * 2 ^ k)) b
    rw [xor_mul_pow, xor_four, hf.it 8, crc_over hf k a b (by simpa using h)]

theorem over_length (a b : List Nat) (h : a.length = b.length) : (over a b).length = a.length := by simp [over, h]

theorem sum32_over {f : Nat → Nat} (hf : Lin f) (k : Nat) (a b c : List Nat) (h1 : a.length = b.length) (h2 : a.length = c.length) :
    sum32 f (2 ^ k) 0 (over (over a b) c) = sum32 f (2 ^ k) 0 a ^^^ sum32 f (2 ^ k) 0 b ^^^ sum32 f (2 ^ k) 0 c := by
  have e := crc_over hf k (over a b) c (by rw [over_length a b h1]; exact h2) (4294967295 ^^^ 4294967295) 4294967295
  rw [crc_over hf k a b h1, Nat.xor_self, Nat.zero_xor] at e
  rw [sum32, sum32, sum32, sum32, Nat.xor_zero, e]
  generalize crc f (2 ^ k) 4294967295 a = A
  generalize crc f (2 ^ k) 4294967295 b = B
  generalize crc f (2 ^ k) 4294967295 c = C
  rw [xor_four 4294967295 A, Nat.xor_self, Nat.zero_xor, ← Nat.xor_assoc (A ^^^ B), Nat.xor_comm (A ^^^ B) 4294967295, ← Nat.xor_assoc]

theorem sum64_over {f : Nat → Nat} (hf : Lin f) (k : Nat) (a b c : List Nat) (h1 : a.length = b.length) (h2 : a.length = c.length) :
    sum64 f (2 ^ k) 0 (over (over a b) c) = sum64 f (2 ^ k) 0 a ^^^ sum64 f (2 ^ k) 0 b ^^^ sum64 f (2 ^ k) 0 c := by
  have e := crc_over hf k (over a b) c (by rw [over_length a b h1]; exact h2) (18446744073709551615 ^^^ 18446744073709551615) 18446744073709551615
  rw [crc_over hf k a b h1, Nat.xor_self, Nat.zero_xor] at e
  rw [sum64, sum64, sum64, sum64, Nat.xor_zero, e]
  generalize crc f (2 ^ k) 18446744073709551615 a = A
  generalize crc f (2 ^ k) 18446744073709551615 b = B
  generalize crc f (2 ^ k) 18446744073709551615 c = C
  rw [xor_four 18446744073709551615 A, Nat.xor_self, Nat.zero_xor, ← Nat.xor_assoc (A ^^^ B), Nat.xor_comm (A ^^^ B) 18446744073709551615, ← Nat.xor_assoc]

/-! ### One bit -/

/-- nothing but 0 goes to 0 -/
def Sharp (B : Nat) (f : Nat → Nat) : Prop := ∀ r, r < B → f r = 0 → r = 0

theorem Sharp.it {B : Nat} {f : Nat → Nat} (h : Sharp B f) (hb : ∀ r, r < B → f r < B) : ∀ n, Sharp B (it f n)
  | 0 => fun _ _ h => h
  | n + 1 => fun r hr h0 => h r hr (Sharp.it h hb n (f r) (hb r hr) h0)

theorem lstep_sharp (p w : Nat) (hp : 2 ^ w ≤ p) : Sharp (2 ^ (w + 1)) (lstep p) := by
  intro r hr h0
  unfold lstep at h0
  split at h0
  · have h1 : r / 2 = p := by
      have := congrArg (· ^^^ p) h0
      simpa [Nat.xor_assoc] using this
    have h2 : r / 2 < 2 ^ w := by
      rw [Nat.pow_succ] at hr
      omega
    omega
  · omega

theorem hstep_sharp (p : Nat) (hp : p % 2 = 1) : Sharp 4294967296 (hstep p) := by
  intro r hr h0
  unfold hstep at h0
  split at h0
  · have h1 : 2 * r % 4294967296 = p := by
      have := congrArg (· ^^^ p) h0
      simpa [Nat.xor_assoc] using this
    omega
  · simp at h0
    omega

theorem crc_turned {f : Nat → Nat} {B : Nat} (hf : Lin f) (hs : Sharp B f) (hb : ∀ r, r < B → f r < B) (k : Nat) (pre post : List Nat) (c d r : Nat) (hd : d * 2 ^ k < B) (hd0 : 0 < d) :
    crc f (2 ^ k) r (pre ++ c :: post) ≠ crc f (2 ^ k) r (pre ++ (c ^^^ d) :: post) := by
  rw [crc_append, crc_append]
  generalize crc f (2 ^ k) r pre = q
  show crc f (2 ^ k) (it f 8 (q ^^^ c * 2 ^ k)) post ≠ crc f (2 ^ k) (it f 8 (q ^^^ (c ^^^ d) * 2 ^ k)) post
  rw [xor_mul_pow, ← Nat.xor_assoc, hf.it 8 (q ^^^ c * 2 ^ k), crc_split hf]
  intro h
  have h2 : it f (8 * post.length) (it f 8 (d * 2 ^ k)) = 0 := by
    have := congrArg (fun x => crc f (2 ^ k) (it f 8 (q ^^^ c * 2 ^ k)) post ^^^ x) h
    simp only [Nat.xor_self, xor_back] at this
    exact this.symm
  have h3 := (hs.it hb (8 * post.length)) _ (it_lt hb 8 _ hd) h2
  have h4 := (hs.it hb 8) _ hd h3
  have h5 : 0 < d * 2 ^ k := Nat.mul_pos hd0 (Nat.two_pow_pos k)
  omega

theorem split_at (zs : List Nat) (i : Nat) (h : i < zs.length) (y : Nat) : zs = zs.take i ++ zs.getD i 0 :: zs.drop (i + 1) ∧ zs.set i y = zs.take i ++ y :: zs.drop (i + 1) := by
  constructor
  · rw [List.getD_eq_getElem?_getD, List.getElem?_eq_getElem h, Option.getD_some, ← List.drop_eq_getElem_cons h, List.take_append_drop]
  · rw [List.set_eq_take_append_cons_drop, if_pos h]

theorem sum32_turned {f : Nat → Nat} (hf : Lin f) (hs : Sharp 4294967296 f) (hb : ∀ r, r < 4294967296 → f r < 4294967296) (k : Nat) (zs : List Nat) (i d : Nat) (hi : i < zs.length) (hd : d * 2 ^ k < 4294967296) (hd0 : 0 < d) :
    sum32 f (2 ^ k) 0 zs ≠ sum32 f (2 ^ k) 0 (zs.set i (zs.getD i 0 ^^^ d)) := by
  obtain ⟨h1, h2⟩ := split_at zs i hi (zs.getD i 0 ^^^ d)
  intro h
  rw [sum32, sum32] at h
  have h3 := congrArg (fun x => 4294967295 ^^^ x) h
  simp only [xor_back] at h3
  rw [h2] at h3
  have h4 := crc_turned hf hs hb k (zs.take i) (zs.drop (i + 1)) (zs.getD i 0) d (4294967295 ^^^ 0) hd hd0
  rw [← h1] at h4
  exact h4 h3

theorem sum64_turned {f : Nat → Nat} (hf : Lin f) (hs : Sharp 18446744073709551616 f) (hb : ∀ r, r < 18446744073709551616 → f r < 18446744073709551616) (k : Nat) (zs : List Nat) (i d : Nat) (hi : i < zs.length) (hd : d * 2 ^ k < 18446744073709551616) (hd0 : 0 < d) :
    sum64 f (2 ^ k) 0 zs ≠ sum64 f (2 ^ k) 0 (zs.set i (zs.getD i 0 ^^^ d)) := by
  obtain ⟨h1, h2⟩ := split_at zs i hi (zs.getD i 0 ^^^ d)
  intro h
  rw [sum64, sum64] at h
  have h3 := congrArg (fun x => 18446744073709551615 ^^^ x) h
  simp only [xor_back] at h3
  rw [h2] at h3
  have h4 := crc_turned hf hs hb k (zs.take i) (zs.drop (i + 1)) (zs.getD i 0) d (18446744073709551615 ^^^ 0) hd hd0
  rw [← h1] at h4
  exact h4 h3

/-- the nine digits -/
def nine : List Nat := [49, 50, 51, 52, 53, 54, 55, 56, 57]
theorem nine32 : sum32 (lstep pl) 1 0 nine = 3421780262 := by decide +kernel
theorem nine64 : sum64 (lstep pw) 1 0 nine = 11051210869376104954 := by decide +kernel

end Go.Proofs.Ytnijllkafakoiaa
