/- Texts cut at each /: plain mathematics, no program named. -/
import Derived.WalkKit
import Derived.Lib.Strings
import Derived.Lib.Bytealg
import Derived.Lib.Join
import Derived.Lib.OthersKept
namespace Go.Proofs.Ythhdlmegbbmbhaa

/-- a text cut at each / -/
def pcs : List UInt8 → List (List UInt8)
  | [] => [[]]
  | b :: r => if b = 47 then [] :: pcs r else match pcs r with
    | [] => [[b]]
    | p :: q => (b :: p) :: q

theorem pcs_ne (l : List UInt8) : pcs l ≠ [] := by
  cases l with
  | nil => simp [pcs]
  | cons b r =>
    unfold pcs
    split
    · simp
    · split <;> simp

theorem pcs_last {a : List UInt8} (h : (47 : UInt8) ∉ a) : pcs a = [a] := by
  induction a with
  | nil => rfl
  | cons b r ih =>
    rw [List.mem_cons, not_or] at h
    unfold pcs
    rw [if_neg (fun e => h.1 e.symm), ih h.2]

theorem pcs_cut {a b : List UInt8} (h : (47 : UInt8) ∉ a) : pcs (a ++ 47 :: b) = a :: pcs b := by
  induction a with
  | nil => rw [List.nil_append]; conv => lhs; unfold pcs
           rw [if_pos rfl]
  | cons c r ih =>
    rw [List.mem_cons, not_or] at h
    rw [List.cons_append]
    conv => lhs; unfold pcs
    rw [if_neg (fun e => h.1 e.symm), ih h.2]

/-- the text of its pieces -/
def jn : List (List UInt8) → List UInt8
  | [] => []
  | [p] => p
  | p :: q :: r => p ++ 47 :: jn (q :: r)

theorem jn_cons {p : List UInt8} {q : List (List UInt8)} (h : q ≠ []) : jn (p :: q) = p ++ 47 :: jn q := by
  cases q with
  | nil => exact absurd rfl h
  | cons a b => rfl

theorem jn_pcs (l : List UInt8) : jn (pcs l) = l := by
  induction l with
  | nil => rfl
  | cons b r ih =>
    unfold pcs
    split
    · rename_i h
      rw [jn_cons (pcs_ne r), ih, h]; rfl
    · have h := pcs_ne r
      revert ih h
      cases pcs r with
      | nil => intro _ h; exact absurd rfl h
      | cons p q =>
        intro ih _
        cases q with
        | nil => simpa [jn] using ih
        | cons a c => simp [jn] at ih ⊢; exact ih

theorem pcs_free (l : List UInt8) : ∀ p, p ∈ pcs l → (47 : UInt8) ∉ p := by
  induction l with
  | nil => intro p hp; simp [pcs] at hp; subst hp; simp
  | cons b r ih =>
    unfold pcs
    split
    · intro p hp
      rcases List.mem_cons.1 hp with rfl | hp
      · simp
      · exact ih p hp
    · rename_i hb
      revert ih
      cases pcs r with
      | nil => intro _ p hp; simp at hp; subst hp; simp; exact fun e => hb e.symm
      | cons a q =>
        intro ih p hp
        rcases List.mem_cons.1 hp with rfl | hp
        · have := ih a (by simp)
          simp; exact ⟨fun e => hb e.symm, this⟩
        · exact ih p (by simp [hp])

theorem pcs_jn {l : List (List UInt8)} (h0 : l ≠ []) (h : ∀ p, p ∈ l → (47 : UInt8) ∉ p) : pcs (jn l) = l := by
  induction l with
  | nil => exact absurd rfl h0
  | cons a q ih =>
    cases q with
    | nil => exact pcs_last (h a (by simp))
    | cons b r =>
      rw [jn_cons (by simp), pcs_cut (h a (by simp)), ih (by simp) (fun p hp => h p (List.mem_cons_of_mem _ hp))]

/-- a name -/
def nameL (p : List UInt8) : Bool := decide (1 ≤ p.length) && decide (p.length ≤ 255) && decide ((47 : UInt8) ∉ p) && decide ((0 : UInt8) ∉ p) && decide (p ≠ [46]) && decide (p ≠ [46, 46])

/-- a path -/
def validL (l : List UInt8) : Bool := decide (l.length ≤ 1024) && (pcs l).all nameL && decide ((pcs l).length ≤ 64)

/-- pieces held against one another, by their bytes -/
def cmpPs : List (List UInt8) → List (List UInt8) → Int
  | [], [] => 0
  | [], _ :: _ => -1
  | _ :: _, [] => 1
  | a :: x, b :: y => if Lib.compareBytes a b ≠ 0 then Lib.compareBytes a b else cmpPs x y

def cmpL (a b : List UInt8) : Int := cmpPs (pcs a) (pcs b)

/-- A rune of a text: one byte below 128, or bytes from 128 on and a number from 128 on. -/
theorem decode_facts (s : ByteArray) (i : Nat) (h : i < s.size) :
    i + (Utf8.decode s i).2 ≤ s.size ∧ 1 ≤ (Utf8.decode s i).2 ∧
    (((Utf8.decode s i).2 = 1 ∧ (Utf8.decode s i).1 = (s.get! i).toNat ∧ (s.get! i).toNat < 128) ∨ (128 ≤ (Utf8.decode s i).1 ∧ ∀ j, i ≤ j → j < i + (Utf8.decode s i).2 → 128 ≤ (s.get! j).toNat)) := by
  unfold Utf8.decode
  simp only [Nat.add_zero]
  by_cases h0 : (s.get! i).toNat < 128
  · rw [if_pos h0]
    exact ⟨(show i + 1 ≤ s.size by omega), Nat.le_refl 1, .inl ⟨rfl, rfl, h0⟩⟩
  rw [if_neg h0]
  have one : (Utf8.runeError, 1) = ((65533, 1) : Nat × Nat) := rfl
  have bad : i + ((65533, 1) : Nat × Nat).2 ≤ s.size ∧ 1 ≤ ((65533, 1) : Nat × Nat).2 ∧
    ((((65533, 1) : Nat × Nat).2 = 1 ∧ ((65533, 1) : Nat × Nat).1 = (s.get! i).toNat ∧ (s.get! i).toNat < 128) ∨ (128 ≤ ((65533, 1) : Nat × Nat).1 ∧ ∀ j, i ≤ j → j < i + ((65533, 1) : Nat × Nat).2 → 128 ≤ (s.get! j).toNat)) := by
    show i + 1 ≤ s.size ∧ 1 ≤ 1 ∧ ((1 = 1 ∧ 65533 = (s.get! i).toNat ∧ (s.get! i).toNat < 128) ∨ (128 ≤ 65533 ∧ ∀ j, i ≤ j → j < i + 1 → 128 ≤ (s.get! j).toNat))
    refine ⟨by omega, by omega, .inr ⟨by omega, fun j h1 h2 => ?_⟩⟩
    have e : j = i := by omega
    subst e
    omega
  rw [one]
  have cnt : ∀ k, (decide (i + k < s.size) && (s.get! (i + k)).toNat / 64 == 2) = true → i + k < s.size ∧ 128 ≤ (s.get! (i + k)).toNat := by
    intro k hk
    simp at hk
    exact ⟨hk.1, by omega⟩
  by_cases h1 : ((s.get! i).toNat / 32 == 6 && (decide (i + 1 < s.size) && (s.get! (i + 1)).toNat / 64 == 2)) = true
  · rw [if_pos h1]
    have h1' := cnt 1 (by simp at h1 ⊢; exact h1.2)
    split
    · rename_i hc
      exact ⟨(show i + 2 ≤ s.size by omega), (show 1 ≤ 2 by omega), .inr ⟨hc, fun j a b => by
        simp at b
        obtain rfl | rfl : j = i ∨ j = i + 1 := by omega
        · omega
        · exact h1'.2⟩⟩
    · exact bad
  rw [if_neg h1]
  by_cases h2 : ((s.get! i).toNat / 16 == 14 && (decide (i + 1 < s.size) && (s.get! (i + 1)).toNat / 64 == 2) && (decide (i + 2 < s.size) && (s.get! (i + 2)).toNat / 64 == 2)) = true
  · rw [if_pos h2]
    have h1' := cnt 1 (by simp at h2 ⊢; exact h2.1.2)
    have h2' := cnt 2 (by simp at h2 ⊢; exact h2.2)
    split
    · rename_i hc
      have hc' : 2048 ≤ (s.get! i).toNat % 16 * 4096 + (s.get! (i + 1)).toNat % 64 * 64 + (s.get! (i + 2)).toNat % 64 := by simp at hc; exact hc.1
      exact ⟨(show i + 3 ≤ s.size by omega), (show 1 ≤ 3 by omega), .inr ⟨Nat.le_trans (by omega) hc', fun j a b => by
        simp at b
        obtain rfl | rfl | rfl : j = i ∨ j = i + 1 ∨ j = i + 2 := by omega
        · omega
        · exact h1'.2
        · exact h2'.2⟩⟩
    · exact bad
  rw [if_neg h2]
  by_cases h3 : ((s.get! i).toNat / 8 == 30 && (decide (i + 1 < s.size) && (s.get! (i + 1)).toNat / 64 == 2) && (decide (i + 2 < s.size) && (s.get! (i + 2)).toNat / 64 == 2) && (decide (i + 3 < s.size) && (s.get! (i + 3)).toNat / 64 == 2)) = true
  · rw [if_pos h3]
    have h1' := cnt 1 (by simp at h3 ⊢; exact h3.1.1.2)
    have h2' := cnt 2 (by simp at h3 ⊢; exact h3.1.2)
    have h3' := cnt 3 (by simp at h3 ⊢; exact h3.2)
    split
    · rename_i hc
      have hc' : 65536 ≤ (s.get! i).toNat % 8 * 262144 + (s.get! (i + 1)).toNat % 64 * 4096 + (s.get! (i + 2)).toNat % 64 * 64 + (s.get! (i + 3)).toNat % 64 := by simp at hc; exact hc.1
      exact ⟨(show i + 4 ≤ s.size by omega), (show 1 ≤ 4 by omega), .inr ⟨Nat.le_trans (by omega) hc', fun j a b => by
        simp at b
        obtain rfl | rfl | rfl | rfl : j = i ∨ j = i + 1 ∨ j = i + 2 ∨ j = i + 3 := by omega
        · omega
        · exact h1'.2
        · exact h2'.2
        · exact h3'.2⟩⟩
    · exact bad
  rw [if_neg h3]
  exact bad

end Go.Proofs.Ythhdlmegbbmbhaa
