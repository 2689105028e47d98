/- Chunks of layer 15, as lists of bytes tell them. No program is named. -/
import Derived.WalkKit
namespace Go.Proofs.Ythafoojlkaifkaa.K
set_option linter.unusedVariables false

/-- a chunk that is told: its kind, how many bytes come out, where its own bytes begin and how many they are; or an error -/
inductive Ck where
  | err (e : Nat)
  | told (kind n start size : Nat)

def two (b : List Nat) (p : Nat) : Nat := b.getD p 0 * 256 + b.getD (p + 1) 0 + 1
def propsB (x : Nat) : Bool := decide (x / 45 ≤ 4) && decide (x % 9 + x / 9 % 5 ≤ 4)
def badK (k : Nat) (first props : Bool) : Bool := (decide (2 < k) && decide (k < 128)) || (first && decide (1 < k) && decide (k < 224)) || (decide (128 ≤ k) && decide (k < 192) && !props)

/-- the chunk at p -/
def ckF (b : List Nat) (p : Nat) (first props : Bool) (room : Nat) : Ck :=
  if b.length < p + 1 then .err 10
  else if badK (b.getD p 0) first props then .err 11
  else if b.getD p 0 = 0 then .told 0 0 (p + 1) 0
  else if b.length < p + 3 then .err 10
  else if b.getD p 0 < 128 then
    if room < two b (p + 1) then .err 3
    else if b.length < p + 3 + two b (p + 1) then .err 10
    else .told (b.getD p 0) (two b (p + 1)) (p + 3) (two b (p + 1))
  else if b.length < p + 5 then .err 10
  else if room < two b (p + 1) + b.getD p 0 % 32 * 65536 then .err 3
  else if b.getD p 0 < 192 then
    if b.length < p + 5 + two b (p + 3) then .err 10
    else .told (b.getD p 0) (two b (p + 1) + b.getD p 0 % 32 * 65536) (p + 5) (two b (p + 3))
  else if b.length < p + 6 then .err 10
  else if propsB (b.getD (p + 5) 0) = false then .err 11
  else if b.length < p + 6 + two b (p + 3) then .err 10
  else .told (b.getD p 0) (two b (p + 1) + b.getD p 0 % 32 * 65536) (p + 6) (two b (p + 3))

def nextP (k : Nat) (props : Bool) : Bool := decide (192 ≤ k) || (props && !decide (k = 1))

/-- chunks from p on: an error, or where they end, and their sizes -/
def vF (b : List Nat) : Nat → Nat → Bool → Bool → List Nat → Nat × Nat × List Nat
  | 0, _, _, _, _ => (10, 0, [])
  | f + 1, p, first, props, acc =>
    match ckF b p first props 1099511627776 with
    | .err e => (e, 0, [])
    | .told k n s m => if k = 0 then (0, s, acc) else vF b f (s + m) false (nextP k props) (acc ++ [n])

theorem vF_err {b : List Nat} {f p : Nat} {first props : Bool} {acc : List Nat} {e : Nat} (h : ckF b p first props 1099511627776 = .err e) : vF b (f + 1) p first props acc = (e, 0, []) := by rw [vF, h]
theorem vF_end {b : List Nat} {f p : Nat} {first props : Bool} {acc : List Nat} {n s m : Nat} (h : ckF b p first props 1099511627776 = .told 0 n s m) : vF b (f + 1) p first props acc = (0, s, acc) := by rw [vF, h]; simp
theorem vF_more {b : List Nat} {f p : Nat} {first props : Bool} {acc : List Nat} {k n s m : Nat} (h : ckF b p first props 1099511627776 = .told k n s m) (hk : k ≠ 0) : vF b (f + 1) p first props acc = vF b f (s + m) false (nextP k props) (acc ++ [n]) := by rw [vF, h]; simp [hk]

theorem two_le {b : List Nat} (hb : ∀ x ∈ b, x < 256) (p : Nat) : two b p ≤ 65536 ∧ 1 ≤ two b p := by
  have h : ∀ i, b.getD i 0 < 256 := fun i => by
    rw [List.getD_eq_getElem?_getD]
    by_cases hi : i < b.length
    · rw [List.getElem?_eq_getElem hi]; exact hb _ (List.getElem_mem _)
    · rw [List.getElem?_eq_none (by omega)]; simp
  unfold two
  have := h p; have := h (p + 1)
  omega

theorem ck_told {b : List Nat} (hb : ∀ x ∈ b, x < 256) {p : Nat} {first props : Bool} {room k n s m : Nat} (h : ckF b p first props room = .told k n s m) :
    k < 256 ∧ n ≤ 2097152 ∧ p + 1 ≤ s ∧ s + m ≤ b.length ∧ n ≤ room ∧ (k ≠ 0 → p + 4 ≤ s + m) ∧ (k = 0 → s = p + 1 ∧ m = 0) := by
  have h0 : ∀ i, b.getD i 0 < 256 := fun i => by
    rw [List.getD_eq_getElem?_getD]
    by_cases hi : i < b.length
    · rw [List.getElem?_eq_getElem hi]; exact hb _ (List.getElem_mem _)
    · rw [List.getElem?_eq_none (by omega)]; simp
  have k0 := h0 p
  have t1 := two_le hb (p + 1)
  have t2 := two_le hb (p + 3)
  unfold ckF at h
  generalize two b (p + 1) = A at *
  generalize two b (p + 3) = C at *
  generalize b.getD p 0 = K at *
  have hK : ∀ {k' n' s' m' : Nat}, Ck.told k' n' s' m' = .told k n s m → k' = k ∧ n' = n ∧ s' = s ∧ m' = m := fun e => by injection e with a b c d; exact ⟨a, b, c, d⟩
  have hE : ∀ {e : Nat}, Ck.err e ≠ .told k n s m := fun e => by cases e
  rcases Nat.lt_or_ge b.length (p + 1) with c1 | c1
  · rw [if_pos c1] at h; exact absurd h hE
  rw [if_neg (by omega)] at h
  cases hbk : badK K first props
  rotate_left 1
  · rw [hbk, if_pos rfl] at h; exact absurd h hE
  rw [hbk, if_neg (by simp)] at h
  by_cases c2 : K = 0
  · rw [if_pos c2] at h; obtain ⟨rfl, rfl, rfl, rfl⟩ := hK h; exact ⟨by omega, by omega, by omega, by omega, by omega, fun e => absurd rfl e, fun _ => ⟨rfl, rfl⟩⟩
  rw [if_neg c2] at h
  by_cases c3 : b.length < p + 3
  · rw [if_pos c3] at h; exact absurd h hE
  rw [if_neg c3] at h
  by_cases c4 : K < 128
  · rw [if_pos c4] at h
    by_cases c5 : room < A
    · rw [if_pos c5] at h; exact absurd h hE
    rw [if_neg c5] at h
    by_cases c6 : b.length < p + 3 + A
    · rw [if_pos c6] at h; exact absurd h hE
    rw [if_neg c6] at h
    obtain ⟨rfl, rfl, rfl, rfl⟩ := hK h
    exact ⟨by omega, by omega, by omega, by omega, by omega, fun _ => by omega, fun e => absurd e c2⟩
  rw [if_neg c4] at h
  by_cases c5 : b.length < p + 5
  · rw [if_pos c5] at h; exact absurd h hE
  rw [if_neg c5] at h
  by_cases c6 : room < A + K % 32 * 65536
  · rw [if_pos c6] at h; exact absurd h hE
  rw [if_neg c6] at h
  by_cases c7 : K < 192
  · rw [if_pos c7] at h
    by_cases c8 : b.length < p + 5 + C
    · rw [if_pos c8] at h; exact absurd h hE
    rw [if_neg c8] at h
    obtain ⟨rfl, rfl, rfl, rfl⟩ := hK h
    exact ⟨by omega, by omega, by omega, by omega, by omega, fun _ => by omega, fun e => absurd e c2⟩
  rw [if_neg c7] at h
  by_cases c8 : b.length < p + 6
  · rw [if_pos c8] at h; exact absurd h hE
  rw [if_neg c8] at h
  cases hpr : propsB (b.getD (p + 5) 0)
  · rw [hpr, if_pos rfl] at h; exact absurd h hE
  rw [hpr, if_neg (by simp)] at h
  by_cases c9 : b.length < p + 6 + C
  · rw [if_pos c9] at h; exact absurd h hE
  rw [if_neg c9] at h
  obtain ⟨rfl, rfl, rfl, rfl⟩ := hK h
  exact ⟨by omega, by omega, by omega, by omega, by omega, fun _ => by omega, fun e => absurd e c2⟩
end Go.Proofs.Ythafoojlkaifkaa.K
