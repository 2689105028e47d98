/- The order of pieces, and what lies in what: plain mathematics, no program named. -/
import Derived.Test.YthhdlmegbbmbhaaMa
namespace Go.Proofs.Ythhdlmegbbmbhaa

/-- lists held against one another by their members -/
def lexF {α : Type} (f : α → α → Int) : List α → List α → Int
  | [], [] => 0
  | [], _ :: _ => -1
  | _ :: _, [] => 1
  | a :: x, b :: y => if f a b ≠ 0 then f a b else lexF f x y

structure Cmp {α : Type} (f : α → α → Int) : Prop where
  vals : ∀ a b, f a b = -1 ∨ f a b = 0 ∨ f a b = 1
  anti : ∀ a b, f b a = - f a b
  eq : ∀ a b, f a b = 0 → a = b
  self : ∀ a, f a a = 0
  trans : ∀ a b c, f a b ≤ 0 → f b c ≤ 0 → f a c ≤ 0

theorem Cmp.lex {α : Type} {f : α → α → Int} (h : Cmp f) : Cmp (lexF f) := by
  have vals : ∀ a b, lexF f a b = -1 ∨ lexF f a b = 0 ∨ lexF f a b = 1 := by
    intro a
    induction a with
    | nil => intro b; cases b <;> simp [lexF]
    | cons x r ih =>
      intro b
      cases b with
      | nil => simp [lexF]
      | cons y s =>
        unfold lexF
        split
        · exact h.vals x y
        · exact ih s
  have anti : ∀ a b, lexF f b a = - lexF f a b := by
    intro a
    induction a with
    | nil => intro b; cases b <;> simp [lexF]
    | cons x r ih =>
      intro b
      cases b with
      | nil => simp [lexF]
      | cons y s =>
        have e := h.anti x y
        unfold lexF
        by_cases h0 : f x y = 0
        · have h1 : f y x = 0 := by omega
          rw [if_neg (by simpa using h1), if_neg (by simpa using h0)]
          exact ih s
        · have h1 : f y x ≠ 0 := by omega
          rw [if_pos h1, if_pos h0, e]
  have eq : ∀ a b, lexF f a b = 0 → a = b := by
    intro a
    induction a with
    | nil => intro b; cases b <;> simp [lexF]
    | cons x r ih =>
      intro b
      cases b with
      | nil => simp [lexF]
      | cons y s =>
        unfold lexF
        split
        · rename_i hn; intro h0; exact absurd h0 hn
        · rename_i hn
          intro h0
          rw [h.eq x y (by simpa using hn), ih s h0]
  have self : ∀ a, lexF f a a = 0 := by
    intro a
    induction a with
    | nil => rfl
    | cons x r ih => unfold lexF; rw [if_neg (by simp [h.self])]; exact ih
  refine ⟨vals, anti, eq, self, ?_⟩
  intro a
  induction a with
  | nil => intro b c _ _; cases c <;> simp [lexF]
  | cons x r ih =>
    intro b c hab hbc
    cases b with
    | nil => simp [lexF] at hab
    | cons y s =>
      cases c with
      | nil => simp [lexF] at hbc
      | cons z t =>
        unfold lexF at hab hbc ⊢
        have vxy := h.vals x y
        have vyz := h.vals y z
        by_cases h1 : f x y = 0
        · have exy := h.eq x y h1
          subst exy
          rw [if_neg (by simpa using h1)] at hab
          by_cases h2 : f x z = 0
          · rw [if_neg (by simpa using h2)] at hbc ⊢
            exact ih s t hab hbc
          · rw [if_pos h2] at hbc ⊢
            exact hbc
        · rw [if_pos h1] at hab
          have hyz : f y z ≤ 0 := by
            by_cases h2 : f y z = 0
            · omega
            · rw [if_pos h2] at hbc; exact hbc
          have hxz := h.trans x y z hab hyz
          by_cases h3 : f x z = 0
          · have e := h.eq x z h3
            subst e
            have := h.anti x y
            omega
          · rw [if_pos h3]; exact hxz

/-- what stands between a list and one that begins with it begins with it, too -/
theorem Cmp.between {α : Type} {f : α → α → Int} (h : Cmp f) : ∀ a b c : List α, lexF f a b < 0 → lexF f b c < 0 → a <+: c → a <+: b := by
  intro a
  induction a with
  | nil => intro b c _ _ _; exact List.nil_prefix
  | cons x r ih =>
    intro b c hab hbc hp
    obtain ⟨t, rfl⟩ := hp
    cases b with
    | nil => simp [lexF] at hab
    | cons y s =>
      rw [List.cons_append] at hbc
      unfold lexF at hab hbc
      have e := h.anti x y
      have v := h.vals x y
      by_cases h1 : f x y = 0
      · have exy := h.eq x y h1
        subst exy
        rw [if_neg (by simp [h1])] at hab hbc
        exact (List.cons_prefix_cons).2 ⟨rfl, ih s _ hab hbc (List.prefix_append _ _)⟩
      · rw [if_pos h1] at hab
        rw [if_pos (by omega)] at hbc
        omega

def cmpU (x y : UInt8) : Int := if x < y then -1 else if y < x then 1 else 0

theorem cmpU_cmp : Cmp cmpU := by
  have lt : ∀ x y : UInt8, x < y ↔ x.toNat < y.toNat := fun x y => UInt8.lt_iff_toNat_lt
  have inj : ∀ x y : UInt8, x.toNat = y.toNat → x = y := fun x y h => UInt8.toNat.inj h
  refine ⟨fun a b => ?_, fun a b => ?_, fun a b h => ?_, fun a => ?_, fun a b c h1 h2 => ?_⟩ <;> simp only [cmpU, lt] at *
  · split <;> (try split) <;> omega
  · split <;> (try split) <;> (try split) <;> (try split) <;> omega
  · apply inj
    split at h <;> (try split at h) <;> omega
  · simp
  · split at h1 <;> (try split at h1) <;> split at h2 <;> (try split at h2) <;> split <;> (try split) <;> omega

theorem cmpB_lex (a b : List UInt8) : Lib.compareBytes a b = lexF cmpU a b := by
  induction a generalizing b with
  | nil => cases b <;> rfl
  | cons x r ih =>
    cases b with
    | nil => rfl
    | cons y s =>
      unfold Lib.compareBytes lexF
      by_cases h1 : x < y
      · simp [cmpU, h1]
      · by_cases h2 : y < x
        · simp [cmpU, h1, h2]
        · simp [cmpU, h1, h2, ih s]

theorem cmpB_cmp : Cmp Lib.compareBytes := by
  have e : Lib.compareBytes = lexF cmpU := funext fun a => funext fun b => cmpB_lex a b
  rw [e]
  exact cmpU_cmp.lex

theorem cmpPs_lex (a b : List (List UInt8)) : cmpPs a b = lexF Lib.compareBytes a b := by
  induction a generalizing b with
  | nil => cases b <;> rfl
  | cons x r ih =>
    cases b with
    | nil => rfl
    | cons y s =>
      unfold cmpPs lexF
      rw [ih s]

theorem cmpPs_cmp : Cmp cmpPs := by
  have e : cmpPs = lexF Lib.compareBytes := funext fun a => funext fun b => cmpPs_lex a b
  rw [e]
  exact cmpB_cmp.lex

theorem cmpPs_between (a b c : List (List UInt8)) (h1 : cmpPs a b < 0) (h2 : cmpPs b c < 0) (h : a <+: c) : a <+: b := by
  rw [cmpPs_lex] at h1 h2
  exact cmpB_cmp.between a b c h1 h2 h

theorem pcs_inj {a b : List UInt8} (h : pcs a = pcs b) : a = b := by rw [← jn_pcs a, ← jn_pcs b, h]

theorem pcs_app (f r : List UInt8) : pcs (f ++ 47 :: r) = pcs f ++ pcs r := by
  induction f with
  | nil => rw [List.nil_append]; conv => lhs; unfold pcs
           rw [if_pos rfl]; rfl
  | cons b q ih =>
    rw [List.cons_append]
    conv => lhs; unfold pcs
    conv => rhs; lhs; unfold pcs
    split
    · rw [ih]; rfl
    · rw [ih]
      have := pcs_ne q
      revert this
      cases pcs q with
      | nil => intro h; exact absurd rfl h
      | cons x y => intro _; rfl

theorem jn_app (a b : List (List UInt8)) (ha : a ≠ []) (hb : b ≠ []) : jn (a ++ b) = jn a ++ 47 :: jn b := by
  induction a with
  | nil => exact absurd rfl ha
  | cons x r ih =>
    cases r with
    | nil => rw [List.cons_append, List.nil_append, jn_cons hb]; rfl
    | cons y s =>
      have e : jn (x :: y :: s) = x ++ 47 :: jn (y :: s) := rfl
      rw [List.cons_append, jn_cons (by simp), ih (by simp), e, List.append_assoc, List.cons_append]

/-- s lies in f -/
def withinL (s f : List UInt8) : Bool := validL s && validL f && decide (pcs f <+: pcs s) && decide ((pcs f).length < (pcs s).length)

theorem within_iff (s f : List UInt8) : (pcs f <+: pcs s ∧ (pcs f).length < (pcs s).length) ↔ ∃ r, s = f ++ 47 :: r := by
  constructor
  · rintro ⟨⟨t, ht⟩, hl⟩
    have h0 : t ≠ [] := by
      rintro rfl
      rw [← ht] at hl
      simp at hl
    refine ⟨jn t, ?_⟩
    rw [← jn_pcs s, ← ht, jn_app _ _ (pcs_ne f) h0, jn_pcs]
  · rintro ⟨r, rfl⟩
    rw [pcs_app]
    refine ⟨List.prefix_append _ _, ?_⟩
    have := List.length_pos_iff.2 (pcs_ne r)
    rw [List.length_append]
    omega

theorem withinL_is (s f : List UInt8) : withinL s f = (Lib.hasPrefix s f && Lib.hasPrefix (Lib.trimPrefix s f) [47] && validL s && validL f) := by
  have h : (decide (pcs f <+: pcs s) && decide ((pcs f).length < (pcs s).length)) = (Lib.hasPrefix s f && Lib.hasPrefix (Lib.trimPrefix s f) [47]) := by
    rw [Bool.eq_iff_iff]
    simp only [Bool.and_eq_true, decide_eq_true_eq]
    rw [within_iff]
    unfold Lib.trimPrefix Lib.hasPrefix
    constructor
    · rintro ⟨r, rfl⟩
      have h1 : f.isPrefixOf (f ++ 47 :: r) = true := List.isPrefixOf_iff_prefix.2 (List.prefix_append _ _)
      refine ⟨h1, ?_⟩
      rw [if_pos h1]
      simp
    · rintro ⟨h1, h2⟩
      rw [if_pos h1] at h2
      obtain ⟨t, rfl⟩ := List.isPrefixOf_iff_prefix.1 h1
      obtain ⟨r, hr⟩ := List.isPrefixOf_iff_prefix.1 h2
      refine ⟨r, ?_⟩
      simp at hr
      rw [← hr]
  unfold withinL
  rw [Bool.and_assoc, h]
  cases validL s <;> cases validL f <;> simp

end Go.Proofs.Ythhdlmegbbmbhaa
