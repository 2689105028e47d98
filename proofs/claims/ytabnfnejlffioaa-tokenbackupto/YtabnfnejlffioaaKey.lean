/- Pieces as numbers. -/
import Derived.Test.YtabnfnejlffioaaLook
namespace Go.Proofs.Ytabnfnejlffioaa
open Go.RowKit
set_option linter.unusedVariables false

attribute [local go_sem ↓] Go.wp_at_zero Go.wp_at_succ

/-- k bytes from a place on are those from p on -/
def Same (z : Nat → Nat) (p x k : Nat) : Prop := ∀ i, i < k → z (x + i) = z (p + i)

theorem Same.mono {z : Nat → Nat} {p x k j : Nat} (h : Same z p x k) (hj : j ≤ k) : Same z p x j := fun i hi => h i (by omega)

theorem same_eqs {z : Nat → Nat} {p x k : Nat} (hx : x ≤ p) : Same z p x k ↔ Eqs z p (p - x) k := by
  constructor
  · intro h i hi
    rw [show p + i - (p - x) = x + i by omega]
    exact (h i hi).symm
  · intro h i hi
    have := h i hi
    rw [show p + i - (p - x) = x + i by omega] at this
    exact this.symm

/-- a piece as a number -/
def keyOf : List Nat → Nat := List.foldl (fun k c => k * 256 + c) 0

theorem keyOf_snoc (l : List Nat) (c : Nat) : keyOf (l ++ [c]) = keyOf l * 256 + c := by simp [keyOf]

theorem keyOf_take (l : List Nat) (k : Nat) (hk : k < l.length) : keyOf (l.take (k + 1)) = keyOf (l.take k) * 256 + l.getD k 0 := by
  rw [List.take_add_one, List.getElem?_eq_getElem hk]
  simp only [Option.toList_some]
  rw [keyOf_snoc]
  simp [List.getD, List.getElem?_eq_getElem hk]

theorem keyOf_lt : ∀ (n : Nat) (l : List Nat), l.length = n → (∀ c ∈ l, c < 256) → keyOf l < 256 ^ n
  | 0, l, h, _ => by
    have : l = [] := List.eq_nil_of_length_eq_zero h
    subst this
    decide
  | n + 1, l, h, hb => by
    rcases List.eq_nil_or_concat l with rfl | ⟨l', c, rfl⟩
    · simp at h
    · rw [List.concat_eq_append] at *
      rw [keyOf_snoc, Nat.pow_succ]
      have h1 := keyOf_lt n l' (by simpa using h) (fun x hx => hb x (by simp [hx]))
      have h2 := hb c (by simp)
      omega

theorem keyOf_inj : ∀ (n : Nat) (l m : List Nat), l.length = n → m.length = n → (∀ c ∈ l, c < 256) → (∀ c ∈ m, c < 256) → keyOf l = keyOf m → l = m
  | 0, l, m, h, h', _, _, _ => by rw [List.eq_nil_of_length_eq_zero h, List.eq_nil_of_length_eq_zero h']
  | n + 1, l, m, h, h', hb, hb', e => by
    rcases List.eq_nil_or_concat l with rfl | ⟨l', c, rfl⟩
    · simp at h
    · rcases List.eq_nil_or_concat m with rfl | ⟨m', c', rfl⟩
      · simp at h'
      · rw [List.concat_eq_append] at *
        rw [List.concat_eq_append] at *
        rw [keyOf_snoc, keyOf_snoc] at e
        have h1 := hb c (by simp)
        have h2 := hb' c' (by simp)
        have h3 := keyOf_inj n l' m' (by simpa using h) (by simpa using h') (fun x hx => hb x (by simp [hx])) (fun x hx => hb' x (by simp [hx])) (by omega)
        rw [h3, show c = c' by omega]

theorem or256 (V c u : Nat) (hV : V * 256 + 256 ≤ 18446744073709551616) (hc : c < 256) (hu : u = V * 256 + c) : bits .or .u64 ((V : Int) * 256) (c : Int) = (u : Int) := by
  have h := u64_or_nat (V * 256) c (by omega) (by omega)
  have e : ((V : Int) * 256) = ((V * 256 : Nat) : Int) := by simp
  rw [e, h, hu]
  have := Nat.two_pow_add_eq_or_of_lt (i := 8) (b := c) (by omega) V
  rw [show (2 : Nat) ^ 8 = 256 from rfl, Nat.mul_comm] at this
  rw [← this]

set_option maxRecDepth 100000 in
set_option maxHeartbeats 1000000 in
theorem key_loop (zs : List Nat) (a : Option Addr) (cap B : Nat) (w : World) (h1 : ReadsU B w (.slice a zs.length cap) zs) (hl : zs.length ≤ 8) (hb : ∀ c ∈ zs, c < 256) :
    Calls Try.prog 44 #[.slice a zs.length cap] w fun e w' => e = .returned (.int .u64 (keyOf zs : Int)) ∧ w' = w := by
  have H1 := hide h1
  have HB := hide hb
  clear h1 hb
  obtain ⟨n, hn⟩ : ∃ n, n = zs.length := ⟨_, rfl⟩
  rw [← hn] at H1 hl ⊢
  have HN := hide hn
  clear hn
  obtain ⟨K, hK⟩ : ∃ K, K = keyOf zs := ⟨_, rfl⟩
  rw [← hK]
  have HK := hide hK
  clear hK
  go_enter Try.func44, Try.ntmps44
  go_wp2_with fail
  go_loopg [3, 8] n (fun gk v d ws => ∃ (k V : Nat), gk = n - k ∧ k ≤ n ∧ Hid (V = keyOf (zs.take k)) ∧ v = .int .u64 (V : Int) ∧ d = .int .i64 (k : Int) ∧ ws = w)
  case atStart => exact ⟨0, 0, by omega, by omega, hide rfl, rfl, rfl, rfl⟩
  case round =>
    obtain ⟨k, V, rfl, hk, HV, rfl, rfl, rfl⟩ := hrel
    by_cases hlt : k < n
    · have hki : (k : Int) < (n : Int) := by omega
      obtain ⟨a', c', e, _, hs⟩ := unhide H1
      injection e with e1 e2 e3
      subst e1 e3
      clear e2
      obtain ⟨b1, off1, rfl, _, hcell1⟩ := hs (by rw [← unhide HN]; omega)
      have k1 := hcell1 k (by rw [← unhide HN]; exact hlt)
      obtain ⟨x, hx⟩ : ∃ x, x = zs.getD k 0 := ⟨_, rfl⟩
      rw [← hx] at k1
      have hx256 : x < 256 := by
        rw [hx]
        exact unhide HB _ (by
          rw [List.getD_eq_getElem?_getD, List.getElem?_eq_getElem (by rw [← unhide HN]; exact hlt)]
          exact List.getElem_mem _)
      have hV : V * 256 + 256 ≤ 18446744073709551616 := by
        have h3 : V < 256 ^ k := by
          rw [unhide HV]
          exact keyOf_lt k _ (by rw [List.length_take, ← unhide HN]; omega) (fun c hc => unhide HB c (List.mem_of_mem_take hc))
        have h4 : 256 ^ k ≤ 256 ^ 7 := Nat.pow_le_pow_right (by decide) (by omega)
        have h5 : 256 ^ 7 = 72057594037927936 := by decide
        omega
      have HV' : Hid (V * 256 + x = keyOf (zs.take (k + 1))) := hide (by rw [keyOf_take zs k (by rw [← unhide HN]; exact hlt), unhide HV, hx])
      obtain ⟨V', hV'⟩ : ∃ V', V' = V * 256 + x := ⟨_, rfl⟩
      rw [← hV'] at HV'
      have hor := or256 V x V' hV hx256 hV'
      clear hcell1 hs HV hx hV'
      go_wp2_with fail
      go_roundg (n - (k + 1))
      case measure => omega
      case rel => exact ⟨k + 1, V', rfl, by omega, HV', rfl, by go_num, rfl⟩
    · have hki : ¬ (k : Int) < (n : Int) := by omega
      have : V = K := by
        rw [unhide HV, unhide HK, List.take_of_length_le (by rw [← unhide HN]; omega)]
      subst this
      go_wp2_with fail
      go_ret
      exact ⟨rfl, rfl⟩

theorem key_ok (zs : List Nat) (v : Value) (B : Nat) (w : World) (h1 : ReadsU B w v zs) (hl : zs.length ≤ 8) (hb : ∀ c ∈ zs, c < 256) :
    Calls Try.prog 44 #[v] w fun e w' => e = .returned (.int .u64 (keyOf zs : Int)) ∧ w' = w := by
  obtain ⟨a, ca, rfl, hs1⟩ := id h1
  exact key_loop zs a ca B w h1 hl hb

end Go.Proofs.Ytabnfnejlffioaa
