/- Rounds of coins, step by step, as the document makes them. -/
import Derived.Test.YtdpbjeajipggbaaRounds
namespace Go.Proofs.Ytdpbjeajipggbaa.Merge
set_option linter.unusedVariables false

def d0 : Coin := (0, [])

theorem pack_get : ∀ (l : List Coin) (p : Nat), 2 * p + 1 < l.length → (pack l).getD p d0 = ((l.getD (2 * p) d0).1 + (l.getD (2 * p + 1) d0).1, (l.getD (2 * p) d0).2 ++ (l.getD (2 * p + 1) d0).2)
  | [], p, h => by simp at h
  | [_], p, h => by simp at h
  | a :: b :: r, 0, h => by simp [pack]
  | a :: b :: r, p + 1, h => by
    have := pack_get r p (by simp at h; omega)
    rw [show 2 * (p + 1) = 2 * p + 1 + 1 by omega, show 2 * p + 1 + 1 + 1 = (2 * p + 1) + 1 + 1 by omega]
    simpa [pack] using this

theorem take_succ_get (l : List Coin) (p : Nat) (h : p < l.length) : l.take (p + 1) = l.take p ++ [l.getD p d0] := by
  rw [List.take_add_one, List.getElem?_eq_getElem h]
  simp [h]

theorem drop_get (l : List Coin) (p : Nat) (h : p < l.length) : l.drop p = l.getD p d0 :: l.drop (p + 1) := by
  rw [List.drop_eq_getElem_cons h]
  simp [h]

/-- merged so far -/
structure Mid (base pk next : List Coin) (i j : Nat) : Prop where
  eq : mrg base pk = next ++ mrg (base.drop j) (pk.drop i)
  ile : i ≤ pk.length
  jle : j ≤ base.length
  len : next.length = i + j

theorem Mid.start (base pk : List Coin) : Mid base pk [] 0 0 := ⟨by simp, by omega, by omega, rfl⟩

theorem Mid.pkg {base pk next : List Coin} {i j : Nat} (h : Mid base pk next i j) (hi : i < pk.length) (hj : j < base.length) (hlt : (pk.getD i d0).1 < (base.getD j d0).1) : Mid base pk (next ++ [pk.getD i d0]) (i + 1) j := by
  refine ⟨?_, by omega, h.jle, by simp [h.len]; omega⟩
  rw [h.eq, drop_get base j hj, drop_get pk i hi, mrg, if_pos hlt]
  simp

theorem Mid.own {base pk next : List Coin} {i j : Nat} (h : Mid base pk next i j) (hj : j < base.length) (hx : i = pk.length ∨ ¬ (pk.getD i d0).1 < (base.getD j d0).1) : Mid base pk (next ++ [base.getD j d0]) i (j + 1) := by
  refine ⟨?_, h.ile, by omega, by simp [h.len]; omega⟩
  rw [h.eq, drop_get base j hj]
  by_cases hi : i < pk.length
  · rw [drop_get pk i hi, mrg, if_neg (by rcases hx with hx | hx; omega; exact hx)]
    simp
  · rw [List.drop_eq_nil_of_le (show pk.length ≤ i by omega), mrg_nil_right, mrg_nil_right]
    simp

theorem Mid.done {base pk next : List Coin} {i j : Nat} (h : Mid base pk next i j) (hj : j = base.length) : mrg base pk = next ++ pk.drop i := by
  rw [h.eq, List.drop_eq_nil_of_le (by omega), mrg_nil_left]

theorem syms_pack_len : ∀ l : List Coin, (syms (pack l)).length ≤ (syms l).length
  | [] => by simp [pack, syms]
  | [_] => by simp [pack, syms]
  | a :: b :: r => by
    have := syms_pack_len r
    rw [pack, syms_cons, syms_cons, syms_cons]
    simp only [List.length_append]
    omega

theorem syms_mrg_len (A B : List Coin) : (syms (mrg A B)).length = (syms A).length + (syms B).length := by
  have h := mrg_take_st A B (A.length + B.length) (Nat.le_refl _)
  obtain ⟨h1, h2, h3⟩ := st_ok (fs A) (fs B) (A.length + B.length) (by rw [fs_length, fs_length]; exact Nat.le_refl _)
  rw [fs_length] at h2 h3
  have e := (syms_perm h).length_eq
  rw [List.take_of_length_le (by rw [mrg_length]; exact Nat.le_refl _), List.take_of_length_le (by omega), List.take_of_length_le (by omega), syms_append, List.length_append] at e
  exact e

theorem syms_rounds_len (base : List Coin) : ∀ k, (syms (rounds base k)).length ≤ (k + 1) * (syms base).length
  | 0 => by rw [rounds]; omega
  | k + 1 => by
    have h1 := syms_rounds_len base k
    have h2 := syms_pack_len (rounds base k)
    rw [rounds, syms_mrg_len, show (k + 1 + 1) * (syms base).length = (k + 1) * (syms base).length + (syms base).length by rw [Nat.succ_mul]]
    omega

theorem coin_syms {l : List Coin} {c : Coin} (h : c ∈ l) : c.2.length ≤ (syms l).length := by
  induction l with
  | nil => simp at h
  | cons a r ih =>
    rw [syms_cons, List.length_append]
    rcases List.mem_cons.1 h with rfl | h
    · omega
    · have := ih h; omega

theorem coin_worth {l : List Coin} {c : Coin} (h : c ∈ l) : c.1 ≤ worth l := by
  induction l with
  | nil => simp at h
  | cons a r ih =>
    rw [worth_cons]
    rcases List.mem_cons.1 h with rfl | h
    · omega
    · have := ih h; omega

/-- every symbol of the coins is one of these -/
def AllIn (P : Nat → Prop) (l : List Coin) : Prop := ∀ c ∈ l, ∀ s ∈ c.2, P s

theorem AllIn.pack {P : Nat → Prop} : ∀ {l : List Coin}, AllIn P l → AllIn P (Merge.pack l)
  | [], _ => by intro c hc; simp [Merge.pack] at hc
  | [_], _ => by intro c hc; simp [Merge.pack] at hc
  | a :: b :: r, h => by
    intro c hc s hs
    rw [Merge.pack] at hc
    rcases List.mem_cons.1 hc with rfl | hc
    · rcases List.mem_append.1 hs with hs | hs
      · exact h a (by simp) s hs
      · exact h b (by simp) s hs
    · exact AllIn.pack (l := r) (fun c hc => h c (by simp [hc])) c hc s hs

theorem AllIn.rounds {P : Nat → Prop} {base : List Coin} (h : AllIn P base) : ∀ k, AllIn P (Merge.rounds base k)
  | 0 => h
  | k + 1 => fun c hc => by
    rw [Merge.rounds] at hc
    rcases mem_mrg _ _ hc with hc | hc
    · exact h c hc
    · exact (AllIn.pack (AllIn.rounds h k)) c hc

theorem rounds_len (base : List Coin) : ∀ k, (rounds base k).length ≤ 2 * base.length
  | 0 => by rw [rounds]; omega
  | k + 1 => by
    have := rounds_len base k
    rw [rounds, mrg_length, pack_length]
    omega

theorem getD_mem_coin (l : List Coin) (i : Nat) (h : i < l.length) : l.getD i d0 ∈ l := by
  rw [List.getD_eq_getElem?_getD, List.getElem?_eq_getElem h]
  exact List.getElem_mem _

theorem syms_take_succ (l : List Coin) (i : Nat) (h : i < l.length) : syms (l.take (i + 1)) = syms (l.take i) ++ (l.getD i d0).2 := by
  rw [take_succ_get l i h, syms_append]
  simp [syms]

theorem base_syms_len (w : Nat → Nat) (order : List Nat) : (syms (baseOf w order)).length = order.length := by rw [base_syms]

end Go.Proofs.Ytdpbjeajipggbaa.Merge
