/- The rounds of coins by what they are worth, and how many symbols are ahead of each place. (It names no program.) -/
import Derived.Test.YtdpbjeajipggbaaBest
namespace Go.Proofs.Ytdpbjeajipggbaa.Merge

/-- the first list's next goes ahead of the second's -/
def goes (A B : List Nat) (s : Nat × Nat) : Bool := decide (s.2 = B.length) || (decide (s.1 < A.length) && decide (A.getD s.1 0 ≤ B.getD s.2 0))

/-- how many of each have been taken after m steps -/
def st (A B : List Nat) : Nat → Nat × Nat
  | 0 => (0, 0)
  | m + 1 => if goes A B (st A B m) = true then ((st A B m).1 + 1, (st A B m).2) else ((st A B m).1, (st A B m).2 + 1)

def item (A B : List Nat) (m : Nat) : Nat := if goes A B (st A B m) = true then A.getD (st A B m).1 0 else B.getD (st A B m).2 0
def mgd (A B : List Nat) : List Nat := (List.range (A.length + B.length)).map (item A B)
def ahd (A B : List Nat) : List Nat := (List.range (A.length + B.length + 1)).map fun m => (st A B m).1

theorem goes_iff {A B : List Nat} {i j : Nat} : goes A B (i, j) = true ↔ j = B.length ∨ i < A.length ∧ A.getD i 0 ≤ B.getD j 0 := by
  simp [goes]

theorem st_ok (A B : List Nat) : ∀ m, m ≤ A.length + B.length → (st A B m).1 + (st A B m).2 = m ∧ (st A B m).1 ≤ A.length ∧ (st A B m).2 ≤ B.length
  | 0, _ => by simp [st]
  | m + 1, h => by
    obtain ⟨h1, h2, h3⟩ := st_ok A B m (by omega)
    obtain ⟨⟨i, j⟩, hs⟩ : ∃ s, st A B m = s := ⟨_, rfl⟩
    rw [hs] at h1 h2 h3
    simp only at h1 h2 h3
    rw [st, hs]
    by_cases hg : goes A B (i, j) = true
    · rw [if_pos hg]
      rw [goes_iff] at hg
      simp only
      omega
    · rw [if_neg hg]
      rw [goes_iff] at hg
      simp only
      omega

theorem mgd_length (A B : List Nat) : (mgd A B).length = A.length + B.length := by simp [mgd]
theorem ahd_length (A B : List Nat) : (ahd A B).length = A.length + B.length + 1 := by simp [ahd]
theorem ahd_get (A B : List Nat) (m : Nat) (h : m ≤ A.length + B.length) : (ahd A B).getD m 0 = (st A B m).1 := by
  simp [ahd, List.getD_eq_getElem?_getD, List.getElem?_range (show m < A.length + B.length + 1 by omega)]

def fs (l : List Coin) : List Nat := l.map Prod.fst
theorem fs_length (l : List Coin) : (fs l).length = l.length := by simp [fs]
theorem fs_get (l : List Coin) (i : Nat) (h : i < l.length) : (fs l).getD i 0 = (l[i]).1 := by simp [fs, h]

theorem mrg_step (A B : List Coin) : ∀ m, m ≤ A.length + B.length → ∃ P, mrg A B = P ++ mrg (A.drop (st (fs A) (fs B) m).1) (B.drop (st (fs A) (fs B) m).2) ∧ P.length = m ∧
    P.Perm (A.take (st (fs A) (fs B) m).1 ++ B.take (st (fs A) (fs B) m).2) ∧ fs P = (List.range m).map (item (fs A) (fs B))
  | 0, _ => ⟨[], by simp [st], rfl, by simp [st], rfl⟩
  | m + 1, h => by
    obtain ⟨P, h1, h2, h3, h4⟩ := mrg_step A B m (by omega)
    have hok := st_ok (fs A) (fs B) m (by rw [fs_length, fs_length]; omega)
    rw [fs_length, fs_length] at hok
    have hit : item (fs A) (fs B) m = if goes (fs A) (fs B) (st (fs A) (fs B) m) = true then (fs A).getD (st (fs A) (fs B) m).1 0 else (fs B).getD (st (fs A) (fs B) m).2 0 := rfl
    obtain ⟨⟨i, j⟩, hs⟩ : ∃ s, st (fs A) (fs B) m = s := ⟨_, rfl⟩
    rw [hs] at h1 h3 hok hit
    simp only at h1 h3 hok hit
    rw [st, hs]
    by_cases hg : goes (fs A) (fs B) (i, j) = true
    · rw [if_pos hg]
      rw [if_pos hg] at hit
      rw [goes_iff, fs_length, fs_length] at hg
      have hi : i < A.length := by omega
      simp only
      refine ⟨P ++ [A[i]], ?_, by simp [h2], ?_, ?_⟩
      · rw [h1, List.append_assoc]
        congr 1
        rw [List.drop_eq_getElem_cons hi]
        by_cases hj : j = B.length
        · rw [hj, List.drop_length, mrg_nil_right, mrg_nil_right]; rfl
        · have hj' : j < B.length := by omega
          have hle : (A[i]).1 ≤ (B[j]).1 := by
            have := (hg.resolve_left hj).2
            rwa [fs_get A i hi, fs_get B j hj'] at this
          rw [List.drop_eq_getElem_cons hj']
          rw [mrg, if_neg (by omega)]
          rfl
      · rw [show A.take (i + 1) = A.take i ++ [A[i]] from (List.take_append_getElem hi).symm]
        refine (h3.append_right _).trans ?_
        rw [List.append_assoc, List.append_assoc]
        exact List.Perm.append_left _ List.perm_append_comm
      · rw [List.range_succ, List.map_append, ← h4]
        have e : fs (P ++ [A[i]]) = fs P ++ [(A[i]).1] := by simp [fs]
        rw [e, List.map_cons, List.map_nil, hit, fs_get A i hi]
    · rw [if_neg hg]
      rw [if_neg hg] at hit
      rw [goes_iff, fs_length, fs_length] at hg
      have hj : j < B.length := by omega
      simp only
      refine ⟨P ++ [B[j]], ?_, by simp [h2], ?_, ?_⟩
      · rw [h1, List.append_assoc]
        congr 1
        rw [List.drop_eq_getElem_cons hj]
        by_cases hi : i = A.length
        · rw [hi, List.drop_length, mrg_nil_left, mrg_nil_left]; rfl
        · have hi' : i < A.length := by omega
          have hlt : (B[j]).1 < (A[i]).1 := by
            refine Nat.lt_of_not_le fun hc => hg (.inr ⟨hi', ?_⟩)
            rw [fs_get A i hi', fs_get B j hj]
            exact hc
          rw [List.drop_eq_getElem_cons hi']
          rw [mrg, if_pos hlt]
          rfl
      · rw [show B.take (j + 1) = B.take j ++ [B[j]] from (List.take_append_getElem hj).symm]
        refine (h3.append_right _).trans ?_
        rw [List.append_assoc]
      · rw [List.range_succ, List.map_append, ← h4]
        have e : fs (P ++ [B[j]]) = fs P ++ [(B[j]).1] := by simp [fs]
        rw [e, List.map_cons, List.map_nil, hit, fs_get B j hj]

theorem mrg_fs (A B : List Coin) : fs (mrg A B) = mgd (fs A) (fs B) := by
  obtain ⟨P, h1, h2, h3, h4⟩ := mrg_step A B (A.length + B.length) (Nat.le_refl _)
  have hl := congrArg List.length h1
  rw [mrg_length, List.length_append, h2] at hl
  have h0 : mrg (A.drop (st (fs A) (fs B) (A.length + B.length)).1) (B.drop (st (fs A) (fs B) (A.length + B.length)).2) = [] := List.length_eq_zero_iff.1 (by omega)
  rw [h1, h0, List.append_nil, h4]
  unfold mgd
  rw [fs_length, fs_length]

theorem mrg_take_st (A B : List Coin) (m : Nat) (h : m ≤ A.length + B.length) : ((mrg A B).take m).Perm (A.take (st (fs A) (fs B) m).1 ++ B.take (st (fs A) (fs B) m).2) := by
  obtain ⟨P, h1, h2, h3, h4⟩ := mrg_step A B m h
  rw [h1, List.take_append_of_le_length (by omega), List.take_of_length_le (by omega)]
  exact h3

def packW (zs : List Nat) : List Nat := (List.range (zs.length / 2)).map fun i => zs.getD (2 * i) 0 + zs.getD (2 * i + 1) 0
theorem packW_length (zs : List Nat) : (packW zs).length = zs.length / 2 := by simp [packW]

theorem pack_fs : ∀ l : List Coin, fs (pack l) = packW (fs l)
  | [] => rfl
  | [x] => by simp [pack, packW, fs]
  | a :: b :: r => by
    rw [pack]
    show (a.1 + b.1) :: fs (pack r) = _
    rw [pack_fs r]
    unfold packW
    rw [show (fs (a :: b :: r)).length / 2 = (fs r).length / 2 + 1 by simp [fs]; omega, List.range_succ_eq_map, List.map_cons, List.map_map]
    congr 1

/-- what the packages are worth that the round k + 1 is made of, and the round -/
def bk (wl : List Nat) : Nat → List Nat
  | 0 => []
  | k + 1 => packW (mgd wl (bk wl k))

def wr (wl : List Nat) (k : Nat) : List Nat := mgd wl (bk wl k)

def coins (base : List Coin) : Nat → List Coin
  | 0 => []
  | k + 1 => pack (rounds base k)

theorem rounds_mrg (base : List Coin) (k : Nat) : rounds base k = mrg base (coins base k) := by
  cases k with
  | zero => exact (mrg_nil_right base).symm
  | succ k => rfl

theorem bk_fs (base : List Coin) : ∀ k, fs (coins base k) = bk (fs base) k ∧ fs (rounds base k) = wr (fs base) k
  | 0 => ⟨rfl, by rw [rounds_mrg, mrg_fs]; rfl⟩
  | k + 1 => by
    have h := bk_fs base k
    have h1 : fs (coins base (k + 1)) = bk (fs base) (k + 1) := by
      show fs (pack (rounds base k)) = packW (mgd (fs base) (bk (fs base) k))
      rw [pack_fs, h.2]
      rfl
    exact ⟨h1, by rw [rounds_mrg, mrg_fs, h1]; rfl⟩

theorem wr_length (wl : List Nat) (k : Nat) : (wr wl k).length = wl.length + (bk wl k).length := mgd_length _ _
theorem bk_length (wl : List Nat) : ∀ k, (bk wl k).length ≤ wl.length
  | 0 => by simp [bk]
  | k + 1 => by
    have := bk_length wl k
    show (packW (mgd wl (bk wl k))).length ≤ _
    rw [packW_length, mgd_length]
    omega
theorem bk_succ_length (wl : List Nat) (k : Nat) : (bk wl (k + 1)).length = (wr wl k).length / 2 := packW_length _

/-! ### What is taken -/

def alone (wl : List Nat) (k t : Nat) : Nat := (st wl (bk wl k) t).1

theorem alone_le (wl : List Nat) (k t : Nat) (h : t ≤ (wr wl k).length) : alone wl k t ≤ wl.length ∧ alone wl k t ≤ t ∧ t - alone wl k t ≤ (bk wl k).length := by
  have := st_ok wl (bk wl k) t (by rw [← wr_length]; exact h)
  unfold alone
  omega

theorem alone_next (wl : List Nat) (k t : Nat) (h : t ≤ (wr wl (k + 1)).length) : 2 * (t - alone wl (k + 1) t) ≤ (wr wl k).length := by
  have := (alone_le wl (k + 1) t h).2.2
  rw [bk_succ_length] at this
  omega

/-- how often a symbol is in the first t coins of the round k + 1 -/
def cnt (order wl : List Nat) : Nat → Nat → Nat → Nat
  | 0, t, i => (order.take (alone wl 0 t)).count i
  | k + 1, t, i => (order.take (alone wl (k + 1) t)).count i + cnt order wl k (2 * (t - alone wl (k + 1) t)) i

theorem syms_perm {a b : List Coin} (h : a.Perm b) : (syms a).Perm (syms b) := List.Perm.flatMap_right _ h

theorem cnt_ok (w : Nat → Nat) (order : List Nat) (i : Nat) : ∀ k t, t ≤ (wr (fs (baseOf w order)) k).length → cnt order (fs (baseOf w order)) k t i = (syms ((rounds (baseOf w order) k).take t)).count i
  | 0, t, h => by
    have h2 := mrg_take_st (baseOf w order) [] t (by rw [wr_length, fs_length] at h; exact h)
    rw [rounds_mrg]
    show _ = (syms ((mrg (baseOf w order) []).take t)).count i
    rw [(syms_perm h2).count_eq]
    simp only [List.take_nil, List.append_nil, base_take, base_syms]
    rfl
  | k + 1, t, h => by
    have hl : (bk (fs (baseOf w order)) (k + 1)).length = (coins (baseOf w order) (k + 1)).length := by rw [← (bk_fs (baseOf w order) (k + 1)).1, fs_length]
    have h2 := mrg_take_st (baseOf w order) (coins (baseOf w order) (k + 1)) t (by rw [wr_length, fs_length, hl] at h; exact h)
    have hst := st_ok (fs (baseOf w order)) (bk (fs (baseOf w order)) (k + 1)) t (by rw [← wr_length]; exact h)
    rw [(bk_fs (baseOf w order) (k + 1)).1] at h2
    rw [rounds_mrg, (syms_perm h2).count_eq, syms_append, List.count_append, base_take, base_syms]
    have hb : 2 * (st (fs (baseOf w order)) (bk (fs (baseOf w order)) (k + 1)) t).2 ≤ (rounds (baseOf w order) k).length := by
      have h3 := hst.2.2
      rw [bk_succ_length, ← (bk_fs (baseOf w order) k).2, fs_length] at h3
      omega
    show (order.take (alone _ (k + 1) t)).count i + cnt order _ k (2 * (t - alone _ (k + 1) t)) i = _ + (syms ((pack (rounds (baseOf w order) k)).take _)).count i
    rw [pack_syms _ _ hb, cnt_ok w order i k _ (alone_next _ k t h)]
    have e : t - alone (fs (baseOf w order)) (k + 1) t = (st (fs (baseOf w order)) (bk (fs (baseOf w order)) (k + 1)) t).2 := by unfold alone; omega
    rw [e]
    rfl

/-! ### What coins may be worth -/

theorem worth_perm {a b : List Coin} (h : a.Perm b) : worth a = worth b := (h.map Prod.fst).sum_nat
theorem worth_pack : ∀ l : List Coin, worth (pack l) ≤ worth l
  | [] => by simp [pack, worth]
  | [_] => by simp [pack, worth]
  | a :: b :: r => by
    have := worth_pack r
    rw [pack, worth_cons, worth_cons, worth_cons]
    simp only
    omega
theorem worth_mrg (A B : List Coin) : worth (mrg A B) = worth A + worth B := by
  have h := mrg_take_st A B (A.length + B.length) (Nat.le_refl _)
  have hst := st_ok (fs A) (fs B) (A.length + B.length) (by rw [fs_length, fs_length]; omega)
  rw [fs_length, fs_length] at hst
  rw [List.take_of_length_le (by rw [mrg_length]; omega), List.take_of_length_le (by omega), List.take_of_length_le (by omega)] at h
  rw [worth_perm h, worth_append]

theorem worth_rounds (base : List Coin) : ∀ k, worth (rounds base k) ≤ (k + 1) * worth base
  | 0 => by simp [rounds]
  | k + 1 => by
    have h1 := worth_rounds base k
    have h2 := worth_pack (rounds base k)
    rw [rounds, worth_mrg, show (k + 1 + 1) * worth base = (k + 1) * worth base + worth base by rw [Nat.add_mul, Nat.one_mul]]
    omega

theorem mem_le_sum : ∀ {l : List Nat} {x : Nat}, x ∈ l → x ≤ l.sum
  | y :: r, x, h => by
    rw [List.sum_cons]
    rcases List.mem_cons.1 h with rfl | h
    · omega
    · have := mem_le_sum h; omega

theorem wr_le (base : List Coin) (k : Nat) : ∀ x ∈ wr (fs base) k, x ≤ (k + 1) * worth base := fun x hx => by
  rw [← (bk_fs base k).2] at hx
  exact Nat.le_trans (mem_le_sum hx) (worth_rounds base k)

end Go.Proofs.Ytdpbjeajipggbaa.Merge
