/- An act at the encoder, and the same act at the decoder. -/
import Derived.Test.YtbolhbjipmndeaaBm
import Derived.Test.YtbolhbjipmndeaaQf
namespace Go.Proofs.Ytbolhbjipmndeaa.D
open Go.RowKit Rang
set_option maxRecDepth 100000
set_option linter.unusedVariables false

/-- where the encoder stands -/
def PSta (B : Nat) (w : World) (pb gc : Nat) (ov : Value) (s : Sta) : Prop := PC B w pb gc ov s.c s.ch ∧ Ok s ∧ B ≤ w.heap.size

theorem PSta.ps {B : Nat} {w : World} {pb gc : Nat} {ov : Value} {s : Sta} (h : PSta B w pb gc ov s) : PS B w pb gc ov s.c s.ch s.k := ⟨h.1, ⟨s.T, h.2.1.1⟩, h.2.1.2, h.2.2⟩

/-- what came of an act: it was taken, or nothing has changed -/
def ActDone (B pb gc : Nat) (ov : Value) (s : Sta) (a : Int × Int × Int × Int) (W : World) (e : Ending) (w' : World) : Prop :=
  ∃ (r : Int) (ov' : Value) (s' : Sta), e = .returned (.int .i64 r) ∧ PSta B w' pb gc ov' s' ∧ Tch W w' pb gc 0 ov ov' ∧ s'.k ≤ s.k + 31 ∧ ((r = 0 ∧ May a s.ch.length ∧ s' = actS a s) ∨ (r = 2 ∧ s' = s))

theorem sta_of {B : Nat} {w : World} {pb gc : Nat} {ov : Value} {c : Enc} {ch : List Nat} {k : Nat} {s' : Sta} (h : PS B w pb gc ov c ch k) (ho : Ok s') (hc : s'.c = c) (hch : s'.ch = ch) : PSta B w pb gc ov s' := ⟨by rw [hc, hch]; exact h.pc, ho, h.base⟩

theorem sta_k {B : Nat} {w : World} {pb gc : Nat} {ov : Value} {c : Enc} {ch : List Nat} {k : Nat} {s' : Sta} (h : PS B w pb gc ov c ch k) (ho : Ok s') (hc : s'.c = c) : s'.k = k := by
  obtain ⟨T, hw⟩ := h.wide
  rw [← hc] at hw
  exact wide_k ho.1 hw

section
variable {B pb gc : Nat} {ov : Value} {s : Sta} {W : World}

theorem act_bit (h : PSta B W pb gc ov s) (hk : s.k ≤ 80000000000000) (bs v n : Int) : Calls Try.prog 16 #[.pointer (some ⟨pb, 0, none⟩), .int .i64 bs, .int .i64 v] W (ActDone B pb gc ov s (0, bs, v, n) W) := by
  by_cases hb : 0 ≤ bs ∧ bs < (s.ch.length : Int) ∧ 0 ≤ v ∧ v ≤ 1
  · obtain ⟨i, rfl⟩ := Int.eq_ofNat_of_zero_le hb.1
    have hi : i < s.ch.length := by omega
    have hm : May (0, (i : Int), v, n) s.ch.length := .inl ⟨rfl, hb⟩
    have ev : v = ((decide (v = 1)).toNat : Int) := by
      rcases (show v = 0 ∨ v = 1 by omega) with rfl | rfl <;> rfl
    have hc := pbit_ok B pb gc W ov s.c s.ch s.k i (decide (v = 1)) h.ps hi (by omega)
    rw [← ev] at hc
    refine hc.mono ?_
    rintro e w' ⟨rfl, ov', k', h1, h2, h3⟩
    have e1 : actS (0, (i : Int), v, n) s = putS s i (decide (v = 1)) := by unfold actS; rw [if_pos rfl]; rfl
    exact ⟨0, ov', actS (0, (i : Int), v, n) s, rfl, sta_of h1 (actS_ok h.2.1 hm) (by rw [e1]; rfl) (by rw [e1]; rfl), h3, by rw [sta_k h1 (actS_ok h.2.1 hm) (by rw [e1]; rfl)]; omega, .inl ⟨rfl, hm, rfl⟩⟩
  · refine (pbit_bad B pb gc W ov s.c s.ch bs v h.1 hb).mono ?_
    rintro e w' ⟨rfl, rfl⟩
    exact ⟨2, ov, s, rfl, h, Tch.refl _ _ _ _ _, by omega, .inr ⟨rfl, rfl⟩⟩

theorem act_direct (h : PSta B W pb gc ov s) (hk : s.k ≤ 80000000000000) (bs v n : Int) : Calls Try.prog 18 #[.pointer (some ⟨pb, 0, none⟩), .int .i64 v, .int .i64 n] W (ActDone B pb gc ov s (1, bs, v, n) W) := by
  by_cases hb : DirOk v n
  · have hm : May (1, bs, v, n) s.ch.length := .inr (.inl ⟨rfl, hb⟩)
    obtain ⟨V, m, rfl, rfl, h1, h2⟩ := dirOk_nat hb
    refine (pdirect_ok B pb gc W ov s.c s.ch s.k V m h.ps h1 h2 hk).mono ?_
    rintro e w' ⟨rfl, ov', k', h3, h4, h5⟩
    have e1 : actS (1, bs, (V : Int), (m : Int)) s = dirsS V m s := by unfold actS; rw [if_neg (by simp), if_pos rfl]; rfl
    exact ⟨0, ov', actS (1, bs, (V : Int), (m : Int)) s, rfl, sta_of h3 (actS_ok h.2.1 hm) (by rw [e1]; exact (dirsS_is V m s).1) (by rw [e1]; exact (dirsS_is V m s).2), h5, by rw [sta_k h3 (actS_ok h.2.1 hm) (by rw [e1]; exact (dirsS_is V m s).1)]; omega, .inl ⟨rfl, hm, rfl⟩⟩
  · refine (pdirect_bad B pb gc W ov s.c s.ch v n h.1 hb).mono ?_
    rintro e w' ⟨rfl, rfl⟩
    exact ⟨2, ov, s, rfl, h, Tch.refl _ _ _ _ _, by omega, .inr ⟨rfl, rfl⟩⟩

theorem act_tree (h : PSta B W pb gc ov s) (hk : s.k ≤ 80000000000000) (bs v n : Int) (hN : s.ch.length ≤ 65536) : Calls Try.prog 20 #[.pointer (some ⟨pb, 0, none⟩), .int .i64 bs, .int .i64 v, .int .i64 n] W (ActDone B pb gc ov s (2, bs, v, n) W) := by
  by_cases hb : MayB bs n s.ch.length ∧ 0 ≤ v ∧ v < 2 ^ n.toNat
  · have hm : May (2, bs, v, n) s.ch.length := .inr (.inr ⟨.inl rfl, hb⟩)
    obtain ⟨b, m, rfl, rfl, h1, h2⟩ := mayB_nat hb.1
    obtain ⟨V, rfl, h3⟩ := mayV_nat hb.2
    refine (ptree_ok B pb gc W ov s.c s.ch s.k b V m h.ps h1 h2 h3 hk (by omega)).mono ?_
    rintro e w' ⟨rfl, ov', k', h4, h5, h6⟩
    have e1 : actS (2, (b : Int), (V : Int), (m : Int)) s = putsS b 1 (bitsT V m true) s := by unfold actS; rw [if_neg (by simp), if_neg (by simp)]; rfl
    exact ⟨0, ov', actS (2, (b : Int), (V : Int), (m : Int)) s, rfl, sta_of h4 (actS_ok h.2.1 hm) (by rw [e1]; exact (putsS_is b _ 1 s).1) (by rw [e1]; exact (putsS_is b _ 1 s).2), h6, by rw [sta_k h4 (actS_ok h.2.1 hm) (by rw [e1]; exact (putsS_is b _ 1 s).1)]; omega, .inl ⟨rfl, hm, rfl⟩⟩
  · refine (ptree_bad B pb gc W ov s.c s.ch bs v n h.1 (by omega) hb).mono ?_
    rintro e w' ⟨rfl, hr⟩
    exact ⟨2, ov, s, rfl, ⟨hr.1, h.2.1, Nat.le_trans h.2.2 hr.2.size⟩, hr.2, by omega, .inr ⟨rfl, rfl⟩⟩

theorem act_rev (h : PSta B W pb gc ov s) (hk : s.k ≤ 80000000000000) (bs v n : Int) (hN : s.ch.length ≤ 65536) : Calls Try.prog 22 #[.pointer (some ⟨pb, 0, none⟩), .int .i64 bs, .int .i64 v, .int .i64 n] W (ActDone B pb gc ov s (3, bs, v, n) W) := by
  by_cases hb : MayB bs n s.ch.length ∧ 0 ≤ v ∧ v < 2 ^ n.toNat
  · have hm : May (3, bs, v, n) s.ch.length := .inr (.inr ⟨.inr rfl, hb⟩)
    obtain ⟨b, m, rfl, rfl, h1, h2⟩ := mayB_nat hb.1
    obtain ⟨V, rfl, h3⟩ := mayV_nat hb.2
    refine (prev_ok B pb gc W ov s.c s.ch s.k b V m h.ps h1 h2 h3 hk (by omega)).mono ?_
    rintro e w' ⟨rfl, ov', k', h4, h5, h6⟩
    have e1 : actS (3, (b : Int), (V : Int), (m : Int)) s = putsS b 1 (bitsT V m false) s := by unfold actS; rw [if_neg (by simp), if_neg (by simp)]; rfl
    exact ⟨0, ov', actS (3, (b : Int), (V : Int), (m : Int)) s, rfl, sta_of h4 (actS_ok h.2.1 hm) (by rw [e1]; exact (putsS_is b _ 1 s).1) (by rw [e1]; exact (putsS_is b _ 1 s).2), h6, by rw [sta_k h4 (actS_ok h.2.1 hm) (by rw [e1]; exact (putsS_is b _ 1 s).1)]; omega, .inl ⟨rfl, hm, rfl⟩⟩
  · refine (prev_bad B pb gc W ov s.c s.ch bs v n h.1 (by omega) hb).mono ?_
    rintro e w' ⟨rfl, hr⟩
    exact ⟨2, ov, s, rfl, ⟨hr.1, h.2.1, Nat.le_trans h.2.2 hr.2.size⟩, hr.2, by omega, .inr ⟨rfl, rfl⟩⟩
end

/-- an act read again -/
def ActRead (pb gc gr : Nat) (rcs : Array Value) (Bs : List Nat) (a : Int × Int × Int × Int) (s : Sta) (W : World) (e : Ending) (w' : World) : Prop :=
  ∃ d', e = .returned (.tuple #[.int .i64 a.2.2.1, .int .i64 0]) ∧ QS w' pb gc gr rcs Bs d' (actS a s).ch ∧ QT W w' pb gc ∧ FollowsS Bs d' (actS a s)

section
variable {pb gc gr : Nat} {rcs : Array Value} {Bs : List Nat} {K : Nat} {s : Sta} {W : World} {d : Dec}

theorem read_bit (hl : Bs.length = K + 5) (hb : ∀ z ∈ Bs, z < 256) (h : QS W pb gc gr rcs Bs d s.ch) (ho : Ok s) (hf : FollowsS Bs d s) (hN : s.ch.length ≤ 65536) (bs v n : Int) (hm : May (0, bs, v, n) s.ch.length) (ha : AheadS (actS (0, bs, v, n) s) (num Bs) K) : Calls Try.prog 30 #[.pointer (some ⟨pb, 0, none⟩), .int .i64 bs] W (ActRead pb gc gr rcs Bs (0, bs, v, n) s W) := by
  have h1 : 0 ≤ bs ∧ bs < (s.ch.length : Int) ∧ 0 ≤ v ∧ v ≤ 1 := by
    rcases hm with h | h | h
    · exact h.2
    · exact absurd h.1 (by simp)
    · exact absurd h.1 (by simp)
  obtain ⟨i, rfl⟩ := Int.eq_ofNat_of_zero_le h1.1
  have hi : i < s.ch.length := by omega
  have e1 : actS (0, (i : Int), v, n) s = putS s i (decide (v = 1)) := by unfold actS; rw [if_pos rfl]; rfl
  rw [e1] at ha
  have ev : v = ((decide (v = 1)).toNat : Int) := by
    rcases (show v = 0 ∨ v = 1 by omega) with rfl | rfl <;> rfl
  obtain ⟨d', g1, g2, g3, g4⟩ := FollowsS.put hl hb ho hi hf ha
  have hc := qbit_ok W pb gc gr rcs Bs d s.ch i h hi
  rw [g1, g2] at hc
  refine hc.mono ?_
  rintro e w' ⟨rfl, h2, h3⟩
  refine ⟨d', ?_, by rw [e1]; exact h2, h3.qt, by rw [e1]; exact g4⟩
  unfold toldV
  simp only
  rw [g3, ← ev]
  rfl

theorem read_direct (hl : Bs.length = K + 5) (hb : ∀ z ∈ Bs, z < 256) (h : QS W pb gc gr rcs Bs d s.ch) (ho : Ok s) (hf : FollowsS Bs d s) (hN : s.ch.length ≤ 65536) (bs v n : Int) (hm : May (1, bs, v, n) s.ch.length) (ha : AheadS (actS (1, bs, v, n) s) (num Bs) K) : Calls Try.prog 32 #[.pointer (some ⟨pb, 0, none⟩), .int .i64 n] W (ActRead pb gc gr rcs Bs (1, bs, v, n) s W) := by
  have h1 : DirOk v n := by
    rcases hm with h | h | h
    · exact absurd h.1 (by simp)
    · exact h.2
    · exact absurd h.1 (by simp)
  obtain ⟨V, m, rfl, rfl, h2, h3⟩ := dirOk_nat h1
  have e1 : actS (1, bs, (V : Int), (m : Int)) s = dirsS V m s := by unfold actS; rw [if_neg (by simp), if_pos rfl]; rfl
  rw [e1] at ha
  obtain ⟨d', g1, g2⟩ := dirsS_follow V hl hb m 0 s d ho hf ha
  rw [Nat.zero_mul, Nat.zero_add, Nat.mod_eq_of_lt h3] at g1
  have hc := qdirect_ok W pb gc gr rcs Bs d s.ch m h h2
  rw [g1] at hc
  refine hc.mono ?_
  rintro e w' ⟨rfl, h4, h5⟩
  refine ⟨d', ?_, by rw [e1, (dirsS_is V m s).2]; exact h4, h5.qt, by rw [e1]; exact g2⟩
  unfold toldV
  simp only
  rw [g2.over]
  rfl

theorem read_tree (hl : Bs.length = K + 5) (hb : ∀ z ∈ Bs, z < 256) (h : QS W pb gc gr rcs Bs d s.ch) (ho : Ok s) (hf : FollowsS Bs d s) (hN : s.ch.length ≤ 65536) (bs v n : Int) (hm : May (2, bs, v, n) s.ch.length) (ha : AheadS (actS (2, bs, v, n) s) (num Bs) K) : Calls Try.prog 34 #[.pointer (some ⟨pb, 0, none⟩), .int .i64 bs, .int .i64 n] W (ActRead pb gc gr rcs Bs (2, bs, v, n) s W) := by
  have h1 : MayB bs n s.ch.length ∧ 0 ≤ v ∧ v < 2 ^ n.toNat := by
    rcases hm with h | h | h
    · exact absurd h.1 (by simp)
    · exact absurd h.1 (by simp)
    · exact h.2
  obtain ⟨b, m, rfl, rfl, h2, h3⟩ := mayB_nat h1.1
  obtain ⟨V, rfl, h4⟩ := mayV_nat h1.2
  have e1 : actS (2, (b : Int), (V : Int), (m : Int)) s = putsS b 1 (bitsT V m true) s := by unfold actS; rw [if_neg (by simp), if_neg (by simp)]; rfl
  rw [e1] at ha
  obtain ⟨d', g1, g2⟩ := putsS_follow b hl hb (bitsT V m true) 0 1 0 s d ho (by rw [bits_len]; exact fits_tree h3) hf ha
  rw [bits_len] at g1
  have hc := qtree_ok W pb gc gr rcs Bs d s.ch b m h h2 h3 (by omega)
  rw [g1] at hc
  refine hc.mono ?_
  rintro e w' ⟨rfl, h5, h6⟩
  refine ⟨d', ?_, by rw [e1]; exact h5, h6, by rw [e1]; exact g2⟩
  simp only
  rw [tree_value V m true h4]
  unfold toldV
  rw [g2.over]
  rfl

theorem read_rev (hl : Bs.length = K + 5) (hb : ∀ z ∈ Bs, z < 256) (h : QS W pb gc gr rcs Bs d s.ch) (ho : Ok s) (hf : FollowsS Bs d s) (hN : s.ch.length ≤ 65536) (bs v n : Int) (hm : May (3, bs, v, n) s.ch.length) (ha : AheadS (actS (3, bs, v, n) s) (num Bs) K) : Calls Try.prog 36 #[.pointer (some ⟨pb, 0, none⟩), .int .i64 bs, .int .i64 n] W (ActRead pb gc gr rcs Bs (3, bs, v, n) s W) := by
  have h1 : MayB bs n s.ch.length ∧ 0 ≤ v ∧ v < 2 ^ n.toNat := by
    rcases hm with h | h | h
    · exact absurd h.1 (by simp)
    · exact absurd h.1 (by simp)
    · exact h.2
  obtain ⟨b, m, rfl, rfl, h2, h3⟩ := mayB_nat h1.1
  obtain ⟨V, rfl, h4⟩ := mayV_nat h1.2
  have e1 : actS (3, (b : Int), (V : Int), (m : Int)) s = putsS b 1 (bitsT V m false) s := by unfold actS; rw [if_neg (by simp), if_neg (by simp)]; rfl
  rw [e1] at ha
  obtain ⟨d', g1, g2⟩ := putsS_follow b hl hb (bitsT V m false) 0 1 0 s d ho (by rw [bits_len]; exact fits_tree h3) hf ha
  rw [bits_len] at g1
  have hc := qrev_ok W pb gc gr rcs Bs d s.ch b m h h2 h3 (by omega)
  rw [g1] at hc
  refine hc.mono ?_
  rintro e w' ⟨rfl, h5, h6⟩
  refine ⟨d', ?_, by rw [e1]; exact h5, h6, by rw [e1]; exact g2⟩
  simp only
  rw [tree_value V m false h4]
  unfold toldV
  rw [g2.over]
  rfl
end
end Go.Proofs.Ytbolhbjipmndeaa.D
