/- What an act does to both encoders alike. -/
import Derived.Test.YtbolhbjipmndeaaTw
namespace Go.Proofs.Ytbolhbjipmndeaa.D
open Go.RowKit Rang
set_option maxRecDepth 100000
set_option linter.unusedVariables false

def PDone (B pb gc : Nat) (ov : Value) (k : Nat) (W : World) (r : Int) (c1 : Enc) (ch1 : List Nat) (e : Ending) (w' : World) : Prop := e = .returned (.int .i64 r) ∧ ∃ ov' k', PS B w' pb gc ov' c1 ch1 k' ∧ k' ≤ k + 31 ∧ Tch W w' pb gc 0 ov ov'
def DDone (B qb gd cc : Nat) (ou : Value) (k : Nat) (W : World) (r : Int) (c1 : Enc) (ch1 : List Nat) (e : Ending) (w' : World) : Prop := e = .returned (.int .i64 r) ∧ ∃ ou' k', ES B w' qb gd cc ou' c1 ch1 k' ∧ k' ≤ k + 31 ∧ Tch W w' qb gd cc ou ou'

theorem puts_len (base : Nat) : ∀ (bs : List Bool) (m : Nat) (s : Enc × List Nat), (putsE base m bs s).2.length = s.2.length
  | [], m, s => rfl
  | b :: bs, m, s => by rw [putsE, puts_len base bs, List.length_set]

variable {B pb gc qb gd cc : Nat} {c : Enc} {ch : List Nat} {k : Nat}

theorem PS.refused {w w' : World} {ov : Value} (h : PS B w pb gc ov c ch k) (hr : Refused B w w' pb gc ov c ch) : PDone B pb gc ov k w 2 c ch (.returned (.int .i64 2)) w' :=
  ⟨rfl, ov, k, ⟨hr.1, h.wide, h.chs, Nat.le_trans h.base hr.2.size⟩, by omega, hr.2⟩

theorem both_bit (bs v : Int) (hk : k ≤ 80000000000000) : ∃ (r : Int) (c1 : Enc) (ch1 : List Nat), ch1.length = ch.length ∧
    (∀ W ov, PS B W pb gc ov c ch k → Calls Try.prog 16 #[.pointer (some ⟨pb, 0, none⟩), .int .i64 bs, .int .i64 v] W (PDone B pb gc ov k W r c1 ch1)) ∧
    (∀ W ou, ES B W qb gd cc ou c ch k → Calls Try.prog 17 #[.pointer (some ⟨qb, 0, none⟩), .int .i64 bs, .int .i64 v] W (DDone B qb gd cc ou k W r c1 ch1)) := by
  by_cases h : 0 ≤ bs ∧ bs < (ch.length : Int) ∧ 0 ≤ v ∧ v ≤ 1
  · obtain ⟨i, rfl⟩ := Int.eq_ofNat_of_zero_le h.1
    obtain ⟨bit, rfl⟩ : ∃ bit : Bool, v = (bit.toNat : Int) := by
      rcases (show v = 0 ∨ v = 1 by omega) with rfl | rfl
      · exact ⟨false, rfl⟩
      · exact ⟨true, rfl⟩
    have hi : i < ch.length := by omega
    refine ⟨0, putE c (ch.getD i 0) bit, ch.set i (after (ch.getD i 0) bit), List.length_set .., fun W ov hp => (pbit_ok B pb gc W ov c ch k i bit hp hi (by omega)).mono ?_, fun W ou hd => (bit_ok B qb gd cc W ou c ch k i bit hd hi (by omega)).mono ?_⟩
    · rintro e w' ⟨rfl, ov', k', h1, h2, h3⟩
      exact ⟨rfl, ov', k', h1, by omega, h3⟩
    · rintro e w' ⟨rfl, ov', k', h1, h2, h3⟩
      exact ⟨rfl, ov', k', h1, by omega, h3⟩
  · refine ⟨2, c, ch, rfl, fun W ov hp => (pbit_bad B pb gc W ov c ch bs v hp.pc h).mono ?_, fun W ou hd => (bit_bad B qb gd cc W ou c ch bs v hd.ec h).mono ?_⟩
    · rintro e w' ⟨rfl, rfl⟩
      exact ⟨rfl, ov, k, hp, by omega, Tch.refl _ _ _ _ _⟩
    · rintro e w' ⟨rfl, rfl⟩
      exact ⟨rfl, ou, k, hd, by omega, Tch.refl _ _ _ _ _⟩

theorem both_direct (v n : Int) (hk : k ≤ 80000000000000) : ∃ (r : Int) (c1 : Enc) (ch1 : List Nat), ch1.length = ch.length ∧
    (∀ W ov, PS B W pb gc ov c ch k → Calls Try.prog 18 #[.pointer (some ⟨pb, 0, none⟩), .int .i64 v, .int .i64 n] W (PDone B pb gc ov k W r c1 ch1)) ∧
    (∀ W ou, ES B W qb gd cc ou c ch k → Calls Try.prog 19 #[.pointer (some ⟨qb, 0, none⟩), .int .i64 v, .int .i64 n] W (DDone B qb gd cc ou k W r c1 ch1)) := by
  by_cases h : DirOk v n
  · obtain ⟨V, m, rfl, rfl, h1, h2⟩ := dirOk_nat h
    refine ⟨0, dirsE V m c, ch, rfl, fun W ov hp => (pdirect_ok B pb gc W ov c ch k V m hp h1 h2 hk).mono ?_, fun W ou hd => (direct_ok B qb gd cc W ou c ch k V m hd h1 h2 hk).mono ?_⟩
    · rintro e w' ⟨rfl, ov', k', h3, h4, h5⟩
      exact ⟨rfl, ov', k', h3, by omega, h5⟩
    · rintro e w' ⟨rfl, ov', k', h3, h4, h5⟩
      exact ⟨rfl, ov', k', h3, by omega, h5⟩
  · refine ⟨2, c, ch, rfl, fun W ov hp => (pdirect_bad B pb gc W ov c ch v n hp.pc h).mono ?_, fun W ou hd => (direct_bad qb W v n h).mono ?_⟩
    · rintro e w' ⟨rfl, rfl⟩
      exact ⟨rfl, ov, k, hp, by omega, Tch.refl _ _ _ _ _⟩
    · rintro e w' ⟨rfl, rfl⟩
      exact ⟨rfl, ou, k, hd, by omega, Tch.refl _ _ _ _ _⟩

theorem mayV_nat {v : Int} {m : Nat} (h : 0 ≤ v ∧ v < 2 ^ (m : Int).toNat) : ∃ V : Nat, v = V ∧ V < 2 ^ m := by
  obtain ⟨V, rfl⟩ := Int.eq_ofNat_of_zero_le h.1
  refine ⟨V, rfl, ?_⟩
  have := h.2
  rw [show (m : Int).toNat = m from rfl] at this
  exact_mod_cast this

theorem both_tree (bs v n : Int) (hk : k ≤ 80000000000000) (hN : ch.length ≤ 65536) (hbs : bs ≤ 9223372036854775807) : ∃ (r : Int) (c1 : Enc) (ch1 : List Nat), ch1.length = ch.length ∧
    (∀ W ov, PS B W pb gc ov c ch k → Calls Try.prog 20 #[.pointer (some ⟨pb, 0, none⟩), .int .i64 bs, .int .i64 v, .int .i64 n] W (PDone B pb gc ov k W r c1 ch1)) ∧
    (∀ W ou, ES B W qb gd cc ou c ch k → Calls Try.prog 21 #[.pointer (some ⟨qb, 0, none⟩), .int .i64 bs, .int .i64 v, .int .i64 n, .bool true] W (DDone B qb gd cc ou k W r c1 ch1)) := by
  by_cases h : MayB bs n ch.length ∧ 0 ≤ v ∧ v < 2 ^ n.toNat
  · obtain ⟨b, m, rfl, rfl, h1, h2⟩ := mayB_nat h.1
    obtain ⟨V, rfl, h3⟩ := mayV_nat h.2
    refine ⟨0, (putsE b 1 (bitsT V m true) (c, ch)).1, (putsE b 1 (bitsT V m true) (c, ch)).2, puts_len b _ 1 (c, ch), fun W ov hp => (ptree_ok B pb gc W ov c ch k b V m hp h1 h2 h3 hk (by omega)).mono ?_, fun W ou hd => (tree_ok B qb gd cc W ou c ch k b V m true hd h1 h2 h3 hk (by omega)).mono ?_⟩
    · rintro e w' ⟨rfl, ov', k', h4, h5, h6⟩
      exact ⟨rfl, ov', k', h4, by omega, h6⟩
    · rintro e w' ⟨rfl, ov', k', h4, h5, h6⟩
      exact ⟨rfl, ov', k', h4, by omega, h6⟩
  · refine ⟨2, c, ch, rfl, fun W ov hp => (ptree_bad B pb gc W ov c ch bs v n hp.pc (by omega) h).mono ?_, fun W ou hd => (tree_bad B qb gd cc W ou c ch bs v n true hd.ec (by omega) hbs h).mono ?_⟩
    · rintro e w' ⟨rfl, hr⟩
      exact hp.refused hr
    · rintro e w' ⟨rfl, rfl⟩
      exact ⟨rfl, ou, k, hd, by omega, Tch.refl _ _ _ _ _⟩

theorem both_rev (bs v n : Int) (hk : k ≤ 80000000000000) (hN : ch.length ≤ 65536) (hbs : bs ≤ 9223372036854775807) : ∃ (r : Int) (c1 : Enc) (ch1 : List Nat), ch1.length = ch.length ∧
    (∀ W ov, PS B W pb gc ov c ch k → Calls Try.prog 22 #[.pointer (some ⟨pb, 0, none⟩), .int .i64 bs, .int .i64 v, .int .i64 n] W (PDone B pb gc ov k W r c1 ch1)) ∧
    (∀ W ou, ES B W qb gd cc ou c ch k → Calls Try.prog 21 #[.pointer (some ⟨qb, 0, none⟩), .int .i64 bs, .int .i64 v, .int .i64 n, .bool false] W (DDone B qb gd cc ou k W r c1 ch1)) := by
  by_cases h : MayB bs n ch.length ∧ 0 ≤ v ∧ v < 2 ^ n.toNat
  · obtain ⟨b, m, rfl, rfl, h1, h2⟩ := mayB_nat h.1
    obtain ⟨V, rfl, h3⟩ := mayV_nat h.2
    refine ⟨0, (putsE b 1 (bitsT V m false) (c, ch)).1, (putsE b 1 (bitsT V m false) (c, ch)).2, puts_len b _ 1 (c, ch), fun W ov hp => (prev_ok B pb gc W ov c ch k b V m hp h1 h2 h3 hk (by omega)).mono ?_, fun W ou hd => (tree_ok B qb gd cc W ou c ch k b V m false hd h1 h2 h3 hk (by omega)).mono ?_⟩
    · rintro e w' ⟨rfl, ov', k', h4, h5, h6⟩
      exact ⟨rfl, ov', k', h4, by omega, h6⟩
    · rintro e w' ⟨rfl, ov', k', h4, h5, h6⟩
      exact ⟨rfl, ov', k', h4, by omega, h6⟩
  · refine ⟨2, c, ch, rfl, fun W ov hp => (prev_bad B pb gc W ov c ch bs v n hp.pc (by omega) h).mono ?_, fun W ou hd => (tree_bad B qb gd cc W ou c ch bs v n false hd.ec (by omega) hbs h).mono ?_⟩
    · rintro e w' ⟨rfl, hr⟩
      exact hp.refused hr
    · rintro e w' ⟨rfl, rfl⟩
      exact ⟨rfl, ou, k, hd, by omega, Tch.refl _ _ _ _ _⟩

/-- a block of another kind stays -/
theorem PC.other {w w' : World} {ov ov' : Value} (h : PC B w pb gc ov c ch) (ht : Tch w w' pb gc 0 ov ov') {g : Nat} {cs : Array Value} {t : TypeId} (hg : w.heap[g]? = some (.cells cs t (0, 0))) (h1 : t ≠ 68) (h2 : t ≠ 91) (h3 : t ≠ 5) : w'.heap[g]? = some (.cells cs t (0, 0)) := by
  rw [ht.keep g (heap_lt hg) (blk_ne hg h.enc.cells h1) (blk_ne hg h.chs h2) (fun e => by
    obtain ⟨cur, hh⟩ := own_blk h.enc.row e
    exact blk_ne hg hh h3 rfl)]
  exact hg

theorem EC.other {w w' : World} {ou ou' : Value} (h : EC B w qb gd cc ou c ch) (ht : Tch w w' qb gd cc ou ou') {g : Nat} {cs : Array Value} {t : TypeId} (hg : w.heap[g]? = some (.cells cs t (0, 0))) (h1 : t ≠ 39) (h2 : t ≠ 3) (h3 : t ≠ 5) : w'.heap[g]? = some (.cells cs t (0, 0)) := by
  obtain ⟨sp, hs⟩ := h.chs
  rw [ht.keep g (heap_lt hg) (blk_ne hg h.enc.cells h1) (blk_ne hg hs h2) (fun e => by
    obtain ⟨cur, hh⟩ := own_blk h.enc.row e
    exact blk_ne hg hh h3 rfl)]
  exact hg
end Go.Proofs.Ytbolhbjipmndeaa.D
