/-
  What number.Decimal and number.ReadDecimal, and the document's own, tell.
-/
import Derived.Test.YtbefokclbcdmhaaDoorRows
import Derived.Test.YtbefokclbcdmhaaDoorMath
import Derived.Test.YtbefokclbcdmhaaDoorShelf
import Derived.Lib.SmallJoins
import Derived.Lib.AtoiAllCases
import Derived.Lib.AppendIntMem
import Derived.WalkKit
import Derived.WalkSpells
import Derived.Handy
import Derived.Deep.LoopGhost
import Derived.Deep.QuietTactic
namespace Go.Proofs.YtbefokclbcdmhaaDoor
open Go.RowKit Go.Lib

theorem hide {p : Prop} (h : p) : Hid p := h
theorem unhide {p : Prop} (h : Hid p) : p := h

def str (l : List UInt8) : ByteArray := ⟨l.toArray⟩
theorem str_append (a b : List UInt8) : str a ++ str b = str (a ++ b) := by
  apply ByteArray.ext
  rw [ByteArray.data_append]
  simp [str]
theorem str_size (a : List UInt8) : (str a).size = a.length := by simp [str, ByteArray.size]

theorem dig_extract : ∀ i : Fin 10, (ByteArray.mk #[48, 49, 50, 51, 52, 53, 54, 55, 56, 57]).extract i.val (i.val + 1) = str [UInt8.ofNat (48 + i.val)] := by decide +kernel

theorem dec_small (i : Nat) (h : i < 10) (w : World) : Calls Tryd.prog 8 #[.int .i64 (i : Int)] w fun e w' => e = .returned (.string (str (decDigits i))) ∧ w' = w := by
  have h1 : decDigits i = [UInt8.ofNat (48 + i)] := decDigits_one h
  rw [h1]
  have : i = 0 ∨ i = 1 ∨ i = 2 ∨ i = 3 ∨ i = 4 ∨ i = 5 ∨ i = 6 ∨ i = 7 ∨ i = 8 ∨ i = 9 := by omega
  rcases this with rfl | rfl | rfl | rfl | rfl | rfl | rfl | rfl | rfl | rfl
  all_goals
    have hx := dig_extract ⟨_, h⟩
    simp only at hx
    clear h1
    go_enter Tryd.func8, Tryd.ntmps8
    go_wp2_with fail
    go_ret
    refine ⟨?_, rfl⟩
    rw [← hx]
    rfl

theorem dec_pos (u : Nat) : u < 9223372036854775808 → ∀ w, Calls Tryd.prog 8 #[.int .i64 (u : Int)] w fun e w' => e = .returned (.string (str (decDigits u))) ∧ w' = w := by
  induction u using Nat.strongRecOn with
  | _ u ih =>
    intro hu w
    by_cases h : u < 10
    · exact dec_small u h w
    · have c1 := fun w => ih (u / 10) (by omega) (by omega) w
      have c2 := fun w => dec_small (u % 10) (by omega) w
      have hd : decDigits u = decDigits (u / 10) ++ decDigits (u % 10) := by
        rw [decDigits, dif_neg h, decDigits_one (i := u % 10) (by omega)]
      have hsum := str_append (decDigits (u / 10)) (decDigits (u % 10))
      rw [← hd] at hsum
      have hl1 : (str (decDigits (u / 10))).size ≤ 20 := by
        rw [str_size, decDigits_length]
        have := nDigits_le 19 (u / 10) (by omega) (by omega)
        omega
      have hl2 : (str (decDigits (u % 10))).size ≤ 20 := by
        rw [str_size, decDigits_length]
        have := nDigits_le 19 (u % 10) (by omega) (by omega)
        omega
      have e1 : (u : Int) / 10 = ((u / 10 : Nat) : Int) := by omega
      have e2 : (u : Int) % 10 = ((u % 10 : Nat) : Int) := by omega
      have hq : u / 10 < 9223372036854775808 := by omega
      have hr : u % 10 < 10 := by omega
      generalize u / 10 = q at *
      generalize u % 10 = r at *
      generalize str (decDigits u) = S at *
      generalize str (decDigits q) = S1 at *
      generalize str (decDigits r) = S2 at *
      have h10 : ¬ (u : Int) < 10 := by omega
      clear ih hd h
      go_enter Tryd.func8, Tryd.ntmps8
      go_wp2_with fail
      refine (c1 _).mono ?_
      rintro e w' ⟨rfl, rfl⟩
      go_wp2_with fail
      refine (c2 _).mono ?_
      rintro e w' ⟨rfl, rfl⟩
      go_wp2_with fail
      go_ret
      exact ⟨rfl, rfl⟩

theorem itoa_min : itoa (-9223372036854775808) = [45, 57, 50, 50, 51, 51, 55, 50, 48, 51, 54, 56, 53, 52, 55, 55, 53, 56, 48, 56] := by
  rw [itoa, if_pos (by decide)]
  simp [decDigits]

theorem refDec_ok (n : Int) (h : I64 n) (w : World) : Calls Tryd.prog 8 #[.int .i64 n] w fun e w' => e = .returned (.string (str (itoa n))) ∧ w' = w := by
  unfold I64 at h
  by_cases hm : n = -9223372036854775808
  · subst hm
    rw [itoa_min]
    go_enter Tryd.func8, Tryd.ntmps8
    go_wp2_with fail
    go_ret
    exact ⟨rfl, rfl⟩
  · by_cases c : n < 0
    · have e : itoa n = [45] ++ decDigits n.natAbs := by rw [itoa, if_pos c]; rfl
      rw [e]
      have hsum : (⟨#[45]⟩ : ByteArray) ++ str (decDigits n.natAbs) = str ([45] ++ decDigits n.natAbs) := str_append [45] (decDigits n.natAbs)
      have cd := dec_pos n.natAbs (by omega)
      have en : ((n.natAbs : Nat) : Int) = wrap64 (-n) := by unfold wrap64; omega
      rw [en] at cd
      have hl : (str (decDigits n.natAbs)).size ≤ 20 := by
        rw [str_size, decDigits_length]
        have := nDigits_le 19 n.natAbs (by omega) (by omega)
        omega
      generalize str ([45] ++ decDigits n.natAbs) = S at *
      generalize str (decDigits n.natAbs) = S1 at *
      have hmb : (n == -9223372036854775808) = false := by simpa using hm
      clear e en hm
      go_enter Tryd.func8, Tryd.ntmps8
      go_wp2_with fail
      refine (cd _).mono ?_
      rintro e w' ⟨rfl, rfl⟩
      go_wp2_with fail
      go_ret
      exact ⟨rfl, rfl⟩
    · rw [itoa, if_neg c]
      have cd := dec_pos n.toNat (by omega) w
      rw [show ((n.toNat : Nat) : Int) = n by omega] at cd
      exact cd

abbrev Tab (w : World) : Prop := TabIs Tryd.prog w "internal/strconv.uint64pow10" .u64 pow10Tab

theorem gTab : ∃ g, Tryd.prog.globalNamed "internal/strconv.uint64pow10" = some g := Option.isSome_iff_exists.1 (by kernel_rfl)
theorem Tab.stays {w w' : World} (h : Tab w) (hb : Below w.heap.size w w') : Tab w' := by
  obtain ⟨g, hg⟩ := gTab
  exact Go.Joins.tab_stays hg h hb (Nat.le_refl _)

theorem decimal_ok (n : Int) (h : I64 n) (w : World) (ht : Tab w) : Calls Tryd.prog 7 #[.int .i64 n] w fun e w' => e = .returned (.string (str (itoa n))) ∧ Below w.heap.size w w' := by
  have c := Tryd.strconv_Itoa n h.1 h.2 w ht
  have c2 : Calls Tryd.prog 15 #[.int .i64 n] w fun e w' => e = .returned (.string (str (itoa n))) ∧ Below w.heap.size w w' := c.mono (by
    rintro e w' ⟨rfl, k, os, rfl⟩
    exact ⟨rfl, below_grow _ _ (Nat.le_refl _) _ _⟩)
  clear c
  generalize str (itoa n) = S at *
  go_enter Tryd.func7, Tryd.ntmps7
  go_wp2_with fail
  refine c2.mono ?_
  rintro e w' ⟨rfl, hb⟩
  have HB := hide hb
  clear hb c2
  go_wp2_with fail
  go_ret
  exact ⟨rfl, unhide HB⟩

/-- the two errors, as they are laid -/
def Errs (w : World) : Prop := (∃ tp p, w.var? Tryd.prog "strconv.ErrSyntax" = some #[.iface tp p]) ∧ ∃ tp p, w.var? Tryd.prog "strconv.ErrRange" = some #[.iface tp p]

theorem gSyn : ∃ g, Tryd.prog.globalNamed "strconv.ErrSyntax" = some g := Option.isSome_iff_exists.1 (by kernel_rfl)
theorem gRng : ∃ g, Tryd.prog.globalNamed "strconv.ErrRange" = some g := Option.isSome_iff_exists.1 (by kernel_rfl)

theorem rd_bad {s : List UInt8} (h : atoiAll s = .syntax ∨ atoiAll s = .range) : rdA s = 0 ∧ rdB s = 11 := by
  rcases h with h | h <;> simp [rdA, rdB, h]
theorem rd_ok {s : List UInt8} {v : Int} (h : atoiAll s = .ok v) (h2 : itoa v = s) : rdA s = v ∧ rdB s = 0 := by simp [rdA, rdB, h, h2]
theorem rd_no {s : List UInt8} {v : Int} (h : atoiAll s = .ok v) (h2 : itoa v ≠ s) : rdA s = 0 ∧ rdB s = 11 := by simp [rdA, rdB, h, h2]

/-- Atoi, whatever it is handed -/
theorem atoi_any (s : ByteArray) (hl : s.size ≤ 281474976710656) (w : World) (he : Errs w) :
    Calls Tryd.prog 14 #[.string s] w fun e w' => (∃ v ev, e = .returned (.tuple #[.int .i64 v, ev]) ∧ ((atoiAll s.data.toList = .ok v ∧ ev = .nilIface) ∨ ((atoiAll s.data.toList = .syntax ∨ atoiAll s.data.toList = .range) ∧ ∃ p, ev = .iface 55 p))) ∧ Below w.heap.size w w' := by
  cases h : atoiAll s.data.toList with
  | «syntax» =>
    obtain ⟨⟨tp, p, hv⟩, _⟩ := he
    refine (Tryd.strconv_Atoi_syntax_var s hl h tp p w hv).mono ?_
    rintro e w' ⟨N, rfl, _, _, hb⟩
    exact ⟨⟨_, _, rfl, .inr ⟨.inl rfl, _, rfl⟩⟩, hb⟩
  | range =>
    obtain ⟨_, tp, p, hv⟩ := he
    refine (Tryd.strconv_Atoi_range_var s hl h tp p w hv).mono ?_
    rintro e w' ⟨N, rfl, _, _, hb⟩
    exact ⟨⟨_, _, rfl, .inr ⟨.inr rfl, _, rfl⟩⟩, hb⟩
  | ok v =>
    refine (Tryd.strconv_Atoi_ok s (by omega) v h w).mono ?_
    rintro e w' ⟨rfl, hb⟩
    refine ⟨⟨_, _, rfl, .inl ⟨rfl, rfl⟩⟩, ?_⟩
    rcases hb with rfl | ⟨t, rfl⟩
    · exact Below.refl _ _
    · exact Go.Joins.below_bytesWorld _ _ _ _ (Nat.le_refl _)

theorem str_eq (l : List UInt8) (s : ByteArray) : (str l = s) ↔ l = s.data.toList := by
  constructor
  · rintro rfl; simp [str]
  · intro h; subst h; simp [str]

theorem str_ne {l : List UInt8} {s : ByteArray} (h : l ≠ s.data.toList) : ((str l).toList == s.toList) = false := by
  rw [ByteArray.toList_eq, ByteArray.toList_eq]
  simpa [str] using h
theorem str_is {l : List UInt8} {s : ByteArray} (h : l = s.data.toList) : ((str l).toList == s.toList) = true := by
  rw [ByteArray.toList_eq, ByteArray.toList_eq]
  simpa [str] using h

set_option maxHeartbeats 1000000 in
theorem readDec_ok (s : ByteArray) (hl : s.size ≤ 281474976710656) (w : World) (ht : Tab w) (he : Errs w) :
    Calls Tryd.prog 5 #[.string s] w fun e w' => e = .returned (.tuple #[.int .i64 (rdA s.data.toList), .int .i64 (rdB s.data.toList)]) ∧ Below w.heap.size w w' := by
  have ca := atoi_any s hl w he
  have HT := hide ht
  clear he ht
  go_enter Tryd.func5, Tryd.ntmps5
  go_wp2_with fail
  refine ca.mono ?_
  rintro e w1 ⟨⟨v, ev, rfl, hv⟩, hb⟩
  have HB := hide hb
  clear ca hb
  rcases hv with ⟨ha, rfl⟩ | ⟨ha, p, rfl⟩
  · have hi : I64 v := atoiAll_bounds ha
    have cd := decimal_ok v hi w1 ((unhide HT).stays (unhide HB))
    have HA := hide ha
    clear ha
    go_wp2_with fail
    refine cd.mono ?_
    rintro e w2 ⟨rfl, hb2⟩
    have HB2 := hide ((unhide HB).trans (hb2.mono (unhide HB).size))
    clear hb2 cd
    by_cases hs : itoa v = s.data.toList
    · obtain ⟨e1, e2⟩ := rd_ok (unhide HA) hs
      have hS : str (itoa v) = s := (str_eq _ _).2 hs
      have HE := hide (And.intro e1 e2)
      rw [hS]
      clear e1 e2 hs hS
      go_wp2_with fail
      go_ret2
      refine ⟨?_, unhide HB2⟩
      rw [(unhide HE).1, (unhide HE).2]
      rfl
    · obtain ⟨e1, e2⟩ := rd_no (unhide HA) hs
      have hS : ((str (itoa v)).toList == s.toList) = false := str_ne hs
      have HE := hide (And.intro e1 e2)
      clear e1 e2 hs
      generalize str (itoa v) = S at *
      go_wp2_with fail
      go_ret2
      refine ⟨?_, unhide HB2⟩
      rw [(unhide HE).1, (unhide HE).2]
      rfl
  · obtain ⟨e1, e2⟩ := rd_bad ha
    have HE := hide (And.intro e1 e2)
    clear e1 e2 ha
    go_wp2_with fail
    go_ret2
    refine ⟨?_, unhide HB⟩
    rw [(unhide HE).1, (unhide HE).2]
    rfl

theorem rd_ref (s : List UInt8) (v : Int) (hv : v = foldW (s.take 21)) : (itoa v = s → rdA s = v ∧ rdB s = 0) ∧ (v ≠ -9223372036854775808 → itoa (-v) = s → rdA s = -v ∧ rdB s = 0) ∧
    (itoa v ≠ s → (v = -9223372036854775808 ∨ itoa (-v) ≠ s) → rdA s = 0 ∧ rdB s = 11) := by
  have hi : I64 v := by rw [hv]; exact foldW_I64 _
  refine ⟨fun h => rd_of hi h, fun hm h => rd_of (by unfold I64 at *; omega) h, fun h1 h2 => rd_none (fun u hu e => ?_) (fun u hu => atoiAll_bounds hu)⟩
  have hf := fold_itoa u hu
  rw [e, ← hv] at hf
  unfold I64 at hu
  by_cases c : u ≤ 0
  · have : v = u := by omega
    rw [this] at h1
    exact h1 e
  · have hvu : -v = u := by omega
    rcases h2 with h2 | h2
    · omega
    · rw [hvu] at h2
      exact h2 e

theorem take_fold (l : List UInt8) (k : Nat) (c : UInt8) (h : l[k]? = some c) : foldW (l.take (k + 1)) = stepW (foldW (l.take k)) c := by
  rw [List.take_add_one, h]
  exact foldW_append _ _

set_option maxRecDepth 100000 in
set_option maxHeartbeats 1000000 in
theorem refReadDec_ok (s : ByteArray) (hl : s.size ≤ 281474976710656) (w : World) :
    Calls Tryd.prog 6 #[.string s] w fun e w' => e = .returned (.tuple #[.int .i64 (rdA s.data.toList), .int .i64 (rdB s.data.toList)]) ∧ Below w.heap.size w w' := by
  have hsl : s.data.toList.length = s.size := Array.length_toList
  have HSL := hide hsl
  clear hsl
  go_enter Tryd.func6, Tryd.ntmps6
  go_wp2_with fail
  go_loopg [4, 5] 21 (fun gk v c ws => ∃ k : Nat, gk = 21 - k ∧ k ≤ 21 ∧ k ≤ s.size ∧ c = .int .i64 (k : Int) ∧ v = .int .i64 (foldW (s.data.toList.take k)) ∧ ws = w)
  case atStart => exact ⟨0, by omega, by omega, by omega, rfl, rfl, rfl⟩
  case round =>
    obtain ⟨k, rfl, hk21, hks, rfl, rfl, rfl⟩ := hrel
    by_cases hlt : k < s.size ∧ k < 21
    · obtain ⟨h1, h2⟩ := hlt
      have h1' : (k : Int) < (s.size : Int) := by omega
      have h2' : (k : Int) < 21 := by omega
      have hc : s.data.toList[k]? = some s[k] := by
        rw [Array.getElem?_toList]
        exact Array.getElem?_eq_getElem h1
      have hst := take_fold _ k _ hc
      unfold stepW at hst
      clear hc
      by_cases d1 : 48 ≤ s[k].toNat
      · by_cases d2 : s[k].toNat ≤ 57
        · rw [if_pos ⟨d1, d2⟩] at hst
          have HST := hide hst
          have d1' : (48 : Int) ≤ (s[k].toNat : Int) := by omega
          have d2' : (s[k].toNat : Int) ≤ 57 := by omega
          clear hst d1 d2
          go_wp2_with fail
          go_roundg (21 - (k + 1))
          case measure => omega
          case rel => exact ⟨k + 1, rfl, by omega, by omega, by go_num, by rw [unhide HST], rfl⟩
        · rw [if_neg (by omega)] at hst
          have HST := hide hst
          have d1' : (48 : Int) ≤ (s[k].toNat : Int) := by omega
          have d2' : ¬ (s[k].toNat : Int) ≤ 57 := by omega
          clear hst d1 d2
          go_wp2_with fail
          go_roundg (21 - (k + 1))
          case measure => omega
          case rel => exact ⟨k + 1, rfl, by omega, by omega, by go_num, by rw [unhide HST], rfl⟩
      · rw [if_neg (by omega)] at hst
        have HST := hide hst
        have d1' : ¬ (48 : Int) ≤ (s[k].toNat : Int) := by omega
        clear hst d1
        go_wp2_with fail
        go_roundg (21 - (k + 1))
        case measure => omega
        case rel => exact ⟨k + 1, rfl, by omega, by omega, by go_num, by rw [unhide HST], rfl⟩
    · have hv : foldW (s.data.toList.take k) = foldW (s.data.toList.take 21) := by
        have := unhide HSL
        by_cases e : k = 21
        · rw [e]
        · rw [List.take_of_length_le (by omega), List.take_of_length_le (by omega)]
      obtain ⟨r1, r2, r3⟩ := rd_ref s.data.toList _ hv
      have hi : I64 (foldW (s.data.toList.take k)) := foldW_I64 _
      generalize foldW (s.data.toList.take k) = v at *
      have HV := hide hv
      have HI := hide hi
      have cdp := refDec_ok v hi
      have cdn := fun (h : v ≠ -9223372036854775808) => refDec_ok (-v) (by unfold I64 at *; omega)
      have hwn : v ≠ -9223372036854775808 → wrap64 (-v) = -v := fun h => by unfold I64 at hi; unfold wrap64; omega
      clear hv hi
      have hexit : (¬ (k : Int) < (s.size : Int)) ∨ ((k : Int) < (s.size : Int) ∧ ¬ (k : Int) < 21) := by omega
      clear hlt
      by_cases q1 : itoa v = s.data.toList
      · have HE := hide (r1 q1)
        have hS := str_is q1
        clear r1 r2 r3 q1 cdn hwn
        generalize str (itoa v) = S at *
        rcases hexit with x | ⟨x, y⟩
        all_goals
          go_wp2_with (refine (cdp _).mono ?_; rintro e w' ⟨rfl, hw⟩; rw [hw])
          go_ret2
          refine ⟨?_, Below.refl _ _⟩
          rw [(unhide HE).1, (unhide HE).2]
          rfl
      · have hS := str_ne q1
        by_cases qm : v = -9223372036854775808
        · have HE := hide (r3 q1 (.inl qm))
          clear r1 r2 r3 q1 cdn hwn
          have qm' : (v != -9223372036854775808) = false := by simpa using qm
          clear qm
          generalize str (itoa v) = S at *
          rcases hexit with x | ⟨x, y⟩
          all_goals
            go_wp2_with (refine (cdp _).mono ?_; rintro e w' ⟨rfl, hw⟩; rw [hw])
            go_ret2
            refine ⟨?_, Below.refl _ _⟩
            rw [(unhide HE).1, (unhide HE).2]
            rfl
        · have qm' : (v != -9223372036854775808) = true := by simpa using qm
          have cdn := cdn qm
          have hwn := hwn qm
          rw [← hwn] at cdn
          have c8 : ∀ x, x = v ∨ x = wrap64 (-v) → ∀ w, Calls Tryd.prog 8 #[.int .i64 x] w fun e w' => e = .returned (.string (str (itoa x))) ∧ w' = w := by
            rintro x (rfl | rfl) w
            · exact cdp w
            · exact cdn w
          clear cdp cdn
          by_cases q2 : itoa (-v) = s.data.toList
          · have HE : Hid (rdA s.data.toList = wrap64 (-v) ∧ rdB s.data.toList = 0) := hide (by rw [hwn]; exact r2 qm q2)
            have hS2 : ((str (itoa (wrap64 (-v)))).toList == s.toList) = true := by rw [hwn]; exact str_is q2
            clear r1 r2 r3 q1 q2 hwn qm
            rcases hexit with x | ⟨x, y⟩
            all_goals
              go_wp2_with (refine (c8 _ (by first | exact Or.inl rfl | exact Or.inr rfl) _).mono ?_; rintro e w' ⟨rfl, hw⟩; rw [hw])
              go_ret2
              refine ⟨?_, Below.refl _ _⟩
              rw [(unhide HE).1, (unhide HE).2]
              rfl
          · have HE := hide (r3 q1 (.inr q2))
            have hS2 : ((str (itoa (wrap64 (-v)))).toList == s.toList) = false := by rw [hwn]; exact str_ne q2
            clear r1 r2 r3 q1 q2 hwn qm
            rcases hexit with x | ⟨x, y⟩
            all_goals
              go_wp2_with (refine (c8 _ (by first | exact Or.inl rfl | exact Or.inr rfl) _).mono ?_; rintro e w' ⟨rfl, hw⟩; rw [hw])
              go_ret2
              refine ⟨?_, Below.refl _ _⟩
              rw [(unhide HE).1, (unhide HE).2]
              rfl

theorem names_ok (w : World) : Calls Tryd.prog 9 #[] w fun e w' => e = .returned (.bool true) ∧ w' = w := by
  go_enter Tryd.func9, Tryd.ntmps9
  go_wp2
  go_ret
  exact ⟨rfl, rfl⟩

set_option maxHeartbeats 1000000 in
theorem digits_walk (n : Int) (hn : I64 n) (s : ByteArray) (hl : s.size ≤ 281474976710656) (w : World) (ht : Tab w) (he : Errs w) :
    Calls Tryd.prog 3 #[.int .i64 n, .string s] w fun e w' => e = .returned (.bool true) ∧ Below w.heap.size w w' := by
  have HT := hide ht
  have c5 := readDec_ok s hl w ht he
  have c6 := fun w => refReadDec_ok s hl w
  have c7 := fun w ht => decimal_ok n hn w ht
  have c8 := fun w => refDec_ok n hn w
  generalize rdA s.data.toList = A at *
  generalize rdB s.data.toList = B at *
  generalize str (itoa n) = S at *
  clear ht he
  go_enter Tryd.func3, Tryd.ntmps3
  go_wp2_with fail
  refine c5.mono ?_
  rintro e w1 ⟨rfl, hb1⟩
  go_wp2_with fail
  refine (c6 _).mono ?_
  rintro e w2 ⟨rfl, hb2⟩
  have HB2 := hide (hb1.trans (hb2.mono hb1.size))
  clear hb1 hb2 c5 c6
  go_wp2_with fail
  refine (c7 _ ((unhide HT).stays (unhide HB2))).mono ?_
  rintro e w3 ⟨rfl, hb3⟩
  have HB3 := hide ((unhide HB2).trans (hb3.mono (unhide HB2).size))
  clear hb3 c7
  go_wp2_with (first | (go_at_call 8; refine (c8 _).mono ?_; rintro e w' ⟨rfl, hw⟩; rw [hw]) | (go_at_call 9; refine (names_ok _).mono ?_; rintro e w' ⟨rfl, hw⟩; rw [hw]))
  go_ret
  exact ⟨rfl, unhide HB3⟩
end Go.Proofs.YtbefokclbcdmhaaDoor
