/- Bit, Direct of the program's decoder. -/
import Derived.Test.YtbolhbjipmndeaaQb
namespace Go.Proofs.Ytbolhbjipmndeaa.D
open Go.RowKit Rang
set_option maxRecDepth 100000
set_option linter.unusedVariables false
attribute [local go_sem ↓] Go.wp_at_zero Go.wp_at_succ

/-- a decoder of the program's that is as calls leave it -/
structure QS (w : World) (pb gc gr : Nat) (rcs : Array Value) (Bs : List Nat) (d : Dec) (ch : List Nat) : Prop where
  qa : ∃ o rc, QAt w pb gc gr o rc rcs Bs d ch
  good : DGood Bs d
  chs : Chs ch
  len : Bs.length ≤ 140737488355328

section
variable {w w' : World} {pb gc gr : Nat} {rcs : Array Value} {Bs : List Nat} {d d' : Dec} {ch ch' : List Nat}
theorem QS.made (h : QS w pb gc gr rcs Bs d ch) : w.cell? ⟨pb, 0, none⟩ = some (.bool true) := by obtain ⟨o, rc, h⟩ := h.qa; exact h.made
theorem QS.chv (h : QS w pb gc gr rcs Bs d ch) : w.cell? ⟨pb, 1, none⟩ = some (.slice (some ⟨gc, 0, none⟩) ch.length ch.length) := by obtain ⟨o, rc, h⟩ := h.qa; exact h.chv
theorem QS.code (h : QS w pb gc gr rcs Bs d ch) : w.cell? ⟨pb, 2, none⟩ = some (.int .u32 (d.code : Int)) := by obtain ⟨o, rc, h⟩ := h.qa; exact h.code
theorem QS.over (h : QS w pb gc gr rcs Bs d ch) : w.cell? ⟨pb, 5, none⟩ = some (.bool d.over) := by obtain ⟨o, rc, h⟩ := h.qa; exact h.over
theorem QS.pch (h : QS w pb gc gr rcs Bs d ch) : PCh w gc ch := by obtain ⟨o, rc, h⟩ := h.qa; exact h.chs
end

theorem qget_qs (w : World) (pb gc gr : Nat) (rcs : Array Value) (Bs : List Nat) (d : Dec) (ch : List Nat) (i : Nat) (h : QS w pb gc gr rcs Bs d ch) (hi : i < ch.length) :
    Calls Try.prog 61 #[.pointer (some ⟨pb, 0, none⟩), .int .i64 (i : Int)] w fun e w' => e = .returned (.int .i64 ((gotD Bs d (ch.getD i 0)).1.toNat : Int)) ∧ QS w' pb gc gr rcs Bs (gotD Bs d (ch.getD i 0)).2 (gotCh ch i (ch.getD i 0) (gotD Bs d (ch.getD i 0))) ∧ DT w w' pb gc 0 := by
  obtain ⟨o, rc, hq⟩ := h.qa
  by_cases h5 : d.over = true
  · have e : gotD Bs d (ch.getD i 0) = (false, d) := by unfold gotD; rw [if_pos h5]
    have e2 : gotCh ch i (ch.getD i 0) (false, d) = ch := by unfold gotCh; rw [if_pos h5]
    rw [e, e2]
    refine (qget_over w pb gc gr o rc rcs Bs d ch i hq h5).mono ?_
    rintro e w' ⟨rfl, rfl⟩
    exact ⟨rfl, h, DT.refl _ _ _ _⟩
  · have h6 : d.over = false := by simpa using h5
    have e : gotD Bs d (ch.getD i 0) = getD Bs d (ch.getD i 0) := by unfold gotD; rw [if_neg h5]
    rw [e]
    refine (qget_ok w pb gc gr o rc rcs Bs d ch i hq hi (h.chs.at hi) (h.good.lo h6) h.good.hi h.good.code h.good.at_ h6 h.len).mono ?_
    rintro e w' ⟨rfl, o', rc', h1, h2⟩
    exact ⟨rfl, ⟨⟨o', rc', h1⟩, get_good h.good h6 (h.chs.at hi), got_chs h.chs hi _, h.len⟩, h2⟩

/-- a direct bit, unless a byte lacked already -/
def dirG (Bs : List Nat) (d : Dec) : Bool × Dec := if d.over then (false, d) else dirD Bs d

theorem qdir_qs (w : World) (pb gc gr : Nat) (rcs : Array Value) (Bs : List Nat) (d : Dec) (ch : List Nat) (h : QS w pb gc gr rcs Bs d ch) :
    Calls Try.prog 64 #[.pointer (some ⟨pb, 0, none⟩)] w fun e w' => e = .returned (.int .i64 ((dirG Bs d).1.toNat : Int)) ∧ QS w' pb gc gr rcs Bs (dirG Bs d).2 ch ∧ DT w w' pb gc 0 := by
  obtain ⟨o, rc, hq⟩ := h.qa
  by_cases h5 : d.over = true
  · have e : dirG Bs d = (false, d) := by unfold dirG; rw [if_pos h5]
    rw [e]
    refine (qdir_over w pb gc gr o rc rcs Bs d ch hq h5).mono ?_
    rintro e w' ⟨rfl, rfl⟩
    exact ⟨rfl, h, DT.refl _ _ _ _⟩
  · have h6 : d.over = false := by simpa using h5
    have e : dirG Bs d = dirD Bs d := by unfold dirG; rw [if_neg h5]
    rw [e]
    refine (qdir_ok w pb gc gr o rc rcs Bs d ch hq (h.good.lo h6) h.good.hi h.good.code h.good.at_ h6 h.len).mono ?_
    rintro e w' ⟨rfl, o', rc', h1, h2⟩
    exact ⟨rfl, ⟨⟨o', rc', h1⟩, dir_good h.good h6, h.chs, h.len⟩, h2⟩

theorem unless_qs (w : World) (pb gc gr : Nat) (rcs : Array Value) (Bs : List Nat) (d : Dec) (ch : List Nat) (v : Int) (h : QS w pb gc gr rcs Bs d ch) :
    Calls Try.prog 60 #[.pointer (some ⟨pb, 0, none⟩), .int .i64 v] w fun e w' => (∃ x y : Int, e = .returned (.tuple #[.int .i64 x, .int .i64 y]) ∧ Hid (Value.tuple #[.int .i64 x, .int .i64 y] = toldV d v)) ∧ w' = w := by
  obtain ⟨o, rc, hq⟩ := h.qa
  exact unless_ok w pb gc gr o rc rcs Bs d ch v hq

set_option maxHeartbeats 2000000 in
theorem qbit_ok (w : World) (pb gc gr : Nat) (rcs : Array Value) (Bs : List Nat) (d : Dec) (ch : List Nat) (i : Nat) (h : QS w pb gc gr rcs Bs d ch) (hi : i < ch.length) :
    Calls Try.prog 30 #[.pointer (some ⟨pb, 0, none⟩), .int .i64 (i : Int)] w fun e w' => e = .returned (toldV (gotD Bs d (ch.getD i 0)).2 ((gotD Bs d (ch.getD i 0)).1.toNat : Int)) ∧ QS w' pb gc gr rcs Bs (gotD Bs d (ch.getD i 0)).2 (gotCh ch i (ch.getD i 0) (gotD Bs d (ch.getD i 0))) ∧ DT w w' pb gc 0 := by
  have HP := hide (qget_qs w pb gc gr rcs Bs d ch i h hi)
  have HG := hide (dgood_ok pb w true h.made)
  have c1 := h.chv
  obtain ⟨n, hn⟩ : ∃ n, n = ch.length := ⟨_, rfl⟩
  rw [← hn] at c1 hi
  have HI : Hid (0 ≤ (i : Int) ∧ (i : Int) < (n : Int)) := hide ⟨by omega, by omega⟩
  obtain ⟨X, hX⟩ : ∃ X, X = gotD Bs d (ch.getD i 0) := ⟨_, rfl⟩
  obtain ⟨C, hC⟩ : ∃ C, C = gotCh ch i (ch.getD i 0) X := ⟨_, rfl⟩
  rw [← hX, ← hC] at HP ⊢
  obtain ⟨bit, D⟩ := X
  obtain ⟨y, hy⟩ : ∃ y, y = bit.toNat := ⟨_, rfl⟩
  simp only at HP ⊢
  rw [← hy] at HP ⊢
  clear h hn hX hC hy
  go_enter Try.func30, Try.ntmps30
  go_wp2_with (first | (go_at_call 59; refine (unhide HG).mono ?_; rintro e w1 ⟨rfl, rfl⟩) | (go_at_call 45; refine (has_yes _ n n (i : Int) _ (unhide HI)).mono ?_; rintro e w1 ⟨rfl, rfl⟩) | (go_at_call 61; refine (unhide HP).mono ?_; rintro e w2 ⟨rfl, h1, h2⟩; have H1 := hide h1; have H2 := hide h2; clear h1 h2) | (go_at_call 60; refine (unless_qs w2 pb gc gr rcs Bs D C _ (unhide H1)).mono ?_; rintro e w3 ⟨⟨x, y', rfl, H3⟩, rfl⟩))
  go_ret2
  exact ⟨congrArg Ending.returned (unhide H3), unhide H1, unhide H2⟩

set_option maxHeartbeats 2000000 in
theorem qbit_bad (w : World) (pb gc gr : Nat) (rcs : Array Value) (Bs : List Nat) (d : Dec) (ch : List Nat) (i : Int) (h : QS w pb gc gr rcs Bs d ch) (hb : ¬ (0 ≤ i ∧ i < (ch.length : Int))) :
    Calls Try.prog 30 #[.pointer (some ⟨pb, 0, none⟩), .int .i64 i] w fun e w' => e = .returned (.tuple #[.int .i64 0, .int .i64 2]) ∧ w = w' := by
  have HG := hide (dgood_ok pb w true h.made)
  have c1 := h.chv
  obtain ⟨n, hn⟩ : ∃ n, n = ch.length := ⟨_, rfl⟩
  rw [← hn] at c1 hb
  have HI := hide hb
  clear h hn hb
  go_enter Try.func30, Try.ntmps30
  go_wp2_with (first | (go_at_call 59; refine (unhide HG).mono ?_; rintro e w1 ⟨rfl, rfl⟩) | (go_at_call 45; refine (has_no _ n n i _ (unhide HI)).mono ?_; rintro e w1 ⟨rfl, rfl⟩))
  go_ret2
  exact ⟨rfl, rfl⟩

theorem dirs_step {Bs : List Nat} {d : Dec} (h : d.over = false) (m v : Nat) : dirsD Bs (m + 1) v d = dirsD Bs m (2 * v + (dirG Bs d).1.toNat) (dirG Bs d).2 := by
  rw [dirsD, if_neg (by simp [h])]
  unfold dirG
  rw [if_neg (by simp [h])]

set_option maxHeartbeats 4000000 in
theorem qdirect_ok (w : World) (pb gc gr : Nat) (rcs : Array Value) (Bs : List Nat) (d : Dec) (ch : List Nat) (n : Nat) (h : QS w pb gc gr rcs Bs d ch) (hn : n ≤ 31) :
    Calls Try.prog 32 #[.pointer (some ⟨pb, 0, none⟩), .int .i64 (n : Int)] w fun e w' => e = .returned (toldV (dirsD Bs n 0 d).2 ((dirsD Bs n 0 d).1 : Int)) ∧ QS w' pb gc gr rcs Bs (dirsD Bs n 0 d).2 ch ∧ DT w w' pb gc 0 := by
  have HE := hide h
  have HG := hide (dgood_ok pb w true h.made)
  have H1 := hide (isDirect_yes n w hn)
  obtain ⟨R, hR⟩ : ∃ R, R = dirsD Bs n 0 d := ⟨_, rfl⟩
  have HR := hide hR
  rw [← hR]
  clear h hR
  go_enter Try.func32, Try.ntmps32
  go_wp2_with (first | (go_at_call 59; refine (unhide HG).mono ?_; rintro e w1 ⟨rfl, rfl⟩) | (go_at_call 48; refine (unhide H1).mono ?_; rintro e w1 ⟨rfl, rfl⟩))
  clear HG H1
  go_loopg [6, 14] n (fun gk vv iv ws => ∃ (i v : Nat) (d' : Dec), gk + i = n ∧ Hid (v < 2 ^ i) ∧ vv = .int .i64 (v : Int) ∧ iv = .int .i64 (i : Int) ∧ Hid (QS ws pb gc gr rcs Bs d' ch) ∧ Hid ((d'.over = false → dirsD Bs gk v d' = R) ∧ (d'.over = true → R.2 = d')) ∧ Hid (DT w1 ws pb gc 0))
  case atStart => exact ⟨0, 0, d, by omega, hide (by decide), rfl, rfl, HE, hide ⟨fun _ => (unhide HR).symm, fun h => by rw [unhide HR, dirsD_over h]⟩, hide (DT.refl _ _ _ _)⟩
  case round =>
    clear HE
    obtain ⟨i, v, d', hgk, HV, rfl, rfl, HE, HX, HT⟩ := hrel
    by_cases hlt : 0 < gk
    · obtain ⟨g, rfl⟩ : ∃ g, gk = g + 1 := ⟨gk - 1, by omega⟩
      have tl : (i : Int) < (n : Int) := by omega
      have HP := hide (qdir_qs wr pb gc gr rcs Bs d' ch (unhide HE))
      have hp31 : 2 ^ i ≤ 2 ^ 31 := Nat.pow_le_pow_right (by decide) (by omega)
      have hv31 : v < 2147483648 := by have := unhide HV; omega
      have HX2 : Hid (((dirG Bs d').2.over = false → dirsD Bs g (2 * v + (dirG Bs d').1.toNat) (dirG Bs d').2 = R) ∧ ((dirG Bs d').2.over = true → R.2 = (dirG Bs d').2)) := hide (by
        by_cases ho : d'.over = true
        · have e : dirG Bs d' = (false, d') := by unfold dirG; rw [if_pos ho]
          rw [e]
          exact ⟨fun h => (by rw [ho] at h; cases h), (unhide HX).2⟩
        · have ho' : d'.over = false := by simpa using ho
          have h1 := (unhide HX).1 ho'
          rw [dirs_step ho'] at h1
          exact ⟨fun _ => h1, fun h2 => (by rw [← h1, dirsD_over h2])⟩)
      obtain ⟨X, hX⟩ : ∃ X, X = dirG Bs d' := ⟨_, rfl⟩
      rw [← hX] at HP HX2
      obtain ⟨bit, D⟩ := X
      obtain ⟨y, hy⟩ : ∃ y, y = bit.toNat := ⟨_, rfl⟩
      have hy1 : y ≤ 1 := by rw [hy]; exact Bool.toNat_le bit
      simp only at HP HX2
      rw [← hy] at HP HX2
      have HV2 : Hid (2 * v + y < 2 ^ (i + 1)) := hide (by have := unhide HV; rw [Nat.pow_succ]; omega)
      clear hX hy HX hp31
      go_wp2_with (first | (go_at_call 64; refine (unhide HP).mono ?_; rintro e w2 ⟨rfl, h1, h2⟩; have H1 := hide h1; have H2 := hide ((unhide HT).trans h2); clear h1 h2))
      go_roundg g
      case measure => omega
      case rel => exact ⟨i + 1, 2 * v + y, D, by omega, HV2, by go_num, by go_num, H1, HX2, H2⟩
    · obtain rfl : gk = 0 := by omega
      obtain rfl : i = n := by omega
      have tl : ¬ (i : Int) < (i : Int) := by omega
      go_wp2_with (first | (go_at_call 60; refine (unless_qs wr pb gc gr rcs Bs d' ch _ (unhide HE)).mono ?_; rintro e w3 ⟨⟨x, y', rfl, H3⟩, rfl⟩))
      go_ret2
      by_cases ho : d'.over = true
      · have e := (unhide HX).2 ho
        rw [e]
        exact ⟨(congrArg Ending.returned (unhide H3)).trans (congrArg Ending.returned (toldV_over ho _ _)), unhide HE, unhide HT⟩
      · have e := (unhide HX).1 (by simpa using ho)
        rw [← e, dirsD]
        exact ⟨congrArg Ending.returned (unhide H3), unhide HE, unhide HT⟩

set_option maxHeartbeats 2000000 in
theorem qdirect_bad (w : World) (pb gc gr : Nat) (rcs : Array Value) (Bs : List Nat) (d : Dec) (ch : List Nat) (n : Int) (h : QS w pb gc gr rcs Bs d ch) (hb : ¬ (0 ≤ n ∧ n ≤ 31)) :
    Calls Try.prog 32 #[.pointer (some ⟨pb, 0, none⟩), .int .i64 n] w fun e w' => e = .returned (.tuple #[.int .i64 0, .int .i64 2]) ∧ w = w' := by
  have HG := hide (dgood_ok pb w true h.made)
  have H1 := hide (isDirect_no n w hb)
  clear h hb
  go_enter Try.func32, Try.ntmps32
  go_wp2_with (first | (go_at_call 59; refine (unhide HG).mono ?_; rintro e w1 ⟨rfl, rfl⟩) | (go_at_call 48; refine (unhide H1).mono ?_; rintro e w1 ⟨rfl, rfl⟩))
  go_ret2
  exact ⟨rfl, rfl⟩
end Go.Proofs.Ytbolhbjipmndeaa.D
