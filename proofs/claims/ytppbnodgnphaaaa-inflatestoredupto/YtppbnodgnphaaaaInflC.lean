/- Stage 4's codes as what is got by: the laws hold, and the fixed codes are full. It names no program. Made ahead for stage 7. -/
import Derived.Test.YtppbnodgnphaaaaInflS
import Derived.Test.YtppbnodgnphaaaaGetMath
namespace Go.Proofs.Ytppbnodgnphaaaa.Infl
set_option linter.unusedVariables false

abbrev WW (ls : List Nat) (s k : Nat) : Prop := Wrd ls ls.length s k
abbrev BB (ls : List Nat) (k : Nat) : Prop := Beg ls ls.length k

theorem code_cp : CP Good WW BB := ⟨fun ls hg s s' k h h' => Wrd.one hg h h', fun ls hg s k h => Wrd.beg h⟩

/-- what is got by a code -/
noncomputable def gg : List Nat → (Nat → Bool) → Nat → Nat × Nat × Nat := gof Good WW BB

theorem gg_gl : GL gg := gof_gl code_cp

theorem kf_kf (f : Nat → Bool) : ∀ n, Infl.kf f n = Ytppbnodgnphaaaa.kf f n
  | 0 => rfl
  | n + 1 => by rw [Infl.kf, Ytppbnodgnphaaaa.kf, kf_kf f n]

theorem gg_of {ls : List Nat} (hg : Good ls) {f : Nat → Bool} {m s n e : Nat} (h : GetIs ls f m s n e) : gg ls f m = (s, n, e) := by
  refine gof_eq code_cp hg ?_
  obtain ⟨h1, h2, h3⟩ := h
  refine ⟨h1, fun j j1 j2 => ?_, ?_⟩
  · rw [kf_kf]; exact h2 j j1 j2
  · rw [kf_kf]; exact h3

theorem fixedL_good : Good fixedL := ⟨by decide +kernel, by decide +kernel⟩
theorem fixedD_good : Good fixedD := ⟨by decide +kernel, by decide +kernel⟩
theorem fixedL_full : Canon.sum fixedL = 1048576 := by decide +kernel
theorem fixedD_full : Canon.sum fixedD = 1048576 := by decide +kernel

/-- a word of a code whose bits stand there -/
theorem word_is {ls : List Nat} (hg : Good ls) {I : In} {p i n : Nat} (hi : i < ls.length) (hn : Canon.ln ls i = n) (h0 : 0 < n) (hm : p + n ≤ I.m) (h : ∀ j, j < n → I.f (p + j) = (Canon.wd ls i).testBit (n - 1 - j)) :
    word gg ls I p = .ok i (p + n) := by
  subst hn
  unfold word
  rw [gg_of hg (GetIs.word hg hi h0 (m := I.m - p) (f := fun i => I.f (p + i)) (by omega) h)]

/-- the chapter's example -/
theorem one_a (ce : List Nat → Nat → Bool → Nat) : Tells gg ce (bitsOf [0x4b, 4, 0]) 9 (.ok [97] 18) := by
  refine ⟨by simp, 2, 1, ?_⟩
  have hs : toks gg fixedL fixedD 9 2 [] (bitsOf [0x4b, 4, 0]) 3 = .ok [97] 18 := by
    have w1 : word gg fixedL (bitsOf [0x4b, 4, 0]) 3 = .ok 97 11 := word_is fixedL_good (i := 97) (n := 8) (by decide +kernel) (by decide +kernel) (by decide) (by decide) (by decide +kernel)
    have w2 : word gg fixedL (bitsOf [0x4b, 4, 0]) 11 = .ok 256 18 := word_is fixedL_good (i := 256) (n := 7) (by decide +kernel) (by decide +kernel) (by decide) (by decide) (by decide +kernel)
    have t1 : tok gg fixedL fixedD 9 [] (bitsOf [0x4b, 4, 0]) 3 = .ok (some [97]) 11 := by
      unfold tok
      rw [bind_of w1]
      rfl
    have t2 : tok gg fixedL fixedD 9 [97] (bitsOf [0x4b, 4, 0]) 11 = .ok none 18 := by
      unfold tok
      rw [bind_of w2]
      rfl
    rw [toks, bind_of t1]
    show toks gg fixedL fixedD 9 1 [97] _ 11 = _
    rw [toks, bind_of t2]
    rfl
  have hb : block gg ce 9 2 [] (bitsOf [0x4b, 4, 0]) 0 = .ok (1, [97]) 18 := by
    unfold block
    have g1 : get 1 (bitsOf [0x4b, 4, 0]) 0 = .ok 1 1 := by unfold get; rw [if_pos (by decide), show num (bitsOf [0x4b, 4, 0]).f 0 1 = 1 from by decide +kernel]
    have g2 : get 2 (bitsOf [0x4b, 4, 0]) 1 = .ok 1 3 := by unfold get; rw [if_pos (by decide), show num (bitsOf [0x4b, 4, 0]).f 1 2 = 1 from by decide +kernel]
    rw [bind_of g1, bind_of g2, if_neg (by decide), if_pos rfl, bind_of hs]
    rfl
  rw [blocks, bind_of hb]
  rfl

end Go.Proofs.Ytppbnodgnphaaaa.Infl
