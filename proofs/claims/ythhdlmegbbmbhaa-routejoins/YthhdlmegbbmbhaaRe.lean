/- The document's Pieces and name. -/
import Derived.Test.YthhdlmegbbmbhaaJo
import Derived.Maps.AppendAt
import Derived.RangeFuncBox
import Derived.Deep.Cut
import Derived.Deep.DeepMust
import Derived.Deep.RegionLaw
import Derived.Deep.QuietTactic
import Derived.Deep.DrawnRows
import Derived.Deep.RegionHeld3
namespace Go.Proofs.Ythhdlmegbbmbhaa
open Go.RowKit Go.Shelf
set_option linter.unusedVariables false

namespace Doc

theorem infoStr : (Try.prog.info? 9).map (fun i => (i.zero, i.size, i.bytes)) = some (some (.string ⟨#[]⟩), 1, 16) := by kernel_rfl

/-- the first k pieces, as values -/
def rowOf (l : List UInt8) (k : Nat) : List Value := (List.range k).map fun j => .string (pcAt l j)

theorem rowOf_succ (l : List UInt8) (k : Nat) : rowOf l (k + 1) = rowOf l k ++ [.string (pcAt l k)] := by
  unfold rowOf
  rw [List.range_succ, List.map_append]
  rfl

theorem rowOf_get (l : List UInt8) {k j : Nat} (h : j < k) : (rowOf l k)[j]? = some (.string (pcAt l j)) := by
  unfold rowOf
  simp [h]

/-- pieces that lie in a block -/
structure PcsAt (w : World) (g : Nat) (l : List UInt8) : Prop where
  at_ : ∀ j, j < (pcs l).length → w.cell? ⟨g, j, none⟩ = some (.string (pcAt l j))
  lt : g < w.heap.size

theorem PcsAt.below {w w' : World} {g : Nat} {l : List UInt8} {B : Nat} (h : PcsAt w g l) (hb : Below B w w') (hB : g < B) : PcsAt w' g l :=
  ⟨fun j hj => by rw [World.cell?_of_block (hb.block g hB)]; exact h.at_ j hj, Nat.lt_of_lt_of_le h.lt hb.size⟩

theorem PcsAt.belowAll {w w' : World} {g : Nat} {l : List UInt8} (h : PcsAt w g l) (hb : Below w.heap.size w w') : PcsAt w' g l := h.below hb h.lt

theorem _root_.Go.Proofs.Ythhdlmegbbmbhaa.Stand.byte {s : ByteArray} {k fr pos : Nat} (h : Stand s k fr pos) (hp : pos < s.size) (hc : (s.get! pos).toNat ≠ 47) : Stand s k fr (pos + 1) := by
  refine ⟨h.k_lt, h.rest, by have := h.le; omega, by omega, fun j x y => ?_⟩
  by_cases hj : j < pos
  · exact h.free j x hj
  · have e : j = pos := by omega
    subst e
    exact hc

/-- one text is put behind a row of one's own -/
theorem wp_appS {ops : Array Oper} {rest : List Oper} {o : Oper} {a : Act} {Q : Exit → Act → World → Prop} {w : World} (hgd : o.guard = none) (s x : Operand)
    (ho : o.op = .call { callee := .builtin .append, args := #[s, x], argTypes := #[22, 22] }) (base k : Nat) (v : Value) (xs : List Value) (c : ByteArray) (hs : a.eval s = v) (hx : a.eval x = .slice (some ⟨w.heap.size, 0, none⟩) 1 1)
    (hrow : w.ownsRow base 9 1 v k xs) (hk : k ≤ 1000000000000) (hb : base ≤ w.heap.size)
    (h : ∀ g cap w', w'.ownsRow base 9 1 (.slice (some ⟨g, 0, none⟩) (k + 1) cap) (k + 1) (xs ++ [.string c]) → Below base w w' → wpList Try.prog ops Q rest (a.put o.dst (.slice (some ⟨g, 0, none⟩) (k + 1) cap)) w') : wpList Try.prog ops Q (o :: rest) a (w.alloc (.cells #[.string c] 9)) := by
  obtain ⟨i0, hi0, hz0, hz1, hz2⟩ := info_parts infoStr
  refine wpList_append_own (w := w.alloc (.cells #[.string c] 9)) hgd s x 22 ho base 9 i0 (.string ⟨#[]⟩) 1 16 Try.underlying22 hi0 hz0 hz1 hz2 rfl (by decide) v k xs hs (hrow.alloc _) ⟨w.heap.size, 0, none⟩ 1 1 [.string c] hx rfl (cell_one_new _ _ _) (by simp [Value.oneCell']) (by show k + 1 ≤ 9223372036854775807; omega) (by omega) (by simp; omega) ?_
  intro v' w1 hown' hgrow _
  obtain ⟨g, cap, rfl⟩ := ownsRow_succ hown'
  refine h g cap w1 hown' (((Below.refl base w).alloc hb _).grown hgrow (by simp; omega) (fun j e => ?_))
  rcases hrow.2 with ⟨rfl, _⟩ | ⟨g2, cap2, cur, rfl, h2, _⟩
  · cases e
  · have e2 : some g2 = some j := e
    have := Option.some.inj e2
    omega

set_option maxHeartbeats 2000000 in
theorem pieces_ok (s : ByteArray) (w : World) (hs : s.size ≤ 1000000000000) :
    Calls Try.prog 26 #[.string s] w fun e w' => ∃ g cap, e = .returned (.slice (some ⟨g, 0, none⟩) (pcs s.data.toList).length cap) ∧ w.heap.size ≤ g ∧ PcsAt w' g s.data.toList ∧ (pcs s.data.toList).length ≤ cap ∧ Below w.heap.size w w' := by
  obtain ⟨i0, hi0, hz0, hz1, hz2⟩ := info_parts infoStr
  have hN := pcs_len s.data.toList
  have hsz : s.data.toList.length = s.size := by simp
  rw [hsz] at hN
  clear hsz
  go_enter Try.func26, Try.ntmps26
  go_wp2_with fail
  go_loopw [3, 4, 5] (fun v f i wr => ∃ k fr pos : Nat, f = .int .i64 (fr : Int) ∧ i = .int .i64 (pos : Int) ∧ wr.ownsRow w.heap.size 9 1 v k (rowOf s.data.toList k) ∧ (Stand s k fr pos ∨ (k = (pcs s.data.toList).length ∧ pos = s.size + 1)) ∧ Below w.heap.size w wr) (fun _ _ i _ => ((s.size : Int) + 1 - intOf i).toNat)
  case atStart => exact ⟨0, 0, 0, rfl, rfl, World.ownsRow_nil _ _ _ _, .inl (Stand.zero s), Below.refl _ _⟩
  case round =>
    obtain ⟨k, fr, pos, rfl, rfl, hrow, hst, hb⟩ := hrel
    rcases hst with hst | ⟨rfl, rfl⟩
    · have hps := hst.size
      have hk := hst.k_lt
      have hfp := hst.le
      have c1 : (pos : Int) ≤ (s.size : Int) := by omega
      have c2 : (fr : Int) ≤ (pos : Int) := by omega
      have c3 : (0 : Int) ≤ (fr : Int) := by omega
      have c4 : (0 : Int) ≤ (pos : Int) := by omega
      have hbz := hb.size
      have HB := hide hb
      by_cases hp : pos < s.size
      · have i1 : ¬ (pos : Int) = (s.size : Int) := by omega
        have i2 : (pos : Int) < (s.size : Int) := by omega
        have i3 : ((pos : Int) == (s.size : Int)) = false := by simpa using i1
        have hgt : s.get! pos = s[pos]'hp := getElem!_pos s.data pos hp
        by_cases h47 : (s.get! pos).toNat = 47
        · obtain ⟨hq, hst2⟩ := hst.cut hp h47
          have HS := hide hst2
          have HQ := hide hq
          rw [hgt] at h47
          have j1 : (((s[pos]'hp).toNat : Nat) : Int) = 47 := by omega
          have j2 : ((((s[pos]'hp).toNat : Nat) : Int) == 47) = true := by rw [j1]; rfl
          clear hst hst2 hq hb hgt h47
          go_upto_region 7 with fail
          go_wp2_with (at_builtin; go_must (refine wp_appS rfl (.tmp 22) (.tmp 27) rfl w.heap.size k _ (rowOf s.data.toList k) (s.extract fr pos) rfl rfl hrow (by omega) (by omega) ?_; intro g cap w1 hown' hb1; have HO := hide hown'; have HB1 := hide hb1; clear hown' hb1))
          refine ⟨⟨k + 1, pos + 1, pos + 1, by simp, by simp, ?_, .inl (unhide HS), (unhide HB).trans (unhide HB1)⟩, by simp [intOf]; omega⟩
          rw [rowOf_succ, unhide HQ]
          exact unhide HO
        · have HS := hide (hst.byte hp h47)
          rw [hgt] at h47
          have j1 : ¬ (((s[pos]'hp).toNat : Nat) : Int) = 47 := by omega
          have j2 : ((((s[pos]'hp).toNat : Nat) : Int) == 47) = false := by simpa using j1
          clear hst hb hgt h47
          go_wp2_with fail
          exact ⟨⟨k, fr, pos + 1, rfl, by simp, hrow, .inl (unhide HS), unhide HB⟩, by simp [intOf]; omega⟩
      · obtain rfl : pos = s.size := by omega
        obtain ⟨hq, hst2⟩ := hst.last
        have HQ := hide hq
        have HN2 := hide hst2
        clear hst hst2 hq hb
        go_upto_region 7 with fail
        go_wp2_with (at_builtin; go_must (refine wp_appS rfl (.tmp 22) (.tmp 27) rfl w.heap.size k _ (rowOf s.data.toList k) (s.extract fr s.size) rfl rfl hrow (by omega) (by omega) ?_; intro g cap w1 hown' hb1; have HO := hide hown'; have HB1 := hide hb1; clear hown' hb1))
        refine ⟨⟨k + 1, s.size + 1, s.size + 1, by simp, by simp, ?_, .inr ⟨(unhide HN2).symm, rfl⟩, (unhide HB).trans (unhide HB1)⟩, by simp [intOf]⟩
        rw [rowOf_succ, unhide HQ]
        exact unhide HO
    · have i1 : ¬ ((s.size + 1 : Nat) : Int) ≤ (s.size : Int) := by omega
      have HB := hide hb
      clear hb
      go_wp2_with fail
      go_ret
      have hN0 := List.length_pos_iff.2 (pcs_ne s.data.toList)
      rcases hrow.2 with ⟨_, h0⟩ | ⟨g, cap, cur, rfl, hg, hgh, hnc, hcm, hcs, hct⟩
      · omega
      · refine ⟨g, cap, rfl, hg, ⟨fun j hj => ?_, (Array.getElem?_eq_some_iff.1 hgh).1⟩, hnc, unhide HB⟩
        have hcj : cur[j]? = some (.string (pcAt s.data.toList j)) := by
          have h1 := congrArg (·[j]?) hct
          simp only [Nat.mul_one] at h1
          rw [List.getElem?_take_of_lt hj, rowOf_get _ hj] at h1
          rw [← Array.getElem?_toList, h1]
        simp [World.cell?, hgh, hcj]

end Doc
end Go.Proofs.Ythhdlmegbbmbhaa
