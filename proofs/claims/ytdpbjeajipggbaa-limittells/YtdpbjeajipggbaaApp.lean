/- Lists of ints appended to a row of one's own. -/
import Derived.Test.YtdpbjeajipggbaaKit
namespace Go.Proofs.Ytdpbjeajipggbaa
open Go.RowKit
set_option linter.unusedVariables false

theorem below_drewN {B : Nat} {a w : World} (h : Below B a w) (n : Nat) : Below B a (w.drewN n) := ⟨h.os, h.tape, h.output, h.size, h.block⟩

theorem grown_below {w w' : World} {B g : Nat} (hg : w.grownBy w' (some g)) (hB : B ≤ w.heap.size) (h : B ≤ g) : Below B w w' :=
  ⟨hg.os, hg.tape, hg.output, hg.size, fun k hk => hg.block k (by omega) (fun e => by injection e with e; omega)⟩

theorem ReadsN.stays {w w1 : World} (hb : Below w.heap.size w w1) {a : Option Addr} {cap : Nat} {zs : List Int} (h : ReadsN w a cap zs) : ReadsN w1 a cap zs := by
  rcases h with h | ⟨ad, rfl, hc⟩
  · exact .inl h
  · exact .inr ⟨ad, rfl, fun j u hj => cell_stays hb (hc j u hj)⟩

theorem own_reads {w : World} {base n : Nat} {v : Value} {zs : List Int} (h : w.ownsRow base 3 1 v n (zs.map iv)) (hn : n = zs.length) : ReadsI w v zs := by
  subst hn
  rcases h.2 with ⟨e, e'⟩ | ⟨g, cap, cur, e, _, hh, _, _, _, ht⟩
  · exact ⟨none, 0, by rw [e, e'], fun h0 => by omega⟩
  · refine ⟨_, cap, e, fun h0 => ⟨g, 0, rfl, fun j hj => ?_⟩⟩
    have h2 : (cur.toList.take (zs.length * 1))[j]? = some (iv zs[j]) := by rw [ht]; simp [hj]
    rw [List.getElem?_take, if_pos (by omega)] at h2
    simp only [World.cell?, hh, Nat.zero_add]
    simpa [iv, hj] using h2

theorem own_readsN {w : World} {base n : Nat} {a : Option Addr} {c : Nat} {zs : List Int} (h : w.ownsRow base 3 1 (.slice a n c) n (zs.map iv)) : ReadsN w a c zs := by
  rcases h.2 with ⟨e, e'⟩ | ⟨g, cap, cur, e, _, hh, _, _, _, ht⟩
  · injection e with e1 e2 e3
    have := h.1
    simp [e'] at this
    exact .inl ⟨e1, e3, this⟩
  · injection e with e1 e2 e3
    exact .inr ⟨_, e1, h.cells (by rw [e1]; rfl)⟩

theorem built_own (w : World) (base : Nat) (hb : base ≤ w.heap.size) : (w.alloc (.cells #[] 3)).ownsRow base 3 1 (.slice (some ⟨w.heap.size, 0, none⟩) 0 0) 0 (([] : List Int).map iv) := by
  have := World.ownsRow_made (base := base) (e := 3) (size := 1) w #[] 0 hb (by unfold maxLen; omega) rfl
  simpa using this

theorem wpList_append_ints {w : World} {ops : Array Oper} {rest : List Oper} {o : Oper} {a : Act} {Q : Exit → Act → World → Prop} (hgd : o.guard = none) (s x : Operand)
    (ho : o.op = .call { callee := .builtin .append, args := #[s, x], argTypes := #[22, 22] })
    (base : Nat) (v : Value) (n : Nat) (xs : List Int) (hs : a.eval s = v) (hown : w.ownsRow base 3 1 v n (xs.map iv))
    (sa : Option Addr) (m c : Nat) (zs : List Int) (hm : m = zs.length) (hx : a.eval x = .slice sa m c) (hr : ReadsN w sa c zs) (h63 : (n + m) * 8 ≤ 140737488355328) (hbase : base ≤ w.heap.size)
    (h : ∀ v' w', w'.ownsRow base 3 1 v' (n + m) ((xs ++ zs).map iv) → w.grownBy w' v.ownBlock → (v' = .slice none 0 0 ↔ v = .slice none 0 0 ∧ m = 0) → wpList Try.prog ops Q rest (a.put o.dst v') w') : wpList Try.prog ops Q (o :: rest) a w := by
  obtain ⟨i0, hii, hz0, hz1, hz2⟩ := info_parts info3'
  rcases hr with ⟨rfl, rfl, rfl⟩ | ⟨ad, rfl, hc⟩
  · obtain rfl : m = 0 := hm
    exact wpList_append_own_none hgd s x 22 ho base 3 i0 1 Try.underlying22 hii v n (xs.map iv) hs hown hx (h v w (by simpa using hown) (World.grownBy.refl _ _) (by simp))
  · exact wpList_append_own (w := w) hgd s x 22 ho base 3 i0 _ 1 8 Try.underlying22 hii hz0 hz1 hz2 rfl (by decide) v n (xs.map iv) hs hown ad m c (zs.map iv) hx (by simp [hm]) hc
      (by intro u hu; simp at hu; obtain ⟨z, _, rfl⟩ := hu; rfl) (by unfold maxLen; omega) h63 hbase (fun v' w' h1 h2 h3 => h v' w' (by simpa using h1) h2 h3)

end Go.Proofs.Ytdpbjeajipggbaa
