/- The index of Parse, as it goes along. -/
import Derived.Test.YtabnfnejlffioaaMlev
import Derived.Test.YtabnfnejlffioaaNewW
import Derived.Test.YtabnfnejlffioaaParsed
import Derived.Test.YtabnfnejlffioaaTMem
namespace Go.Proofs.Ytabnfnejlffioaa
open Go.RowKit Go.Maps
set_option linter.unusedVariables false

/-- an index of a text, from block H0 on, whose places ahead of p may have been taken in -/
def XAt (zl : List Nat) (H0 W M s0 gx p : Nat) (tx : Value) (ws : World) : Prop :=
  ws.heap[gx]? = some (.cells #[tx, .int .i64 (W : Int), .int .i64 (M : Int), .slice none 0 0, .int .i64 0] 54 (0, 0)) ∨
  ∃ (B f N : Nat) (b : Nat → Nat) (v : Nat → Value) (gl lc : Nat), H0 ≤ B ∧ B ≤ ws.heap.size ∧ f ≤ p ∧ 1 ≤ N ∧ N ≤ 4 ∧ N ≤ lc ∧ (∀ j, j < N → 1 ≤ s0 * 2 ^ j ∧ s0 * 2 ^ j ≤ 8) ∧ s0 * 2 ^ (N - 1) ≤ M ∧
    IdxAt zl B N (fun j => s0 * 2 ^ j) b v (fun j => cnt zl.length (s0 * 2 ^ j) f) gx gl lc W M f tx ws

theorem XAt.c0 {zl : List Nat} {H0 W M s0 gx p : Nat} {tx : Value} {ws : World} (h : XAt zl H0 W M s0 gx p tx ws) : ws.cell? ⟨gx, 0, none⟩ = some tx := by
  rcases h with h | ⟨B, f, N, b, v, gl, lc, _, _, _, _, _, _, _, _, h⟩
  · simp [World.cell?, h]
  · exact h.x0

theorem XAt.c1 {zl : List Nat} {H0 W M s0 gx p : Nat} {tx : Value} {ws : World} (h : XAt zl H0 W M s0 gx p tx ws) : ws.cell? ⟨gx, 1, none⟩ = some (.int .i64 (W : Int)) := by
  rcases h with h | ⟨B, f, N, b, v, gl, lc, _, _, _, _, _, _, _, _, h⟩
  · simp [World.cell?, h]
  · exact h.x1

theorem XAt.mono {zl : List Nat} {H0 W M s0 gx p q : Nat} {tx : Value} {ws : World} (h : XAt zl H0 W M s0 gx p tx ws) (hq : p ≤ q) : XAt zl H0 W M s0 gx q tx ws := by
  rcases h with h | ⟨B, f, N, b, v, gl, lc, h1, h2, h3, h⟩
  · exact .inl h
  · exact .inr ⟨B, f, N, b, v, gl, lc, h1, h2, by omega, h⟩

/-- what keeps all blocks but those of tokens keeps the index -/
theorem XAt.keep {zl : List Nat} {H0 W M s0 gx p : Nat} {tx : Value} {ws w' : World} (h : XAt zl H0 W M s0 gx p tx ws) (hs : ws.heap.size ≤ w'.heap.size) (hk : ∀ x, x < ws.heap.size → (∀ cs f, ws.heap[x]? ≠ some (.cells cs 37 f)) → w'.heap[x]? = ws.heap[x]?) : XAt zl H0 W M s0 gx p tx w' := by
  have kc : ∀ (x : Nat) (cs : Array Value) (t : TypeId) (f : Nat × Nat), ws.heap[x]? = some (.cells cs t f) → t ≠ 37 → w'.heap[x]? = ws.heap[x]? := fun x cs t f hx ht => hk x (heap_lt hx) (fun cs' f' e => by
    rw [hx] at e
    injection e with e
    injection e with _ e _
    exact ht e)
  rcases h with h | ⟨B, f, N, b, v, gl, lc, h1, h2, h3, h4, h5, h6, h7, h8, h⟩
  · exact .inl (by rw [kc gx _ _ _ h (by decide)]; exact h)
  · refine .inr ⟨B, f, N, b, v, gl, lc, h1, by omega, h3, h4, h5, h6, h7, h8, ?_, ?_, h.xB⟩
    · rw [kc gx _ _ _ h.xb (by decide)]; exact h.xb
    · obtain ⟨cs, hcs⟩ := h.lvs.blk
      refine h.lvs.kept (kc _ _ _ _ hcs (by decide)) (fun j hj => ?_) (fun j q hj hq => ?_)
      · obtain ⟨es, ck, hb⟩ := (h.lvs.lv j hj).mp.is
        exact hk _ (heap_lt hb) (fun cs f e => by rw [hb] at e; cases e)
      · obtain ⟨_, cs, f, hh⟩ := own_base (h.lvs.lv j hj).row hq
        exact kc _ _ _ _ hh (by decide)

/-- what match tells in Parse -/
def PMIs (zl : List Nat) (H0 W M s0 gx p : Nat) (tx : Value) (ws : World) (e : Ending) (w' : World) : Prop :=
  ∃ n d : Nat, e = .returned (.tuple #[.int .i64 (n : Int), .int .i64 (d : Int)]) ∧ (IsBest (zf zl) p (min p W) (min M (zl.length - p)) n d ∨ (n = 0 ∧ d = 0 ∧ (NoneIn (zf zl) p (min p W) s0 ∨ zl.length < p + s0))) ∧ XAt zl H0 W M s0 gx p tx w' ∧ Keeps H0 [3, 54, 65] ws w'

theorem match_any (zl : List Nat) (H0 W M s0 gx p : Nat) (a : Option Addr) (cap : Nat) (ws : World) (hx : XAt zl H0 W M s0 gx p (.slice a zl.length cap) ws) (hr : ReadsU H0 ws (.slice a zl.length cap) zl) (hcap : zl.length ≤ cap) (hz : ∀ c ∈ zl, c < 256) (hl : zl.length ≤ 100000000) (hp : p < zl.length) (hH : H0 ≤ ws.heap.size) (hH0 : 0 < H0) (hW : W ≤ 9223372036854775807) (hM : M ≤ 9223372036854775807) (hm : ML ws) :
    Calls Try.prog 22 #[.pointer (some ⟨gx, 0, none⟩), .int .i64 (p : Int)] ws fun e w' => PMIs zl H0 W M s0 gx p (.slice a zl.length cap) ws e w' := by
  have hx0 := hx.c0
  have hx1 := hx.c1
  rcases id hx with h | ⟨B, f, N, b, v, gl, lc, h1, h2, h3, h4, h5, h6, h7, h8, h⟩
  · refine (match_zero zl a H0 cap p W M gx ws hr hcap hz hl (by omega) hH hW hM hx0 hx1 (by simp [World.cell?, h]) (by simp [World.cell?, h]) hm).mono ?_
    rintro e w' ⟨n, d, rfl, hb, hbel⟩
    exact ⟨n, d, rfl, .inl hb, hx.keep hbel.size (fun x hx _ => hbel.block x hx), Keeps.of_below hbel⟩
  · obtain ⟨ba, off, rfl⟩ : ∃ ba off, a = some ⟨ba, off, none⟩ := by
      obtain ⟨a', c', e, _, hs⟩ := hr
      injection e with e1 e2 e3
      obtain ⟨b', off', e, _⟩ := hs (by omega)
      exact ⟨b', off', by rw [e1]; exact e⟩
    refine (match_lev zl B N (fun j => s0 * 2 ^ j) b v gx gl lc W M f p cap ba off ws h5 h4 h6 h7 (fun j hj => by show s0 * 2 ^ (j + 1) = 2 * (s0 * 2 ^ j); rw [Nat.pow_succ, Nat.mul_comm 2, Nat.mul_assoc]) h8 (hr.mono h1) hcap hz hp h3 hl h2 (by omega) hW hM h hm).mono ?_
    rintro e w' ⟨n, d, rfl, hres, ⟨v', hx'⟩, hk⟩
    have hres' : IsBest (zf zl) p (min p W) (min M (zl.length - p)) n d ∨ (n = 0 ∧ d = 0 ∧ (NoneIn (zf zl) p (min p W) s0 ∨ zl.length < p + s0)) := by
      have e : s0 * 2 ^ 0 = s0 := by simp
      unfold MRes at hres
      simp only [e] at hres
      exact hres
    exact ⟨n, d, rfl, hres', .inr ⟨B, p, N, b, v', gl, lc, h1, by have := hk.size; omega, Nat.le_refl _, h4, h5, h6, h7, h8, hx'⟩, ⟨hk.os, hk.tape, hk.output, hk.size, fun x hx hB => hk.low x hx (by omega), hk.typ⟩⟩

/-- what newIndex makes in Parse -/
theorem new_any (zl : List Nat) (H0 W M s0 p : Nat) (tx : Value) (ws : World) (e : Ending) (w' : World) (hH : H0 ≤ ws.heap.size) (h : NewIs zl ws.heap.size W M s0 tx ws e w') : e = .returned (.pointer (some ⟨ws.heap.size, 0, none⟩)) ∧ Below ws.heap.size ws w' ∧ XAt zl H0 W M s0 ws.heap.size p tx w' := by
  obtain ⟨rfl, hb, hor⟩ := h
  refine ⟨rfl, hb, ?_⟩
  rcases hor with h | ⟨N, b, gl, lc, h1, h2, h3, h4, h5, h⟩
  · exact .inl h
  · exact .inr ⟨ws.heap.size, 0, N, b, _, gl, lc, hH, hb.size, Nat.zero_le _, h1, h2, h3, h4, h5, h⟩

end Go.Proofs.Ytabnfnejlffioaa
