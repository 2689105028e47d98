/- Parse: what holds as it goes along. -/
import Derived.Test.YtabnfnejlffioaaPx
namespace Go.Proofs.Ytabnfnejlffioaa
open Go.RowKit Go.Maps
set_option linter.unusedVariables false

attribute [local go_sem ↓] Go.wp_at_zero Go.wp_at_succ

/-- look, for all that follows -/
theorem look_all (zl : List Nat) (a : Option Addr) (cap B p W K : Nat) (w : World) (hr : ReadsU B w (.slice a zl.length cap) zl) (hcap : zl.length ≤ cap) (hp : p ≤ zl.length) (hl : zl.length ≤ 100000000) (hW : W ≤ 9223372036854775807) (hK : zl.length - p ≤ K) (hK2 : K ≤ 100000000) :
    Calls Try.prog 19 #[.slice a zl.length cap, .int .i64 (p : Int), .int .i64 (W : Int), .int .i64 (K : Int)] w fun e w' => ∃ a', e = .returned (.tuple #[.slice a' (zl.drop (p - min p W)).length (zl.drop (p - min p W)).length, .int .i64 ((min p W : Nat) : Int)]) ∧ ReadsU B w (.slice a' (zl.drop (p - min p W)).length (zl.drop (p - min p W)).length) (zl.drop (p - min p W)) ∧ w' = w := by
  have e : min p W + min K (zl.length - p) = (zl.drop (p - min p W)).length := by simp; omega
  have e2 : (zl.drop (p - min p W)).take (zl.drop (p - min p W)).length = zl.drop (p - min p W) := List.take_length
  have h := look_ok zl a cap B p W K w hr hcap hp (by omega) hW (by omega)
  rw [e, e2] at h
  exact h

structure PAt (zs : List Nat) (H0 W least M P0 o p gx : Nat) (a : Option Addr) (tv : Value) (ts : List Tok) (w ws : World) : Prop where
  par : Parsed zs W least M P0 ts (o + p)
  win : o = 0 ∨ W ≤ p
  le : o + p ≤ zs.length
  rd : ReadsU H0 ws (.slice a (zs.drop o).length (zs.drop o).length) (zs.drop o)
  row : ws.ownsRow H0 37 3 tv ts.length (tcells ts)
  bel : Below H0 w ws
  ix : XAt (zs.drop o) H0 W M (min least 8) gx p (.slice a (zs.drop o).length (zs.drop o).length) ws

section
variable {zs : List Nat} {H0 W least M P0 o p gx : Nat} {a : Option Addr} {tv : Value} {ts : List Tok} {w ws w' : World}

theorem row_type {B n : Nat} {v : Value} {xs : List Value} {e size : Nat} (h : ws.ownsRow B e size v n xs) {q : Nat} (hq : v.ownBlock = some q) : q < ws.heap.size ∧ ∃ cs, ws.heap[q]? = some (.cells cs e (0, 0)) := by
  obtain ⟨_, cs, h2⟩ := row_ty h hq
  exact ⟨heap_lt h2, cs, h2⟩

/-- behind a draw -/
theorem PAt.drew (h : PAt zs H0 W least M P0 o p gx a tv ts w ws) : PAt zs H0 W least M P0 o p gx a tv ts w ws.drew :=
  ⟨h.par, h.win, h.le, h.rd.stays ⟨rfl, rfl, rfl, Nat.le_refl _, fun _ _ => rfl⟩, own_keep h.row (fun _ _ => rfl), ⟨h.bel.os, h.bel.tape, h.bel.output, h.bel.size, h.bel.block⟩, h.ix.keep (Nat.le_refl _) (fun _ _ _ => rfl)⟩

/-- behind match -/
theorem PAt.met (h : PAt zs H0 W least M P0 o p gx a tv ts w ws) (hs : H0 ≤ ws.heap.size) (hk : Keeps H0 [3, 54, 65] ws w') (hx : XAt (zs.drop o) H0 W M (min least 8) gx p (.slice a (zs.drop o).length (zs.drop o).length) w') : PAt zs H0 W least M P0 o p gx a tv ts w w' := by
  have hbl : Below H0 ws w' := hk.below hs
  exact ⟨h.par, h.win, h.le, h.rd.stays hbl, own_keep h.row (fun q hq => by
    obtain ⟨_, cs, hcs⟩ := row_type h.row hq
    exact hk.typ q _ _ _ hcs (by decide)), h.bel.trans hbl, hx⟩

/-- a new index, of a text that begins later -/
theorem PAt.anew {o' p' : Nat} {a' : Option Addr} (h : PAt zs H0 W least M P0 o p gx a tv ts w ws) (hs : H0 ≤ ws.heap.size) (ho : o' + p' = o + p) (hwin : o' = 0 ∨ W ≤ p') (hrd : ReadsU H0 ws (.slice a' (zs.drop o').length (zs.drop o').length) (zs.drop o')) (hb : Below ws.heap.size ws w') (hx : XAt (zs.drop o') H0 W M (min least 8) ws.heap.size p' (.slice a' (zs.drop o').length (zs.drop o').length) w') : PAt zs H0 W least M P0 o' p' ws.heap.size a' tv ts w w' := by
  have hbl : Below H0 ws w' := ⟨hb.os, hb.tape, hb.output, hb.size, fun k hk => hb.block k (by omega)⟩
  exact ⟨by rw [ho]; exact h.par, hwin, by rw [ho]; exact h.le, hrd.stays hbl, own_keep h.row (fun q hq => hb.block q (row_type h.row hq).1), h.bel.trans hbl, hx⟩

/-- one token more -/
theorem PAt.app {t : Tok} {q : Nat} {blk : Obj} {tv' : Value} (h : PAt zs H0 W least M P0 o p gx a tv ts w ws) (hs : H0 ≤ ws.heap.size) (hp : o + p < zs.length) (ht : TokAt zs W least M (o + p) t (o + q)) (hq : p ≤ q) (hql : o + q ≤ zs.length) (hown : w'.ownsRow H0 37 3 tv' (ts.length + 1) (tcells (ts ++ [t]))) (hg : (ws.alloc blk).grownBy w' tv.ownBlock) : PAt zs H0 W least M P0 o q gx a tv' (ts ++ [t]) w w' := by
  have k1 : ∀ x, x < ws.heap.size → tv.ownBlock ≠ some x → w'.heap[x]? = ws.heap[x]? := fun x hx hr => by
    rw [hg.block x (by simp; omega) (fun e => hr e.symm)]; exact Below.heap_alloc _ _ _ hx
  have hbl : Below H0 ws w' := ⟨hg.os, hg.tape, hg.output, by have := hg.size; simp at this; omega, fun k hk => k1 k (by omega) (fun e => by have := (row_ty h.row e).1; omega)⟩
  refine ⟨h.par.snoc hp ht, ?_, hql, h.rd.stays hbl, by simpa using hown, h.bel.trans hbl, ((h.ix.keep hbl.size (fun x hx hne => k1 x hx (fun e => ?_))).mono hq)⟩
  · rcases h.win with e | e
    · exact .inl e
    · exact .inr (by omega)
  · obtain ⟨_, cs, hcs⟩ := row_type h.row e
    exact hne _ _ hcs
end

end Go.Proofs.Ytabnfnejlffioaa
