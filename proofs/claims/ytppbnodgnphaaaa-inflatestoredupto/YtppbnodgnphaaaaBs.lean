/- Blocks up to the last one: what is told so far. -/
import Derived.Test.YtppbnodgnphaaaaFb
import Derived.Test.YtppbnodgnphaaaaKd
namespace Go.Proofs.Ytppbnodgnphaaaa
open Go.RowKit Mth Infl
set_option maxRecDepth 100000
set_option linter.unusedVariables false

/-- by kinds -/
noncomputable def byKind (x most F : Nat) (out : List Nat) : Rd (List Nat) := if x = 0 then Infl.stored most out else if x = 1 then toks gg fixedL fixedD most F out else if x = 2 then told gg ce most F out else Rd.fail 16

theorem block_by (most F : Nat) (out : List Nat) : Infl.block gg ce most F out = (Infl.get 1).bind fun last => (Infl.get 2).bind fun kind => (byKind kind most F out).bind fun o => Rd.pure (last, o) := rfl

theorem loc_byKind (x most F : Nat) (out : List Nat) : Infl.Loc (byKind x most F out) := Infl.Loc.ite (Infl.Loc.stored most out) (.ite (Infl.Loc.toks gg_gl _ _ most F out) (.ite (Infl.Loc.told gg_gl most F out) (.fail _)))

/-- what is told so far: the rest is told by what is left, with enough fuel -/
def Goes (most : Nat) (zs oi : List Nat) (q : Nat) : Prop := ∃ n F0, ∀ F, F0 ≤ F → ∀ k, Infl.blocks gg ce most F (k + n) [] (Infl.bitsOf zs) 0 = Infl.blocks gg ce most F k oi (Infl.bitsOf zs) q

theorem Goes.start (most : Nat) (zs : List Nat) : Goes most zs [] 0 := ⟨0, 0, fun _ _ _ => rfl⟩

section
variable {most : Nat} {zs oi o : List Nat} {q q1 q2 q3 last x F b : Nat}

theorem block_is (h1 : Infl.get 1 (Infl.bitsOf zs) q = .ok last q1) (h2 : Infl.get 2 (Infl.bitsOf zs) q1 = .ok x q2) (h3 : byKind x most F oi (Infl.bitsOf zs) q2 = .ok o q3) : Infl.block gg ce most F oi (Infl.bitsOf zs) q = .ok (last, o) q3 := by
  rw [block_by, bind_of h1, bind_of h2, bind_of h3]
  rfl

theorem Goes.next (h : Goes most zs oi q) (hb : Infl.block gg ce most F oi (Infl.bitsOf zs) q = .ok (0, o) q3) : Goes most zs o q3 := by
  obtain ⟨n, F0, hn⟩ := h
  refine ⟨n + 1, max F0 F, fun F' hF k => ?_⟩
  rw [show k + (n + 1) = (k + 1) + n from by omega, hn F' (by omega) (k + 1), Infl.blocks]
  have hb' : Infl.block gg ce most F' oi (Infl.bitsOf zs) q = .ok (0, o) q3 := by
    rw [Up.block (g := gg) (ce := ce) most F F' oi (by omega) _ _ (by rw [hb]; simp), hb]
  rw [bind_of hb']
  simp only
  rw [if_neg (by decide)]

theorem Goes.fin (h : Goes most zs oi q) (hb : Infl.block gg ce most F oi (Infl.bitsOf zs) q = .ok (1, o) q3) : Tells gg ce (Infl.bitsOf zs) most (.ok o q3) := by
  obtain ⟨n, F0, hn⟩ := h
  refine ⟨by simp, max F0 F, 1 + n, ?_⟩
  rw [hn (max F0 F) (by omega) 1, Infl.blocks]
  have hb' : Infl.block gg ce most (max F0 F) oi (Infl.bitsOf zs) q = .ok (1, o) q3 := by
    rw [Up.block (g := gg) (ce := ce) most F (max F0 F) oi (by omega) _ _ (by rw [hb]; simp), hb]
  rw [bind_of hb']
  rfl

theorem Goes.bad (h : Goes most zs oi q) (hb : Infl.block gg ce most F oi (Infl.bitsOf zs) q = .bad b) : Tells gg ce (Infl.bitsOf zs) most (.bad b) := by
  obtain ⟨n, F0, hn⟩ := h
  refine ⟨by simp, max F0 F, 1 + n, ?_⟩
  rw [hn (max F0 F) (by omega) 1, Infl.blocks]
  have hb' : Infl.block gg ce most (max F0 F) oi (Infl.bitsOf zs) q = .bad b := by
    rw [Up.block (g := gg) (ce := ce) most F (max F0 F) oi (by omega) _ _ (by rw [hb]; simp), hb]
  rw [bind_bad hb']
end

/-- what has come of reading all -/
def ReadIs (r : Res (List Nat)) (most : Nat) (zs : List Nat) (w : World) (e : Ending) (w' : World) : Prop :=
  Below w.heap.size w w' ∧ ((∃ (o : List Nat) (q : Nat) (v' : Value), r = .ok o q ∧ e = .returned (.tuple #[v', .int .i64 (((q + 7) / 8 : Nat) : Int), .int .i64 0]) ∧ w'.ownsRow w.heap.size 5 1 v' o.length (o.map bv) ∧ (∀ z ∈ o, z < 256) ∧ o.length ≤ most ∧ q ≤ 8 * zs.length) ∨
    (∃ b : Nat, r = .bad b ∧ b ≠ 0 ∧ b < 100 ∧ e = .returned (.tuple #[.slice none 0 0, .int .i64 0, .int .i64 (b : Int)])))

/-- within it -/
structure BsAt (w ws : World) (B rb rp g : Nat) (zs : List Nat) (q : Nat) (vi : Value) (oi : List Nat) (most : Nat) (sv dv : Value) : Prop where
  rat : RAt ws B rb rp g zs q vi oi most sv dv
  fix : FixOk ws B vi sv dv
  bel : Below w.heap.size w ws
  lo : w.heap.size ≤ rb ∧ w.heap.size ≤ rp

section
variable {rb rp : Nat} {v v1 vi : Value} {w ws w1 w' : World} {B g p q q' most : Nat} {zs out oi o : List Nat} {sv dv sv' dv' : Value}

theorem BsAt.next (h : BsAt w ws B rb rp g zs q vi oi most sv dv) (hr : RAt w1 B rb rp g zs q' v1 o most sv' dv') (hf : FixOk w1 B v1 sv' dv') (hc : Chg rb rp vi ws v1 w1) : BsAt w w1 B rb rp g zs q' v1 o most sv' dv' :=
  ⟨hr, hf, h.bel.trans (hc.below h.lo.1 h.lo.2 h.bel.size (fun k e => by have := (h.rat.own e).1; have := h.rat.lb; have := h.lo; omega)), h.lo⟩

theorem BsAt.gone (h : BsAt w ws B rb rp g zs q vi oi most sv dv) (hc : Chg rb rp vi ws v1 w1) : Below w.heap.size w w1 :=
  h.bel.trans (hc.below h.lo.1 h.lo.2 h.bel.size (fun k e => by have := (h.rat.own e).1; have := h.rat.lb; have := h.lo; omega))
end

end Go.Proofs.Ytppbnodgnphaaaa
