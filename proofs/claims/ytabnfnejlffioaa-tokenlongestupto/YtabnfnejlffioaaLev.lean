/- A level in memory: its map, and the places before. -/
import Derived.Test.YtabnfnejlffioaaChain
import Derived.Test.YtabnfnejlffioaaAidTwo
import Derived.Maps.Own
import Derived.Maps.OwnOps
import Derived.Maps.OwnSet
import Derived.Maps.Views
namespace Go.Proofs.Ytabnfnejlffioaa
open Go.RowKit Go.Maps
set_option linter.unusedVariables false

attribute [local go_sem ↓] Go.wp_at_zero Go.wp_at_succ

theorem keyed79 : Keyed Try.prog 79 := int_keyed Try.underlying79
theorem zero3 (w : World) : (zeroValue 3).run Try.prog w = .ok (.int .i64 0) w := by kernel_rfl

theorem wf_u64 (k : Nat) (h : k < 18446744073709551616) : (Lit.int .u64 (k : Int)).wf = true := by
  have h1 : IntKind.u64.min = 0 := by decide
  have h2 : IntKind.u64.max = 18446744073709551615 := by decide
  simp [Lit.wf, h1, h2]
  omega

theorem wf_i64 (k : Nat) (h : k ≤ 9223372036854775807) : (Lit.int .i64 (k : Int)).wf = true := WalkArith.wf_i64 (by omega)

theorem key79 (k : Nat) (h : k < 18446744073709551616) : Go.keyOf Try.prog 79 (.int .u64 (k : Int)) = some (.int .u64 (k : Int)) := keyOf_int_mk Try.underlying79 (wf_u64 k h)

/-- block b is a map of numbers, with at most n entries -/
def MapIs (w : World) (b n : Nat) (f : Nat → Nat) : Prop :=
  ∃ D : DataW Unit, w.ownsMap Try.prog 79 (plainElem Try.prog 3) b n D ∧ ∀ k : Nat, k < 18446744073709551616 → D.atKey (.int .u64 (k : Int)) (.lit (.int .i64 0)) = .lit (.int .i64 (f k : Nat))

theorem MapIs.look {w : World} {b n : Nat} {f : Nat → Nat} (h : MapIs w b n f) (k : Nat) (hk : k < 18446744073709551616) : (Instr.lookup 62 (.map (some b)) (.int .u64 (k : Int)) false).run Try.prog w = .ok (.int .i64 (f k : Nat)) w := by
  obtain ⟨D, hD, hf⟩ := h
  obtain ⟨c, hrun, hat, _⟩ := hD.lookup_int keyed79 Try.underlying62 Try.underlying3 (zero3 w) (key79 k hk)
  rw [hf k hk] at hat
  injection hat with hat
  injection hat with _ hat
  rw [hrun, ← hat]

theorem MapIs.made (w : World) : MapIs (w.alloc (.map #[] 0)) w.heap.size 0 (fun _ => 0) := ⟨_, World.ownsMap_made w _ _ _, fun k hk => rfl⟩

theorem MapIs.block {w w' : World} {b n : Nat} {f : Nat → Nat} (h : MapIs w b n f) (hb : w'.heap[b]? = w.heap[b]?) : MapIs w' b n f := by
  obtain ⟨D, ⟨es, clock, h1, h2⟩, hf⟩ := h
  exact ⟨D, ⟨es, clock, by rw [hb]; exact h1, h2⟩, hf⟩

theorem MapIs.is {w : World} {b n : Nat} {f : Nat → Nat} (h : MapIs w b n f) : ∃ es clock, w.heap[b]? = some (.map es clock) := by
  obtain ⟨D, ⟨es, clock, h1, h2⟩, hf⟩ := h
  exact ⟨es, clock, h1⟩

/-- one entry more -/
theorem MapIs.put {w : World} {b n : Nat} {f f' : Nat → Nat} {D : DataW Unit} {k x : Nat} (hk : k < 18446744073709551616) (h : w.ownsMap Try.prog 79 (plainElem Try.prog 3) b n (D.put (.int .u64 (k : Int)) (.lit (.int .i64 (x : Int)))))
    (hD : IsMap D) (hf : ∀ k : Nat, k < 18446744073709551616 → D.atKey (.int .u64 (k : Int)) (.lit (.int .i64 0)) = .lit (.int .i64 (f k : Nat))) (h1 : f' k = x) (h2 : ∀ j, j ≠ k → f' j = f j) : MapIs w b n f' := by
  refine ⟨_, h, fun j hj => ?_⟩
  by_cases e : j = k
  · subst e
    rw [atKey_put_same hD (keyed79.key (key79 j hj)), h1]
  · rw [atKey_put_other (by intro h; injection h with _ h; omega), hf j hj, h2 j e]

/-- of each place the one before it that has the same piece, one greater -/
def befs (zs : List Nat) (s m : Nat) : List Int := (List.range m).map fun p => (lastOf zs s p (keyAt zs s p) : Int)

theorem befs_succ (zs : List Nat) (s m : Nat) : befs zs s (m + 1) = befs zs s m ++ [(lastOf zs s m (keyAt zs s m) : Int)] := by simp [befs, List.range_succ]

theorem befs_length (zs : List Nat) (s m : Nat) : (befs zs s m).length = m := by simp [befs]

theorem befs_get (zs : List Nat) (s m p : Nat) (h : p < m) : (befs zs s m)[p]? = some (lastOf zs s p (keyAt zs s p) : Int) := by simp [befs, h]

/-- a level of size s that has taken in m places -/
structure LvlAt (zs : List Nat) (s m B : Nat) (w : World) (g o b : Nat) (v : Value) : Prop where
  c0 : w.cell? ⟨g, o, none⟩ = some (.int .i64 (s : Int))
  c1 : w.cell? ⟨g, o + 1, none⟩ = some (.map (some b))
  c2 : w.cell? ⟨g, o + 2, none⟩ = some v
  mp : MapIs w b m (lastOf zs s m)
  row : w.ownsRow B 3 1 v m ((befs zs s m).map iv)

/-- what add changes -/
structure AddChg (w : World) (g o b : Nat) (v v' : Value) (w' : World) : Prop where
  os : w'.os = w.os
  tape : w'.tape = w.tape
  output : w'.output = w.output
  size : w.heap.size ≤ w'.heap.size
  kp : ∀ x, x < w.heap.size → x ≠ g → x ≠ b → v.ownBlock ≠ some x → w'.heap[x]? = w.heap[x]?
  gb : ∀ cs t f, w.heap[g]? = some (.cells cs t f) → w'.heap[g]? = some (.cells (cs.setIfInBounds (o + 2) v') t f)
  own : v'.ownBlock = v.ownBlock ∨ ∃ h, v'.ownBlock = some h ∧ w.heap.size ≤ h

theorem keyAt_lt {zs : List Nat} (hb : ∀ c ∈ zs, c < 256) {s p : Nat} (hs : s ≤ 8) (hp : p + s ≤ zs.length) : keyAt zs s p < 18446744073709551616 := by
  have h := keyOf_lt s ((zs.drop p).take s) (by simp; omega) (fun c hc => hb c (List.mem_of_mem_drop (List.mem_of_mem_take hc)))
  have h2 : 256 ^ s ≤ 256 ^ 8 := Nat.pow_le_pow_right (by decide) hs
  have h3 : 256 ^ 8 = 18446744073709551616 := by decide
  unfold keyAt
  omega

theorem lastOf_self (zs : List Nat) (s m : Nat) : lastOf zs s (m + 1) (keyAt zs s m) = m + 1 := by rw [lastOf, if_pos rfl]
theorem lastOf_other (zs : List Nat) (s m : Nat) : ∀ k, k ≠ keyAt zs s m → lastOf zs s (m + 1) k = lastOf zs s m k := fun k h => by rw [lastOf, if_neg (fun e => h e.symm)]

/-- what the statement on places before holds of memory on the way -/
structure AddS (g o b n : Nat) (f : Nat → Nat) (x : World) : Prop where
  c1 : x.cell? ⟨g, o + 1, none⟩ = some (.map (some b))
  mp : MapIs x b n f

theorem row_not_map {w : World} {B n : Nat} {v : Value} {xs : List Value} (h : w.ownsRow B 3 1 v n xs) {b : Nat} {es : Array MapEntry} {ck : Nat} (hb : w.heap[b]? = some (.map es ck)) : v.ownBlock ≠ some b := by
  rcases h.2 with ⟨e, _⟩ | ⟨g, cap, cur, e, _, hh, _⟩
  · rw [e]; simp [Value.ownBlock]
  · rw [e]
    intro he
    simp [Value.ownBlock] at he
    subst he
    rw [hh] at hb
    cases hb

theorem row_not_cells {w : World} {B n : Nat} {v : Value} {xs : List Value} (h : w.ownsRow B 3 1 v n xs) {b : Nat} {cs : Array Value} {t : TypeId} {f : Nat × Nat} (hb : w.heap[b]? = some (.cells cs t f)) (ht : t ≠ 3) : v.ownBlock ≠ some b := by
  rcases h.2 with ⟨e, _⟩ | ⟨g, cap, cur, e, _, hh, _⟩
  · rw [e]; simp [Value.ownBlock]
  · rw [e]
    intro he
    simp [Value.ownBlock] at he
    subst he
    rw [hh] at hb
    injection hb with hb
    injection hb with _ hb _
    exact ht hb.symm

end Go.Proofs.Ytabnfnejlffioaa
