/- The bytes of chunks in memory, and how the next ones are taken. -/
import Derived.Test.YthafoojlkaifkaaNu
import Derived.Test.YthafoojlkaifkaaPs
import Derived.Test.YthafoojlkaifkaaKmA
namespace Go.Proofs.Ythafoojlkaifkaa.K
open Go.RowKit
set_option maxRecDepth 100000
set_option linter.unusedVariables false
attribute [local go_sem ↓] Go.wp_at_zero Go.wp_at_succ

/-- only these blocks may be others, and new ones -/
structure But (gs : List Nat) (w w' : World) : Prop where
  os : w'.os = w.os
  tape : w'.tape = w.tape
  output : w'.output = w.output
  size : w.heap.size ≤ w'.heap.size
  keep : ∀ x, x < w.heap.size → x ∉ gs → w'.heap[x]? = w.heap[x]?

theorem But.refl (gs : List Nat) (w : World) : But gs w w := ⟨rfl, rfl, rfl, Nat.le_refl _, fun _ _ _ => rfl⟩
theorem But.trans {gs : List Nat} {a b c : World} (h : But gs a b) (k : But gs b c) : But gs a c :=
  ⟨k.os.trans h.os, k.tape.trans h.tape, k.output.trans h.output, Nat.le_trans h.size k.size, fun x hx hn => (k.keep x (Nat.lt_of_lt_of_le hx h.size) hn).trans (h.keep x hx hn)⟩
theorem But.more {gs hs : List Nat} {a b : World} (h : But gs a b) (hsub : ∀ x ∈ gs, x ∈ hs) : But hs a b := ⟨h.os, h.tape, h.output, h.size, fun x hx hn => h.keep x hx fun e => hn (hsub x e)⟩
theorem But.drewN {gs : List Nat} {a b : World} (h : But gs a b) (q : Nat) : But gs a (b.drewN q) := ⟨h.os, h.tape, h.output, h.size, h.keep⟩
theorem But.drew {gs : List Nat} {a b : World} (h : But gs a b) : But gs a b.drew := ⟨h.os, h.tape, h.output, h.size, h.keep⟩
theorem But.set {gs : List Nat} {a b : World} (h : But gs a b) {g : Nat} (hg : g ∈ gs) (j : Nat) (v : Value) : But gs a (b.setCell ⟨g, j, none⟩ v) :=
  ⟨h.os, h.tape, h.output, by rw [show (b.setCell ⟨g, j, none⟩ v).heap.size = b.heap.size by simp]; exact h.size, fun x hx hn => by rw [heap_setCell_other _ _ _ _ (fun e : x = g => hn (e ▸ hg))]; exact h.keep x hx hn⟩
theorem But.of_below {gs : List Nat} {a b : World} (h : Below a.heap.size a b) : But gs a b := ⟨h.os, h.tape, h.output, h.size, fun x hx _ => h.block x hx⟩
theorem But.cell {gs : List Nat} {a b : World} (h : But gs a b) {p : Addr} {u : Value} (hc : a.cell? p = some u) (hn : p.block ∉ gs) : b.cell? p = some u := by
  have hlt := cell_lt hc
  have := h.keep p.block hlt hn
  simp only [World.cell?] at hc ⊢
  rw [this]
  exact hc
theorem But.alloc {gs : List Nat} {a b : World} (h : But gs a b) (o : Obj) : But gs a (b.alloc o) := h.trans (But.of_below ((Below.refl _ _).alloc (Nat.le_refl _) o))

/-- the bytes, and how many of them were taken -/
structure NK (w : World) (bb ub : Nat) (va : Option Addr) (vc : Nat) (zs : List Nat) (p : Nat) : Prop where
  b : w.heap[bb]? = some (.cells #[.slice va zs.length vc] 22 (0, 0))
  u : w.heap[ub]? = some (.cells #[.int .i64 (p : Int)] 3 (0, 0))
  rd : Reads w (.slice va zs.length vc) zs
  cap : zs.length ≤ vc
  le : p ≤ zs.length
  big : zs.length ≤ 140737488355328
  sm : ∀ z ∈ zs, z < 256
  blk : ∀ a, va = some a → 0 < zs.length → ∃ cur, w.heap[a.block]? = some (.cells cur 5 (0, 0))

theorem ne_types {w : World} {g k : Nat} {c1 c2 : Array Value} {t1 t2 : TypeId} (h1 : w.heap[g]? = some (.cells c1 t1 (0, 0))) (h2 : w.heap[k]? = some (.cells c2 t2 (0, 0))) (ht : t1 ≠ t2) : g ≠ k := by
  rintro rfl
  rw [h1] at h2
  injection h2 with h2
  injection h2 with _ h3
  exact ht h3

theorem Reads.keep {w w' : World} {gs : List Nat} {v : Value} {zs : List Nat} (h : Reads w v zs) (hb : But gs w w') (hn : ∀ a n c, v = .slice (some a) n c → 0 < zs.length → a.block ∉ gs) : Reads w' v zs := by
  obtain ⟨a, c, rfl, h2⟩ := h
  refine ⟨a, c, rfl, fun h0 => ?_⟩
  obtain ⟨ad, rfl, h3⟩ := h2 h0
  refine ⟨ad, rfl, fun j u hj => hb.cell (h3 j u hj) ?_⟩
  have : (ad.add j).block = ad.block := by simp [Addr.add]; split <;> rfl
  rw [this]
  refine hn ad _ _ rfl ?_
  rcases Nat.eq_zero_or_pos zs.length with h0 | h0
  · rw [List.eq_nil_of_length_eq_zero h0] at hj; simp at hj
  · exact h0

/-- blocks that no bytes lie in -/
def Far (w : World) (gs : List Nat) : Prop := ∀ g ∈ gs, g < w.heap.size → ∃ c t, w.heap[g]? = some (.cells c t (0, 0)) ∧ t ≠ 5 ∧ t ≠ 22

theorem Far.ne {w : World} {gs : List Nat} (h : Far w gs) {x : Nat} {c : Array Value} {t : TypeId} (hx : w.heap[x]? = some (.cells c t (0, 0))) (ht : t = 5 ∨ t = 22) : x ∉ gs := by
  intro hm
  obtain ⟨c', t', h1, h2, h3⟩ := h x hm (heap_lt hx)
  exact ne_types hx h1 (fun e => by rcases ht with e2 | e2 <;> rw [e2] at e <;> simp_all) rfl

theorem NK.own {w : World} {bb ub : Nat} {va : Option Addr} {vc : Nat} {zs : List Nat} {p : Nat} (h : NK w bb ub va vc zs p) : 0 < zs.length → ∃ g o, va = some ⟨g, o, none⟩ ∧ ∀ j, j < zs.length → w.cell? ⟨g, o + j, none⟩ = some (.int .u8 (zs.getD j 0 : Int)) := by
  intro h0
  obtain ⟨a, c, e, h2⟩ := h.rd.spot
  injection e with e1 e2 e3
  obtain ⟨g, o, e4, h3⟩ := h2 h0
  exact ⟨g, o, e1.trans e4, h3⟩

theorem NK.move {w w' : World} {bb ub : Nat} {va : Option Addr} {vc : Nat} {zs : List Nat} {p p' : Nat} {gs : List Nat} (h : NK w bb ub va vc zs p) (hb : But gs w w') (hf : Far w gs) (hu : w'.heap[ub]? = some (.cells #[.int .i64 (p' : Int)] 3 (0, 0))) (hp : p' ≤ zs.length) : NK w' bb ub va vc zs p' := by
  have hr : Reads w' (.slice va zs.length vc) zs := Reads.keep h.rd hb fun a n c e h0 => by
    injection e with e1 e2 e3
    obtain ⟨cur, hc⟩ := h.blk a e1 h0
    exact hf.ne hc (.inl rfl)
  exact ⟨by rw [hb.keep bb (heap_lt h.b) (hf.ne h.b (.inr rfl))]; exact h.b, hu, hr, h.cap, hp, h.big, h.sm, fun a e1 h0 => by
    obtain ⟨cur, hc⟩ := h.blk a e1 h0
    exact ⟨cur, by rw [hb.keep a.block (heap_lt hc) (hf.ne hc (.inl rfl))]; exact hc⟩⟩

theorem NK.far {w : World} {bb ub : Nat} {va : Option Addr} {vc : Nat} {zs : List Nat} {p : Nat} (h : NK w bb ub va vc zs p) : Far w [ub] := by
  intro g hg _
  obtain rfl := List.mem_singleton.1 hg
  exact ⟨_, _, h.u, by decide, by decide⟩

/-- how many bytes were taken stands there -/
def UB (w : World) (ub : Nat) : Prop := ∃ y : Int, w.heap[ub]? = some (.cells #[.int .i64 y] 3 (0, 0))
theorem NK.ub {w : World} {bb ub : Nat} {va : Option Addr} {vc : Nat} {zs : List Nat} {p : Nat} (h : NK w bb ub va vc zs p) : UB w ub := ⟨_, h.u⟩

section
variable {w : World} {bb ub : Nat} {va : Option Addr} {vc : Nat} {zs : List Nat} {p : Nat}

theorem next_end (h : NK w bb ub va vc zs p) (n : Nat) (hn : zs.length < p + n) (hn2 : n ≤ 65536) : Calls Try.prog 11 #[.int .i64 (n : Int), .pointer (some ⟨bb, 0, none⟩), .pointer (some ⟨ub, 0, none⟩)] w fun e w' => e = .returned (.tuple #[.slice none 0 0, .int .i64 10]) ∧ w' = w := by
  have c1 : w.cell? ⟨bb, 0, none⟩ = some (.slice va zs.length vc) := by simp [World.cell?, h.b]
  have c2 : w.cell? ⟨ub, 0, none⟩ = some (.int .i64 (p : Int)) := by simp [World.cell?, h.u]
  have hle := h.le
  have hbig := h.big
  have f1 : wrap64 ((zs.length : Int) - (p : Int)) = ((zs.length - p : Nat) : Int) := by unfold wrap64; omega
  have t1 : ((zs.length - p : Nat) : Int) < (n : Int) := by omega
  clear h hle hbig hn
  go_enter Try.func11, Try.ntmps11
  go_wp2_with fail
  go_returns
  exact ⟨rfl, rfl⟩

theorem next_ok (h : NK w bb ub va vc zs p) (n : Nat) (hn : p + n ≤ zs.length) (hn1 : 1 ≤ n) : Calls Try.prog 11 #[.int .i64 (n : Int), .pointer (some ⟨bb, 0, none⟩), .pointer (some ⟨ub, 0, none⟩)] w fun e w' => ∃ g o, va = some ⟨g, o, none⟩ ∧ e = .returned (.tuple #[.slice (some ⟨g, o + p, none⟩) n (vc - p), .int .i64 0]) ∧ NK w' bb ub va vc zs (p + n) ∧ But [ub] w w' := by
  have c1 : w.cell? ⟨bb, 0, none⟩ = some (.slice va zs.length vc) := by simp [World.cell?, h.b]
  have c2 : w.cell? ⟨ub, 0, none⟩ = some (.int .i64 (p : Int)) := by simp [World.cell?, h.u]
  have hfr : w.frozen? ⟨ub, 0, none⟩ = false := by simp [World.frozen?, h.u]
  have hle := h.le
  have hbig := h.big
  have hcap := h.cap
  obtain ⟨g, o, rfl, _⟩ := h.own (by omega)
  have f1 : wrap64 ((zs.length : Int) - (p : Int)) = ((zs.length - p : Nat) : Int) := by unfold wrap64; omega
  have f2 : wrap64 ((p : Int) + (n : Int)) = ((p + n : Nat) : Int) := by unfold wrap64; omega
  have f3 : wrap64 (((p + n : Nat) : Int) - (n : Int)) = (p : Int) := by unfold wrap64; omega
  have t1 : ¬ ((zs.length - p : Nat) : Int) < (n : Int) := by omega
  have hne : ub ≠ bb := ne_types h.u h.b (by decide)
  have HB : But [ub] w (w.setCell ⟨ub, 0, none⟩ (.int .i64 ((p + n : Nat) : Int))) := (But.refl _ _).set (by simp) 0 _
  have HN := hide (h.move HB h.far (by rw [heap_setCell_same w ub 0 _ 3 _ h.u]; rfl) hn)
  have HB := hide HB
  have d1 : (w.setCell ⟨ub, 0, none⟩ (.int .i64 ((p + n : Nat) : Int))).cell? ⟨bb, 0, none⟩ = some (.slice (some ⟨g, o, none⟩) zs.length vc) := (unhide HB).cell c1 (by simpa using Ne.symm hne)
  have d2 : (w.setCell ⟨ub, 0, none⟩ (.int .i64 ((p + n : Nat) : Int))).cell? ⟨ub, 0, none⟩ = some (.int .i64 ((p + n : Nat) : Int)) := by
    have hu := (unhide HN).u
    generalize (w.setCell ⟨ub, 0, none⟩ (.int .i64 ((p + n : Nat) : Int))) = x at hu ⊢
    simp only [World.cell?, hu]
    rfl
  have g1 : ¬ vc = p := by omega
  have g2 : ((p + n : Nat) : Int) ≤ (vc : Int) := by omega
  have g3 : p + n ≤ vc := by omega
  have g4 : p ≤ p + n := by omega
  have g5 : (p : Int) ≤ ((p + n : Nat) : Int) := by omega
  have g6 : p + n - p = n := by omega
  clear h hle hbig hcap hne hn
  generalize p + n = pn at *
  go_enter Try.func11, Try.ntmps11
  go_wp2_with fail
  go_ret2
  exact ⟨g, o, by first | rfl | exact ⟨rfl, rfl⟩, by first | rfl | (rw [g6]) | simp [g6], unhide HN, unhide HB⟩
end
end Go.Proofs.Ythafoojlkaifkaa.K
