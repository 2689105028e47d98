/- index.match by its levels. -/
import Derived.Test.YtabnfnejlffioaaBack
import Derived.Test.YtabnfnejlffioaaMzero
namespace Go.Proofs.Ytabnfnejlffioaa
open Go.RowKit Go.Maps Go.Shelf
set_option linter.unusedVariables false

/-- how long a piece may be at the k-th level from above -/
def mostAt (M0 N : Nat) (sz : Nat → Nat) : Nat → Nat
  | 0 => M0
  | k + 1 => min (mostAt M0 N sz k) (sz (N - 1 - k) - 1)

theorem mostAt_le (M0 N : Nat) (sz : Nat → Nat) : ∀ k, mostAt M0 N sz k ≤ M0
  | 0 => Nat.le_refl _
  | k + 1 => by have := mostAt_le M0 N sz k; rw [mostAt]; omega

theorem mostAt_ge {M0 N K : Nat} {sz : Nat → Nat} (hd : ∀ j, j + 1 < N → sz (j + 1) = 2 * sz j) (h1 : ∀ j, j < N → 1 ≤ sz j) (h0 : min (sz (N - 1)) K ≤ M0) : ∀ k, k < N → min (sz (N - 1 - k)) K ≤ mostAt M0 N sz k
  | 0, _ => h0
  | k + 1, hk => by
    have ih := mostAt_ge hd h1 h0 k (by omega)
    have h2 := hd (N - 1 - (k + 1)) (by omega)
    have h3 := h1 (N - 1 - (k + 1)) (by omega)
    rw [show N - 1 - (k + 1) + 1 = N - 1 - k by omega] at h2
    rw [mostAt]
    omega

theorem sz_le {N : Nat} {sz : Nat → Nat} (hd : ∀ j, j + 1 < N → sz (j + 1) = 2 * sz j) : ∀ j, j < N → sz 0 ≤ sz j
  | 0, _ => Nat.le_refl _
  | j + 1, h => by have := sz_le hd j (by omega); have := hd j h; omega

/-- what match's statements read on the way -/
structure MS (H gx p W M : Nat) (tx : Value) (y : World) : Prop where
  c0 : y.cell? ⟨H, 0, none⟩ = some (.pointer (some ⟨gx, 0, none⟩))
  c1 : y.cell? ⟨H + 1, 0, none⟩ = some (.int .i64 (p : Int))
  x0 : y.cell? ⟨gx, 0, none⟩ = some tx
  x1 : y.cell? ⟨gx, 1, none⟩ = some (.int .i64 (W : Int))
  x2 : y.cell? ⟨gx, 2, none⟩ = some (.int .i64 (M : Int))

theorem MS.same {H gx p W M : Nat} {tx : Value} {y z : World} (h : MS H gx p W M tx y) (e : z.heap = y.heap) : MS H gx p W M tx z := by
  have k : ∀ a, z.cell? a = y.cell? a := fun a => World.cell?_of_block (by rw [e])
  exact ⟨by rw [k]; exact h.c0, by rw [k]; exact h.c1, by rw [k]; exact h.x0, by rw [k]; exact h.x1, by rw [k]; exact h.x2⟩

theorem MS.alloc {H gx p W M : Nat} {tx : Value} {y : World} (h : MS H gx p W M tx y) (o : Obj) : MS H gx p W M tx (y.alloc o) := by
  have hb := (Below.refl y.heap.size y).alloc (Nat.le_refl _) o
  exact ⟨cell_stays hb h.c0, cell_stays hb h.c1, cell_stays hb h.x0, cell_stays hb h.x1, cell_stays hb h.x2⟩

theorem MS.set {H gx p W M k : Nat} {tx : Value} {y : World} (h : MS H gx p W M tx y) (hk : H + 1 < k) (hg : gx ≠ k) (u : Value) : MS H gx p W M tx (y.setCell ⟨k, 0, none⟩ u) := by
  have kp : ∀ (g i : Nat), g ≠ k → (y.setCell ⟨k, 0, none⟩ u).cell? ⟨g, i, none⟩ = y.cell? ⟨g, i, none⟩ := fun g i hg => World.cell?_of_block (heap_setCell_other _ _ _ _ (by exact hg))
  exact ⟨by rw [kp _ _ (by omega)]; exact h.c0, by rw [kp _ _ (by omega)]; exact h.c1, by rw [kp _ _ hg]; exact h.x0, by rw [kp _ _ hg]; exact h.x1, by rw [kp _ _ hg]; exact h.x2⟩

/-- match's variables -/
structure MB (H b6 gx gl N lc p f Mk n d : Nat) (W : World) : Prop where
  h0 : W.heap[H]? = some (.cells #[.pointer (some ⟨gx, 0, none⟩)] 50 (0, 0))
  h1 : W.heap[H + 1]? = some (.cells #[.int .i64 (p : Int)] 3 (0, 0))
  h2 : W.heap[H + 2]? = some (.cells #[.int .i64 (n : Int)] 3 (0, 0))
  h3 : W.heap[H + 3]? = some (.cells #[.int .i64 (d : Int)] 3 (0, 0))
  h6 : W.heap[b6]? = some (.cells #[.int .i64 (f : Int)] 3 (0, 0))
  h7 : W.heap[b6 + 1]? = some (.cells #[.int .i64 (Mk : Int)] 3 (0, 0))
  h8 : W.heap[b6 + 2]? = some (.cells #[.slice (some ⟨gl, 0, none⟩) N lc] 52 (0, 0))
  le : H + 4 ≤ b6

/-- all but match's variables is as it was -/
structure KP (H b6 : Nat) (W1 W : World) : Prop where
  os : W.os = W1.os
  tape : W.tape = W1.tape
  output : W.output = W1.output
  size : b6 + 3 ≤ W.heap.size
  kp : ∀ x : Nat, x < b6 → (x < H ∨ H + 4 ≤ x) → W.heap[x]? = W1.heap[x]?

theorem grown_low {W W' : World} {row : Option Nat} {c : Nat} (hs : c ≤ W.heap.size) (hg : W.grownBy W' row) (hr : ∀ r, row = some r → c ≤ r) : ∀ x, x < c → W'.heap[x]? = W.heap[x]? := fun x hx => hg.block x (by omega) (fun e => by have := hr x e.symm; omega)

theorem MB.keep {H b6 gx gl N lc p f Mk n d : Nat} {W W' : World} (h : MB H b6 gx gl N lc p f Mk n d W) (hk : ∀ x, x < b6 + 3 → W'.heap[x]? = W.heap[x]?) : MB H b6 gx gl N lc p f Mk n d W' := by
  have hl := h.le
  exact ⟨by rw [hk _ (by omega)]; exact h.h0, by rw [hk _ (by omega)]; exact h.h1, by rw [hk _ (by omega)]; exact h.h2, by rw [hk _ (by omega)]; exact h.h3, by rw [hk _ (by omega)]; exact h.h6, by rw [hk _ (by omega)]; exact h.h7, by rw [hk _ (by omega)]; exact h.h8, hl⟩

theorem KP.keep {H b6 : Nat} {W1 W W' : World} (h : KP H b6 W1 W) (ho : W'.os = W.os) (ht : W'.tape = W.tape) (hu : W'.output = W.output) (hs : W.heap.size ≤ W'.heap.size) (hk : ∀ x, x < b6 → (x < H ∨ H + 4 ≤ x) → W'.heap[x]? = W.heap[x]?) : KP H b6 W1 W' :=
  ⟨ho.trans h.os, ht.trans h.tape, hu.trans h.output, by have := h.size; omega, fun x hx hd => by rw [hk x hx hd]; exact h.kp x hx hd⟩

attribute [local go_sem ↓] Go.wp_at_zero Go.wp_at_succ
attribute [local go_sem] Oper.semAt_some

/-- the same memory -/
structure SameW (x y : World) : Prop where
  heap : y.heap = x.heap
  os : y.os = x.os
  tape : y.tape = x.tape
  output : y.output = x.output

theorem SameW.cell {x y : World} (h : SameW x y) (a : Addr) : y.cell? a = x.cell? a := World.cell?_of_block (by rw [h.heap])
theorem SameW.frozen {x y : World} (h : SameW x y) (a : Addr) : y.frozen? a = x.frozen? a := by simp [World.frozen?, h.heap]

def MRes (zs : List Nat) (p u M0 s0 n d : Nat) : Prop := IsBest (zf zs) p u M0 n d ∨ (n = 0 ∧ d = 0 ∧ (NoneIn (zf zs) p u s0 ∨ zs.length < p + s0))

/-- what holds ahead of the k-th round -/
def MIs (zs : List Nat) (H b6 gx gl N lc p f u m0 : Nat) (sz : Nat → Nat) (W1 : World) (k : Nat) (W : World) : Prop := MB H b6 gx gl N lc p f (mostAt m0 N sz k) 0 0 W ∧ KP H b6 W1 W ∧ Hid (mostAt m0 N sz k < m0 → NoneIn (zf zs) p u (mostAt m0 N sz k + 1))

/-- what holds where a round has returned -/
def MXs (zs : List Nat) (H b6 p u m0 : Nat) (W1 : World) (W : World) : Prop := ∃ n d : Nat, W.heap[H + 2]? = some (.cells #[.int .i64 (n : Int)] 3 (0, 0)) ∧ W.heap[H + 3]? = some (.cells #[.int .i64 (d : Int)] 3 (0, 0)) ∧ IsBest (zf zs) p u m0 n d ∧ KP H b6 W1 W

theorem KP.two {H b6 : Nat} {W1 W : World} (h : KP H b6 W1 W) (n d : Int) : KP H b6 W1 ((W.setCell ⟨H + 2, 0, none⟩ (.int .i64 n)).setCell ⟨H + 3, 0, none⟩ (.int .i64 d)) :=
  h.keep rfl rfl rfl (by simp) (fun x hx hd => by rw [heap_setCell_other _ _ _ _ (by show x ≠ H + 3; omega), heap_setCell_other _ _ _ _ (by show x ≠ H + 2; omega)])

theorem two_cells {H : Nat} {W : World} {x y : Value} (h2 : W.heap[H + 2]? = some (.cells #[x] 3 (0, 0))) (h3 : W.heap[H + 3]? = some (.cells #[y] 3 (0, 0))) (n d : Value) :
    ((W.setCell ⟨H + 2, 0, none⟩ n).setCell ⟨H + 3, 0, none⟩ d).heap[H + 2]? = some (.cells #[n] 3 (0, 0)) ∧ ((W.setCell ⟨H + 2, 0, none⟩ n).setCell ⟨H + 3, 0, none⟩ d).heap[H + 3]? = some (.cells #[d] 3 (0, 0)) ∧ ∀ k, k ≠ H + 2 → k ≠ H + 3 → ((W.setCell ⟨H + 2, 0, none⟩ n).setCell ⟨H + 3, 0, none⟩ d).heap[k]? = W.heap[k]? := by
  refine ⟨?_, ?_, fun k e1 e2 => by rw [heap_setCell_other _ _ _ _ (by exact e2), heap_setCell_other _ _ _ _ (by exact e1)]⟩
  · rw [heap_setCell_other _ _ _ _ (by show H + 2 ≠ H + 3; omega), heap_setCell_same W (H + 2) 0 _ 3 _ h2]; rfl
  · rw [heap_setCell_same _ (H + 3) 0 #[y] 3 _ (by rw [heap_setCell_other _ _ _ _ (by show H + 3 ≠ H + 2; omega)]; exact h3)]; rfl

theorem none_left {zs : List Nat} {p u M M0 N : Nat} {sz : Nat → Nat} (hM0 : M0 = min M (zs.length - p)) (hN : 1 ≤ N) (h1 : 1 ≤ sz 0) (hsM : sz 0 ≤ M) (h : mostAt M0 N sz N < M0 → NoneIn (zf zs) p u (mostAt M0 N sz N + 1)) : NoneIn (zf zs) p u (sz 0) ∨ zs.length < p + sz 0 := by
  obtain ⟨k, rfl⟩ : ∃ k, N = k + 1 := ⟨N - 1, by omega⟩
  have hm : mostAt M0 (k + 1) sz (k + 1) ≤ sz 0 - 1 := by
    rw [mostAt, show k + 1 - 1 - k = 0 by omega]
    omega
  by_cases hc : mostAt M0 (k + 1) sz (k + 1) < M0
  · exact .inl ((h hc).mono (by omega))
  · exact .inr (by omega)

/-- the index, and all else, behind match -/
theorem match_end {zs : List Nat} {B N : Nat} {sz b : Nat → Nat} {v : Nat → Value} {m : Nat → Nat} {gx gl lc W M p H b6 n d D : Nat} {tx : Value} {w W1 Wz : World} (hx : IdxAt zs B N sz b v m gx gl lc W M p tx W1) (hk : Keeps B [3, 54, 65] w W1) (hH : H = w.heap.size) (hb : H + 4 ≤ b6) (hgx : gx < H) (hgl : gl < H) (hbj : ∀ j, j < N → b j < H)
    (hrow : ∀ j q, j < N → (v j).ownBlock = some q → q < b6 ∧ (q < H ∨ H + 4 ≤ q)) (hkp : KP H b6 W1 Wz) (h2 : Wz.heap[H + 2]? = some (.cells #[.int .i64 (n : Int)] 3 (0, 0))) (h3 : Wz.heap[H + 3]? = some (.cells #[.int .i64 (d : Int)] 3 (0, 0))) (hD : Wz.heap[D]? = some (.deferred (some []))) (hDb : b6 + 3 ≤ D) :
    Wz.heap[D]? = some (.deferred (some [])) ∧ ((Wz.putObj D (.deferred none)).cell? ⟨H + 2, 0, none⟩ = some (.int .i64 (n : Int)) ∧ (Wz.putObj D (.deferred none)).cell? ⟨H + 3, 0, none⟩ = some (.int .i64 (d : Int))) ∧ IdxAt zs B N sz b v m gx gl lc W M p tx (Wz.putObj D (.deferred none)) ∧ Keeps B [3, 54, 65] w (Wz.putObj D (.deferred none)) := by
  have hg := grownBy_putObj' Wz D (.deferred none)
  have kk : ∀ x, x < b6 + 3 → (Wz.putObj D (.deferred none)).heap[x]? = Wz.heap[x]? := grown_low hkp.size hg (fun r e => by injection e with e; omega)
  have k1 : ∀ x, x < b6 → (x < H ∨ H + 4 ≤ x) → (Wz.putObj D (.deferred none)).heap[x]? = W1.heap[x]? := fun x hx hd => by rw [kk x (by omega), hkp.kp x hx hd]
  refine ⟨hD, ⟨?_, ?_⟩, ⟨?_, ?_, hx.xB⟩, ⟨?_, ?_, ?_, ?_, fun x hx hB => ?_, fun x cs t f hx ht => ?_⟩⟩
  · rw [World.cell?_of_block (kk (H + 2) (by omega))]; simp [World.cell?, h2]
  · rw [World.cell?_of_block (kk (H + 3) (by omega))]; simp [World.cell?, h3]
  · rw [k1 gx (by omega) (.inl hgx)]; exact hx.xb
  · exact hx.lvs.kept (k1 gl (by omega) (.inl hgl)) (fun j hj => k1 _ (by have := hbj j hj; omega) (.inl (hbj j hj))) (fun j q hj hq => k1 q (hrow j q hj hq).1 (hrow j q hj hq).2)
  · rw [hg.os, hkp.os]; exact hk.os
  · rw [hg.tape, hkp.tape]; exact hk.tape
  · rw [hg.output, hkp.output]; exact hk.output
  · have := hg.size; have := hkp.size; omega
  · rw [k1 x (by omega) (.inl (by omega))]; exact hk.low x hx hB
  · have := heap_lt hx
    rw [k1 x (by omega) (.inl (by omega))]; exact hk.typ x cs t f hx ht

def MatchedIs (zs : List Nat) (B N : Nat) (sz b : Nat → Nat) (gx gl lc W M p u M0 : Nat) (tx : Value) (w : World) (e : Ending) (w' : World) : Prop :=
  ∃ n d : Nat, e = .returned (.tuple #[.int .i64 (n : Int), .int .i64 (d : Int)]) ∧ MRes zs p u M0 (sz 0) n d ∧ (∃ v, IdxAt zs B N sz b v (fun j => cnt zs.length (sz j) p) gx gl lc W M p tx w') ∧ Keeps B [3, 54, 65] w w'

set_option maxRecDepth 100000 in
set_option maxHeartbeats 4000000 in
theorem match_lev (zs : List Nat) (B N : Nat) (sz b : Nat → Nat) (v0 : Nat → Value) (gx gl lc W M f0 p cap ba off : Nat) (w : World) (hN : N ≤ 4) (hN1 : 1 ≤ N) (hlc : N ≤ lc) (hsz : ∀ j, j < N → 1 ≤ sz j ∧ sz j ≤ 8) (hsd : ∀ j, j + 1 < N → sz (j + 1) = 2 * sz j) (hsM : sz (N - 1) ≤ M) (hr : ReadsU B w (.slice (some ⟨ba, off, none⟩) zs.length cap) zs) (hcap : zs.length ≤ cap) (hz : ∀ c ∈ zs, c < 256) (hp : p < zs.length) (hf : f0 ≤ p) (hl : zs.length ≤ 100000000) (hB : B ≤ w.heap.size) (hB0 : 0 < B) (hW : W ≤ 9223372036854775807) (hM : M ≤ 9223372036854775807)
    (hx : IdxAt zs B N sz b v0 (fun j => cnt zs.length (sz j) f0) gx gl lc W M f0 (.slice (some ⟨ba, off, none⟩) zs.length cap) w) (hm : ML w) :
    Calls Try.prog 22 #[.pointer (some ⟨gx, 0, none⟩), .int .i64 (p : Int)] w fun e w' => MatchedIs zs B N sz b gx gl lc W M p (min p W) (min M (zs.length - p)) (.slice (some ⟨ba, off, none⟩) zs.length cap) w e w' := by
  obtain ⟨H, hH⟩ : ∃ H, H = w.heap.size := ⟨_, rfl⟩
  have HHW := hide hH
  have hgxH : gx < H := by rw [hH]; exact heap_lt hx.xb
  have hglH : gl < H := by obtain ⟨cs, hcs⟩ := hx.lvs.blk; rw [hH]; exact heap_lt hcs
  have HBJ : Hid (∀ j, j < N → b j < H) := hide fun j hj => by obtain ⟨es, ck, hb⟩ := (hx.lvs.lv j hj).mp.is; rw [hH]; exact heap_lt hb
  have HX := hide hx
  have HR := hide hr
  have HZ := hide hz
  have HML := hide hm
  have HSZ := hide hsz
  have HSD := hide hsd
  have HSZM : Hid (sz 0 ≤ sz (N - 1)) := hide (sz_le hsd (N - 1) (by omega))
  have hBH : B ≤ H := by rw [hH]; exact hB
  obtain ⟨L, htx⟩ : ∃ L, L = zs.length := ⟨_, rfl⟩
  rw [← htx] at HX HR hcap hl hp ⊢
  have HTX := hide htx
  obtain ⟨m0, hm0⟩ : ∃ m0, m0 = min M (L - p) := ⟨_, rfl⟩
  obtain ⟨u, hu⟩ : ∃ u, u = min p W := ⟨_, rfl⟩
  rw [← hm0, ← hu]
  have HU := hide hu
  have HM0 := hide hm0
  have m1 := run_min_nat (A := (p : Int)) (B := (W : Int)) rfl rfl hu
  have m2 := run_min_nat (A := (M : Int)) (B := (L : Int) - (p : Int)) rfl (by omega) hm0
  obtain ⟨f, hff⟩ : ∃ f : Nat, (p : Int) - (u : Int) = (f : Int) := ⟨p - u, by omega⟩
  have hwf : IntKind.i64.wrap (f : Int) = (f : Int) := IntWalk.i64_in _ (by omega)
  have hwL : IntKind.i64.wrap ((L : Int) - (p : Int)) = (L : Int) - (p : Int) := IntWalk.i64_in _ (by omega)
  have HF : Hid (f = p - u) := hide (by omega)
  have hm0L : m0 ≤ L - p := by omega
  have hN0 : ((N : Int) == 0) = false := by simp; omega
  clear hu hm0
  obtain ⟨W4, hW4⟩ : ∃ W4, W4 = (((w.alloc (.cells #[.pointer (some ⟨gx, 0, none⟩)] 50)).alloc (.cells #[.int .i64 (p : Int)] 3)).alloc (.cells #[.int .i64 0] 3)).alloc (.cells #[.int .i64 0] 3) := ⟨_, rfl⟩
  have HA : Hid (W4.heap[H]? = some (.cells #[.pointer (some ⟨gx, 0, none⟩)] 50 (0, 0)) ∧ W4.heap[H + 1]? = some (.cells #[.int .i64 (p : Int)] 3 (0, 0)) ∧ W4.heap[H + 2]? = some (.cells #[.int .i64 ((0 : Nat) : Int)] 3 (0, 0)) ∧ W4.heap[H + 3]? = some (.cells #[.int .i64 ((0 : Nat) : Int)] 3 (0, 0))) := hide (by
    rw [hW4, hH]
    refine ⟨?_, ?_, ?_, ?_⟩ <;> simp only [heap_alloc_at, World.size_alloc] <;> (repeat (first | rw [if_pos (by omega)] | rw [if_neg (by omega)])) <;> rfl)
  have HBL : Hid (Below H w W4) := hide (by
    rw [hW4]
    exact ((((Below.refl _ _).alloc (by omega) _).alloc (by simp; omega) _).alloc (by simp; omega) _).alloc (by simp; omega) _)
  have HS4 : Hid (W4.heap.size = H + 4) := hide (by rw [hW4, hH]; simp)
  have hx4 : IdxAt zs B N sz b v0 (fun j => cnt L (sz j) f0) gx gl lc W M f0 (.slice (some ⟨ba, off, none⟩) L cap) W4 := (unhide HX).grown (fun i hi => (unhide HBL).block i (by rw [hH]; exact hi))
  have c3 := hx4.x3
  have c0 : W4.cell? ⟨H, 0, none⟩ = some (.pointer (some ⟨gx, 0, none⟩)) := by simp [World.cell?, (unhide HA).1]
  have c1 : W4.cell? ⟨H + 1, 0, none⟩ = some (.int .i64 (p : Int)) := by simp [World.cell?, (unhide HA).2.1]
  have HFC := hide (fill_ok (fun x => H ≤ x ∧ x < H + 4) zs B N sz b v0 gx gl lc W M f0 p cap ba off W4 hN hlc (unhide HSZ) (by
      have h := unhide HR
      rw [unhide HTX] at h
      exact h.stays ⟨(unhide HBL).os, (unhide HBL).tape, (unhide HBL).output, (unhide HBL).size, fun k hk => (unhide HBL).block k (by omega)⟩) (by rw [← unhide HTX]; exact hcap) (unhide HZ) (by rw [← unhide HTX]; omega) hf (by rw [← unhide HTX]; exact hl) (by rw [unhide HS4]; omega) (by rw [← unhide HTX]; exact hx4) (fun x hx => by
      refine ⟨by rw [unhide HS4]; exact hx.2, by omega, by omega, fun j hj => ⟨by have := unhide HBJ j hj; omega, fun e => ?_⟩⟩
      obtain ⟨_, cs, ff, hh⟩ := own_base ((unhide HX).lvs.lv j hj).row e
      have := heap_lt hh
      omega))
  rw [← unhide HTX] at HFC
  clear hx hr hz hm hsz hsd htx hx4 hH
  refine (callsIn_wide (n := 4)).1 (callsIn_of_wp_marks Try.func22 rfl trivial (wpIn_wide.2 ?_) rfl)
  simp only [Try.ntmps22, List.size_toArray, List.length_cons, List.length_nil, Nat.reduceAdd, Nat.reduceSub, Array.replicate_succ, Array.replicate_zero, List.push_toArray, List.append_toArray, List.nil_append, List.cons_append]
  go_upto_region 1 with fail
  have e3 : w.heap.size + 1 + 1 + 1 = H + 3 := by rw [unhide HHW]
  have e2 : w.heap.size + 1 + 1 = H + 2 := by rw [unhide HHW]
  have e1 : w.heap.size + 1 = H + 1 := by rw [unhide HHW]
  have e0 : w.heap.size = H := (unhide HHW).symm
  rw [e3, e2, e1, e0, ← hW4]
  clear hW4 e0 e1 e2 e3
  go_wp2_with fail
  refine (unhide HFC).mono ?_
  rintro e W1 ⟨rfl, ⟨v, hx1, hap⟩, hk1, hT1⟩
  obtain ⟨b6, hb6⟩ : ∃ b6, b6 = W1.heap.size := ⟨_, rfl⟩
  have hHb : H + 4 ≤ b6 := by have := hk1.size; rw [unhide HS4] at this; omega
  have HA1 : Hid (W1.heap[H]? = some (.cells #[.pointer (some ⟨gx, 0, none⟩)] 50 (0, 0)) ∧ W1.heap[H + 1]? = some (.cells #[.int .i64 (p : Int)] 3 (0, 0)) ∧ W1.heap[H + 2]? = some (.cells #[.int .i64 ((0 : Nat) : Int)] 3 (0, 0)) ∧ W1.heap[H + 3]? = some (.cells #[.int .i64 ((0 : Nat) : Int)] 3 (0, 0))) := hide (by
    have h := unhide HA
    refine ⟨?_, ?_, ?_, ?_⟩
    · rw [hT1 _ (by omega)]; exact h.1
    · rw [hT1 _ (by omega)]; exact h.2.1
    · rw [hT1 _ (by omega)]; exact h.2.2.1
    · rw [hT1 _ (by omega)]; exact h.2.2.2)
  have HSW1 : Hid (MS H gx p W M (.slice (some ⟨ba, off, none⟩) L cap) W1) := hide ⟨by simp [World.cell?, (unhide HA1).1], by simp [World.cell?, (unhide HA1).2.1], hx1.x0, hx1.x1, hx1.x2⟩
  have HSZW1 : Hid (W1.heap.size = b6) := hide hb6.symm
  have HKW1 : Hid (Keeps B [3, 54, 65] w W1) := hide (Keeps.trans (Keeps.of_below (by rw [← unhide HHW]; exact unhide HBL)) hk1)
  have HROW : Hid (∀ j q, j < N → (v j).ownBlock = some q → q < b6 ∧ (q < H ∨ H + 4 ≤ q)) := hide fun j q hj hq => by
    obtain ⟨_, cs, ff, hh⟩ := own_base (hx1.lvs.lv j hj).row hq
    have h1 := heap_lt hh
    refine ⟨by omega, ?_⟩
    rcases Nat.lt_or_ge q H with h | h
    · exact .inl h
    · refine .inr (Nat.le_of_not_lt fun h2 => ?_)
      exact ((hap q ⟨h, h2⟩).2.2.2 j hj).2 hq
  have HVS : Hid (∀ j, j < N → ∃ va vn vc, v j = .slice va vn vc) := hide fun j hj => by
    rcases (hx1.lvs.lv j hj).row.2 with ⟨e, _⟩ | ⟨g, cap, cur, e, _⟩
    · exact ⟨_, _, _, e⟩
    · exact ⟨_, _, _, e⟩
  have HML1 : Hid (ML W1) := hide (by
    obtain ⟨mm, hmm⟩ := unhide HML
    have h0 := cell_lt hmm
    refine ⟨mm, ?_⟩
    rw [World.cell?_of_block ((unhide HKW1).low 0 h0 hB0)]
    exact hmm)
  have HX1 := hide hx1
  clear hb6 hx1 hap hk1 hT1 c0 c1 c3 HA HBL HS4 HFC HX
  go_upto_region 4 with fail
  refine wp_region_noPanic ?_
  refine wp_region_held_drew (S := MS H gx p W M (.slice (some ⟨ba, off, none⟩) L cap)) (by kernel_rfl) ((unhide HSW1).same rfl) (fun hHeld => ?_)
  refine held_take 0 39 rfl rfl (by kernel_rfl) (by kernel_rfl) (by kernel_rfl) (by rfl) hHeld noPanic_panic (v := ?_) (fun x' hSx => ?_) ?_
  rotate_left 1
  · (obtain ⟨q1, q2, q3, q4, q5⟩ := hSx; go_simp <;> with_reducible rfl)
  simp only [List.set_cons_zero, List.set_cons_succ]
  refine held_take 1 40 rfl rfl (by kernel_rfl) (by kernel_rfl) (by kernel_rfl) (by rfl) hHeld noPanic_panic (v := ?_) (fun x' hSx => ?_) ?_
  rotate_left 1
  · (obtain ⟨q1, q2, q3, q4, q5⟩ := hSx; go_simp <;> with_reducible rfl)
  simp only [List.set_cons_zero, List.set_cons_succ]
  refine held_take 2 41 rfl rfl (by kernel_rfl) (by kernel_rfl) (by kernel_rfl) (by rfl) hHeld noPanic_panic (v := ?_) (fun x' hSx => ?_) ?_
  rotate_left 1
  · (obtain ⟨q1, q2, q3, q4, q5⟩ := hSx; go_simp <;> with_reducible rfl)
  simp only [List.set_cons_zero, List.set_cons_succ]
  refine held_take 3 42 rfl rfl (by kernel_rfl) (by kernel_rfl) (by kernel_rfl) (by rfl) hHeld noPanic_panic (v := ?_) (fun x' hSx => ?_) ?_
  rotate_left 1
  · (obtain ⟨q1, q2, q3, q4, q5⟩ := hSx; go_simp <;> with_reducible rfl)
  simp only [List.set_cons_zero, List.set_cons_succ]
  refine held_take 4 43 rfl rfl (by kernel_rfl) (by kernel_rfl) (by kernel_rfl) (by rfl) hHeld noPanic_panic (v := ?_) (fun x' hSx => ?_) ?_
  rotate_left 1
  · (obtain ⟨q1, q2, q3, q4, q5⟩ := hSx; go_simp <;> with_reducible rfl)
  simp only [List.set_cons_zero, List.set_cons_succ]
  refine held_take 5 44 rfl rfl (by kernel_rfl) (by kernel_rfl) (by kernel_rfl) (by rfl) hHeld noPanic_panic (v := ?_) (fun x' hSx => ?_) ?_
  rotate_left 1
  · (obtain ⟨q1, q2, q3, q4, q5⟩ := hSx; go_simp <;> with_reducible rfl)
  simp only [List.set_cons_zero, List.set_cons_succ]
  refine held_take 6 45 rfl rfl (by kernel_rfl) (by kernel_rfl) (by kernel_rfl) (by rfl) hHeld noPanic_panic (v := ?_) (fun x' hSx => ?_) ?_
  rotate_left 1
  · (obtain ⟨q1, q2, q3, q4, q5⟩ := hSx; go_simp <;> with_reducible rfl)
  simp only [List.set_cons_zero, List.set_cons_succ]
  refine held_take 7 46 rfl rfl (by kernel_rfl) (by kernel_rfl) (by kernel_rfl) (by rfl) hHeld noPanic_panic (v := ?_) (fun x' hSx => ?_) ?_
  rotate_left 1
  · (obtain ⟨q1, q2, q3, q4, q5⟩ := hSx; go_simp <;> with_reducible rfl)
  simp only [List.set_cons_zero, List.set_cons_succ]
  obtain ⟨Wd, hWd⟩ : ∃ Wd, Wd = W1.drew := ⟨_, rfl⟩
  rw [← hWd] at hHeld ⊢
  have HHd : Hid (Wd.heap.size = b6) := hide (by rw [hWd]; exact unhide HSZW1)
  have HWd : Hid (Wd.heap = W1.heap ∧ Wd.os = W1.os ∧ Wd.tape = W1.tape ∧ Wd.output = W1.output) := hide (by rw [hWd]; exact ⟨rfl, rfl, rfl, rfl⟩)
  clear hWd
  refine held_one 8 6 (by kernel_rfl) rfl rfl (by rfl) (v := .pointer (some ⟨Wd.heap.size, 0, none⟩)) (w' := Wd.alloc (.cells #[.int .i64 0] 3)) ?_ (hHeld.alloc _) ?_
  · go_simp <;> exact ⟨rfl, rfl⟩
  simp only [List.set_cons_zero, List.set_cons_succ]
  rw [unhide HHd]
  have hS2 := (hHeld.alloc (.cells #[.int .i64 0] 3)).set (k := b6) (by omega) (by omega) (.int .i64 (f : Int))
  refine held_skip 9 (by kernel_rfl) rfl rfl (by rfl) (w' := (Wd.alloc (.cells #[.int .i64 0] 3)).setCell ⟨b6, 0, none⟩ (.int .i64 (f : Int))) ?_ hS2 ?_
  · (have q1 : (Wd.alloc (.cells #[.int .i64 0] 3)).cell? ⟨b6, 0, none⟩ = some (.int .i64 0) := (by rw [← unhide HHd]; exact new_int _ _); have q2 : (Wd.alloc (.cells #[.int .i64 0] 3)).frozen? ⟨b6, 0, none⟩ = false := (by rw [← unhide HHd]; simp only [World.frozen?, heap_alloc_new]; simp); go_simp)
  refine wpAnyH_done (by kernel_rfl) ?_ _
  refine NoPanic.normal ?_
  obtain ⟨W2, hW2⟩ : ∃ W2, W2 = (Wd.alloc (.cells #[.int .i64 0] 3)).setCell ⟨b6, 0, none⟩ (.int .i64 (f : Int)) := ⟨_, rfl⟩
  rw [← hW2] at hS2 ⊢
  have HSW2 := hide hS2
  have HBW2 : Hid (W2.heap[b6]? = some (.cells #[.int .i64 (f : Int)] 3 (0, 0)) ∧ (∀ x, x < b6 → W2.heap[x]? = W1.heap[x]?) ∧ W2.os = W1.os ∧ W2.tape = W1.tape ∧ W2.output = W1.output) := hide (by
    refine ⟨?_, fun x hx => ?_, ?_, ?_, ?_⟩
    · rw [hW2, heap_setCell_same _ (b6) 0 #[.int .i64 0] 3 _ (by rw [← unhide HHd]; exact heap_alloc_new _ _)]; rfl
    · rw [hW2, heap_setCell_other _ _ _ _ (by show x ≠ b6; omega), Below.heap_alloc _ _ _ (by rw [unhide HHd]; exact hx), (unhide HWd).1]
    · rw [hW2]; exact (unhide HWd).2.1
    · rw [hW2]; exact (unhide HWd).2.2.1
    · rw [hW2]; exact (unhide HWd).2.2.2)
  have HSZW2 : Hid (W2.heap.size = b6 + 1) := hide (by rw [hW2]; simp [unhide HHd])
  clear hW2 hHeld hS2 HHd HWd HSW1 HSZW1
  go_upto_region 5 with fail
  refine wp_region_noPanic ?_
  refine wp_region_held_drew (S := MS H gx p W M (.slice (some ⟨ba, off, none⟩) L cap)) (by kernel_rfl) ((unhide HSW2).same rfl) (fun hHeld => ?_)
  refine held_take 0 47 rfl rfl (by kernel_rfl) (by kernel_rfl) (by kernel_rfl) (by rfl) hHeld noPanic_panic (v := ?_) (fun x' hSx => ?_) ?_
  rotate_left 1
  · (obtain ⟨q1, q2, q3, q4, q5⟩ := hSx; go_simp <;> with_reducible rfl)
  simp only [List.set_cons_zero, List.set_cons_succ]
  refine held_take 1 48 rfl rfl (by kernel_rfl) (by kernel_rfl) (by kernel_rfl) (by rfl) hHeld noPanic_panic (v := ?_) (fun x' hSx => ?_) ?_
  rotate_left 1
  · (obtain ⟨q1, q2, q3, q4, q5⟩ := hSx; go_simp <;> with_reducible rfl)
  simp only [List.set_cons_zero, List.set_cons_succ]
  refine held_take 2 49 rfl rfl (by kernel_rfl) (by kernel_rfl) (by kernel_rfl) (by rfl) hHeld noPanic_panic (v := ?_) (fun x' hSx => ?_) ?_
  rotate_left 1
  · (obtain ⟨q1, q2, q3, q4, q5⟩ := hSx; go_simp <;> with_reducible rfl)
  simp only [List.set_cons_zero, List.set_cons_succ]
  refine held_take 3 50 rfl rfl (by kernel_rfl) (by kernel_rfl) (by kernel_rfl) (by rfl) hHeld noPanic_panic (v := ?_) (fun x' hSx => ?_) ?_
  rotate_left 1
  · (obtain ⟨q1, q2, q3, q4, q5⟩ := hSx; go_simp <;> with_reducible rfl)
  simp only [List.set_cons_zero, List.set_cons_succ]
  refine held_take 4 51 rfl rfl (by kernel_rfl) (by kernel_rfl) (by kernel_rfl) (by rfl) hHeld noPanic_panic (v := ?_) (fun x' hSx => ?_) ?_
  rotate_left 1
  · (obtain ⟨q1, q2, q3, q4, q5⟩ := hSx; go_simp <;> with_reducible rfl)
  simp only [List.set_cons_zero, List.set_cons_succ]
  refine held_take 5 52 rfl rfl (by kernel_rfl) (by kernel_rfl) (by kernel_rfl) (by rfl) hHeld noPanic_panic (v := ?_) (fun x' hSx => ?_) ?_
  rotate_left 1
  · (obtain ⟨q1, q2, q3, q4, q5⟩ := hSx; go_simp <;> with_reducible rfl)
  simp only [List.set_cons_zero, List.set_cons_succ]
  refine held_take 6 53 rfl rfl (by kernel_rfl) (by kernel_rfl) (by kernel_rfl) (by rfl) hHeld noPanic_panic (v := ?_) (fun x' hSx => ?_) ?_
  rotate_left 1
  · (obtain ⟨q1, q2, q3, q4, q5⟩ := hSx; go_simp <;> with_reducible rfl)
  simp only [List.set_cons_zero, List.set_cons_succ]
  refine held_take 7 54 rfl rfl (by kernel_rfl) (by kernel_rfl) (by kernel_rfl) (by rfl) hHeld noPanic_panic (v := ?_) (fun x' hSx => ?_) ?_
  rotate_left 1
  · (obtain ⟨q1, q2, q3, q4, q5⟩ := hSx; go_simp <;> with_reducible rfl)
  simp only [List.set_cons_zero, List.set_cons_succ]
  refine held_take 8 55 rfl rfl (by kernel_rfl) (by kernel_rfl) (by kernel_rfl) (by rfl) hHeld noPanic_panic (v := ?_) (fun x' hSx => ?_) ?_
  rotate_left 1
  · (obtain ⟨q1, q2, q3, q4, q5⟩ := hSx; go_simp <;> with_reducible rfl)
  simp only [List.set_cons_zero, List.set_cons_succ]
  refine held_take 9 56 rfl rfl (by kernel_rfl) (by kernel_rfl) (by kernel_rfl) (by rfl) hHeld noPanic_panic (v := ?_) (fun x' hSx => ?_) ?_
  rotate_left 1
  · (obtain ⟨q1, q2, q3, q4, q5⟩ := hSx; go_simp <;> with_reducible rfl)
  simp only [List.set_cons_zero, List.set_cons_succ]
  refine held_take 10 57 rfl rfl (by kernel_rfl) (by kernel_rfl) (by kernel_rfl) (by rfl) hHeld noPanic_panic (v := ?_) (fun x' hSx => ?_) ?_
  rotate_left 1
  · (obtain ⟨q1, q2, q3, q4, q5⟩ := hSx; go_simp <;> with_reducible rfl)
  simp only [List.set_cons_zero, List.set_cons_succ]
  refine held_take 11 58 rfl rfl (by kernel_rfl) (by kernel_rfl) (by kernel_rfl) (by rfl) hHeld noPanic_panic (v := ?_) (fun x' hSx => ?_) ?_
  rotate_left 1
  · (obtain ⟨q1, q2, q3, q4, q5⟩ := hSx; go_simp <;> with_reducible rfl)
  simp only [List.set_cons_zero, List.set_cons_succ]
  obtain ⟨Wd, hWd⟩ : ∃ Wd, Wd = W2.drew := ⟨_, rfl⟩
  rw [← hWd] at hHeld ⊢
  have HHd : Hid (Wd.heap.size = b6 + 1) := hide (by rw [hWd]; exact unhide HSZW2)
  have HWd : Hid (Wd.heap = W2.heap ∧ Wd.os = W2.os ∧ Wd.tape = W2.tape ∧ Wd.output = W2.output) := hide (by rw [hWd]; exact ⟨rfl, rfl, rfl, rfl⟩)
  clear hWd
  refine held_one 12 7 (by kernel_rfl) rfl rfl (by rfl) (v := .pointer (some ⟨Wd.heap.size, 0, none⟩)) (w' := Wd.alloc (.cells #[.int .i64 0] 3)) ?_ (hHeld.alloc _) ?_
  · go_simp <;> exact ⟨rfl, rfl⟩
  simp only [List.set_cons_zero, List.set_cons_succ]
  rw [unhide HHd]
  have hS2 := (hHeld.alloc (.cells #[.int .i64 0] 3)).set (k := b6 + 1) (by omega) (by omega) (.int .i64 (m0 : Int))
  refine held_skip 13 (by kernel_rfl) rfl rfl (by rfl) (w' := (Wd.alloc (.cells #[.int .i64 0] 3)).setCell ⟨b6 + 1, 0, none⟩ (.int .i64 (m0 : Int))) ?_ hS2 ?_
  · (have q1 : (Wd.alloc (.cells #[.int .i64 0] 3)).cell? ⟨b6 + 1, 0, none⟩ = some (.int .i64 0) := (by rw [← unhide HHd]; exact new_int _ _); have q2 : (Wd.alloc (.cells #[.int .i64 0] 3)).frozen? ⟨b6 + 1, 0, none⟩ = false := (by rw [← unhide HHd]; simp only [World.frozen?, heap_alloc_new]; simp); go_simp)
  refine wpAnyH_done (by kernel_rfl) ?_ _
  refine NoPanic.normal ?_
  obtain ⟨W3, hW3⟩ : ∃ W3, W3 = (Wd.alloc (.cells #[.int .i64 0] 3)).setCell ⟨b6 + 1, 0, none⟩ (.int .i64 (m0 : Int)) := ⟨_, rfl⟩
  rw [← hW3] at hS2 ⊢
  have HSW3 := hide hS2
  have HBW3 : Hid (W3.heap[b6 + 1]? = some (.cells #[.int .i64 (m0 : Int)] 3 (0, 0)) ∧ (∀ x, x < b6 + 1 → W3.heap[x]? = W2.heap[x]?) ∧ W3.os = W2.os ∧ W3.tape = W2.tape ∧ W3.output = W2.output) := hide (by
    refine ⟨?_, fun x hx => ?_, ?_, ?_, ?_⟩
    · rw [hW3, heap_setCell_same _ (b6 + 1) 0 #[.int .i64 0] 3 _ (by rw [← unhide HHd]; exact heap_alloc_new _ _)]; rfl
    · rw [hW3, heap_setCell_other _ _ _ _ (by show x ≠ b6 + 1; omega), Below.heap_alloc _ _ _ (by rw [unhide HHd]; exact hx), (unhide HWd).1]
    · rw [hW3]; exact (unhide HWd).2.1
    · rw [hW3]; exact (unhide HWd).2.2.1
    · rw [hW3]; exact (unhide HWd).2.2.2)
  have HSZW3 : Hid (W3.heap.size = b6 + 1 + 1) := hide (by rw [hW3]; simp [unhide HHd])
  clear hW3 hHeld hS2 HHd HWd HSW2 HSZW2
  have c0 := (unhide HSW3).c0
  have c3 : W3.cell? ⟨gx, 3, none⟩ = some (.slice (some ⟨gl, 0, none⟩) N lc) := by
    rw [World.cell?_of_block ((unhide HBW3).2.1 gx (by omega)), World.cell?_of_block ((unhide HBW2).2.1 gx (by omega))]
    exact (unhide HX1).x3
  go_wp2_with fail
  refine (back_ok _ _ _ _).mono ?_
  rintro e W5 ⟨rfl, hW5⟩
  rw [unhide HSZW3]
  have HMB0 : Hid (MB H b6 gx gl N lc p f m0 0 0 W5) := hide (by
    have k3 : ∀ x, x < b6 + 2 → W5.heap[x]? = W3.heap[x]? := fun x hx => by rw [hW5, heap_alloc_at, if_neg (by rw [unhide HSZW3]; omega)]
    have k2 : ∀ x, x < b6 → W5.heap[x]? = W1.heap[x]? := fun x hx => by rw [k3 x (by omega), (unhide HBW3).2.1 x (by omega), (unhide HBW2).2.1 x hx]
    have h := unhide HA1
    refine ⟨by rw [k2 _ (by omega)]; exact h.1, by rw [k2 _ (by omega)]; exact h.2.1, by rw [k2 _ (by omega)]; exact h.2.2.1, by rw [k2 _ (by omega)]; exact h.2.2.2, by rw [k3 _ (by omega), (unhide HBW3).2.1 _ (by omega)]; exact (unhide HBW2).1, by rw [k3 _ (by omega)]; exact (unhide HBW3).1, ?_, hHb⟩
    rw [hW5, heap_alloc_at, if_pos (by rw [unhide HSZW3])])
  have HKP0 : Hid (KP H b6 W1 W5) := hide (by
    have k3 : ∀ x, x < b6 + 2 → W5.heap[x]? = W3.heap[x]? := fun x hx => by rw [hW5, heap_alloc_at, if_neg (by rw [unhide HSZW3]; omega)]
    refine ⟨?_, ?_, ?_, ?_, fun x hx _ => by rw [k3 x (by omega), (unhide HBW3).2.1 x (by omega), (unhide HBW2).2.1 x hx]⟩
    · rw [hW5]; exact (unhide HBW3).2.2.1.trans (unhide HBW2).2.2.1
    · rw [hW5]; exact (unhide HBW3).2.2.2.1.trans (unhide HBW2).2.2.2.1
    · rw [hW5]; exact (unhide HBW3).2.2.2.2.trans (unhide HBW2).2.2.2.2
    · rw [hW5, World.size_alloc, unhide HSZW3]; omega)
  have HS5 : Hid (W5.heap.size = b6 + 3) := hide (by rw [hW5, World.size_alloc, unhide HSZW3])
  clear hW5 c0 c3 HSW3 HSZW3 HBW3 HBW2 HA1
  go_wp2_with fail
  rw [show b6 + 1 + 1 = b6 + 2 from rfl]
  refine (wpIn_wide (n := 4)).1 ?_
  have hm1 : Try.prog.follows .mixedOrders = true := by kernel_rfl
  refine range_stop (F := Fence.wide) rfl (by omega) (gf := 43) (lb := #[.pointer (some ⟨b6 + 2, 0, none⟩)]) rfl trivial (enters_of Try.func43 (by kernel_rfl) rfl) (encB N (fun j => .int .i64 (sz j : Int)) (fun j => .map (some (b j))) v) N (fun _ => rfl)
    (fun k W => MIs zs H b6 gx gl N lc p f u m0 sz W1 k W)
    (fun W => MXs zs H b6 p u m0 W1 W)
    (fun k W W' row h hg hr => by
      have kk := grown_low h.2.1.size hg (fun r e => by have := (hr r e).1; rw [unhide HS5] at this; exact this)
      exact ⟨h.1.keep kk, h.2.1.keep hg.os hg.tape hg.output hg.size (fun x hx _ => kk x (by omega)), h.2.2⟩)
    (fun _ W W' row h hg hr => by
      obtain ⟨n, d, h2, h3, hb, hk⟩ := h
      have kk := grown_low hk.size hg (fun r e => by have := (hr r e).1; rw [unhide HS5] at this; exact this)
      exact ⟨n, d, by rw [kk _ (by omega)]; exact h2, by rw [kk _ (by omega)]; exact h3, hb, hk.keep hg.os hg.tape hg.output hg.size (fun x hx _ => kk x (by omega))⟩)
    ⟨unhide HMB0, unhide HKP0, hide fun h => absurd h (by rw [mostAt]; omega)⟩
    (fun l J Y W hJ h0 hY => back1_in Fence.wide (4 - 1) trivial rfl (by omega) l (b6 + 2) gl N lc (by omega) _ _ _ J Y (fun k W h => by
      obtain ⟨hmb, hkp, _⟩ := hJ k W h
      have kg : ∀ i, W.cell? ⟨gl, i, none⟩ = W1.cell? ⟨gl, i, none⟩ := fun i => World.cell?_of_block (hkp.kp gl (by omega) (.inl hglH))
      refine ⟨by simp [World.cell?, hmb.h8], fun j hj => ?_, fun j hj => ?_, fun j hj => ?_⟩
      · rw [kg]; exact ((unhide HX1).lvs.lv j hj).c0
      · rw [kg]; exact ((unhide HX1).lvs.lv j hj).c1
      · rw [kg]; exact ((unhide HX1).lvs.lv j hj).c2) hY W h0)
    (fun k a' Wx => ∃ Bx, Wx.heap[Bx]? = some (.cells #[.int .i64 (sz (N - 1 - k) : Int), .map (some (b (N - 1 - k))), v (N - 1 - k)] 65 (0, 0)) ∧ b6 + 3 ≤ Bx ∧ a' = { tmps := ((.pointer (some ⟨gx, 0, none⟩)) :: (.int .i64 (p : Int)) :: (.pointer (some ⟨H, 0, none⟩)) :: (.pointer (some ⟨H + 1, 0, none⟩)) :: (.pointer (some ⟨H + 2, 0, none⟩)) :: (.pointer (some ⟨H + 3, 0, none⟩)) :: (.pointer (some ⟨b6, 0, none⟩)) :: (.pointer (some ⟨b6 + 1, 0, none⟩)) :: undef :: (.pointer (some ⟨Bx, 0, none⟩)) :: undef :: (.pointer (some ⟨gx, 0, none⟩)) :: (.pointer (some ⟨gx, 0, none⟩)) :: (.pointer (some ⟨gx, 3, none⟩)) :: (.slice (some ⟨gl, 0, none⟩) N lc) :: (.int .i64 (N : Int)) :: (.bool false) :: undef :: undef :: undef :: undef :: undef :: undef :: undef :: undef :: undef :: undef :: undef :: undef :: undef :: undef :: undef :: undef :: undef :: undef :: undef :: (.pointer (some ⟨gx, 0, none⟩)) :: (.int .i64 (p : Int)) :: (.tuple #[]) :: (.int .i64 (p : Int)) :: (.int .i64 (p : Int)) :: (.pointer (some ⟨gx, 0, none⟩)) :: (.pointer (some ⟨gx, 0, none⟩)) :: (.pointer (some ⟨gx, 1, none⟩)) :: (.int .i64 (W : Int)) :: (.int .i64 (u : Int)) :: (.int .i64 (f : Int)) :: (.pointer (some ⟨gx, 0, none⟩)) :: (.pointer (some ⟨gx, 0, none⟩)) :: (.pointer (some ⟨gx, 2, none⟩)) :: (.int .i64 (M : Int)) :: (.pointer (some ⟨gx, 0, none⟩)) :: (.pointer (some ⟨gx, 0, none⟩)) :: (.pointer (some ⟨gx, 0, none⟩)) :: (.slice (some ⟨ba, off, none⟩) L cap) :: (.int .i64 (L : Int)) :: (.int .i64 (p : Int)) :: (.int .i64 ((L : Int) - (p : Int))) :: (.int .i64 (m0 : Int)) :: (.pointer (some ⟨gx, 0, none⟩)) :: (.pointer (some ⟨gx, 0, none⟩)) :: (.pointer (some ⟨gx, 3, none⟩)) :: (.slice (some ⟨gl, 0, none⟩) N lc) :: (.func (.func 43) #[] #[.pointer (some ⟨b6 + 2, 0, none⟩)]) :: (.int .i64 ((N - 1 - k : Nat) : Int)) :: (.agg #[.int .i64 (sz (N - 1 - k) : Int), .map (some (b (N - 1 - k))), v (N - 1 - k)]) :: undef :: undef :: undef :: undef :: undef :: undef :: undef :: undef :: undef :: undef :: undef :: undef :: undef :: undef :: undef :: undef :: undef :: undef :: undef :: undef :: undef :: undef :: []).toArray, defers := [] })
    (fun k a' _ W W' row h hg hr => by
      obtain ⟨Bx, hb, hB3, e⟩ := h
      refine ⟨Bx, ?_, hB3, e⟩
      rw [hg.block Bx (heap_lt hb) (fun e' => by
        obtain ⟨_, o, ho', hc⟩ := hr Bx e'.symm
        rw [hb] at ho'
        injection ho' with ho'
        subst ho'
        simp [Obj.isCells] at hc)]
      exact hb) ?assign ?body ?done ?stop
  case assign =>
    intro l k Wx K hk hi hK
    have HK := hide hK
    have HI := hide hi
    obtain ⟨va, vn, vc, hvv⟩ := unhide HVS (N - 1 - k) (by omega)
    clear hK hi
    simp only [encB]
    rw [hvv] at HK ⊢
    gi_wp2
    have hI := unhide HI
    have kk : ∀ x, x < b6 + 3 → ∀ o, (Wx.alloc o).heap[x]? = Wx.heap[x]? := fun x hx o => Below.heap_alloc _ _ _ (by have := hI.2.1.size; omega)
    exact unhide HK _ _ (KeepsOthers.alloc _ _) ⟨hI.1.keep (fun x hx => kk x hx _), hI.2.1.keep rfl rfl rfl (by simp) (fun x hx _ => kk x (by omega) _), hI.2.2⟩ ⟨Wx.heap.size, heap_alloc_new _ _, hI.2.1.size, rfl⟩
  case body =>
    rintro l k a' Wx hk ⟨hmb, hkp, HNN⟩ ⟨Bx, hbx, hB3, rfl⟩
    have hj : N - 1 - k < N := by omega
    have hs18 := unhide HSZ (N - 1 - k) hj
    have hlv1 := (unhide HX1).lvs.lv (N - 1 - k) hj
    have hrow1 := unhide HROW (N - 1 - k)
    have hMk := mostAt_le m0 N sz k
    have hMg := mostAt_ge (M0 := m0) (K := L - p) (unhide HSD) (fun j hj => (unhide HSZ j hj).1) (by rw [unhide HM0]; omega) k hk
    have hMn : mostAt m0 N sz (k + 1) = min (mostAt m0 N sz k) (sz (N - 1 - k) - 1) := rfl
    have hbj := unhide HBJ _ hj
    obtain ⟨s, hs⟩ : ∃ s, s = sz (N - 1 - k) := ⟨_, rfl⟩
    obtain ⟨bj, hbjj⟩ : ∃ bj, bj = b (N - 1 - k) := ⟨_, rfl⟩
    obtain ⟨va, vn, vc, hvv⟩ := unhide HVS (N - 1 - k) hj
    obtain ⟨Mk, hMkk⟩ : ∃ Mk, Mk = mostAt m0 N sz k := ⟨_, rfl⟩
    obtain ⟨Mn, hMnn⟩ : ∃ Mn, Mn = mostAt m0 N sz (k + 1) := ⟨_, rfl⟩
    rw [← hs] at hs18 hlv1 hMg hMn
    rw [← hMkk] at hMk hMg hMn hmb HNN
    rw [← hMnn] at hMn
    have HMnn := hide hMnn
    have HMn := hide hMn
    rw [← hbjj] at hlv1 hbj
    have hb0 : Wx.heap[Bx]? = some (.cells #[.int .i64 (s : Int), .map (some bj), .slice va vn vc] 65 (0, 0)) := by rw [hs, hbjj, ← hvv]; exact hbx
    rw [← hs, ← hbjj, hvv]
    rw [hvv] at hlv1 hrow1
    clear hbx hMkk hMnn hbjj hs hMn
    have c0 : Wx.cell? ⟨H, 0, none⟩ = some (.pointer (some ⟨gx, 0, none⟩)) := by simp [World.cell?, hmb.h0]
    have c1 : Wx.cell? ⟨H + 1, 0, none⟩ = some (.int .i64 (p : Int)) := by simp [World.cell?, hmb.h1]
    have kgx : ∀ i, Wx.cell? ⟨gx, i, none⟩ = W1.cell? ⟨gx, i, none⟩ := fun i => World.cell?_of_block (hkp.kp gx (by omega) (.inl hgxH))
    have x0 : Wx.cell? ⟨gx, 0, none⟩ = some (.slice (some ⟨ba, off, none⟩) L cap) := by rw [kgx]; exact (unhide HX1).x0
    have x1 : Wx.cell? ⟨gx, 1, none⟩ = some (.int .i64 (W : Int)) := by rw [kgx]; exact (unhide HX1).x1
    clear kgx
    have c6 : Wx.cell? ⟨b6, 0, none⟩ = some (.int .i64 (f : Int)) := by simp [World.cell?, hmb.h6]
    have c7 : Wx.cell? ⟨b6 + 1, 0, none⟩ = some (.int .i64 (Mk : Int)) := by simp [World.cell?, hmb.h7]
    have f7 : Wx.frozen? ⟨b6 + 1, 0, none⟩ = false := by simp [World.frozen?, hmb.h7]
    have d0 : Wx.cell? ⟨Bx, 0, none⟩ = some (.int .i64 (s : Int)) := by simp [World.cell?, hb0]
    have d1 : Wx.cell? ⟨Bx, 1, none⟩ = some (.map (some bj)) := by simp [World.cell?, hb0]
    have d2 : Wx.cell? ⟨Bx, 2, none⟩ = some (.slice va vn vc) := by simp [World.cell?, hb0]
    have hlvx : cnt L s p = p → LvlAt zs s p B Wx Bx 0 bj (.slice va vn vc) := fun hc => by
      have h := hlv1
      simp only [hc] at h
      exact ⟨d0, d1, d2, h.mp.block (hkp.kp bj (by omega) (.inl hbj)), own_keep h.row (fun q hq => hkp.kp q (hrow1 q hj hq).1 (hrow1 q hj hq).2)⟩
    have hrx : ReadsU B Wx (.slice (some ⟨ba, off, none⟩) zs.length cap) zs := by
      have h := unhide HR
      rw [unhide HTX] at h
      have kB : ∀ x, x < B → Wx.heap[x]? = w.heap[x]? := fun x hx => by
        rw [hkp.kp x (by omega) (.inl (by omega))]
        exact (unhide HKW1).low x (by rw [← unhide HHW]; omega) hx
      exact h.stays ⟨hkp.os.trans (unhide HKW1).os, hkp.tape.trans (unhide HKW1).tape, hkp.output.trans (unhide HKW1).output, by rw [← unhide HHW]; have := hkp.size; omega, kB⟩
    have hmlx : ML Wx := by
      obtain ⟨mm, hmm⟩ := unhide HML1
      exact ⟨mm, by rw [World.cell?_of_block (hkp.kp 0 (by omega) (.inl (by omega)))]; exact hmm⟩
    have HMBx := hide hmb
    have HKPx := hide hkp
    have hkk : ∀ x, x < b6 + 3 → x < Wx.heap.size := fun x hx => by have := hkp.size; omega
    by_cases hcase : p + s ≤ L ∧ f < lastOf zs s p (keyAt zs s p)
    · obtain ⟨hps, hfc⟩ := hcase
      have hcp : cnt L s p = p := by unfold cnt; omega
      have hlv := hlvx hcp
      obtain ⟨cc, hcc⟩ : ∃ cc, cc = lastOf zs s p (keyAt zs s p) := ⟨_, rfl⟩
      have hccp : cc ≤ p := by rw [hcc]; exact lastOf_le _ _ _ _
      rw [← hcc] at hfc
      have HC : Hid (Calls Try.prog 32 #[.pointer (some ⟨Bx, 0, none⟩), .slice (some ⟨ba, off, none⟩) L cap, .int .i64 (p : Int)] Wx.drew fun e w' => e = .returned (.int .i64 ((cc : Int) - 1)) ∧ SameW Wx w') := hide (by
        have h := stood_ok zs s p p B B Bx 0 bj cap ba off (.slice va vn vc) Wx.drew hs18.1 hs18.2 (hrx.drewN 1) (by rw [← unhide HTX]; exact hcap) (unhide HZ) (by rw [← unhide HTX]; exact hps) (by rw [← unhide HTX]; exact hl) (hlv.same rfl) (by rw [← unhide HTX]; omega)
        rw [← unhide HTX, ← hcc] at h
        refine h.mono ?_
        rintro e w' ⟨rfl, q, rfl⟩
        exact ⟨rfl, rfl, rfl, rfl, rfl⟩)
      have HWK : Hid (∀ w', SameW Wx w' → Calls Try.prog 33 #[.pointer (some ⟨gx, 0, none⟩), .agg #[.int .i64 (s : Int), .map (some bj), .slice va vn vc], .int .i64 ((cc : Int) - 1), .int .i64 (p : Int), .int .i64 (Mk : Int)] w' fun e w'' => WalkIs zs p u Mk w' e w'') := hide fun w' hsw => by
        have hml : ML w' := by
          obtain ⟨mm, hmm⟩ := hmlx
          exact ⟨mm, by rw [hsw.cell]; exact hmm⟩
        have h := walk_ok zs B ba off cap p W Mk s bj cc gx Bx 0 (.slice va vn vc) w' (hrx.stays ⟨hsw.os, hsw.tape, hsw.output, by rw [hsw.heap]; exact Nat.le_refl _, fun k _ => by rw [hsw.heap]⟩) (by rw [← unhide HTX]; exact hcap) (unhide HZ) (by rw [← unhide HTX]; exact hl) (by rw [← unhide HTX]; omega) hs18.1 (by omega) (by rw [hsw.heap]; have := hkp.size; omega) hW (by rw [hsw.cell, ← unhide HTX]; exact x0) (by rw [hsw.cell]; exact x1) (hlv.same hsw.heap) hcc (by rw [← unhide HU, ← unhide HF]; exact hfc) hml
        rw [← unhide HU] at h
        exact h
      have hge : (f : Int) ≤ (cc : Int) - 1 := by omega
      have hf32 : Fence.wide.fn 32 := trivial
      have hf33 : Fence.wide.fn 33 := trivial
      have HNN' := HNN
      clear hlv hlvx hcc hlv1 hrow1 hrx hmb hkp HNN hbj HMB0 HKP0
      gi_wp2
      gi_region_with_o (first | (gi_at_call 32; refine ((callsIn_wide.2 (unhide HC)).inRound l).mono ?_; rintro e w' ⟨rfl, hsw⟩))
      all_goals
        have y0 := (hsw.cell ⟨H, 0, none⟩).trans c0
        have y1 := (hsw.cell ⟨H + 1, 0, none⟩).trans c1
        have y6 := (hsw.cell ⟨b6, 0, none⟩).trans c6
        have y7 := (hsw.cell ⟨b6 + 1, 0, none⟩).trans c7
        have z0 := (hsw.cell ⟨Bx, 0, none⟩).trans d0
        have z1 := (hsw.cell ⟨Bx, 1, none⟩).trans d1
        have z2 := (hsw.cell ⟨Bx, 2, none⟩).trans d2
        gi_wp2_with (gi_at_call 33; refine ((callsIn_wide.2 (unhide HWK _ hsw)).inRound l).mono ?_; rintro e w'' ⟨n, d, rfl, hbest, hbel⟩; have q2 : w''.heap[H + 2]? = some (.cells #[.int .i64 ((0 : Nat) : Int)] 3 (0, 0)) := (by rw [hbel.block _ (by rw [hsw.heap]; exact hkk _ (by omega)), hsw.heap]; exact (unhide HMBx).h2); have q3 : w''.heap[H + 3]? = some (.cells #[.int .i64 ((0 : Nat) : Int)] 3 (0, 0)) := (by rw [hbel.block _ (by rw [hsw.heap]; exact hkk _ (by omega)), hsw.heap]; exact (unhide HMBx).h3); have r2 : w''.cell? ⟨H + 2, 0, none⟩ = some (.int .i64 ((0 : Nat) : Int)) := (by simp [World.cell?, q2]); have r3 : w''.cell? ⟨H + 3, 0, none⟩ = some (.int .i64 ((0 : Nat) : Int)) := (by simp [World.cell?, q3]); have t2 : w''.frozen? ⟨H + 2, 0, none⟩ = false := (by simp [World.frozen?, q2]); have t3 : w''.frozen? ⟨H + 3, 0, none⟩ = false := (by simp [World.frozen?, q3]); have HW5 := hide (And.intro hbest (And.intro hbel (And.intro q2 q3))); clear hbest hbel q2 q3)
        obtain ⟨hbest, hbel, q2, q3⟩ := unhide HW5
        have hko : KeepsOthers Wx w'' := ⟨by have := hbel.size; rw [hsw.heap] at this; exact this, fun k o hk ho => by rw [hbel.block k (by rw [hsw.heap]; exact heap_lt hk), hsw.heap]; exact hk⟩
        have hkx : KP H b6 W1 w'' := (unhide HKPx).keep (hbel.os.trans hsw.os) (hbel.tape.trans hsw.tape) (hbel.output.trans hsw.output) (by have := hbel.size; rw [hsw.heap] at this; exact this) (fun x hx _ => by rw [hbel.block x (by rw [hsw.heap]; exact hkk x (by omega)), hsw.heap])
        have h2 := two_cells q2 q3 (.int .i64 (n : Int)) (.int .i64 (d : Int))
        refine ⟨(hko.trans (KeepsOthers.setCell _ _ _)).trans (KeepsOthers.setCell _ _ _), n, d, h2.1, h2.2.1, hbest.wide hMk (unhide HNN'), hkx.two _ _⟩
    · have HC : Hid (∃ r : Int, r < (f : Int) ∧ Calls Try.prog 32 #[.pointer (some ⟨Bx, 0, none⟩), .slice (some ⟨ba, off, none⟩) L cap, .int .i64 (p : Int)] Wx.drew fun e w' => e = .returned (.int .i64 r) ∧ SameW Wx w') := hide (by
        by_cases hps : p + s ≤ L
        · have hcp : cnt L s p = p := by unfold cnt; omega
          have h := stood_ok zs s p p B B Bx 0 bj cap ba off (.slice va vn vc) Wx.drew hs18.1 hs18.2 (hrx.drewN 1) (by rw [← unhide HTX]; exact hcap) (unhide HZ) (by rw [← unhide HTX]; exact hps) (by rw [← unhide HTX]; exact hl) ((hlvx hcp).same rfl) (by rw [← unhide HTX]; omega)
          rw [← unhide HTX] at h
          refine ⟨((lastOf zs s p (keyAt zs s p) : Nat) : Int) - 1, ?_, h.mono ?_⟩
          · have : ¬ f < lastOf zs s p (keyAt zs s p) := fun h => hcase ⟨hps, h⟩
            omega
          · rintro e w' ⟨rfl, q, rfl⟩
            exact ⟨rfl, rfl, rfl, rfl, rfl⟩
        · refine ⟨-1, by omega, (stood_short L s p Bx 0 _ cap Wx.drew hs18.2 (by omega) hl (by omega) d0).mono ?_⟩
          rintro e w' ⟨rfl, rfl⟩
          exact ⟨rfl, rfl, rfl, rfl, rfl⟩)
      have HNN' : Hid (Mn < m0 → NoneIn (zf zs) p u (Mn + 1)) := hide fun hlt => by
        by_cases hc : Mn = Mk
        · rw [hc] at hlt ⊢; exact unhide HNN hlt
        · have hMn := unhide HMn
          have hps : p + s ≤ L := by omega
          have hnone := stood_none (unhide HZ) (f := f) (by rw [← unhide HTX]; exact hps) rfl (Nat.le_of_not_lt fun h => hcase ⟨hps, h⟩) (by omega)
          rw [show p - f = u by omega] at hnone
          rw [show Mn + 1 = s by omega]
          exact hnone
      obtain ⟨r, hrf, hcall⟩ := unhide HC
      have HCC := hide hcall
      obtain ⟨s1, hs1⟩ : ∃ s1 : Nat, (s : Int) - 1 = (s1 : Int) := ⟨s - 1, by omega⟩
      have m3 := run_min_nat (A := (Mk : Int)) (B := (s1 : Int)) rfl rfl (show Mn = min Mk s1 by have := unhide HMn; omega)
      have hge : ¬ (f : Int) ≤ r := by omega
      have hf32 : Fence.wide.fn 32 := trivial
      have hws : IntKind.i64.wrap (s1 : Int) = (s1 : Int) := IntWalk.i64_in _ (by omega)
      clear hcall HC hlvx hlv1 hrow1 hrx hmb hkp HNN hbj HMB0 HKP0 hcase
      gi_wp2
      gi_region_with_o (first | (gi_at_call 32; refine ((callsIn_wide.2 (unhide HCC)).inRound l).mono ?_; rintro e w' ⟨rfl, hsw⟩))
      all_goals
        have y6 := (hsw.cell ⟨b6, 0, none⟩).trans c6
        have y7 := (hsw.cell ⟨b6 + 1, 0, none⟩).trans c7
        have g7 := (hsw.frozen ⟨b6 + 1, 0, none⟩).trans f7
        have z0 := (hsw.cell ⟨Bx, 0, none⟩).trans d0
        gi_wp2
        have hko : KeepsOthers Wx w' := ⟨by rw [hsw.heap]; exact Nat.le_refl _, fun k o hk ho => by rw [hsw.heap]; exact hk⟩
        refine ⟨hko.trans (KeepsOthers.setCell _ _ _), ?_⟩
        unfold MIs
        rw [← unhide HMnn]
        refine ⟨?_, ?_, HNN'⟩
        · have hmb := unhide HMBx
          have hle := hmb.le
          have o : ∀ k, k ≠ b6 + 1 → (w'.setCell ⟨b6 + 1, 0, none⟩ (.int .i64 (Mn : Int))).heap[k]? = Wx.heap[k]? := fun k hk => by rw [heap_setCell_other _ _ _ _ (by exact hk), hsw.heap]
          exact ⟨by rw [o _ (by omega)]; exact hmb.h0, by rw [o _ (by omega)]; exact hmb.h1, by rw [o _ (by omega)]; exact hmb.h2, by rw [o _ (by omega)]; exact hmb.h3, by rw [o _ (by omega)]; exact hmb.h6, by rw [heap_setCell_same w' (b6 + 1) 0 _ 3 _ (by rw [hsw.heap]; exact hmb.h7)]; rfl, by rw [o _ (by omega)]; exact hmb.h8, hle⟩
        · exact (unhide HKPx).keep hsw.os hsw.tape hsw.output (by simp [hsw.heap]) (fun x hx _ => by rw [heap_setCell_other _ _ _ _ (by show x ≠ b6 + 1; omega), hsw.heap])
  case done =>
    rintro D Wx hD ⟨hmb, hkp, HNN⟩ hDD
    have c2 : Wx.cell? ⟨H + 2, 0, none⟩ = some (.int .i64 ((0 : Nat) : Int)) := by simp [World.cell?, hmb.h2]
    have c3 : Wx.cell? ⟨H + 3, 0, none⟩ = some (.int .i64 ((0 : Nat) : Int)) := by simp [World.cell?, hmb.h3]
    have f2 : Wx.frozen? ⟨H + 2, 0, none⟩ = false := by simp [World.frozen?, hmb.h2]
    have f3 : Wx.frozen? ⟨H + 3, 0, none⟩ = false := by simp [World.frozen?, hmb.h3]
    rw [unhide HS5] at hD
    have HFE := hide (match_end (n := 0) (d := 0) (unhide HX1) (unhide HKW1) (unhide HHW) hHb hgxH hglH (unhide HBJ) (unhide HROW) (D := D) (hkp.two 0 0) (two_cells hmb.h2 hmb.h3 _ _).1 (two_cells hmb.h2 hmb.h3 _ _).2.1 (by rw [(two_cells hmb.h2 hmb.h3 _ _).2.2 D (by omega) (by omega)]; exact hDD) hD)
    have HMR : Hid (MRes zs p u m0 (sz 0) 0 0) := hide (.inr ⟨rfl, rfl, none_left (by rw [unhide HM0, unhide HTX]) hN1 (unhide HSZ 0 (by omega)).1 (Nat.le_trans (unhide HSZM) hsM) (unhide HNN)⟩)
    clear hmb hkp HNN HMB0 HKP0
    go_wp2_with fail
    obtain ⟨q1, q2, q3, q4⟩ := unhide HFE
    exact ⟨by simp, .inl ⟨_, _, rfl, run_takeDeferred q1, ⟨_, results_two rfl _ _ ⟨H + 2, 0, none⟩ ⟨H + 3, 0, none⟩ rfl rfl _ _ q2.1 q2.2, 0, 0, rfl, unhide HMR, ⟨v, by rw [← unhide HTX]; exact q3⟩, q4⟩⟩⟩
  case stop =>
    rintro D Wx hD ⟨n, d, h2, h3, hbest, hkp⟩ hDD
    rw [unhide HS5] at hD
    have HFE := hide (match_end (unhide HX1) (unhide HKW1) (unhide HHW) hHb hgxH hglH (unhide HBJ) (unhide HROW) (D := D) hkp h2 h3 hDD hD)
    have HBE := hide hbest
    clear h2 h3 hbest hkp HMB0 HKP0
    go_wp2_with fail
    obtain ⟨q1, q2, q3, q4⟩ := unhide HFE
    exact ⟨by simp, .inl ⟨_, _, rfl, run_takeDeferred q1, ⟨_, results_two rfl _ _ ⟨H + 2, 0, none⟩ ⟨H + 3, 0, none⟩ rfl rfl _ _ q2.1 q2.2, n, d, rfl, .inl (unhide HBE), ⟨v, by rw [← unhide HTX]; exact q3⟩, q4⟩⟩⟩

end Go.Proofs.Ytabnfnejlffioaa
