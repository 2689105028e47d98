/- The document's chunk. -/
import Derived.Test.YthafoojlkaifkaaKk
namespace Go.Proofs.Ythafoojlkaifkaa.K
open Go.RowKit H
set_option maxRecDepth 100000
set_option linter.unusedVariables false
attribute [local go_sem ↓] Go.wp_at_zero Go.wp_at_succ

def ChIs (R : Ck) (w : World) (e : Ending) (w' : World) : Prop :=
  ((∃ er : Nat, R = .err er ∧ er ≠ 0 ∧ e = .returned (.tuple #[.agg #[.int .i64 0, .int .i64 0, .int .i64 0, .int .i64 0, .int .i64 0, .slice none 0 0], .int .i64 0, .int .i64 (er : Int)])) ∨ (∃ k n s m, R = .told k n s m ∧ ∃ (l1 l2 l3 : Int) (a : Option Addr) (x y : Nat), e = .returned (.tuple #[.agg #[.int .i64 (k : Int), .int .i64 (n : Int), .int .i64 l1, .int .i64 l2, .int .i64 l3, .slice a x y], .int .i64 ((s + m : Nat) : Int), .int .i64 0]))) ∧ Below w.heap.size w w'

/-- an error, in the walk's form -/
theorem ch_err {R : Ck} {w : World} {er : Int} {n : Nat} (hn : er = (n : Int)) (h0 : n ≠ 0) (hR : R = .err n) : ∀ w', Below w.heap.size w w' → ChIs R w (.returned (.tuple #[.agg #[.int .i64 0, .int .i64 0, .int .i64 0, .int .i64 0, .int .i64 0, .slice none 0 0], .int .i64 0, .int .i64 er])) w' := fun w' hb => ⟨.inl ⟨n, hR, h0, by rw [hn]⟩, hb⟩

theorem ch_told {R : Ck} {w : World} {k n s m : Nat} (hR : R = .told k n s m) (K N S : Int) (hk : K = (k : Int)) (hn : N = (n : Int)) (hs : S = ((s + m : Nat) : Int)) : ∀ l1 l2 l3 a x y w', Below w.heap.size w w' → ChIs R w (.returned (.tuple #[.agg #[.int .i64 K, .int .i64 N, .int .i64 l1, .int .i64 l2, .int .i64 l3, .slice a x y], .int .i64 S, .int .i64 0])) w' := fun l1 l2 l3 a x y w' hb => ⟨.inr ⟨k, n, s, m, hR, l1, l2, l3, a, x, y, by rw [hk, hn, hs]⟩, hb⟩

section
variable {w : World} {va : Option Addr} {vc : Nat} {zs : List Nat} {p : Nat}

/-- the bytes, as the document's calls have them -/
structure BK (w : World) (va : Option Addr) (vc : Nat) (zs : List Nat) : Prop where
  rd : Reads w (.slice va zs.length vc) zs
  cap : zs.length ≤ vc
  big : zs.length ≤ 1099511627776
  sm : ∀ z ∈ zs, z < 256

theorem BK.below {w' : World} (h : BK w va vc zs) (hb : Below w.heap.size w w') : BK w' va vc zs := ⟨h.rd.stays hb, h.cap, h.big, h.sm⟩

theorem BK.own (h : BK w va vc zs) (h0 : 0 < zs.length) : ∃ g o, va = some ⟨g, o, none⟩ ∧ ∀ j, j < zs.length → w.cell? ⟨g, o + j, none⟩ = some (.int .u8 (zs.getD j 0 : Int)) := by
  obtain ⟨a, c, e, h2⟩ := h.rd.spot
  injection e with e1 e2 e3
  obtain ⟨g, o, e4, h3⟩ := h2 h0
  exact ⟨g, o, e1.trans e4, h3⟩

theorem BK.rd2 (h : BK w va vc zs) (q : Nat) (hq : q + 2 ≤ zs.length) : ∀ x, Below w.heap.size w x → Calls Try.prog 14 #[.slice va zs.length vc, .int .i64 (q : Int), .int .i64 2, .bool true] x fun e w' => e = .returned (.tuple #[.int .u64 ((two zs q - 1 : Nat) : Int), .int .i64 ((q + 2 : Nat) : Int), .int .i64 0]) ∧ w' = x := fun x hb => by
  have hx := h.below hb
  have c := refRead_high va vc zs (q : Int) ((2 : Nat) : Int) x hx.rd hx.sm (by have := hx.big; omega) hx.cap
  rw [rd_yes (by omega) (by omega)] at c
  have e : valN true zs q 2 = two zs q - 1 := by unfold valN two; simp [hiN]
  rw [e] at c
  exact c

theorem BK.rd2E (h : BK w va vc zs) (q : Nat) (hq : q ≤ zs.length) (hq2 : zs.length < q + 2) : ∀ x, Below w.heap.size w x → Calls Try.prog 14 #[.slice va zs.length vc, .int .i64 (q : Int), .int .i64 2, .bool true] x fun e w' => e = .returned (.tuple #[.int .u64 0, .int .i64 0, .int .i64 10]) ∧ w' = x := fun x hb => by
  have hx := h.below hb
  have c := refRead_high va vc zs (q : Int) ((2 : Nat) : Int) x hx.rd hx.sm (by have := hx.big; omega) hx.cap
  rw [rd_end (by omega) (by omega)] at c
  exact c

theorem rof_any (x : Nat) (hx : x < 256) : ∀ y, Calls Try.prog 15 #[.int .i64 (x : Int)] y fun e w' => ∃ a b c : Int, e = .returned (.tuple #[.int .i64 a, .int .i64 b, .int .i64 c, .int .i64 (if propsB x then 0 else 11)]) ∧ w' = y := fun y => by
  refine (rof_ok x hx y).mono ?_
  rintro e w' ⟨rfl, ⟨P, l, c, h1, ⟨h2, h3⟩, rfl⟩ | ⟨hno, rfl⟩⟩
  · have : propsB x = true := by unfold propsB; simp; omega
    rw [if_pos this]
    exact ⟨_, _, _, rfl, rfl⟩
  · have : propsB x = false := by
      cases hp : propsB x
      · rfl
      · exfalso
        unfold propsB at hp
        simp at hp
        exact hno (x / 45) (x / 9 % 5) (x % 9) hp.1 ⟨by omega, by omega⟩
    rw [this]
    exact ⟨_, _, _, rfl, rfl⟩

theorem km_facts (T k KM NN : Nat) (hT : T ≤ 65536) (hKM : KM = k % 32 * 65536) (hNN : NN = T + KM) : ∃ m : Nat, (k : Int).tmod 32 = (m : Int) ∧ wrap64 ((m : Int) * 65536) = (KM : Int) ∧ wrap64 ((T : Int) + (KM : Int)) = (NN : Int) ∧ ¬ (1099511627776 : Int) < (NN : Int) := by
  have h : k % 32 < 32 := Nat.mod_lt _ (by omega)
  refine ⟨k % 32, rfl, ?_, ?_, ?_⟩
  · rw [hKM]; generalize k % 32 = m at *; unfold wrap64; omega
  · have : KM ≤ 2097152 := by omega
    clear hKM
    unfold wrap64; omega
  · omega

theorem on_world {f : World → Prop} {W : World} (h : ∀ y, y = W → f y) : f W := h W rfl

/-- a chunk of the document's, and where it is answered -/
structure CB (w x : World) (C RES : Nat) (k n l1 l2 l3 : Int) (b : Value) : Prop where
  c : x.heap[C]? = some (.cells #[.int .i64 k, .int .i64 n, .int .i64 l1, .int .i64 l2, .int .i64 l3, b] 40 (0, 0))
  r : x.heap[RES]? = some (.cells #[.int .i64 0, .int .i64 0, .int .i64 0, .int .i64 0, .int .i64 0, .slice none 0 0] 40 (0, 0))
  bl : Below w.heap.size w x
  le : w.heap.size ≤ RES ∧ w.heap.size ≤ C ∧ RES ≠ C

theorem cell_stays' {w x : World} (hb : Below w.heap.size w x) {a : Addr} {u : Value} (h : w.cell? a = some u) : x.cell? a = some u := cell_stays hb h

theorem CB.first (w : World) (k : Int) : CB w ((w.alloc (.cells #[.int .i64 0, .int .i64 0, .int .i64 0, .int .i64 0, .int .i64 0, .slice none 0 0] 40)).alloc (.cells #[.int .i64 k, .int .i64 0, .int .i64 0, .int .i64 0, .int .i64 0, .slice none 0 0] 40)) (w.heap.size + 1) w.heap.size k 0 0 0 0 (.slice none 0 0) := by
  refine ⟨?_, ?_, by go_grown, by omega⟩
  · have := heap_alloc_new (w.alloc (.cells #[.int .i64 0, .int .i64 0, .int .i64 0, .int .i64 0, .int .i64 0, .slice none 0 0] 40)) (.cells #[.int .i64 k, .int .i64 0, .int .i64 0, .int .i64 0, .int .i64 0, .slice none 0 0] 40)
    simpa using this
  · rw [Below.heap_alloc _ _ _ (by simp)]
    exact heap_alloc_new _ _

theorem CB.facts {w x : World} {C RES : Nat} {k n l1 l2 l3 : Int} {b : Value} (h : CB w x C RES k n l1 l2 l3 b) :
    x.cell? ⟨C, 0, none⟩ = some (.int .i64 k) ∧ x.cell? ⟨C, 1, none⟩ = some (.int .i64 n) ∧ x.cell? ⟨C, 2, none⟩ = some (.int .i64 l1) ∧ x.cell? ⟨C, 3, none⟩ = some (.int .i64 l2) ∧ x.cell? ⟨C, 4, none⟩ = some (.int .i64 l3) ∧ x.cell? ⟨C, 5, none⟩ = some b ∧
    x.cell? ⟨RES, 0, none⟩ = some (.int .i64 0) ∧ x.cell? ⟨RES, 1, none⟩ = some (.int .i64 0) ∧ x.cell? ⟨RES, 2, none⟩ = some (.int .i64 0) ∧ x.cell? ⟨RES, 3, none⟩ = some (.int .i64 0) ∧ x.cell? ⟨RES, 4, none⟩ = some (.int .i64 0) ∧ x.cell? ⟨RES, 5, none⟩ = some (.slice none 0 0) ∧ (∀ i, x.frozen? ⟨C, i, none⟩ = false) ∧ ∀ i, x.frozen? ⟨RES, i, none⟩ = false := by
  have hc := h.c
  have hr := h.r
  refine ⟨?_, ?_, ?_, ?_, ?_, ?_, ?_, ?_, ?_, ?_, ?_, ?_, fun i => by simp [World.frozen?, hc], fun i => by simp [World.frozen?, hr]⟩ <;> simp [World.cell?, hc, hr]

theorem CB.set {w x : World} {C RES : Nat} {k n l1 l2 l3 : Int} {b : Value} (h : CB w x C RES k n l1 l2 l3 b) (i : Nat) (v : Value) {k' n' l1' l2' l3' : Int} {b' : Value} (hv : (#[Value.int .i64 k, .int .i64 n, .int .i64 l1, .int .i64 l2, .int .i64 l3, b] : Array Value).setIfInBounds i v = #[.int .i64 k', .int .i64 n', .int .i64 l1', .int .i64 l2', .int .i64 l3', b']) : CB w (x.setCell ⟨C, i, none⟩ v) C RES k' n' l1' l2' l3' b' := by
  refine ⟨by rw [heap_setCell_same x C i _ 40 _ h.c, hv], by rw [heap_setCell_other _ _ _ _ h.le.2.2]; exact h.r, h.bl.setCell h.le.2.1 _, h.le⟩

/-- the answer's six cells are written -/
theorem six_set {w x : World} {C RES : Nat} {k n l1 l2 l3 : Int} {b : Value} (h : CB w x C RES k n l1 l2 l3 b) (a0 a1 a2 a3 a4 a5 : Value) : ∀ y, y = ((((((x.setCell ⟨RES, 0, none⟩ a0).setCell ⟨RES, 1, none⟩ a1).setCell ⟨RES, 2, none⟩ a2).setCell ⟨RES, 3, none⟩ a3).setCell ⟨RES, 4, none⟩ a4).setCell ⟨RES, 5, none⟩ a5) →
    y.cell? ⟨RES, 0, none⟩ = some a0 ∧ y.cell? ⟨RES, 1, none⟩ = some a1 ∧ y.cell? ⟨RES, 2, none⟩ = some a2 ∧ y.cell? ⟨RES, 3, none⟩ = some a3 ∧ y.cell? ⟨RES, 4, none⟩ = some a4 ∧ y.cell? ⟨RES, 5, none⟩ = some a5 ∧ Below w.heap.size w y := by
  rintro y hy
  have hr : y.heap[RES]? = some (.cells #[a0, a1, a2, a3, a4, a5] 40 (0, 0)) := by
    rw [hy, heap_setCell_same _ RES 5 _ 40 _ (heap_setCell_same _ RES 4 _ 40 _ (heap_setCell_same _ RES 3 _ 40 _ (heap_setCell_same _ RES 2 _ 40 _ (heap_setCell_same _ RES 1 _ 40 _ (heap_setCell_same _ RES 0 _ 40 _ h.r)))))]
    rfl
  refine ⟨?_, ?_, ?_, ?_, ?_, ?_, ?_⟩
  all_goals first
    | (simp [World.cell?, hr]; done)
    | (rw [hy]; exact ((((((h.bl.setCell h.le.1 _).setCell h.le.1 _).setCell h.le.1 _).setCell h.le.1 _).setCell h.le.1 _).setCell h.le.1 _))

theorem ch_none (h : BK w va vc zs) (first props : Bool) (room : Int) (roomN : Nat) (hn : zs.length < p + 1) (hp : p ≤ zs.length) : Calls Try.prog 10 #[.slice va zs.length vc, .int .i64 (p : Int), .bool first, .bool props, .int .i64 room] w (ChIs (ckF zs p first props roomN) w) := by
  have HF := hide (ch_err (w := w) (er := 10) (n := 10) rfl (by decide) (R := ckF zs p first props roomN) (by unfold ckF; rw [if_pos hn]))
  have t1 : (zs.length : Int) ≤ (p : Int) := by omega
  generalize ChIs (ckF zs p first props roomN) w = POST at HF ⊢
  clear h hn hp
  go_enter Try.func10, Try.ntmps10
  go_wp2_with fail
  first
  | exact unhide HF _ (by go_grown)
  | (go_returns; exact unhide HF _ (by go_grown))

set_option maxHeartbeats 2000000 in
theorem bad_a2 (h : BK w va vc zs) (first props : Bool) (k : Nat) (hk : zs.getD p 0 = k) (hr : k = 2) (hn : p + 1 ≤ zs.length) (hfp : first = true) : Calls Try.prog 10 #[.slice va zs.length vc, .int .i64 (p : Int), .bool first, .bool props, .int .i64 1099511627776] w (ChIs (ckF zs p first props 1099511627776) w) := by
  have hbad : badK (zs.getD p 0) first props = true := by rw [hk]; unfold badK; cases first <;> cases props <;> simp at hfp ⊢ <;> omega
  have HF := hide (ch_err (w := w) (er := 11) (n := 11) rfl (by decide) (R := ckF zs p first props 1099511627776) (by unfold ckF; rw [if_neg (by omega), if_pos hbad]))
  generalize ChIs (ckF zs p first props 1099511627776) w = POST at HF ⊢
  have hb := h.own (by omega)
  obtain ⟨g, o, rfl, hcell⟩ := hb
  have hc := hcell p (by omega)
  rw [hk] at hc
  have hgl : g < w.heap.size := cell_lt hc
  have tp : ¬ (zs.length : Int) ≤ (p : Int) := by omega
  have tp2 : (p : Int) < (zs.length : Int) := by omega
  have f1 : wrap64 ((p : Int) + 1) = ((p + 1 : Nat) : Int) := by have := h.big; unfold wrap64; omega
  have fk : wrap64 (k : Int) = (k : Int) := by unfold wrap64; omega
  have hcapI : (zs.length : Int) ≤ (vc : Int) := by have := h.cap; omega
  have t0 : ¬ (k : Int) = 0 := by omega
  have t1 : ¬ (k : Int) = 1 := by omega
  have t2 : ¬ (3 : Int) ≤ (k : Int) := by omega
  have t3 : (k : Int) < 128 := by omega
  have t4 : (1 : Int) < (k : Int) := by omega
  have t5 : (k : Int) < 224 := by omega
  have t6 : ¬ (128 : Int) ≤ (k : Int) := by omega
  have t7 : (k : Int) < 192 := by omega
  have t8 : ¬ (192 : Int) ≤ (k : Int) := by omega
  have HP : Hid (first = true) := hide hfp
  clear h hk hr hn hcell hbad hfp
  cases first <;> cases props
  all_goals first | (exfalso; have := unhide HP; simp at this; done) | skip
  all_goals clear HP
  all_goals go_enter Try.func10, Try.ntmps10
  all_goals go_wp2_with fail
  all_goals first
  | exact unhide HF _ (by go_grown)
  | (go_returns; exact unhide HF _ (by go_grown))

set_option maxHeartbeats 2000000 in
theorem bad_a3 (h : BK w va vc zs) (first props : Bool) (k : Nat) (hk : zs.getD p 0 = k) (hr : 2 < k ∧ k < 128) (hn : p + 1 ≤ zs.length) (hfp : True) : Calls Try.prog 10 #[.slice va zs.length vc, .int .i64 (p : Int), .bool first, .bool props, .int .i64 1099511627776] w (ChIs (ckF zs p first props 1099511627776) w) := by
  have hbad : badK (zs.getD p 0) first props = true := by rw [hk]; unfold badK; cases first <;> cases props <;> simp at hfp ⊢ <;> omega
  have HF := hide (ch_err (w := w) (er := 11) (n := 11) rfl (by decide) (R := ckF zs p first props 1099511627776) (by unfold ckF; rw [if_neg (by omega), if_pos hbad]))
  generalize ChIs (ckF zs p first props 1099511627776) w = POST at HF ⊢
  have hb := h.own (by omega)
  obtain ⟨g, o, rfl, hcell⟩ := hb
  have hc := hcell p (by omega)
  rw [hk] at hc
  have hgl : g < w.heap.size := cell_lt hc
  have tp : ¬ (zs.length : Int) ≤ (p : Int) := by omega
  have tp2 : (p : Int) < (zs.length : Int) := by omega
  have f1 : wrap64 ((p : Int) + 1) = ((p + 1 : Nat) : Int) := by have := h.big; unfold wrap64; omega
  have fk : wrap64 (k : Int) = (k : Int) := by unfold wrap64; omega
  have hcapI : (zs.length : Int) ≤ (vc : Int) := by have := h.cap; omega
  have t0 : ¬ (k : Int) = 0 := by omega
  have t1 : ¬ (k : Int) = 1 := by omega
  have t2 : (3 : Int) ≤ (k : Int) := by omega
  have t3 : (k : Int) < 128 := by omega
  have t4 : (1 : Int) < (k : Int) := by omega
  have t5 : (k : Int) < 224 := by omega
  have t6 : ¬ (128 : Int) ≤ (k : Int) := by omega
  have t7 : (k : Int) < 192 := by omega
  have t8 : ¬ (192 : Int) ≤ (k : Int) := by omega
  have HP : Hid (True) := hide hfp
  clear h hk hr hn hcell hbad hfp
  cases first <;> cases props
  all_goals first | (exfalso; have := unhide HP; simp at this; done) | skip
  all_goals clear HP
  all_goals go_enter Try.func10, Try.ntmps10
  all_goals go_wp2_with fail
  all_goals first
  | exact unhide HF _ (by go_grown)
  | (go_returns; exact unhide HF _ (by go_grown))

set_option maxHeartbeats 2000000 in
theorem bad_a4 (h : BK w va vc zs) (first props : Bool) (k : Nat) (hk : zs.getD p 0 = k) (hr : 128 ≤ k ∧ k < 192) (hn : p + 1 ≤ zs.length) (hfp : first = true ∨ props = false) : Calls Try.prog 10 #[.slice va zs.length vc, .int .i64 (p : Int), .bool first, .bool props, .int .i64 1099511627776] w (ChIs (ckF zs p first props 1099511627776) w) := by
  have hbad : badK (zs.getD p 0) first props = true := by rw [hk]; unfold badK; cases first <;> cases props <;> simp at hfp ⊢ <;> omega
  have HF := hide (ch_err (w := w) (er := 11) (n := 11) rfl (by decide) (R := ckF zs p first props 1099511627776) (by unfold ckF; rw [if_neg (by omega), if_pos hbad]))
  generalize ChIs (ckF zs p first props 1099511627776) w = POST at HF ⊢
  have hb := h.own (by omega)
  obtain ⟨g, o, rfl, hcell⟩ := hb
  have hc := hcell p (by omega)
  rw [hk] at hc
  have hgl : g < w.heap.size := cell_lt hc
  have tp : ¬ (zs.length : Int) ≤ (p : Int) := by omega
  have tp2 : (p : Int) < (zs.length : Int) := by omega
  have f1 : wrap64 ((p : Int) + 1) = ((p + 1 : Nat) : Int) := by have := h.big; unfold wrap64; omega
  have fk : wrap64 (k : Int) = (k : Int) := by unfold wrap64; omega
  have hcapI : (zs.length : Int) ≤ (vc : Int) := by have := h.cap; omega
  have t0 : ¬ (k : Int) = 0 := by omega
  have t1 : ¬ (k : Int) = 1 := by omega
  have t2 : (3 : Int) ≤ (k : Int) := by omega
  have t3 : ¬ (k : Int) < 128 := by omega
  have t4 : (1 : Int) < (k : Int) := by omega
  have t5 : (k : Int) < 224 := by omega
  have t6 : (128 : Int) ≤ (k : Int) := by omega
  have t7 : (k : Int) < 192 := by omega
  have t8 : ¬ (192 : Int) ≤ (k : Int) := by omega
  have HP : Hid (first = true ∨ props = false) := hide hfp
  clear h hk hr hn hcell hbad hfp
  cases first <;> cases props
  all_goals first | (exfalso; have := unhide HP; simp at this; done) | skip
  all_goals clear HP
  all_goals go_enter Try.func10, Try.ntmps10
  all_goals go_wp2_with fail
  all_goals first
  | exact unhide HF _ (by go_grown)
  | (go_returns; exact unhide HF _ (by go_grown))

set_option maxHeartbeats 2000000 in
theorem bad_a5 (h : BK w va vc zs) (first props : Bool) (k : Nat) (hk : zs.getD p 0 = k) (hr : 192 ≤ k ∧ k < 224) (hn : p + 1 ≤ zs.length) (hfp : first = true) : Calls Try.prog 10 #[.slice va zs.length vc, .int .i64 (p : Int), .bool first, .bool props, .int .i64 1099511627776] w (ChIs (ckF zs p first props 1099511627776) w) := by
  have hbad : badK (zs.getD p 0) first props = true := by rw [hk]; unfold badK; cases first <;> cases props <;> simp at hfp ⊢ <;> omega
  have HF := hide (ch_err (w := w) (er := 11) (n := 11) rfl (by decide) (R := ckF zs p first props 1099511627776) (by unfold ckF; rw [if_neg (by omega), if_pos hbad]))
  generalize ChIs (ckF zs p first props 1099511627776) w = POST at HF ⊢
  have hb := h.own (by omega)
  obtain ⟨g, o, rfl, hcell⟩ := hb
  have hc := hcell p (by omega)
  rw [hk] at hc
  have hgl : g < w.heap.size := cell_lt hc
  have tp : ¬ (zs.length : Int) ≤ (p : Int) := by omega
  have tp2 : (p : Int) < (zs.length : Int) := by omega
  have f1 : wrap64 ((p : Int) + 1) = ((p + 1 : Nat) : Int) := by have := h.big; unfold wrap64; omega
  have fk : wrap64 (k : Int) = (k : Int) := by unfold wrap64; omega
  have hcapI : (zs.length : Int) ≤ (vc : Int) := by have := h.cap; omega
  have t0 : ¬ (k : Int) = 0 := by omega
  have t1 : ¬ (k : Int) = 1 := by omega
  have t2 : (3 : Int) ≤ (k : Int) := by omega
  have t3 : ¬ (k : Int) < 128 := by omega
  have t4 : (1 : Int) < (k : Int) := by omega
  have t5 : (k : Int) < 224 := by omega
  have t6 : (128 : Int) ≤ (k : Int) := by omega
  have t7 : ¬ (k : Int) < 192 := by omega
  have t8 : (192 : Int) ≤ (k : Int) := by omega
  have HP : Hid (first = true) := hide hfp
  clear h hk hr hn hcell hbad hfp
  cases first <;> cases props
  all_goals first | (exfalso; have := unhide HP; simp at this; done) | skip
  all_goals clear HP
  all_goals go_enter Try.func10, Try.ntmps10
  all_goals go_wp2_with fail
  all_goals first
  | exact unhide HF _ (by go_grown)
  | (go_returns; exact unhide HF _ (by go_grown))

end
end Go.Proofs.Ythafoojlkaifkaa.K
