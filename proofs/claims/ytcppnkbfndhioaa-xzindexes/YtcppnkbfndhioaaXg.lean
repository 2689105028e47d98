/- The cursor: bytes taken, one behind the other. -/
import Derived.Test.YtcppnkbfndhioaaXf
namespace Go.Proofs.Ytcppnkbfndhioaa
open Go.RowKit
set_option maxRecDepth 100000
set_option linter.unusedVariables false
attribute [local go_sem ↓] Go.wp_at_zero Go.wp_at_succ

/-- a cursor in block g, at place p of the bytes of block h -/
structure Cur (w : World) (g h cap : Nat) (zs : List Nat) (p : Nat) : Prop where
  cells : w.heap[g]? = some (.cells #[.slice (some ⟨h, 0, none⟩) zs.length cap, .int .i64 (p : Int)] 49 (0, 0))
  bytes : ∀ j, j < zs.length → w.cell? ⟨h, j, none⟩ = some (bv (zs.getD j 0))
  ne : h ≠ g
  lies : h < w.heap.size
  le : p ≤ zs.length
  cap : zs.length ≤ cap
  small : zs.length ≤ 140737488351232
  oct : ∀ z ∈ zs, z < 256

theorem Cur.cell0 {w : World} {g h cap p : Nat} {zs : List Nat} (c : Cur w g h cap zs p) : w.cell? ⟨g, 0, none⟩ = some (.slice (some ⟨h, 0, none⟩) zs.length cap) := by
  simp only [World.cell?, c.cells]; rfl
theorem Cur.cell1 {w : World} {g h cap p : Nat} {zs : List Nat} (c : Cur w g h cap zs p) : w.cell? ⟨g, 1, none⟩ = some (.int .i64 (p : Int)) := by
  simp only [World.cell?, c.cells]; rfl
theorem Cur.free {w : World} {g h cap p : Nat} {zs : List Nat} (c : Cur w g h cap zs p) (j : Nat) : w.frozen? ⟨g, j, none⟩ = false := by
  simp [World.frozen?, c.cells]

theorem Cur.stays {w w' : World} {g h cap p : Nat} {zs : List Nat} (c : Cur w g h cap zs p) (hb : Below w.heap.size w w') : Cur w' g h cap zs p :=
  ⟨by rw [hb.block g (heap_lt c.cells)]; exact c.cells, fun j hj => cell_stays hb (c.bytes j hj), c.ne, Nat.lt_of_lt_of_le c.lies hb.size, c.le, c.cap, c.small, c.oct⟩

theorem Cur.set {w : World} {g h cap p q : Nat} {zs : List Nat} (c : Cur w g h cap zs p) (hq : q ≤ zs.length) : Cur (w.setCell ⟨g, 1, none⟩ (.int .i64 (q : Int))) g h cap zs q := by
  refine ⟨?_, fun j hj => ?_, c.ne, ?_, hq, c.cap, c.small, c.oct⟩
  · exact heap_setCell_same w g 1 _ 49 _ c.cells
  · rw [World.cell?_setCell_other _ _ _ _ (by intro e; have := congrArg Addr.block e; exact c.ne this.symm)]
    exact c.bytes j hj
  · simp [c.lies]

theorem below_drew {B : Nat} {w w1 : World} (h : Below B w w1) (n : Nat) : Below B w (w1.drewN n) := ⟨h.os, h.tape, h.output, h.size, h.block⟩

theorem Cur.reads2 {w : World} {g h cap p k q : Nat} {zs : List Nat} {c2 : Nat} (c : Cur w g h cap zs q) (hk : p + k ≤ zs.length) : Reads w (.slice (some ⟨h, p, none⟩) k c2) ((zs.drop p).take k) := by
  have hl : ((zs.drop p).take k).length = k := by simp; omega
  refine ⟨some ⟨h, p, none⟩, c2, by rw [hl], fun _ => ⟨_, rfl, fun j u hj => ?_⟩⟩
  have hj2 : j < k := by
    have := (List.getElem?_eq_some_iff.1 hj).1
    simp at this; omega
  have e : (⟨h, p, none⟩ : Addr).add j = ⟨h, p + j, none⟩ := by by_cases hq : j = 0 <;> simp [Addr.add, hq]
  rw [e, c.bytes (p + j) (by omega)]
  rw [List.getElem?_map, List.getElem?_take, if_pos hj2, List.getElem?_drop] at hj
  rw [← hj, List.getElem?_eq_getElem (by omega)]
  simp [List.getD_eq_getElem?_getD, show p + j < zs.length by omega]

theorem left_ok (g h cap p : Nat) (zs : List Nat) (w : World) (c : Cur w g h cap zs p) :
    Calls Try.prog 46 #[.pointer (some ⟨g, 0, none⟩)] w fun e w' => ∃ a c2, e = .returned (.slice a (zs.length - p) c2) ∧ Below w.heap.size w w' := by
  have c0 := c.cell0
  have c1 := c.cell1
  have hle := c.le
  have hcap := c.cap
  have hsm := c.small
  generalize zs.length = L at *
  clear c
  by_cases hq : cap = p
  · subst hq
    go_enter Try.func46, Try.ntmps46
    go_wp2_with fail
    go_quiet (fail)
    go_wp2_with fail
    go_ret
    exact ⟨_, _, by rw [show L - cap = 0 by omega]; rfl, below_drew (Below.refl _ _) _⟩
  · go_enter Try.func46, Try.ntmps46
    go_wp2_with fail
    go_quiet (fail)
    go_wp2_with fail
    go_ret
    exact ⟨_, _, rfl, below_drew (Below.refl _ _) _⟩

theorem Cur.drew {w : World} {g h cap p : Nat} {zs : List Nat} (c : Cur w g h cap zs p) (n : Nat) : Cur (w.drewN n) g h cap zs p := ⟨c.cells, c.bytes, c.ne, c.lies, c.le, c.cap, c.small, c.oct⟩

/-- what a call of the cursor's may change -/
structure Step (w w' : World) (g h cap : Nat) (zs : List Nat) (q : Nat) : Prop where
  cur : Cur w' g h cap zs q
  only : Only g w w'

theorem Step.drew {w w' : World} {g h cap q : Nat} {zs : List Nat} (c : Step w w' g h cap zs q) (n : Nat) : Step w (w'.drewN n) g h cap zs q := ⟨c.cur.drew n, ⟨c.only.os, c.only.tape, c.only.output, c.only.size, c.only.keep⟩⟩

theorem Step.refl {w : World} {g h cap q : Nat} {zs : List Nat} (c : Cur w g h cap zs q) : Step w w g h cap zs q := ⟨c, Only.refl _ _⟩

theorem Step.stays {w w1 w2 : World} {g h cap q : Nat} {zs : List Nat} (c : Step w w1 g h cap zs q) (hb : Below w1.heap.size w1 w2) : Step w w2 g h cap zs q := ⟨c.cur.stays hb, c.only.trans (Only.of_below hb)⟩

theorem Step.trans {w w1 w2 : World} {g h cap q q' : Nat} {zs : List Nat} (c : Step w w1 g h cap zs q) (d : Step w1 w2 g h cap zs q') : Step w w2 g h cap zs q' := ⟨d.cur, c.only.trans d.only⟩

theorem Step.set {w w1 : World} {g h cap p q : Nat} {zs : List Nat} (c : Step w w1 g h cap zs p) (hq : q ≤ zs.length) : Step w (w1.setCell ⟨g, 1, none⟩ (.int .i64 (q : Int))) g h cap zs q := ⟨c.cur.set hq, c.only.set 1 _⟩

theorem take_end (g h cap p k : Nat) (zs : List Nat) (w : World) (c : Cur w g h cap zs p) (hk : zs.length < p + k) :
    Calls Try.prog 40 #[.pointer (some ⟨g, 0, none⟩), .int .i64 (k : Int)] w fun e w' => e = .returned (.tuple #[.slice none 0 0, .int .i64 10]) ∧ Step w w' g h cap zs p := by
  have HL := hide (left_ok g h cap p zs w c)
  have hle := c.le
  have hsm := c.small
  have HC := hide c
  clear c
  obtain ⟨L, hL⟩ : ∃ L, L = zs.length := ⟨_, rfl⟩
  rw [← hL] at HL hle hsm hk
  clear hL
  go_enter Try.func40, Try.ntmps40
  go_wp2_with fail
  refine (unhide HL).mono ?_
  rintro e w1 ⟨a, c2, rfl, h1⟩
  have H1 := hide h1
  have ht : ((L - p : Nat) : Int) < (k : Int) := by omega
  clear h1 HL
  go_wp2_with fail
  go_ret2
  exact ⟨rfl, (Step.refl (unhide HC)).stays (unhide H1)⟩

theorem take_ok (g h cap p k : Nat) (zs : List Nat) (w : World) (c : Cur w g h cap zs p) (hk : p + k ≤ zs.length) (h1 : 1 ≤ k) :
    Calls Try.prog 40 #[.pointer (some ⟨g, 0, none⟩), .int .i64 (k : Int)] w fun e w' => e = .returned (.tuple #[.slice (some ⟨h, p, none⟩) k (cap - p), .int .i64 0]) ∧ Step w w' g h cap zs (p + k) := by
  have HL := hide (left_ok g h cap p zs w c)
  have hle := c.le
  have hsm := c.small
  have hcap := c.cap
  have HC := hide c
  clear c
  obtain ⟨L, hL⟩ : ∃ L, L = zs.length := ⟨_, rfl⟩
  have HLL := hide hL
  rw [← hL] at HL hle hsm hk hcap
  clear hL
  go_enter Try.func40, Try.ntmps40
  go_wp2_with fail
  refine (unhide HL).mono ?_
  rintro e w1 ⟨a, c2, rfl, h2⟩
  have HS := hide ((Step.refl (unhide HC)).stays h2)
  have ht : ¬ ((L - p : Nat) : Int) < (k : Int) := by omega
  have c1 := (unhide HS).cur.cell1
  have cf := (unhide HS).cur.free 1
  have HT := hide ((unhide HS).set (q := p + k) (by rw [← unhide HLL]; exact hk))
  have d0 := (unhide HT).cur.cell0
  have d1 := (unhide HT).cur.cell1
  rw [← unhide HLL] at d0
  have hpk : ((p + k : Nat) : Int) = (p : Int) + (k : Int) := by omega
  rw [hpk] at d0 d1 HT
  clear h2 HL HC
  go_wp2_with fail
  generalize (w1.setCell ⟨g, 1, none⟩ (.int .i64 ((p : Int) + (k : Int)))) = w2 at *
  go_quiet (fail)
  go_wp2_with fail
  go_ret2
  exact ⟨by rw [show p + k - p = k by omega]; rfl, (unhide HT).drew _⟩

theorem map8_inj : ∀ {xs ys : List Nat}, (∀ z ∈ xs, z < 256) → (∀ z ∈ ys, z < 256) → xs.map UInt8.ofNat = ys.map UInt8.ofNat → xs = ys
  | [], [], _, _, _ => rfl
  | [], y :: ys, _, _, h => by simp at h
  | x :: xs, [], _, _, h => by simp at h
  | x :: xs, y :: ys, hx, hy, h => by
    simp only [List.map_cons, List.cons.injEq] at h
    have e := congrArg UInt8.toNat h.1
    rw [UInt8.toNat_ofNat', UInt8.toNat_ofNat'] at e
    have h1 := hx x (by simp)
    have h2 := hy y (by simp)
    rw [map8_inj (fun z hz => hx z (List.mem_cons_of_mem _ hz)) (fun z hz => hy z (List.mem_cons_of_mem _ hz)) h.2, show x = y by omega]

theorem map8_eq {xs ys : List Nat} (hx : ∀ z ∈ xs, z < 256) (hy : ∀ z ∈ ys, z < 256) : (xs.map UInt8.ofNat == ys.map UInt8.ofNat) = decide (xs = ys) := by
  by_cases h : xs = ys
  · subst h; simp
  · rw [decide_eq_false h]
    rw [← Bool.not_eq_true]
    intro e
    exact h (map8_inj hx hy (eq_of_beq e))

theorem equal_ok (va vb : Value) (xs ys : List Nat) (w : World) (ha : Reads w va xs) (hb : Reads w vb ys) (hx : ∀ z ∈ xs, z < 256) (hy : ∀ z ∈ ys, z < 256) :
    Calls Try.prog 41 #[va, vb] w fun e w' => e = .returned (.bool (decide (xs = ys))) ∧ w' = w := by
  have h1 := conv_reads ha hx
  have h2 := conv_reads hb hy
  go_enter Try.func41, Try.ntmps41
  go_wp2_with fail
  go_ret
  exact ⟨by rw [← map8_eq hx hy]; rfl, rfl⟩

/-- what expect tells, and where the cursor stands behind it -/
def expF (zs : List Nat) (p : Nat) (ws : List Nat) (x : Nat) : Nat × Nat :=
  if zs.length < p + ws.length then (10, p) else if (zs.drop p).take ws.length = ws then (0, p + ws.length) else (x, p + ws.length)

theorem expect_ok (g h cap p x : Nat) (zs ws : List Nat) (vw : Value) (w : World) (c : Cur w g h cap zs p) (hw : Reads w vw ws) (hg : ∀ a n k, vw = .slice (some a) n k → a.block ≠ g) (h0 : 1 ≤ ws.length) (hws : ∀ z ∈ ws, z < 256) :
    Calls Try.prog 31 #[.pointer (some ⟨g, 0, none⟩), vw, .int .i64 (x : Int)] w fun e w' => e = .returned (.int .i64 ((expF zs p ws x).1 : Int)) ∧ Step w w' g h cap zs (expF zs p ws x).2 := by
  have HC := hide c
  have HO := hide c.oct
  have HWS := hide hws
  have HW := hide hw
  have hsm := c.small
  have hle := c.le
  by_cases hk : zs.length < p + ws.length
  · have HE : Hid (expF zs p ws x = (10, p)) := hide (by rw [expF, if_pos hk])
    have HT := hide (take_end g h cap p ws.length zs w c hk)
    obtain ⟨a, c2, e, _⟩ := id hw
    rw [e] at hg HW ⊢
    generalize expF zs p ws x = r at *
    generalize ws.length = k at *
    clear c hw hws e hg
    go_enter Try.func31, Try.ntmps31
    go_wp2_with (go_at_call 40; go_must (refine (unhide HT).mono ?_; rintro e w1 ⟨rfl, h1⟩; have H1 := hide h1; clear h1))
    go_ret
    rw [unhide HE]
    exact ⟨rfl, unhide H1⟩
  · have HT := hide (take_ok g h cap p ws.length zs w c (by omega) h0)
    have HE : Hid (expF zs p ws x = if (zs.drop p).take ws.length = ws then (0, p + ws.length) else (x, p + ws.length)) := hide (by rw [expF, if_neg hk])
    have HOT : Hid (∀ z ∈ (zs.drop p).take ws.length, z < 256) := hide (drop_take_small c.oct p ws.length)
    have HPK : Hid (p + ws.length ≤ zs.length) := hide (by omega)
    obtain ⟨a, c2, e, hcell⟩ := id hw
    have HWO : Hid (∀ w1, Only g w w1 → Reads w1 vw ws) := hide (fun w1 ho => by
      refine ⟨a, c2, e, fun h1 => ?_⟩
      obtain ⟨ad, rfl, h2⟩ := hcell h1
      refine ⟨ad, rfl, fun j u hj => ?_⟩
      have h3 := h2 j u hj
      have hlt := cell_lt h3
      rw [← h3]
      simp only [World.cell?]
      have hb : (ad.add j).block = ad.block := by simp [Addr.add]; split <;> rfl
      rw [hb] at hlt ⊢
      rw [ho.keep _ hlt (hg _ _ _ e)])
    rw [e] at HWO HW ⊢
    generalize expF zs p ws x = r at *
    generalize hkk : ws.length = k at *
    generalize hts : (zs.drop p).take k = ts at *
    have HTS := hide hts
    clear c hw hws hcell hts hkk
    have hk0 : ¬ (zs.length < p + k) := hk
    have HEQ : Hid (∀ w1, Step w w1 g h cap zs (p + k) → Calls Try.prog 41 #[.slice (some ⟨h, p, none⟩) k (cap - p), .slice a k c2] w1 fun e w' => e = .returned (.bool (decide (ts = ws))) ∧ w' = w1) := hide (fun w1 h1 => equal_ok _ _ ts ws w1 (by rw [← unhide HTS]; exact h1.cur.reads2 (unhide HPK)) (unhide HWO w1 h1.only) (unhide HOT) (unhide HWS))
    cases hd : decide (ts = ws) with
    | true =>
      rw [hd] at HEQ
      go_enter Try.func31, Try.ntmps31
      go_wp2_with (first
        | (go_at_call 40; refine (unhide HT).mono ?_; rintro e w1 ⟨rfl, h1⟩; have H1 := hide h1; have HE1 := hide (unhide HEQ w1 h1); clear h1)
        | (go_at_call 41; refine (unhide HE1).mono ?_; rintro e w2 ⟨rfl, rfl⟩))
      go_ret
      rw [unhide HE, if_pos (of_decide_eq_true hd)]
      exact ⟨rfl, unhide H1⟩
    | false =>
      rw [hd] at HEQ
      go_enter Try.func31, Try.ntmps31
      go_wp2_with (first
        | (go_at_call 40; refine (unhide HT).mono ?_; rintro e w1 ⟨rfl, h1⟩; have H1 := hide h1; have HE1 := hide (unhide HEQ w1 h1); clear h1)
        | (go_at_call 41; refine (unhide HE1).mono ?_; rintro e w2 ⟨rfl, rfl⟩))
      go_ret
      rw [unhide HE, if_neg (of_decide_eq_false hd)]
      exact ⟨rfl, unhide H1⟩
end Go.Proofs.Ytcppnkbfndhioaa
