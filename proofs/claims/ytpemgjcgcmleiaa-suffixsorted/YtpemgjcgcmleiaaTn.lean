/- Rows and Turn, whatever they are asked: the program's and the document's. -/
import Derived.Test.YtpemgjcgcmleiaaSt
import Derived.Test.YtpemgjcgcmleiaaBo
namespace Go.Proofs.Ytpemgjcgcmleiaa
open Go.RowKit Suf
set_option maxRecDepth 100000
set_option linter.unusedVariables false

/-- what Rows tells -/
def RowsIs (b : List Nat) (out : List Nat × Nat) : Prop := (1048576 < b.length ∧ out = ([], 3)) ∨ (b.length ≤ 1048576 ∧ IsRows b out.1 ∧ out.2 = 0)

theorem RowsIs.one {b : List Nat} {o o' : List Nat × Nat} (h : RowsIs b o) (h' : RowsIs b o') : o = o' := by
  rcases h with ⟨h1, h2⟩ | ⟨h1, h2, h3⟩ <;> rcases h' with ⟨h1', h2'⟩ | ⟨h1', h2', h3'⟩
  · rw [h2, h2']
  · omega
  · omega
  · exact Prod.ext (h2.one h2') (by rw [h3, h3'])

theorem RowsIs.len {b : List Nat} {o : List Nat × Nat} (h : RowsIs b o) : o.1.length ≤ 1048576 := by
  rcases h with ⟨_, rfl⟩ | ⟨h1, h2, _⟩
  · simp
  · rw [h2.len]; exact h1

/-- what Turn tells: the column, the row, the error -/
def TurnIs (b : List Nat) (c : List Nat) (r e : Nat) : Prop := (1048576 < b.length ∧ c = [] ∧ r = 0 ∧ e = 3) ∨ (b.length ≤ 1048576 ∧ e = 0 ∧ ∃ l, IsRows b l ∧ c = col b l ∧ r = rowTo l b.length)

theorem TurnIs.one {b c c' : List Nat} {r r' e e' : Nat} (h : TurnIs b c r e) (h' : TurnIs b c' r' e') : c = c' ∧ r = r' ∧ e = e' := by
  rcases h with ⟨h1, rfl, rfl, rfl⟩ | ⟨h1, rfl, l, hl, rfl, rfl⟩ <;> rcases h' with ⟨h1', rfl, rfl, rfl⟩ | ⟨h1', rfl, l', hl', rfl, rfl⟩
  · exact ⟨rfl, rfl, rfl⟩
  · omega
  · omega
  · have := hl.one hl'
    subst this
    exact ⟨rfl, rfl, rfl⟩

theorem col_len {b l : List Nat} (h : IsRows b l) : (col b l).length = b.length := by rw [col, List.length_map, h.len]

theorem col_small {b l : List Nat} (hb : ∀ z ∈ b, z < 256) (h : IsRows b l) : ∀ z ∈ col b l, z < 256 := fun z hz => hb z ((col_perm h).mem_iff.1 hz)

theorem TurnIs.len {b c : List Nat} {r e : Nat} (h : TurnIs b c r e) : c.length ≤ 1048576 := by
  rcases h with ⟨_, rfl, _⟩ | ⟨h1, _, l, hl, rfl, _⟩
  · simp
  · rw [col_len hl]; exact h1

theorem TurnIs.small {b c : List Nat} {r e : Nat} (hb : ∀ z ∈ b, z < 256) (h : TurnIs b c r e) : ∀ z ∈ c, z < 256 := by
  rcases h with ⟨_, rfl, _⟩ | ⟨h1, _, l, hl, rfl, _⟩
  · simp
  · exact col_small hb hl

/-- what a call of Turn hands out -/
def TurnTold (b : List Nat) (w : World) (e : Ending) (w' : World) : Prop := ∃ v c r er, e = .returned (.tuple #[v, .int .i64 ((r : Nat) : Int), .int .i64 ((er : Nat) : Int)]) ∧ TurnIs b c r er ∧ Row w.heap.size w'.heap.size w' v .u8 5 c ∧ Below w.heap.size w w'

def RowsTold (b : List Nat) (w : World) (e : Ending) (w' : World) : Prop := ∃ out, RowsIs b out ∧ Told .i64 3 out w e w'

set_option maxHeartbeats 1000000 in
theorem rows_big (a0 : Option Addr) (n cap : Nat) (w : World) (hn : 1048576 < n) :
    Calls Try.prog 9 #[.slice a0 n cap] w fun e w' => e = .returned (.tuple #[.slice none 0 0, .int .i64 3]) ∧ w' = w := by
  have hd : 1048576 < (n : Int) := by omega
  have hd2 : decide (1048576 < (n : Int)) = true := by simp; omega
  go_enter Try.func9, Try.ntmps9
  go_wp2_with fail
  go_ret2
  exact ⟨rfl, rfl⟩

set_option maxHeartbeats 1000000 in
theorem rows_p (b : List Nat) (a0 : Option Addr) (cap : Nat) (w : World) (hc : BytesIn w a0 b) (hb : ∀ z ∈ b, z < 256) (hn : b.length ≤ 1048576) :
    Calls Try.prog 9 #[.slice a0 b.length cap] w fun e w' => ∃ g l, e = .returned (.tuple #[.slice (some ⟨g, 0, none⟩) b.length b.length, .int .i64 0]) ∧ w.heap.size ≤ g ∧ IsRows b l ∧ IntsAt w' .i64 3 g b.length (fun i => l.getD i 0) ∧ Below w.heap.size w w' := by
  have HS := hide (sortT_ok b a0 cap w hc hb hn)
  generalize b.length = n at *
  have hd : ¬ 1048576 < (n : Int) := by omega
  have hd2 : decide (1048576 < (n : Int)) = false := by simp; omega
  go_enter Try.func9, Try.ntmps9
  go_wp2_with fail
  refine (unhide HS).mono ?_
  rintro e w1 ⟨g, l, rfl, h1, h2, h3, h4⟩
  have H := hide (And.intro h1 (And.intro h2 (And.intro h3 h4)))
  clear h1 h2 h3 h4
  go_wp2_with fail
  go_ret2
  obtain ⟨h1, h2, h3, h4⟩ := unhide H
  exact ⟨g, l, rfl, h1, h2, h3, h4⟩

theorem rows_told (b : List Nat) (a0 : Option Addr) (cap : Nat) (w : World) (hc : BytesIn w a0 b) (hb : ∀ z ∈ b, z < 256) :
    Calls Try.prog 9 #[.slice a0 b.length cap] w fun e w' => RowsTold b w e w' := by
  by_cases h : 1048576 < b.length
  · refine (rows_big a0 b.length cap w h).mono ?_
    rintro e w' ⟨rfl, rfl⟩
    exact ⟨([], 3), .inl ⟨h, rfl⟩, _, rfl, Row.nil _ _ _ _ _, Below.refl _ _⟩
  · refine (rows_p b a0 cap w hc hb (by omega)).mono ?_
    rintro e w' ⟨g, l, rfl, h1, h2, h3, h4⟩
    exact ⟨(l, 0), .inr ⟨by omega, h2, rfl⟩, _, rfl, row_ints h2.len h3 h1, h4⟩

set_option maxHeartbeats 1000000 in
theorem rrows_big (a0 : Option Addr) (n cap : Nat) (w : World) (hn : 1048576 < n) :
    Calls Try.prog 10 #[.slice a0 n cap] w fun e w' => e = .returned (.tuple #[.slice none 0 0, .int .i64 3]) ∧ w' = w := by
  have hd : 1048576 < (n : Int) := by omega
  have hd2 : decide (1048576 < (n : Int)) = true := by simp; omega
  go_enter Try.func10, Try.ntmps10
  go_wp2_with fail
  go_ret2
  exact ⟨rfl, rfl⟩

set_option maxHeartbeats 1000000 in
theorem rrows_none (a0 : Option Addr) (cap : Nat) (w : World) :
    Calls Try.prog 10 #[.slice a0 0 cap] w fun e w' => e = .returned (.tuple #[.slice none 0 0, .int .i64 0]) ∧ w' = w := by
  go_enter Try.func10, Try.ntmps10
  go_wp2_with fail
  refine wp_loop_rounds 1 ?_
  rw [rounds_succ]
  go_wp2_with fail
  go_ret2
  exact ⟨rfl, rfl⟩

theorem isRows_nil : IsRows [] [] := ⟨List.Perm.refl _, List.Pairwise.nil⟩

theorem bytes_at {w : World} {a0 : Option Addr} {b : List Nat} (h : BytesIn w a0 b) (h0 : 0 < b.length) : ∃ g off, a0 = some ⟨g, off, none⟩ ∧ ∀ j, j < b.length → w.cell? ⟨g, off + j, none⟩ = some (.int .u8 ((b.getD j 0 : Nat) : Int)) := by
  obtain ⟨g, off, rfl, _⟩ := h 0 h0
  refine ⟨g, off, rfl, fun j hj => ?_⟩
  obtain ⟨g', off', e, hc⟩ := h j hj
  injection e with e
  injection e with e1 e2
  subst e1 e2
  exact hc

theorem rrows_told (b : List Nat) (a0 : Option Addr) (cap : Nat) (w : World) (hc : BytesIn w a0 b) (hb : ∀ z ∈ b, z < 256) :
    Calls Try.prog 10 #[.slice a0 b.length cap] w fun e w' => RowsTold b w e w' := by
  by_cases h : 1048576 < b.length
  · refine (rrows_big a0 b.length cap w h).mono ?_
    rintro e w' ⟨rfl, rfl⟩
    exact ⟨([], 3), .inl ⟨h, rfl⟩, _, rfl, Row.nil _ _ _ _ _, Below.refl _ _⟩
  · by_cases h0 : 0 < b.length
    · obtain ⟨g, off, rfl, hc2⟩ := bytes_at hc h0
      refine (rows_ok b g off cap w hc2 hb (by omega)).mono ?_
      rintro e w' ⟨v, l, rfl, h1, h2⟩
      exact ⟨(l, 0), .inr ⟨by omega, h1, rfl⟩, _, rfl, row_own (n := 0) rfl (by have := h2.own; rw [List.length_map] at this; exact this), h2.bel⟩
    · obtain rfl : b = [] := List.eq_nil_of_length_eq_zero (by omega)
      refine (rrows_none a0 cap w).mono ?_
      rintro e w' ⟨rfl, rfl⟩
      exact ⟨([], 0), .inr ⟨by simp, isRows_nil, rfl⟩, _, rfl, Row.nil _ _ _ _ _, Below.refl _ _⟩

set_option maxHeartbeats 1000000 in
theorem rturn_nil (a0 : Option Addr) (n cap er : Nat) (w : World) (her : er = 0 ∨ er = 3) (hR : Calls Try.prog 10 #[.slice a0 n cap] w fun e w' => e = .returned (.tuple #[.slice none 0 0, .int .i64 (er : Int)]) ∧ w' = w) :
    Calls Try.prog 8 #[.slice a0 n cap] w fun e w' => e = .returned (.tuple #[.slice none 0 0, .int .i64 0, .int .i64 (er : Int)]) ∧ w' = w := by
  have HR := hide hR
  clear hR her
  go_enter Try.func8, Try.ntmps8
  go_wp2_with fail
  refine (unhide HR).mono ?_
  rintro e w' ⟨rfl, rfl⟩
  go_wp2_with fail
  refine wp_loop_rounds 1 ?_
  rw [rounds_succ]
  go_wp2_with fail
  go_ret3
  exact ⟨rfl, rfl⟩

theorem rturn_told (b : List Nat) (a0 : Option Addr) (cap : Nat) (w : World) (hc : BytesIn w a0 b) (hb : ∀ z ∈ b, z < 256) :
    Calls Try.prog 8 #[.slice a0 b.length cap] w fun e w' => TurnTold b w e w' := by
  by_cases h : 1048576 < b.length
  · refine (rturn_nil a0 b.length cap 3 w (.inr rfl) (rrows_big a0 b.length cap w h)).mono ?_
    rintro e w' ⟨rfl, rfl⟩
    exact ⟨_, [], 0, 3, rfl, .inl ⟨h, rfl, rfl, rfl⟩, Row.nil _ _ _ _ _, Below.refl _ _⟩
  · by_cases h0 : 0 < b.length
    · obtain ⟨g, off, rfl, hc2⟩ := bytes_at hc h0
      refine (turn_ok b g off cap w hc2 hb (by omega)).mono ?_
      rintro e w' ⟨v, l, h1, rfl, h2⟩
      exact ⟨v, col b l, rowTo l b.length, 0, rfl, .inr ⟨by omega, rfl, l, h1, rfl, rfl⟩, row_own (n := 0) rfl h2.own, h2.bel⟩
    · obtain rfl : b = [] := List.eq_nil_of_length_eq_zero (by omega)
      refine (rturn_nil a0 0 cap 0 w (.inl rfl) (rrows_none a0 cap w)).mono ?_
      rintro e w' ⟨rfl, rfl⟩
      exact ⟨_, [], 0, 0, rfl, .inr ⟨by simp, rfl, [], isRows_nil, rfl, rfl⟩, Row.nil _ _ _ _ _, Below.refl _ _⟩

set_option maxHeartbeats 1000000 in
theorem turn_big (a0 : Option Addr) (n cap : Nat) (w : World) (hn : 1048576 < n) :
    Calls Try.prog 7 #[.slice a0 n cap] w fun e w' => e = .returned (.tuple #[.slice none 0 0, .int .i64 0, .int .i64 3]) ∧ w' = w := by
  have HR := hide (rows_big a0 n cap w hn)
  clear hn
  go_enter Try.func7, Try.ntmps7
  go_wp2_with fail
  refine (unhide HR).mono ?_
  rintro e w' ⟨rfl, rfl⟩
  go_wp2_with fail
  go_ret3
  exact ⟨rfl, rfl⟩

theorem prev_zero {n : Nat} (h : 0 < n) : prev n 0 = n - 1 := by unfold prev; rw [Nat.zero_add]; exact Nat.mod_eq_of_lt (by omega)
theorem prev_pos {n i : Nat} (h : i + 1 < n) : prev n (i + 1) = i := by
  unfold prev
  rw [show i + 1 + n - 1 = i + n by omega, Nat.add_mod_right]
  exact Nat.mod_eq_of_lt (by omega)

set_option maxHeartbeats 4000000 in
theorem turn_p (b : List Nat) (a0 : Option Addr) (cap : Nat) (w : World) (hc : BytesIn w a0 b) (hb : ∀ z ∈ b, z < 256) (hn : b.length ≤ 1048576) :
    Calls Try.prog 7 #[.slice a0 b.length cap] w fun e w' => ∃ g l, IsRows b l ∧ e = .returned (.tuple #[.slice (some ⟨g, 0, none⟩) b.length b.length, .int .i64 ((rowTo l b.length : Nat) : Int), .int .i64 0]) ∧ w.heap.size ≤ g ∧ IntsAt w' .u8 5 g b.length (fun i => (col b l).getD i 0) ∧ Below w.heap.size w w' := by
  have HRO := hide (rows_p b a0 cap w hc hb hn)
  have HC := hide hc
  obtain ⟨n, hN⟩ : ∃ n, n = b.length := ⟨_, rfl⟩
  have HNN := hide hN
  rw [← hN] at hn HRO ⊢
  clear hN hc
  go_enter Try.func7, Try.ntmps7
  go_wp2_with fail
  refine (unhide HRO).mono ?_
  clear HRO
  rintro e w1 ⟨gl, l, rfl, hgl, hl, hi1, hb1⟩
  have hmk := bytes_made w1 n (by omega)
  obtain ⟨G, hG⟩ : ∃ G, G = w1.heap.size := ⟨_, rfl⟩
  have hgG : gl < G ∧ w.heap.size ≤ G := by rw [hG]; exact ⟨hi1.lt, hb1.size⟩
  have HI0 : Hid (IntsAt (w1.alloc (.cells (icells .u8 n (fun _ => 0)) 5)) .i64 3 gl n (fun i => l.getD i 0)) := hide (hi1.alloc _)
  have HB0 : Hid (Below w.heap.size w (w1.alloc (.cells (icells .u8 n (fun _ => 0)) 5))) := hide (hb1.alloc hb1.size _)
  have HO0 : Hid (∃ C, IntsAt (w1.alloc (.cells (icells .u8 n (fun _ => 0)) 5)) .u8 5 G n C ∧ ∀ j, j < 0 → C j = b.getD (prev n (l.getD j 0)) 0) := hide ⟨fun _ => 0, by rw [hG]; exact heap_alloc_new _ _, fun j hj => by omega⟩
  have HLR := hide hl
  rw [← hG] at hmk
  clear hi1 hb1 hG hl
  go_wp2_with fail
  clear hmk
  go_loopg [3, 21] n (fun gk rv d ws => ∃ i : Nat, gk = n - i ∧ i ≤ n ∧ rv = .int .i64 ((rowTo l i : Nat) : Int) ∧ d = .int .i64 (i : Int) ∧ Hid (IntsAt ws .i64 3 gl n (fun i => l.getD i 0)) ∧ Hid (Below w.heap.size w ws) ∧ Hid (∃ C, IntsAt ws .u8 5 G n C ∧ ∀ j, j < i → C j = b.getD (prev n (l.getD j 0)) 0))
  case atStart => exact ⟨0, rfl, by omega, rfl, rfl, HI0, HB0, HO0⟩
  case round =>
    clear HI0 HB0 HO0
    obtain ⟨i, rfl, hin, rfl, rfl, HI0, HB0, HO0⟩ := hrel
    rename World => wi
    by_cases hil : i < n
    · have ti : (i : Int) < (n : Int) := by omega
      obtain ⟨C, hC1, hC2⟩ := unhide HO0
      have c1 := (unhide HI0).cell i hil
      have c2 := hC1.cell i hil
      have c3 := hC1.free i
      have hxn : l.getD i 0 < n := by rw [unhide HNN]; exact (unhide HLR).lt (getD_mem (by rw [(unhide HLR).len, ← unhide HNN]; exact hil))
      have HRT : Hid (rowTo l (i + 1) = if l.getD i 0 = 0 then i else rowTo l i) := hide rfl
      have HLE := hide (rowTo_le l i)
      have HC1 := hide hC1
      have HC2 := hide hC2
      have HXE : Hid (l.getD i 0 = l.getD i 0) := hide rfl
      obtain ⟨x, hx⟩ : ∃ x, x = l.getD i 0 := ⟨_, rfl⟩
      rw [← hx] at c1 hxn HRT
      have HX := hide hx
      clear hC1 hC2 hx HXE
      have hpv : prev n x < n := prev_lt hxn
      obtain ⟨gB, oB, rfl, d1⟩ := unhide HC (prev n x) (by rw [← unhide HNN]; exact hpv)
      have d2 : wi.cell? ⟨gB, oB + prev n x, none⟩ = some (.int .u8 ((b.getD (prev n x) 0 : Nat) : Int)) := by rw [(unhide HB0).cell (cell_lt d1)]; exact d1
      obtain ⟨z, hz⟩ : ∃ z, z = b.getD (prev n x) 0 := ⟨_, rfl⟩
      rw [← hz] at d2
      have HZ := hide hz
      clear d1 hz
      have HNX : Hid (∃ C, IntsAt (wi.setCell ⟨G, i, none⟩ (.int .u8 ((z : Nat) : Int))) .u8 5 G n C ∧ ∀ j, j < i + 1 → C j = b.getD (prev n (l.getD j 0)) 0) := hide ⟨_, (unhide HC1).set i z, fun j hj => by
        unfold upd
        by_cases e : j = i
        · rw [if_pos e, e, unhide HZ, unhide HX]
        · rw [if_neg e]; exact unhide HC2 j (by omega)⟩
      have HIX : Hid (IntsAt (wi.setCell ⟨G, i, none⟩ (.int .u8 ((z : Nat) : Int))) .i64 3 gl n (fun i => l.getD i 0)) := hide ((unhide HI0).other _ _ (by show gl ≠ G; omega))
      have HBX : Hid (Below w.heap.size w (wi.setCell ⟨G, i, none⟩ (.int .u8 ((z : Nat) : Int)))) := hide ((unhide HB0).setCell (by show w.heap.size ≤ G; omega) _)
      clear HI0 HB0 HO0 HC1 HC2
      cases x with
      | zero =>
        rw [if_pos rfl] at HRT
        rw [prev_zero (by omega)] at d2 hpv
        obtain ⟨m, rfl⟩ : ∃ m, n = m + 1 := ⟨n - 1, by omega⟩
        rw [show m + 1 - 1 = m by omega] at d2
        have f5 : IntKind.i64.wrap (m : Int) = (m : Int) := by rw [IntKind.wrap_i64]; omega
        have f6 : (m : Int) < (m : Int) + 1 := by omega
        go_wp2_with fail
        go_roundg (m + 1 - (i + 1))
        case measure => omega
        case rel => exact ⟨i + 1, rfl, by omega, by rw [unhide HRT], by go_num, HIX, HBX, HNX⟩
      | succ x =>
        rw [if_neg (by omega)] at HRT
        rw [prev_pos hxn] at d2
        have f1 : ((x : Int) + 1 == 0) = false := by simp; omega
        have f2 : ¬ (x : Int) + 1 = 0 := by omega
        have f5 : IntKind.i64.wrap (x : Int) = (x : Int) := by rw [IntKind.wrap_i64]; omega
        have f6 : (x : Int) < (n : Int) := by omega
        go_wp2_with fail
        go_roundg (n - (i + 1))
        case measure => omega
        case rel => exact ⟨i + 1, rfl, by omega, by rw [unhide HRT], by go_num, HIX, HBX, HNX⟩
    · obtain rfl : i = n := by omega
      have ti : ¬ (i : Int) < (i : Int) := by omega
      go_wp2_with fail
      go_ret3
      obtain ⟨C, hC1, hC2⟩ := unhide HO0
      refine ⟨G, l, unhide HLR, rfl, hgG.2, hC1.congr fun j hj => ?_, unhide HB0⟩
      rw [hC2 j hj]
      generalize hq : b.getD (prev i (l.getD j 0)) 0 = q
      unfold col
      rw [← unhide HNN, List.getElem?_map, List.getElem?_eq_getElem (show j < l.length by rw [(unhide HLR).len, ← unhide HNN]; exact hj)]
      rw [getD_get! (show j < l.length by rw [(unhide HLR).len, ← unhide HNN]; exact hj)] at hq
      exact hq.symm

theorem turn_told (b : List Nat) (a0 : Option Addr) (cap : Nat) (w : World) (hc : BytesIn w a0 b) (hb : ∀ z ∈ b, z < 256) :
    Calls Try.prog 7 #[.slice a0 b.length cap] w fun e w' => TurnTold b w e w' := by
  by_cases h : 1048576 < b.length
  · refine (turn_big a0 b.length cap w h).mono ?_
    rintro e w' ⟨rfl, rfl⟩
    exact ⟨_, [], 0, 3, rfl, .inl ⟨h, rfl, rfl, rfl⟩, Row.nil _ _ _ _ _, Below.refl _ _⟩
  · refine (turn_p b a0 cap w hc hb (by omega)).mono ?_
    rintro e w' ⟨g, l, h1, rfl, h2, h3, h4⟩
    exact ⟨_, col b l, rowTo l b.length, 0, rfl, .inr ⟨by omega, rfl, l, h1, rfl, rfl⟩, row_ints (col_len h1) h3 h2, h4⟩

end Go.Proofs.Ytpemgjcgcmleiaa
