/- Texts and tokens in memory; which tokens may be. -/
import Derived.Test.YtabnfnejlffioaaTok
import Derived.Test.YtabnfnejlffioaaBase
namespace Go.Proofs.Ytabnfnejlffioaa
open Go.RowKit
set_option linter.unusedVariables false

/-- a text that lies below block B -/
def ReadsU (B : Nat) (w : World) (v : Value) (zs : List Nat) : Prop :=
  ∃ a cap, v = .slice a zs.length cap ∧ zs.length ≤ cap ∧ (0 < zs.length → ∃ b off, a = some ⟨b, off, none⟩ ∧ b < B ∧ ∀ j, j < zs.length → w.cell? ⟨b, off + j, none⟩ = some (.int .u8 (zs.getD j 0 : Int)))

theorem cell_below {B : Nat} {w w1 : World} (hb : Below B w w1) {p : Addr} {u : Value} (h : w.cell? p = some u) (hp : p.block < B) : w1.cell? p = some u := by
  rw [World.cell?_of_block (hb.block _ hp)]; exact h

theorem ReadsU.stays {B : Nat} {w w1 : World} {v : Value} {zs : List Nat} (h : ReadsU B w v zs) (hb : Below B w w1) : ReadsU B w1 v zs := by
  obtain ⟨a, cap, rfl, hc, hs⟩ := h
  refine ⟨a, cap, rfl, hc, fun h0 => ?_⟩
  obtain ⟨b, off, rfl, h1, h2⟩ := hs h0
  exact ⟨b, off, rfl, h1, fun j hj => cell_below hb (h2 j hj) h1⟩

theorem ReadsU.mono {B B' : Nat} {w : World} {v : Value} {zs : List Nat} (h : ReadsU B w v zs) (hB : B ≤ B') : ReadsU B' w v zs := by
  obtain ⟨a, cap, rfl, hc, hs⟩ := h
  refine ⟨a, cap, rfl, hc, fun h0 => ?_⟩
  obtain ⟨b, off, rfl, h1, h2⟩ := hs h0
  exact ⟨b, off, rfl, by omega, h2⟩

theorem Reads.u {w : World} {a : Option Addr} {cap : Nat} {zs : List Nat} (h : Reads w (.slice a zs.length cap) zs) (hc : zs.length ≤ cap) : ReadsU w.heap.size w (.slice a zs.length cap) zs := by
  obtain ⟨a', cap', e, hs⟩ := h.spot
  injection e with e1 e2 e3
  subst e1 e3
  refine ⟨a, cap, rfl, hc, fun h0 => ?_⟩
  obtain ⟨b, off, rfl, h2⟩ := hs h0
  exact ⟨b, off, rfl, cell_lt (h2 0 h0), h2⟩

theorem ReadsU.reads {B : Nat} {w : World} {v : Value} {zs : List Nat} (h : ReadsU B w v zs) : Reads w v zs := by
  obtain ⟨a, cap, rfl, hc, hs⟩ := h
  refine ⟨a, cap, rfl, fun h0 => ?_⟩
  obtain ⟨b, off, rfl, h1, h2⟩ := hs h0
  refine ⟨_, rfl, fun j u hj => ?_⟩
  have hl : j < zs.length := by
    rcases Nat.lt_or_ge j zs.length with h | h
    · exact h
    · rw [List.getElem?_eq_none (by simpa using h)] at hj; cases hj
  have e : (⟨b, off, none⟩ : Addr).add j = ⟨b, off + j, none⟩ := by by_cases hq : j = 0 <;> simp [Addr.add, hq]
  rw [e, h2 j hl]
  simpa [bv, hl] using hj

/-- a list of tokens that lies below block B -/
def ReadsT (B : Nat) (w : World) (v : Value) (ts : List Tok) : Prop :=
  ∃ a cap, v = .slice a ts.length cap ∧ ts.length ≤ cap ∧ (0 < ts.length → ∃ b off, a = some ⟨b, off, none⟩ ∧ b < B ∧ ∀ j, j < ts.length →
    w.cell? ⟨b, off + j * 3, none⟩ = some (.int .i64 (ts.getD j tz).n) ∧ w.cell? ⟨b, off + j * 3 + 1, none⟩ = some (.int .i64 (ts.getD j tz).d) ∧ w.cell? ⟨b, off + j * 3 + 2, none⟩ = some (.int .u8 ((ts.getD j tz).b : Int)))

theorem ReadsT.stays {B : Nat} {w w1 : World} {v : Value} {ts : List Tok} (h : ReadsT B w v ts) (hb : Below B w w1) : ReadsT B w1 v ts := by
  obtain ⟨a, cap, rfl, hc, hs⟩ := h
  refine ⟨a, cap, rfl, hc, fun h0 => ?_⟩
  obtain ⟨b, off, rfl, h1, h2⟩ := hs h0
  exact ⟨b, off, rfl, h1, fun j hj => ⟨cell_below hb (h2 j hj).1 h1, cell_below hb (h2 j hj).2.1 h1, cell_below hb (h2 j hj).2.2 h1⟩⟩

theorem ReadsT.mono {B B' : Nat} {w : World} {v : Value} {ts : List Tok} (h : ReadsT B w v ts) (hB : B ≤ B') : ReadsT B' w v ts := by
  obtain ⟨a, cap, rfl, hc, hs⟩ := h
  refine ⟨a, cap, rfl, hc, fun h0 => ?_⟩
  obtain ⟨b, off, rfl, h1, h2⟩ := hs h0
  exact ⟨b, off, rfl, by omega, h2⟩

def tagg (t : Tok) : Value := .agg #[.int .i64 t.n, .int .i64 t.d, .int .u8 (t.b : Int)]

theorem info37 : (Try.prog.info? 37).map (fun i => (i.zero, i.size, i.bytes)) = some (some (.agg #[.int .i64 0, .int .i64 0, .int .u8 0]), 3, 24) := by kernel_rfl

set_option maxRecDepth 100000 in
set_option maxHeartbeats 1000000 in
/-- mayBe -/
theorem maybe_ok (t : Tok) (w : World) : Calls Try.prog 34 #[.agg #[.int .i64 t.n, .int .i64 t.d, .int .u8 (t.b : Int)]] w fun e w' => (e = .returned (.bool true) ∧ t.May ∨ e = .returned (.bool false) ∧ ¬ t.May) ∧ Below w.heap.size w w' := by
  obtain ⟨n, d, b⟩ := t
  have HM : Hid (Tok.May ⟨n, d, b⟩ ↔ (n = 0 ∧ d = 0) ∨ (1 ≤ n ∧ 1 ≤ d ∧ b = 0)) := hide Iff.rfl
  have HB : ∀ o, Hid (Below w.heap.size w (w.alloc o)) := fun o => hide ((Below.refl _ _).alloc (Nat.le_refl _) _)
  show Calls Try.prog 34 #[.agg #[.int .i64 n, .int .i64 d, .int .u8 (b : Int)]] w _
  by_cases h0 : n = 0
  · subst h0
    by_cases h1 : d = 0
    · subst h1
      go_enter Try.func34, Try.ntmps34
      go_wp2_with fail
      go_ret
      exact ⟨.inl ⟨by first | rfl | trivial, (unhide HM).2 (.inl (by simp))⟩, unhide (HB _)⟩
    · have e1 : (d == 0) = false := by simpa using h1
      go_enter Try.func34, Try.ntmps34
      go_wp2_with fail
      go_ret
      exact ⟨.inr ⟨rfl, fun h => by rcases (unhide HM).1 h with h | h <;> omega⟩, unhide (HB _)⟩
  · have e0 : (n == 0) = false := by simpa using h0
    by_cases h1 : 0 < n
    · by_cases h2 : 0 < d
      · by_cases h3 : b = 0
        · have e3 : ((b : Int) == 0) = true := by simp [h3]
          go_enter Try.func34, Try.ntmps34
          go_wp2_with fail
          go_ret
          exact ⟨.inl ⟨rfl, (unhide HM).2 (.inr ⟨by omega, by omega, h3⟩)⟩, unhide (HB _)⟩
        · have e3 : ((b : Int) == 0) = false := by simp; omega
          go_enter Try.func34, Try.ntmps34
          go_wp2_with fail
          go_ret
          exact ⟨.inr ⟨rfl, fun h => by rcases (unhide HM).1 h with h | h <;> omega⟩, unhide (HB _)⟩
      · go_enter Try.func34, Try.ntmps34
        go_wp2_with fail
        go_ret
        exact ⟨.inr ⟨rfl, fun h => by rcases (unhide HM).1 h with h | h <;> omega⟩, unhide (HB _)⟩
    · go_enter Try.func34, Try.ntmps34
      go_wp2_with fail
      go_ret
      exact ⟨.inr ⟨rfl, fun h => by rcases (unhide HM).1 h with h | h <;> omega⟩, unhide (HB _)⟩

set_option maxRecDepth 100000 in
set_option maxHeartbeats 1000000 in
/-- may -/
theorem may_ok (t : Tok) (w : World) : Calls Try.prog 26 #[.agg #[.int .i64 t.n, .int .i64 t.d, .int .u8 (t.b : Int)]] w fun e w' => (e = .returned (.bool true) ∧ t.May ∨ e = .returned (.bool false) ∧ ¬ t.May) ∧ Below w.heap.size w w' := by
  obtain ⟨n, d, b⟩ := t
  have HM : Hid (Tok.May ⟨n, d, b⟩ ↔ (n = 0 ∧ d = 0) ∨ (1 ≤ n ∧ 1 ≤ d ∧ b = 0)) := hide Iff.rfl
  have HB : ∀ o, Hid (Below w.heap.size w (w.alloc o)) := fun o => hide ((Below.refl _ _).alloc (Nat.le_refl _) _)
  show Calls Try.prog 26 #[.agg #[.int .i64 n, .int .i64 d, .int .u8 (b : Int)]] w _
  by_cases h0 : n = 0
  · subst h0
    by_cases h1 : d = 0
    · subst h1
      go_enter Try.func26, Try.ntmps26
      go_wp2_with fail
      go_ret
      exact ⟨.inl ⟨by first | rfl | trivial, (unhide HM).2 (.inl (by simp))⟩, unhide (HB _)⟩
    · have e1 : (d == 0) = false := by simpa using h1
      go_enter Try.func26, Try.ntmps26
      go_wp2_with fail
      go_ret
      exact ⟨.inr ⟨rfl, fun h => by rcases (unhide HM).1 h with h | h <;> omega⟩, unhide (HB _)⟩
  · have e0 : (n == 0) = false := by simpa using h0
    by_cases h1 : 1 ≤ n
    · by_cases h2 : 1 ≤ d
      · by_cases h3 : b = 0
        · have e3 : ((b : Int) == 0) = true := by simp [h3]
          go_enter Try.func26, Try.ntmps26
          go_wp2_with fail
          go_ret
          exact ⟨.inl ⟨rfl, (unhide HM).2 (.inr ⟨by omega, by omega, h3⟩)⟩, unhide (HB _)⟩
        · have e3 : ((b : Int) == 0) = false := by simp; omega
          go_enter Try.func26, Try.ntmps26
          go_wp2_with fail
          go_ret
          exact ⟨.inr ⟨rfl, fun h => by rcases (unhide HM).1 h with h | h <;> omega⟩, unhide (HB _)⟩
      · go_enter Try.func26, Try.ntmps26
        go_wp2_with fail
        go_ret
        exact ⟨.inr ⟨rfl, fun h => by rcases (unhide HM).1 h with h | h <;> omega⟩, unhide (HB _)⟩
    · go_enter Try.func26, Try.ntmps26
      go_wp2_with fail
      go_ret
      exact ⟨.inr ⟨rfl, fun h => by rcases (unhide HM).1 h with h | h <;> omega⟩, unhide (HB _)⟩

end Go.Proofs.Ytabnfnejlffioaa
