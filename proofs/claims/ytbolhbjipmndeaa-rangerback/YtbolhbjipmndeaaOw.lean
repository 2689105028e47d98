/- Rows that a call handed out; spoilt and same. -/
import Derived.Test.YtbolhbjipmndeaaPc
import Derived.Test.YtbolhbjipmndeaaPy
import Derived.Deep.MidRow
import Derived.Laws.BytesString
import Derived.Laws.IdiomStrings
import Derived.BigQuiet
namespace Go.Proofs.Ytbolhbjipmndeaa.D
open Go.RowKit Rang
attribute [local go_sem ↓] Go.wp_at_zero Go.wp_at_succ
set_option maxRecDepth 100000
set_option linter.unusedVariables false

/-- numbers that lie in a block of one's own, from lo on and ahead of hi -/
def Row (lo hi : Nat) (w : World) (v : Value) (k : IntKind) (t : TypeId) (l : List Nat) : Prop :=
  ∃ a cap, v = .slice a l.length cap ∧ (0 < l.length → ∃ g cs, a = some ⟨g, 0, none⟩ ∧ lo ≤ g ∧ g < hi ∧ w.heap[g]? = some (.cells cs t (0, 0)) ∧ ∀ j, j < l.length → cs[j]? = some (.int k ((l.getD j 0 : Nat) : Int)))

/-- nothing has changed but blocks from lo on and ahead of hi -/
structure Chg (lo hi : Nat) (w w' : World) : Prop where
  os : w'.os = w.os
  tape : w'.tape = w.tape
  output : w'.output = w.output
  size : w.heap.size ≤ w'.heap.size
  keep : ∀ k, k < w.heap.size → (k < lo ∨ hi ≤ k) → w'.heap[k]? = w.heap[k]?

theorem Chg.refl (lo hi : Nat) (w : World) : Chg lo hi w w := ⟨rfl, rfl, rfl, Nat.le_refl _, fun _ _ _ => rfl⟩

theorem Chg.below {lo hi B : Nat} {w0 w w' : World} (h : Chg lo hi w w') (hb : Below B w0 w) (hB : B ≤ lo) (hs : B ≤ w.heap.size) : Below B w0 w' :=
  ⟨h.os.trans hb.os, h.tape.trans hb.tape, h.output.trans hb.output, Nat.le_trans hb.size h.size, fun k hk => by rw [h.keep k (by omega) (.inl (by omega))]; exact hb.block k hk⟩

theorem Row.of_below {lo hi : Nat} {w w' : World} {v : Value} {k : IntKind} {t : TypeId} {l : List Nat} (h : Row lo hi w v k t l) (hb : Below w.heap.size w w') : Row lo hi w' v k t l := by
  obtain ⟨a, cap, rfl, hs⟩ := h
  refine ⟨a, cap, rfl, fun h0 => ?_⟩
  obtain ⟨g, cs, e, h1, h2, h3, h4⟩ := hs h0
  exact ⟨g, cs, e, h1, h2, by rw [hb.block g (heap_lt h3)]; exact h3, h4⟩

theorem Row.of_chg {lo hi lo' hi' : Nat} {w w' : World} {v : Value} {k : IntKind} {t : TypeId} {l : List Nat} (h : Row lo hi w v k t l) (hb : Chg lo' hi' w w') (hd : hi ≤ lo' ∨ hi' ≤ lo) : Row lo hi w' v k t l := by
  obtain ⟨a, cap, rfl, hs⟩ := h
  refine ⟨a, cap, rfl, fun h0 => ?_⟩
  obtain ⟨g, cs, e, h1, h2, h3, h4⟩ := hs h0
  exact ⟨g, cs, e, h1, h2, by rw [hb.keep g (heap_lt h3) (by omega)]; exact h3, h4⟩

theorem Row.wide {lo hi lo' hi' : Nat} {w : World} {v : Value} {k : IntKind} {t : TypeId} {l : List Nat} (h : Row lo hi w v k t l) (h1 : lo' ≤ lo) (h2 : hi ≤ hi') : Row lo' hi' w v k t l := by
  obtain ⟨a, cap, rfl, hs⟩ := h
  refine ⟨a, cap, rfl, fun h0 => ?_⟩
  obtain ⟨g, cs, e, h3, h4, h5⟩ := hs h0
  exact ⟨g, cs, e, by omega, by omega, h5⟩

theorem Row.nil (lo hi : Nat) (w : World) (k : IntKind) (t : TypeId) : Row lo hi w (.slice none 0 0) k t [] := ⟨none, 0, rfl, fun h => by simp at h⟩

theorem row_own {base size n : Nat} {w : World} {v : Value} {k : IntKind} {t : TypeId} {l : List Nat} (hs : size = 1) (h : w.ownsRow base t size v l.length (l.map fun i : Nat => Value.int k (i : Int))) : Row base w.heap.size w v k t l := by
  subst hs
  rcases h.2 with ⟨e1, e2⟩ | ⟨g, cap, cur, e1, hb, hg, hn, _, _, ht⟩
  · exact ⟨none, 0, by rw [e1, e2], fun h0 => by omega⟩
  · refine ⟨_, cap, e1, fun h0 => ⟨g, cur, rfl, hb, heap_lt hg, hg, fun j hj => ?_⟩⟩
    have hx : (l.map fun i : Nat => Value.int k (i : Int))[j]? = some (.int k ((l.getD j 0 : Nat) : Int)) := by
      simp [List.getElem?_map, List.getElem?_eq_getElem hj, List.getD_eq_getElem?_getD]
    rw [← ht, List.getElem?_take] at hx
    split at hx
    · simpa using hx
    · cases hx

def bs (zs : List Nat) : ByteArray := ⟨(zs.map UInt8.ofNat).toArray⟩

theorem bs_append (a b : List Nat) : bs a ++ bs b = bs (a ++ b) := by
  apply ByteArray.ext
  rw [ByteArray.data_append]
  simp [bs]

theorem bs_size (zs : List Nat) : (bs zs).size = zs.length := by simp [bs, ByteArray.size]

/-- A slice value that reads as the bytes zs. -/
def Reads (w : World) (v : Value) (zs : List Nat) : Prop :=
  ∃ a cap, v = .slice a zs.length cap ∧ (0 < zs.length → ∃ ad, a = some ad ∧ ∀ (j : Nat) u, (zs.map bv)[j]? = some u → w.cell? (ad.add j) = some u)

theorem conv_zero (w : World) (a : Option Addr) (cap : Nat) : (convert 32 9 (.slice a 0 cap)).run Try.prog w = .ok (.string ⟨#[]⟩) w := by
  rw [run_convert_bytes_string w 32 9 5 a 0 cap Try.underlying32 Try.underlying5 Try.underlying9]
  cases a <;> simp [Conv.bytesToString, loadCells] <;> rfl

theorem conv_reads {w : World} {v : Value} {zs : List Nat} (h : Reads w v zs) (hs : ∀ z ∈ zs, z < 256) : (convert 32 9 v).run Try.prog w = .ok (.string (bs zs)) w := by
  by_cases h0 : zs.length = 0
  · obtain ⟨a, cap, rfl, _⟩ := h
    obtain rfl : zs = [] := List.eq_nil_of_length_eq_zero h0
    exact conv_zero w a cap
  · obtain ⟨a, cap, rfl, hc⟩ := h
    obtain ⟨ad, rfl, hc2⟩ := hc (by omega)
    have := run_convert_bytes_back w 32 9 5 ad cap (zs.map UInt8.ofNat) Try.underlying32 Try.underlying5 Try.underlying9 (by
      intro j hj
      simp at hj
      have hzj := hs zs[j] (List.getElem_mem hj)
      rw [hc2 j (bv zs[j]) (by simp [hj])]
      simp [bv, Nat.mod_eq_of_lt hzj])
    simpa [bs] using this

theorem Row.reads {lo hi : Nat} {w : World} {v : Value} {l : List Nat} (h : Row lo hi w v .u8 5 l) : Reads w v l := by
  obtain ⟨a, cap, rfl, hs⟩ := h
  refine ⟨a, cap, rfl, fun h0 => ?_⟩
  obtain ⟨g, cs, rfl, _, _, h3, h4⟩ := hs h0
  refine ⟨_, rfl, fun j u hj => ?_⟩
  have hjl : j < l.length := by have := (List.getElem?_eq_some_iff.1 hj).1; simpa using this
  have e : (⟨g, 0, none⟩ : Addr).add j = ⟨g, j, none⟩ := by rw [Addr.add_mid, Nat.zero_add]
  rw [e]
  have := h4 j hjl
  simp only [World.cell?, h3]
  rw [List.getElem?_map, List.getElem?_eq_getElem hjl, Option.map_some] at hj
  rw [← hj]
  simpa [bv, List.getD_eq_getElem?_getD, List.getElem?_eq_getElem hjl] using this

/-- cells from a place on -/
def CellsFrom (w : World) (g : Nat) (k : IntKind) (t : TypeId) (l : List Nat) (i : Nat) : Prop := ∃ cs, w.heap[g]? = some (.cells cs t (0, 0)) ∧ ∀ j, i ≤ j → j < l.length → cs[j]? = some (.int k ((l.getD j 0 : Nat) : Int))

theorem CellsFrom.cell {w : World} {g : Nat} {k : IntKind} {t : TypeId} {l : List Nat} {i : Nat} (h : CellsFrom w g k t l i) (hi : i < l.length) : w.cell? ⟨g, i, none⟩ = some (.int k ((l.getD i 0 : Nat) : Int)) ∧ w.frozen? ⟨g, i, none⟩ = false := by
  obtain ⟨cs, h1, h2⟩ := h
  have := h2 i (Nat.le_refl _) hi
  exact ⟨by simp only [World.cell?, h1]; exact this, by simp [World.frozen?, h1]⟩

theorem CellsFrom.set {w : World} {g : Nat} {k : IntKind} {t : TypeId} {l : List Nat} {i : Nat} (h : CellsFrom w g k t l i) (v : Value) : CellsFrom (w.setCell ⟨g, i, none⟩ v) g k t l (i + 1) := by
  obtain ⟨cs, h1, h2⟩ := h
  refine ⟨_, heap_setCell_same w g i cs t v h1, fun j hj hl => ?_⟩
  rw [Array.getElem?_setIfInBounds_ne (by omega)]
  exact h2 j (by omega) hl

theorem Chg.set {lo hi g : Nat} {w w' : World} (h : Chg lo hi w w') (i : Nat) (v : Value) (h1 : lo ≤ g) (h2 : g < hi) : Chg lo hi w (w'.setCell ⟨g, i, none⟩ v) :=
  ⟨h.os, h.tape, h.output, by simpa using h.size, fun k hk hd => by rw [heap_setCell_other _ _ _ _ (by show k ≠ g; omega)]; exact h.keep k hk hd⟩

set_option maxHeartbeats 2000000 in
theorem spoilt_ok (lo hi lo' hi' : Nat) (vx vw : Value) (l : List Nat) (w : World) (hx : Row lo hi w vx .u8 5 l) (hw : Row lo' hi' w vw .u8 5 l) (hl : ∀ z ∈ l, z < 256) (hn : l.length ≤ 100000000000000) :
    Calls Try.prog 11 #[vx, vw] w fun e w' => e = .returned (.bool true) ∧ Chg lo hi w w' := by
  have c1 := conv_reads hx.reads hl
  have c2 := conv_reads hw.reads hl
  obtain ⟨a, cap, rfl, hs⟩ := hx
  obtain ⟨a', cap', rfl, _⟩ := hw
  obtain ⟨n, hN⟩ : ∃ n, n = l.length := ⟨_, rfl⟩
  have HN := hide hN
  have HL := hide hl
  rw [← hN] at c1 c2 hn ⊢
  have HS := hide hs
  clear hN hs hl
  go_enter Try.func11, Try.ntmps11
  go_wp2_with fail
  clear c1 c2
  go_loopg [5] n (fun gk c ws => ∃ i : Nat, gk = n - i ∧ i ≤ n ∧ c = .int .i64 (i : Int) ∧ Hid (Chg lo hi w ws ∧ ∀ g, (0 < n → a = some ⟨g, 0, none⟩) → 0 < n → CellsFrom ws g .u8 5 l i))
  case atStart =>
    refine ⟨0, by omega, by omega, rfl, hide ⟨Chg.refl _ _ _, fun g hg h0 => ?_⟩⟩
    obtain ⟨g', cs, e, _, _, h3, h4⟩ := unhide HS (by rw [← unhide HN]; exact h0)
    rw [hg h0] at e
    injection e with e
    injection e with e
    subst e
    exact ⟨cs, h3, fun j _ hj => h4 j hj⟩
  case round =>
    obtain ⟨i, rfl, hin, rfl, HI⟩ := hrel
    rename World => wi
    by_cases hil : i < n
    · have ti : (i : Int) < (n : Int) := by omega
      obtain ⟨g, cs, rfl, hg1, hg2, _, _⟩ := unhide HS (by rw [← unhide HN]; omega)
      obtain ⟨d1, d2⟩ := ((unhide HI).2 g (fun _ => rfl) (by omega)).cell (by rw [← unhide HN]; exact hil)
      generalize l.getD i 0 = x at *
      go_wp2_with fail
      go_roundg (n - (i + 1))
      case measure => omega
      case rel =>
        refine ⟨i + 1, rfl, by omega, by go_num, hide ⟨(unhide HI).1.set i _ hg1 hg2, fun g' hg' h0 => ?_⟩⟩
        have e := hg' h0
        injection e with e
        injection e with e
        subst e
        exact ((unhide HI).2 g (fun _ => rfl) h0).set _
    · obtain rfl : i = n := by omega
      have ti : ¬ (i : Int) < (i : Int) := by omega
      go_wp2_with fail
      go_ret
      exact ⟨rfl, (unhide HI).1⟩

theorem drewN_chg {lo hi : Nat} {w w' : World} (h : Chg lo hi w w') (q : Nat) : Chg lo hi w (w'.drewN q) := ⟨h.os, h.tape, h.output, h.size, h.keep⟩

set_option maxHeartbeats 2000000 in
theorem same_ok (lo hi lo' hi' : Nat) (vx vw : Value) (l : List Nat) (w : World) (hx : Row lo hi w vx .i64 3 l) (hw : Row lo' hi' w vw .i64 3 l) (hd : hi ≤ lo' ∨ hi' ≤ lo) (hn : l.length ≤ 100000000000000) :
    Calls Try.prog 14 #[vx, vw] w fun e w' => e = .returned (.bool true) ∧ Chg lo hi w w' := by
  obtain ⟨a, cap, rfl, hs⟩ := hx
  obtain ⟨a', cap', rfl, hs'⟩ := hw
  obtain ⟨n, hN⟩ : ∃ n, n = l.length := ⟨_, rfl⟩
  have HN := hide hN
  rw [← hN] at hn ⊢
  have HS := hide hs
  have HS' := hide hs'
  clear hN hs hs'
  go_enter Try.func14, Try.ntmps14
  go_wp2_with fail
  go_loopg [5] n (fun gk c ws => ∃ i : Nat, gk = n - i ∧ i ≤ n ∧ c = .int .i64 (i : Int) ∧ Hid (Chg lo hi w ws ∧ ∀ g, (0 < n → a = some ⟨g, 0, none⟩) → 0 < n → CellsFrom ws g .i64 3 l i))
  case atStart =>
    refine ⟨0, by omega, by omega, rfl, hide ⟨Chg.refl _ _ _, fun g hg h0 => ?_⟩⟩
    obtain ⟨g', cs, e, _, _, h3, h4⟩ := unhide HS (by rw [← unhide HN]; exact h0)
    rw [hg h0] at e
    injection e with e
    injection e with e
    subst e
    exact ⟨cs, h3, fun j _ hj => h4 j hj⟩
  case round =>
    obtain ⟨i, rfl, hin, rfl, HI⟩ := hrel
    rename World => wi
    by_cases hil : i < n
    · have ti : (i : Int) < (n : Int) := by omega
      obtain ⟨g, cs, rfl, hg1, hg2, _, _⟩ := unhide HS (by rw [← unhide HN]; omega)
      obtain ⟨g', cs', rfl, hg1', hg2', hcs1, hcs2⟩ := unhide HS' (by rw [← unhide HN]; omega)
      obtain ⟨d1, d2⟩ := ((unhide HI).2 g (fun _ => rfl) (by omega)).cell (by rw [← unhide HN]; exact hil)
      have d3 : wi.cell? ⟨g', i, none⟩ = some (.int .i64 ((l.getD i 0 : Nat) : Int)) := by
        have h1 := (unhide HI).1.keep g' (heap_lt hcs1) (by omega)
        simp only [World.cell?, h1, hcs1]
        exact hcs2 i (by rw [← unhide HN]; exact hil)
      generalize l.getD i 0 = x at *
      clear hcs1 hcs2
      have e1 : ((x : Int) != (x : Int)) = false := by simp
      go_wp2_with fail
      go_quiet (fail)
      go_wp2_with fail
      go_roundg (n - (i + 1))
      case measure => omega
      case rel =>
        refine ⟨i + 1, rfl, by omega, by go_num, hide ⟨(drewN_chg (unhide HI).1 nq).set i _ hg1 hg2, fun g'' hg'' h0 => ?_⟩⟩
        have e := hg'' h0
        injection e with e
        injection e with e
        subst e
        have h2 : CellsFrom (wi.drewN nq) g .i64 3 l i := (unhide HI).2 g (fun _ => rfl) h0
        exact h2.set _
    · obtain rfl : i = n := by omega
      have ti : ¬ (i : Int) < (i : Int) := by omega
      go_wp2_with fail
      go_ret
      exact ⟨rfl, (unhide HI).1⟩

end Go.Proofs.Ytbolhbjipmndeaa.D
