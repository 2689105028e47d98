/-
  What the calls of a writer of bits do: Put, Len, Bytes, New.
-/
import Derived.Test.YtclccccodeekmaaFill
import Derived.Laws.CopyOwn
import Derived.Laws.IdiomStrings
import Derived.BigQuiet
import Derived.Deep.QuietTactic
namespace Go.Proofs.Ytclccccodeekmaa
open Go.RowKit Mth

set_option maxHeartbeats 400000 in
theorem good_yes (pb : Nat) (w : World) (h : w.cell? ⟨pb, 0, none⟩ = some (.bool true)) :
    Calls Try.prog 38 #[.pointer (some ⟨pb, 0, none⟩)] w fun e w' => e = .returned (.bool true) ∧ w' = w := by
  go_enter Try.func38, Try.ntmps38
  go_wp2
  go_ret
  exact ⟨rfl, rfl⟩

set_option maxHeartbeats 400000 in
theorem new_any (high : Bool) (w : World) :
    Calls Try.prog 16 #[.bool high] w fun e w' => e = .returned (.pointer (some ⟨w.heap.size, 0, none⟩)) ∧ w' = w.alloc (.cells #[.bool true, .bool high, .slice none 0 0, .int .i64 0] 76) := by
  go_enter Try.func16, Try.ntmps16
  go_wp2
  go_ret
  exact ⟨rfl, rfl⟩

theorem new_ok (high : Bool) (w : World) : WOk (w.alloc (.cells #[.bool true, .bool high, .slice none 0 0, .int .i64 0] 76)) w.heap.size high (.slice none 0 0) 0 [] 0 :=
  ⟨heap_alloc_new w _, by simpa [pk] using World.ownsRow_nil _ _ _ _, rfl⟩

theorem shr_zero (V N : Nat) (h : V < 2 ^ N) : ((V : Int) / 2 ^ N != 0) = false := by
  rw [show ((V : Int) / 2 ^ N) = ((V / 2 ^ N : Nat) : Int) by simp, Nat.div_eq_of_lt h]
  rfl

set_option maxHeartbeats 1000000 in
theorem put_ok (pb m f : Nat) (high : Bool) (v0 : Value) (L : List Bool) (V n : Int) (w : World) (hw : WOk w pb high v0 m L f) (hf : f ≤ 7) (hn0 : 0 ≤ n) (hn : n ≤ 64) (hV0 : 0 ≤ V) (hV : V.toNat < 2 ^ n.toNat) (hb : L.length + n.toNat ≤ 1000000000000000) :
    Calls Try.prog 36 #[.pointer (some ⟨pb, 0, none⟩), .int .u64 V, .int .i64 n] w fun e w' => e = .returned (.int .i64 0) ∧ ∃ v' m' f', WOk w' pb high v' m' (L ++ bitsOf high V.toNat n.toNat) f' ∧ f' ≤ 7 ∧ Chg pb v0 w v' w' := by
  obtain ⟨V, rfl⟩ := Int.eq_ofNat_of_zero_le hV0
  obtain ⟨N, rfl⟩ := Int.eq_ofNat_of_zero_le hn0
  simp only [Int.toNat_natCast] at *
  have hsh := shr_zero V N hV
  have hN0 : decide ((N : Int) < 0) = false := by simp
  have hN1 : decide (64 < (N : Int)) = false := by simp; omega
  have c0 := hw.c0
  have HW := hide hw
  clear hw hV
  go_enter Try.func36, Try.ntmps36
  go_wp2_with (first | (go_at_call 38; refine (good_yes _ _ (by assumption)).mono ?_; rintro e w' ⟨rfl, rfl⟩) | (go_at_call 46; go_must (refine (fill_any pb m f high v0 L V N _ (unhide HW) hf (by omega) hb).mono ?_; rintro e w' ⟨rfl, hq⟩; have HQ := hide hq; clear hq)))
  go_ret
  exact ⟨rfl, unhide HQ⟩

set_option maxHeartbeats 1000000 in
theorem len_ok (pb m f : Nat) (high : Bool) (v0 : Value) (L : List Bool) (w : World) (hw : WOk w pb high v0 m L f) (hb : L.length ≤ 1000000000000000) (hf : f ≤ 7) :
    Calls Try.prog 26 #[.pointer (some ⟨pb, 0, none⟩)] w fun e w' => e = .returned (.int .i64 (L.length : Int)) ∧ ∃ n, w' = w.drewN n := by
  have c0 := hw.c0
  have c2 := hw.c2
  have c3 := hw.c3
  have hl := hw.len
  obtain ⟨a, c, e⟩ : ∃ a c, v0 = .slice a m c := by
    rcases hw.row.2 with ⟨e, e'⟩ | ⟨g, cap, _, e, _⟩
    · exact ⟨_, 0, by rw [e, e']⟩
    · exact ⟨_, _, e⟩
  have hlz : (L.length : Int) = 8 * (m : Int) - f := by omega
  rw [hlz]
  clear hlz
  subst e
  have hm : (m : Int) ≤ 1000000000000000 := by omega
  clear hl hw
  go_enter Try.func26, Try.ntmps26
  go_wp2_with (first | (go_at_call 38; refine (good_yes _ _ (by assumption)).mono ?_; rintro e w' ⟨rfl, rfl⟩))
  go_quiet (fail)
  go_wp2
  go_ret
  exact ⟨rfl, nq, rfl⟩

/-- A slice value that reads as the bytes zs. -/
def Reads (w : World) (v : Value) (zs : List Nat) : Prop :=
  ∃ a cap, v = .slice a zs.length cap ∧ (0 < zs.length → ∃ ad, a = some ad ∧ ∀ (j : Nat) u, (zs.map bv)[j]? = some u → w.cell? (ad.add j) = some u)

theorem size5 : (Try.prog.info? 5).map (·.size) = some 1 := by kernel_rfl

theorem ownsRow_heap {w : World} {base e n g cap : Nat} {xs : List Value} (h : w.ownsRow base e 1 (.slice (some ⟨g, 0, none⟩) n cap) n xs) (hc : cap = n) : w.heap[g]? = some (.cells xs.toArray e (0, 0)) ∧ base ≤ g := by
  obtain ⟨hl, hr⟩ := h
  rcases hr with ⟨e, _⟩ | ⟨g', cap', cur, e, hb, hh, hn, hcc, hs, ht⟩
  · cases e
  · injection e with e1 e2 e3
    injection e1 with e1
    injection e1 with e1
    subst e1 e3 hc
    rw [hh, ← ht, List.take_of_length_le (by simp [hs])]
    exact ⟨rfl, hb⟩

theorem cell_lt {w : World} {p : Addr} {u : Value} (h : w.cell? p = some u) : p.block < w.heap.size := by
  rcases Nat.lt_or_ge p.block w.heap.size with h' | h'
  · exact h'
  · simp [World.cell?, Array.getElem?_eq_none h'] at h

theorem cell_stays {w w1 : World} (hb : Below w.heap.size w w1) {p : Addr} {u : Value} (h : w.cell? p = some u) : w1.cell? p = some u := by
  rw [hb.cell (cell_lt h)]; exact h

theorem Reads.stays {w w1 : World} (hb : Below w.heap.size w w1) {v : Value} {zs : List Nat} (h : Reads w v zs) : Reads w1 v zs := by
  obtain ⟨a, cap, rfl, hs⟩ := h
  refine ⟨a, cap, rfl, fun h0 => ?_⟩
  obtain ⟨ad, rfl, h2⟩ := hs h0
  exact ⟨ad, rfl, fun j u hj => cell_stays hb (h2 j u hj)⟩

theorem splice_all (xs zs : List Value) (h : xs.length = zs.length) : splice xs 0 zs = zs := by
  simp [splice, h]

set_option maxHeartbeats 1000000 in
theorem fresh_any (v : Value) (zs : List Nat) (w : World) (hr : Reads w v zs) (hn : zs.length ≤ 140737488355328) :
    Calls Try.prog 39 #[v] w fun e w' => e = .returned (.slice (some ⟨w.heap.size, 0, none⟩) zs.length zs.length) ∧ w'.heap[w.heap.size]? = some (.cells (zs.map bv).toArray 5 (0, 0)) ∧ Below w.heap.size w w' := by
  obtain ⟨a, cap, rfl, hsrc⟩ := hr
  obtain ⟨i0, hi, hz0, hz1, hz2⟩ := info_parts info5
  have HS := hide hsrc
  clear hsrc
  go_enter Try.func39, Try.ntmps39
  go_wp2_with (first | (at_make; go_must (refine wpList_make_full _ rfl _ _ 45 rfl w.heap.size 5 i0 (.int .u8 0) 1 Try.underlying45 hi hz0 hz1 _ _ _ _ zs.length rfl rfl (by omega) (by omega) (by rw [hz2]; omega) (by unfold maxLen; omega) (Nat.le_refl _) ?_; intro w1 hown hgrow; have HO := hide (ownsRow_heap hown rfl).1; have HB := hide ((Below.refl w.heap.size w).grown hgrow (Nat.le_refl _) (by intro k h; cases h)); clear hown hgrow)) | (refine wpList_copy_splice rfl (.tmp 7) (.tmp 8) 45 45 rfl 5 Try.underlying45 size5 _ _ _ _ _ _ (by rfl) (by rfl) w.heap.size 0 _ 5 (unhide HO) (zs.map bv) (by simp) (fun h0 => ⟨rfl, by obtain ⟨ad, e, h2⟩ := unhide HS (by simpa using h0); exact ⟨ad, e, fun j u hj => cell_stays (unhide HB) (h2 j u hj)⟩⟩) (by simp [madeCells]) (by intro u hu; simp at hu; obtain ⟨z, _, rfl⟩ := hu; rfl) w.heap.size w (unhide HB) (Nat.le_refl _) ?_; intro w2 H2 hb2))
  go_ret
  refine ⟨rfl, ?_, hb2⟩
  rw [unhide H2, splice_all _ _ (by simp [madeCells])]

theorem WOk.reads {w : World} {pb : Nat} {high : Bool} {v : Value} {m : Nat} {L : List Bool} {f : Nat} (h : WOk w pb high v m L f) : Reads w v (pk high m L) := by
  have hr := h.row
  rcases hr.2 with ⟨e, e'⟩ | ⟨g, cap, cur, e, _⟩
  · refine ⟨none, 0, ?_, fun h0 => ?_⟩
    · rw [e, pk_length, e']
    · rw [pk_length, e'] at h0; omega
  · refine ⟨some ⟨g, 0, none⟩, cap, by rw [e, pk_length], fun _ => ⟨_, rfl, ?_⟩⟩
    exact hr.cells (by rw [e]; rfl)

set_option maxHeartbeats 1000000 in
theorem bytes_ok (pb m f : Nat) (high : Bool) (v0 : Value) (L : List Bool) (w : World) (hw : WOk w pb high v0 m L f) (hb : m ≤ 140737488355328) :
    Calls Try.prog 19 #[.pointer (some ⟨pb, 0, none⟩)] w fun e w' => e = .returned (.slice (some ⟨w.heap.size, 0, none⟩) m m) ∧ w'.heap[w.heap.size]? = some (.cells ((pk high m L).map bv).toArray 5 (0, 0)) ∧ Below w.heap.size w w' := by
  have c0 := hw.c0
  have c2 := hw.c2
  have HR := hide hw.reads
  have hl := pk_length high m L
  generalize pk high m L = zs at HR hl
  subst hl
  clear hw
  go_enter Try.func19, Try.ntmps19
  go_wp2_with (first | (go_at_call 38; refine (good_yes _ _ (by assumption)).mono ?_; rintro e w' ⟨rfl, rfl⟩) | (go_at_call 39; go_must (refine (fresh_any _ zs _ (unhide HR) hb).mono ?_; rintro e w1 ⟨rfl, h1, h2⟩; have H1 := hide h1; have H2 := hide h2; clear h1 h2)))
  go_ret
  exact ⟨rfl, unhide H1, unhide H2⟩

theorem WOk.alloc {w : World} {pb : Nat} {high : Bool} {v : Value} {m : Nat} {L : List Bool} {f : Nat} (h : WOk w pb high v m L f) (o : Obj) : WOk (w.alloc o) pb high v m L f :=
  ⟨by rw [Below.heap_alloc _ _ _ h.lt]; exact h.blk, h.row.alloc o, h.len⟩

/-- A writer stands as it was, where blocks of others alone were written. -/
theorem WOk.keep {w w' : World} {pb : Nat} {high : Bool} {v : Value} {m : Nat} {L : List Bool} {f : Nat} (h : WOk w pb high v m L f) (h1 : w'.heap[pb]? = w.heap[pb]?) (h2 : ∀ g, v.ownBlock = some g → w'.heap[g]? = w.heap[g]?) : WOk w' pb high v m L f := by
  refine ⟨by rw [h1]; exact h.blk, ?_, h.len⟩
  obtain ⟨hl, hr⟩ := h.row
  refine ⟨hl, ?_⟩
  rcases hr with e | ⟨g, cap, cur, e, hb, hh, r⟩
  · exact .inl e
  · exact .inr ⟨g, cap, cur, e, hb, by rw [h2 g (by rw [e]; rfl)]; exact hh, r⟩

theorem Chg.below {pb B : Nat} {v0 v : Value} {w0 w : World} (h : Chg pb v0 w0 v w) (hl : pb < w0.heap.size) (hB : B ≤ pb) (hv : ∀ g, v0.ownBlock = some g → B ≤ g) : Below B w0 w :=
  ⟨h.os, h.tape, h.output, h.size, fun k hk => h.keep k (by omega) (by omega) (fun e => by have := hv k e; omega)⟩

theorem conv_run (w : World) (g cap : Nat) (zs : List Nat) (hz : ∀ z ∈ zs, z < 256) (h : w.heap[g]? = some (.cells (zs.map bv).toArray 5 (0, 0))) :
    (convert 45 9 (.slice (some ⟨g, 0, none⟩) zs.length cap)).run Try.prog w = .ok (.string ⟨(zs.map UInt8.ofNat).toArray⟩) w := by
  have := run_convert_bytes_back w 45 9 5 ⟨g, 0, none⟩ cap (zs.map UInt8.ofNat) Try.underlying45 Try.underlying5 Try.underlying9 (by
    intro j hj
    simp at hj
    have hzj := hz zs[j] (List.getElem_mem hj)
    have e : (⟨g, 0, none⟩ : Addr).add j = ⟨g, j, none⟩ := by by_cases hq : j = 0 <;> simp [Addr.add, hq]
    rw [e]
    simp [World.cell?, h, hj, bv, Nat.mod_eq_of_lt hzj])
  simpa using this

theorem heap_lt {w : World} {k : Nat} {o : Obj} (h : w.heap[k]? = some o) : k < w.heap.size := by
  rcases Nat.lt_or_ge k w.heap.size with h' | h'
  · exact h'
  · rw [Array.getElem?_eq_none h'] at h; cases h

theorem pk_lt (high : Bool) (m : Nat) (L : List Bool) : ∀ z ∈ pk high m L, z < 256 := by
  intro z hz
  simp [pk] at hz
  obtain ⟨i, _, rfl⟩ := hz
  exact octet_lt _ _ _

end Go.Proofs.Ytclccccodeekmaa
