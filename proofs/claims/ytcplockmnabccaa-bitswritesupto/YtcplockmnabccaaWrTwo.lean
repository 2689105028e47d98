/-
  What the calls of a writer of bits do besides: Align and PutBytes.
-/
import Derived.Test.YtcplockmnabccaaRef
import Derived.Test.YtcplockmnabccaaWriteMath
import Derived.Laws.AppendOwnNone
import Derived.Maps.AppendAt
namespace Go.Proofs.Ytcplockmnabccaa
open Go.RowKit Mth

theorem WOk.pad {w : World} {pb : Nat} {high : Bool} {v : Value} {m f : Nat} {L : List Bool} (h : WOk w pb high v m L f) :
    WOk (w.setCell ⟨pb, 3, none⟩ (.int .i64 0)) pb high v m (L ++ List.replicate f false) 0 ∧ Chg pb v w v (w.setCell ⟨pb, 3, none⟩ (.int .i64 0)) := by
  have hl := h.len
  refine ⟨⟨?_, ?_, by simp; omega⟩, ⟨rfl, rfl, rfl, by simp, fun k _ hne _ => heap_setCell_other _ _ _ _ (by exact hne), .inl rfl⟩⟩
  · rw [heap_setCell_same _ pb 3 _ _ _ h.blk]; simp
  · rw [pk_pad]
    exact own_keep h.row (fun g e => heap_setCell_other _ _ _ _ (by show g ≠ pb; have := (h.row.lt g e).1; omega))

set_option maxHeartbeats 1000000 in
theorem walign_ok (pb m f : Nat) (high : Bool) (v0 : Value) (L : List Bool) (w : World) (hw : WOk w pb high v0 m L f) :
    Calls Try.prog 15 #[.pointer (some ⟨pb, 0, none⟩)] w fun e w' => e = .returned (.int .i64 0) ∧ WOk w' pb high v0 m (L ++ List.replicate f false) 0 ∧ Chg pb v0 w v0 w' := by
  have c0 := hw.c0
  have c3 := hw.c3
  have f3 := hw.fz 3
  have H := hide hw.pad
  clear hw
  go_enter Try.func15, Try.ntmps15
  go_wp2_with (go_at_call 26; refine (good_yes _ _ (by assumption)).mono ?_; rintro e w' ⟨rfl, rfl⟩)
  go_ret
  exact ⟨rfl, unhide H⟩

set_option maxHeartbeats 1000000 in
theorem putBytes_no (pb m f : Nat) (high : Bool) (v0 : Value) (L : List Bool) (bval : Value) (w : World) (hw : WOk w pb high v0 m L f) (hf : f ≠ 0) :
    Calls Try.prog 16 #[.pointer (some ⟨pb, 0, none⟩), bval] w fun e w' => e = .returned (.int .i64 2) ∧ w' = w := by
  have c0 := hw.c0
  have c3 := hw.c3
  have hb : ((f : Int) != 0) = true := by simp; omega
  clear hw
  go_enter Try.func16, Try.ntmps16
  go_wp2_with (go_at_call 26; refine (good_yes _ _ (by assumption)).mono ?_; rintro e w' ⟨rfl, rfl⟩)
  go_ret
  exact ⟨rfl, rfl⟩

/-- The row has grown by bytes, and the struct is told so. -/
theorem WOk.growBytes {wr w1 : World} {pb : Nat} {high : Bool} {v v' : Value} {m : Nat} {L : List Bool} {zs : List Nat} (h : WOk wr pb high v m L 0) (hz : ∀ z ∈ zs, z < 256)
    (hown : w1.ownsRow (pb + 1) 5 1 v' (m + zs.length) ((pk high m L).map bv ++ zs.map bv)) (hg : wr.grownBy w1 v.ownBlock) (hat : v'.ownBlock = v.ownBlock ∨ v'.ownBlock = some wr.heap.size) :
    WOk (w1.setCell ⟨pb, 2, none⟩ v') pb high v' (m + zs.length) (L ++ ofBytes high zs) 0 ∧ Chg pb v wr v' (w1.setCell ⟨pb, 2, none⟩ v') := by
  have hlt := h.lt
  have hll := h.len
  have hvb : v.ownBlock ≠ some pb := fun e => by have := (h.row.lt pb e).1; omega
  have hbk : w1.heap[pb]? = some (.cells #[.bool true, .bool high, v, .int .i64 0] 51 (0, 0)) := by
    rw [hg.block pb hlt (fun e => hvb e.symm)]; exact h.blk
  refine ⟨⟨?_, ?_, by rw [List.length_append, ofBytes_length]; omega⟩, ⟨hg.os, hg.tape, hg.output, by simpa using hg.size, fun k hk hne hv => ?_, ?_⟩⟩
  · rw [heap_setCell_same _ pb 2 _ _ _ hbk]; simp
  · rw [pk_append_bytes high L m zs (by omega) hz, List.map_append]
    exact own_keep hown (fun g e => heap_setCell_other _ _ _ _ (by show g ≠ pb; have := (hown.lt g e).1; omega))
  · rw [heap_setCell_other _ _ _ _ (by exact hne), hg.block k hk (fun e => hv e.symm)]
  · rcases hat with e | e
    · exact .inl e
    · exact .inr ⟨_, e, Nat.le_refl _⟩

theorem WOk.grownAt {wr w1 : World} {pb : Nat} {high : Bool} {v : Value} {m : Nat} {L : List Bool} {f : Nat} (h : WOk wr pb high v m L f) (hg : wr.grownBy w1 v.ownBlock) :
    w1.cell? ⟨pb, 2, none⟩ = some v ∧ w1.frozen? ⟨pb, 2, none⟩ = false := by
  have hvb : v.ownBlock ≠ some pb := fun e => by have := (h.row.lt pb e).1; omega
  have hbk : w1.heap[pb]? = some (.cells #[.bool true, .bool high, v, .int .i64 (f : Int)] 51 (0, 0)) := by
    rw [hg.block pb h.lt (fun e => hvb e.symm)]; exact h.blk
  simp [World.cell?, World.frozen?, hbk]

theorem own_form {w : World} {base e size n : Nat} {v : Value} {xs : List Value} (h : w.ownsRow base e size v n xs) : ∃ a l c, v = .slice a l c := by
  rcases h.2 with ⟨e, _⟩ | ⟨g, c, _, e, _⟩
  · exact ⟨_, _, _, e⟩
  · exact ⟨_, _, _, e⟩

set_option maxHeartbeats 1000000 in
theorem putBytes_ok (pb m : Nat) (high : Bool) (v0 : Value) (L : List Bool) (ad : Addr) (c : Nat) (zs : List Nat) (w : World) (hw : WOk w pb high v0 m L 0) (hz : ∀ z ∈ zs, z < 256)
    (hc : ∀ (j : Nat) u, (zs.map bv)[j]? = some u → w.cell? (ad.add j) = some u) (hb : m + zs.length ≤ 140737488355328) :
    Calls Try.prog 16 #[.pointer (some ⟨pb, 0, none⟩), .slice (some ad) zs.length c] w fun e w' => e = .returned (.int .i64 0) ∧ ∃ v', WOk w' pb high v' (m + zs.length) (L ++ ofBytes high zs) 0 ∧ Chg pb v0 w v' w' := by
  obtain ⟨i0, hi, hz0, hz1, hz2⟩ := info_parts info5
  have c0 := hw.c0
  have c2 := hw.c2
  have c3 := hw.c3
  have hlt := hw.lt
  have H := hide hw
  have HC := hide hc
  have HZ := hide hz
  clear hw hc hz
  go_enter Try.func16, Try.ntmps16
  go_wp2_with (first
    | (go_at_call 26; refine (good_yes _ _ (by assumption)).mono ?_; rintro e w' ⟨rfl, rfl⟩)
    | (at_builtin; go_must (refine wpList_append_own_at _ rfl (.tmp 17) (.tmp 18) 26 rfl (pb + 1) 5 i0 (.int .u8 0) 1 1 Try.underlying26 hi hz0 hz1 hz2 rfl (by decide) v0 m _ (by rfl) (unhide H).row ad zs.length c (zs.map bv) (by rfl) (by simp) (unhide HC) (by intro u hu; simp at hu; obtain ⟨z, _, rfl⟩ := hu; rfl) (by unfold maxLen; omega) (by omega) (by omega) ?_; intro v' w1 hown hgrow _ hat; obtain ⟨va, vn, vc, rfl⟩ := own_form hown; obtain ⟨d2, e2⟩ := (unhide H).grownAt hgrow; have HG := hide ((unhide H).growBytes (unhide HZ) hown hgrow hat); clear hown hgrow hat)))
  go_ret
  exact ⟨rfl, _, unhide HG⟩

set_option maxHeartbeats 1000000 in
theorem may_ok (v : Nat) (n : Int) (w : World) (hv : v < 2 ^ 64) :
    Calls Try.prog 13 #[.int .u64 (v : Int), .int .i64 n] w fun e w' => e = .returned (.bool (decide (0 ≤ n ∧ n ≤ 64 ∧ v < 2 ^ n.toNat))) ∧ w' = w := by
  by_cases h0 : 0 ≤ n
  · by_cases h1 : n ≤ 64
    · obtain ⟨N, rfl⟩ := Int.eq_ofNat_of_zero_le h0
      have d0 : decide (0 ≤ (N : Int)) = true := by simp
      have d1 : decide ((N : Int) ≤ 64) = true := by simpa using h1
      by_cases h2 : N = 64
      · subst h2
        rw [show decide (0 ≤ ((64 : Nat) : Int) ∧ ((64 : Nat) : Int) ≤ 64 ∧ v < 2 ^ (((64 : Nat) : Int)).toNat) = true by simp; exact hv]
        clear d0 d1 h0 h1 hv
        go_enter Try.func13, Try.ntmps13
        go_wp2
        go_ret
        exact ⟨rfl, rfl⟩
      · have d2 : ((N : Int) == 64) = false := by simp; omega
        have hmin : min N 64 = N := by omega
        have e3 : ((v : Int) / 2 ^ N == 0) = decide (v < 2 ^ N) := by
          rw [show ((v : Int) / 2 ^ N) = ((v / 2 ^ N : Nat) : Int) by simp]
          have h5 : 0 < 2 ^ N := Nat.pow_pos (by decide)
          by_cases h6 : v < 2 ^ N
          · rw [Nat.div_eq_of_lt h6]; simp [h6]
          · have h7 : 0 < v / 2 ^ N := Nat.div_pos (by omega) h5
            rw [decide_eq_false h6, beq_eq_false_iff_ne]
            omega
        rw [show decide (0 ≤ (N : Int) ∧ (N : Int) ≤ 64 ∧ v < 2 ^ (N : Int).toNat) = decide (v < 2 ^ N) by simp; omega]
        clear hmin hv
        go_enter Try.func13, Try.ntmps13
        go_wp2
        go_ret
        exact ⟨rfl, rfl⟩
    · have d0 : decide (0 ≤ n) = true := by simpa using h0
      have d1 : decide (n ≤ 64) = false := by simpa using h1
      rw [show decide (0 ≤ n ∧ n ≤ 64 ∧ v < 2 ^ n.toNat) = false by simp; omega]
      go_enter Try.func13, Try.ntmps13
      go_wp2
      go_ret
      exact ⟨rfl, rfl⟩
  · have d0 : decide (0 ≤ n) = false := by simpa using h0
    rw [show decide (0 ≤ n ∧ n ≤ 64 ∧ v < 2 ^ n.toNat) = false by simp; omega]
    go_enter Try.func13, Try.ntmps13
    go_wp2
    go_ret
    exact ⟨rfl, rfl⟩

end Go.Proofs.Ytcplockmnabccaa
