/-
  What the document's answers for bits are: hamperref01's Bits and Bytes.
-/
import Derived.Test.YtclccccodeekmaaRef
namespace Go.Proofs.Ytclccccodeekmaa
open Go.RowKit Mth

theorem pk_append_any (high : Bool) (L : List Bool) (b : Bool) (M : Nat) :
    pk high M (L ++ [b]) = (pk high M L).set (L.length / 8) (octet high L (L.length / 8) ||| (b.toNat <<< rk high 8 (L.length % 8))) := by
  apply List.ext_getElem?
  intro j
  by_cases hj : j < M
  · by_cases e : j = L.length / 8
    · subst e
      rw [pk_get _ _ _ _ hj, octet_append_at high L b (L.length / 8) (L.length % 8) (by omega) (by omega), List.getElem?_set_self (by rw [pk_length]; exact hj)]
    · rw [pk_get _ _ _ _ hj, List.getElem?_set_ne (by omega), pk_get _ _ _ _ hj, octet_append_other high L b j (by omega)]
  · rw [List.getElem?_eq_none (by rw [pk_length]; omega), List.getElem?_eq_none (by rw [List.length_set, pk_length]; omega)]

theorem bit_u64 (v k : Nat) (hv : v < 2 ^ 64) : bits .and .u64 ((v : Int) / 2 ^ k) 1 = ((v.testBit k).toNat : Int) := by
  have hd : v / 2 ^ k < 18446744073709551616 := Nat.lt_of_le_of_lt (Nat.div_le_self _ _) (by omega)
  rw [show ((v : Int) / 2 ^ k) = ((v / 2 ^ k : Nat) : Int) by simp]
  have h := u64_and_nat (v / 2 ^ k) 1 hd (by decide)
  rw [Nat.and_one_is_mod, ← Nat.shiftRight_eq_div_pow, shift_one] at h
  rw [← Nat.shiftRight_eq_div_pow]
  exact h

set_option maxHeartbeats 1000000 in
theorem bits_ok (v N : Nat) (high : Bool) (w : World) (hv : v < 2 ^ 64) (hN : N ≤ 64) :
    Calls Try.prog 37 #[.int .u64 (v : Int), .int .i64 (N : Int), .bool high] w fun e w' => ∃ lv, e = .returned lv ∧ w'.ownsRow w.heap.size 3 1 lv N ((bitsOf high v N).map bi) ∧ Below w.heap.size w w' := by
  obtain ⟨i0, hi, hz0, hz1, hz2⟩ := info_parts info3
  cases high
  · go_enter Try.func37, Try.ntmps37
    go_wp2
    go_loopg [7, 8] N (fun gk o c ws => ∃ i, gk = N - i ∧ i ≤ N ∧ c = .int .i64 (i : Int) ∧ ws.ownsRow w.heap.size 3 1 o i ((List.range i).map fun i => bi (v.testBit (rk false N i))) ∧ Below w.heap.size w ws)
    case atStart => exact ⟨0, by omega, by omega, rfl, World.ownsRow_nil _ _ _ _, Below.refl _ _⟩
    case round =>
      obtain ⟨i, rfl, hil, rfl, hown, hbel⟩ := hrel
      by_cases hlt : i < N
      · have hbit := bit_u64 v i hv
        have hrk : rk false N i = i := by simp [rk]
        have HO := hide hown
        have HB := hide hbel
        have hsz := hbel.size
        have hltI : (i : Int) < (N : Int) := by omega
        rw [← hrk] at hbit
        have hwb := wrap_bool (v.testBit (rk false N i))
        have HN : Hid (∀ (j : Nat) u, [bi (v.testBit (rk false N i))][j]? = some u → (wr.alloc (.cells #[bi (v.testBit (rk false N i))] 3)).cell? ((⟨wr.heap.size, 0, none⟩ : Addr).add j) = some u) := hide (news_one _ _)
        rw [hrk] at hbit hwb HN
        have HRK := hide hrk
        clear hown hbel hrk
        go_wp2_with (at_builtin; go_must (refine wpList_append_own _ rfl (.tmp 21) (.tmp 28) 22 rfl w.heap.size 3 i0 (.int .i64 0) 1 8 Try.underlying22 hi hz0 hz1 hz2 rfl (by decide) u7 i _ (by rfl) ((unhide HO).alloc _) ⟨wr.heap.size, 0, none⟩ 1 1 [bi (v.testBit i)] (by rfl) rfl (by exact unhide HN) (by intro u hu; simp at hu; subst hu; rfl) (by unfold maxLen; omega) (by omega) (by simp; omega) ?_; intro v' w1 hown' hgrow _; have HO' := hide hown'; have HG := hide hgrow; clear hown' hgrow))
        go_roundg (N - (i + 1))
        case measure => omega
        case rel =>
          refine ⟨i + 1, rfl, by omega, by go_num, ?_, ?_⟩
          · rw [List.range_succ, List.map_append, List.map_singleton, unhide HRK]; exact unhide HO'
          · exact ((unhide HB).alloc hsz _).grown (unhide HG) (by simp; omega) (fun k e => ((unhide HO).lt k e).1)
      · obtain rfl : i = N := by omega
        have HO := hide hown
        have HB := hide hbel
        clear hown hbel
        go_wp2
        go_ret
        exact ⟨_, rfl, by simpa [bitsOf, Function.comp_def] using unhide HO, unhide HB⟩
  · go_enter Try.func37, Try.ntmps37
    go_wp2
    go_loopg [7, 8] N (fun gk o c ws => ∃ i, gk = N - i ∧ i ≤ N ∧ c = .int .i64 (i : Int) ∧ ws.ownsRow w.heap.size 3 1 o i ((List.range i).map fun i => bi (v.testBit (rk true N i))) ∧ Below w.heap.size w ws)
    case atStart => exact ⟨0, by omega, by omega, rfl, World.ownsRow_nil _ _ _ _, Below.refl _ _⟩
    case round =>
      obtain ⟨i, rfl, hil, rfl, hown, hbel⟩ := hrel
      by_cases hlt : i < N
      · have hbit := bit_u64 v (N - 1 - i) hv
        have hrk : rk true N i = (N - 1 - i) := by simp [rk]
        have HO := hide hown
        have HB := hide hbel
        have hsz := hbel.size
        have hltI : (i : Int) < (N : Int) := by omega
        rw [← hrk] at hbit
        have hwb := wrap_bool (v.testBit (rk true N i))
        have HN : Hid (∀ (j : Nat) u, [bi (v.testBit (rk true N i))][j]? = some u → (wr.alloc (.cells #[bi (v.testBit (rk true N i))] 3)).cell? ((⟨wr.heap.size, 0, none⟩ : Addr).add j) = some u) := hide (news_one _ _)
        rw [hrk] at hbit hwb HN
        have HRK := hide hrk
        clear hown hbel hrk
        go_wp2_with (at_builtin; go_must (refine wpList_append_own _ rfl (.tmp 21) (.tmp 28) 22 rfl w.heap.size 3 i0 (.int .i64 0) 1 8 Try.underlying22 hi hz0 hz1 hz2 rfl (by decide) u7 i _ (by rfl) ((unhide HO).alloc _) ⟨wr.heap.size, 0, none⟩ 1 1 [bi (v.testBit (N - 1 - i))] (by rfl) rfl (by exact unhide HN) (by intro u hu; simp at hu; subst hu; rfl) (by unfold maxLen; omega) (by omega) (by simp; omega) ?_; intro v' w1 hown' hgrow _; have HO' := hide hown'; have HG := hide hgrow; clear hown' hgrow))
        go_roundg (N - (i + 1))
        case measure => omega
        case rel =>
          refine ⟨i + 1, rfl, by omega, by go_num, ?_, ?_⟩
          · rw [List.range_succ, List.map_append, List.map_singleton, unhide HRK]; exact unhide HO'
          · exact ((unhide HB).alloc hsz _).grown (unhide HG) (by simp; omega) (fun k e => ((unhide HO).lt k e).1)
      · obtain rfl : i = N := by omega
        have HO := hide hown
        have HB := hide hbel
        clear hown hbel
        go_wp2
        go_ret
        exact ⟨_, rfl, by simpa [bitsOf, Function.comp_def] using unhide HO, unhide HB⟩

theorem made_zero (high : Bool) (M : Nat) (L : List Bool) : (madeCells (Value.int .u8 0).cells (M * 1)).toList.toArray = ((pk high M (List.take 0 L)).map bv).toArray := by
  apply Array.ext
  · simp [madeCells, pk]
  · intro i h1 h2
    simp [madeCells, pk, Value.cells, octet_beyond, bv, Nat.mod_one]

theorem or_int (B r : Nat) (bt : Bool) (hB : B < 256) (hr : r < 8) : bits .or .u8 (B : Int) (wrap64 ((bt.toNat : Int) * 2 ^ r) % 256) = ((B ||| (bt.toNat <<< r) : Nat) : Int) := by
  have h2 : bt.toNat * 2 ^ r < 256 := by
    have h3 : bt.toNat ≤ 1 := Bool.toNat_le bt
    have h4 : 2 ^ r ≤ 2 ^ 7 := Nat.pow_le_pow_right (by decide) (by omega)
    have h5 := Nat.mul_le_mul h3 h4
    omega
  rw [show (bt.toNat : Int) * 2 ^ r = ((bt.toNat * 2 ^ r : Nat) : Int) by simp, IntWalk.wrap64_in _ (by omega), show ((bt.toNat * 2 ^ r : Nat) : Int) % 256 = ((bt.toNat * 2 ^ r : Nat) : Int) by omega, u8_or_nat B _ hB h2, Nat.shiftLeft_eq]

set_option maxHeartbeats 1000000 in
theorem refBytes_ok (a : Option Addr) (cap : Nat) (L : List Bool) (high : Bool) (w : World) (hs : 0 < L.length → ∃ b off, a = some ⟨b, off, none⟩ ∧ ∀ j, j < L.length → w.cell? ⟨b, off + j, none⟩ = some (bi (L.getD j false))) (hn : L.length ≤ 1000000000000) :
    Calls Try.prog 20 #[.slice a L.length cap, .bool high] w fun e w' => e = .returned (.slice (some ⟨w.heap.size, 0, none⟩) ((L.length + 7) / 8) ((L.length + 7) / 8)) ∧ w'.heap[w.heap.size]? = some (.cells ((pk high ((L.length + 7) / 8) L).map bv).toArray 5 (0, 0)) ∧ Below w.heap.size w w' := by
  obtain ⟨i0, hi, hz0, hz1, hz2⟩ := info_parts info5
  have HS := hide hs
  obtain ⟨M, hM⟩ : ∃ M, M = (L.length + 7) / 8 := ⟨_, rfl⟩
  rw [← hM]
  have hMI : ((L.length : Int) + 7) / 8 = (M : Int) := by omega
  have hM1 : L.length ≤ 8 * M := by omega
  have hM2 : M ≤ 1000000000000 := by omega
  have HM := hide hM
  clear hs hM
  cases high
  · go_enter Try.func20, Try.ntmps20
    go_wp2_with (at_make; go_must (refine wpList_make_full _ rfl _ _ 45 rfl w.heap.size 5 i0 (.int .u8 0) 1 Try.underlying45 hi hz0 hz1 _ _ _ _ M rfl rfl (by omega) (by omega) (by rw [hz2]; omega) (by unfold maxLen; omega) (Nat.le_refl _) ?_; intro w1 hown hgrow; have HO := hide (ownsRow_heap hown rfl).1; have HB := hide ((Below.refl w.heap.size w).grown hgrow (Nat.le_refl _) (by intro k h; cases h)); clear hown hgrow))
    go_loopg [6] L.length (fun gk c ws => ∃ i, gk = L.length - i ∧ i ≤ L.length ∧ c = .int .i64 (i : Int) ∧ ws.heap[w.heap.size]? = some (.cells ((pk false M (L.take i)).map bv).toArray 5 (0, 0)) ∧ Below w.heap.size w ws)
    case atStart => exact ⟨0, by omega, by omega, rfl, by rw [unhide HO, made_zero false M L], unhide HB⟩
    case round =>
      obtain ⟨i, rfl, hil, rfl, hrow, hbel⟩ := hrel
      clear HO HB
      by_cases hlt : i < L.length
      · obtain ⟨ab, ao, rfl, hcell⟩ := unhide HS (by omega)
        have hcl := cell_stays hbel (hcell i hlt)
        have habs : ab ≠ w.heap.size := by have := cell_lt (hcell i hlt); simp at this; omega
        unfold bi at hcl
        have hti : (L.take i).length = i := by simp; omega
        obtain ⟨q8, hq⟩ : ∃ q8, q8 = i / 8 := ⟨_, rfl⟩
        obtain ⟨r8, hr8⟩ : ∃ r8, r8 = i % 8 := ⟨_, rfl⟩
        have hqM : q8 < M := by omega
        have hr8' : r8 < 8 := by omega
        have hco : wr.cell? ⟨w.heap.size, q8, none⟩ = some (.int .u8 (octet false (L.take i) q8 : Int)) := by simp [World.cell?, hrow, pk, hqM, bv]
        have hfo : wr.frozen? ⟨w.heap.size, q8, none⟩ = false := by simp [World.frozen?, hrow]
        have hoc := octet_lt false (L.take i) q8
        generalize hB : octet false (L.take i) q8 = B at hco hoc
        generalize hbt : L.getD i false = bt at hcl
        have hb1 := Bool.toNat_le bt
        have hpk := pk_append_any false (L.take i) bt M
        rw [hti, ← hq, ← hr8, hB] at hpk
        have htk : L.take (i + 1) = L.take i ++ [bt] := by rw [List.take_add_one, List.getElem?_eq_getElem hlt, ← hbt]; simp [hlt]
        rw [← htk] at hpk
        have hrk : rk false 8 r8 = r8 := by simp [rk]
        rw [hrk] at hpk
        have HP := hide hpk
        have HROW := hide hrow
        have HBEL := hide hbel
        have hltI : (i : Int) < (L.length : Int) := by omega
        have hdd : Int.tdiv (i : Int) 8 = (q8 : Int) := by rw [hq]; rfl
        have hmm : Int.tmod (i : Int) 8 = (r8 : Int) := by rw [hr8]; rfl
        have hdd' : ((i : Int) / 8) = (q8 : Int) := by omega
        have hmm' : ((i : Int) % 8) = (r8 : Int) := by omega
        have hqw : IntKind.i64.wrap (q8 : Int) = (q8 : Int) := IntWalk.i64_in _ (by omega)
        have hqMI : (q8 : Int) < (M : Int) := by omega
        have hkw : IntKind.u64.wrap ((r8 : Nat) : Int) = ((r8 : Nat) : Int) := IntWalk.u64_in _ (by omega)
        clear hq hr8 hB hbt hpk htk hrk hrow hbel hcell hti
        go_wp2_with fail
        refine wp_tail 18 (by kernel_rfl) (by kernel_rfl) ?_
        simp only [List.take_succ_cons, List.take_zero, List.drop_succ_cons, List.drop_zero]
        repeat still_step
        try refine wpStill_nil ?_
        go_wp2
        rw [or_int B r8 bt hoc (by omega)]
        go_roundg (L.length - (i + 1))
        case measure => omega
        case rel =>
          refine ⟨i + 1, rfl, by omega, by go_num, ?_, ((unhide HBEL).setCell (Nat.le_refl _) _).drew⟩
          show (wr.setCell ⟨w.heap.size, q8, none⟩ _).heap[w.heap.size]? = _
          rw [heap_setCell_same wr w.heap.size q8 _ 5 _ (unhide HROW), unhide HP, ← bv_set]
          simp [bv]
      · obtain rfl : i = L.length := by omega
        have HROW := hide hrow
        have HBEL := hide hbel
        clear hrow hbel
        go_wp2
        go_ret
        refine ⟨rfl, ?_, unhide HBEL⟩
        have h9 := unhide HROW
        rw [List.take_length] at h9
        exact h9
  · go_enter Try.func20, Try.ntmps20
    go_wp2_with (at_make; go_must (refine wpList_make_full _ rfl _ _ 45 rfl w.heap.size 5 i0 (.int .u8 0) 1 Try.underlying45 hi hz0 hz1 _ _ _ _ M rfl rfl (by omega) (by omega) (by rw [hz2]; omega) (by unfold maxLen; omega) (Nat.le_refl _) ?_; intro w1 hown hgrow; have HO := hide (ownsRow_heap hown rfl).1; have HB := hide ((Below.refl w.heap.size w).grown hgrow (Nat.le_refl _) (by intro k h; cases h)); clear hown hgrow))
    go_loopg [6] L.length (fun gk c ws => ∃ i, gk = L.length - i ∧ i ≤ L.length ∧ c = .int .i64 (i : Int) ∧ ws.heap[w.heap.size]? = some (.cells ((pk true M (L.take i)).map bv).toArray 5 (0, 0)) ∧ Below w.heap.size w ws)
    case atStart => exact ⟨0, by omega, by omega, rfl, by rw [unhide HO, made_zero true M L], unhide HB⟩
    case round =>
      obtain ⟨i, rfl, hil, rfl, hrow, hbel⟩ := hrel
      clear HO HB
      by_cases hlt : i < L.length
      · obtain ⟨ab, ao, rfl, hcell⟩ := unhide HS (by omega)
        have hcl := cell_stays hbel (hcell i hlt)
        have habs : ab ≠ w.heap.size := by have := cell_lt (hcell i hlt); simp at this; omega
        unfold bi at hcl
        have hti : (L.take i).length = i := by simp; omega
        obtain ⟨q8, hq⟩ : ∃ q8, q8 = i / 8 := ⟨_, rfl⟩
        obtain ⟨r8, hr8⟩ : ∃ r8, r8 = i % 8 := ⟨_, rfl⟩
        have hqM : q8 < M := by omega
        have hr8' : r8 < 8 := by omega
        have hco : wr.cell? ⟨w.heap.size, q8, none⟩ = some (.int .u8 (octet true (L.take i) q8 : Int)) := by simp [World.cell?, hrow, pk, hqM, bv]
        have hfo : wr.frozen? ⟨w.heap.size, q8, none⟩ = false := by simp [World.frozen?, hrow]
        have hoc := octet_lt true (L.take i) q8
        generalize hB : octet true (L.take i) q8 = B at hco hoc
        generalize hbt : L.getD i false = bt at hcl
        have hb1 := Bool.toNat_le bt
        have hpk := pk_append_any true (L.take i) bt M
        rw [hti, ← hq, ← hr8, hB] at hpk
        have htk : L.take (i + 1) = L.take i ++ [bt] := by rw [List.take_add_one, List.getElem?_eq_getElem hlt, ← hbt]; simp [hlt]
        rw [← htk] at hpk
        have hrk : rk true 8 r8 = (7 - r8) := by simp [rk]
        rw [hrk] at hpk
        have HP := hide hpk
        have HROW := hide hrow
        have HBEL := hide hbel
        have hltI : (i : Int) < (L.length : Int) := by omega
        have hdd : Int.tdiv (i : Int) 8 = (q8 : Int) := by rw [hq]; rfl
        have hmm : Int.tmod (i : Int) 8 = (r8 : Int) := by rw [hr8]; rfl
        have hdd' : ((i : Int) / 8) = (q8 : Int) := by omega
        have hmm' : ((i : Int) % 8) = (r8 : Int) := by omega
        have hqw : IntKind.i64.wrap (q8 : Int) = (q8 : Int) := IntWalk.i64_in _ (by omega)
        have hqMI : (q8 : Int) < (M : Int) := by omega
        have hkw : IntKind.u64.wrap (((7 - r8) : Nat) : Int) = (((7 - r8) : Nat) : Int) := IntWalk.u64_in _ (by omega)
        clear hq hr8 hB hbt hpk htk hrk hrow hbel hcell hti
        go_wp2_with fail
        refine wp_tail 18 (by kernel_rfl) (by kernel_rfl) ?_
        simp only [List.take_succ_cons, List.take_zero, List.drop_succ_cons, List.drop_zero]
        repeat still_step
        try refine wpStill_nil ?_
        go_wp2
        rw [show min (7 - r8) 64 = 7 - r8 by omega, or_int B (7 - r8) bt hoc (by omega)]
        go_roundg (L.length - (i + 1))
        case measure => omega
        case rel =>
          refine ⟨i + 1, rfl, by omega, by go_num, ?_, ((unhide HBEL).setCell (Nat.le_refl _) _).drew⟩
          show (wr.setCell ⟨w.heap.size, q8, none⟩ _).heap[w.heap.size]? = _
          rw [heap_setCell_same wr w.heap.size q8 _ 5 _ (unhide HROW), unhide HP, ← bv_set]
          simp [bv]
      · obtain rfl : i = L.length := by omega
        have HROW := hide hrow
        have HBEL := hide hbel
        clear hrow hbel
        go_wp2
        go_ret
        refine ⟨rfl, ?_, unhide HBEL⟩
        have h9 := unhide HROW
        rw [List.take_length] at h9
        exact h9

end Go.Proofs.Ytclccccodeekmaa
