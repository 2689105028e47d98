/- Fixed and Order of the program. -/
import Derived.Test.YtppbnodgnphaaaaCount
import Derived.Test.YtppbnodgnphaaaaInfl
namespace Go.Proofs.Ytppbnodgnphaaaa
open Go.RowKit Infl
set_option maxRecDepth 100000
set_option linter.unusedVariables false

/-- the i-th length -/
def fx (i : Nat) : Nat := if 144 ≤ i ∧ i < 256 then 9 else if 256 ≤ i ∧ i < 280 then 7 else 8

set_option maxHeartbeats 1000000 in
theorem order_ok (w : World) : Calls Try.prog 17 #[] w fun e w' => e = .returned (.slice (some ⟨w.heap.size, 0, none⟩) 19 19) ∧ w' = w.alloc (.cells (order.map (fun z : Nat => iv (z : Int))).toArray 3) := by
  go_enter Try.func17, Try.ntmps17
  go_wp2_with fail
  go_ret
  exact ⟨rfl, rfl⟩

set_option maxHeartbeats 1000000 in
theorem rorder_ok (w : World) : Calls Try.prog 18 #[] w fun e w' => e = .returned (.slice (some ⟨w.heap.size, 0, none⟩) 19 19) ∧ w' = w.alloc (.cells (order.map (fun z : Nat => iv (z : Int))).toArray 3) := by
  go_enter Try.func18, Try.ntmps18
  go_wp2_with fail
  go_ret
  exact ⟨rfl, rfl⟩

set_option maxHeartbeats 1000000 in
theorem fixed_ok (w : World) : Calls Try.prog 15 #[] w fun e w' => e = .returned (.slice (some ⟨w.heap.size, 0, none⟩) 288 288) ∧ IntsAt w' .i64 3 w.heap.size 288 fx ∧ Below w.heap.size w w' := by
  have hm : ∀ w, (Instr.makeSlice 35 (.int .i64 288) (.int .i64 288)).run Try.prog w = .ok (.slice (some ⟨w.heap.size, 0, none⟩) 288 288) (w.alloc (.cells (icells .i64 288 (fun _ => 0)) 3)) := fun w => ints_made w 288 (by decide)
  go_enter Try.func15, Try.ntmps15
  go_wp2_with fail
  go_loopg [6] 288 (fun gk c ws => ∃ i, gk = 288 - i ∧ i ≤ 288 ∧ c = .int .i64 (i : Int) ∧ IntsAt ws .i64 3 w.heap.size 288 (fun j => if j < i then fx j else 0) ∧ Below w.heap.size w ws)
  case atStart => exact ⟨0, by omega, by omega, rfl, by simp only [Nat.not_lt_zero, if_false]; exact heap_alloc_new _ _, (Below.refl _ _).alloc (Nat.le_refl _) _⟩
  case round =>
    obtain ⟨i, rfl, hil, rfl, hat, hbel⟩ := hrel
    clear hm
    have HA := hide hat
    have HB := hide hbel
    by_cases hlt : i < 288
    · have hii : (i : Int) < 288 := by omega
      have k2 := hat.free i
      have k1 := hat.cell i hlt
      simp only [Nat.lt_irrefl, if_false] at k1
      have HN : Hid (∀ y, fx i = y → IntsAt (wr.setCell ⟨w.heap.size, i, none⟩ (.int .i64 (y : Int))) .i64 3 w.heap.size 288 (fun j => if j < i + 1 then fx j else 0) ∧ Below w.heap.size w (wr.setCell ⟨w.heap.size, i, none⟩ (.int .i64 (y : Int)))) := hide (fun y hy => ⟨((unhide HA).set i y).congr (fun j hj => by
        unfold upd
        by_cases e : j = i
        · subst e; rw [if_pos rfl, if_pos (by omega), hy]
        · rw [if_neg e]
          show (if j < i then fx j else 0) = _
          by_cases e2 : j < i
          · rw [if_pos e2, if_pos (by omega)]
          · rw [if_neg e2, if_neg (by omega)]), (unhide HB).setCell (Nat.le_refl _) _⟩)
      clear hat hbel HA HB
      by_cases a1 : i < 144
      · have b1 : (i : Int) < 144 := by omega
        go_wp2_with fail
        go_roundg (288 - (i + 1))
        case measure => omega
        case rel => exact ⟨i + 1, rfl, by omega, by go_num, unhide HN 8 (by unfold fx; rw [if_neg (by omega), if_neg (by omega)])⟩
      · have b1 : ¬ (i : Int) < 144 := by omega
        by_cases a2 : i < 256
        · have b2 : (i : Int) < 256 := by omega
          go_wp2_with fail
          go_roundg (288 - (i + 1))
          case measure => omega
          case rel => exact ⟨i + 1, rfl, by omega, by go_num, unhide HN 9 (by unfold fx; rw [if_pos (by omega)])⟩
        · have b2 : ¬ (i : Int) < 256 := by omega
          by_cases a3 : i < 280
          · have b3 : (i : Int) < 280 := by omega
            go_wp2_with fail
            go_roundg (288 - (i + 1))
            case measure => omega
            case rel => exact ⟨i + 1, rfl, by omega, by go_num, unhide HN 7 (by unfold fx; rw [if_neg (by omega), if_pos (by omega)])⟩
          · have b3 : ¬ (i : Int) < 280 := by omega
            go_wp2_with fail
            go_roundg (288 - (i + 1))
            case measure => omega
            case rel => exact ⟨i + 1, rfl, by omega, by go_num, unhide HN 8 (by unfold fx; rw [if_neg (by omega), if_neg (by omega)])⟩
    · obtain rfl : i = 288 := by omega
      clear hat hbel
      go_wp2_with fail
      go_ret
      exact ⟨rfl, (unhide HA).congr (fun j hj => by show (if j < 288 then fx j else 0) = _; rw [if_pos hj]), unhide HB⟩


set_option maxRecDepth 100000 in
set_option maxHeartbeats 2000000 in
theorem rfixed_ok (w : World) : Calls Try.prog 16 #[] w fun e w' => ∃ lv, e = .returned lv ∧ w'.ownsRow w.heap.size 3 1 lv 288 ((List.range 288).map fun i => iv (fx i : Int)) ∧ Below w.heap.size w w' := by
  obtain ⟨i0, hi, hz0, hz1, hz2⟩ := info_parts info3'
  go_enter Try.func16, Try.ntmps16
  go_wp2_with fail
  go_loopg [1, 2] 288 (fun gk o c ws => ∃ i, gk = 288 - i ∧ i ≤ 288 ∧ c = .int .i64 (i : Int) ∧ ws.ownsRow w.heap.size 3 1 o i ((List.range i).map fun i => iv (fx i : Int)) ∧ Below w.heap.size w ws)
  case atStart => exact ⟨0, by omega, by omega, rfl, World.ownsRow_nil _ _ _ _, Below.refl _ _⟩
  case round =>
    obtain ⟨i, rfl, hil, rfl, hown, hbel⟩ := hrel
    have HO := hide hown
    have HB := hide hbel
    by_cases hlt : i < 288
    · have hii : (i : Int) < 288 := by omega
      have hsz := hbel.size
      clear hown hbel
      by_cases a1 : i < 144
      · have HFX : Hid (fx i = 8) := hide (by unfold fx; rw [if_neg (by omega), if_neg (by omega)])
        have b1 : ¬ (144 : Int) ≤ (i : Int) := by omega
        have b1d : decide ((144 : Int) ≤ (i : Int)) = false := by simp; omega
        have b3 : ¬ (256 : Int) ≤ (i : Int) := by omega
        have b3d : decide ((256 : Int) ≤ (i : Int)) = false := by simp; omega
        have HN : Hid (∀ (j : Nat) u, [iv 8][j]? = some u → (wr.alloc (.cells #[iv 8] 3)).cell? ((⟨wr.heap.size, 0, none⟩ : Addr).add j) = some u) := hide (news_one _ _)
        go_wp2_with (at_builtin; go_must (refine wpList_append_own _ rfl (.tmp 20) (.tmp 22) 35 rfl w.heap.size 3 i0 (.int .i64 0) 1 8 Try.underlying35 hi hz0 hz1 hz2 rfl (by decide) u1 i _ (by rfl) ((unhide HO).alloc _) ⟨wr.heap.size, 0, none⟩ 1 1 [iv 8] (by rfl) rfl (by exact unhide HN) (by intro u hu; simp at hu; subst hu; rfl) (by unfold maxLen; omega) (by omega) (by simp; omega) ?_; intro v' w1 hown' hgrow _; have HO' := hide hown'; have HG := hide hgrow; clear hown' hgrow))
        go_roundg (288 - (i + 1))
        case measure => omega
        case rel =>
          refine ⟨i + 1, rfl, by omega, by go_num, ?_, ?_⟩
          · rw [List.range_succ, List.map_append, List.map_singleton, unhide HFX]; exact unhide HO'
          · exact ((unhide HB).alloc hsz _).grown (unhide HG) (by simp; omega) (fun k e => ((unhide HO).lt k e).1)
      · by_cases a2 : i < 256
        · have HFX : Hid (fx i = 9) := hide (by unfold fx; rw [if_pos (by omega)])
          have b1 : (144 : Int) ≤ (i : Int) := by omega
          have b1d : decide ((144 : Int) ≤ (i : Int)) = true := by simp; omega
          have b2 : (i : Int) < 256 := by omega
          have b2d : decide ((i : Int) < 256) = true := by simp; omega
          have b3 : ¬ (256 : Int) ≤ (i : Int) := by omega
          have b3d : decide ((256 : Int) ≤ (i : Int)) = false := by simp; omega
          have HN : Hid (∀ (j : Nat) u, [iv 9][j]? = some u → (wr.alloc (.cells #[iv 9] 3)).cell? ((⟨wr.heap.size, 0, none⟩ : Addr).add j) = some u) := hide (news_one _ _)
          go_wp2_with (at_builtin; go_must (refine wpList_append_own _ rfl (.tmp 20) (.tmp 22) 35 rfl w.heap.size 3 i0 (.int .i64 0) 1 8 Try.underlying35 hi hz0 hz1 hz2 rfl (by decide) u1 i _ (by rfl) ((unhide HO).alloc _) ⟨wr.heap.size, 0, none⟩ 1 1 [iv 9] (by rfl) rfl (by exact unhide HN) (by intro u hu; simp at hu; subst hu; rfl) (by unfold maxLen; omega) (by omega) (by simp; omega) ?_; intro v' w1 hown' hgrow _; have HO' := hide hown'; have HG := hide hgrow; clear hown' hgrow))
          go_roundg (288 - (i + 1))
          case measure => omega
          case rel =>
            refine ⟨i + 1, rfl, by omega, by go_num, ?_, ?_⟩
            · rw [List.range_succ, List.map_append, List.map_singleton, unhide HFX]; exact unhide HO'
            · exact ((unhide HB).alloc hsz _).grown (unhide HG) (by simp; omega) (fun k e => ((unhide HO).lt k e).1)
        · by_cases a3 : i < 280
          · have HFX : Hid (fx i = 7) := hide (by unfold fx; rw [if_neg (by omega), if_pos (by omega)])
            have b1 : (144 : Int) ≤ (i : Int) := by omega
            have b1d : decide ((144 : Int) ≤ (i : Int)) = true := by simp; omega
            have b2 : ¬ (i : Int) < 256 := by omega
            have b2d : decide ((i : Int) < 256) = false := by simp; omega
            have b3 : (256 : Int) ≤ (i : Int) := by omega
            have b3d : decide ((256 : Int) ≤ (i : Int)) = true := by simp; omega
            have b4 : (i : Int) < 280 := by omega
            have b4d : decide ((i : Int) < 280) = true := by simp; omega
            have HN : Hid (∀ (j : Nat) u, [iv 7][j]? = some u → (wr.alloc (.cells #[iv 7] 3)).cell? ((⟨wr.heap.size, 0, none⟩ : Addr).add j) = some u) := hide (news_one _ _)
            go_wp2_with (at_builtin; go_must (refine wpList_append_own _ rfl (.tmp 20) (.tmp 22) 35 rfl w.heap.size 3 i0 (.int .i64 0) 1 8 Try.underlying35 hi hz0 hz1 hz2 rfl (by decide) u1 i _ (by rfl) ((unhide HO).alloc _) ⟨wr.heap.size, 0, none⟩ 1 1 [iv 7] (by rfl) rfl (by exact unhide HN) (by intro u hu; simp at hu; subst hu; rfl) (by unfold maxLen; omega) (by omega) (by simp; omega) ?_; intro v' w1 hown' hgrow _; have HO' := hide hown'; have HG := hide hgrow; clear hown' hgrow))
            go_roundg (288 - (i + 1))
            case measure => omega
            case rel =>
              refine ⟨i + 1, rfl, by omega, by go_num, ?_, ?_⟩
              · rw [List.range_succ, List.map_append, List.map_singleton, unhide HFX]; exact unhide HO'
              · exact ((unhide HB).alloc hsz _).grown (unhide HG) (by simp; omega) (fun k e => ((unhide HO).lt k e).1)
          · have HFX : Hid (fx i = 8) := hide (by unfold fx; rw [if_neg (by omega), if_neg (by omega)])
            have b1 : (144 : Int) ≤ (i : Int) := by omega
            have b1d : decide ((144 : Int) ≤ (i : Int)) = true := by simp; omega
            have b2 : ¬ (i : Int) < 256 := by omega
            have b2d : decide ((i : Int) < 256) = false := by simp; omega
            have b3 : (256 : Int) ≤ (i : Int) := by omega
            have b3d : decide ((256 : Int) ≤ (i : Int)) = true := by simp; omega
            have b4 : ¬ (i : Int) < 280 := by omega
            have b4d : decide ((i : Int) < 280) = false := by simp; omega
            have HN : Hid (∀ (j : Nat) u, [iv 8][j]? = some u → (wr.alloc (.cells #[iv 8] 3)).cell? ((⟨wr.heap.size, 0, none⟩ : Addr).add j) = some u) := hide (news_one _ _)
            go_wp2_with (at_builtin; go_must (refine wpList_append_own _ rfl (.tmp 20) (.tmp 22) 35 rfl w.heap.size 3 i0 (.int .i64 0) 1 8 Try.underlying35 hi hz0 hz1 hz2 rfl (by decide) u1 i _ (by rfl) ((unhide HO).alloc _) ⟨wr.heap.size, 0, none⟩ 1 1 [iv 8] (by rfl) rfl (by exact unhide HN) (by intro u hu; simp at hu; subst hu; rfl) (by unfold maxLen; omega) (by omega) (by simp; omega) ?_; intro v' w1 hown' hgrow _; have HO' := hide hown'; have HG := hide hgrow; clear hown' hgrow))
            go_roundg (288 - (i + 1))
            case measure => omega
            case rel =>
              refine ⟨i + 1, rfl, by omega, by go_num, ?_, ?_⟩
              · rw [List.range_succ, List.map_append, List.map_singleton, unhide HFX]; exact unhide HO'
              · exact ((unhide HB).alloc hsz _).grown (unhide HG) (by simp; omega) (fun k e => ((unhide HO).lt k e).1)
    · obtain rfl : i = 288 := by omega
      clear hown hbel
      go_wp2_with fail
      go_ret
      exact ⟨_, rfl, unhide HO, unhide HB⟩


set_option maxHeartbeats 1000000 in
theorem fives_ok (w : World) : Calls Try.prog 45 #[] w fun e w' => e = .returned (.slice (some ⟨w.heap.size, 0, none⟩) 32 32) ∧ IntsAt w' .i64 3 w.heap.size 32 (fun _ => 5) ∧ Below w.heap.size w w' := by
  have hm : ∀ w, (Instr.makeSlice 35 (.int .i64 32) (.int .i64 32)).run Try.prog w = .ok (.slice (some ⟨w.heap.size, 0, none⟩) 32 32) (w.alloc (.cells (icells .i64 32 (fun _ => 0)) 3)) := fun w => ints_made w 32 (by decide)
  go_enter Try.func45, Try.ntmps45
  go_wp2_with fail
  go_loopg [6] 32 (fun gk c ws => ∃ i, gk = 32 - i ∧ i ≤ 32 ∧ c = .int .i64 (i : Int) ∧ IntsAt ws .i64 3 w.heap.size 32 (fun j => if j < i then 5 else 0) ∧ Below w.heap.size w ws)
  case atStart => exact ⟨0, by omega, by omega, rfl, by simp only [Nat.not_lt_zero, if_false]; exact heap_alloc_new _ _, (Below.refl _ _).alloc (Nat.le_refl _) _⟩
  case round =>
    obtain ⟨i, rfl, hil, rfl, hat, hbel⟩ := hrel
    clear hm
    have HA := hide hat
    have HB := hide hbel
    by_cases hlt : i < 32
    · have hii : (i : Int) < 32 := by omega
      have k2 := hat.free i
      have k1 := hat.cell i hlt
      simp only [Nat.lt_irrefl, if_false] at k1
      have HN : Hid (IntsAt (wr.setCell ⟨w.heap.size, i, none⟩ (.int .i64 ((5 : Nat) : Int))) .i64 3 w.heap.size 32 (fun j => if j < i + 1 then 5 else 0) ∧ Below w.heap.size w (wr.setCell ⟨w.heap.size, i, none⟩ (.int .i64 ((5 : Nat) : Int)))) := hide (⟨((unhide HA).set i 5).congr (fun j hj => by
        unfold upd
        by_cases e : j = i
        · subst e; rw [if_pos rfl, if_pos (by omega)]
        · rw [if_neg e]
          show (if j < i then 5 else 0) = _
          by_cases e2 : j < i
          · rw [if_pos e2, if_pos (by omega)]
          · rw [if_neg e2, if_neg (by omega)]), (unhide HB).setCell (Nat.le_refl _) _⟩)
      clear hat hbel HA HB
      go_wp2_with fail
      go_roundg (32 - (i + 1))
      case measure => omega
      case rel => exact ⟨i + 1, rfl, by omega, by go_num, unhide HN⟩
    · obtain rfl : i = 32 := by omega
      clear hat hbel
      go_wp2_with fail
      go_ret
      exact ⟨rfl, (unhide HA).congr (fun j hj => by show (if j < 32 then 5 else 0) = _; rw [if_pos hj]), unhide HB⟩

set_option maxHeartbeats 1000000 in
/-- two lists are held against each other, the first one is spoilt -/
theorem same_ok (ga gb cb n : Nat) (C : Nat → Nat) (w : World) (ha : IntsAt w .i64 3 ga n C) (hb : ∀ j, j < n → w.cell? ⟨gb, j, none⟩ = some (.int .i64 (C j : Int))) (hne : gb ≠ ga) (hn : n ≤ 1000) :
    Calls Try.prog 14 #[.slice (some ⟨ga, 0, none⟩) n n, .slice (some ⟨gb, 0, none⟩) n cb] w fun e w' => e = .returned (.bool true) ∧ Only ga w w' := by
  have HA := hide ha
  have HB := hide hb
  have HE := hide hne
  clear ha hb hne
  go_enter Try.func14, Try.ntmps14
  go_wp2_with fail
  go_loopg [5] n (fun gk c ws => ∃ i, gk = n - i ∧ i ≤ n ∧ c = .int .i64 (i : Int) ∧ (∃ K, ws.heap[ga]? = some (.cells K 3 (0, 0)) ∧ K.size = n ∧ ∀ j, i ≤ j → j < n → K[j]? = some (.int .i64 (C j : Int))) ∧ Only ga w ws)
  case atStart =>
    refine ⟨0, by omega, by omega, rfl, ⟨_, unhide HA, by simp [icells], fun j _ hj => ?_⟩, Only.refl _ _⟩
    simp only [icells, List.getElem?_toArray, List.getElem?_map]
    rw [List.getElem?_range hj]
    simp
  case round =>
    obtain ⟨i, rfl, hil, rfl, ⟨K, hK, hKs, hKj⟩, honly⟩ := hrel
    by_cases hlt : i < n
    · have hii : (i : Int) < (n : Int) := by omega
      have k1 : wr.cell? ⟨ga, i, none⟩ = some (.int .i64 (C i : Int)) := by simp [World.cell?, hK, hKj i (Nat.le_refl _) hlt]
      have k2 : wr.frozen? ⟨ga, i, none⟩ = false := by simp [World.frozen?, hK]
      have k3 : wr.cell? ⟨gb, i, none⟩ = some (.int .i64 (C i : Int)) := by
        have h := unhide HB i hlt
        rw [← h]
        exact World.cell?_of_block (honly.keep gb (cell_lt h) (unhide HE))
      have HN : Hid (∀ q, (∃ K', ((wr.drewN q).setCell ⟨ga, i, none⟩ (.int .i64 (-1))).heap[ga]? = some (.cells K' 3 (0, 0)) ∧ K'.size = n ∧ ∀ j, i + 1 ≤ j → j < n → K'[j]? = some (.int .i64 (C j : Int))) ∧ Only ga w ((wr.drewN q).setCell ⟨ga, i, none⟩ (.int .i64 (-1)))) := hide fun q => ⟨⟨_, heap_setCell_same (wr.drewN q) ga i K 3 _ hK, by simpa using hKs, fun j h1 h2 => by rw [Array.getElem?_setIfInBounds_ne (by omega)]; exact hKj j (by omega) h2⟩, (honly.trans (Only.drewN _ _ q)).set i _⟩
      clear hK hKs hKj honly
      generalize C i = ci at k1 k3
      go_wp2_with fail
      go_quiet (fail)
      go_wp2_with fail
      go_roundg (n - (i + 1))
      case measure => omega
      case rel => exact ⟨i + 1, rfl, by omega, by go_num, unhide HN _⟩
    · obtain rfl : i = n := by omega
      have HO := hide honly
      clear hK hKs hKj honly
      go_wp2_with fail
      go_ret
      exact ⟨rfl, unhide HO⟩

end Go.Proofs.Ytppbnodgnphaaaa
