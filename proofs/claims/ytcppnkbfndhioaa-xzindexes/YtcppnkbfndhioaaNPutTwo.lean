/-
  What number.PutLow and number.PutHigh, and the document's Bytes, Turned and Put tell.
-/
import Derived.Test.YtcppnkbfndhioaaNPut
import Derived.Test.YtcppnkbfndhioaaNOctals
namespace Go.Proofs.Ytcppnkbfndhioaa.N
open Go.RowKit
set_option maxRecDepth 100000

/-- the error of a call that lays n bytes, and the bytes, the lowest first or the highest -/
def putErr (V : Nat) (n : Int) : Int := if n < 1 ∨ 8 < n then 2 else if V < 256 ^ n.toNat then 0 else 3
def lowB (V n : Nat) : List Nat := (List.range n).map fun i => V / 256 ^ i % 256
def highB (V n : Nat) : List Nat := (List.range n).map fun i => V / 256 ^ (n - 1 - i) % 256

theorem putErr_arg {V : Nat} {n : Int} (h : n < 1 ∨ 8 < n) : putErr V n = 2 := by rw [putErr, if_pos h]
theorem putErr_ok {V : Nat} {n : Int} (h : ¬ (n < 1 ∨ 8 < n)) (h2 : V < 256 ^ n.toNat) : putErr V n = 0 := by rw [putErr, if_neg h, if_pos h2]
theorem putErr_big {V : Nat} {n : Int} (h : ¬ (n < 1 ∨ 8 < n)) (h2 : ¬ V < 256 ^ n.toNat) : putErr V n = 3 := by rw [putErr, if_neg h, if_neg h2]
theorem lowB_length (V n : Nat) : (lowB V n).length = n := by simp [lowB]
theorem highB_length (V n : Nat) : (highB V n).length = n := by simp [highB]
theorem lowB_small (V n : Nat) : ∀ z ∈ lowB V n, z < 256 := by
  intro z hz
  simp only [lowB, List.mem_map] at hz
  obtain ⟨i, _, rfl⟩ := hz
  exact Nat.mod_lt _ (by omega)
theorem highB_small (V n : Nat) : ∀ z ∈ highB V n, z < 256 := by
  intro z hz
  simp only [highB, List.mem_map] at hz
  obtain ⟨i, _, rfl⟩ := hz
  exact Nat.mod_lt _ (by omega)

theorem put28_any (v : Value) (zs : List Nat) (V : Nat) (n : Int) (w : World) (hr : Reads w v zs) (hl : zs.length + 8 ≤ 140737488355328) :
    Calls Try.prog 43 #[v, .int .u64 (V : Int), .int .i64 n, .func (.func 44) #[] #[]] w fun e w' => ∃ vx, e = .returned (.tuple #[vx, .int .i64 (putErr V n)]) ∧ Ans (putErr V n) (zs.length + n.toNat) (zs ++ lowB V n.toNat) w.heap.size vx w' ∧ Below w.heap.size w w' := by
  by_cases h : n < 1 ∨ 8 < n
  · rw [putErr_arg h]
    refine (put_arg _ v V n h w).mono ?_
    rintro e w' ⟨rfl, rfl⟩
    exact ⟨_, rfl, .inl ⟨by decide, rfl⟩, Below.refl _ _⟩
  · obtain ⟨N, rfl⟩ := Int.eq_ofNat_of_zero_le (show 0 ≤ n by omega)
    by_cases h2 : V < 256 ^ N
    · rw [putErr_ok h (by simpa using h2)]
      refine (put_ok28 v zs V N (by omega) h2 w hr (by omega)).mono ?_
      rintro e w' ⟨rfl, h3, h4⟩
      rw [rowUp_full] at h3
      exact ⟨_, rfl, .inr ⟨rfl, by simp, by simpa [lowB] using h3⟩, h4⟩
    · rw [putErr_big h (by simpa using h2)]
      refine (put_big _ v V N (by omega) h2 w).mono ?_
      rintro e w' ⟨rfl, rfl⟩
      exact ⟨_, rfl, .inl ⟨by decide, rfl⟩, Below.refl _ _⟩

theorem putLow_any (v : Value) (zs : List Nat) (V : Nat) (n : Int) (w : World) (hr : Reads w v zs) (hl : zs.length + 8 ≤ 140737488355328) :
    Calls Try.prog 36 #[v, .int .u64 (V : Int), .int .i64 n] w fun e w' => ∃ vx, e = .returned (.tuple #[vx, .int .i64 (putErr V n)]) ∧ Ans (putErr V n) (zs.length + n.toNat) (zs ++ lowB V n.toNat) w.heap.size vx w' ∧ Below w.heap.size w w' := by
  have c := put28_any v zs V n w hr hl
  generalize putErr V n = E at *
  go_enter Try.func36, Try.ntmps36
  go_wp2_with (refine c.mono ?_; rintro e w' ⟨vx, rfl, h1, h2⟩; have H1 := hide h1; have H2 := hide h2; clear h1 h2)
  go_ret2
  exact ⟨_, rfl, unhide H1, unhide H2⟩

theorem lowB_succ (V i : Nat) : lowB V (i + 1) = lowB V i ++ [V / 256 ^ i % 256] := by simp [lowB, List.range_succ]

set_option maxRecDepth 100000 in
set_option maxHeartbeats 1000000 in
theorem bytes_ok (V n : Nat) (hn : n ≤ 8) (hV : V < 18446744073709551616) (w : World) :
    Calls Try.prog 38 #[.int .u64 (V : Int), .int .i64 (n : Int)] w fun e w' => ∃ lv, e = .returned lv ∧ w'.ownsRow w.heap.size 5 1 lv n ((lowB V n).map bv) ∧ Below w.heap.size w w' := by
  obtain ⟨i0, hi, hz0, hz1, hz2⟩ := info_parts info5
  go_enter Try.func38, Try.ntmps38
  go_wp2
  go_loopg [0, 5, 6] n (fun gk v o c ws => ∃ i : Nat, gk = n - i ∧ i ≤ n ∧ v = .int .u64 ((V / 256 ^ i : Nat) : Int) ∧ c = .int .i64 (i : Int) ∧ ws.ownsRow w.heap.size 5 1 o i ((lowB V i).map bv) ∧ Below w.heap.size w ws)
  case atStart => exact ⟨0, by omega, by omega, by simp, rfl, World.ownsRow_nil _ _ _ _, Below.refl _ _⟩
  case round =>
    obtain ⟨i, rfl, hil, rfl, rfl, hown, hbel⟩ := hrel
    have HO := hide hown
    have HB := hide hbel
    by_cases hlt : i < n
    · have hlt' : (i : Int) < (n : Int) := by omega
      have HX : Hid (V / 256 ^ (i + 1) = V / 256 ^ i / 256) := hide (by rw [Nat.pow_succ, Nat.div_div_eq_div_mul])
      have HS := hide (lowB_succ V i)
      have hmod : (((V / 256 ^ i : Nat)) : Int) % 256 = ((V / 256 ^ i % 256 : Nat) : Int) := by omega
      have hquo : (((V / 256 ^ i : Nat)) : Int) / 256 = ((V / 256 ^ i / 256 : Nat) : Int) := by omega
      have hx64 : V / 256 ^ i / 256 < 18446744073709551616 := Nat.lt_of_le_of_lt (Nat.le_trans (Nat.div_le_self _ _) (Nat.div_le_self _ _)) hV
      have htd : Int.tdiv (((V / 256 ^ i : Nat)) : Int) 256 = ((V / 256 ^ i / 256 : Nat) : Int) := rfl
      generalize V / 256 ^ i / 256 = q at HX hquo htd hx64
      generalize V / 256 ^ i % 256 = d at HS hmod
      generalize V / 256 ^ i = X at hmod hquo htd ⊢
      have HN : Hid (∀ (j : Nat) u, [bv d][j]? = some u → (wr.alloc (.cells #[bv d] 5)).cell? ((⟨wr.heap.size, 0, none⟩ : Addr).add j) = some u) := hide (news_one _ _)
      have hsz := hbel.size
      clear hown hbel
      go_wp2_with (at_builtin; go_must (refine wpList_append_own _ rfl (.tmp 12) (.tmp 15) 23 rfl w.heap.size 5 i0 (.int .u8 0) 1 1 Try.underlying23 hi hz0 hz1 hz2 rfl (by decide) u5 i _ (by rfl) ((unhide HO).alloc _) ⟨wr.heap.size, 0, none⟩ 1 1 [bv d] (by rfl) rfl (by exact unhide HN) (by intro u hu; simp at hu; subst hu; rfl) (by unfold maxLen; omega) (by omega) (by simp; omega) ?_; intro v' w1 hown' hgrow _; have HO' := hide hown'; have HG := hide hgrow; clear hown' hgrow))
      go_roundg (n - (i + 1))
      case measure => omega
      case rel =>
        refine ⟨i + 1, rfl, by omega, by rw [unhide HX], by go_num, ?_, ?_⟩
        · rw [unhide HS, List.map_append]; exact unhide HO'
        · exact ((unhide HB).alloc hsz _).grown (unhide HG) (by simp; omega) (fun k e => ((unhide HO).lt k e).1)
    · obtain rfl : i = n := by omega
      clear hown hbel
      go_wp2_with fail
      go_ret
      exact ⟨_, rfl, unhide HO, unhide HB⟩

theorem turn_get (L : List Nat) (k : Nat) (h : k < L.length) : L.reverse.take (k + 1) = L.reverse.take k ++ [L.getD (L.length - 1 - k) 0] := by
  rw [List.take_add_one, List.getElem?_eq_getElem (by simpa using h), List.getElem_reverse]
  congr 1
  simp [List.getD_eq_getElem?_getD, show L.length - 1 - k < L.length by omega]

theorem highB_turn (V n : Nat) : (lowB V n).reverse = highB V n := by
  apply List.ext_getElem
  · simp [lowB, highB]
  · intro i h1 h2
    simp [lowB, highB]

theorem own_reads {w : World} {base n : Nat} {v : Value} {zs : List Nat} (h : w.ownsRow base 5 1 v n (zs.map bv)) (hn : zs.length = n) : Reads w v zs := by
  rcases h.2 with ⟨e, e'⟩ | ⟨g, c, _, e, _⟩
  · rw [e]; exact reads_nil _ _ (List.eq_nil_of_length_eq_zero (by omega))
  · rw [e]; exact reads_row (by rw [← e]; exact h) hn

/-- what the document's answer must be: an error and none, or no error and the bytes -/
def Wants (E : Int) (zs : List Nat) (v : Value) (w : World) : Prop := (E ≠ 0 ∧ v = .slice none 0 0) ∨ (E = 0 ∧ Reads w v zs)

end Go.Proofs.Ytcppnkbfndhioaa.N
