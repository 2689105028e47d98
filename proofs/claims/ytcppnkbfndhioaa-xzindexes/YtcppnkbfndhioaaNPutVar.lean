/-
  What number.PutVar and the document's PutVar tell.
-/
import Derived.Test.YtcppnkbfndhioaaNPutTwo
import Derived.Test.YtcppnkbfndhioaaNLen
namespace Go.Proofs.Ytcppnkbfndhioaa.N
open Go.RowKit
set_option maxRecDepth 100000

/-- the bytes of seven bits each, all but the last with bit 7 set -/
def varUp (V i : Nat) : List Nat := (List.range i).map fun j => V / 128 ^ j % 128 + 128
def varB (V : Nat) : List Nat := varUp V (nb V - 1) ++ [V / 128 ^ (nb V - 1) % 128]
def varErr (V : Nat) : Int := if V < 9223372036854775808 then 0 else 3
theorem varErr_ok {V : Nat} (h : V < 9223372036854775808) : varErr V = 0 := by rw [varErr, if_pos h]
theorem varErr_big {V : Nat} (h : ¬ V < 9223372036854775808) : varErr V = 3 := by rw [varErr, if_neg h]
theorem varUp_length (V i : Nat) : (varUp V i).length = i := by simp [varUp]
theorem varUp_succ (V i : Nat) : varUp V (i + 1) = varUp V i ++ [V / 128 ^ i % 128 + 128] := by simp [varUp, List.range_succ]
theorem varB_length (V : Nat) (h : 1 ≤ nb V) : (varB V).length = nb V := by simp [varB, varUp_length]; omega
theorem varB_small (V : Nat) : ∀ z ∈ varB V, z < 256 := by
  intro z hz
  simp only [varB, varUp, List.mem_append, List.mem_map, List.mem_singleton] at hz
  rcases hz with ⟨j, _, rfl⟩ | rfl <;> omega

theorem shr7 (V r : Nat) : (V : Int) / 2 ^ (7 * r) = ((V / 128 ^ r : Nat) : Int) := by
  have h8 : 128 ^ r = 2 ^ (7 * r) := by rw [Nat.pow_mul]
  rw [h8]
  simp

theorem or128 (X : Nat) : bits .or .u8 ((X : Int) % 256) 128 = ((X % 128 + 128 : Nat) : Int) := by
  have h := u8_or_nat (X % 256) 128 (by omega) (by omega)
  rw [show ((X : Int) % 256) = ((X % 256 : Nat) : Int) by omega]
  have e : X % 256 ||| 128 = X % 128 + 128 := by
    have hx : X % 128 ||| 128 = X % 128 + 128 := by
      have := Nat.two_pow_add_eq_or_of_lt (i := 7) (b := X % 128) (by omega) 1
      rw [Nat.or_comm]
      simp at this
      omega
    by_cases c : X % 256 < 128
    · rw [show X % 256 = X % 128 by omega, hx]
    · rw [show X % 256 = 128 + X % 128 by omega]
      have := Nat.two_pow_add_eq_or_of_lt (i := 7) (b := X % 128) (by omega) 1
      simp at this
      rw [this, Nat.or_comm, ← Nat.or_assoc, Nat.or_self, ← this]
      omega
  rw [e] at h
  exact h

theorem andNot128 (x : Nat) (hx : x < 128) : bits .andNot .u8 ((x : Int) + 128) 128 = (x : Int) := by
  have h := u8_andNot_nat (x + 128) 128 (by omega) (by omega)
  have e : (x + 128) &&& (255 - 128) = x := by
    have : (x + 128) &&& (2 ^ 7 - 1) = x := by rw [Nat.and_two_pow_sub_one_eq_mod]; omega
    exact this
  rw [e] at h
  exact h

theorem rowUp_last (zs : List Nat) (V n : Nat) (h : 1 ≤ n) : rowUp zs (fun j => V / 128 ^ j % 128 + 128) n n = (zs ++ varUp V (n - 1)) ++ [V / 128 ^ (n - 1) % 128 + 128] := by
  obtain ⟨m, rfl⟩ : ∃ m, n = m + 1 := ⟨n - 1, by omega⟩
  rw [rowUp_full, List.range_succ, List.map_append, ← List.append_assoc]
  rfl

theorem putVar_big (v : Value) (V : Nat) (h : ¬ V < 9223372036854775808) (hV : V < 18446744073709551616) (w : World) :
    Calls Try.prog 25 #[v, .int .u64 (V : Int)] w fun e w' => e = .returned (.tuple #[.slice none 0 0, .int .i64 3]) ∧ w' = w := by
  have hq : (V : Int) / 9223372036854775808 = 1 := by omega
  clear h
  go_enter Try.func25, Try.ntmps25
  go_wp2_with fail
  go_ret2
  exact ⟨rfl, rfl⟩

set_option maxRecDepth 100000 in
set_option maxHeartbeats 1000000 in
theorem putVar_ok (v : Value) (zs : List Nat) (V : Nat) (hV : V < 9223372036854775808) (w : World) (hr : Reads w v zs) (hl : zs.length + 9 ≤ 140737488355328) :
    Calls Try.prog 25 #[v, .int .u64 (V : Int)] w fun e w' => e = .returned (.tuple #[.slice (some ⟨w.heap.size, 0, none⟩) (zs.length + nb V) (zs.length + nb V), .int .i64 0]) ∧
      w'.heap[w.heap.size]? = some (.cells ((zs ++ varB V).map bv).toArray 5 (0, 0)) ∧ Below w.heap.size w w' := by
  have hq : (V : Int) / 9223372036854775808 = 0 := by omega
  have cl := fun w => Try.bits_Len64 (V : Int) w (by omega) (by omega)
  have hn := nb_le V hV
  have hnb : nb V = max 1 ((Lib.bitLen V + 6) / 7) := rfl
  have hbl := bitLen_le63 V hV
  have hmx : max 1 ((((Lib.bitLen V : Nat) : Int) + 6) / 7) = ((nb V : Nat) : Int) := by rw [hnb]; omega
  simp only [Int.toNat_natCast] at cl
  have HVB : Hid (varB V = varUp V (nb V - 1) ++ [V / 128 ^ (nb V - 1) % 128]) := hide rfl
  clear hnb
  generalize varB V = vb at *
  generalize Lib.bitLen V = B at *
  generalize nb V = n at *
  have HR := hide hr
  obtain ⟨a, cap, rfl, _⟩ := hr
  go_enter Try.func25, Try.ntmps25
  go_wp2_with (go_at_call 34; refine (cl _).mono ?_; rintro e w' ⟨rfl, hw⟩; rw [hw])
  refine (longer_ok _ zs n _ (unhide HR) (by omega)).mono ?_
  rintro e w1 ⟨rfl, hrow, hbel⟩
  rw [← rowUp_zero zs (fun j => V / 128 ^ j % 128 + 128) n] at hrow
  have HROW := hide hrow
  have HB := hide hbel
  have HV7 := hide (fun r => shr7 V r)
  clear hrow hbel cl HR hmx hbl
  go_wp2_with fail
  go_loopg [8, 21] n (fun gk u c ws => ∃ i : Nat, gk = n - i ∧ i ≤ n ∧ c = .int .i64 (i : Int) ∧ ws.heap[w.heap.size]? = some (.cells ((rowUp zs (fun j => V / 128 ^ j % 128 + 128) n i).map bv).toArray 5 (0, 0)) ∧ Below w.heap.size w ws)
  case atStart => exact ⟨0, by omega, by omega, rfl, unhide HROW, unhide HB⟩
  case round =>
    obtain ⟨i, rfl, hil, rfl, hrow, hbel⟩ := hrel
    clear HROW HB
    by_cases hlt : i < n
    · have hlt' : (i : Int) < (n : Int) := by omega
      have h3 : (0 : Int) ≤ 7 * (i : Int) := by omega
      have hsv := unhide HV7 i
      have HS : Hid ((rowUp zs (fun j => V / 128 ^ j % 128 + 128) n i).set (zs.length + i) (V / 128 ^ i % 128 + 128) = _) := hide (rowUp_set zs (fun j => V / 128 ^ j % 128 + 128) n i hlt)
      have hlen := rowUp_length zs (fun j => V / 128 ^ j % 128 + 128) n i
      have hor := or128 (V / 128 ^ i)
      generalize V / 128 ^ i % 128 + 128 = d at hor HS
      generalize V / 128 ^ i = X at hsv hor
      have hco : ∃ y : Int, wr.cell? ⟨w.heap.size, zs.length + i, none⟩ = some (.int .u8 y) := ⟨_, by
        simp only [World.cell?, hrow]
        rw [List.getElem?_toArray, List.getElem?_map, List.getElem?_eq_getElem (by omega)]
        rfl⟩
      obtain ⟨y, hco⟩ := hco
      have hfo : wr.frozen? ⟨w.heap.size, zs.length + i, none⟩ = false := by simp [World.frozen?, hrow]
      have HROW := hide hrow
      have HBEL := hide hbel
      clear hbel hrow hlen
      go_wp2_with fail
      go_roundg (n - (i + 1))
      case measure => omega
      case rel =>
        refine ⟨i + 1, rfl, by omega, by go_num, ?_, ?_⟩
        · rw [← unhide HS]
          exact set_bvp (unhide HROW)
        · exact (Only.set ⟨(unhide HBEL).os, (unhide HBEL).tape, (unhide HBEL).output, (unhide HBEL).size, fun x hx _ => (unhide HBEL).block x hx⟩ _ _).below (Nat.le_refl _) (Nat.le_refl _)
    · obtain rfl : i = n := by omega
      rw [rowUp_last zs V i hn.1] at hrow
      have hx := Nat.mod_lt (V / 128 ^ (i - 1)) (show 128 > 0 by omega)
      generalize V / 128 ^ (i - 1) % 128 = x at HVB hrow hx
      have hlen : (zs ++ varUp V (i - 1)).length = zs.length + i - 1 := by simp [varUp_length]; omega
      have hco : wr.cell? ⟨w.heap.size, zs.length + i - 1, none⟩ = some (.int .u8 ((x : Int) + 128)) := by
        simp only [World.cell?, hrow]
        rw [List.getElem?_toArray, List.getElem?_map, List.getElem?_append_right (by omega), hlen, Nat.sub_self]
        rfl
      have hfo : wr.frozen? ⟨w.heap.size, zs.length + i - 1, none⟩ = false := by simp [World.frozen?, hrow]
      have han := andNot128 x hx
      have HROW := hide hrow
      have HBEL := hide hbel
      have HLEN := hide hlen
      clear hbel hrow hlen
      go_wp2_with fail
      go_ret2
      have e := set_bvp (p := zs.length + i - 1) (x := x) (unhide HROW)
      rw [← unhide HLEN, List.set_append_right _ _ (Nat.le_refl _), Nat.sub_self] at e
      have e2 : zs ++ vb = zs ++ varUp V (i - 1) ++ [x] := by rw [unhide HVB, List.append_assoc]
      refine ⟨rfl, ?_, ?_⟩
      · rw [← unhide HLEN, e2]
        exact e
      · exact (Only.set ⟨(unhide HBEL).os, (unhide HBEL).tape, (unhide HBEL).output, (unhide HBEL).size, fun x hx _ => (unhide HBEL).block x hx⟩ _ _).below (Nat.le_refl _) (Nat.le_refl _)

theorem putVar_any (v : Value) (zs : List Nat) (V : Nat) (hV : V < 18446744073709551616) (w : World) (hr : Reads w v zs) (hl : zs.length + 9 ≤ 140737488355328) :
    Calls Try.prog 25 #[v, .int .u64 (V : Int)] w fun e w' => ∃ vx, e = .returned (.tuple #[vx, .int .i64 (varErr V)]) ∧ Ans (varErr V) (zs.length + nb V) (zs ++ varB V) w.heap.size vx w' ∧ Below w.heap.size w w' := by
  by_cases h : V < 9223372036854775808
  · rw [varErr_ok h]
    refine (putVar_ok v zs V h w hr hl).mono ?_
    rintro e w' ⟨rfl, h3, h4⟩
    exact ⟨_, rfl, .inr ⟨rfl, rfl, h3⟩, h4⟩
  · rw [varErr_big h]
    refine (putVar_big v V h hV w).mono ?_
    rintro e w' ⟨rfl, rfl⟩
    exact ⟨_, rfl, .inl ⟨by decide, rfl⟩, Below.refl _ _⟩

theorem refPutVar_big (V : Nat) (h : ¬ V < 9223372036854775808) (hV : V < 18446744073709551616) (w : World) :
    Calls Try.prog 16 #[.int .u64 (V : Int)] w fun e w' => e = .returned (.tuple #[.slice none 0 0, .int .i64 3]) ∧ w' = w := by
  have hq : (V : Int) / 9223372036854775808 = 1 := by omega
  clear h
  go_enter Try.func16, Try.ntmps16
  go_wp2_with fail
  go_ret2
  exact ⟨rfl, rfl⟩

set_option maxRecDepth 100000 in
set_option maxHeartbeats 1000000 in
theorem refPutVar_ok (V : Nat) (hV : V < 9223372036854775808) (w : World) :
    Calls Try.prog 16 #[.int .u64 (V : Int)] w fun e w' => ∃ lv, e = .returned (.tuple #[lv, .int .i64 0]) ∧ w'.ownsRow w.heap.size 5 1 lv (nb V) ((varB V).map bv) ∧ Below w.heap.size w w' := by
  obtain ⟨i0, hi, hz0, hz1, hz2⟩ := info_parts info5
  have hq : (V : Int) / 9223372036854775808 = 0 := by omega
  have hn := nb_le V hV
  have hsp := nb_spec 9 V (by omega) hV
  have HVB : Hid (varB V = varUp V (nb V - 1) ++ [V / 128 ^ (nb V - 1) % 128]) := hide rfl
  generalize varB V = vb at *
  generalize nb V = n at *
  have HSP := hide hsp
  clear hsp
  go_enter Try.func16, Try.ntmps16
  go_wp2_with fail
  go_loopg [0, 4] (n - 1) (fun gk v o ws => ∃ i : Nat, gk = n - 1 - i ∧ i ≤ n - 1 ∧ v = .int .u64 ((V / 128 ^ i : Nat) : Int) ∧ ws.ownsRow w.heap.size 5 1 o i ((varUp V i).map bv) ∧ Below w.heap.size w ws)
  case atStart => exact ⟨0, by omega, by omega, by simp, World.ownsRow_nil _ _ _ _, Below.refl _ _⟩
  case round =>
    obtain ⟨i, rfl, hil, rfl, hown, hbel⟩ := hrel
    have HO := hide hown
    have HB := hide hbel
    have hsz := hbel.size
    have hxV : V / 128 ^ i < 9223372036854775808 := Nat.lt_of_le_of_lt (Nat.div_le_self _ _) hV
    by_cases hlt : i < n - 1
    · have hge := (unhide HSP).2 i hlt
      have HX : Hid (V / 128 ^ (i + 1) = V / 128 ^ i / 128) := hide (by rw [Nat.pow_succ, Nat.div_div_eq_div_mul])
      have HS := hide (varUp_succ V i)
      have hge' : (128 : Int) ≤ ((V / 128 ^ i : Nat) : Int) := by omega
      have hmod : Int.tmod ((V / 128 ^ i : Nat) : Int) 128 = ((V / 128 ^ i % 128 : Nat) : Int) := rfl
      have hmod' : ((V / 128 ^ i : Nat) : Int) % 128 = ((V / 128 ^ i % 128 : Nat) : Int) := by omega
      have hquo : Int.tdiv ((V / 128 ^ i : Nat) : Int) 128 = ((V / 128 ^ i / 128 : Nat) : Int) := rfl
      have hquo' : ((V / 128 ^ i : Nat) : Int) / 128 = ((V / 128 ^ i / 128 : Nat) : Int) := by omega
      have hd := Nat.mod_lt (V / 128 ^ i) (show 128 > 0 by omega)
      have hq2 : V / 128 ^ i / 128 < 9223372036854775808 := by omega
      generalize V / 128 ^ i / 128 = q at HX hquo hquo' hq2
      generalize V / 128 ^ i % 128 = d at HS hmod hmod' hd
      generalize V / 128 ^ i = X at hge' hmod hmod' hquo hquo' hxV ⊢
      have HN : Hid (∀ (j : Nat) u, [bv (d + 128)][j]? = some u → (wr.alloc (.cells #[bv (d + 128)] 5)).cell? ((⟨wr.heap.size, 0, none⟩ : Addr).add j) = some u) := hide (news_one _ _)
      clear hown hbel hge
      go_wp2_with (at_builtin; go_must (refine wpList_append_own _ rfl (.tmp 10) (.tmp 15) 23 rfl w.heap.size 5 i0 (.int .u8 0) 1 1 Try.underlying23 hi hz0 hz1 hz2 rfl (by decide) u4 i _ (by rfl) ((unhide HO).alloc _) ⟨wr.heap.size, 0, none⟩ 1 1 [bv (d + 128)] (by rfl) rfl (by exact unhide HN) (by intro u hu; simp at hu; subst hu; rfl) (by unfold maxLen; omega) (by omega) (by simp; omega) ?_; intro v' w1 hown' hgrow _; have HO' := hide hown'; have HG := hide hgrow; clear hown' hgrow))
      go_roundg (n - 1 - (i + 1))
      case measure => omega
      case rel =>
        refine ⟨i + 1, rfl, by omega, by rw [unhide HX], ?_, ?_⟩
        · rw [unhide HS, List.map_append]; exact unhide HO'
        · exact ((unhide HB).alloc hsz _).grown (unhide HG) (by simp; omega) (fun k e => ((unhide HO).lt k e).1)
    · obtain rfl : i = n - 1 := by omega
      have hlt2 := (unhide HSP).1
      have hdm : V / 128 ^ (n - 1) % 128 = V / 128 ^ (n - 1) := Nat.mod_eq_of_lt hlt2
      rw [hdm] at HVB
      generalize V / 128 ^ (n - 1) = X at hxV hlt2 HVB ⊢
      have HN : Hid (∀ (j : Nat) u, [bv X][j]? = some u → (wr.alloc (.cells #[bv X] 5)).cell? ((⟨wr.heap.size, 0, none⟩ : Addr).add j) = some u) := hide (news_one _ _)
      have hlt3 : (X : Int) < 128 := by omega
      clear hown hbel hdm
      go_wp2_with (at_builtin; go_must (refine wpList_append_own _ rfl (.tmp 19) (.tmp 22) 23 rfl w.heap.size 5 i0 (.int .u8 0) 1 1 Try.underlying23 hi hz0 hz1 hz2 rfl (by decide) u4 (n - 1) _ (by rfl) ((unhide HO).alloc _) ⟨wr.heap.size, 0, none⟩ 1 1 [bv X] (by rfl) rfl (by exact unhide HN) (by intro u hu; simp at hu; subst hu; rfl) (by unfold maxLen; omega) (by omega) (by simp; omega) ?_; intro v' w1 hown' hgrow _; have HO' := hide hown'; have HG := hide hgrow; clear hown' hgrow))
      go_ret2
      refine ⟨_, rfl, ?_, ((unhide HB).alloc hsz _).grown (unhide HG) (by simp; omega) (fun k e => ((unhide HO).lt k e).1)⟩
      have e := unhide HO'
      rw [show n - 1 + 1 = n by omega] at e
      rw [unhide HVB]
      simpa using e
end Go.Proofs.Ytcppnkbfndhioaa.N
