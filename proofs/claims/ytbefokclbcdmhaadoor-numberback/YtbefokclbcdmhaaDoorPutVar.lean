/-
  What number.PutVar tells, at this program.
-/
import Derived.Test.YtbefokclbcdmhaaDoorPut
import Derived.Shelf.Strconv.Itoa0
namespace Go.Proofs
open Go.Shelf
def Tryd.lays129_ren : Go.Shelf.Ren := ⟨fun | 129 => 16 | n => n, fun | 53 => 31 | 3 => 3 | 4 => 4 | 46 => 32 | 5 => 5 | 9 => 9 | n => n, fun | n => n⟩
theorem Tryd.lays129 : Go.Proofs.Lays.n129 Tryd.prog Tryd.lays129_ren := {
  mixed := by kernel_rfl
  f129 := Tryd.func16.trans (congrArg some (by kernel_rfl))
  t3 := Tryd.underlying3
  a3 := Tryd.isAgg3
  z3 := Tryd.sizeOf3
  v3 := Tryd.zeroValue3
  t4 := Tryd.underlying4
  a4 := Tryd.isAgg4
  z4 := Tryd.sizeOf4
  v4 := Tryd.zeroValue4
  t5 := Tryd.underlying5
  a5 := Tryd.isAgg5
  z5 := Tryd.sizeOf5
  v5 := Tryd.zeroValue5
  t9 := Tryd.underlying9
  a9 := Tryd.isAgg9
  z9 := Tryd.sizeOf9
  v9 := Tryd.zeroValue9
  t46 := Tryd.underlying32
  a46 := Tryd.isAgg32
  z46 := Tryd.sizeOf32
  v46 := Tryd.zeroValue32
  t53 := Tryd.underlying31
  a53 := Tryd.isAgg31
  z53 := Tryd.sizeOf31
  v53 := Tryd.zeroValue31 }
theorem Tryd.bits_Len64 (x : Int) (w : World) (h0 : 0 ≤ x) (h1 : x ≤ 18446744073709551615) :
    Calls Tryd.prog 16 #[.int .u64 x] w fun e w' => e = .returned (.int .i64 (Lib.bitLen x.toNat)) ∧ w' = w := Any.bits_Len64 Tryd.lays129 x w h0 h1
end Go.Proofs
namespace Go.Proofs.YtbefokclbcdmhaaDoor
open Go.Lib

theorem bitLenAux_le : ∀ (f x : Nat), Go.Lib.bitLenAux f x ≤ f
  | 0, _ => Nat.le_refl _
  | f + 1, x => by
    have := bitLenAux_le f (x / 2)
    rw [Go.Lib.bitLenAux]
    split <;> omega

theorem bitLen_le63 (x : Nat) (h : x < 9223372036854775808) : Go.Lib.bitLen x ≤ 63 := by
  rw [Go.Lib.bitLen, Go.Lib.bitLenAux_fuel 63 x (by omega) 64 (by omega)]
  exact bitLenAux_le 63 x

theorem bitLen_le7 : ∀ n : Fin 128, Go.Lib.bitLen n.val ≤ 7 := by decide +kernel

/-- how many bytes of seven bits -/
def nb (V : Nat) : Nat := max 1 ((Go.Lib.bitLen V + 6) / 7)

theorem nb_small (V : Nat) (h : V < 128) : nb V = 1 := by
  have := bitLen_le7 ⟨V, h⟩
  simp only at this
  unfold nb
  omega

theorem nbLen_pos (x : Nat) (h0 : x ≠ 0) (h : x < 2 ^ 64) : 1 ≤ Go.Lib.bitLen x := by
  rw [Go.Lib.bitLen_half x h0 h]; omega

theorem nb_big (V : Nat) (h : 128 ≤ V) (hV : V < 9223372036854775808) : nb V = 1 + nb (V / 128) := by
  have e := Go.Lib.bitLen_shift 7 V (by omega) (by omega)
  have p := nbLen_pos (V / 2 ^ 7) (by omega) (by omega)
  unfold nb
  rw [e]
  have : V / 2 ^ 7 = V / 128 := rfl
  rw [this] at *
  omega

theorem nb_spec : ∀ (f V : Nat), V < 128 ^ f → V < 9223372036854775808 → V / 128 ^ (nb V - 1) < 128 ∧ ∀ i, i < nb V - 1 → 128 ≤ V / 128 ^ i
  | 0, V, h, _ => by
    obtain rfl : V = 0 := by simpa using h
    rw [nb_small 0 (by omega)]
    exact ⟨by omega, fun i hi => by omega⟩
  | f + 1, V, h, hV => by
    by_cases c : V < 128
    · rw [nb_small V c]
      exact ⟨by omega, fun i hi => by omega⟩
    · have ih := nb_spec f (V / 128) (by rw [Nat.pow_succ] at h; omega) (by omega)
      have e := nb_big V (by omega) hV
      have e1 : 1 ≤ nb (V / 128) := by unfold nb; omega
      have key : ∀ i, V / 128 ^ (i + 1) = V / 128 / 128 ^ i := fun i => by rw [Nat.pow_succ, Nat.mul_comm, Nat.div_div_eq_div_mul]
      refine ⟨?_, fun i hi => ?_⟩
      · rw [show nb V - 1 = (nb (V / 128) - 1) + 1 by omega, key]
        exact ih.1
      · cases i with
        | zero => simpa using c
        | succ i => rw [key]; exact ih.2 i (by omega)

theorem nb_le (V : Nat) (hV : V < 9223372036854775808) : 1 ≤ nb V ∧ nb V ≤ 9 := by
  have := bitLen_le63 V hV
  unfold nb
  omega
end Go.Proofs.YtbefokclbcdmhaaDoor
namespace Go.Proofs.YtbefokclbcdmhaaDoor
open Go.RowKit

/-- the bytes of seven bits each, all but the last with bit 7 set -/
def varUp (V i : Nat) : List Nat := (List.range i).map fun j => V / 128 ^ j % 128 + 128

def varB (V : Nat) : List Nat := varUp V (nb V - 1) ++ [V / 128 ^ (nb V - 1) % 128]

def varErr (V : Nat) : Int := if V < 9223372036854775808 then 0 else 3

theorem varErr_ok {V : Nat} (h : V < 9223372036854775808) : varErr V = 0 := by rw [varErr, if_pos h]

theorem varErr_big {V : Nat} (h : ¬ V < 9223372036854775808) : varErr V = 3 := by rw [varErr, if_neg h]

theorem varUp_length (V i : Nat) : (varUp V i).length = i := by simp [varUp]

theorem varUp_succ (V i : Nat) : varUp V (i + 1) = varUp V i ++ [V / 128 ^ i % 128 + 128] := by simp [varUp, List.range_succ]

theorem varB_length (V : Nat) (h : 1 ≤ nb V) : (varB V).length = nb V := by simp [varB, varUp_length]; omega

theorem varB_small (V : Nat) : ∀ z ∈ varB V, z < 256 := by
  intro z hz
  simp only [varB, varUp, List.mem_append, List.mem_map, List.mem_singleton] at hz
  rcases hz with ⟨j, _, rfl⟩ | rfl <;> omega

theorem shr7 (V r : Nat) : (V : Int) / 2 ^ (7 * r) = ((V / 128 ^ r : Nat) : Int) := by
  have h8 : 128 ^ r = 2 ^ (7 * r) := by rw [Nat.pow_mul]
  rw [h8]
  simp

theorem or128 (X : Nat) : bits .or .u8 ((X : Int) % 256) 128 = ((X % 128 + 128 : Nat) : Int) := by
  have h := u8_or_nat (X % 256) 128 (by omega) (by omega)
  rw [show ((X : Int) % 256) = ((X % 256 : Nat) : Int) by omega]
  have e : X % 256 ||| 128 = X % 128 + 128 := by
    have hx : X % 128 ||| 128 = X % 128 + 128 := by
      have := Nat.two_pow_add_eq_or_of_lt (i := 7) (b := X % 128) (by omega) 1
      rw [Nat.or_comm]
      simp at this
      omega
    by_cases c : X % 256 < 128
    · rw [show X % 256 = X % 128 by omega, hx]
    · rw [show X % 256 = 128 + X % 128 by omega]
      have := Nat.two_pow_add_eq_or_of_lt (i := 7) (b := X % 128) (by omega) 1
      simp at this
      rw [this, Nat.or_comm, ← Nat.or_assoc, Nat.or_self, ← this]
      omega
  rw [e] at h
  exact h

theorem andNot128 (x : Nat) (hx : x < 128) : bits .andNot .u8 ((x : Int) + 128) 128 = (x : Int) := by
  have h := u8_andNot_nat (x + 128) 128 (by omega) (by omega)
  have e : (x + 128) &&& (255 - 128) = x := by
    have : (x + 128) &&& (2 ^ 7 - 1) = x := by rw [Nat.and_two_pow_sub_one_eq_mod]; omega
    exact this
  rw [e] at h
  exact h

theorem rowUp_last (zs : List Nat) (V n : Nat) (h : 1 ≤ n) : rowUp zs (fun j => V / 128 ^ j % 128 + 128) n n = (zs ++ varUp V (n - 1)) ++ [V / 128 ^ (n - 1) % 128 + 128] := by
  obtain ⟨m, rfl⟩ : ∃ m, n = m + 1 := ⟨n - 1, by omega⟩
  rw [rowUp_full, List.range_succ, List.map_append, ← List.append_assoc]
  rfl

set_option maxRecDepth 100000 in
set_option maxHeartbeats 1000000 in
theorem putVar_ok (v : Value) (zs : List Nat) (V : Nat) (hV : V < 9223372036854775808) (w : World) (hr : Reads w v zs) (hl : zs.length + 9 ≤ 140737488355328) :
    Calls Tryd.prog 10 #[v, .int .u64 (V : Int)] w fun e w' => e = .returned (.tuple #[.slice (some ⟨w.heap.size, 0, none⟩) (zs.length + nb V) (zs.length + nb V), .int .i64 0]) ∧
      w'.heap[w.heap.size]? = some (.cells ((zs ++ varB V).map bv).toArray 5 (0, 0)) ∧ Below w.heap.size w w' := by
  have hq : (V : Int) / 9223372036854775808 = 0 := by omega
  have cl := fun w => Tryd.bits_Len64 (V : Int) w (by omega) (by omega)
  have hn := nb_le V hV
  have hnb : nb V = max 1 ((Lib.bitLen V + 6) / 7) := rfl
  have hbl := bitLen_le63 V hV
  have hmx : max 1 ((((Lib.bitLen V : Nat) : Int) + 6) / 7) = ((nb V : Nat) : Int) := by rw [hnb]; omega
  simp only [Int.toNat_natCast] at cl
  have HVB : Hid (varB V = varUp V (nb V - 1) ++ [V / 128 ^ (nb V - 1) % 128]) := hide rfl
  clear hnb
  generalize varB V = vb at *
  generalize Lib.bitLen V = B at *
  generalize nb V = n at *
  have HR := hide hr
  obtain ⟨a, cap, rfl, _⟩ := hr
  go_enter Tryd.func10, Tryd.ntmps10
  go_wp2_with (go_at_call 16; refine (cl _).mono ?_; rintro e w' ⟨rfl, hw⟩; rw [hw])
  refine (longer_ok _ zs n _ (unhide HR) (by omega)).mono ?_
  rintro e w1 ⟨rfl, hrow, hbel⟩
  rw [← rowUp_zero zs (fun j => V / 128 ^ j % 128 + 128) n] at hrow
  have HROW := hide hrow
  have HB := hide hbel
  have HV7 := hide (fun r => shr7 V r)
  clear hrow hbel cl HR hmx hbl
  go_wp2_with fail
  go_loopg [8, 21] n (fun gk u c ws => ∃ i : Nat, gk = n - i ∧ i ≤ n ∧ c = .int .i64 (i : Int) ∧ ws.heap[w.heap.size]? = some (.cells ((rowUp zs (fun j => V / 128 ^ j % 128 + 128) n i).map bv).toArray 5 (0, 0)) ∧ Below w.heap.size w ws)
  case atStart => exact ⟨0, by omega, by omega, rfl, unhide HROW, unhide HB⟩
  case round =>
    obtain ⟨i, rfl, hil, rfl, hrow, hbel⟩ := hrel
    clear HROW HB
    by_cases hlt : i < n
    · have hlt' : (i : Int) < (n : Int) := by omega
      have h3 : (0 : Int) ≤ 7 * (i : Int) := by omega
      have hsv := unhide HV7 i
      have HS : Hid ((rowUp zs (fun j => V / 128 ^ j % 128 + 128) n i).set (zs.length + i) (V / 128 ^ i % 128 + 128) = _) := hide (rowUp_set zs (fun j => V / 128 ^ j % 128 + 128) n i hlt)
      have hlen := rowUp_length zs (fun j => V / 128 ^ j % 128 + 128) n i
      have hor := or128 (V / 128 ^ i)
      generalize V / 128 ^ i % 128 + 128 = d at hor HS
      generalize V / 128 ^ i = X at hsv hor
      have hco : ∃ y : Int, wr.cell? ⟨w.heap.size, zs.length + i, none⟩ = some (.int .u8 y) := ⟨_, by
        simp only [World.cell?, hrow]
        rw [List.getElem?_toArray, List.getElem?_map, List.getElem?_eq_getElem (by omega)]
        rfl⟩
      obtain ⟨y, hco⟩ := hco
      have hfo : wr.frozen? ⟨w.heap.size, zs.length + i, none⟩ = false := by simp [World.frozen?, hrow]
      have HROW := hide hrow
      have HBEL := hide hbel
      clear hbel hrow hlen
      go_wp2_with fail
      go_roundg (n - (i + 1))
      case measure => omega
      case rel =>
        refine ⟨i + 1, rfl, by omega, by go_num, ?_, ?_⟩
        · rw [← unhide HS]
          exact set_bvp (unhide HROW)
        · exact (Only.set ⟨(unhide HBEL).os, (unhide HBEL).tape, (unhide HBEL).output, (unhide HBEL).size, fun x hx _ => (unhide HBEL).block x hx⟩ _ _).below (Nat.le_refl _) (Nat.le_refl _)
    · obtain rfl : i = n := by omega
      rw [rowUp_last zs V i hn.1] at hrow
      have hx := Nat.mod_lt (V / 128 ^ (i - 1)) (show 128 > 0 by omega)
      generalize V / 128 ^ (i - 1) % 128 = x at HVB hrow hx
      have hlen : (zs ++ varUp V (i - 1)).length = zs.length + i - 1 := by simp [varUp_length]; omega
      have hco : wr.cell? ⟨w.heap.size, zs.length + i - 1, none⟩ = some (.int .u8 ((x : Int) + 128)) := by
        simp only [World.cell?, hrow]
        rw [List.getElem?_toArray, List.getElem?_map, List.getElem?_append_right (by omega), hlen, Nat.sub_self]
        rfl
      have hfo : wr.frozen? ⟨w.heap.size, zs.length + i - 1, none⟩ = false := by simp [World.frozen?, hrow]
      have han := andNot128 x hx
      have HROW := hide hrow
      have HBEL := hide hbel
      have HLEN := hide hlen
      clear hbel hrow hlen
      go_wp2_with fail
      go_ret2
      have e := set_bvp (p := zs.length + i - 1) (x := x) (unhide HROW)
      rw [← unhide HLEN, List.set_append_right _ _ (Nat.le_refl _), Nat.sub_self] at e
      have e2 : zs ++ vb = zs ++ varUp V (i - 1) ++ [x] := by rw [unhide HVB, List.append_assoc]
      refine ⟨rfl, ?_, ?_⟩
      · rw [← unhide HLEN, e2]
        exact e
      · exact (Only.set ⟨(unhide HBEL).os, (unhide HBEL).tape, (unhide HBEL).output, (unhide HBEL).size, fun x hx _ => (unhide HBEL).block x hx⟩ _ _).below (Nat.le_refl _) (Nat.le_refl _)

end Go.Proofs.YtbefokclbcdmhaaDoor
