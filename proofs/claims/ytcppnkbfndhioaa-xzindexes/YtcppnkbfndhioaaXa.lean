/- What an index is, and the small calls of its making. -/
import Derived.Test.YtcppnkbfndhioaaRo
import Derived.Test.YtcppnkbfndhioaaNPutVar
import Derived.Test.YtcppnkbfndhioaaNVar
import Derived.Test.YtcppnkbfndhioaaSRef
namespace Go.Proofs.Ytcppnkbfndhioaa
open Go.RowKit
set_option maxRecDepth 100000
set_option linter.unusedVariables false

theorem own_base {w : World} {B B' e size n : Nat} {v : Value} {xs : List Value} (h : w.ownsRow B' e size v n xs) (hB : B ≤ B') : w.ownsRow B e size v n xs := by
  obtain ⟨hl, hr⟩ := h
  refine ⟨hl, ?_⟩
  rcases hr with e | ⟨g, cap, cur, e, hb, r⟩
  · exact .inl e
  · exact .inr ⟨g, cap, cur, e, by omega, r⟩

/-- the sum of bytes -/
def crc0 (zs : List Nat) : Nat := S.sum32 (S.lstep S.pl) 1 0 zs
/-- how many bytes fill up so many -/
def lack (n : Nat) : Nat := (4 - n % 4) % 4
def fillB (zs : List Nat) : List Nat := zs ++ List.replicate (lack zs.length) 0
def crcB (zs : List Nat) : List Nat := N.lowB (crc0 zs) 4
/-- a record may be -/
def may (s t : Int) : Bool := decide (5 ≤ s) && (decide (s ≤ 1099511627776) && (decide (0 ≤ t) && decide (t ≤ 1099511627776)))

theorem crc0_lt (zs : List Nat) (hz : ∀ z ∈ zs, z < 256) : crc0 zs < 4294967296 := by
  unfold crc0 S.sum32
  refine Nat.xor_lt_two_pow (n := 32) (by omega) ?_
  exact S.crc_lt (k := 32) rfl (fun r hr => S.lstep_lt (w := 32) (by decide) hr) _ (fun z h => by have := hz z h; omega) _ (Nat.xor_lt_two_pow (n := 32) (by omega) (by omega))

theorem lack_lt (n : Nat) : lack n < 4 := Nat.mod_lt _ (by omega)

theorem lacking_ok (n : Nat) (w : World) (hn : n ≤ 140737488355328) : Calls Try.prog 26 #[.int .i64 (n : Int)] w fun e w' => e = .returned (.int .i64 (lack n : Int)) ∧ w' = w := by
  have h1 : Int.tmod (n : Int) 4 = ((n % 4 : Nat) : Int) := rfl
  have h2 := Nat.mod_lt n (show 4 > 0 by omega)
  have H3 : Hid (lack n = (4 - n % 4) % 4) := hide rfl
  generalize n % 4 = q at *
  generalize lack n = k at *
  have h4 : Int.tmod (4 - (q : Int)) 4 = (k : Int) := by rw [unhide H3, show (4 : Int) - (q : Int) = ((4 - q : Nat) : Int) by omega]; rfl
  go_enter Try.func26, Try.ntmps26
  go_wp2_with fail
  go_ret
  exact ⟨rfl, rfl⟩

theorem long_ok (n : Nat) (w : World) (hn : n < 9223372036854775808) : Calls Try.prog 13 #[.int .i64 (n : Int)] w fun e w' => ∃ v, e = .returned v ∧ StB w w' v (N.varB n) := by
  have H := hide (N.putVar_any (.slice none 0 0) [] n (by omega) w (N.reads_nil w [] rfl) (by simp))
  go_enter Try.func13, Try.ntmps13
  go_wp2_with fail
  refine (unhide H).mono ?_
  rintro e w1 ⟨vx, rfl, h1, h2⟩
  rw [N.varErr_ok hn] at h1 ⊢
  have H1 := hide h1
  have H2 := hide h2
  clear h1 h2 H
  go_wp2_with fail
  go_ret
  refine ⟨_, rfl, ?_⟩
  rcases unhide H1 with ⟨h, _⟩ | ⟨_, rfl, h⟩
  · exact absurd rfl h
  · have hb := N.nb_le n hn
    have hl := N.varB_length n hb.1
    have := StB.block (unhide H2) (Nat.le_refl _) (xs := N.varB n) (by simpa using h) (by omega)
    rw [hl] at this
    simpa using this

theorem low_ok (V : Nat) (w : World) (hV : V < 4294967296) : Calls Try.prog 27 #[.int .u64 (V : Int), .int .i64 4] w fun e w' => ∃ v, e = .returned v ∧ StB w w' v (N.lowB V 4) := by
  have H := hide (N.putLow_any (.slice none 0 0) [] V 4 w (N.reads_nil w [] rfl) (by simp))
  have he : N.putErr V 4 = 0 := N.putErr_ok (by omega) hV
  rw [he] at H
  go_enter Try.func27, Try.ntmps27
  go_wp2_with fail
  refine (unhide H).mono ?_
  rintro e w1 ⟨vx, rfl, h1, h2⟩
  have H1 := hide h1
  have H2 := hide h2
  clear h1 h2 H
  go_wp2_with fail
  go_ret
  refine ⟨_, rfl, ?_⟩
  rcases unhide H1 with ⟨h, _⟩ | ⟨_, rfl, h⟩
  · exact absurd rfl h
  · exact StB.block (unhide H2) (Nat.le_refl _) (xs := N.lowB V 4) (by simpa using h) (by simp [N.lowB_length])

theorem sumOf_ok (v : Value) (zs : List Nat) (w : World) (hv : Reads w v zs) (hz : ∀ z ∈ zs, z < 256) (hn : zs.length ≤ 140737488355328) : Calls Try.prog 15 #[v] w fun e w' => ∃ v', e = .returned v' ∧ StB w w' v' (crcB zs) := by
  have H := hide (S.crc32_walk 0 v zs w (by omega) hv hz hn)
  have hc := crc0_lt zs hz
  have HD : Hid (crcB zs = N.lowB (crc0 zs) 4) := hide rfl
  have HE : Hid (crc0 zs = S.sum32 (S.lstep S.pl) 1 0 zs) := hide rfl
  generalize crc0 zs = c at *
  rw [← unhide HE] at H
  clear hz hn hv
  go_enter Try.func15, Try.ntmps15
  go_wp2_with fail
  refine (unhide H).mono ?_
  rintro e w1 ⟨rfl, h1⟩
  have H1 := hide h1
  have HL := hide (low_ok c w1 hc)
  clear h1 H
  go_wp2_with fail
  refine (unhide HL).mono ?_
  rintro e w2 ⟨v', rfl, h2⟩
  have H2 := hide h2
  clear h2
  go_wp2_with fail
  go_ret
  have h2 := unhide H2
  exact ⟨_, rfl, by rw [unhide HD]; exact ⟨own_base h2.own (unhide H1).size, (unhide H1).trans (h2.bel.mono (unhide H1).size)⟩⟩

theorem four_ok (V : Nat) (w : World) (hV : V < 4294967296) : Calls Try.prog 29 #[.int .i64 (V : Int)] w fun e w' => ∃ v, e = .returned v ∧ StB w w' v (N.lowB V 4) := by
  have H := hide (N.bytes_ok V 4 (by omega) (by omega) w)
  go_enter Try.func29, Try.ntmps29
  go_wp2_with fail
  refine (unhide H).mono ?_
  rintro e w1 ⟨vx, rfl, h1, h2⟩
  have H1 := hide h1
  have H2 := hide h2
  clear h1 h2 H
  go_wp2_with fail
  go_ret
  exact ⟨_, rfl, by rw [N.lowB_length]; exact unhide H1, unhide H2⟩

theorem refCrc_ok (v : Value) (zs : List Nat) (w : World) (hv : Reads w v zs) (hz : ∀ z ∈ zs, z < 256) (hn : zs.length ≤ 140737488355328) : Calls Try.prog 19 #[v] w fun e w' => ∃ v', e = .returned v' ∧ StB w w' v' (crcB zs) := by
  have H := hide (S.refcrc_walk 0 v zs w (by omega) hv hz hn)
  have hc := crc0_lt zs hz
  have HD : Hid (crcB zs = N.lowB (crc0 zs) 4) := hide rfl
  have HE : Hid (crc0 zs = S.sum32 (S.lstep S.pl) 1 0 zs) := hide rfl
  generalize crc0 zs = c at *
  rw [← unhide HE] at H
  have HL := hide (four_ok c w hc)
  clear hz hn hv
  go_enter Try.func19, Try.ntmps19
  go_wp2_with fail
  refine (unhide H).mono ?_
  rintro e w1 ⟨rfl, h1⟩
  subst h1
  clear H
  go_wp2_with fail
  refine (unhide HL).mono ?_
  rintro e w2 ⟨v', rfl, h2⟩
  have H2 := hide h2
  clear h2
  go_wp2_with fail
  go_ret
  exact ⟨_, rfl, by rw [unhide HD]; exact unhide H2⟩
end Go.Proofs.Ytcppnkbfndhioaa
