/-
  What the law's own comparison tells of two answers.
-/
import Derived.Test.YtbefokclbcdmhaaBase
namespace Go.Proofs.Ytbefokclbcdmhaa
open Go.RowKit

/-- a byte string -/
def bs (zs : List Nat) : ByteArray := ⟨(zs.map UInt8.ofNat).toArray⟩

theorem conv_bs {w : World} {v : Value} {zs : List Nat} (h : Reads w v zs) (hs : ∀ z ∈ zs, z < 256) : (convert 22 9 v).run Try.prog w = .ok (.string (bs zs)) w := conv_reads h hs

theorem bs_append (a b : List Nat) : bs a ++ bs b = bs (a ++ b) := by
  apply ByteArray.ext
  rw [ByteArray.data_append]
  simp [bs]

theorem bs_size (a : List Nat) : (bs a).size = a.length := by simp [bs, ByteArray.size]

theorem names_ok (w : World) : Calls Try.prog 13 #[] w fun e w' => e = .returned (.bool true) ∧ w' = w := by
  go_enter Try.func13, Try.ntmps13
  go_wp2
  go_ret
  exact ⟨rfl, rfl⟩

set_option maxHeartbeats 1000000 in
theorem behind_bad (bad : Int) (hbad : bad ≠ 0) (vb vw : Value) (w : World) :
    Calls Try.prog 9 #[.slice none 0 0, .slice none 0 0, .int .i64 bad, vb, vw, .int .i64 bad] w fun e w' => e = .returned (.bool true) ∧ Below w.heap.size w w' := by
  have h1 : (bad == 0) = false := by simpa using hbad
  have h2 : (bad != bad) = false := by simp
  have hc := fun w => conv_zero w none 0
  go_enter Try.func9, Try.ntmps9
  go_wp2_with fail
  go_loopg [14] 0 (fun gk c ws => gk = 0 ∧ c = .int .i64 0 ∧ ws = w)
  case atStart => exact ⟨rfl, rfl, rfl⟩
  case round =>
    obtain ⟨rfl, rfl, rfl⟩ := hrel
    go_wp2_with fail
    go_ret
    exact ⟨rfl, Below.refl _ _⟩

set_option maxHeartbeats 1000000 in
theorem behind_good (g : Nat) (vy vb vw : Value) (zb zw : List Nat) (w : World) (hx : w.heap[g]? = some (.cells ((zb ++ zw).map bv).toArray 5 (0, 0)))
    (hyg : ∀ w', Only g w w' → Reads w' vy (zb ++ zw)) (hb : Reads w vb zb) (hw : Reads w vw zw) (hs : ∀ z ∈ zb ++ zw, z < 256) (hn : (zb ++ zw).length ≤ 140737488355328) :
    Calls Try.prog 9 #[.slice (some ⟨g, 0, none⟩) (zb ++ zw).length (zb ++ zw).length, vy, .int .i64 0, vb, vw, .int .i64 0] w fun e w' => e = .returned (.bool true) ∧ Only g w w' := by
  have hrx : Reads w (.slice (some ⟨g, 0, none⟩) (zb ++ zw).length (zb ++ zw).length) (zb ++ zw) := ⟨_, _, rfl, fun _ => ⟨_, rfl, fun j u hj => by
    have e : (⟨g, 0, none⟩ : Addr).add j = ⟨g, j, none⟩ := by by_cases hq : j = 0 <;> simp [Addr.add, hq]
    rw [e]
    simp only [World.cell?, hx]
    simpa using hj⟩⟩
  have hcx := conv_bs hrx hs
  have hcb := conv_bs hb (fun z hz => hs z (List.mem_append_left _ hz))
  have hcw := conv_bs hw (fun z hz => hs z (List.mem_append_right _ hz))
  have HX := hide hx
  have HY := hide hyg
  have HSM := hide hs
  clear hx hyg hs hrx hb hw
  have hsum := bs_append zb zw
  have hsz : ¬ 9223372036854775807 < (bs zb).size + (bs zw).size := by rw [bs_size, bs_size, ← List.length_append]; omega
  have HROW : Hid (RowB w g (zb ++ zw).length) := hide (RowB.block (unhide HX))
  clear HX
  generalize zb ++ zw = zs at *
  obtain ⟨L, hL⟩ : ∃ L, L = zs.length := ⟨_, rfl⟩
  rw [← hL] at hcx hn HROW ⊢
  clear hL
  go_enter Try.func9, Try.ntmps9
  go_wp2_with fail
  go_loopg [14] L (fun gk c ws => ∃ i : Nat, gk = L - i ∧ i ≤ L ∧ c = .int .i64 (i : Int) ∧ RowB ws g L ∧ Only g w ws)
  case atStart => exact ⟨0, by omega, by omega, rfl, unhide HROW, Only.refl _ _⟩
  case round =>
    obtain ⟨i, rfl, hil, rfl, hrow, honly⟩ := hrel
    by_cases hlt : i < L
    · obtain ⟨⟨y, hcell⟩, hfz⟩ := hrow.cell i hlt
      have hlt' : (i : Int) < (L : Int) := by omega
      have HR := hide hrow
      have HO := hide honly
      clear hrow honly
      go_wp2_with fail
      go_roundg (L - (i + 1))
      case measure => omega
      case rel => exact ⟨i + 1, rfl, by omega, by go_num, (unhide HR).set _ _, (unhide HO).set _ _⟩
    · obtain rfl : i = L := by omega
      have hcy := conv_bs (unhide HY _ honly) (unhide HSM)
      have HO := hide honly
      clear hrow honly
      go_wp2_with fail
      go_ret
      exact ⟨rfl, unhide HO⟩
end Go.Proofs.Ytbefokclbcdmhaa
