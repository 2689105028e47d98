/- The program's Pack: runs written shorter. -/
import Derived.Test.YtgafabhhalhccaaRl
namespace Go.Proofs.Ytgafabhhalhccaa
open Go.RowKit Runs
set_option maxRecDepth 100000
set_option linter.unusedVariables false
attribute [local go_sem ↓] Go.wp_at_zero Go.wp_at_succ

theorem rep_getD (m c j : Nat) (h : j < m) : (List.replicate m c).getD j 0 = c := by
  rw [List.getD_eq_getElem?_getD, List.getElem?_replicate, if_pos h]
  rfl

set_option maxHeartbeats 4000000 in
theorem ar_ok (w0 w : World) (va : Value) (xs : List Nat) (c m g o cap : Nat) (hA : StB w0 w va xs) (hr : ∀ j, j < m → w.cell? ⟨g, o + j, none⟩ = some (bv c)) (hm : 1 ≤ m ∧ m ≤ 259) (hcap : m ≤ cap) (hx : xs.length ≤ 100000000) :
    Calls Try.prog 27 #[va, .slice (some ⟨g, o, none⟩) m cap] w fun e w' => ∃ v, e = .returned v ∧ StB w0 w' v (xs ++ piece c m) := by
  have HA := hide hA
  have HR : Hid (∀ j, j < m → w.cell? ((⟨g, o, none⟩ : Addr).add j) = some (bv c)) := hide fun j hj => by
    have e : (⟨g, o, none⟩ : Addr).add j = ⟨g, o + j, none⟩ := by simp [Addr.add]
    rw [e]; exact hr j hj
  obtain ⟨a', c', rfl⟩ := hA.len
  clear hr hA
  by_cases h4 : m < 4
  · have t1 : (m : Int) < 4 := by omega
    have HP : Hid (piece c m = List.replicate m c) := hide (by unfold piece; rw [if_pos h4])
    go_enter Try.func27, Try.ntmps27
    go_wp2_with (at_builtin; refine wp_appB rfl _ _ rfl _ _ (List.replicate m c) ⟨g, o, none⟩ m cap (by rfl) (by rfl) (by simp) (unhide HA) (fun j hj => by rw [List.length_replicate] at hj; rw [rep_getD m c j hj]; exact unhide HR j hj) (by omega) ?_; intro v3 w3 h3; have H3 := hide h3; clear h3)
    go_ret
    exact ⟨_, rfl, by rw [unhide HP]; exact unhide H3⟩
  · have t1 : ¬ (m : Int) < 4 := by omega
    have t2 : (4 : Int) ≤ (m : Int) := by omega
    have t3 : (4 : Int) ≤ (cap : Int) := by omega
    have HP : Hid (piece c m = List.replicate 4 c ++ [m - 4]) := hide (by unfold piece; rw [if_neg h4])
    have f3 : IntKind.u8.wrap ((m : Int) - 4) = ((m - 4 : Nat) : Int) := by rw [IntKind.wrap_u8']; omega
    have f4 : ((m : Int) - 4) % 256 = ((m - 4 : Nat) : Int) := by omega
    go_enter Try.func27, Try.ntmps27
    go_wp2_with (at_builtin; first | (refine wp_appB rfl _ _ rfl _ _ (List.replicate 4 c) ⟨g, o, none⟩ 4 cap (by rfl) (by rfl) (by simp) (unhide HA) (fun j hj => by rw [List.length_replicate] at hj; rw [rep_getD 4 c j hj]; exact unhide HR j (by omega)) (by omega) ?_; intro v3 w3 h3; have H3 := hide h3; clear h3) | (refine wp_oneB rfl _ _ rfl _ _ (m - 4) (by rfl) (by rfl) (unhide H3) (by simp; omega) ?_; intro v4 w4 h4 _ _ _; have H4 := hide h4; clear h4))
    go_ret
    exact ⟨_, rfl, by rw [unhide HP, ← List.append_assoc]; exact unhide H4⟩

theorem rlen_le {b : List Nat} (h : 0 < b.length) : 1 ≤ rlen b ∧ rlen b ≤ 259 ∧ rlen b ≤ b.length ∧ ∀ j, j < rlen b → b.getD j 0 = b.getD 0 0 := by
  have h1 := lead_le (b.getD 0 0) 258 (b.drop 1)
  rw [List.length_drop] at h1
  unfold rlen
  refine ⟨by omega, by omega, by omega, fun j hj => ?_⟩
  cases j with
  | zero => rfl
  | succ j =>
    have := lead_all (b.getD 0 0) 258 (b.drop 1) j (by omega)
    rw [drop_getD, Nat.add_comm] at this
    exact this

theorem BytesIn.drop {w : World} {g off : Nat} {b : List Nat} (h : BytesIn w (some ⟨g, off, none⟩) b) (i : Nat) : BytesIn w (some ⟨g, off + i, none⟩) (b.drop i) := fun j hj => by
  rw [List.length_drop] at hj
  obtain ⟨g', off', e, c⟩ := h (i + j) (by omega)
  cases e
  exact ⟨g, off + i, rfl, by rw [drop_getD, Nat.add_assoc]; exact c⟩

set_option maxHeartbeats 8000000 in
theorem ppack_ok (b : List Nat) (a0 : Option Addr) (cap : Nat) (w : World) (hc : BytesIn w a0 b) (hn : b.length ≤ 1048576) (hcap : b.length ≤ cap) :
    Calls Try.prog 12 #[.slice a0 b.length cap] w fun e w' => ∃ v, e = .returned v ∧ StB w w' v (packF b) := by
  have HC := hide hc
  have HTL := hide (packF_len b.length b (Nat.le_refl _))
  obtain ⟨n, hN⟩ : ∃ n, n = b.length := ⟨_, rfl⟩
  have HN := hide hN
  rw [← hN] at hn HTL hcap ⊢
  clear hN hc
  go_enter Try.func12, Try.ntmps12
  go_wp2_with fail
  go_loopg [3, 4] n (fun gk o av ws => ∃ (at_ : Nat) (xs : List Nat), gk = n - at_ ∧ at_ ≤ n ∧ av = .int .i64 (at_ : Int) ∧ Hid (StB w ws o xs) ∧ Hid (xs ++ packF (b.drop at_) = packF b))
  case atStart => exact ⟨0, [], by omega, by omega, rfl, hide (StB.nil w), hide rfl⟩
  case round =>
    obtain ⟨at_, xs, rfl, hat, rfl, HS, HX⟩ := hrel
    rename World => wo
    by_cases hlt : at_ < n
    · have tl : (at_ : Int) < (n : Int) := by omega
      have hab : at_ < b.length := by rw [← unhide HN]; exact hlt
      obtain ⟨g, off, rfl, _⟩ := unhide HC at_ hab
      have hce : ¬ cap = at_ := by omega
      have t3 : (at_ : Int) ≤ (n : Int) := by omega
      have t4 : (n : Int) ≤ (cap : Int) := by omega
      have HD := hide ((unhide HC).drop at_)
      have hdl : (b.drop at_).length = n - at_ := by rw [List.length_drop, ← unhide HN]
      have hrl := rlen_le (b := b.drop at_) (by omega)
      have HST := hide (pack_step hab rfl)
      have HRR : Hid (lead (b.getD at_ 0) 258 (b.drop (at_ + 1)) + 1 = rlen (b.drop at_)) := hide (by
        unfold rlen
        rw [drop_getD, List.drop_drop]; rfl)
      have HXL : Hid (xs.length ≤ n + n / 4) := hide (by
        have h1 := congrArg List.length (unhide HX)
        rw [List.length_append] at h1
        have h2 := unhide HTL
        omega)
      have hcall := fun (W : World) (hb : Below w.heap.size w W) => rl_ok (b.drop at_) (some ⟨g, off + at_, none⟩) (cap - at_) W ((unhide HD).stays hb) (by omega) (by omega)
      rw [hdl] at hrl hcall
      have HRL := hide hrl.2.2.2
      have HCALL := hide hcall
      obtain ⟨m, hm⟩ : ∃ m, m = rlen (b.drop at_) := ⟨_, rfl⟩
      rw [← hm] at hrl HRR HRL HCALL
      rw [unhide HRR] at HST
      clear hm hdl hcall
      obtain ⟨hm1, hm2, hm3, -⟩ := hrl
      go_wp2_with fail
      refine (unhide HCALL wo (unhide HS).bel).mono ?_
      rintro e w1 ⟨rfl, q, rfl⟩
      have HS1 := hide ((unhide HS).drewN q)
      obtain ⟨W1, hW1⟩ : ∃ W1, W1 = wo.drewN q := ⟨_, rfl⟩
      rw [← hW1] at HS1 ⊢
      clear hW1 HCALL HS
      have t5 : (at_ : Int) ≤ (at_ : Int) + (m : Int) := by omega
      have t6 : (at_ : Int) + (m : Int) ≤ (cap : Int) := by omega
      have hcl : ∀ j, j < m → W1.cell? ⟨g, off + at_ + j, none⟩ = some (bv (b.getD at_ 0)) := fun j hj => by
        obtain ⟨g', off', e, c⟩ := ((unhide HD).stays (unhide HS1).bel) j (by rw [List.length_drop, ← unhide HN]; omega)
        cases e
        rw [c]
        have h1 := unhide HRL j hj
        rw [h1, drop_getD]
        rfl
      have HCL := hide hcl
      clear hcl
      go_wp2_with fail
      refine (ar_ok w W1 _ xs (b.getD at_ 0) m g (off + at_) m (unhide HS1) (unhide HCL) ⟨hm1, hm2⟩ (Nat.le_refl _) (by have := unhide HXL; omega)).mono ?_
      rintro e w2 ⟨v2, rfl, h2⟩
      have H2 := hide h2
      clear h2
      go_wp2_with fail
      go_roundg (n - (at_ + m))
      case measure => omega
      case rel => exact ⟨at_ + m, _, rfl, by omega, by go_num, H2, hide (by rw [← unhide HX, unhide HST, List.append_assoc])⟩
    · obtain rfl : at_ = n := by omega
      have tl : ¬ (at_ : Int) < (at_ : Int) := by omega
      go_wp2_with fail
      go_ret
      refine ⟨_, rfl, ?_⟩
      have h1 := unhide HX
      rw [unhide HN, List.drop_length, show packF [] = [] from rfl, List.append_nil] at h1
      rw [← h1]
      exact unhide HS
end Go.Proofs.Ytgafabhhalhccaa
