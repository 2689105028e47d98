/- bytes.LastIndex, whole; bytes.Index. -/
import Derived.Test.YtabnfnejlffioaaRK
namespace Go.Proofs.Ytabnfnejlffioaa
open Go.RowKit Go.Lib
set_option linter.unusedVariables false

attribute [local go_sem ↓] Go.wp_at_zero Go.wp_at_succ

set_option maxRecDepth 100000 in
set_option maxHeartbeats 1000000 in
theorem equal_ok (zs ys : List Nat) (v u : Value) (B : Nat) (w : World) (h1 : ReadsU B w v zs) (h2 : ReadsU B w u ys) (hz : ∀ z ∈ zs, z < 256) (hy : ∀ z ∈ ys, z < 256) :
    Calls Try.prog 36 #[v, u] w fun e w' => (e = .returned (.bool true) ∧ zs = ys ∨ e = .returned (.bool false) ∧ zs ≠ ys) ∧ ∃ q, w' = w.drewN q := by
  have c1 := conv_sb h1 hz
  have c2 := conv_sb h2 hy
  have HI : Hid (sb zs = sb ys → zs = ys) := hide (sb_inj hz hy)
  clear h1 h2 hz hy
  by_cases h : zs = ys
  · have e1 : ((sb zs).toList == (sb ys).toList) = true := by rw [h]; simp
    have c1' := c1 0
    have c2' := c2 0
    rw [World.drewN_zero] at c1' c2'
    go_enter Try.func36, Try.ntmps36
    go_wp2_with fail
    go_ret
    exact ⟨.inl ⟨rfl, h⟩, 0, rfl⟩
  · have e1 : ((sb zs).toList == (sb ys).toList) = false := by
      have : (sb zs).toList ≠ (sb ys).toList := fun e => h (unhide HI (by
        rw [ByteArray.toList_eq, ByteArray.toList_eq] at e
        apply ByteArray.ext
        exact Array.toList_inj.1 e))
      simpa using this
    have c1' := c1 0
    have c2' := c2 0
    rw [World.drewN_zero] at c1' c2'
    go_enter Try.func36, Try.ntmps36
    go_wp2_with fail
    go_ret
    exact ⟨.inr ⟨rfl, h⟩, 0, rfl⟩

set_option maxRecDepth 100000 in
set_option maxHeartbeats 1000000 in
theorem lasti_ok (zs ys : List Nat) (b off c b2 off2 c2 B : Nat) (w : World) (hr : ReadsU B w (.slice (some ⟨b, off, none⟩) zs.length c) zs) (hr2 : ReadsU B w (.slice (some ⟨b2, off2, none⟩) ys.length c2) ys) (hz : ∀ z ∈ zs, z < 256) (hy : ∀ z ∈ ys, z < 256)
    (h1 : 1 ≤ ys.length) (h2 : ys.length ≤ zs.length) (hl : zs.length ≤ 140737488355328) (hcap : zs.length ≤ c) :
    Calls Try.prog 29 #[.slice (some ⟨b, off, none⟩) zs.length c, .slice (some ⟨b2, off2, none⟩) ys.length c2] w fun e w' => ∃ r : Int, e = .returned (.int .i64 r) ∧ LastIs zs ys (zs.length - ys.length + 1) r ∧ ∃ q, w' = w.drewN q := by
  have HE := hide (equal_ok zs ys _ _ B w hr hr2 hz hy)
  have HRK : Hid (ys.length < zs.length → Calls Try.prog 41 #[.slice (some ⟨b, off, none⟩) zs.length c, .slice (some ⟨b2, off2, none⟩) ys.length c2] w fun e w' => ∃ r : Int, e = .returned (.int .i64 r) ∧ LastIs zs ys (zs.length - ys.length + 1) r ∧ ∃ q, w' = w.drewN q) := hide fun h => lastrk_ok zs ys b off c b2 off2 c2 B w hr hr2 hz hy h1 h hl hcap
  have HLB := hide fun x => lastbyte_ok zs (some ⟨b, off, none⟩) c B x w hr hl
  have k1 : w.cell? ⟨b2, off2, none⟩ = some (.int .u8 (ys.getD 0 0 : Int)) := by
    obtain ⟨a', c', e, _, hs⟩ := hr2
    injection e with e1 e2 e3
    subst e1
    obtain ⟨_, _, e, _, hc⟩ := hs (by omega)
    injection e with e
    injection e with e1 e2
    subst e1 e2
    have := hc 0 (by omega)
    rw [Nat.add_zero] at this
    exact this
  have HONE : Hid (ys.length = 1 → ys = [ys.getD 0 0]) := hide fun h => by
    obtain ⟨x, rfl⟩ := List.length_eq_one_iff.1 h
    rfl
  have HST : Hid (ys.length = zs.length → (Stands zs ys 0 ↔ zs = ys)) := hide fun h => by
    rw [stands_sub (by omega), List.drop_zero, List.take_of_length_le (by omega)]
  clear hr hr2 hz hy
  obtain ⟨n, hn⟩ : ∃ n, n = zs.length := ⟨_, rfl⟩
  obtain ⟨m, hm⟩ : ∃ m, m = ys.length := ⟨_, rfl⟩
  rw [← hn] at HE HRK HLB HST h2 hl hcap ⊢
  rw [← hm] at HE HRK HST HONE h1 h2 ⊢
  clear hn hm
  have hm0 : ((m : Int) == 0) = false := by simp; omega
  obtain ⟨y, hy⟩ : ∃ y, y = ys.getD 0 0 := ⟨_, rfl⟩
  rw [← hy] at k1 HONE
  clear hy
  by_cases hm1 : m = 1
  · subst hm1
    have HLY := hide (unhide HLB y)
    have hys := unhide HONE rfl
    have HYS := hide hys
    clear HLB HRK HE hys
    go_enter Try.func29, Try.ntmps29
    go_wp2_with (go_at_call 40; go_must (refine (unhide HLY).mono ?_; rintro e w' ⟨r, rfl, hr, hww⟩; replace hww := hww.symm; subst hww; have HR2 := hide hr; clear hr))
    go_ret
    exact ⟨r, rfl, by rw [unhide HYS, show n - 1 + 1 = n by omega]; exact unhide HR2, 0, rfl⟩
  · have e1 : ((m : Int) == 1) = false := by simp; omega
    by_cases hmn : m = n
    · subst hmn
      have e2 : ((m : Int) == (m : Int)) = true := by simp
      have HS0 := hide (unhide HST rfl)
      clear HLB HRK
      go_enter Try.func29, Try.ntmps29
      go_wp2_with fail
      refine (unhide HE).mono ?_
      rintro e w' ⟨⟨rfl, heq⟩ | ⟨rfl, heq⟩, q, rfl⟩
      · have HF : Hid (LastIs zs ys (m - m + 1) 0) := hide (by rw [Nat.sub_self]; exact LastIs.hit ((unhide HS0).2 heq))
        go_wp2_with fail
        go_ret
        exact ⟨_, rfl, unhide HF, q, rfl⟩
      · have HF : Hid (LastIs zs ys (m - m + 1) (-1)) := hide (.inl ⟨rfl, fun j hj h => by
          obtain rfl : j = 0 := by omega
          exact heq ((unhide HS0).1 h)⟩)
        go_wp2_with fail
        go_ret
        exact ⟨_, rfl, unhide HF, q, rfl⟩
    · have e2 : ((m : Int) == (n : Int)) = false := by simp; omega
      have e2' : (m == n) = false := by simp [hmn]
      have e3 : ¬ (n : Int) < (m : Int) := by omega
      have HC := hide (unhide HRK (by omega))
      clear HLB HRK HE
      go_enter Try.func29, Try.ntmps29
      go_wp2_with fail
      refine (unhide HC).mono ?_
      rintro e w' ⟨r, rfl, hr, q, rfl⟩
      have HR2 := hide hr
      clear hr
      go_wp2_with fail
      go_ret
      exact ⟨r, rfl, unhide HR2, q, rfl⟩

end Go.Proofs.Ytabnfnejlffioaa
