/- Lengths: for each symbol how long its word is. -/
import Derived.Test.YtdpbjeajipggbaaTake
import Derived.Test.YtdpbjeajipggbaaWho
namespace Go.Proofs.Ytdpbjeajipggbaa
open Go.RowKit Go.Sort Go.Lib
set_option linter.unusedVariables false

attribute [local go_sem ↓] Go.wp_at_zero Go.wp_at_succ

def LArgs (os : List Int) (most : Int) : Prop := 1 ≤ most ∧ most ≤ 20 ∧ os.length ≤ 65536 ∧ NoneBelow os

/-- the lengths -/
def ans (os : List Int) (l : List Nat) (M : Nat) : Nat → Nat :=
  if l.length = 1 then fun i => if i = l.getD 0 0 then 1 else 0 else Merge.len l (worths os l) M (2 * l.length - 2) M

/-- what Lengths answers -/
def LensIs (os : List Int) (most : Int) (v : Value) (x : Int) (lo : Nat) (w' : World) : Prop :=
  (¬ LArgs os most ∧ v = .slice none 0 0 ∧ x = 2) ∨
  (LArgs os most ∧ 1099511627776 < tot os os.length ∧ v = .slice none 0 0 ∧ x = 3) ∨
  (LArgs os most ∧ tot os os.length ≤ 1099511627776 ∧ (∃ l, IsOrder os l ∧ 2 ^ most.toNat < l.length) ∧ v = .slice none 0 0 ∧ x = 13) ∨
  (LArgs os most ∧ tot os os.length ≤ 1099511627776 ∧ x = 0 ∧ ∃ l g, IsOrder os l ∧ l.length ≤ 2 ^ most.toNat ∧ v = .slice (some ⟨g, 0, none⟩) os.length os.length ∧ lo ≤ g ∧ IntsAt w' .i64 3 g os.length (ans os l most.toNat))

theorem tot_raw (os : List Int) : ∀ n, ((raw os n).map (wt os)).sum = tot os n
  | 0 => by simp [raw, tot]
  | n + 1 => by
    rw [raw_succ, tot, ← tot_raw os n]
    by_cases h : 0 < wt os n
    · rw [if_pos h]; simp
    · rw [if_neg h]; omega

theorem order_sum {os : List Int} {l : List Nat} (h : IsOrder os l) : (worths os l).sum = tot os os.length := by
  have hp : l.Perm (raw os os.length) := (List.perm_ext_iff_of_nodup h.nodup (raw_nodup os _)).2 fun i => by rw [h.mem, raw_mem]
  rw [← tot_raw os os.length]
  exact (hp.map (wt os)).sum_nat

theorem worths_fs (os : List Int) (l : List Nat) : worths os l = Merge.fs (Merge.baseOf (wt os) l) := by
  unfold worths Merge.fs Merge.baseOf
  rw [List.map_map]
  rfl

theorem wr_small {os : List Int} {l : List Nat} (h : IsOrder os l) (ht : tot os os.length ≤ 1099511627776) : ∀ k, k < 20 → ∀ x ∈ Merge.wr (worths os l) k, x ≤ 1152921504606846976 := fun k hk x hx => by
  have h1 : Merge.worth (Merge.baseOf (wt os) l) = tot os os.length := by
    rw [← order_sum h, worths_fs]
    rfl
  rw [worths_fs] at hx
  have h2 := Merge.wr_le (Merge.baseOf (wt os) l) k x hx
  rw [h1] at h2
  have h3 : (k + 1) * tot os os.length ≤ 20 * 1099511627776 := Nat.mul_le_mul (by omega) ht
  omega

theorem takew_of {os : List Int} {l : List Nat} {w1 w3 : World} {sa : Option Addr} {scap gl gr M : Nat} (hc : ComesAt w1 (.slice sa l.length scap) os l) (hgl : w1.heap.size ≤ gl) (hb : Below w1.heap.size w1 w3) (hr : RoundsAt w3 gr M (worths os l) M) (hgr : gl < gr) :
    ∃ v1 v2, TakeW os l w3 gr gl M sa v1 v2 := by
  have hg : ∀ j, ∃ p : Value × Value, j < M → w3.cell? ⟨gr, j * 2, none⟩ = some p.1 ∧ w3.cell? ⟨gr, j * 2 + 1, none⟩ = some p.2 ∧ ReadsF (gr + 1) w3 p.2 (ints (Merge.ahd (worths os l) (Merge.bk (worths os l) j))) ∧ ∃ a l c, p.1 = .slice a l c := fun j => by
    by_cases h : j < M
    · obtain ⟨a, b, h1⟩ := hr.got j h
      exact ⟨(a, b), fun _ => h1⟩
    · exact ⟨(.slice none 0 0, .slice none 0 0), fun h' => absurd h' h⟩
  refine ⟨fun j => (Classical.choose (hg j)).1, fun j => (Classical.choose (hg j)).2, ⟨?_, by omega, fun j hj => (Classical.choose_spec (hg j) hj).1, fun j hj => (Classical.choose_spec (hg j) hj).2.1, fun j hj => (Classical.choose_spec (hg j) hj).2.2.2, fun j hj => ?_⟩⟩
  · intro h0
    obtain ⟨a, cap, e, _, hs⟩ := hc
    injection e with e1 e2 e3
    subst e1
    obtain ⟨g, off, e, h2⟩ := hs h0
    refine ⟨g, off, e, ?_, fun j hj => ⟨cell_stays hb (h2 j hj).1, by rw [Nat.add_assoc]; exact cell_stays hb (h2 j hj).2⟩⟩
    have := cell_lt (h2 0 h0).1
    simp only at this
    omega
  · obtain ⟨a, cap, e, hs⟩ := (Classical.choose_spec (hg j) hj).2.2.1
    rw [ints_length] at e hs
    obtain ⟨b, off, e', hlo, hcell⟩ := hs (by rw [Merge.ahd_length]; omega)
    subst e'
    exact ⟨b, off, cap, by omega, e, fun i hi => by rw [hcell i hi, ints_get _ i hi]⟩

theorem taken_fits {os : List Int} {l : List Nat} {M : Nat} (hM : 1 ≤ M) (hn : l.length ≤ 2 ^ M) : 2 * l.length - 2 ≤ (Merge.wr (worths os l) (M - 1)).length := by
  rw [worths_fs, ← (Merge.bk_fs (Merge.baseOf (wt os) l) (M - 1)).2, Merge.fs_length]
  exact Merge.enough (wt os) l M hM hn

theorem wrap64_eq (x : Int) : wrap64 x = IntKind.i64.wrap x := by first | rfl | (unfold wrap64; rfl) | simp [wrap64, IntKind.wrap_i64]

theorem three (N P2 : Nat) : ((P2 : Int) < (N : Int) ∧ ((N : Int) == 1) = ((N : Int) == 1)) ∨ (¬ (P2 : Int) < (N : Int) ∧ ((N : Int) == 1) = true) ∨ (¬ (P2 : Int) < (N : Int) ∧ ((N : Int) == 1) = false) := by
  by_cases h : (P2 : Int) < (N : Int)
  · exact .inl ⟨h, rfl⟩
  · cases h2 : ((N : Int) == 1)
    · exact .inr (.inr ⟨h, rfl⟩)
    · exact .inr (.inl ⟨h, rfl⟩)

/-- between the symbols that come and the rounds -/
structure Mid (os : List Int) (l : List Nat) (w w1 W2 : World) (gl : Nat) (sa : Option Addr) (scap N n : Nat) : Prop where
  ord : IsOrder os l
  len : N = l.length
  com : ComesAt w1 (.slice sa N scap) os l
  bel : Below w.heap.size w w1
  gle : gl = w1.heap.size
  wor : W2 = w1.alloc (.cells (icells .i64 n fun _ => 0) 3)
  made : (Instr.makeSlice 22 (.int .i64 (n : Int)) (.int .i64 (n : Int))).run Try.prog w1 = .ok (.slice (some ⟨w1.heap.size, 0, none⟩) n n) (w1.alloc (.cells (icells .i64 n fun _ => 0) 3))

section
variable {os : List Int} {l : List Nat} {w w1 W2 : World} {gl : Nat} {sa : Option Addr} {scap N n M : Nat}

theorem Mid.play (h : Mid os l w w1 W2 gl sa scap N n) (hM : M ≤ 20) (h2 : N ≤ n) (hn : n ≤ 65536) (hf : tot os os.length ≤ 1099511627776) :
    Calls Try.prog 17 #[.slice sa N scap, .int .i64 (M : Int)] (w1.alloc (.cells (icells .i64 n fun _ => 0) 3)) fun e w3 => ∃ gr, e = .returned (.slice (some ⟨gr, 0, none⟩) M M) ∧ RoundsAt w3 gr M (worths os l) M ∧ w1.heap.size + 1 ≤ gr ∧ Below (w1.heap.size + 1) (w1.alloc (.cells (icells .i64 n fun _ => 0) 3)) w3 := by
  refine (play_ok os l M _ _ (h.com.stays ((Below.refl _ _).alloc (Nat.le_refl _) _)) (by rw [← h.len]; omega) hM (wr_small h.ord hf)).mono fun e w3 ⟨gr, he, h1, h2, h3⟩ => ⟨gr, he, h1, by simpa using h2, by simpa using h3⟩

theorem Mid.take {w3 : World} {gr : Nat} (h : Mid os l w w1 W2 gl sa scap N n) (hM1 : 1 ≤ M) (hM : M ≤ 20) (h2 : N ≤ n) (h5 : N ≤ scap) (hn : n ≤ 65536) (hN : N ≤ 2 ^ M) (hno : n = os.length) (hp : RoundsAt w3 gr M (worths os l) M ∧ w1.heap.size + 1 ≤ gr ∧ Below (w1.heap.size + 1) (w1.alloc (.cells (icells .i64 n fun _ => 0) 3)) w3) :
    Calls Try.prog 16 #[.slice (some ⟨gr, 0, none⟩) M M, .slice sa N scap, .slice (some ⟨w1.heap.size, 0, none⟩) n n] w3 fun e w4 => e = .returned (.tuple #[]) ∧ IntsAt w4 .i64 3 w1.heap.size n (Merge.len l (worths os l) M (2 * N - 2) M) ∧ Below w.heap.size w w4 := by
  obtain ⟨p1, p2, p3⟩ := hp
  have hb1 : Below w1.heap.size w1 w3 := ((Below.refl _ _).alloc (Nat.le_refl _) _).trans (p3.mono (by omega))
  have hc := h.com
  rw [h.len] at hc
  obtain ⟨v1, v2, hTW⟩ := takew_of (gl := w1.heap.size) hc (Nat.le_refl _) hb1 p1 (by omega)
  have hz : IntsAt (w1.alloc (.cells (icells .i64 n fun _ => 0) 3)) .i64 3 w1.heap.size n (fun _ => 0) := heap_alloc_new _ _
  have hl := hz.stays p3 (by omega)
  refine (take_ok os l gr w1.heap.size M n N (2 * N - 2) sa scap v1 v2 w3 hM hM1 (by omega) h.len h5 rfl hTW hl (fun i hi => by rw [hno]; exact ((h.ord.mem i).1 hi).1) (by rw [h.len] at hN ⊢; exact taken_fits hM1 hN) h.ord.nodup).mono ?_
  rintro e w4 ⟨rfl, q1, q2, q3, q4, q5, q6⟩
  refine ⟨rfl, q1, ?_⟩
  have hb2 : Below w.heap.size w w3 := h.bel.trans (hb1.mono h.bel.size)
  have hs := h.bel.size
  exact hb2.trans ⟨q4, q5, q6, q3, fun k hk => q2 k (by have := hb2.size; omega) (by omega)⟩
theorem Mid.three (h : Mid os l w w1 W2 gl sa scap N n) (P2 : Nat) (hno : n = os.length) : ((P2 : Int) < (N : Int)) ∨ (∃ g off s, ¬ (P2 : Int) < (N : Int) ∧ (0 : Int) < (N : Int) ∧ ((N : Int) == 1) = true ∧ some ⟨g, off, none⟩ = sa ∧ w1.cell? ⟨g, off, none⟩ = some (.int .i64 (s : Nat)) ∧ g < w1.heap.size ∧ s < n ∧ Hid (s = l.getD 0 0) ∧
      (w1.alloc (.cells (icells .i64 n fun _ => 0) 3)).cell? ⟨w1.heap.size, s, none⟩ = some (.int .i64 0) ∧ (w1.alloc (.cells (icells .i64 n fun _ => 0) 3)).frozen? ⟨w1.heap.size, s, none⟩ = false) ∨ (¬ (P2 : Int) < (N : Int) ∧ ((N : Int) == 1) = false) := by
  by_cases h0 : (P2 : Int) < (N : Int)
  · exact .inl h0
  · cases h2 : ((N : Int) == 1)
    · exact .inr (.inr ⟨h0, rfl⟩)
    · refine .inr (.inl ?_)
      have h3 : N = 1 := by simp at h2; omega
      obtain ⟨a, cap, e, _, hs⟩ := h.com
      injection e with e1 e2 e3
      subst e1
      have hl1 : l.length = 1 := by rw [← h.len]; exact h3
      obtain ⟨g, off, e, hc⟩ := hs (by omega)
      have c1 := (hc 0 (by omega)).1
      rw [Nat.zero_mul, Nat.add_zero] at c1
      have hm : l.getD 0 0 ∈ l := by rw [List.getD_eq_getElem?_getD, List.getElem?_eq_getElem (by omega)]; exact List.getElem_mem _
      have hsn : l.getD 0 0 < n := by rw [hno]; exact ((h.ord.mem _).1 hm).1
      have hz : IntsAt (w1.alloc (.cells (icells .i64 n fun _ => 0) 3)) .i64 3 w1.heap.size n (fun _ => 0) := heap_alloc_new _ _
      exact ⟨g, off, l.getD 0 0, h0, by omega, rfl, e.symm, c1, cell_lt c1, hsn, hide rfl, hz.cell _ hsn, hz.free _⟩
end

set_option maxRecDepth 100000 in
set_option maxHeartbeats 2000000 in
theorem lens_good (os : List Int) (M : Nat) (a : Option Addr) (cap : Nat) (w : World) (hr : ReadsI w (.slice a os.length cap) os) (hM1 : 1 ≤ M) (hM2 : M ≤ 20) (hlen : os.length ≤ 65536) (hnb : NoneBelow os) :
    Calls Try.prog 7 #[.slice a os.length cap, .int .i64 (M : Int)] w fun e w' => ∃ v x, e = .returned (.tuple #[v, .int .i64 x]) ∧ LensIs os (M : Int) v x w.heap.size w' ∧ Below w.heap.size w w' := by
  have HA : Hid (LArgs os (M : Int)) := hide ⟨by omega, by omega, hlen, hnb⟩
  have HB : Hid (Calls Try.prog 13 #[.slice a os.length cap] w fun e w' => e = .returned (.bool false) ∧ w' = w) := hide ((below_ok _ os w hr (by omega)).mono fun e w' ⟨h1, h2⟩ => ⟨by rcases h1 with ⟨h, _⟩ | ⟨_, h⟩; exact h; exact absurd hnb h, h2⟩)
  have HF := hide (fits_ok _ os w hr hlen hnb)
  have HWH := hide (who_ok _ os w hr hlen hnb)
  clear hr hnb
  by_cases hfit : tot os os.length ≤ 1099511627776
  · have HF2 : Hid (Calls Try.prog 14 #[.slice a os.length cap] w fun e w' => e = .returned (.bool true) ∧ w' = w) := hide ((unhide HF).mono fun e w' ⟨h1, h2⟩ => ⟨by rcases h1 with ⟨h, _⟩ | ⟨_, h⟩; exact h; omega, h2⟩)
    have HFIT := hide hfit
    clear HF hfit
    obtain ⟨n, hn⟩ : ∃ n, n = os.length := ⟨_, rfl⟩
    rw [← hn] at HB HF2 HWH hlen ⊢
    have HN := hide hn
    clear hn
    have t1 : ¬ (M : Int) < 1 := by omega
    have t2 : ¬ (20 : Int) < (M : Int) := by omega
    have t3 : ¬ (65536 : Int) < (n : Int) := by omega
    obtain ⟨P2, hP2⟩ : ∃ P2, P2 = 2 ^ M := ⟨_, rfl⟩
    have hsh : wrap64 ((2 : Int) ^ M) = (P2 : Int) := by
      have h1 : 2 ^ M ≤ 2 ^ 20 := Nat.pow_le_pow_right (by decide) hM2
      have h2 : ((2 : Int) ^ M) = ((2 ^ M : Nat) : Int) := by simp
      rw [h2, ← hP2]
      have h3 : P2 ≤ 1048576 := by rw [hP2]; exact h1
      rw [wrap64_eq]
      exact IntWalk.i64_in (P2 : Int) (by omega)
    have HP2 := hide hP2
    have hP2b : P2 ≤ 1048576 := by rw [hP2]; exact Nat.pow_le_pow_right (by decide) hM2
    clear hP2
    have HWH2 : Hid (Calls Try.prog 15 #[.slice a n cap] w fun e w1 => ∃ sa scap l N W2 gl, e = .returned (.slice sa N scap) ∧ N ≤ n ∧ N ≤ scap ∧ Mid os l w w1 W2 gl sa scap N n) := hide ((unhide HWH).mono fun e w1 ⟨sv, l, he, hl1, hl2, hl3, hl4⟩ => by
      obtain ⟨sa, scap, rfl, hl5, hl6⟩ := id hl3
      exact ⟨sa, scap, l, l.length, _, _, he, hl2, hl5, ⟨hl1, rfl, hl3, hl4, rfl, rfl, ints_made w1 n hlen⟩⟩)
    clear HWH
    go_enter Try.func7, Try.ntmps7
    go_wp2_with (first | (go_at_call 13; go_must (refine (unhide HB).mono ?_; rintro e w' ⟨rfl, hww⟩; replace hww := hww.symm; subst hww)) | (go_at_call 14; go_must (refine (unhide HF2).mono ?_; rintro e w' ⟨rfl, hww⟩; replace hww := hww.symm; subst hww)) | (go_at_call 15; go_must (refine (unhide HWH2).mono ?_; rintro e w1 ⟨sa, scap, l, N, W2, gl, rfl, hl2, hl5, hmid⟩; have HMID := hide hmid; have hmk := hmid.made; clear hmid; rcases (unhide HMID).three P2 (unhide HN) with q1 | ⟨g, off, s, q1, q0, q2, rfl, q3, q4, q5, q6, q7, q8⟩ | ⟨q1, q2⟩)) | (go_at_call 17; go_must (refine ((unhide HMID).play hM2 hl2 hlen (unhide HFIT)).mono ?_; rintro e w3 ⟨gr, rfl, hpl⟩; have HPL := hide hpl; clear hpl)) | (go_at_call 16; go_must (refine ((unhide HMID).take hM1 hM2 hl2 hl5 hlen (by rw [← unhide HP2]; omega) (unhide HN) (unhide HPL)).mono ?_; rintro e w4 ⟨rfl, hfin⟩; have HFIN := hide hfin; clear hfin)))
    · go_ret2
      exact ⟨_, 13, rfl, .inr (.inr (.inl ⟨unhide HA, unhide HFIT, ⟨l, (unhide HMID).ord, by rw [Int.toNat_natCast, ← unhide HP2, ← (unhide HMID).len]; omega⟩, rfl, rfl⟩)), (unhide HMID).bel⟩
    · go_ret2
      refine ⟨_, 0, rfl, .inr (.inr (.inr ⟨unhide HA, unhide HFIT, rfl, l, w1.heap.size, (unhide HMID).ord, by rw [Int.toNat_natCast, ← unhide HP2, ← (unhide HMID).len]; omega, by rw [← unhide HN]; rfl, (unhide HMID).bel.size, ?_⟩)), ?_⟩
      · have hN1 : l.length = 1 := by rw [← (unhide HMID).len]; simp at q2; omega
        have hz : IntsAt (w1.alloc (.cells (icells .i64 n fun _ => 0) 3)) .i64 3 w1.heap.size n (fun _ => 0) := heap_alloc_new _ _
        rw [ans, if_pos hN1, ← unhide HN, ← unhide q6]
        have e1 := heap_setCell_same _ w1.heap.size s _ 3 (.int .i64 ((1 : Nat) : Int)) hz
        unfold IntsAt
        rw [heap_alloc_new]
        exact e1.symm.trans (hz.set s 1)
      · exact (unhide HMID).bel.trans ((Below.refl _ _).alloc (unhide HMID).bel.size _)
    · go_ret2
      refine ⟨_, 0, rfl, .inr (.inr (.inr ⟨unhide HA, unhide HFIT, rfl, l, w1.heap.size, (unhide HMID).ord, by rw [Int.toNat_natCast, ← unhide HP2, ← (unhide HMID).len]; omega, by rw [← unhide HN]; rfl, (unhide HMID).bel.size, ?_⟩)), (unhide HFIN).2⟩
      have hN1 : l.length ≠ 1 := by rw [← (unhide HMID).len]; intro c; rw [c] at q2; simp at q2
      rw [ans, if_neg hN1, Int.toNat_natCast, ← unhide HN, ← (unhide HMID).len]
      exact (unhide HFIN).1
  · have HF2 : Hid (Calls Try.prog 14 #[.slice a os.length cap] w fun e w' => e = .returned (.bool false) ∧ w' = w) := hide ((unhide HF).mono fun e w' ⟨h1, h2⟩ => ⟨by rcases h1 with ⟨_, h⟩ | ⟨h, _⟩; exact absurd h hfit; exact h, h2⟩)
    have HFIT : Hid (1099511627776 < tot os os.length) := hide (by omega)
    clear HF hfit HWH
    obtain ⟨n, hn⟩ : ∃ n, n = os.length := ⟨_, rfl⟩
    rw [← hn] at HB HF2 hlen ⊢
    clear hn
    have t1 : ¬ (M : Int) < 1 := by omega
    have t2 : ¬ (20 : Int) < (M : Int) := by omega
    have t3 : ¬ (65536 : Int) < (n : Int) := by omega
    go_enter Try.func7, Try.ntmps7
    go_wp2_with (first | (go_at_call 13; go_must (refine (unhide HB).mono ?_; rintro e w' ⟨rfl, hww⟩; replace hww := hww.symm; subst hww)) | (go_at_call 14; go_must (refine (unhide HF2).mono ?_; rintro e w' ⟨rfl, hww⟩; replace hww := hww.symm; subst hww)))
    go_ret2
    exact ⟨_, 3, rfl, .inr (.inl ⟨unhide HA, unhide HFIT, rfl, rfl⟩), Below.refl _ _⟩

set_option maxHeartbeats 1000000 in
theorem lens_bad (os : List Int) (most : Int) (a : Option Addr) (cap : Nat) (w : World) (h : ¬ (1 ≤ most ∧ most ≤ 20 ∧ os.length ≤ 65536)) :
    Calls Try.prog 7 #[.slice a os.length cap, .int .i64 most] w fun e w' => e = .returned (.tuple #[.slice none 0 0, .int .i64 2]) ∧ w' = w := by
  obtain ⟨n, hn⟩ : ∃ n, n = os.length := ⟨_, rfl⟩
  rw [← hn] at h ⊢
  clear hn
  by_cases t1 : most < 1
  · clear h
    go_enter Try.func7, Try.ntmps7
    go_wp2_with fail
    go_ret2
    exact ⟨rfl, rfl⟩
  · by_cases t2 : 20 < most
    · clear h
      go_enter Try.func7, Try.ntmps7
      go_wp2_with fail
      go_ret2
      exact ⟨rfl, rfl⟩
    · have t3 : (65536 : Int) < (n : Int) := by omega
      clear h
      go_enter Try.func7, Try.ntmps7
      go_wp2_with fail
      go_ret2
      exact ⟨rfl, rfl⟩

set_option maxHeartbeats 1000000 in
theorem lens_below (os : List Int) (M : Nat) (a : Option Addr) (cap : Nat) (w : World) (hr : ReadsI w (.slice a os.length cap) os) (hM1 : 1 ≤ M) (hM2 : M ≤ 20) (hlen : os.length ≤ 65536) (hnb : ¬ NoneBelow os) :
    Calls Try.prog 7 #[.slice a os.length cap, .int .i64 (M : Int)] w fun e w' => e = .returned (.tuple #[.slice none 0 0, .int .i64 2]) ∧ w' = w := by
  have HB : Hid (Calls Try.prog 13 #[.slice a os.length cap] w fun e w' => e = .returned (.bool true) ∧ w' = w) := hide ((below_ok _ os w hr (by omega)).mono fun e w' ⟨h1, h2⟩ => ⟨by rcases h1 with ⟨_, h⟩ | ⟨h, _⟩; exact absurd h hnb; exact h, h2⟩)
  clear hr hnb
  obtain ⟨n, hn⟩ : ∃ n, n = os.length := ⟨_, rfl⟩
  rw [← hn] at HB hlen ⊢
  clear hn
  have t1 : ¬ (M : Int) < 1 := by omega
  have t2 : ¬ (20 : Int) < (M : Int) := by omega
  have t3 : ¬ (65536 : Int) < (n : Int) := by omega
  go_enter Try.func7, Try.ntmps7
  go_wp2_with (go_at_call 13; go_must (refine (unhide HB).mono ?_; rintro e w' ⟨rfl, hww⟩; replace hww := hww.symm; subst hww))
  go_ret2
  exact ⟨rfl, rfl⟩

/-- Lengths, whatever it is handed. -/
theorem lens_ok (os : List Int) (most : Int) (v : Value) (w : World) (hr : ReadsI w v os) :
    Calls Try.prog 7 #[v, .int .i64 most] w fun e w' => ∃ u x, e = .returned (.tuple #[u, .int .i64 x]) ∧ LensIs os most u x w.heap.size w' ∧ Below w.heap.size w w' := by
  obtain ⟨a, cap, rfl, hs⟩ := id hr
  by_cases h : 1 ≤ most ∧ most ≤ 20 ∧ os.length ≤ 65536
  · obtain ⟨M, rfl⟩ := Int.eq_ofNat_of_zero_le (show 0 ≤ most by omega)
    by_cases hnb : NoneBelow os
    · exact lens_good os M a cap w hr (by omega) (by omega) h.2.2 hnb
    · refine (lens_below os M a cap w hr (by omega) (by omega) h.2.2 hnb).mono fun e w' ⟨he, hw⟩ => ⟨_, 2, he, .inl ⟨fun hh => hnb hh.2.2.2, rfl, rfl⟩, by rw [hw]; exact Below.refl _ _⟩
  · refine (lens_bad os most a cap w h).mono fun e w' ⟨he, hw⟩ => ⟨_, 2, he, .inl ⟨fun hh => h ⟨hh.1, hh.2.1, hh.2.2.1⟩, rfl, rfl⟩, by rw [hw]; exact Below.refl _ _⟩

end Go.Proofs.Ytdpbjeajipggbaa
