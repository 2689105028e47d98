/-
  What (*bits.Reader).Bytes does.
-/
import Derived.Test.YtcplockmnabccaaRdTwo
namespace Go.Proofs.Ytcplockmnabccaa
open Go.RowKit Mth

set_option maxHeartbeats 1000000 in
theorem rbytes_arg (rp g p : Nat) (high : Bool) (zs : List Nat) (n : Int) (w : World) (h : ROk w rp high g zs p) (hn : n < 0 ∨ p % 8 ≠ 0) :
    Calls Try.prog 25 #[.pointer (some ⟨rp, 0, none⟩), .int .i64 n] w fun e w' => e = .returned (.tuple #[.slice none 0 0, .int .i64 2]) ∧ w' = w := by
  have c0 := h.c0
  have H := hide h
  clear h
  by_cases h0 : n < 0
  · have hd : decide (n < 0) = true := by simp; omega
    clear hn
    go_enter Try.func25, Try.ntmps25
    go_wp2_with (go_at_call 29; refine (rgood_yes _ _ (by assumption)).mono ?_; rintro e w' ⟨rfl, rfl⟩)
    go_ret2
    exact ⟨rfl, rfl⟩
  · have hd : decide (n < 0) = false := by simp; omega
    have hb : (p % 8 == 0) = false := by simp; omega
    clear hn
    go_enter Try.func25, Try.ntmps25
    go_wp2_with (first | (go_at_call 29; refine (rgood_yes _ _ (by assumption)).mono ?_; rintro e w' ⟨rfl, rfl⟩) | (go_at_call 32; refine (whole_ok rp g p high zs _ (unhide H)).mono ?_; rintro e w1 ⟨rfl, rfl⟩))
    go_ret2
    exact ⟨rfl, rfl⟩

set_option maxHeartbeats 1000000 in
theorem rbytes_end (rp g p : Nat) (high : Bool) (zs : List Nat) (n : Int) (w : World) (h : ROk w rp high g zs p) (hz : zs.length ≤ 140737488355328) (h0 : 0 ≤ n) (h8 : p % 8 = 0) (h2 : (zs.length : Int) - (p / 8 : Nat) < n) :
    Calls Try.prog 25 #[.pointer (some ⟨rp, 0, none⟩), .int .i64 n] w fun e w' => e = .returned (.tuple #[.slice none 0 0, .int .i64 10]) ∧ w' = w.drew := by
  have c0 := h.c0
  have c2 := h.c2
  have c3 := h.c3
  have hle := h.le
  have H := hide h
  clear h
  have hd : decide (n < 0) = false := by simp; omega
  have hb : (p % 8 == 0) = true := by simp; omega
  obtain ⟨q8, hq8⟩ : ∃ q8, q8 = p / 8 := ⟨_, rfl⟩
  have hqd : Int.tdiv (p : Int) 8 = (q8 : Int) := by rw [hq8]; rfl
  have hqw : IntKind.i64.wrap (q8 : Int) = (q8 : Int) := IntWalk.i64_in _ (by omega)
  rw [← hq8] at h2
  have hq0 : (q8 : Int) ≤ (zs.length : Int) := by omega
  have hq1 : (0 : Int) ≤ (q8 : Int) := by omega
  clear hq8 h8 hle
  go_enter Try.func25, Try.ntmps25
  go_wp2_with (first | (go_at_call 29; refine (rgood_yes _ _ (by assumption)).mono ?_; rintro e w' ⟨rfl, rfl⟩) | (go_at_call 32; refine (whole_ok rp g p high zs _ (unhide H)).mono ?_; rintro e w1 ⟨rfl, rfl⟩))
  refine wp_tail 10 (by kernel_rfl) (by kernel_rfl) ?_
  simp only [List.take_succ_cons, List.take_zero, List.drop_succ_cons, List.drop_zero]
  repeat still_step
  try refine wpStill_nil ?_
  go_wp2
  all_goals go_ret2
  all_goals exact ⟨rfl, rfl⟩

/-- Of what was there nothing but block rp has changed. -/
structure Only (rp : Nat) (w w' : World) : Prop where
  os : w'.os = w.os
  tape : w'.tape = w.tape
  output : w'.output = w.output
  size : w.heap.size ≤ w'.heap.size
  keep : ∀ x, x < w.heap.size → x ≠ rp → w'.heap[x]? = w.heap[x]?

theorem Only.below {rp B : Nat} {w w' : World} (h : Only rp w w') (hB : B ≤ rp) (hs : B ≤ w.heap.size) : Below B w w' :=
  ⟨h.os, h.tape, h.output, h.size, fun k hk => h.keep k (by omega) (by omega)⟩

theorem Reads.drew {w : World} {v : Value} {zs : List Nat} (h : Reads w v zs) : Reads w.drew v zs := h

theorem rbytes_reads {w : World} {g : Nat} {zs : List Nat} (hr : w.heap[g]? = some (.cells (zs.map bv).toArray 5 (0, 0))) (q N cap : Nat) (h : q + N ≤ zs.length) (a : Addr) (ha : 0 < N → a = ⟨g, q, none⟩) :
    Reads w (.slice (some a) N cap) ((zs.drop q).take N) := by
  have hl : ((zs.drop q).take N).length = N := by simp; omega
  refine ⟨some a, cap, by rw [hl], fun h0 => ⟨a, rfl, fun j u hj => ?_⟩⟩
  rw [hl] at h0
  have hjN : j < N := by
    have := (List.getElem?_eq_some_iff.1 hj).1
    simp at this; omega
  have e : a.add j = ⟨g, q + j, none⟩ := by rw [ha h0]; by_cases hq : j = 0 <;> simp [Addr.add, hq]
  rw [e]
  simp only [List.getElem?_map, List.getElem?_take, List.getElem?_drop, hjN, if_true] at hj
  simpa [World.cell?, hr] using hj

theorem rbytes_post {w w2 : World} {rp g q : Nat} {high : Bool} {zs ys : List Nat} {x : Value} (hrp : rp < w.heap.size) (hg : g < w.heap.size) (ok : ROk (w.setCell ⟨rp, 3, none⟩ x) rp high g zs q)
    (h1 : w2.heap[((w.setCell ⟨rp, 3, none⟩ x).drew).heap.size]? = some (.cells (ys.map bv).toArray 5 (0, 0))) (hb : Below ((w.setCell ⟨rp, 3, none⟩ x).drew).heap.size ((w.setCell ⟨rp, 3, none⟩ x).drew) w2) :
    w2.heap[w.heap.size]? = some (.cells (ys.map bv).toArray 5 (0, 0)) ∧ ROk w2 rp high g zs q ∧ Only rp w w2 := by
  have hs : ((w.setCell ⟨rp, 3, none⟩ x).drew).heap.size = w.heap.size := by simp
  rw [hs] at h1 hb
  refine ⟨h1, ok.keep (hb.block _ hrp) (hb.block _ hg), ⟨hb.os, hb.tape, hb.output, by have := hb.size; rw [hs] at this; exact this, fun k hk hne => ?_⟩⟩
  rw [hb.block k hk]
  exact heap_setCell_other _ _ _ _ (by exact hne)

set_option maxHeartbeats 1000000 in
theorem rbytes_ok (rp g p : Nat) (high : Bool) (zs : List Nat) (n : Int) (w : World) (h : ROk w rp high g zs p) (hz : zs.length ≤ 140737488355328) (h0 : 0 ≤ n) (h8 : p % 8 = 0) (h2 : p / 8 + n.toNat ≤ zs.length) (hgs : g < w.heap.size) :
    Calls Try.prog 25 #[.pointer (some ⟨rp, 0, none⟩), .int .i64 n] w fun e w' => e = .returned (.tuple #[.slice (some ⟨w.heap.size, 0, none⟩) n.toNat n.toNat, .int .i64 0]) ∧ w'.heap[w.heap.size]? = some (.cells (((zs.drop (p / 8)).take n.toNat).map bv).toArray 5 (0, 0)) ∧ ROk w' rp high g zs (p + 8 * n.toNat) ∧ Only rp w w' := by
  obtain ⟨N, rfl⟩ := Int.eq_ofNat_of_zero_le h0
  simp only [Int.toNat_natCast] at *
  have c0 := h.c0
  have c2 := h.c2
  have c3 := h.c3
  have f3 := h.fz 3
  have hle := h.le
  have hlt := h.lt
  have H := hide h
  clear h
  have hd : decide ((N : Int) < 0) = false := by simp
  have hb : (p % 8 == 0) = true := by simp; omega
  obtain ⟨q8, hq8⟩ : ∃ q8, q8 = p / 8 := ⟨_, rfl⟩
  have hqd : Int.tdiv (p : Int) 8 = (q8 : Int) := by rw [hq8]; rfl
  have hqw : IntKind.i64.wrap (q8 : Int) = (q8 : Int) := IntWalk.i64_in _ (by omega)
  rw [← hq8] at h2 ⊢
  have hq0 : (q8 : Int) ≤ (zs.length : Int) := by omega
  have hq1 : (0 : Int) ≤ (q8 : Int) := by omega
  have hp8 : 8 * q8 = p := by omega
  have hns : ¬ (((zs.length - q8 : Nat) : Int) < (N : Int)) := by omega
  have hN1 : (N : Int) ≤ ((zs.length - q8 : Nat) : Int) := by omega
  have HP := hide hp8
  have HS := hide ((unhide H).set (p + 8 * N) (by omega))
  have hlen : ((zs.drop q8).take N).length = N := by simp; omega
  clear hq8 h8 hp8
  by_cases hcut : zs.length = q8
  · obtain rfl : N = 0 := by omega
    simp only [Nat.mul_zero, Nat.add_zero] at HS ⊢
    have HR := hide (rbytes_reads (unhide HS).row q8 0 0 (by omega) ⟨g, 0, none⟩ (by omega))
    go_enter Try.func25, Try.ntmps25
    go_wp2_with (first | (go_at_call 29; refine (rgood_yes _ _ (by assumption)).mono ?_; rintro e w' ⟨rfl, rfl⟩) | (go_at_call 32; refine (whole_ok rp g p high zs _ (unhide H)).mono ?_; rintro e w1 ⟨rfl, rfl⟩))
    refine wp_tail 10 (by kernel_rfl) (by kernel_rfl) ?_
    simp only [List.take_succ_cons, List.take_zero, List.drop_succ_cons, List.drop_zero]
    repeat still_step
    try refine wpStill_nil ?_
    go_wp2_with fail
    refine (fresh_any _ ((zs.drop q8).take 0) _ (unhide HR).drew (by omega)).mono ?_
    rintro e w2 ⟨rfl, h1, hb2⟩
    have R := rbytes_post hlt hgs (unhide HS) h1 hb2
    rw [hlen]
    clear h1 hb2
    have HR2 := hide R
    clear R
    go_wp2
    go_ret2
    exact ⟨rfl, unhide HR2⟩
  · have HR := hide (rbytes_reads (unhide HS).row q8 N (zs.length - q8) (by omega) ⟨g, q8, none⟩ (fun _ => rfl))
    go_enter Try.func25, Try.ntmps25
    go_wp2_with (first | (go_at_call 29; refine (rgood_yes _ _ (by assumption)).mono ?_; rintro e w' ⟨rfl, rfl⟩) | (go_at_call 32; refine (whole_ok rp g p high zs _ (unhide H)).mono ?_; rintro e w1 ⟨rfl, rfl⟩))
    refine wp_tail 10 (by kernel_rfl) (by kernel_rfl) ?_
    simp only [List.take_succ_cons, List.take_zero, List.drop_succ_cons, List.drop_zero]
    repeat still_step
    try refine wpStill_nil ?_
    go_wp2_with fail
    rw [show ((p : Int) + 8 * (N : Int)) = ((p + 8 * N : Nat) : Int) by omega]
    refine (fresh_any _ ((zs.drop q8).take N) _ (unhide HR).drew (by omega)).mono ?_
    rintro e w2 ⟨rfl, h1, hb2⟩
    have R := rbytes_post hlt hgs (unhide HS) h1 hb2
    rw [hlen]
    clear h1 hb2
    have HR2 := hide R
    clear R
    go_wp2
    go_ret2
    exact ⟨rfl, unhide HR2⟩

end Go.Proofs.Ytcplockmnabccaa
