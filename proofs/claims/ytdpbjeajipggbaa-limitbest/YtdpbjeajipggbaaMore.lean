/- LimitMore: longer words that may be never make a code that costs more. -/
import Derived.Test.YtdpbjeajipggbaaCostly
namespace Go.Proofs.Ytdpbjeajipggbaa
open Go.RowKit
set_option linter.unusedVariables false

attribute [local go_sem ↓] Go.wp_at_zero Go.wp_at_succ

/-- both codes -/
structure Pair (os : List Int) (most : Int) (l : List Nat) (M ga gb : Nat) (w1 w2 : World) : Prop where
  ord : IsOrder os l
  m1 : 1 ≤ M
  m2 : M + 1 ≤ 20
  len : l.length ≤ 2 ^ M
  fit : tot os os.length ≤ 1099511627776
  nb : NoneBelow os
  sm : os.length ≤ 65536
  ia : IntsAt w1 .i64 3 ga os.length (ans os l M)
  ib : IntsAt w2 .i64 3 gb os.length (ans os l (M + 1))

theorem pair_cases {os : List Int} {most m2 : Int} {a b : Value} {e f : Int} {lo lo2 : Nat} {w1 w2 : World} (h1 : LensIs os most a e lo w1) (h2 : LensIs os m2 b f lo2 w2) (hm : LArgs os most → m2 = most + 1) :
    (a = .slice none 0 0 ∧ (e = 2 ∨ e = 3 ∨ e = 13)) ∨ (e = 0 ∧ most = 20 ∧ (f = 2 ∨ f = 3 ∨ f = 13) ∧ ∃ g, a = .slice (some ⟨g, 0, none⟩) os.length os.length) ∨
    (e = 0 ∧ f = 0 ∧ ∃ l M ga gb, a = .slice (some ⟨ga, 0, none⟩) os.length os.length ∧ b = .slice (some ⟨gb, 0, none⟩) os.length os.length ∧ Pair os most l M ga gb w1 w2) := by
  rcases h1 with ⟨k1, rfl, rfl⟩ | ⟨k1, k2, rfl, rfl⟩ | ⟨k1, k2, k3, rfl, rfl⟩ | ⟨k1, k2, rfl, l, g, k3, k4, rfl, k5, k6⟩
  · exact .inl ⟨rfl, .inl rfl⟩
  · exact .inl ⟨rfl, .inr (.inl rfl)⟩
  · exact .inl ⟨rfl, .inr (.inr rfl)⟩
  · have hm2 := hm k1
    obtain ⟨M, rfl⟩ := Int.eq_ofNat_of_zero_le (show 0 ≤ most by have := k1.1; omega)
    rw [Int.toNat_natCast] at k4 k6
    rcases h2 with ⟨j1, rfl, rfl⟩ | ⟨j1, j2, rfl, rfl⟩ | ⟨j1, j2, ⟨l', j3, j4⟩, rfl, rfl⟩ | ⟨j1, j2, rfl, l', g', j3, j4, rfl, j5, j6⟩
    · refine .inr (.inl ⟨rfl, ?_, .inl rfl, g, rfl⟩)
      have h3 := k1.1
      have h4 := k1.2.1
      refine Classical.byContradiction fun hc => j1 ⟨by omega, by omega, k1.2.2⟩
    · omega
    · obtain rfl := k3.one j3
      exfalso
      rw [hm2, show ((M : Int) + 1).toNat = M + 1 by omega] at j4
      have := Nat.le_trans k4 (Nat.pow_le_pow_right (show 0 < 2 by decide) (show M ≤ M + 1 by omega))
      omega
    · obtain rfl := k3.one j3
      rw [hm2, show ((M : Int) + 1).toNat = M + 1 by omega] at j6
      have h3 := k1.1
      have h4 := j1.2.1
      exact .inr (.inr ⟨rfl, rfl, l, M, g, g', rfl, rfl, ⟨k3, by omega, by omega, k4, k2, k1.2.2.2, k1.2.2.1, k6, j6⟩⟩)

theorem reads_two (w : World) (a b : Int) : ReadsI (w.alloc (.cells #[.int .i64 a, .int .i64 b] 3)) (.slice (some ⟨w.heap.size, 0, none⟩) 2 2) [a, b] := by
  refine ⟨_, 2, rfl, fun _ => ⟨w.heap.size, 0, rfl, fun j hj => ?_⟩⟩
  simp only [World.cell?, heap_alloc_new]
  match j, hj with
  | 0, _ => rfl
  | 1, _ => rfl

theorem probe_cost (w : World) : Calls Try.prog 11 #[.slice (some ⟨w.heap.size, 0, none⟩) 2 2, .slice (some ⟨w.heap.size + 1, 0, none⟩) 2 2] ((w.alloc (.cells #[.int .i64 1, .int .i64 2] 3)).alloc (.cells #[.int .i64 3, .int .i64 4] 3)) fun e w' => e = .returned (.tuple #[.int .i64 11, .int .i64 0]) ∧ w' = (w.alloc (.cells #[.int .i64 1, .int .i64 2] 3)).alloc (.cells #[.int .i64 3, .int .i64 4] 3) := by
  have r2 := reads_two (w.alloc (.cells #[.int .i64 1, .int .i64 2] 3)) 3 4
  rw [World.size_alloc] at r2
  refine (cost_ok [1, 2] [3, 4] _ _ _ ((reads_two w 1 2).stays ((Below.refl _ _).alloc (Nat.le_refl _) _)) r2 (by simp) (by simp)).mono fun e w' ⟨a, x, he, hc, hw⟩ => ⟨?_, hw⟩
  have hcA : CArgs [1, 2] [3, 4] := ⟨rfl, fun j hj => by match j, hj with | 0, _ => decide | 1, _ => decide, fun j hj => by match j, hj with | 0, _ => decide | 1, _ => decide⟩
  have e2 : CostIs [1, 2] [3, 4] 11 0 := .inr (.inr ⟨hcA, by decide, by decide, rfl⟩)
  obtain ⟨rfl, rfl⟩ := hc.one e2
  exact he

/-- what a code costs -/
theorem Pair.cost {os : List Int} {most : Int} {l : List Nat} {M g : Nat} {v : Value} {w : World} (ord : IsOrder os l) (hM : 1 ≤ M) (hM2 : M ≤ 20) (hn : l.length ≤ 2 ^ M) (fit : tot os os.length ≤ 1099511627776) (nb : NoneBelow os) (sm : os.length ≤ 65536) (hr : ReadsI w v os) (hi : IntsAt w .i64 3 g os.length (ans os l M)) :
    Calls Try.prog 11 #[v, .slice (some ⟨g, 0, none⟩) os.length os.length] w fun e w' => e = .returned (.tuple #[.int .i64 (acc os (lensL (ans os l M) os.length) os.length : Nat), .int .i64 0]) ∧ w' = w := by
  refine (cost_ok os _ _ _ _ hr hi.lens (by omega) (by rw [lensL_length]; omega)).mono fun e w' ⟨a, x, he, hc, hw⟩ => ⟨?_, hw⟩
  have hcA : CArgs os (lensL (ans os l M) os.length) := ⟨by rw [lensL_length], nb, fun j hj => by rw [lensL_length] at hj; rw [lensL_get _ _ _ hj]; omega⟩
  obtain ⟨rfl, rfl⟩ := hc.one (.inr (.inr ⟨hcA, cost_small ord hM hM2 hn fit, rfl, rfl⟩))
  exact he

set_option maxRecDepth 100000 in
set_option maxHeartbeats 2000000 in
theorem more_walk (a : Option Addr) (cap : Nat) (os : List Int) (most : Int) (w : World) (hr : ReadsN w a cap os) :
    Calls Try.prog 6 #[.slice a os.length cap, .int .i64 most] w fun e w' => e = .returned (.bool true) ∧ Below w.heap.size w w' := by
  have HR := hide hr.reads
  have HL1 := hide (lens_ok os most _ w hr.reads)
  clear hr
  obtain ⟨n, hn⟩ : ∃ n, n = os.length := ⟨_, rfl⟩
  rw [← hn] at HR HL1 ⊢
  have HN := hide hn
  clear hn
  go_enter Try.func6, Try.ntmps6
  go_upto_region 2 with (go_at_call 7; go_must (refine (unhide HL1).mono ?_; rintro e w1 ⟨va, ea, rfl, hA, hB1⟩; have HA := hide hA; have HB1 := hide hB1; clear hA hB1))
  go_upto_region 3 with (go_at_call 7; go_must (refine (lens_ok os _ _ _ ((unhide HR).stays (unhide HB1))).mono ?_; rintro e w2 ⟨vb, eb, rfl, hA, hB2⟩; have HC := hide (pair_cases (unhide HA) hA (fun hh => by first | (rw [wrap64_eq]; exact IntWalk.i64_in _ (by have := hh.1; have := hh.2.1; omega)) | exact IntWalk.i64_in _ (by have := hh.1; have := hh.2.1; omega))); have HB2 := hide hB2; clear hA hB2))
  have HB : Hid (Below w.heap.size w w2) := hide ((unhide HB1).trans ((unhide HB2).mono (unhide HB1).size))
  have hC := unhide HC
  rw [← unhide HN] at hC
  have HPR := hide (probe_cost w2)
  have HB3 : Hid (Below w.heap.size w ((w2.alloc (.cells #[.int .i64 1, .int .i64 2] 3)).alloc (.cells #[.int .i64 3, .int .i64 4] 3))) := hide ((unhide HB).trans (((Below.refl _ _).alloc (unhide HB).size _).alloc (by have := (unhide HB).size; simp; omega) _))
  have HB23 : Hid (Below w2.heap.size w2 ((w2.alloc (.cells #[.int .i64 1, .int .i64 2] 3)).alloc (.cells #[.int .i64 3, .int .i64 4] 3))) := hide (((Below.refl _ _).alloc (Nat.le_refl _) _).alloc (by simp) _)
  obtain ⟨w3, hw3⟩ : ∃ w3, w3 = (w2.alloc (.cells #[.int .i64 1, .int .i64 2] 3)).alloc (.cells #[.int .i64 3, .int .i64 4] 3) := ⟨_, rfl⟩
  rw [← hw3] at HPR HB3 HB23
  have HW3 := hide hw3
  clear HC HA HL1 hw3
  rcases hC with ⟨rfl, rfl | rfl | rfl⟩ | ⟨rfl, rfl, rfl | rfl | rfl, g, rfl⟩ | ⟨rfl, rfl, l, M, ga, gb, rfl, rfl, hp⟩
  case inr.inr =>
    have HRR := hide ((unhide HR).stays (unhide HB3))
    have HCA : Hid (Calls Try.prog 11 #[.slice a n cap, .slice (some ⟨ga, 0, none⟩) n n] w3 fun e w' => e = .returned (.tuple #[.int .i64 (acc os (lensL (ans os l M) os.length) os.length : Nat), .int .i64 0]) ∧ w' = w3) := hide (by
      have h1 := (hp.ia.stays (unhide HB2) hp.ia.lt).stays (unhide HB23) (Nat.lt_of_lt_of_le hp.ia.lt (unhide HB2).size)
      have := Pair.cost (most := most) hp.ord hp.m1 (by have := hp.m2; omega) hp.len hp.fit hp.nb hp.sm (unhide HRR) h1
      rw [← unhide HN] at this ⊢
      exact this)
    have HCB : Hid (Calls Try.prog 11 #[.slice a n cap, .slice (some ⟨gb, 0, none⟩) n n] w3 fun e w' => e = .returned (.tuple #[.int .i64 (acc os (lensL (ans os l (M + 1)) os.length) os.length : Nat), .int .i64 0]) ∧ w' = w3) := hide (by
      have h1 := hp.ib.stays (unhide HB23) hp.ib.lt
      have := Pair.cost (most := most) hp.ord (by omega) hp.m2 (Nat.le_trans hp.len (Nat.pow_le_pow_right (by decide) (by omega))) hp.fit hp.nb hp.sm (unhide HRR) h1
      rw [← unhide HN] at this ⊢
      exact this)
    have hle := cost_more hp.ord hp.m1 hp.len
    obtain ⟨x, hx⟩ : ∃ x, x = acc os (lensL (ans os l M) os.length) os.length := ⟨_, rfl⟩
    obtain ⟨y, hy⟩ : ∃ y, y = acc os (lensL (ans os l (M + 1)) os.length) os.length := ⟨_, rfl⟩
    rw [← hx] at HCA hle
    rw [← hy] at HCB hle
    have hle2 : (y : Int) ≤ (x : Int) := by omega
    clear hx hy hp hle
    go_upto_region 8 with (go_at_call 11; rw [← unhide HW3]; refine (unhide HPR).mono ?_; rintro e w' ⟨rfl, hww⟩; replace hww := hww.symm; subst hww)
    clear HPR
    go_upto_region 9 with (go_at_call 11; go_must (refine (unhide HCA).mono ?_; rintro e w' ⟨rfl, hww⟩; replace hww := hww.symm; subst hww))
    clear HCA
    go_wp2_with (go_at_call 11; go_must (refine (unhide HCB).mono ?_; rintro e w' ⟨rfl, hww⟩; replace hww := hww.symm; subst hww))
    go_ret
    exact ⟨rfl, unhide HB3⟩
  all_goals go_wp2_with (go_at_call 11; rw [← unhide HW3]; refine (unhide HPR).mono ?_; rintro e w' ⟨rfl, hww⟩; replace hww := hww.symm; subst hww)
  all_goals go_ret
  all_goals exact ⟨rfl, unhide HB3⟩

end Go.Proofs.Ytdpbjeajipggbaa
