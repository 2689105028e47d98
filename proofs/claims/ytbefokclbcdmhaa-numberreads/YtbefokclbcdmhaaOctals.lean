/- For every number, width and bytes, number.PutOctal and number.Octal answer as the document says. No condition. -/
import Derived.Test.YtbefokclbcdmhaaSums
import Derived.Test.YtbefokclbcdmhaaOct
import Derived.Test.YtbefokclbcdmhaaPutOct
import Derived.Test.YtbefokclbcdmhaaBehind
import Derived.ProofKit
import Derived.OpenShut
namespace Go.Proofs.Ytbefokclbcdmhaa
open Go.RowKit

theorem reads_nil (w : World) (zs : List Nat) (h : zs = []) : Reads w (.slice none 0 0) zs := by
  subst h
  exact ⟨none, 0, rfl, fun h => absurd h (by simp)⟩

theorem reads_block {w : World} {g : Nat} {zs : List Nat} (hx : w.heap[g]? = some (.cells (zs.map bv).toArray 5 (0, 0))) (n : Nat) (hn : n = zs.length) : Reads w (.slice (some ⟨g, 0, none⟩) n n) zs := by
  subst hn
  exact ⟨_, _, rfl, fun _ => ⟨_, rfl, fun j u hj => by
    have e : (⟨g, 0, none⟩ : Addr).add j = ⟨g, j, none⟩ := by by_cases hq : j = 0 <;> simp [Addr.add, hq]
    rw [e]
    simp only [World.cell?, hx]
    simpa using hj⟩⟩

theorem Reads.only {w w' : World} {g k : Nat} {zs : List Nat} (hx : w.heap[k]? = some (.cells (zs.map bv).toArray 5 (0, 0))) (hne : k ≠ g) (n : Nat) (hn : n = zs.length) (ho : Only g w w') : Reads w' (.slice (some ⟨k, 0, none⟩) n n) zs :=
  reads_block (by rw [ho.keep k (heap_lt hx) hne]; exact hx) n hn

/-- what the law asks of two answers, at any later world -/
def Fits (w0 w : World) (vx vy vw : Value) (e : Int) : Prop :=
  ∀ w', Below w.heap.size w w' → Calls Try.prog 9 #[vx, vy, .int .i64 e, .slice none 0 0, vw, .int .i64 e] w' fun r w2 => r = .returned (.bool true) ∧ Below w0.heap.size w' w2

theorem fits_bad (w0 w : World) (e : Int) (he : e ≠ 0) (h0 : w0.heap.size ≤ w.heap.size) : Fits w0 w (.slice none 0 0) (.slice none 0 0) (.slice none 0 0) e := fun w' hb =>
  (behind_bad e he _ _ w').mono (by rintro r w2 ⟨rfl, h⟩; exact ⟨rfl, h.mono (by have := hb.size; omega)⟩)

theorem fits_good (w0 w : World) (g1 g2 g3 n : Nat) (zs : List Nat) (hs : ∀ z ∈ zs, z < 256) (hn : n = zs.length) (hl : zs.length ≤ 140737488355328) (h1 : w.heap[g1]? = some (.cells (zs.map bv).toArray 5 (0, 0))) (h2 : w.heap[g2]? = some (.cells (zs.map bv).toArray 5 (0, 0)))
    (h3 : w.heap[g3]? = some (.cells (zs.map bv).toArray 5 (0, 0))) (hne : g2 ≠ g1) (h0 : w0.heap.size ≤ w.heap.size) (hg : w0.heap.size ≤ g1) : Fits w0 w (.slice (some ⟨g1, 0, none⟩) n n) (.slice (some ⟨g2, 0, none⟩) n n) (.slice (some ⟨g3, 0, none⟩) n n) 0 := fun w' hb => by
  have e1 : w'.heap[g1]? = some (.cells (zs.map bv).toArray 5 (0, 0)) := by rw [hb.block _ (heap_lt h1)]; exact h1
  have e2 : w'.heap[g2]? = some (.cells (zs.map bv).toArray 5 (0, 0)) := by rw [hb.block _ (heap_lt h2)]; exact h2
  have e3 : w'.heap[g3]? = some (.cells (zs.map bv).toArray 5 (0, 0)) := by rw [hb.block _ (heap_lt h3)]; exact h3
  subst hn
  exact (behind_good g1 _ _ _ [] zs w' e1 (fun w2 ho => Reads.only e2 hne _ rfl ho) (reads_nil _ _ rfl) (reads_block e3 _ rfl) hs hl).mono (by rintro r w2 ⟨rfl, h⟩; exact ⟨rfl, h.below hg (by have := hb.size; omega)⟩)

/-- an answer: none, with an error; or new memory, in block g, that holds zs -/
def Ans (E : Int) (N : Nat) (zs : List Nat) (g : Nat) (vx : Value) (w : World) : Prop :=
  (E ≠ 0 ∧ vx = .slice none 0 0) ∨ (E = 0 ∧ vx = .slice (some ⟨g, 0, none⟩) N N ∧ w.heap[g]? = some (.cells (zs.map bv).toArray 5 (0, 0)))

theorem fits_of {E : Int} {N : Nat} {zs : List Nat} {vx vy vw : Value} {w w1 w2 w3 : World} (hs : ∀ z ∈ zs, z < 256) (hn : N = zs.length) (hl : zs.length ≤ 140737488355328)
    (h1 : Ans E N zs w.heap.size vx w1) (b1 : Below w.heap.size w w1) (h2 : Ans E N zs w1.heap.size vy w2) (b2 : Below w1.heap.size w1 w2) (h3 : Ans E N zs w2.heap.size vw w3) (b3 : Below w2.heap.size w2 w3) :
    Fits w w3 vx vy vw E := by
  have s1 := b1.size
  have s2 := b2.size
  have s3 := b3.size
  rcases h1 with ⟨he, rfl⟩ | ⟨he, rfl, m1⟩
  · rcases h2 with ⟨_, rfl⟩ | ⟨he2, _⟩
    · rcases h3 with ⟨_, rfl⟩ | ⟨he3, _⟩
      · exact fits_bad w w3 E he (by omega)
      · exact absurd he3 he
    · exact absurd he2 he
  · rcases h2 with ⟨he2, _⟩ | ⟨_, rfl, m2⟩
    · exact absurd he he2
    · rcases h3 with ⟨he3, _⟩ | ⟨_, rfl, m3⟩
      · exact absurd he he3
      · rw [he]
        refine fits_good w w3 _ _ _ N zs hs hn hl ?_ ?_ m3 ?_ (by omega) (Nat.le_refl _)
        · rw [b3.block _ (by have := heap_lt m1; omega), b2.block _ (heap_lt m1)]; exact m1
        · rw [b3.block _ (heap_lt m2)]; exact m2
        · have := heap_lt m1; omega

/-- the error of PutOctal, and the field -/
def octErr (v n : Int) : Int := if n < 2 ∨ 64 < n ∨ v < 0 then 2 else if v.toNat < 8 ^ (n.toNat - 1) then 0 else 3
def octField (v n : Int) : List Nat := octRow v.toNat (n.toNat - 1) (n.toNat - 1)

theorem octErr_arg {v n : Int} (h : n < 2 ∨ 64 < n ∨ v < 0) : octErr v n = 2 := by rw [octErr, if_pos h]
theorem octErr_ok {v n : Int} (h : ¬ (n < 2 ∨ 64 < n ∨ v < 0)) (h2 : v.toNat < 8 ^ (n.toNat - 1)) : octErr v n = 0 := by rw [octErr, if_neg h, if_pos h2]
theorem octErr_big {v n : Int} (h : ¬ (n < 2 ∨ 64 < n ∨ v < 0)) (h2 : ¬ v.toNat < 8 ^ (n.toNat - 1)) : octErr v n = 3 := by rw [octErr, if_neg h, if_neg h2]

theorem putOctal_any (v n : Int) (hv : -9223372036854775808 ≤ v ∧ v ≤ 9223372036854775807) (w : World) :
    Calls Try.prog 19 #[.int .i64 v, .int .i64 n] w fun e w' => ∃ vx, e = .returned (.tuple #[vx, .int .i64 (octErr v n)]) ∧ Ans (octErr v n) n.toNat (octField v n) w.heap.size vx w' ∧ Below w.heap.size w w' := by
  by_cases h : n < 2 ∨ 64 < n ∨ v < 0
  · rw [octErr_arg h]
    refine (putOctal_arg v n h w).mono ?_
    rintro e w' ⟨rfl, rfl⟩
    exact ⟨_, rfl, .inl ⟨by decide, rfl⟩, Below.refl _ _⟩
  · obtain ⟨V, rfl⟩ := Int.eq_ofNat_of_zero_le (show 0 ≤ v by omega)
    obtain ⟨N, rfl⟩ := Int.eq_ofNat_of_zero_le (show 0 ≤ n by omega)
    by_cases h2 : V < 8 ^ (N - 1)
    · rw [octErr_ok h (by simpa using h2)]
      refine (putOctal_ok V N (by omega) (by omega) h2 w).mono ?_
      rintro e w' ⟨rfl, h3, h4⟩
      exact ⟨_, rfl, .inr ⟨rfl, by simp, by simpa [octField] using h3⟩, h4⟩
    · rw [octErr_big h (by simpa using h2)]
      refine (putOctal_big V N (by omega) (by omega) h2 w).mono ?_
      rintro e w' ⟨rfl, rfl⟩
      exact ⟨_, rfl, .inl ⟨by decide, rfl⟩, Below.refl _ _⟩

theorem refPutOctal_all (v n : Int) (hv : -9223372036854775808 ≤ v ∧ v ≤ 9223372036854775807) (w : World) :
    Calls Try.prog 20 #[.int .i64 v, .int .i64 n] w fun e w' => ∃ vx, e = .returned (.tuple #[vx, .int .i64 (octErr v n)]) ∧ Ans (octErr v n) n.toNat (octField v n) w.heap.size vx w' ∧ Below w.heap.size w w' := by
  by_cases h : n < 2 ∨ 64 < n ∨ v < 0
  · rw [octErr_arg h]
    refine (refPutOctal_arg v n h w).mono ?_
    rintro e w' ⟨rfl, rfl⟩
    exact ⟨_, rfl, .inl ⟨by decide, rfl⟩, Below.refl _ _⟩
  · obtain ⟨V, rfl⟩ := Int.eq_ofNat_of_zero_le (show 0 ≤ v by omega)
    obtain ⟨N, rfl⟩ := Int.eq_ofNat_of_zero_le (show 0 ≤ n by omega)
    refine (refPutOctal_any V N (by omega) (by omega) w).mono ?_
    rintro e w' ⟨rfl, h3, h4⟩
    by_cases h2 : V < 8 ^ (N - 1)
    · rw [octErr_ok h (by simpa using h2), octAns, if_pos h2]
      exact ⟨_, rfl, .inr ⟨rfl, by simp, by simpa [octField] using h3⟩, h4⟩
    · rw [octErr_big h (by simpa using h2), octAns, if_neg h2]
      exact ⟨_, rfl, .inl ⟨by decide, rfl⟩, h4⟩

theorem field_length {v n : Int} (h : octErr v n = 0) : n.toNat = (octField v n).length := by
  rw [octField, octRow_length]
  by_cases h1 : n < 2 ∨ 64 < n ∨ v < 0
  · rw [octErr_arg h1] at h; cases h
  · omega

theorem fits_octal {v n : Int} {vx vy vw : Value} {w w1 w2 w3 : World}
    (h1 : Ans (octErr v n) n.toNat (octField v n) w.heap.size vx w1) (b1 : Below w.heap.size w w1) (h2 : Ans (octErr v n) n.toNat (octField v n) w1.heap.size vy w2) (b2 : Below w1.heap.size w1 w2)
    (h3 : Ans (octErr v n) n.toNat (octField v n) w2.heap.size vw w3) (b3 : Below w2.heap.size w2 w3) : Fits w w3 vx vy vw (octErr v n) := by
  by_cases h : octErr v n = 0
  · refine fits_of (octRow_small _ _ _) (field_length h) ?_ h1 b1 h2 b2 h3 b3
    show (octField v n).length ≤ _
    rw [← field_length h]
    by_cases h5 : n < 2 ∨ 64 < n ∨ v < 0
    · rw [octErr_arg h5] at h; cases h
    · omega
  · have s1 := b1.size
    have s2 := b2.size
    have s3 := b3.size
    rcases h1 with ⟨_, rfl⟩ | ⟨he, _⟩
    · rcases h2 with ⟨_, rfl⟩ | ⟨he, _⟩
      · rcases h3 with ⟨_, rfl⟩ | ⟨he, _⟩
        · exact fits_bad w w3 _ h (by omega)
        · exact absurd he h
      · exact absurd he h
    · exact absurd he h

set_option maxRecDepth 100000 in
set_option maxHeartbeats 2000000 in
theorem octals_walk (v n : Int) (hv : -9223372036854775808 ≤ v ∧ v ≤ 9223372036854775807) (ba : Option Addr) (bcap : Nat) (zs : List Nat) (w : World)
    (hr : (ba = none ∧ bcap = 0 ∧ zs = []) ∨ ∃ ad, ba = some ad ∧ ∀ (j : Nat) u, (zs.map bv)[j]? = some u → w.cell? (ad.add j) = some u) (hn : zs.length ≤ 140737488355328) :
    Calls Try.prog 5 #[.int .i64 v, .int .i64 n, .slice ba zs.length bcap] w fun e w' => e = .returned (.bool true) ∧ Below w.heap.size w w' := by
  obtain ⟨i0, hi, hz0, hz1, hz2⟩ := info_parts info5
  have HR := hide (reads_of hr)
  have c1 := putOctal_any v n hv
  have c2 := refPutOctal_all v n hv
  have HFT : Hid (∀ vx vy vw w w1 w2 w3, Ans (octErr v n) n.toNat (octField v n) w.heap.size vx w1 → Below w.heap.size w w1 → Ans (octErr v n) n.toNat (octField v n) w1.heap.size vy w2 → Below w1.heap.size w1 w2 →
      Ans (octErr v n) n.toNat (octField v n) w2.heap.size vw w3 → Below w2.heap.size w2 w3 → Fits w w3 vx vy vw (octErr v n)) := hide (fun _ _ _ _ _ _ _ h1 b1 h2 b2 h3 b3 => fits_octal h1 b1 h2 b2 h3 b3)
  generalize octErr v n = E at *
  generalize octField v n = zf at *
  generalize n.toNat = N at *
  rcases hr with ⟨rfl, rfl, rfl⟩ | ⟨ad, rfl, hr⟩
  · go_enter Try.func5, Try.ntmps5
    go_wp2_with fail
    refine (c1 _).mono ?_; rintro e w1 ⟨vx, rfl, ha1, hb1⟩
    go_wp2_with fail
    refine (c1 _).mono ?_; rintro e w2 ⟨vy, rfl, ha2, hb2⟩
    go_wp2_with fail
    refine (c2 _).mono ?_; rintro e w3 ⟨vw, rfl, ha3, hb3⟩
    have HF := hide (unhide HFT _ _ _ _ _ _ _ ha1 hb1 ha2 hb2 ha3 hb3)
    have HB : Hid (Below w.heap.size w w3) := hide ((hb1.trans (hb2.mono hb1.size)).trans (hb3.mono (by have := hb1.size; have := hb2.size; omega)))
    have hsz : w.heap.size ≤ w3.heap.size := (unhide HB).size
    clear ha1 ha2 ha3 hb1 hb2 hb3 c1 c2 HFT
    go_wp2_with (at_builtin; go_must (refine wpList_append_own_none rfl (.tmp 36) (.tmp 37) 22 rfl w3.heap.size 5 i0 1 Try.underlying22 hi _ 0 [] (by rfl) (World.ownsRow_made w3 #[] 0 (Nat.le_refl _) (by unfold maxLen; omega) rfl) (by rfl) ?_))
    refine (octal_ok _ [] _ ⟨_, _, rfl, fun h => absurd h (by simp)⟩ (by simp)).mono ?_
    rintro e w5 ⟨rfl, hb5⟩
    have HB5 := hide (((Below.refl w3.heap.size w3).alloc (Nat.le_refl _) _).trans (hb5.mono (by simp)))
    clear hb5
    go_wp2_with fail
    refine (refOctal_ok _ [] _ ((unhide HR).stays ((unhide HB).trans ((unhide HB5).mono hsz))) (by simp)).mono ?_
    rintro e w6 ⟨rfl, hb6⟩
    have HB6 := hide ((unhide HB5).trans (hb6.mono (unhide HB5).size))
    clear hb6
    go_wp2_with fail
    refine (unhide HF _ (unhide HB6)).mono ?_
    rintro e w7 ⟨rfl, hb7⟩
    have HB7 : Hid (Below w.heap.size w w7) := hide (((unhide HB).trans ((unhide HB6).mono hsz)).trans hb7)
    clear hb7
    go_wp2_with (go_at_call 13; refine (names_ok _).mono ?_; rintro e w' ⟨rfl, hw⟩; rw [hw])
    go_ret
    exact ⟨rfl, unhide HB7⟩
  · have HC := hide hr
    clear hr
    go_enter Try.func5, Try.ntmps5
    go_wp2_with fail
    refine (c1 _).mono ?_; rintro e w1 ⟨vx, rfl, ha1, hb1⟩
    go_wp2_with fail
    refine (c1 _).mono ?_; rintro e w2 ⟨vy, rfl, ha2, hb2⟩
    go_wp2_with fail
    refine (c2 _).mono ?_; rintro e w3 ⟨vw, rfl, ha3, hb3⟩
    have HF := hide (unhide HFT _ _ _ _ _ _ _ ha1 hb1 ha2 hb2 ha3 hb3)
    have HB : Hid (Below w.heap.size w w3) := hide ((hb1.trans (hb2.mono hb1.size)).trans (hb3.mono (by have := hb1.size; have := hb2.size; omega)))
    have hsz : w.heap.size ≤ w3.heap.size := (unhide HB).size
    clear ha1 ha2 ha3 hb1 hb2 hb3 c1 c2 HFT
    go_wp2_with (at_builtin; go_must (refine wpList_append_own _ rfl (.tmp 36) (.tmp 37) 22 rfl w3.heap.size 5 i0 (.int .u8 0) 1 1 Try.underlying22 hi hz0 hz1 hz2 rfl (by decide) _ 0 [] (by rfl) (World.ownsRow_made w3 #[] 0 (Nat.le_refl _) (by unfold maxLen; omega) rfl) ad zs.length bcap (zs.map bv) (by rfl) (by simp) (by intro j u hj; exact cell_stays (by exact (unhide HB).alloc hsz _) (unhide HC j u hj)) (by intro u hu; simp at hu; obtain ⟨z, _, rfl⟩ := hu; rfl) (by unfold maxLen; omega) (by omega) (by simp) ?_; intro v' w4 hown' hgrow _; have HO' := hide hown'; have HG := hide hgrow; clear hown' hgrow))
    have HB4 : Hid (Below w3.heap.size w3 w4) := hide (((Below.refl _ _).alloc (Nat.le_refl _) _).grown (unhide HG) (by simp) (fun k e => by simp [Value.ownBlock] at e; omega))
    have hrd : Reads w4 v' zs := by
      have ho := unhide HO'
      rw [Nat.zero_add, List.nil_append] at ho
      rcases ho.2 with ⟨e, e'⟩ | ⟨g, c, _, e, _⟩
      · rw [e]; exact reads_nil _ _ (List.eq_nil_of_length_eq_zero e')
      · rw [e]; exact reads_row (by rw [← e]; exact ho) rfl
    refine (octal_ok _ zs _ hrd hn).mono ?_
    rintro e w5 ⟨rfl, hb5⟩
    have HB5 := hide ((unhide HB4).trans (hb5.mono (unhide HB4).size))
    clear hb5
    go_wp2_with fail
    refine (refOctal_ok _ zs _ ((unhide HR).stays ((unhide HB).trans ((unhide HB5).mono hsz))) hn).mono ?_
    rintro e w6 ⟨rfl, hb6⟩
    have HB6 := hide ((unhide HB5).trans (hb6.mono (unhide HB5).size))
    clear hb6
    go_wp2_with fail
    refine (unhide HF _ (unhide HB6)).mono ?_
    rintro e w7 ⟨rfl, hb7⟩
    have HB7 : Hid (Below w.heap.size w w7) := hide (((unhide HB).trans ((unhide HB6).mono hsz)).trans hb7)
    clear hb7
    go_wp2_with (go_at_call 13; refine (names_ok _).mono ?_; rintro e w' ⟨rfl, hw⟩; rw [hw])
    go_ret
    exact ⟨rfl, unhide HB7⟩
end Go.Proofs.Ytbefokclbcdmhaa
