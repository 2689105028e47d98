/- The law SumsGo, walked. -/
import Derived.Test.YtnijllkafakoiaaTurned
import Derived.Test.YtnijllkafakoiaaJoin
namespace Go.Proofs.Ytnijllkafakoiaa
open Go.RowKit

theorem sum32_lt {f : Nat → Nat} {s : Nat} (hs : s ≤ 16777216) (hf : ∀ r, r < 4294967296 → f r < 4294967296) (sum : Nat) (hsum : sum < 4294967296) (zs : List Nat) (hz : ∀ z ∈ zs, z < 256) : sum32 f s sum zs < 4294967296 := by
  rw [sum32]
  refine Nat.xor_lt_two_pow (n := 32) (by omega) (crc_lt (k := 32) rfl hf zs (fun z h => ?_) _ (Nat.xor_lt_two_pow (n := 32) (by omega) hsum))
  have := hz z h
  have h2 : z * s ≤ 255 * 16777216 := Nat.mul_le_mul (by omega) hs
  omega

theorem sum64_lt {f : Nat → Nat} {s : Nat} (hs : s ≤ 16777216) (hf : ∀ r, r < 18446744073709551616 → f r < 18446744073709551616) (sum : Nat) (hsum : sum < 18446744073709551616) (zs : List Nat) (hz : ∀ z ∈ zs, z < 256) : sum64 f s sum zs < 18446744073709551616 := by
  rw [sum64]
  refine Nat.xor_lt_two_pow (n := 64) (by omega) (crc_lt (k := 64) rfl hf zs (fun z h => ?_) _ (Nat.xor_lt_two_pow (n := 64) (by omega) hsum))
  have := hz z h
  have h2 : z * s ≤ 255 * 16777216 := Nat.mul_le_mul (by omega) hs
  omega

theorem adler_lt (sum : Nat) (hs : sum < 4294967296) (zs : List Nat) : adler sum zs < 4294967296 := by
  obtain ⟨h1, h2⟩ := adl_lt (sum % 65536, sum / 65536) (by show sum % 65536 < 65536; omega) (by show sum / 65536 < 65536; omega) zs
  rw [adler]
  omega

theorem adler_below (sum : Nat) (a : Option Addr) (cap : Nat) (zs : List Nat) (w : World) (hs : sum < 4294967296) (hv : Reads w (.slice a zs.length cap) zs) (hcap : zs.length ≤ cap) (hz : ∀ z ∈ zs, z < 256) (hn : zs.length ≤ 140737488355328) :
    Calls Try.prog 15 #[.int .u32 (sum : Int), .slice a zs.length cap] w fun e w' => e = .returned (.int .u32 (adler sum zs : Int)) ∧ Below w.heap.size w w' :=
  (adler_walk sum a cap zs w hs hv hcap hz hn).mono fun e w'' h => ⟨h.1, by rw [h.2]; exact Below.refl _ _⟩

theorem own_form {w : World} {base n : Nat} {v : Value} {xs : List Value} (h : w.ownsRow base 5 1 v n xs) : ∃ a cap, v = .slice a n cap ∧ n ≤ cap := by
  rcases h.2 with ⟨e, e'⟩ | ⟨g, cap, cur, e, hb, hh, hle, _⟩
  · exact ⟨none, 0, by rw [e, e'], by omega⟩
  · exact ⟨_, cap, e, by simpa using hle⟩

set_option maxRecDepth 100000 in
set_option maxHeartbeats 4000000 in
theorem go_walk (aa ba : Option Addr) (acap bcap : Nat) (za zb : List Nat) (w : World)
    (hra : (aa = none ∧ acap = 0 ∧ za = []) ∨ ∃ ad, aa = some ad ∧ ∀ (j : Nat) u, (za.map bv)[j]? = some u → w.cell? (ad.add j) = some u)
    (hrb : (ba = none ∧ bcap = 0 ∧ zb = []) ∨ ∃ ad, ba = some ad ∧ ∀ (j : Nat) u, (zb.map bv)[j]? = some u → w.cell? (ad.add j) = some u)
    (hsa : ∀ z ∈ za, z < 256) (hsb : ∀ z ∈ zb, z < 256) (hl : za.length + zb.length ≤ 140737488355328) (hca : za.length ≤ acap) (hcb : zb.length ≤ bcap) :
    Calls Try.prog 5 #[.slice aa za.length acap, .slice ba zb.length bcap] w fun e w' => e = .returned (.bool true) ∧ Below w.heap.size w w' := by
  obtain ⟨i0, hi, hz0, hz1, hz2⟩ := info_parts info5
  have HRA := hide (reads_of hra)
  have HRB := hide (reads_of hrb)
  have HSA := hide hra
  have HSB := hide hrb
  have HLL := hide hl
  have hsab : ∀ z ∈ za ++ zb, z < 256 := fun z hz => (List.mem_append.1 hz).elim (hsa z) (hsb z)
  have hlab : (za ++ zb).length ≤ 140737488355328 := by rw [List.length_append]; exact hl
  have lp : ∀ r, r < 4294967296 → lstep pl r < 4294967296 := fun r hr => lstep_lt (w := 32) (by decide) hr
  have lh : ∀ r, r < 4294967296 → hstep ph r < 4294967296 := fun r _ => hstep_lt (by decide)
  have lw : ∀ r, r < 18446744073709551616 → lstep pw r < 18446744073709551616 := fun r hr => lstep_lt (w := 64) (by decide) hr
  obtain ⟨CA, eCA⟩ : ∃ x, x = sum32 (lstep pl) 1 0 za := ⟨_, rfl⟩
  obtain ⟨CS, eCS⟩ : ∃ x, x = sum32 (lstep pl) 1 0 (za ++ zb) := ⟨_, rfl⟩
  have bCA : CA < 4294967296 := by rw [eCA]; exact sum32_lt (by omega) lp 0 (by omega) za hsa
  have HCCA : Hid (∀ w', Reads w' (.slice aa za.length acap) za → Calls Try.prog 8 #[.int .u32 0, .slice aa za.length acap] w' fun e w'' => e = .returned (.int .u32 (CA : Int)) ∧ Below w'.heap.size w' w'') := hide fun w' h => by rw [eCA]; exact crc32_walk 0 _ za w' (by omega) h hsa (by omega)
  have HCCB : Hid (∀ w', Reads w' (.slice ba zb.length bcap) zb → Calls Try.prog 8 #[.int .u32 (CA : Int), .slice ba zb.length bcap] w' fun e w'' => e = .returned (.int .u32 (CS : Int)) ∧ Below w'.heap.size w' w'') := hide fun w' h => by
    have := crc32_walk CA _ zb w' bCA h hsb (by omega)
    rw [eCA, sum32_go, ← eCA, ← eCS] at this
    exact this
  have HCCS : Hid (∀ a1 c1 w', (za ++ zb).length ≤ c1 → Reads w' (.slice a1 (za ++ zb).length c1) (za ++ zb) → Calls Try.prog 8 #[.int .u32 0, .slice a1 (za ++ zb).length c1] w' fun e w'' => e = .returned (.int .u32 (CS : Int)) ∧ Below w'.heap.size w' w'') := hide fun a1 c1 w' hc h => by rw [eCS]; exact crc32_walk 0 _ (za ++ zb) w' (by omega) h hsab hlab
  obtain ⟨HA, eHA⟩ : ∃ x, x = sum32 (hstep ph) 16777216 0 za := ⟨_, rfl⟩
  obtain ⟨HS, eHS⟩ : ∃ x, x = sum32 (hstep ph) 16777216 0 (za ++ zb) := ⟨_, rfl⟩
  have bHA : HA < 4294967296 := by rw [eHA]; exact sum32_lt (by omega) lh 0 (by omega) za hsa
  have HCHA : Hid (∀ w', Reads w' (.slice aa za.length acap) za → Calls Try.prog 11 #[.int .u32 0, .slice aa za.length acap] w' fun e w'' => e = .returned (.int .u32 (HA : Int)) ∧ Below w'.heap.size w' w'') := hide fun w' h => by rw [eHA]; exact high_walk 0 _ za w' (by omega) h hsa (by omega)
  have HCHB : Hid (∀ w', Reads w' (.slice ba zb.length bcap) zb → Calls Try.prog 11 #[.int .u32 (HA : Int), .slice ba zb.length bcap] w' fun e w'' => e = .returned (.int .u32 (HS : Int)) ∧ Below w'.heap.size w' w'') := hide fun w' h => by
    have := high_walk HA _ zb w' bHA h hsb (by omega)
    rw [eHA, sum32_go, ← eHA, ← eHS] at this
    exact this
  have HCHS : Hid (∀ a1 c1 w', (za ++ zb).length ≤ c1 → Reads w' (.slice a1 (za ++ zb).length c1) (za ++ zb) → Calls Try.prog 11 #[.int .u32 0, .slice a1 (za ++ zb).length c1] w' fun e w'' => e = .returned (.int .u32 (HS : Int)) ∧ Below w'.heap.size w' w'') := hide fun a1 c1 w' hc h => by rw [eHS]; exact high_walk 0 _ (za ++ zb) w' (by omega) h hsab hlab
  obtain ⟨WA, eWA⟩ : ∃ x, x = sum64 (lstep pw) 1 0 za := ⟨_, rfl⟩
  obtain ⟨WS, eWS⟩ : ∃ x, x = sum64 (lstep pw) 1 0 (za ++ zb) := ⟨_, rfl⟩
  have bWA : WA < 18446744073709551616 := by rw [eWA]; exact sum64_lt (by omega) lw 0 (by omega) za hsa
  have HCWA : Hid (∀ w', Reads w' (.slice aa za.length acap) za → Calls Try.prog 13 #[.int .u64 0, .slice aa za.length acap] w' fun e w'' => e = .returned (.int .u64 (WA : Int)) ∧ Below w'.heap.size w' w'') := hide fun w' h => by rw [eWA]; exact crc64_walk 0 _ za w' (by omega) h hsa (by omega)
  have HCWB : Hid (∀ w', Reads w' (.slice ba zb.length bcap) zb → Calls Try.prog 13 #[.int .u64 (WA : Int), .slice ba zb.length bcap] w' fun e w'' => e = .returned (.int .u64 (WS : Int)) ∧ Below w'.heap.size w' w'') := hide fun w' h => by
    have := crc64_walk WA _ zb w' bWA h hsb (by omega)
    rw [eWA, sum64_go, ← eWA, ← eWS] at this
    exact this
  have HCWS : Hid (∀ a1 c1 w', (za ++ zb).length ≤ c1 → Reads w' (.slice a1 (za ++ zb).length c1) (za ++ zb) → Calls Try.prog 13 #[.int .u64 0, .slice a1 (za ++ zb).length c1] w' fun e w'' => e = .returned (.int .u64 (WS : Int)) ∧ Below w'.heap.size w' w'') := hide fun a1 c1 w' hc h => by rw [eWS]; exact crc64_walk 0 _ (za ++ zb) w' (by omega) h hsab hlab
  obtain ⟨DA, eDA⟩ : ∃ x, x = adler 1 za := ⟨_, rfl⟩
  obtain ⟨DS, eDS⟩ : ∃ x, x = adler 1 (za ++ zb) := ⟨_, rfl⟩
  have bDA : DA < 4294967296 := by rw [eDA]; exact adler_lt 1 (by omega) za
  have HCDA : Hid (∀ w', Reads w' (.slice aa za.length acap) za → Calls Try.prog 15 #[.int .u32 1, .slice aa za.length acap] w' fun e w'' => e = .returned (.int .u32 (DA : Int)) ∧ Below w'.heap.size w' w'') := hide fun w' h => by rw [eDA]; exact adler_below 1 aa acap za w' (by omega) h hca hsa (by omega)
  have HCDB : Hid (∀ w', Reads w' (.slice ba zb.length bcap) zb → Calls Try.prog 15 #[.int .u32 (DA : Int), .slice ba zb.length bcap] w' fun e w'' => e = .returned (.int .u32 (DS : Int)) ∧ Below w'.heap.size w' w'') := hide fun w' h => by
    have := adler_below DA ba bcap zb w' bDA h hcb hsb (by omega)
    rw [eDA, adler_go 1 (by omega), ← eDA, ← eDS] at this
    exact this
  have HCDS : Hid (∀ a1 c1 w', (za ++ zb).length ≤ c1 → Reads w' (.slice a1 (za ++ zb).length c1) (za ++ zb) → Calls Try.prog 15 #[.int .u32 1, .slice a1 (za ++ zb).length c1] w' fun e w'' => e = .returned (.int .u32 (DS : Int)) ∧ Below w'.heap.size w' w'') := hide fun a1 c1 w' hc h => by rw [eDS]; exact adler_below 1 a1 c1 (za ++ zb) w' (by omega) h hc hsab hlab
  obtain ⟨B, eB⟩ : ∃ x, x = sum32 (lstep pl) 1 0 zb := ⟨_, rfl⟩
  have bB : B < 4294967296 := by rw [eB]; exact sum32_lt (by omega) lp 0 (by omega) zb hsb
  have HCB2 : Hid (∀ w', Reads w' (.slice ba zb.length bcap) zb → Calls Try.prog 8 #[.int .u32 0, .slice ba zb.length bcap] w' fun e w'' => e = .returned (.int .u32 (B : Int)) ∧ Below w'.heap.size w' w'') := hide fun w' h => by rw [eB]; exact crc32_walk 0 _ zb w' (by omega) h hsb (by omega)
  have HCJ : Hid (∀ w', Calls Try.prog 17 #[.int .u32 (CA : Int), .int .u32 (B : Int), .int .i64 (zb.length : Int)] w' fun e w'' => e = .returned (.tuple #[.int .u32 (CS : Int), .int .i64 0]) ∧ w'' = w') := hide fun w' => by
    have := join_walk CA B zb.length w' bCA bB (by omega)
    rw [eCA, eB, join_go, ← eCA, ← eB, ← eCS] at this
    exact this
  obtain ⟨L5, hL5⟩ : ∃ L5, L5 = (za ++ zb).length := ⟨_, rfl⟩
  rw [← hL5] at HCCS HCHS HCWS HCDS
  have HL5 := hide hL5
  clear hL5 hra hrb hsa hsb hl hca hcb hsab hlab lp lh lw eCA eCS bCA eHA eHS bHA eWA eWS bWA eDA eDS bDA eB bB
  go_enter Try.func5, Try.ntmps5
  go_upto_region 1 with fail
  go_cut [5] (fun v5 wc => wc.ownsRow w.heap.size 5 1 v5 L5 ((za ++ zb).map bv) ∧ Below w.heap.size w wc)
  case first =>
    rcases unhide HSA with ⟨rfl, rfl, rfl⟩ | ⟨ad, rfl, hcA⟩
    · rcases unhide HSB with ⟨rfl, rfl, rfl⟩ | ⟨bd, rfl, hcB⟩
      · go_wp2_with (at_builtin; first | (refine wpList_append_own_none rfl (.tmp 8) (.tmp 9) 24 rfl w.heap.size 5 i0 1 Try.underlying24 hi _ 0 [] (by rfl) (World.ownsRow_made w #[] 0 (Nat.le_refl _) (by unfold maxLen; omega) rfl) (by rfl) ?_) | (refine wpList_append_own_none rfl (.tmp 10) (.tmp 11) 24 rfl w.heap.size 5 i0 1 Try.underlying24 hi _ 0 [] (by rfl) (World.ownsRow_made w #[] 0 (Nat.le_refl _) (by unfold maxLen; omega) rfl) (by rfl) ?_))
        go_meet
        exact ⟨by rw [unhide HL5]; simpa using World.ownsRow_made w #[] 0 (Nat.le_refl _) (by unfold maxLen; omega) rfl, (Below.refl _ _).alloc (Nat.le_refl _) _⟩
      · have HCB := hide hcB
        clear hcB
        go_wp2_with (at_builtin; first | (refine wpList_append_own_none rfl (.tmp 8) (.tmp 9) 24 rfl w.heap.size 5 i0 1 Try.underlying24 hi _ 0 [] (by rfl) (World.ownsRow_made w #[] 0 (Nat.le_refl _) (by unfold maxLen; omega) rfl) (by rfl) ?_) | (refine wpList_append_own _ rfl (.tmp 10) (.tmp 11) 24 rfl w.heap.size 5 i0 (.int .u8 0) 1 1 Try.underlying24 hi hz0 hz1 hz2 rfl (by decide) _ 0 [] (by rfl) (World.ownsRow_made w #[] 0 (Nat.le_refl _) (by unfold maxLen; omega) rfl) bd zb.length bcap (zb.map bv) (by rfl) (by simp) (by intro j u hj; exact cell_stays (by exact (Below.refl _ _).alloc (Nat.le_refl _) _) (unhide HCB j u hj)) (by intro u hu; simp at hu; obtain ⟨z, _, rfl⟩ := hu; rfl) (by have := unhide HLL; unfold maxLen; omega) (by have := unhide HLL; omega) (by simp) ?_; intro v2 w2 hown2 hgrow2 _; have HO2 := hide hown2; have HG2 := hide hgrow2; clear hown2 hgrow2))
        go_meet
        exact ⟨by rw [unhide HL5]; simpa using unhide HO2, ((Below.refl _ _).alloc (Nat.le_refl _) _).grown (unhide HG2) (by simp) (fun k e => by simp [Value.ownBlock] at e; omega)⟩
    · have HCA := hide hcA
      clear hcA
      rcases unhide HSB with ⟨rfl, rfl, rfl⟩ | ⟨bd, rfl, hcB⟩
      · go_wp2_with (at_builtin; first | (refine wpList_append_own _ rfl (.tmp 8) (.tmp 9) 24 rfl w.heap.size 5 i0 (.int .u8 0) 1 1 Try.underlying24 hi hz0 hz1 hz2 rfl (by decide) _ 0 [] (by rfl) (World.ownsRow_made w #[] 0 (Nat.le_refl _) (by unfold maxLen; omega) rfl) ad za.length acap (za.map bv) (by rfl) (by simp) (by intro j u hj; exact cell_stays (by exact (Below.refl _ _).alloc (Nat.le_refl _) _) (unhide HCA j u hj)) (by intro u hu; simp at hu; obtain ⟨z, _, rfl⟩ := hu; rfl) (by have := unhide HLL; unfold maxLen; omega) (by have := unhide HLL; omega) (by simp) ?_; intro v1 w1 hown1 hgrow1 _; have HO1 : Hid (w1.ownsRow w.heap.size 5 1 v1 za.length (za.map bv)) := hide (by simpa using hown1); have HB1 : Hid (Below w.heap.size w w1) := hide (((Below.refl _ _).alloc (Nat.le_refl _) _).grown hgrow1 (by simp) (fun k e => by simp [Value.ownBlock] at e; omega)); have hsz1 : w.heap.size ≤ w1.heap.size := (unhide HB1).size; clear hown1 hgrow1) | (refine wpList_append_own_none rfl (.tmp 10) (.tmp 11) 24 rfl w.heap.size 5 i0 1 Try.underlying24 hi _ za.length (za.map bv) (by rfl) (unhide HO1) (by rfl) ?_))
        go_meet
        exact ⟨by rw [unhide HL5]; simpa using unhide HO1, unhide HB1⟩
      · have HCB := hide hcB
        clear hcB
        go_wp2_with (at_builtin; first | (refine wpList_append_own _ rfl (.tmp 8) (.tmp 9) 24 rfl w.heap.size 5 i0 (.int .u8 0) 1 1 Try.underlying24 hi hz0 hz1 hz2 rfl (by decide) _ 0 [] (by rfl) (World.ownsRow_made w #[] 0 (Nat.le_refl _) (by unfold maxLen; omega) rfl) ad za.length acap (za.map bv) (by rfl) (by simp) (by intro j u hj; exact cell_stays (by exact (Below.refl _ _).alloc (Nat.le_refl _) _) (unhide HCA j u hj)) (by intro u hu; simp at hu; obtain ⟨z, _, rfl⟩ := hu; rfl) (by have := unhide HLL; unfold maxLen; omega) (by have := unhide HLL; omega) (by simp) ?_; intro v1 w1 hown1 hgrow1 _; have HO1 : Hid (w1.ownsRow w.heap.size 5 1 v1 za.length (za.map bv)) := hide (by simpa using hown1); have HB1 : Hid (Below w.heap.size w w1) := hide (((Below.refl _ _).alloc (Nat.le_refl _) _).grown hgrow1 (by simp) (fun k e => by simp [Value.ownBlock] at e; omega)); have hsz1 : w.heap.size ≤ w1.heap.size := (unhide HB1).size; clear hown1 hgrow1) | (refine wpList_append_own _ rfl (.tmp 10) (.tmp 11) 24 rfl w.heap.size 5 i0 (.int .u8 0) 1 1 Try.underlying24 hi hz0 hz1 hz2 rfl (by decide) _ za.length (za.map bv) (by rfl) (unhide HO1) bd zb.length bcap (zb.map bv) (by rfl) (by simp) (by intro j u hj; exact cell_stays (unhide HB1) (unhide HCB j u hj)) (by intro u hu; simp at hu; obtain ⟨z, _, rfl⟩ := hu; rfl) (by have := unhide HLL; unfold maxLen; omega) (by have := unhide HLL; omega) (by omega) ?_; intro v2 w2 hown2 hgrow2 _; have HO2 := hide hown2; have HG2 := hide hgrow2; clear hown2 hgrow2))
        go_meet
        exact ⟨by rw [unhide HL5]; simpa using unhide HO2, (unhide HB1).grown (unhide HG2) hsz1 (fun k e => ((unhide HO1).lt k e).1)⟩
  case rest =>
    obtain ⟨hown, hbel⟩ := hcut
    obtain ⟨a5, c5, rfl, hc5⟩ := own_form hown
    have HRO := hide (reads_row hown (unhide HL5).symm)
    have HC5 := hide hc5
    have HB0 := hide hbel
    have hsz0 := hbel.size
    have HX0 := hide (Below.refl wc.heap.size wc)
    clear hown hbel hc5
    go_wp2_with fail
    refine (unhide HCCA _ ((unhide HRA).stays ((unhide HB0).trans ((unhide HX0).mono hsz0)))).mono ?_
    rintro e w1 ⟨rfl, hb⟩
    have HX1 := hide ((unhide HX0).trans (hb.mono (unhide HX0).size))
    clear hb
    go_wp2_with fail
    refine (unhide HCB2 _ ((unhide HRB).stays ((unhide HB0).trans ((unhide HX1).mono hsz0)))).mono ?_
    rintro e w2 ⟨rfl, hb⟩
    have HX2 := hide ((unhide HX1).trans (hb.mono (unhide HX1).size))
    clear hb
    go_wp2_with fail
    refine (unhide HCJ _).mono ?_
    rintro e w3 ⟨rfl, hw3⟩
    rw [hw3]
    clear hw3
    go_wp2_with fail
    refine (unhide HCCA _ ((unhide HRA).stays ((unhide HB0).trans ((unhide HX2).mono hsz0)))).mono ?_
    rintro e w3 ⟨rfl, hb⟩
    have HX3 := hide ((unhide HX2).trans (hb.mono (unhide HX2).size))
    clear hb
    go_wp2_with fail
    refine (unhide HCCB _ ((unhide HRB).stays ((unhide HB0).trans ((unhide HX3).mono hsz0)))).mono ?_
    rintro e w4 ⟨rfl, hb⟩
    have HX4 := hide ((unhide HX3).trans (hb.mono (unhide HX3).size))
    clear hb
    go_wp2_with fail
    refine (unhide HCCS _ _ _ (unhide HC5) ((unhide HRO).stays (unhide HX4))).mono ?_
    rintro e w5 ⟨rfl, hb⟩
    have HX5 := hide ((unhide HX4).trans (hb.mono (unhide HX4).size))
    clear hb
    go_wp2_with fail
    refine (unhide HCHA _ ((unhide HRA).stays ((unhide HB0).trans ((unhide HX5).mono hsz0)))).mono ?_
    rintro e w6 ⟨rfl, hb⟩
    have HX6 := hide ((unhide HX5).trans (hb.mono (unhide HX5).size))
    clear hb
    go_wp2_with fail
    refine (unhide HCHB _ ((unhide HRB).stays ((unhide HB0).trans ((unhide HX6).mono hsz0)))).mono ?_
    rintro e w7 ⟨rfl, hb⟩
    have HX7 := hide ((unhide HX6).trans (hb.mono (unhide HX6).size))
    clear hb
    go_wp2_with fail
    refine (unhide HCHS _ _ _ (unhide HC5) ((unhide HRO).stays (unhide HX7))).mono ?_
    rintro e w8 ⟨rfl, hb⟩
    have HX8 := hide ((unhide HX7).trans (hb.mono (unhide HX7).size))
    clear hb
    go_wp2_with fail
    refine (unhide HCWA _ ((unhide HRA).stays ((unhide HB0).trans ((unhide HX8).mono hsz0)))).mono ?_
    rintro e w9 ⟨rfl, hb⟩
    have HX9 := hide ((unhide HX8).trans (hb.mono (unhide HX8).size))
    clear hb
    go_wp2_with fail
    refine (unhide HCWB _ ((unhide HRB).stays ((unhide HB0).trans ((unhide HX9).mono hsz0)))).mono ?_
    rintro e w10 ⟨rfl, hb⟩
    have HX10 := hide ((unhide HX9).trans (hb.mono (unhide HX9).size))
    clear hb
    go_wp2_with fail
    refine (unhide HCWS _ _ _ (unhide HC5) ((unhide HRO).stays (unhide HX10))).mono ?_
    rintro e w11 ⟨rfl, hb⟩
    have HX11 := hide ((unhide HX10).trans (hb.mono (unhide HX10).size))
    clear hb
    go_wp2_with fail
    refine (unhide HCDA _ ((unhide HRA).stays ((unhide HB0).trans ((unhide HX11).mono hsz0)))).mono ?_
    rintro e w12 ⟨rfl, hb⟩
    have HX12 := hide ((unhide HX11).trans (hb.mono (unhide HX11).size))
    clear hb
    go_wp2_with fail
    refine (unhide HCDB _ ((unhide HRB).stays ((unhide HB0).trans ((unhide HX12).mono hsz0)))).mono ?_
    rintro e w13 ⟨rfl, hb⟩
    have HX13 := hide ((unhide HX12).trans (hb.mono (unhide HX12).size))
    clear hb
    go_wp2_with fail
    refine (unhide HCDS _ _ _ (unhide HC5) ((unhide HRO).stays (unhide HX13))).mono ?_
    rintro e w14 ⟨rfl, hb⟩
    have HX14 := hide ((unhide HX13).trans (hb.mono (unhide HX13).size))
    clear hb
    go_wp2_with fail
    refine (unhide HCCS _ _ _ (unhide HC5) ((unhide HRO).stays (unhide HX14))).mono ?_
    rintro e w15 ⟨rfl, hb⟩
    have HX15 := hide ((unhide HX14).trans (hb.mono (unhide HX14).size))
    clear hb
    have hcn := conv_nine w15
    go_wp2_with fail
    refine (crc32_walk 0 _ nine _ (by omega) (reads_nine w15) nine_small (by decide)).mono ?_
    rintro e wz ⟨rfl, hb⟩
    have HXZ : Hid (Below w.heap.size w wz) := hide (((unhide HB0).trans ((unhide HX15).mono hsz0)).trans ((((Below.refl w15.heap.size w15).alloc (Nat.le_refl _) _).trans (hb.mono (by simp))).mono (by have h1 := (unhide HX15).size; omega)))
    rw [nine32, show ((3421780262 : Nat) : Int) = 3421780262 from rfl]
    clear hb hcn
    go_wp2_with fail
    go_ret
    exact ⟨rfl, unhide HXZ⟩
end Go.Proofs.Ytnijllkafakoiaa
