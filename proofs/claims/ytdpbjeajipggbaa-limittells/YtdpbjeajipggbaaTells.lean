/- LimitTells: any numbers have the document's lengths, or none. -/
import Derived.Test.YtdpbjeajipggbaaRefL
import Derived.Test.YtdpbjeajipggbaaSame
import Derived.Test.YtdpbjeajipggbaaRefCost
namespace Go.Proofs.Ytdpbjeajipggbaa
open Go.RowKit
set_option linter.unusedVariables false

attribute [local go_sem ↓] Go.wp_at_zero Go.wp_at_succ

theorem out_of (most : Int) (n : Nat) (h : ¬ (1 ≤ most ∧ most ≤ 20 ∧ n ≤ 65536)) : (most < 1) ∨ (¬ most < 1 ∧ 20 < most) ∨ (¬ most < 1 ∧ ¬ 20 < most ∧ (65536 : Int) < (n : Int)) := by omega

set_option maxRecDepth 100000 in
theorem reflens_ok (os : List Int) (most : Int) (v : Value) (w : World) (hr : ReadsI w v os) :
    Calls Try.prog 8 #[v, .int .i64 most] w fun e w' => ∃ u x, e = .returned (.tuple #[u, .int .i64 x]) ∧ LensIs os most u x w.heap.size w' ∧ Below w.heap.size w w' := by
  obtain ⟨a, cap, rfl, hs⟩ := id hr
  by_cases h : 1 ≤ most ∧ most ≤ 20 ∧ os.length ≤ 65536
  · obtain ⟨M, rfl⟩ := Int.eq_ofNat_of_zero_le (show 0 ≤ most by omega)
    exact reflens_good os M a cap w hr (by omega) (by omega) h.2.2
  · have HNO : Hid (¬ LArgs os most) := hide fun h' => h ⟨h'.1, h'.2.1, h'.2.2.1⟩
    have ho := out_of most os.length h
    clear hs hr h
    obtain ⟨n, hn⟩ : ∃ n, n = os.length := ⟨_, rfl⟩
    rw [← hn] at ho ⊢
    clear hn
    rcases ho with h1 | ⟨h1, h2⟩ | ⟨h1, h2, h3⟩
    all_goals go_enter Try.func8, Try.ntmps8
    all_goals go_wp2_with fail
    all_goals go_ret2
    all_goals exact ⟨_, 2, rfl, .inl ⟨unhide HNO, rfl, rfl⟩, Below.refl _ _⟩

/-- all three are alike -/
theorem tells_same {os : List Int} {most : Int} {vx vy vw : Value} {ex ey ew : Int} {b1 b2 b3 : Nat} {w1 w2 w3 : World} (h1 : LensIs os most vx ex b1 w1) (h2 : LensIs os most vy ey b2 w2) (h3 : LensIs os most vw ew b3 w3) :
    (vx = .slice none 0 0 ∧ vy = .slice none 0 0 ∧ vw = .slice none 0 0 ∧ ew = ex) ∨
    (ex = 0 ∧ ew = 0 ∧ ∃ (C : Nat → Nat) (gx gy gw : Nat), os.length ≤ 65536 ∧ vx = .slice (some ⟨gx, 0, none⟩) os.length os.length ∧ vy = .slice (some ⟨gy, 0, none⟩) os.length os.length ∧ vw = .slice (some ⟨gw, 0, none⟩) os.length os.length ∧ b1 ≤ gx ∧ b2 ≤ gy ∧ b3 ≤ gw ∧
      IntsAt w1 .i64 3 gx os.length C ∧ IntsAt w2 .i64 3 gy os.length C ∧ IntsAt w3 .i64 3 gw os.length C) := by
  rcases h1 with ⟨a1, rfl, rfl⟩ | ⟨a1, a2, rfl, rfl⟩ | ⟨a1, a2, ⟨la, a3, a4⟩, rfl, rfl⟩ | ⟨a1, a2, rfl, la, ga, a3, a4, rfl, a5, a6⟩ <;>
  rcases h2 with ⟨c1, rfl, rfl⟩ | ⟨c1, c2, rfl, rfl⟩ | ⟨c1, c2, ⟨lc, c3, c4⟩, rfl, rfl⟩ | ⟨c1, c2, rfl, lc, gc, c3, c4, rfl, c5, c6⟩ <;>
  rcases h3 with ⟨d1, rfl, rfl⟩ | ⟨d1, d2, rfl, rfl⟩ | ⟨d1, d2, ⟨ld, d3, d4⟩, rfl, rfl⟩ | ⟨d1, d2, rfl, ld, gd, d3, d4, rfl, d5, d6⟩ <;>
  first
    | exact .inl ⟨rfl, rfl, rfl, rfl⟩
    | exact absurd c1 a1
    | exact absurd a1 c1
    | exact absurd d1 a1
    | exact absurd a1 d1
    | (exfalso; omega)
    | (exfalso; obtain rfl := a3.one c3; omega)
    | (exfalso; obtain rfl := a3.one d3; omega)
    | (obtain rfl := a3.one c3; obtain rfl := a3.one d3; exact .inr ⟨rfl, rfl, _, ga, gc, gd, a1.2.2.1, rfl, rfl, rfl, a5, c5, d5, a6, c6, d6⟩)

set_option maxRecDepth 100000 in
set_option maxHeartbeats 2000000 in
theorem tells_walk (a : Option Addr) (cap : Nat) (os : List Int) (most : Int) (w : World) (hr : ReadsN w a cap os) (hn8 : os.length * 8 ≤ 140737488351232) :
    Calls Try.prog 3 #[.slice a os.length cap, .int .i64 most] w fun e w' => e = .returned (.bool true) ∧ Below w.heap.size w w' := by
  have HR := hide hr
  have HA0 : Hid (ReadsN (w.alloc (.cells #[] 3)) a cap os) := hide (hr.stays ((Below.refl _ _).alloc (Nat.le_refl _) _))
  clear hr
  obtain ⟨n, hn⟩ : ∃ n, n = os.length := ⟨_, rfl⟩
  rw [← hn] at hn8 ⊢
  have HN := hide hn
  clear hn
  have HOB := hide (built_own w w.heap.size (Nat.le_refl _))
  go_enter Try.func3, Try.ntmps3
  go_upto_region 2 with (at_builtin; go_must (refine wpList_append_ints rfl (.tmp 13) (.tmp 14) rfl w.heap.size (.slice (some ⟨w.heap.size, 0, none⟩) 0 0) 0 [] (by rfl) (unhide HOB) a n cap os (unhide HN) (by rfl) (unhide HA0) (by omega) (by simp) ?_; intro v1 w1 hown1 hgrow1 _; have HO1 : Hid (w1.ownsRow w.heap.size 3 1 v1 n (os.map iv)) := hide (by simpa using hown1); have HB1 : Hid (Below w.heap.size w w1) := hide (((Below.refl _ _).alloc (Nat.le_refl _) _).trans (grown_below hgrow1 (by simp) (Nat.le_refl _))); clear hown1 hgrow1))
  have HRI := hide (own_reads (unhide HO1) (unhide HN))
  have HRO : Hid (ReadsI w1 (.slice a n cap) os) := hide (by have := ((unhide HR).stays (unhide HB1)).reads; rw [← unhide HN] at this; exact this)
  have HC2 := hide (lens_ok os most v1 w1 (unhide HRI))
  clear HO1 HOB HA0 HR
  go_upto_region 3 with (go_at_call 7; go_must (refine (unhide HC2).mono ?_; rintro e w2 ⟨vx, ex, rfl, h1, h2⟩; have HX2 := hide h1; have HB12 := hide h2; clear h1 h2))
  clear HC2
  have HC3 := hide (lens_ok os most v1 w2 ((unhide HRI).stays (unhide HB12)))
  go_upto_region 4 with (go_at_call 7; go_must (refine (unhide HC3).mono ?_; rintro e w3 ⟨vy, ey, rfl, h1, h2⟩; have HX3 := hide h1; have HB23 := hide h2; clear h1 h2))
  clear HC3
  have HB13 := hide ((unhide HB12).trans ((unhide HB23).mono (unhide HB12).size))
  have HC4 := hide (reflens_ok os most (.slice a n cap) w3 ((unhide HRO).stays (unhide HB13)))
  go_upto_region 5 with (go_at_call 8; go_must (refine (unhide HC4).mono ?_; rintro e w4 ⟨vw, ew, rfl, h1, h2⟩; have HX4 := hide h1; have HB34 := hide h2; clear h1 h2))
  clear HC4
  have HB14 := hide ((unhide HB13).trans ((unhide HB34).mono (unhide HB13).size))
  have HB4 := hide ((unhide HB1).trans ((unhide HB14).mono (unhide HB1).size))
  have HSIN : Hid (∀ q, Calls Try.prog 9 #[v1, .slice a n cap] (w4.drewN q) fun e w' => e = .returned (.bool true) ∧ ∃ q', w' = w4.drewN q') := hide fun q => by
    refine (same_ok os os v1 _ (w4.drewN q) ((unhide HRI).stays (below_drewN (unhide HB14) q)) ((unhide HRO).stays (below_drewN (unhide HB14) q)) (by rw [← unhide HN]; omega)).mono ?_
    rintro e w' ⟨⟨rfl, _⟩ | ⟨_, hc⟩, q', rfl⟩
    · exact ⟨rfl, q + q', by rw [World.drewN_drewN]⟩
    · exact absurd rfl hc
  have hall := tells_same (unhide HX2) (unhide HX3) (unhide HX4)
  rw [← unhide HN] at hall
  rcases hall with ⟨rfl, rfl, rfl, rfl⟩ | ⟨rfl, rfl, C, gx, gy, gw, hn6, rfl, rfl, rfl, hbx, hby, hbw, ix, iy, iw⟩
  · have he : (ew != ew) = false := by simp
    have HS1 : Hid (∀ ws : World, Calls Try.prog 9 #[.slice none 0 0, .slice none 0 0] ws fun e w' => e = .returned (.bool true) ∧ ∃ q, w' = ws.drewN q) := hide fun ws => by
      refine (same_ok [] [] _ _ ws ⟨none, 0, rfl, fun h => by simp at h⟩ ⟨none, 0, rfl, fun h => by simp at h⟩ (by simp)).mono ?_
      rintro e w' ⟨⟨rfl, _⟩ | ⟨_, hc⟩, q', rfl⟩
      · exact ⟨rfl, q', rfl⟩
      · exact absurd rfl hc
    clear HX2 HX3 HX4
    go_wp2_with fail
    refine (unhide HS1 w4).mono ?_
    rintro e w5 ⟨rfl, q, rfl⟩
    go_wp2_with fail
    refine (unhide HSIN q).mono ?_
    rintro e w6 ⟨rfl, q2, rfl⟩
    go_wp2_with fail
    go_loopg [12] 0 (fun gk d ws => gk = 0 ∧ d = .int .i64 0 ∧ ws = w4.drewN q2)
    case atStart => exact ⟨rfl, rfl, rfl⟩
    case round =>
      obtain ⟨-, rfl, rfl⟩ := hrel
      go_wp2_with fail
      refine (unhide HS1 (w4.drewN q2)).mono ?_
      rintro e w7 ⟨rfl, q3, rfl⟩
      go_wp2_with (go_at_call 10; refine (names_ok _).mono ?_; rintro e w' ⟨rfl, rfl⟩)
      go_ret
      exact ⟨rfl, below_drewN (unhide HB4) (q2 + q3)⟩
  · have HS1 : Hid (∀ (g : Nat) (ws : World), IntsAt ws .i64 3 g n C → IntsAt ws .i64 3 gw n C → Calls Try.prog 9 #[.slice (some ⟨g, 0, none⟩) n n, .slice (some ⟨gw, 0, none⟩) n n] ws fun e w' => e = .returned (.bool true) ∧ ∃ q, w' = ws.drewN q) := hide fun g ws h1 h2 => by
      have e1 := h1.lens
      have e2 := h2.lens
      refine (same_ok _ _ _ _ ws e1 e2 (by rw [lensL_length]; omega)).mono ?_
      rintro e w' ⟨⟨rfl, _⟩ | ⟨_, hc⟩, q', rfl⟩
      · exact ⟨rfl, q', rfl⟩
      · exact absurd rfl hc
    have ix4 : IntsAt w4 .i64 3 gx n C := (ix.stays (unhide HB23) ix.lt).stays (unhide HB34) (Nat.lt_of_lt_of_le ix.lt (unhide HB23).size)
    have iy4 : IntsAt w4 .i64 3 gy n C := iy.stays (unhide HB34) iy.lt
    have hgxy : gx ≠ gy := by have := ix.lt; omega
    have hgxw : gx ≠ gw := by have := ix.lt; have := (unhide HB23).size; omega
    have hwx : w.heap.size ≤ gx := by have := (unhide HB1).size; omega
    have HLAST : Hid (∀ ws, Only gx w4 ws → IntsAt ws .i64 3 gy n C ∧ IntsAt ws .i64 3 gw n C ∧ Below w.heap.size w ws) := hide fun ws ho => by
      refine ⟨?_, ?_, (unhide HB4).trans (ho.below hwx (unhide HB4).size)⟩
      · unfold IntsAt
        rw [ho.keep gy iy4.lt hgxy.symm]
        exact iy4
      · unfold IntsAt
        rw [ho.keep gw iw.lt hgxw.symm]
        exact iw
    have HRX : Hid (RowI w4 gx n) := hide ⟨_, ix4, by simp [icells]⟩
    have HS5 := hide (unhide HS1 gx w4 ix4 iw)
    clear HX2 HX3 HX4 ix iy iw ix4 iy4 hbx hby hbw hgxy hgxw hwx
    go_wp2_with fail
    refine (unhide HS5).mono ?_
    rintro e w5 ⟨rfl, q, rfl⟩
    go_wp2_with fail
    refine (unhide HSIN q).mono ?_
    rintro e w6 ⟨rfl, q2, rfl⟩
    go_wp2_with fail
    go_loopg [12] n (fun gk d ws => ∃ (k : Nat), gk = n - k ∧ k ≤ n ∧ d = .int .i64 (k : Int) ∧ Hid (RowI ws gx n) ∧ Hid (Only gx w4 ws))
    case atStart => exact ⟨0, by omega, by omega, rfl, hide (unhide HRX), hide (Only.drewN _ _ _)⟩
    case round =>
      obtain ⟨k, rfl, hk, rfl, hrow, honly⟩ := hrel
      by_cases hlt : k < n
      · obtain ⟨⟨y, hy⟩, hfz⟩ := (unhide hrow).cell k hlt
        have hki : (k : Int) < (n : Int) := by omega
        have HR2 := hide ((unhide hrow).set k (.int .i64 (-1)))
        have HO2 := hide ((unhide honly).set k (.int .i64 (-1)))
        clear hrow honly
        go_wp2_with fail
        go_roundg (n - (k + 1))
        case measure => omega
        case rel => exact ⟨k + 1, rfl, by omega, by go_num, HR2, HO2⟩
      · obtain rfl : k = n := by omega
        have hki : ¬ (k : Int) < (k : Int) := by omega
        obtain ⟨h1, h2, h3⟩ := unhide HLAST wr (unhide honly)
        have HS7 := hide (unhide HS1 gy wr h1 h2)
        have HBF := hide h3
        clear h1 h2 h3 hrow honly
        go_wp2_with fail
        refine (unhide HS7).mono ?_
        rintro e w7 ⟨rfl, q3, rfl⟩
        go_wp2_with (go_at_call 10; refine (names_ok _).mono ?_; rintro e w' ⟨rfl, rfl⟩)
        go_ret
        exact ⟨rfl, below_drewN (unhide HBF) q3⟩

end Go.Proofs.Ytdpbjeajipggbaa
