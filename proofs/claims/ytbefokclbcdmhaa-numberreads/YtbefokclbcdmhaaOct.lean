/-
  What number.Octal and the document's Octal tell of any bytes.
-/
import Derived.Test.YtbefokclbcdmhaaPass
namespace Go.Proofs.Ytbefokclbcdmhaa
open Go.RowKit

theorem passN_ge (fit : Nat → Bool) (zs : List Nat) : ∀ n i, i ≤ passN fit zs n i ∧ passN fit zs n i ≤ i + n
  | 0, i => by simp [passN]
  | n + 1, i => by
    have h := passN_ge fit zs n (i + 1)
    rw [passN]
    split <;> omega

theorem passN_fit (fit : Nat → Bool) (zs : List Nat) : ∀ n i j, i ≤ j → j < passN fit zs n i → fit (zs.getD j 0) = true
  | 0, i, j, h1, h2 => by simp [passN] at h2; omega
  | n + 1, i, j, h1, h2 => by
    rw [passN] at h2
    split at h2
    · rename_i hf
      by_cases e : i = j
      · subst e; exact hf
      · exact passN_fit fit zs n (i + 1) j (by omega) h2
    · omega

/-- the number of k digits to the base 8 -/
def octN (zs : List Nat) (f : Nat) : Nat → Nat
  | 0 => 0
  | k + 1 => 8 * octN zs f k + (zs.getD (f + k) 0 - 48)

theorem octN_mono (zs : List Nat) (f k : Nat) : ∀ d, octN zs f k ≤ octN zs f (k + d)
  | 0 => Nat.le_refl _
  | d + 1 => by
    have := octN_mono zs f k d
    rw [show k + (d + 1) = (k + d) + 1 by omega, octN]
    omega

def octF (zs : List Nat) : Nat := passN isBlank zs zs.length 0
def octH (zs : List Nat) : Nat := passN isDigit zs (zs.length - octF zs) (octF zs)
def octE (zs : List Nat) : Nat := passN isTail zs (zs.length - octH zs) (octH zs)
def octV (zs : List Nat) : Nat := octN zs (octF zs) (octH zs - octF zs)
/-- the number of a field, and the error -/
def ansA (e n v : Nat) : Int := if e ≠ n then 0 else if 4611686018427387904 < v then 0 else v
def ansB (e n v : Nat) : Int := if e ≠ n then 11 else if 4611686018427387904 < v then 3 else 0
def octA (zs : List Nat) : Int := ansA (octE zs) zs.length (octV zs)
def octB (zs : List Nat) : Int := ansB (octE zs) zs.length (octV zs)
theorem ans_form {e n v : Nat} (h : e ≠ n) : ansA e n v = 0 ∧ ansB e n v = 11 := by simp [ansA, ansB, h]
theorem ans_big {e n v : Nat} (h : e = n) (hv : 4611686018427387904 < v) : ansA e n v = 0 ∧ ansB e n v = 3 := by simp [ansA, ansB, h, hv]
theorem ans_ok {e n v : Nat} (h : e = n) (hv : v ≤ 4611686018427387904) : ansA e n v = (v : Int) ∧ ansB e n v = 0 := by
  have : ¬ 4611686018427387904 < v := by omega
  simp [ansA, ansB, h, this]

theorem octF_le (zs : List Nat) : octF zs ≤ zs.length := by have := passN_ge isBlank zs zs.length 0; unfold octF; omega
theorem octH_le (zs : List Nat) : octF zs ≤ octH zs ∧ octH zs ≤ zs.length := by have := passN_ge isDigit zs (zs.length - octF zs) (octF zs); have := octF_le zs; unfold octH; omega
theorem octE_le (zs : List Nat) : octE zs ≤ zs.length := by have := passN_ge isTail zs (zs.length - octH zs) (octH zs); have := octH_le zs; unfold octE; omega
theorem oct_digit (zs : List Nat) (k : Nat) (h : k < octH zs - octF zs) : 48 ≤ zs.getD (octF zs + k) 0 ∧ zs.getD (octF zs + k) 0 ≤ 55 := by
  have := passN_fit isDigit zs (zs.length - octF zs) (octF zs) (octF zs + k) (by omega) (by unfold octH at h; omega)
  simp only [isDigit, Bool.and_eq_true, decide_eq_true_eq] at this
  omega

set_option maxHeartbeats 1000000 in
theorem octal_ok (v : Value) (zs : List Nat) (w : World) (hr : Reads w v zs) (hn : zs.length ≤ 140737488355328) :
    Calls Try.prog 21 #[v] w fun e w' => e = .returned (.tuple #[.int .i64 (octA zs), .int .i64 (octB zs)]) ∧ Below w.heap.size w w' := by
  have HR := hide hr
  obtain ⟨a, cap, rfl, hsrc⟩ := hr.spot
  have HS := hide hsrc
  clear hsrc hr
  have hF := octF_le zs
  have hH := octH_le zs
  have hE := octE_le zs
  have hFd : passN isBlank zs (zs.length - 0) 0 = octF zs := rfl
  have hHd : passN isDigit zs (zs.length - octF zs) (octF zs) = octH zs := rfl
  have hEd : passN isTail zs (zs.length - octH zs) (octH zs) = octE zs := rfl
  have hD := hide (oct_digit zs)
  have hV : octV zs = octN zs (octF zs) (octH zs - octF zs) := rfl
  unfold octA octB
  rw [hV]
  clear hV
  generalize octF zs = F at *
  generalize octH zs = H at *
  generalize octE zs = E at *
  have hFd := hide hFd
  have hHd := hide hHd
  have hEd := hide hEd
  go_enter Try.func21, Try.ntmps21
  go_wp2_with fail
  refine (pass37 _ zs 0 _ (unhide HR) (by omega) hn).mono ?_
  rintro e w1 ⟨rfl, hb1⟩
  rw [unhide hFd]
  go_wp2_with fail
  refine (pass38 _ zs F _ ((unhide HR).stays hb1) (by omega) hn).mono ?_
  rintro e w2 ⟨rfl, hb2⟩
  rw [unhide hHd]
  have hb3 := hb1.trans (hb2.mono hb1.size)
  clear hb1 hb2
  go_wp2_with fail
  refine (pass39 _ zs H _ ((unhide HR).stays hb3) (by omega) hn).mono ?_
  rintro e w3 ⟨rfl, hb4⟩
  rw [unhide hEd]
  have HB := hide (hb3.trans (hb4.mono hb3.size))
  clear hb3 hb4 hFd hHd hEd
  by_cases hEe : E = zs.length
  · have HE := hide hEe
    have hEi : ((E : Int) == (zs.length : Int)) = true := by simp; omega
    clear hEe
    go_wp2_with fail
    go_loopg [7, 8, 9, 25] (H - F) (fun gk v u d c ws => ∃ k, gk = H - F - k ∧ k ≤ H - F ∧ c = .int .i64 (k : Int) ∧ v = .int .i64 ((octN zs F k : Nat) : Int) ∧ octN zs F k ≤ 4611686018427387904 ∧ ws = w3)
    case atStart => exact ⟨0, by omega, by omega, rfl, rfl, by simp [octN], rfl⟩
    case round =>
      obtain ⟨k, rfl, hk, rfl, rfl, hle, rfl⟩ := hrel
      by_cases hlt : k < H - F
      · obtain ⟨ab, ao, rfl, hcell⟩ := unhide HS (by omega)
        have hcl := cell_stays (unhide HB) (hcell (F + k) (by omega))
        have hz := unhide hD k hlt
        have hm := octN_mono zs F (k + 1) (H - F - (k + 1))
        rw [show k + 1 + (H - F - (k + 1)) = H - F by omega] at hm
        have hs : octN zs F (k + 1) = 8 * octN zs F k + (zs.getD (F + k) 0 - 48) := rfl
        have HM := hide hm
        have HSS := hide hs
        clear hm hs
        generalize zs.getD (F + k) 0 = z at hcl hz HSS
        have hcl' : wr.cell? ⟨ab, ao + (F + k), none⟩ = some (.int .u8 (z : Int)) := hcl
        have hlt' : (k : Int) < (H : Int) - F := by omega
        have hlt2 : (F : Int) + k < zs.length := by omega
        obtain ⟨V, hV⟩ : ∃ V, V = octN zs F k := ⟨_, rfl⟩
        rw [← hV] at hle
        have HV := hide hV
        rw [← hV]
        clear hV hcell
        by_cases hbig : 4611686018427387904 < 8 * V + (z - 48)
        · go_wp2_with fail
          go_ret2
          have hv2 := unhide HV
          have hs2 := unhide HSS
          have hm2 := unhide HM
          obtain ⟨e1, e2⟩ := ans_big (v := octN zs F (H - F)) (unhide HE) (by omega)
          rw [e1, e2]
          exact ⟨rfl, unhide HB⟩
        · go_wp2_with fail
          go_roundg (H - F - (k + 1))
          case measure => omega
          case rel =>
            have hv2 := unhide HV
            have hs2 := unhide HSS
            refine ⟨k + 1, rfl, by omega, by go_num, ?_, by omega, rfl⟩
            congr 1
            omega
      · obtain rfl : k = H - F := by omega
        have HL := hide hle
        clear hle
        go_wp2_with fail
        go_ret2
        obtain ⟨e1, e2⟩ := ans_ok (unhide HE) (unhide HL)
        rw [e1, e2]
        exact ⟨rfl, unhide HB⟩
  · have HE := hide (ans_form (v := octN zs F (H - F)) hEe)
    have hEi : ((E : Int) == (zs.length : Int)) = false := by simp; omega
    go_wp2_with fail
    go_ret2
    refine ⟨?_, unhide HB⟩
    rw [(unhide HE).1, (unhide HE).2]
    rfl
theorem passN_stop (fit : Nat → Bool) (zs : List Nat) (k : Nat) (h : k < zs.length → fit (zs.getD k 0) = false) (hk : k ≤ zs.length) : passN fit zs (zs.length - k) k = k := by
  by_cases e : k = zs.length
  · subst e; rw [Nat.sub_self, passN]
  · rw [show zs.length - k = (zs.length - k - 1) + 1 by omega, passN, h (by omega)]
    rfl
theorem passN_go (fit : Nat → Bool) (zs : List Nat) (k : Nat) (h : fit (zs.getD k 0) = true) (hk : k < zs.length) : passN fit zs (zs.length - k) k = passN fit zs (zs.length - (k + 1)) (k + 1) := by
  rw [show zs.length - k = (zs.length - (k + 1)) + 1 by omega, passN, h]
  rfl

/-- what the document's Octal holds at place j among the digits -/
def OctSt (zs : List Nat) (F j V : Nat) (big : Bool) : Prop := V ≤ 4611686018427387911 ∧ (big = false → V = octN zs F (j - F)) ∧ (big = true → 4611686018427387904 < octN zs F (j - F))
theorem octN_next (zs : List Nat) (F j : Nat) (h : F ≤ j) : octN zs F (j + 1 - F) = 8 * octN zs F (j - F) + (zs.getD j 0 - 48) := by
  rw [show j + 1 - F = (j - F) + 1 by omega, octN, show F + (j - F) = j by omega]
theorem OctSt.much {zs : List Nat} {F j V : Nat} {big : Bool} (h : OctSt zs F j V big) (hj : F ≤ j) (hv : 576460752303423488 < V) : OctSt zs F (j + 1) V true := by
  have := octN_next zs F j hj
  refine ⟨h.1, by simp, fun _ => ?_⟩
  cases big
  · have := h.2.1 rfl; omega
  · have := h.2.2 rfl; omega
theorem OctSt.small {zs : List Nat} {F j V : Nat} (h : OctSt zs F j V false) (hj : F ≤ j) (hv : ¬ 576460752303423488 < V) (hz : zs.getD j 0 ≤ 55) : OctSt zs F (j + 1) (8 * V + (zs.getD j 0 - 48)) false := by
  have := octN_next zs F j hj
  have := h.2.1 rfl
  refine ⟨by omega, fun _ => by omega, by simp⟩
theorem OctSt.big {zs : List Nat} {F j V : Nat} (h : OctSt zs F j V true) (hj : F ≤ j) : OctSt zs F (j + 1) V true := by
  have := octN_next zs F j hj
  have := h.2.2 rfl
  refine ⟨h.1, by simp, fun _ => by omega⟩

set_option maxHeartbeats 4000000 in
theorem refOctal_ok (v : Value) (zs : List Nat) (w : World) (hr : Reads w v zs) (hn : zs.length ≤ 140737488355328) :
    Calls Try.prog 22 #[v] w fun e w' => e = .returned (.tuple #[.int .i64 (octA zs), .int .i64 (octB zs)]) ∧ Below w.heap.size w w' := by
  obtain ⟨a, cap, rfl, hsrc⟩ := hr.spot
  have HS := hide hsrc
  clear hsrc hr
  have HF : Hid (passN isBlank zs (zs.length - 0) 0 = octF zs) := hide rfl
  have HH : Hid (passN isDigit zs (zs.length - octF zs) (octF zs) = octH zs) := hide rfl
  have HE : Hid (passN isTail zs (zs.length - octH zs) (octH zs) = octE zs) := hide rfl
  have hV : octV zs = octN zs (octF zs) (octH zs - octF zs) := rfl
  unfold octA octB
  rw [hV]
  clear hV
  generalize octF zs = F at *
  generalize octH zs = H at *
  generalize octE zs = E at *
  go_enter Try.func22, Try.ntmps22
  go_wp2_with fail
  go_loopg [4] zs.length (fun gk i ws => ∃ k : Nat, gk = zs.length - k ∧ k ≤ zs.length ∧ i = .int .i64 (k : Int) ∧ Hid (passN isBlank zs (zs.length - k) k = F) ∧ ws = w)
  case atStart => exact ⟨0, by omega, by omega, rfl, HF, rfl⟩
  case round =>
    obtain ⟨k, rfl, hk, rfl, HP, rfl⟩ := hrel
    by_cases hgo : k < zs.length ∧ isBlank (zs.getD k 0) = true
    · obtain ⟨hlt, hbl⟩ := hgo
      obtain ⟨ab, ao, rfl, hcell⟩ := unhide HS (by omega)
      have hcl := hcell k hlt
      have HN := hide (passN_go isBlank zs k hbl hlt)
      generalize zs.getD k 0 = z at hcl hbl
      have hbl' : ((z : Int) == 32) = true := hbl
      have hlt' : (k : Int) < zs.length := by omega
      clear hcell hbl
      go_wp2_with fail
      go_roundg (zs.length - (k + 1))
      case measure => omega
      case rel => exact ⟨k + 1, rfl, by omega, by go_num, hide ((unhide HN).symm.trans (unhide HP)), rfl⟩
    · have HK := hide ((passN_stop isBlank zs k (fun h => by have := fun x => hgo ⟨h, x⟩; simpa using this) hk).symm.trans (unhide HP))
      clear HP
      by_cases hlt : k < zs.length
      · obtain ⟨ab, ao, rfl, hcell⟩ := unhide HS (by omega)
        have hcl := hcell k hlt
        have hbl : isBlank (zs.getD k 0) = false := by have := fun x => hgo ⟨hlt, x⟩; simpa using this
        generalize zs.getD k 0 = z at hcl hbl
        have hbl' : ((z : Int) == 32) = false := hbl
        have hlt' : (k : Int) < zs.length := by omega
        clear hcell hbl hgo
        go_wp2_with fail
        clear hcl hbl' hlt' hlt
        go_loopg [4, 5, 6] (zs.length - k) (fun gk i v b ws => ∃ (j V : Nat) (big : Bool), gk = zs.length - j ∧ j ≤ zs.length ∧ i = .int .i64 (j : Int) ∧ v = .int .i64 (V : Int) ∧ b = .bool big ∧ V ≤ 4611686018427387911 ∧ Hid (passN isDigit zs (zs.length - j) j = H ∧ F ≤ j ∧ OctSt zs F j V big) ∧ ws = wr)
        case atStart => exact ⟨k, 0, false, by omega, by omega, rfl, rfl, rfl, by omega, hide ⟨by rw [unhide HK]; exact unhide HH, by rw [unhide HK]; exact Nat.le_refl _, by omega, fun _ => by rw [unhide HK, Nat.sub_self]; rfl, by simp⟩, rfl⟩
        case round =>
          obtain ⟨j, V, big, rfl, hj, rfl, rfl, rfl, hV, HP, rfl⟩ := hrel
          by_cases hgo : j < zs.length ∧ isDigit (zs.getD j 0) = true
          · obtain ⟨hlt, hbl⟩ := hgo
            obtain ⟨ab, ao, ea, hcell⟩ := unhide HS (by omega)
            first | subst ea | (injection ea with ea; injection ea with ea1 ea2; subst ea1 ea2)
            have hcl := hcell j hlt
            have HN := hide (passN_go isDigit zs j hbl hlt)
            have hz : (48 : Int) ≤ (zs.getD j 0 : Nat) ∧ ((zs.getD j 0 : Nat) : Int) ≤ 55 := by simpa only [isDigit, Bool.and_eq_true, decide_eq_true_eq] using hbl
            obtain ⟨z, hzz⟩ : ∃ z, z = zs.getD j 0 := ⟨_, rfl⟩
            rw [← hzz] at hcl hz
            have HZ := hide hzz
            obtain ⟨hz1, hz2⟩ := hz
            have hlt' : (j : Int) < zs.length := by omega
            clear hcell hbl hzz
            by_cases hv : (576460752303423488 : Int) < V
            · go_wp2_with fail
              go_roundg (zs.length - (j + 1))
              case measure => omega
              case rel => exact ⟨j + 1, V, true, rfl, by omega, by go_num, rfl, rfl, hV, hide ⟨(unhide HN).symm.trans (unhide HP).1, by have := (unhide HP).2.1; omega, (unhide HP).2.2.much (unhide HP).2.1 (by omega)⟩, rfl⟩
            · cases big
              · go_wp2_with fail
                go_roundg (zs.length - (j + 1))
                case measure => omega
                case rel =>
                  have hs := (unhide HP).2.2.small (unhide HP).2.1 (by omega) (by rw [← unhide HZ]; omega)
                  rw [← unhide HZ] at hs
                  exact ⟨j + 1, 8 * V + (z - 48), false, rfl, by omega, by go_num, by go_num, rfl, by omega, hide ⟨(unhide HN).symm.trans (unhide HP).1, by have := (unhide HP).2.1; omega, hs⟩, rfl⟩
              · go_wp2_with fail
                go_roundg (zs.length - (j + 1))
                case measure => omega
                case rel => exact ⟨j + 1, V, true, rfl, by omega, by go_num, rfl, rfl, hV, hide ⟨(unhide HN).symm.trans (unhide HP).1, by have := (unhide HP).2.1; omega, (unhide HP).2.2.big (unhide HP).2.1⟩, rfl⟩
          · have HJ := hide ((passN_stop isDigit zs j (fun h => by have := fun x => hgo ⟨h, x⟩; simpa using this) hj).symm.trans (unhide HP).1)
            have HST := hide (unhide HP).2.2
            by_cases hlt : j < zs.length
            · obtain ⟨ab, ao, ea, hcell⟩ := unhide HS (by omega)
              first | subst ea | (injection ea with ea; injection ea with ea1 ea2; subst ea1 ea2)
              have hcl := hcell j hlt
              have hbl : isDigit (zs.getD j 0) = false := by have := fun x => hgo ⟨hlt, x⟩; simpa using this
              generalize zs.getD j 0 = z at hcl hbl
              have hlt' : (j : Int) < zs.length := by omega
              by_cases hz1 : (48 : Int) ≤ z
              · have hz2 : ¬ (z : Int) ≤ 55 := by intro h; simp [isDigit] at hbl; omega
                clear hcell hbl hgo
                go_wp2_with fail
                clear hcl hz1 hz2 hlt' hlt
                go_loopg [4] (zs.length - j) (fun gk i ws => ∃ m : Nat, gk = zs.length - m ∧ m ≤ zs.length ∧ i = .int .i64 (m : Int) ∧ Hid (passN isTail zs (zs.length - m) m = E) ∧ ws = wr)
                case atStart => exact ⟨j, by omega, by omega, rfl, hide (by rw [unhide HJ]; exact unhide HE), rfl⟩
                case round =>
                  obtain ⟨m, rfl, hm, rfl, HM, rfl⟩ := hrel
                  by_cases hgo : m < zs.length ∧ isTail (zs.getD m 0) = true
                  · obtain ⟨hlt, hbl⟩ := hgo
                    obtain ⟨ab, ao, ea, hcell⟩ := unhide HS (by omega)
                    first | subst ea | (injection ea with ea; injection ea with ea1 ea2; subst ea1 ea2)
                    have hcl := hcell m hlt
                    have HN := hide (passN_go isTail zs m hbl hlt)
                    generalize zs.getD m 0 = z at hcl hbl
                    have hlt' : (m : Int) < zs.length := by omega
                    clear hcell
                    by_cases hz0 : (z : Int) = 0
                    · have hz1 : ((z : Int) == 0) = true := by simpa using hz0
                      clear hbl hz0
                      go_wp2_with fail
                      go_roundg (zs.length - (m + 1))
                      case measure => omega
                      case rel => exact ⟨m + 1, rfl, by omega, by go_num, hide ((unhide HN).symm.trans (unhide HM)), rfl⟩
                    · have hz1 : ((z : Int) == 0) = false := by simpa using hz0
                      have hz2 : ((z : Int) == 32) = true := by simpa [isTail, hz1] using hbl
                      clear hbl hz0
                      go_wp2_with fail
                      go_roundg (zs.length - (m + 1))
                      case measure => omega
                      case rel => exact ⟨m + 1, rfl, by omega, by go_num, hide ((unhide HN).symm.trans (unhide HM)), rfl⟩
                  · have HK2 := hide ((passN_stop isTail zs m (fun h => by have := fun x => hgo ⟨h, x⟩; simpa using this) hm).symm.trans (unhide HM))
                    by_cases hlt : m < zs.length
                    · obtain ⟨ab, ao, ea, hcell⟩ := unhide HS (by omega)
                      first | subst ea | (injection ea with ea; injection ea with ea1 ea2; subst ea1 ea2)
                      have hcl := hcell m hlt
                      have hbl : isTail (zs.getD m 0) = false := by have := fun x => hgo ⟨hlt, x⟩; simpa using this
                      generalize zs.getD m 0 = z at hcl hbl
                      have hbl' : ((z : Int) == 0) = false ∧ ((z : Int) == 32) = false := by simpa [isTail] using hbl
                      obtain ⟨hz1, hz2⟩ := hbl'
                      have hlt' : (m : Int) < zs.length := by omega
                      clear hcell hbl hgo
                      go_wp2_with fail
                      go_ret2
                      have e0 := unhide HK2
                      obtain ⟨e1, e2⟩ := ans_form (e := E) (n := zs.length) (v := octN zs F (H - F)) (by omega)
                      rw [e1, e2]
                      exact ⟨rfl, Below.refl _ _⟩
                    · have hlt' : ¬ (m : Int) < zs.length := by omega
                      clear hgo
                      cases big
                      · by_cases hv : (4611686018427387904 : Int) < V
                        · go_wp2_with fail
                          go_ret2
                          have e0 := unhide HK2
                          have e9 := unhide HJ
                          have e3 := (unhide HST).2.1 rfl
                          rw [e9] at e3
                          obtain ⟨e1, e2⟩ := ans_big (e := E) (n := zs.length) (v := octN zs F (H - F)) (by omega) (by omega)
                          rw [e1, e2]
                          exact ⟨rfl, Below.refl _ _⟩
                        · go_wp2_with fail
                          go_ret2
                          have e0 := unhide HK2
                          have e9 := unhide HJ
                          have e3 := (unhide HST).2.1 rfl
                          rw [e9] at e3
                          obtain ⟨e1, e2⟩ := ans_ok (e := E) (n := zs.length) (v := octN zs F (H - F)) (by omega) (by omega)
                          rw [e1, e2, ← e3]
                          exact ⟨rfl, Below.refl _ _⟩
                      · go_wp2_with fail
                        go_ret2
                        have e0 := unhide HK2
                        have e9 := unhide HJ
                        have e3 := (unhide HST).2.2 rfl
                        rw [e9] at e3
                        obtain ⟨e1, e2⟩ := ans_big (e := E) (n := zs.length) (v := octN zs F (H - F)) (by omega) (by omega)
                        rw [e1, e2]
                        exact ⟨rfl, Below.refl _ _⟩
              · clear hcell hbl hgo
                go_wp2_with fail
                clear hcl hz1 hlt' hlt
                go_loopg [4] (zs.length - j) (fun gk i ws => ∃ m : Nat, gk = zs.length - m ∧ m ≤ zs.length ∧ i = .int .i64 (m : Int) ∧ Hid (passN isTail zs (zs.length - m) m = E) ∧ ws = wr)
                case atStart => exact ⟨j, by omega, by omega, rfl, hide (by rw [unhide HJ]; exact unhide HE), rfl⟩
                case round =>
                  obtain ⟨m, rfl, hm, rfl, HM, rfl⟩ := hrel
                  by_cases hgo : m < zs.length ∧ isTail (zs.getD m 0) = true
                  · obtain ⟨hlt, hbl⟩ := hgo
                    obtain ⟨ab, ao, ea, hcell⟩ := unhide HS (by omega)
                    first | subst ea | (injection ea with ea; injection ea with ea1 ea2; subst ea1 ea2)
                    have hcl := hcell m hlt
                    have HN := hide (passN_go isTail zs m hbl hlt)
                    generalize zs.getD m 0 = z at hcl hbl
                    have hlt' : (m : Int) < zs.length := by omega
                    clear hcell
                    by_cases hz0 : (z : Int) = 0
                    · have hz1 : ((z : Int) == 0) = true := by simpa using hz0
                      clear hbl hz0
                      go_wp2_with fail
                      go_roundg (zs.length - (m + 1))
                      case measure => omega
                      case rel => exact ⟨m + 1, rfl, by omega, by go_num, hide ((unhide HN).symm.trans (unhide HM)), rfl⟩
                    · have hz1 : ((z : Int) == 0) = false := by simpa using hz0
                      have hz2 : ((z : Int) == 32) = true := by simpa [isTail, hz1] using hbl
                      clear hbl hz0
                      go_wp2_with fail
                      go_roundg (zs.length - (m + 1))
                      case measure => omega
                      case rel => exact ⟨m + 1, rfl, by omega, by go_num, hide ((unhide HN).symm.trans (unhide HM)), rfl⟩
                  · have HK2 := hide ((passN_stop isTail zs m (fun h => by have := fun x => hgo ⟨h, x⟩; simpa using this) hm).symm.trans (unhide HM))
                    by_cases hlt : m < zs.length
                    · obtain ⟨ab, ao, ea, hcell⟩ := unhide HS (by omega)
                      first | subst ea | (injection ea with ea; injection ea with ea1 ea2; subst ea1 ea2)
                      have hcl := hcell m hlt
                      have hbl : isTail (zs.getD m 0) = false := by have := fun x => hgo ⟨hlt, x⟩; simpa using this
                      generalize zs.getD m 0 = z at hcl hbl
                      have hbl' : ((z : Int) == 0) = false ∧ ((z : Int) == 32) = false := by simpa [isTail] using hbl
                      obtain ⟨hz1, hz2⟩ := hbl'
                      have hlt' : (m : Int) < zs.length := by omega
                      clear hcell hbl hgo
                      go_wp2_with fail
                      go_ret2
                      have e0 := unhide HK2
                      obtain ⟨e1, e2⟩ := ans_form (e := E) (n := zs.length) (v := octN zs F (H - F)) (by omega)
                      rw [e1, e2]
                      exact ⟨rfl, Below.refl _ _⟩
                    · have hlt' : ¬ (m : Int) < zs.length := by omega
                      clear hgo
                      cases big
                      · by_cases hv : (4611686018427387904 : Int) < V
                        · go_wp2_with fail
                          go_ret2
                          have e0 := unhide HK2
                          have e9 := unhide HJ
                          have e3 := (unhide HST).2.1 rfl
                          rw [e9] at e3
                          obtain ⟨e1, e2⟩ := ans_big (e := E) (n := zs.length) (v := octN zs F (H - F)) (by omega) (by omega)
                          rw [e1, e2]
                          exact ⟨rfl, Below.refl _ _⟩
                        · go_wp2_with fail
                          go_ret2
                          have e0 := unhide HK2
                          have e9 := unhide HJ
                          have e3 := (unhide HST).2.1 rfl
                          rw [e9] at e3
                          obtain ⟨e1, e2⟩ := ans_ok (e := E) (n := zs.length) (v := octN zs F (H - F)) (by omega) (by omega)
                          rw [e1, e2, ← e3]
                          exact ⟨rfl, Below.refl _ _⟩
                      · go_wp2_with fail
                        go_ret2
                        have e0 := unhide HK2
                        have e9 := unhide HJ
                        have e3 := (unhide HST).2.2 rfl
                        rw [e9] at e3
                        obtain ⟨e1, e2⟩ := ans_big (e := E) (n := zs.length) (v := octN zs F (H - F)) (by omega) (by omega)
                        rw [e1, e2]
                        exact ⟨rfl, Below.refl _ _⟩
            · have hlt' : ¬ (j : Int) < zs.length := by omega
              clear hgo
              go_wp2_with fail
              clear hlt'
              go_loopg [4] (zs.length - j) (fun gk i ws => ∃ m : Nat, gk = zs.length - m ∧ m ≤ zs.length ∧ i = .int .i64 (m : Int) ∧ Hid (passN isTail zs (zs.length - m) m = E) ∧ ws = wr)
              case atStart => exact ⟨j, by omega, by omega, rfl, hide (by rw [unhide HJ]; exact unhide HE), rfl⟩
              case round =>
                obtain ⟨m, rfl, hm, rfl, HM, rfl⟩ := hrel
                by_cases hgo : m < zs.length ∧ isTail (zs.getD m 0) = true
                · obtain ⟨hlt, hbl⟩ := hgo
                  obtain ⟨ab, ao, ea, hcell⟩ := unhide HS (by omega)
                  first | subst ea | (injection ea with ea; injection ea with ea1 ea2; subst ea1 ea2)
                  have hcl := hcell m hlt
                  have HN := hide (passN_go isTail zs m hbl hlt)
                  generalize zs.getD m 0 = z at hcl hbl
                  have hlt' : (m : Int) < zs.length := by omega
                  clear hcell
                  by_cases hz0 : (z : Int) = 0
                  · have hz1 : ((z : Int) == 0) = true := by simpa using hz0
                    clear hbl hz0
                    go_wp2_with fail
                    go_roundg (zs.length - (m + 1))
                    case measure => omega
                    case rel => exact ⟨m + 1, rfl, by omega, by go_num, hide ((unhide HN).symm.trans (unhide HM)), rfl⟩
                  · have hz1 : ((z : Int) == 0) = false := by simpa using hz0
                    have hz2 : ((z : Int) == 32) = true := by simpa [isTail, hz1] using hbl
                    clear hbl hz0
                    go_wp2_with fail
                    go_roundg (zs.length - (m + 1))
                    case measure => omega
                    case rel => exact ⟨m + 1, rfl, by omega, by go_num, hide ((unhide HN).symm.trans (unhide HM)), rfl⟩
                · have HK2 := hide ((passN_stop isTail zs m (fun h => by have := fun x => hgo ⟨h, x⟩; simpa using this) hm).symm.trans (unhide HM))
                  by_cases hlt : m < zs.length
                  · obtain ⟨ab, ao, ea, hcell⟩ := unhide HS (by omega)
                    first | subst ea | (injection ea with ea; injection ea with ea1 ea2; subst ea1 ea2)
                    have hcl := hcell m hlt
                    have hbl : isTail (zs.getD m 0) = false := by have := fun x => hgo ⟨hlt, x⟩; simpa using this
                    generalize zs.getD m 0 = z at hcl hbl
                    have hbl' : ((z : Int) == 0) = false ∧ ((z : Int) == 32) = false := by simpa [isTail] using hbl
                    obtain ⟨hz1, hz2⟩ := hbl'
                    have hlt' : (m : Int) < zs.length := by omega
                    clear hcell hbl hgo
                    go_wp2_with fail
                    go_ret2
                    have e0 := unhide HK2
                    obtain ⟨e1, e2⟩ := ans_form (e := E) (n := zs.length) (v := octN zs F (H - F)) (by omega)
                    rw [e1, e2]
                    exact ⟨rfl, Below.refl _ _⟩
                  · have hlt' : ¬ (m : Int) < zs.length := by omega
                    clear hgo
                    cases big
                    · by_cases hv : (4611686018427387904 : Int) < V
                      · go_wp2_with fail
                        go_ret2
                        have e0 := unhide HK2
                        have e9 := unhide HJ
                        have e3 := (unhide HST).2.1 rfl
                        rw [e9] at e3
                        obtain ⟨e1, e2⟩ := ans_big (e := E) (n := zs.length) (v := octN zs F (H - F)) (by omega) (by omega)
                        rw [e1, e2]
                        exact ⟨rfl, Below.refl _ _⟩
                      · go_wp2_with fail
                        go_ret2
                        have e0 := unhide HK2
                        have e9 := unhide HJ
                        have e3 := (unhide HST).2.1 rfl
                        rw [e9] at e3
                        obtain ⟨e1, e2⟩ := ans_ok (e := E) (n := zs.length) (v := octN zs F (H - F)) (by omega) (by omega)
                        rw [e1, e2, ← e3]
                        exact ⟨rfl, Below.refl _ _⟩
                    · go_wp2_with fail
                      go_ret2
                      have e0 := unhide HK2
                      have e9 := unhide HJ
                      have e3 := (unhide HST).2.2 rfl
                      rw [e9] at e3
                      obtain ⟨e1, e2⟩ := ans_big (e := E) (n := zs.length) (v := octN zs F (H - F)) (by omega) (by omega)
                      rw [e1, e2]
                      exact ⟨rfl, Below.refl _ _⟩
      · have hlt' : ¬ (k : Int) < zs.length := by omega
        clear hgo
        go_wp2_with fail
        clear hlt'
        go_loopg [4, 5, 6] (zs.length - k) (fun gk i v b ws => ∃ (j V : Nat) (big : Bool), gk = zs.length - j ∧ j ≤ zs.length ∧ i = .int .i64 (j : Int) ∧ v = .int .i64 (V : Int) ∧ b = .bool big ∧ V ≤ 4611686018427387911 ∧ Hid (passN isDigit zs (zs.length - j) j = H ∧ F ≤ j ∧ OctSt zs F j V big) ∧ ws = wr)
        case atStart => exact ⟨k, 0, false, by omega, by omega, rfl, rfl, rfl, by omega, hide ⟨by rw [unhide HK]; exact unhide HH, by rw [unhide HK]; exact Nat.le_refl _, by omega, fun _ => by rw [unhide HK, Nat.sub_self]; rfl, by simp⟩, rfl⟩
        case round =>
          obtain ⟨j, V, big, rfl, hj, rfl, rfl, rfl, hV, HP, rfl⟩ := hrel
          by_cases hgo : j < zs.length ∧ isDigit (zs.getD j 0) = true
          · obtain ⟨hlt, hbl⟩ := hgo
            obtain ⟨ab, ao, ea, hcell⟩ := unhide HS (by omega)
            first | subst ea | (injection ea with ea; injection ea with ea1 ea2; subst ea1 ea2)
            have hcl := hcell j hlt
            have HN := hide (passN_go isDigit zs j hbl hlt)
            have hz : (48 : Int) ≤ (zs.getD j 0 : Nat) ∧ ((zs.getD j 0 : Nat) : Int) ≤ 55 := by simpa only [isDigit, Bool.and_eq_true, decide_eq_true_eq] using hbl
            obtain ⟨z, hzz⟩ : ∃ z, z = zs.getD j 0 := ⟨_, rfl⟩
            rw [← hzz] at hcl hz
            have HZ := hide hzz
            obtain ⟨hz1, hz2⟩ := hz
            have hlt' : (j : Int) < zs.length := by omega
            clear hcell hbl hzz
            by_cases hv : (576460752303423488 : Int) < V
            · go_wp2_with fail
              go_roundg (zs.length - (j + 1))
              case measure => omega
              case rel => exact ⟨j + 1, V, true, rfl, by omega, by go_num, rfl, rfl, hV, hide ⟨(unhide HN).symm.trans (unhide HP).1, by have := (unhide HP).2.1; omega, (unhide HP).2.2.much (unhide HP).2.1 (by omega)⟩, rfl⟩
            · cases big
              · go_wp2_with fail
                go_roundg (zs.length - (j + 1))
                case measure => omega
                case rel =>
                  have hs := (unhide HP).2.2.small (unhide HP).2.1 (by omega) (by rw [← unhide HZ]; omega)
                  rw [← unhide HZ] at hs
                  exact ⟨j + 1, 8 * V + (z - 48), false, rfl, by omega, by go_num, by go_num, rfl, by omega, hide ⟨(unhide HN).symm.trans (unhide HP).1, by have := (unhide HP).2.1; omega, hs⟩, rfl⟩
              · go_wp2_with fail
                go_roundg (zs.length - (j + 1))
                case measure => omega
                case rel => exact ⟨j + 1, V, true, rfl, by omega, by go_num, rfl, rfl, hV, hide ⟨(unhide HN).symm.trans (unhide HP).1, by have := (unhide HP).2.1; omega, (unhide HP).2.2.big (unhide HP).2.1⟩, rfl⟩
          · have HJ := hide ((passN_stop isDigit zs j (fun h => by have := fun x => hgo ⟨h, x⟩; simpa using this) hj).symm.trans (unhide HP).1)
            have HST := hide (unhide HP).2.2
            by_cases hlt : j < zs.length
            · obtain ⟨ab, ao, ea, hcell⟩ := unhide HS (by omega)
              first | subst ea | (injection ea with ea; injection ea with ea1 ea2; subst ea1 ea2)
              have hcl := hcell j hlt
              have hbl : isDigit (zs.getD j 0) = false := by have := fun x => hgo ⟨hlt, x⟩; simpa using this
              generalize zs.getD j 0 = z at hcl hbl
              have hlt' : (j : Int) < zs.length := by omega
              by_cases hz1 : (48 : Int) ≤ z
              · have hz2 : ¬ (z : Int) ≤ 55 := by intro h; simp [isDigit] at hbl; omega
                clear hcell hbl hgo
                go_wp2_with fail
                clear hcl hz1 hz2 hlt' hlt
                go_loopg [4] (zs.length - j) (fun gk i ws => ∃ m : Nat, gk = zs.length - m ∧ m ≤ zs.length ∧ i = .int .i64 (m : Int) ∧ Hid (passN isTail zs (zs.length - m) m = E) ∧ ws = wr)
                case atStart => exact ⟨j, by omega, by omega, rfl, hide (by rw [unhide HJ]; exact unhide HE), rfl⟩
                case round =>
                  obtain ⟨m, rfl, hm, rfl, HM, rfl⟩ := hrel
                  by_cases hgo : m < zs.length ∧ isTail (zs.getD m 0) = true
                  · obtain ⟨hlt, hbl⟩ := hgo
                    obtain ⟨ab, ao, ea, hcell⟩ := unhide HS (by omega)
                    first | subst ea | (injection ea with ea; injection ea with ea1 ea2; subst ea1 ea2)
                    have hcl := hcell m hlt
                    have HN := hide (passN_go isTail zs m hbl hlt)
                    generalize zs.getD m 0 = z at hcl hbl
                    have hlt' : (m : Int) < zs.length := by omega
                    clear hcell
                    by_cases hz0 : (z : Int) = 0
                    · have hz1 : ((z : Int) == 0) = true := by simpa using hz0
                      clear hbl hz0
                      go_wp2_with fail
                      go_roundg (zs.length - (m + 1))
                      case measure => omega
                      case rel => exact ⟨m + 1, rfl, by omega, by go_num, hide ((unhide HN).symm.trans (unhide HM)), rfl⟩
                    · have hz1 : ((z : Int) == 0) = false := by simpa using hz0
                      have hz2 : ((z : Int) == 32) = true := by simpa [isTail, hz1] using hbl
                      clear hbl hz0
                      go_wp2_with fail
                      go_roundg (zs.length - (m + 1))
                      case measure => omega
                      case rel => exact ⟨m + 1, rfl, by omega, by go_num, hide ((unhide HN).symm.trans (unhide HM)), rfl⟩
                  · have HK2 := hide ((passN_stop isTail zs m (fun h => by have := fun x => hgo ⟨h, x⟩; simpa using this) hm).symm.trans (unhide HM))
                    by_cases hlt : m < zs.length
                    · obtain ⟨ab, ao, ea, hcell⟩ := unhide HS (by omega)
                      first | subst ea | (injection ea with ea; injection ea with ea1 ea2; subst ea1 ea2)
                      have hcl := hcell m hlt
                      have hbl : isTail (zs.getD m 0) = false := by have := fun x => hgo ⟨hlt, x⟩; simpa using this
                      generalize zs.getD m 0 = z at hcl hbl
                      have hbl' : ((z : Int) == 0) = false ∧ ((z : Int) == 32) = false := by simpa [isTail] using hbl
                      obtain ⟨hz1, hz2⟩ := hbl'
                      have hlt' : (m : Int) < zs.length := by omega
                      clear hcell hbl hgo
                      go_wp2_with fail
                      go_ret2
                      have e0 := unhide HK2
                      obtain ⟨e1, e2⟩ := ans_form (e := E) (n := zs.length) (v := octN zs F (H - F)) (by omega)
                      rw [e1, e2]
                      exact ⟨rfl, Below.refl _ _⟩
                    · have hlt' : ¬ (m : Int) < zs.length := by omega
                      clear hgo
                      cases big
                      · by_cases hv : (4611686018427387904 : Int) < V
                        · go_wp2_with fail
                          go_ret2
                          have e0 := unhide HK2
                          have e9 := unhide HJ
                          have e3 := (unhide HST).2.1 rfl
                          rw [e9] at e3
                          obtain ⟨e1, e2⟩ := ans_big (e := E) (n := zs.length) (v := octN zs F (H - F)) (by omega) (by omega)
                          rw [e1, e2]
                          exact ⟨rfl, Below.refl _ _⟩
                        · go_wp2_with fail
                          go_ret2
                          have e0 := unhide HK2
                          have e9 := unhide HJ
                          have e3 := (unhide HST).2.1 rfl
                          rw [e9] at e3
                          obtain ⟨e1, e2⟩ := ans_ok (e := E) (n := zs.length) (v := octN zs F (H - F)) (by omega) (by omega)
                          rw [e1, e2, ← e3]
                          exact ⟨rfl, Below.refl _ _⟩
                      · go_wp2_with fail
                        go_ret2
                        have e0 := unhide HK2
                        have e9 := unhide HJ
                        have e3 := (unhide HST).2.2 rfl
                        rw [e9] at e3
                        obtain ⟨e1, e2⟩ := ans_big (e := E) (n := zs.length) (v := octN zs F (H - F)) (by omega) (by omega)
                        rw [e1, e2]
                        exact ⟨rfl, Below.refl _ _⟩
              · clear hcell hbl hgo
                go_wp2_with fail
                clear hcl hz1 hlt' hlt
                go_loopg [4] (zs.length - j) (fun gk i ws => ∃ m : Nat, gk = zs.length - m ∧ m ≤ zs.length ∧ i = .int .i64 (m : Int) ∧ Hid (passN isTail zs (zs.length - m) m = E) ∧ ws = wr)
                case atStart => exact ⟨j, by omega, by omega, rfl, hide (by rw [unhide HJ]; exact unhide HE), rfl⟩
                case round =>
                  obtain ⟨m, rfl, hm, rfl, HM, rfl⟩ := hrel
                  by_cases hgo : m < zs.length ∧ isTail (zs.getD m 0) = true
                  · obtain ⟨hlt, hbl⟩ := hgo
                    obtain ⟨ab, ao, ea, hcell⟩ := unhide HS (by omega)
                    first | subst ea | (injection ea with ea; injection ea with ea1 ea2; subst ea1 ea2)
                    have hcl := hcell m hlt
                    have HN := hide (passN_go isTail zs m hbl hlt)
                    generalize zs.getD m 0 = z at hcl hbl
                    have hlt' : (m : Int) < zs.length := by omega
                    clear hcell
                    by_cases hz0 : (z : Int) = 0
                    · have hz1 : ((z : Int) == 0) = true := by simpa using hz0
                      clear hbl hz0
                      go_wp2_with fail
                      go_roundg (zs.length - (m + 1))
                      case measure => omega
                      case rel => exact ⟨m + 1, rfl, by omega, by go_num, hide ((unhide HN).symm.trans (unhide HM)), rfl⟩
                    · have hz1 : ((z : Int) == 0) = false := by simpa using hz0
                      have hz2 : ((z : Int) == 32) = true := by simpa [isTail, hz1] using hbl
                      clear hbl hz0
                      go_wp2_with fail
                      go_roundg (zs.length - (m + 1))
                      case measure => omega
                      case rel => exact ⟨m + 1, rfl, by omega, by go_num, hide ((unhide HN).symm.trans (unhide HM)), rfl⟩
                  · have HK2 := hide ((passN_stop isTail zs m (fun h => by have := fun x => hgo ⟨h, x⟩; simpa using this) hm).symm.trans (unhide HM))
                    by_cases hlt : m < zs.length
                    · obtain ⟨ab, ao, ea, hcell⟩ := unhide HS (by omega)
                      first | subst ea | (injection ea with ea; injection ea with ea1 ea2; subst ea1 ea2)
                      have hcl := hcell m hlt
                      have hbl : isTail (zs.getD m 0) = false := by have := fun x => hgo ⟨hlt, x⟩; simpa using this
                      generalize zs.getD m 0 = z at hcl hbl
                      have hbl' : ((z : Int) == 0) = false ∧ ((z : Int) == 32) = false := by simpa [isTail] using hbl
                      obtain ⟨hz1, hz2⟩ := hbl'
                      have hlt' : (m : Int) < zs.length := by omega
                      clear hcell hbl hgo
                      go_wp2_with fail
                      go_ret2
                      have e0 := unhide HK2
                      obtain ⟨e1, e2⟩ := ans_form (e := E) (n := zs.length) (v := octN zs F (H - F)) (by omega)
                      rw [e1, e2]
                      exact ⟨rfl, Below.refl _ _⟩
                    · have hlt' : ¬ (m : Int) < zs.length := by omega
                      clear hgo
                      cases big
                      · by_cases hv : (4611686018427387904 : Int) < V
                        · go_wp2_with fail
                          go_ret2
                          have e0 := unhide HK2
                          have e9 := unhide HJ
                          have e3 := (unhide HST).2.1 rfl
                          rw [e9] at e3
                          obtain ⟨e1, e2⟩ := ans_big (e := E) (n := zs.length) (v := octN zs F (H - F)) (by omega) (by omega)
                          rw [e1, e2]
                          exact ⟨rfl, Below.refl _ _⟩
                        · go_wp2_with fail
                          go_ret2
                          have e0 := unhide HK2
                          have e9 := unhide HJ
                          have e3 := (unhide HST).2.1 rfl
                          rw [e9] at e3
                          obtain ⟨e1, e2⟩ := ans_ok (e := E) (n := zs.length) (v := octN zs F (H - F)) (by omega) (by omega)
                          rw [e1, e2, ← e3]
                          exact ⟨rfl, Below.refl _ _⟩
                      · go_wp2_with fail
                        go_ret2
                        have e0 := unhide HK2
                        have e9 := unhide HJ
                        have e3 := (unhide HST).2.2 rfl
                        rw [e9] at e3
                        obtain ⟨e1, e2⟩ := ans_big (e := E) (n := zs.length) (v := octN zs F (H - F)) (by omega) (by omega)
                        rw [e1, e2]
                        exact ⟨rfl, Below.refl _ _⟩
            · have hlt' : ¬ (j : Int) < zs.length := by omega
              clear hgo
              go_wp2_with fail
              clear hlt'
              go_loopg [4] (zs.length - j) (fun gk i ws => ∃ m : Nat, gk = zs.length - m ∧ m ≤ zs.length ∧ i = .int .i64 (m : Int) ∧ Hid (passN isTail zs (zs.length - m) m = E) ∧ ws = wr)
              case atStart => exact ⟨j, by omega, by omega, rfl, hide (by rw [unhide HJ]; exact unhide HE), rfl⟩
              case round =>
                obtain ⟨m, rfl, hm, rfl, HM, rfl⟩ := hrel
                by_cases hgo : m < zs.length ∧ isTail (zs.getD m 0) = true
                · obtain ⟨hlt, hbl⟩ := hgo
                  obtain ⟨ab, ao, ea, hcell⟩ := unhide HS (by omega)
                  first | subst ea | (injection ea with ea; injection ea with ea1 ea2; subst ea1 ea2)
                  have hcl := hcell m hlt
                  have HN := hide (passN_go isTail zs m hbl hlt)
                  generalize zs.getD m 0 = z at hcl hbl
                  have hlt' : (m : Int) < zs.length := by omega
                  clear hcell
                  by_cases hz0 : (z : Int) = 0
                  · have hz1 : ((z : Int) == 0) = true := by simpa using hz0
                    clear hbl hz0
                    go_wp2_with fail
                    go_roundg (zs.length - (m + 1))
                    case measure => omega
                    case rel => exact ⟨m + 1, rfl, by omega, by go_num, hide ((unhide HN).symm.trans (unhide HM)), rfl⟩
                  · have hz1 : ((z : Int) == 0) = false := by simpa using hz0
                    have hz2 : ((z : Int) == 32) = true := by simpa [isTail, hz1] using hbl
                    clear hbl hz0
                    go_wp2_with fail
                    go_roundg (zs.length - (m + 1))
                    case measure => omega
                    case rel => exact ⟨m + 1, rfl, by omega, by go_num, hide ((unhide HN).symm.trans (unhide HM)), rfl⟩
                · have HK2 := hide ((passN_stop isTail zs m (fun h => by have := fun x => hgo ⟨h, x⟩; simpa using this) hm).symm.trans (unhide HM))
                  by_cases hlt : m < zs.length
                  · obtain ⟨ab, ao, ea, hcell⟩ := unhide HS (by omega)
                    first | subst ea | (injection ea with ea; injection ea with ea1 ea2; subst ea1 ea2)
                    have hcl := hcell m hlt
                    have hbl : isTail (zs.getD m 0) = false := by have := fun x => hgo ⟨hlt, x⟩; simpa using this
                    generalize zs.getD m 0 = z at hcl hbl
                    have hbl' : ((z : Int) == 0) = false ∧ ((z : Int) == 32) = false := by simpa [isTail] using hbl
                    obtain ⟨hz1, hz2⟩ := hbl'
                    have hlt' : (m : Int) < zs.length := by omega
                    clear hcell hbl hgo
                    go_wp2_with fail
                    go_ret2
                    have e0 := unhide HK2
                    obtain ⟨e1, e2⟩ := ans_form (e := E) (n := zs.length) (v := octN zs F (H - F)) (by omega)
                    rw [e1, e2]
                    exact ⟨rfl, Below.refl _ _⟩
                  · have hlt' : ¬ (m : Int) < zs.length := by omega
                    clear hgo
                    cases big
                    · by_cases hv : (4611686018427387904 : Int) < V
                      · go_wp2_with fail
                        go_ret2
                        have e0 := unhide HK2
                        have e9 := unhide HJ
                        have e3 := (unhide HST).2.1 rfl
                        rw [e9] at e3
                        obtain ⟨e1, e2⟩ := ans_big (e := E) (n := zs.length) (v := octN zs F (H - F)) (by omega) (by omega)
                        rw [e1, e2]
                        exact ⟨rfl, Below.refl _ _⟩
                      · go_wp2_with fail
                        go_ret2
                        have e0 := unhide HK2
                        have e9 := unhide HJ
                        have e3 := (unhide HST).2.1 rfl
                        rw [e9] at e3
                        obtain ⟨e1, e2⟩ := ans_ok (e := E) (n := zs.length) (v := octN zs F (H - F)) (by omega) (by omega)
                        rw [e1, e2, ← e3]
                        exact ⟨rfl, Below.refl _ _⟩
                    · go_wp2_with fail
                      go_ret2
                      have e0 := unhide HK2
                      have e9 := unhide HJ
                      have e3 := (unhide HST).2.2 rfl
                      rw [e9] at e3
                      obtain ⟨e1, e2⟩ := ans_big (e := E) (n := zs.length) (v := octN zs F (H - F)) (by omega) (by omega)
                      rw [e1, e2]
                      exact ⟨rfl, Below.refl _ _⟩
end Go.Proofs.Ytbefokclbcdmhaa
