/- The document's Get. -/
import Derived.Test.YtclccccodeekmaaCGet
import Derived.Test.YtclccccodeekmaaRefNew
namespace Go.Proofs.Ytclccccodeekmaa
open Go.RowKit Mth
set_option linter.unusedVariables false

attribute [local go_sem ↓] Go.wp_at_zero Go.wp_at_succ

theorem pre_len {ls : List Nat} (hg : Good ls) {f : Nat → Bool} {j : Nat} (h1 : 1 ≤ j) (h : Pre ls (kf f j)) : j ≤ 19 := by
  obtain ⟨hb, hw⟩ := h
  obtain ⟨hk, hv⟩ := kf_vf f j
  rcases hb with e | ⟨i, hi, h0, d, hd, e⟩
  · have := kf_two f j h1; omega
  · have hh := hg.has hi h0
    have hwd := Canon.wd_lt hh hg.sum
    rw [key, key_div hd] at e
    have hq : Canon.wd ls i / 2 ^ d < 2 ^ (Canon.ln ls i - d) := by
      rw [Nat.div_lt_iff_lt_mul (Nat.two_pow_pos _), ← Nat.pow_add, show Canon.ln ls i - d + d = Canon.ln ls i by omega]
      exact hwd
    rw [hk] at e
    obtain ⟨e1, e2⟩ := pow_between hq hv e
    have := hh.2.2
    rcases d with _ | d
    · exfalso
      refine hw i ⟨hi, h0, ?_⟩
      rw [hk, ← e, key]; simp
    · omega

/-- symbol i begins with the n bits v, and goes on -/
abbrev goesOn (ls : List Nat) (n v i : Nat) : Prop := n < Canon.ln ls i ∧ Canon.wd ls i / 2 ^ (Canon.ln ls i - n) = v

/-- one of the first k does -/
def someOn (ls : List Nat) (n v : Nat) : Nat → Bool
  | 0 => false
  | k + 1 => someOn ls n v k || decide (goesOn ls n v k)

theorem someOn_iff (ls : List Nat) (n v : Nat) : ∀ k, someOn ls n v k = true ↔ ∃ i, i < k ∧ goesOn ls n v i
  | 0 => by simp [someOn]
  | k + 1 => by
    rw [someOn, Bool.or_eq_true, someOn_iff ls n v k, decide_eq_true_eq]
    constructor
    · rintro (⟨i, h1, h2⟩ | h)
      · exact ⟨i, by omega, h2⟩
      · exact ⟨k, by omega, h⟩
    · rintro ⟨i, h1, h2⟩
      by_cases e : i = k
      · subst e; exact .inr h2
      · exact .inl ⟨i, by omega, h2⟩

theorem beg_iff {ls : List Nat} (hg : Good ls) (f : Nat → Bool) (n : Nat) (h1 : 1 ≤ n) (hno : ∀ i, i < ls.length → ¬ (Canon.ln ls i = n ∧ Canon.wd ls i = vf f n)) :
    (Beg ls ls.length (kf f n) ↔ someOn ls n (vf f n) ls.length = true) ∧ ∀ i, ¬ Wrd ls ls.length i (kf f n) := by
  obtain ⟨hk, hv⟩ := kf_vf f n
  refine ⟨?_, fun i hi => ?_⟩
  · rw [someOn_iff]
    constructor
    · rintro (e | ⟨i, hi, h0, d, hd, e⟩)
      · have := kf_two f n h1; omega
      · have hh := hg.has hi h0
        have hwd := Canon.wd_lt hh hg.sum
        rw [key, key_div hd] at e
        have hq : Canon.wd ls i / 2 ^ d < 2 ^ (Canon.ln ls i - d) := by
          rw [Nat.div_lt_iff_lt_mul (Nat.two_pow_pos _), ← Nat.pow_add, show Canon.ln ls i - d + d = Canon.ln ls i by omega]
          exact hwd
        rw [hk] at e
        obtain ⟨e1, e2⟩ := pow_between hq hv e
        rcases d with _ | d
        · exact absurd ⟨by simpa using e1, by simpa using e2⟩ (hno i hi)
        · exact ⟨i, hi, by omega, by rw [show Canon.ln ls i - n = d + 1 by omega]; exact e2⟩
    · rintro ⟨i, hi, h2, h3⟩
      refine .inr ⟨i, hi, by omega, Canon.ln ls i - n, by omega, ?_⟩
      rw [key, key_div (by omega), h3, hk, show Canon.ln ls i - (Canon.ln ls i - n) = n by omega]
  · obtain ⟨h2, h3, h4⟩ := hi
    have hh := hg.has h2 h3
    have hwd := Canon.wd_lt hh hg.sum
    rw [hk, key] at h4
    obtain ⟨e1, e2⟩ := pow_between hwd hv h4
    exact hno i h2 ⟨e1, e2⟩

def bi' (b : Bool) : Value := .int .i64 (b.toNat : Int)

set_option maxRecDepth 100000 in
set_option maxHeartbeats 4000000 in
theorem refget_ok (ls : List Nat) (rg n : Nat) (la : Option Addr) (m lcap : Nat) (f : Nat → Bool) (w : World) (hg : Good ls) (hlen : ls.length = n) (hn : n ≤ 65536) (hw : WordsAt w 43 rg n (wdz ls) (Canon.ln ls)) (hm : m ≤ 1000000000000) (hl : 0 < m → ∃ b off, la = some ⟨b, off, none⟩ ∧ ∀ j, j < m → w.cell? ⟨b, off + j, none⟩ = some (bi' (f j))) :
    Calls Try.prog 24 #[.slice (some ⟨rg, 0, none⟩) n n, .slice la m lcap] w fun e w' => ∃ (s x y : Nat), e = .returned (.tuple #[.int .i64 (s : Int), .int .i64 (x : Int), .int .i64 (y : Int)]) ∧ GetIs ls f m s x y ∧ ∃ q, w' = w.drewN q := by
  have HG := hide hg
  have HLEN := hide hlen
  have HW := hide hw
  have HL := hide hl
  clear hg hlen hw hl
  go_enter Try.func24, Try.ntmps24
  go_wp2_with fail
  go_loopg [7, 8] m (fun gk v d ws => ∃ (k q : Nat), gk = m - k ∧ k ≤ m ∧ k ≤ 20 ∧ (∀ j, 1 ≤ j → j < k → Pre ls (kf f j)) ∧ v = .int .u32 (vf f k : Int) ∧ d = .int .i64 (k : Int) ∧ ws = w.drewN q)
  case atStart => exact ⟨0, 0, by omega, by omega, by omega, fun j h1 h2 => by omega, rfl, rfl, rfl⟩
  case round =>
    obtain ⟨k, q, rfl, hkm, hk20, hpre, rfl, rfl, rfl⟩ := hrel
    have hvf := (kf_vf f k).2
    have hv20 : vf f k < 2 ^ 20 := Nat.lt_of_lt_of_le hvf (Nat.pow_le_pow_right (by decide) hk20)
    obtain ⟨V, hV⟩ : ∃ V, V = vf f k := ⟨_, rfl⟩
    rw [← hV] at hv20 ⊢
    have HV := hide hV
    replace hv20 : V < 1048576 := hv20
    have HPRE := hide hpre
    clear hvf hpre hV
    go_wp2_with fail
    go_loopg [9, 10] n (fun gk bg d ws => ∃ (i r : Nat), gk = n - i ∧ i ≤ n ∧ (1 ≤ k → ∀ x, x < i → ¬ (Canon.ln ls x = k ∧ Canon.wd ls x = V)) ∧ bg = .bool (someOn ls k V i) ∧ d = .int .i64 (i : Int) ∧ ws = w.drewN r)
    case atStart => exact ⟨0, q, by omega, by omega, fun _ x hx => by omega, rfl, rfl, rfl⟩
    case round =>
      obtain ⟨i, r, rfl, hi, hno, rfl, rfl, rfl⟩ := hrel
      by_cases hlt : i < n
      · have k1 := (unhide HW).word i hlt
        have k2 := (unhide HW).len i hlt
        have hii : (i : Int) < (n : Int) := by omega
        have HNO := hide hno
        by_cases hL0 : Canon.ln ls i = 0
        · -- no word
          have hnot : ¬ goesOn ls k V i := by unfold goesOn; omega
          have HSO : Hid (someOn ls k V (i + 1) = someOn ls k V i) := hide (by rw [someOn, decide_eq_false hnot, Bool.or_false])
          have HN2 : Hid (1 ≤ k → ∀ x, x < i + 1 → ¬ (Canon.ln ls x = k ∧ Canon.wd ls x = V)) := hide (fun h x hx => by
            by_cases e : x = i
            · subst e; omega
            · exact hno h x (by omega))
          rw [hL0] at k2
          clear hno hnot hL0
          by_cases hk0 : k = 0
          · subst hk0
            go_wp2_with fail
            clear HPRE HNO HL HG HW HLEN
            go_quiet (fail)
            go_wp2_with fail
            go_roundg (n - (i + 1))
            case measure => omega
            case rel => exact ⟨i + 1, r + nq, rfl, by omega, unhide HN2, by rw [unhide HSO], by go_num, by first | rfl | rw [World.drewN_drewN]⟩
          · have hkp : (0 : Int) < (k : Int) := by omega
            have hkz : ((0 : Int) == (k : Int)) = false := by simp; omega
            have hkn : ¬ (k : Int) < 0 := by omega
            have hkd : decide ((k : Int) < 0) = false := by simp
            go_wp2_with fail
            clear HPRE HNO HL HG HW HLEN
            go_quiet (fail)
            go_wp2_with fail
            go_roundg (n - (i + 1))
            case measure => omega
            case rel => exact ⟨i + 1, r + nq, rfl, by omega, unhide HN2, by rw [unhide HSO], by go_num, by first | rfl | rw [World.drewN_drewN]⟩
        · rw [show wdz ls i = Canon.wd ls i from if_neg hL0] at k1
          have hh := (unhide HG).has (i := i) (by rw [unhide HLEN]; exact hlt) (by omega)
          have hL20 := hh.2.2
          have hWb : Canon.wd ls i < 4294967296 := by
            have h1 := Canon.wd_lt hh (unhide HG).sum
            have h2 : 2 ^ Canon.ln ls i ≤ 2 ^ 20 := Nat.pow_le_pow_right (by decide) hL20
            omega
          have HSO : Hid (someOn ls k V (i + 1) = (someOn ls k V i || decide (goesOn ls k V i))) := hide rfl
          have HGO : Hid (goesOn ls k V i ↔ (k < Canon.ln ls i ∧ Canon.wd ls i / 2 ^ (Canon.ln ls i - k) = V)) := hide Iff.rfl
          have HWR : Hid (1 ≤ k → Canon.ln ls i = k → Canon.wd ls i = V → GetIs ls f m i k 0) := hide (fun h1 h2 h3 => ⟨hkm, unhide HPRE, .inl ⟨rfl, h1, by rw [unhide HLEN]; exact hlt, by omega, by rw [(kf_vf f k).1, key, h2, h3, unhide HV]⟩⟩)
          have HNX : Hid (¬ (Canon.ln ls i = k ∧ Canon.wd ls i = V) → 1 ≤ k → ∀ x, x < i + 1 → ¬ (Canon.ln ls x = k ∧ Canon.wd ls x = V)) := hide (fun hne h x hx => by
            by_cases e : x = i
            · subst e; exact hne
            · exact hno h x (by omega))
          obtain ⟨W1, hW1⟩ : ∃ W1, W1 = Canon.wd ls i := ⟨_, rfl⟩
          obtain ⟨L1, hL1⟩ : ∃ L1, L1 = Canon.ln ls i := ⟨_, rfl⟩
          rw [← hW1] at k1 hWb HGO HWR HNX
          rw [← hL1] at k2 hL20 HGO HWR HNX hL0
          clear hno hh hW1 hL1
          by_cases hk0 : k = 0
          · have HN2 : Hid (1 ≤ k → ∀ x, x < i + 1 → ¬ (Canon.ln ls x = k ∧ Canon.wd ls x = V)) := hide (fun h => by omega)
            have hkp : ¬ (0 : Int) < (k : Int) := by omega
            have hkd : decide ((0 : Int) < (k : Int)) = false := by simp; omega
            clear hk0
            by_cases hgt : k < L1
            · have hgt' : (k : Int) < (L1 : Int) := by omega
              obtain ⟨D, hD⟩ : ∃ D, D = L1 - k := ⟨_, rfl⟩
              have hDi : (L1 : Int) - (k : Int) = (D : Int) := by omega
              have hw1 : IntKind.i64.wrap (D : Int) = (D : Int) := IntWalk.i64_in _ (by omega)
              have hw2 : IntKind.u64.wrap (D : Int) = (D : Int) := IntWalk.u64_in _ (by omega)
              have hD21 : D < 32 := by omega
              have hdc : ((W1 : Int) / 2 ^ D) = ((W1 / 2 ^ D : Nat) : Int) := by simp
              by_cases hon : W1 / 2 ^ D = V
              · have hsh : (((W1 : Int) / 2 ^ D) == (V : Int)) = true := by rw [hdc, hon]; simp
                have HS2 : Hid (someOn ls k V (i + 1) = true) := hide (by rw [unhide HSO, decide_eq_true ((unhide HGO).2 ⟨hgt, by rw [← hD]; exact hon⟩), Bool.or_true])
                clear hdc hon hD
                go_wp2_with fail
                clear HPRE HNO HL HG HW HLEN
                go_quiet (fail)
                go_wp2_with fail
                go_roundg (n - (i + 1))
                case measure => omega
                case rel => exact ⟨i + 1, r + nq, rfl, by omega, unhide HN2, by rw [unhide HS2], by go_num, by first | rfl | rw [World.drewN_drewN]⟩
              · have hsh : (((W1 : Int) / 2 ^ D) == (V : Int)) = false := by rw [hdc]; simp only [beq_eq_false_iff_ne, ne_eq]; exact fun h => hon (by exact_mod_cast h)
                have HS2 : Hid (someOn ls k V (i + 1) = someOn ls k V i) := hide (by rw [unhide HSO, decide_eq_false (fun h => hon (by rw [hD]; exact ((unhide HGO).1 h).2)), Bool.or_false])
                clear hdc hon hD
                go_wp2_with fail
                clear HPRE HNO HL HG HW HLEN
                go_quiet (fail)
                go_wp2_with fail
                go_roundg (n - (i + 1))
                case measure => omega
                case rel => exact ⟨i + 1, r + nq, rfl, by omega, unhide HN2, by rw [unhide HS2], by go_num, by first | rfl | rw [World.drewN_drewN]⟩
            · exfalso; omega
          · have hkp : (0 : Int) < (k : Int) := by omega
            by_cases e1 : L1 = k
            · by_cases e2 : W1 = V
              · have f1 : ((L1 : Int) == (k : Int)) = true := by simp; omega
                have f2 : ((W1 : Int) == (V : Int)) = true := by simp; omega
                have HR := hide (unhide HWR (by omega) e1 e2)
                clear e1 e2
                go_wp2_with fail
                go_ret3
                exact ⟨i, k, 0, rfl, unhide HR, r, rfl⟩
              · have f1 : ((L1 : Int) == (k : Int)) = true := by simp; omega
                have f2 : ((W1 : Int) == (V : Int)) = false := by simp; omega
                have HN2 := hide (unhide HNX (fun h => e2 h.2))
                clear e1 e2
                by_cases hgt : k < L1
                · have hgt' : (k : Int) < (L1 : Int) := by omega
                  obtain ⟨D, hD⟩ : ∃ D, D = L1 - k := ⟨_, rfl⟩
                  have hDi : (L1 : Int) - (k : Int) = (D : Int) := by omega
                  have hw1 : IntKind.i64.wrap (D : Int) = (D : Int) := IntWalk.i64_in _ (by omega)
                  have hw2 : IntKind.u64.wrap (D : Int) = (D : Int) := IntWalk.u64_in _ (by omega)
                  have hD21 : D < 32 := by omega
                  have hdc : ((W1 : Int) / 2 ^ D) = ((W1 / 2 ^ D : Nat) : Int) := by simp
                  by_cases hon : W1 / 2 ^ D = V
                  · have hsh : (((W1 : Int) / 2 ^ D) == (V : Int)) = true := by rw [hdc, hon]; simp
                    have HS2 : Hid (someOn ls k V (i + 1) = true) := hide (by rw [unhide HSO, decide_eq_true ((unhide HGO).2 ⟨hgt, by rw [← hD]; exact hon⟩), Bool.or_true])
                    clear hdc hon hD
                    go_wp2_with fail
                    clear HPRE HNO HL HG HW HLEN
                    go_quiet (fail)
                    go_wp2_with fail
                    go_roundg (n - (i + 1))
                    case measure => omega
                    case rel => exact ⟨i + 1, r + nq, rfl, by omega, unhide HN2, by rw [unhide HS2], by go_num, by first | rfl | rw [World.drewN_drewN]⟩
                  · have hsh : (((W1 : Int) / 2 ^ D) == (V : Int)) = false := by rw [hdc]; simp only [beq_eq_false_iff_ne, ne_eq]; exact fun h => hon (by exact_mod_cast h)
                    have HS2 : Hid (someOn ls k V (i + 1) = someOn ls k V i) := hide (by rw [unhide HSO, decide_eq_false (fun h => hon (by rw [hD]; exact ((unhide HGO).1 h).2)), Bool.or_false])
                    clear hdc hon hD
                    go_wp2_with fail
                    clear HPRE HNO HL HG HW HLEN
                    go_quiet (fail)
                    go_wp2_with fail
                    go_roundg (n - (i + 1))
                    case measure => omega
                    case rel => exact ⟨i + 1, r + nq, rfl, by omega, unhide HN2, by rw [unhide HS2], by go_num, by first | rfl | rw [World.drewN_drewN]⟩
                · have hgt' : ¬ (k : Int) < (L1 : Int) := by omega
                  have hgd : decide ((k : Int) < (L1 : Int)) = false := by simp; omega
                  have HS2 : Hid (someOn ls k V (i + 1) = someOn ls k V i) := hide (by rw [unhide HSO, decide_eq_false (fun h => hgt ((unhide HGO).1 h).1), Bool.or_false])
                  go_wp2_with fail
                  clear HPRE HNO HL HG HW HLEN
                  go_quiet (fail)
                  go_wp2_with fail
                  go_roundg (n - (i + 1))
                  case measure => omega
                  case rel => exact ⟨i + 1, r + nq, rfl, by omega, unhide HN2, by rw [unhide HS2], by go_num, by first | rfl | rw [World.drewN_drewN]⟩
            · have f1 : ((L1 : Int) == (k : Int)) = false := by simp; omega
              have HN2 := hide (unhide HNX (fun h => e1 h.1))
              clear e1
              by_cases hgt : k < L1
              · have hgt' : (k : Int) < (L1 : Int) := by omega
                obtain ⟨D, hD⟩ : ∃ D, D = L1 - k := ⟨_, rfl⟩
                have hDi : (L1 : Int) - (k : Int) = (D : Int) := by omega
                have hw1 : IntKind.i64.wrap (D : Int) = (D : Int) := IntWalk.i64_in _ (by omega)
                have hw2 : IntKind.u64.wrap (D : Int) = (D : Int) := IntWalk.u64_in _ (by omega)
                have hD21 : D < 32 := by omega
                have hdc : ((W1 : Int) / 2 ^ D) = ((W1 / 2 ^ D : Nat) : Int) := by simp
                by_cases hon : W1 / 2 ^ D = V
                · have hsh : (((W1 : Int) / 2 ^ D) == (V : Int)) = true := by rw [hdc, hon]; simp
                  have HS2 : Hid (someOn ls k V (i + 1) = true) := hide (by rw [unhide HSO, decide_eq_true ((unhide HGO).2 ⟨hgt, by rw [← hD]; exact hon⟩), Bool.or_true])
                  clear hdc hon hD
                  go_wp2_with fail
                  clear HPRE HNO HL HG HW HLEN
                  go_quiet (fail)
                  go_wp2_with fail
                  go_roundg (n - (i + 1))
                  case measure => omega
                  case rel => exact ⟨i + 1, r + nq, rfl, by omega, unhide HN2, by rw [unhide HS2], by go_num, by first | rfl | rw [World.drewN_drewN]⟩
                · have hsh : (((W1 : Int) / 2 ^ D) == (V : Int)) = false := by rw [hdc]; simp only [beq_eq_false_iff_ne, ne_eq]; exact fun h => hon (by exact_mod_cast h)
                  have HS2 : Hid (someOn ls k V (i + 1) = someOn ls k V i) := hide (by rw [unhide HSO, decide_eq_false (fun h => hon (by rw [hD]; exact ((unhide HGO).1 h).2)), Bool.or_false])
                  clear hdc hon hD
                  go_wp2_with fail
                  clear HPRE HNO HL HG HW HLEN
                  go_quiet (fail)
                  go_wp2_with fail
                  go_roundg (n - (i + 1))
                  case measure => omega
                  case rel => exact ⟨i + 1, r + nq, rfl, by omega, unhide HN2, by rw [unhide HS2], by go_num, by first | rfl | rw [World.drewN_drewN]⟩
              · have hgt' : ¬ (k : Int) < (L1 : Int) := by omega
                have hgd : decide ((k : Int) < (L1 : Int)) = false := by simp; omega
                have HS2 : Hid (someOn ls k V (i + 1) = someOn ls k V i) := hide (by rw [unhide HSO, decide_eq_false (fun h => hgt ((unhide HGO).1 h).1), Bool.or_false])
                go_wp2_with fail
                clear HPRE HNO HL HG HW HLEN
                go_quiet (fail)
                go_wp2_with fail
                go_roundg (n - (i + 1))
                case measure => omega
                case rel => exact ⟨i + 1, r + nq, rfl, by omega, unhide HN2, by rw [unhide HS2], by go_num, by first | rfl | rw [World.drewN_drewN]⟩
      · obtain rfl : i = n := by omega
        have hii : ¬ (i : Int) < (i : Int) := by omega
        have HBI : Hid (1 ≤ k → (Beg ls ls.length (kf f k) ↔ someOn ls k V i = true) ∧ ∀ x, ¬ Wrd ls ls.length x (kf f k)) := hide (fun h => by
          have := beg_iff (unhide HG) f k h (by rw [unhide HLEN, ← unhide HV]; exact hno h)
          rw [unhide HLEN, ← unhide HV] at this
          rw [unhide HLEN]
          exact this)
        clear hno
        cases hso : someOn ls k V i with
        | false =>
          have HSO := hide hso
          clear hso
          by_cases hk0 : k = 0
          · have hkp : ¬ (0 : Int) < (k : Int) := by omega
            have hkd : decide ((0 : Int) < (k : Int)) = false := by simp; omega
            have HPK : Hid (1 ≤ k → Pre ls (kf f k)) := hide (fun h => by omega)
            have HK19 : Hid (k ≤ 19) := hide (by omega)
            clear hk0
            by_cases hkm2 : k = m
            · have hke : ((k : Int) == (m : Int)) = true := by simp; omega
              have HFIN : Hid (GetIs ls f m 0 k 10) := hide ⟨hkm, unhide HPRE, .inr (.inr ⟨rfl, rfl, hkm2, unhide HPK⟩)⟩
              clear hkm2
              go_wp2_with fail
              go_ret3
              exact ⟨0, k, 10, rfl, unhide HFIN, r, rfl⟩
            · have hke : ((k : Int) == (m : Int)) = false := by simp; omega
              obtain ⟨b, off, rfl, hcell⟩ := unhide HL (by omega)
              have q1 : w.cell? ⟨b, off + k, none⟩ = some (.int .i64 ((f k).toNat : Int)) := hcell k (by omega)
              have hkl : (k : Int) < (m : Int) := by omega
              have hb1 := Bool.toNat_le (f k)
              obtain ⟨bt, hbt⟩ : ∃ bt, bt = (f k).toNat := ⟨_, rfl⟩
              rw [← hbt] at q1 hb1
              have HVN : Hid (vf f (k + 1) = 2 * V + bt) := hide (by rw [vf, ← unhide HV, hbt])
              have HP2 : Hid (∀ j, 1 ≤ j → j < k + 1 → Pre ls (kf f j)) := hide (fun j h1 h2 => by
                by_cases e : j = k
                · subst e; exact unhide HPK h1
                · exact unhide HPRE j h1 (by omega))
              have HKM : Hid (k < m) := hide (by omega)
              clear hcell hbt hkm2 HPRE HBI
              go_wp2_with fail
              go_roundg (m - (k + 1))
              case measure => have := unhide HKM; omega
              case rel =>
                have h19 := unhide HK19
                have hkm' := unhide HKM
                exact ⟨k + 1, r, rfl, by omega, by omega, unhide HP2, by rw [unhide HVN]; congr 1; omega, by go_num, rfl⟩
          · have hkp : (0 : Int) < (k : Int) := by omega
            have HFIN : Hid (GetIs ls f m 0 k 11) := hide ⟨hkm, unhide HPRE, .inr (.inl ⟨rfl, rfl, by omega, fun hb => by have := ((unhide HBI) (by omega)).1.1 hb; rw [unhide HSO] at this; cases this⟩)⟩
            go_wp2_with fail
            go_ret3
            exact ⟨0, k, 11, rfl, unhide HFIN, r, rfl⟩
        | true =>
          have HPK : Hid (1 ≤ k → Pre ls (kf f k)) := hide (fun h => ⟨((unhide HBI) h).1.2 hso, ((unhide HBI) h).2⟩)
          have HK19 : Hid (k ≤ 19) := hide (by
            by_cases h : 1 ≤ k
            · exact pre_len (unhide HG) h (unhide HPK h)
            · omega)
          clear hso
          by_cases hkm2 : k = m
          · have hke : ((k : Int) == (m : Int)) = true := by simp; omega
            have HFIN : Hid (GetIs ls f m 0 k 10) := hide ⟨hkm, unhide HPRE, .inr (.inr ⟨rfl, rfl, hkm2, unhide HPK⟩)⟩
            clear hkm2
            go_wp2_with fail
            go_ret3
            exact ⟨0, k, 10, rfl, unhide HFIN, r, rfl⟩
          · have hke : ((k : Int) == (m : Int)) = false := by simp; omega
            obtain ⟨b, off, rfl, hcell⟩ := unhide HL (by omega)
            have q1 : w.cell? ⟨b, off + k, none⟩ = some (.int .i64 ((f k).toNat : Int)) := hcell k (by omega)
            have hkl : (k : Int) < (m : Int) := by omega
            have hb1 := Bool.toNat_le (f k)
            obtain ⟨bt, hbt⟩ : ∃ bt, bt = (f k).toNat := ⟨_, rfl⟩
            rw [← hbt] at q1 hb1
            have HVN : Hid (vf f (k + 1) = 2 * V + bt) := hide (by rw [vf, ← unhide HV, hbt])
            have HP2 : Hid (∀ j, 1 ≤ j → j < k + 1 → Pre ls (kf f j)) := hide (fun j h1 h2 => by
              by_cases e : j = k
              · subst e; exact unhide HPK h1
              · exact unhide HPRE j h1 (by omega))
            have HKM : Hid (k < m) := hide (by omega)
            clear hcell hbt hkm2 HPRE HBI
            go_wp2_with fail
            go_roundg (m - (k + 1))
            case measure => have := unhide HKM; omega
            case rel =>
              have h19 := unhide HK19
              have hkm' := unhide HKM
              exact ⟨k + 1, r, rfl, by omega, by omega, unhide HP2, by rw [unhide HVN]; congr 1; omega, by go_num, rfl⟩

end Go.Proofs.Ytclccccodeekmaa
