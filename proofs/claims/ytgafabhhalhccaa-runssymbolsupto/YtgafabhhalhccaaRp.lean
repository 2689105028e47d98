/- readPacked: what comes out of packed bytes is told, one behind the other. -/
import Derived.Test.YtgafabhhalhccaaTe
namespace Go.Proofs.Ytgafabhhalhccaa
open Go.RowKit Runs
set_option maxRecDepth 100000
set_option linter.unusedVariables false
attribute [local go_sem ↓] Go.wp_at_zero Go.wp_at_succ

/-- a function that is told bytes; what it has been told is known of the memory -/
structure Teller (fn : Nat) (cb : Array Value) (m : Int) (B : Prop) (I : List Nat → World → Prop) (K : World → Prop) : Prop where
  enter : ∀ (args : Array Value) (x : World), Sem.run Try.prog (callFunc fn args) x = .ok (.enter fn args) x
  call : ∀ (out : List Nat) (W : World) (c k : Nat), I out W → k ≤ 255 → (((out.length : Int) + (k : Int) ≤ m) ∨ B) → Calls Try.prog fn (#[.int .u8 (c : Int), .int .i64 (k : Int)] ++ cb) W fun e W' =>
    ((out.length : Int) + (k : Int) ≤ m ∧ e = .returned (.int .i64 0) ∧ I (out ++ List.replicate k c) W') ∨ (m < (out.length : Int) + (k : Int) ∧ e = .returned (.int .i64 3) ∧ K W')
  keep : ∀ out W, I out W → K W

theorem like_new (j c x : Nat) (h : ¬ (0 < j ∧ x = c)) : (if 0 < j ∧ x = c then j + 1 else 1) = 1 := if_neg h

theorem unp_step (m : Int) (x : Nat) (r : List Nat) (j c : Nat) (out : List Nat) (hj : j ≠ 4) : unp m (x :: r) j c out = if (out.length : Int) = m then ([], 3) else unp m r (if 0 < j ∧ x = c then j + 1 else 1) x (out ++ [x]) := by
  conv => lhs; rw [unp]
  rw [if_neg hj]

theorem unp_zero (m : Int) : ∀ (l : List Nat) (a a' : Nat) (out : List Nat), unp m l 0 a out = unp m l 0 a' out
  | [], a, a', out => by rw [unp, unp]
  | c :: r, a, a', out => by
    rw [unp_step _ _ _ _ _ _ (by omega), unp_step _ _ _ _ _ _ (by omega), like_new _ _ _ (by omega), like_new _ _ _ (by omega)]

/-- another byte, or none: the run is over -/
theorem unp_anew (m : Int) (l : List Nat) (j c : Nat) (out : List Nat) (hj : j < 4) (h : ∀ x r, l = x :: r → x ≠ c) : unp m l j c out = unp m l 0 0 out := by
  cases l with
  | nil => rw [unp, unp, if_neg (by omega), if_neg (by omega)]
  | cons x r =>
    rw [unp_step _ _ _ _ _ _ (by omega), unp_step _ _ _ _ _ _ (by omega), like_new _ _ _ (fun q => h x r rfl q.2), like_new _ _ _ (by omega)]

/-- one more of the run -/
theorem unp_more (m : Int) (r : List Nat) (j c : Nat) (out : List Nat) (hj : j < 4) : unp m (c :: r) j c out = if (out.length : Int) = m then ([], 3) else unp m r (j + 1) c (out ++ [c]) := by
  rw [unp_step _ _ _ _ _ _ (by omega)]
  by_cases h : 0 < j
  · rw [show (if 0 < j ∧ c = c then j + 1 else 1) = j + 1 from if_pos ⟨h, rfl⟩]
  · obtain rfl : j = 0 := by omega
    rw [like_new _ _ _ (by omega)]

/-- what a reading answers -/
def RpIs (r : List Nat × Nat) (I : List Nat → World → Prop) (K : World → Prop) (e : Ending) (w' : World) : Prop := e = .returned (.int .i64 (r.2 : Int)) ∧ (r.2 = 0 → I r.1 w') ∧ K w'

set_option maxHeartbeats 8000000 in
theorem rp_ok (b : List Nat) (a0 : Option Addr) (cap : Nat) (w : World) (fn : Nat) (cb : Array Value) (m : Int) (B : Prop) (I : List Nat → World → Prop) (K : World → Prop) (hT : Teller fn cb m B I K) (hI : I [] w) (hm : 0 ≤ m)
    (hc : ∀ out W, I out W → BytesIn W a0 b) (hb : ∀ z ∈ b, z < 256) (hn : b.length ≤ 2000000) (hB : B ∨ ∃ r, unp m b 0 0 [] = (r, 0)) :
    Calls Try.prog 25 #[.slice a0 b.length cap, .func (.func fn) #[] cb] w fun e w' => RpIs (unp m b 0 0 []) I K e w' := by
  have hE := hT.enter
  have HT := hide hT
  have HI := hide hI
  have HC := hide hc
  have HBB := hide hb
  obtain ⟨n, hN⟩ : ∃ n, n = b.length := ⟨_, rfl⟩
  have HN := hide hN
  obtain ⟨U, hU⟩ : ∃ U, U = unp m b 0 0 [] := ⟨_, rfl⟩
  rw [← hN] at hn ⊢
  rw [← hU] at hB ⊢
  have HU := hide hU
  have HB := hide hB
  clear hN hc hb hT hI hU hB
  go_enter Try.func25, Try.ntmps25
  go_wp2_with fail
  go_step3
  go_wp2_with fail
  go_step3
  go_wp2_with fail
  go_loopg [5] n (fun gk av ws => ∃ (at_ : Nat) (out : List Nat), gk = n - at_ ∧ at_ ≤ n ∧ av = .int .i64 (at_ : Int) ∧ Hid (I out ws) ∧ Hid ((out.length : Int) ≤ m) ∧ Hid (unp m (b.drop at_) 0 0 out = U))
  case atStart => exact ⟨0, [], by omega, by omega, rfl, HI, hide (by simpa using hm), hide (by rw [unhide HU]; rfl)⟩
  case round =>
    clear HI
    obtain ⟨at_, out, rfl, hat, rfl, HI, HO, HX⟩ := hrel
    rename World => wo
    by_cases hlt : at_ < n
    · have tl : (at_ : Int) < (n : Int) := by omega
      have hab : at_ < b.length := by rw [← unhide HN]; exact hlt
      obtain ⟨g, off, ea, c1⟩ := unhide HC out wo (unhide HI) at_ hab
      subst ea
      obtain ⟨c, hcc⟩ : ∃ c, c = b.getD at_ 0 := ⟨_, rfl⟩
      rw [← hcc] at c1
      have HCC := hide hcc
      clear hcc
      go_wp2_with fail
      clear c1
      have H0 : Hid (unp m (b.drop (at_ + 0)) 0 c out = U) := hide (by rw [Nat.add_zero, unp_zero m _ c 0]; exact unhide HX)
      clear HX
      go_loopg [5, 17] 4 (fun gk av jv ws => ∃ (j : Nat) (out' : List Nat), gk = 4 - j ∧ j ≤ 4 ∧ at_ + j ≤ n ∧ av = .int .i64 ((at_ + j : Nat) : Int) ∧ jv = .int .i64 (j : Int) ∧ Hid (I out' ws) ∧ Hid ((out'.length : Int) ≤ m) ∧ Hid (unp m (b.drop (at_ + j)) j c out' = U))
      case atStart => exact ⟨0, out, by omega, by omega, by omega, rfl, rfl, HI, HO, H0⟩
      case round =>
        clear H0 HI HO
        obtain ⟨j, out', rfl, hj4, hajn, rfl, rfl, HI, HO, HX⟩ := hrel
        rename World => wj
        obtain ⟨p, hp⟩ : ∃ p, p = at_ + j := ⟨_, rfl⟩
        have hpj := hp
        rw [← hp] at hajn HX ⊢
        clear hp
        have HPJ := hide hpj
        clear hpj
        by_cases hjl : j < 4
        · have tj : (j : Int) < 4 := by omega
          by_cases hpn : p < n
          · have hpb : p < b.length := by rw [← unhide HN]; exact hpn
            obtain ⟨g', off', ea, c2⟩ := unhide HC out' wj (unhide HI) p hpb
            cases ea
            have tp1 : ((p : Int) == (n : Int)) = false := by rw [beq_eq_false_iff_ne]; omega
            have tp2 : ¬ (p : Int) = (n : Int) := by omega
            have tp3 : (p : Int) < (n : Int) := by omega
            obtain ⟨x, hx⟩ : ∃ x, x = b.getD p 0 := ⟨_, rfl⟩
            have hd := drop_cons hpb
            rw [← hx] at c2 hd
            have HD := hide hd
            have HXX := hide hx
            clear hx hd
            by_cases hxc : x = c
            · subst hxc
              have hX := unhide HX
              rw [unhide HD, unp_more m _ j x out' hjl] at hX
              have HX2 := hide hX
              clear hX HX
              have hfit : (((out'.length : Int) + ((1 : Nat) : Int) ≤ m) ∨ B) := by
                rcases unhide HB with h | ⟨r, h⟩
                · exact .inr h
                · refine .inl ?_
                  have h1 := unhide HX2
                  have h2 := unhide HO
                  by_cases h3 : (out'.length : Int) = m
                  · rw [if_pos h3, h] at h1; cases h1
                  · omega
              have HFIT := hide hfit
              clear hfit
              go_wp2_with fail
              refine ((unhide HT).call out' wj x 1 (unhide HI) (by omega) (unhide HFIT)).mono ?_
              rintro e w1 (⟨hle, rfl, hI1⟩ | ⟨hgt, rfl, hK1⟩)
              · have HI1 := hide hI1
                have HLE := hide hle
                clear hI1 hle
                go_wp2_with fail
                go_roundg (4 - (j + 1))
                case measure => omega
                case rel =>
                  have h1 := unhide HX2
                  have h2 := unhide HLE
                  rw [if_neg (by omega)] at h1
                  have h3 := unhide HPJ
                  refine ⟨j + 1, out' ++ [x], rfl, by omega, by omega, ?_, by go_num, HI1, hide (by simp; omega), hide (by rw [show at_ + (j + 1) = p + 1 by omega]; exact h1)⟩
                  rw [show at_ + (j + 1) = p + 1 by omega]
                  go_num
              · have HK1 := hide hK1
                have HGT := hide hgt
                clear hK1 hgt
                go_wp2_with fail
                rw [Exit.noGoto_ret]
                go_ret
                have h1 := unhide HX2
                have h2 := unhide HGT
                have h3 := unhide HO
                rw [if_pos (by omega)] at h1
                rw [← h1]
                exact ⟨rfl, fun h => by simp at h, unhide HK1⟩
            · have f1 : ((x : Int) != (c : Int)) = true := by rw [bne_iff_ne]; omega
              have f2 : ¬ (x : Int) = (c : Int) := by omega
              have hj1 : at_ < p := by
                have h1 := unhide HPJ
                rcases Nat.eq_zero_or_pos j with e | e
                · exfalso
                  apply hxc
                  rw [unhide HXX, unhide HCC, h1, e]
                  rfl
                · omega
              go_wp2_with fail
              go_roundg (n - p)
              case measure => omega
              case rel => exact ⟨p, out', rfl, by omega, rfl, HI, HO, hide (by rw [← unhide HX]; exact (unp_anew m _ j c out' hjl (fun y r e => by rw [unhide HD] at e; cases e; exact hxc)).symm)⟩
          · obtain rfl : p = n := by omega
            have tp1 : ((p : Int) == (p : Int)) = true := by rw [beq_iff_eq]
            go_wp2_with fail
            go_roundg (p - p)
            case measure => omega
            case rel => exact ⟨p, out', rfl, by omega, rfl, HI, HO, hide (by rw [← unhide HX]; exact (unp_anew m _ j c out' hjl (fun y r e => by rw [unhide HN, List.drop_length] at e; cases e)).symm)⟩
        · obtain rfl : j = 4 := by omega
          by_cases hpn : p < n
          · have hpb : p < b.length := by rw [← unhide HN]; exact hpn
            obtain ⟨g', off', ea, c2⟩ := unhide HC out' wj (unhide HI) p hpb
            cases ea
            have tp1 : ((p : Int) == (n : Int)) = false := by rw [beq_eq_false_iff_ne]; omega
            have tp2 : ¬ (p : Int) = (n : Int) := by omega
            have tp3 : (p : Int) < (n : Int) := by omega
            have hxb := unhide HBB _ (getD_mem hpb)
            have hX := unhide HX
            rw [drop_cons hpb, unp, if_pos rfl] at hX
            obtain ⟨x, hx⟩ : ∃ x, x = b.getD p 0 := ⟨_, rfl⟩
            rw [← hx] at c2 hxb hX
            have HX2 := hide hX
            have f5 : IntKind.i64.wrap (x : Int) = (x : Int) := by rw [IntKind.wrap_i64]; omega
            clear hx hX HX
            have hfit : (((out'.length : Int) + (x : Int) ≤ m) ∨ B) := by
              rcases unhide HB with h | ⟨r, h⟩
              · exact .inr h
              · refine .inl ?_
                have h1 := unhide HX2
                by_cases h3 : m - (out'.length : Int) < (x : Int)
                · rw [if_pos h3, h] at h1; cases h1
                · omega
            have HFIT := hide hfit
            clear hfit
            go_wp2_with fail
            refine ((unhide HT).call out' wj c x (unhide HI) (by omega) (unhide HFIT)).mono ?_
            rintro e w1 (⟨hle, rfl, hI1⟩ | ⟨hgt, rfl, hK1⟩)
            · have HI1 := hide hI1
              have HLE := hide hle
              clear hI1 hle
              go_wp2_with fail
              go_roundg (n - (p + 1))
              case measure => have := unhide HPJ; omega
              case rel =>
                have h1 := unhide HX2
                have h2 := unhide HLE
                rw [if_neg (by omega)] at h1
                exact ⟨p + 1, _, rfl, by omega, by go_num, HI1, hide (by simp; omega), hide (by rw [← h1]; exact unp_zero ..)⟩
            · have HK1 := hide hK1
              have HGT := hide hgt
              clear hK1 hgt
              go_wp2_with fail
              rw [Exit.noGoto_ret]
              go_ret
              have h1 := unhide HX2
              have h2 := unhide HGT
              rw [if_pos (by omega)] at h1
              rw [← h1]
              exact ⟨rfl, fun h => by simp at h, unhide HK1⟩
          · obtain rfl : p = n := by omega
            have tp1 : ((p : Int) == (p : Int)) = true := by rw [beq_iff_eq]
            go_wp2_with fail
            rw [Exit.noGoto_ret]
            go_ret
            have h1 := unhide HX
            rw [unhide HN, List.drop_length, unp, if_pos rfl] at h1
            rw [← h1]
            exact ⟨rfl, fun h => by simp at h, (unhide HT).keep _ _ (unhide HI)⟩
    · obtain rfl : at_ = n := by omega
      have tl : ¬ (at_ : Int) < (at_ : Int) := by omega
      go_wp2_with fail
      go_ret
      have h1 := unhide HX
      rw [unhide HN, List.drop_length, unp, if_neg (by omega)] at h1
      rw [← h1]
      exact ⟨rfl, fun _ => unhide HI, (unhide HT).keep _ _ (unhide HI)⟩
end Go.Proofs.Ytgafabhhalhccaa
