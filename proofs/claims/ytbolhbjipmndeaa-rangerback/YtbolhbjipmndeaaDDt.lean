/- A decoder's Tree. -/
import Derived.Test.YtbolhbjipmndeaaDDd
namespace Go.Proofs.Ytbolhbjipmndeaa.D
open Go.RowKit Rang
set_option maxRecDepth 100000
set_option linter.unusedVariables false
attribute [local go_sem ↓] Go.wp_at_zero Go.wp_at_succ

/-- bits by a tree's chances, up to the end of the bytes: the node, the number with the lowest bit first -/
def getsD (Bs : List Nat) (base : Nat) : Nat → Nat → Nat → Nat → Dec × List Nat → (Nat × Nat) × (Dec × List Nat)
  | 0, _, m, v, s => ((m, v), s)
  | n + 1, i, m, v, s =>
    if (gotD Bs s.1 (s.2.getD (base + m) 0)).2.over then ((2 * m + (gotD Bs s.1 (s.2.getD (base + m) 0)).1.toNat, v + (gotD Bs s.1 (s.2.getD (base + m) 0)).1.toNat * 2 ^ i), ((gotD Bs s.1 (s.2.getD (base + m) 0)).2, gotCh s.2 (base + m) (s.2.getD (base + m) 0) (gotD Bs s.1 (s.2.getD (base + m) 0))))
    else getsD Bs base n (i + 1) (2 * m + (gotD Bs s.1 (s.2.getD (base + m) 0)).1.toNat) (v + (gotD Bs s.1 (s.2.getD (base + m) 0)).1.toNat * 2 ^ i) ((gotD Bs s.1 (s.2.getD (base + m) 0)).2, gotCh s.2 (base + m) (s.2.getD (base + m) 0) (gotD Bs s.1 (s.2.getD (base + m) 0)))

/-- the number that a tree tells -/
def treeV (n : Nat) (high : Bool) (x : Nat × Nat) : Int := if high then (x.1 : Int) - 2 ^ n else (x.2 : Int)

theorem toldV_over {d : Dec} (h : d.over = true) (v v' : Int) : toldV d v = toldV d v' := by simp [toldV, h]

theorem ar_z {y v Q : Nat} (hy : y ≤ 1) (hv : v < Q) : v + y * Q < Q * 2 ∧ y * Q ≤ Q := by
  rcases (show y = 0 ∨ y = 1 by omega) with rfl | rfl
  · rw [Nat.zero_mul]; omega
  · rw [Nat.one_mul]; omega

theorem ar_m {y m A : Nat} (hy : y ≤ 1) (hm : m + 1 ≤ A) : 2 * m + y + 1 ≤ A * 2 := by omega

theorem ar_w {v z : Nat} (hv : v < 65536) (hz : z ≤ 65536) : wrap64 ((v : Int) + (z : Int)) = (v : Int) + (z : Int) ∧ wrap64 (z : Int) = (z : Int) := ⟨IntWalk.wrap64_in _ (by omega), IntWalk.wrap64_in _ (by omega)⟩

theorem ar_p {i n m v P : Nat} (h1 : i + 1 ≤ n) (hP : P = 2 ^ n) (hP16 : P ≤ 65536) (hm : m + 1 ≤ 2 ^ (i + 1)) (hv : v < 2 ^ i) : m < P ∧ m < 65536 ∧ v < 65536 ∧ 2 ^ i ≤ 65536 := by
  have h2 : 2 ^ (i + 1) ≤ 2 ^ n := Nat.pow_le_pow_right (by decide) h1
  rw [← hP] at h2
  have h3 : 2 ^ i ≤ 2 ^ (i + 1) := Nat.pow_le_pow_right (by decide) (by omega)
  generalize 2 ^ (i + 1) = A at h2 h3 hm
  generalize 2 ^ i = C at h3 hv ⊢
  omega

set_option maxHeartbeats 8000000 in
theorem dtree_ok (w : World) (pb gc cc : Nat) (ba : Option Addr) (bc : Nat) (Bs : List Nat) (d : Dec) (ch : List Nat) (base n : Nat) (high : Bool) (h : DS w pb gc cc ba bc Bs d ch) (hn : n ≤ 16) (hb : base + 2 ^ n ≤ ch.length) (hN : ch.length ≤ 140737488355328) :
    Calls Try.prog 35 #[.pointer (some ⟨pb, 0, none⟩), .int .i64 (base : Int), .int .i64 (n : Int), .bool high] w fun e w' => e = .returned (toldV (getsD Bs base n 0 1 0 (d, ch)).2.1 (treeV n high (getsD Bs base n 0 1 0 (d, ch)).1)) ∧ DS w' pb gc cc ba bc Bs (getsD Bs base n 0 1 0 (d, ch)).2.1 (getsD Bs base n 0 1 0 (d, ch)).2.2 ∧ DT w w' pb gc cc := by
  have HE := hide h
  have HM := hide (may_ok base n ch.length w hn hb hN)
  have c0 := h.da.chv
  have hp : 2 ^ n ≤ 2 ^ 16 := Nat.pow_le_pow_right (by omega) hn
  obtain ⟨P, hP⟩ : ∃ P, P = 2 ^ n := ⟨_, rfl⟩
  have e1 : (2 : Int) ^ n = (P : Int) := by rw [hP]; simp
  have HP := hide hP
  rw [← hP] at hp hb
  have fP : wrap64 (P : Int) = (P : Int) := IntWalk.wrap64_in _ (by omega)
  have hP16 : P ≤ 65536 := by omega
  obtain ⟨N, hNN⟩ : ∃ N, N = ch.length := ⟨_, rfl⟩
  have HNN := hide hNN
  rw [← hNN] at HM c0 hb hN
  have hn2 : n < 64 := by omega
  obtain ⟨R, hR⟩ : ∃ R, R = getsD Bs base n 0 1 0 (d, ch) := ⟨_, rfl⟩
  have HR := hide hR
  rw [← hR]
  have HE1 := hide e1
  have HFP := hide fP
  clear h hP hNN hp hR e1 fP
  go_enter Try.func35, Try.ntmps35
  go_wp2_with fail
  refine (unhide HM).mono ?_
  rintro e w1 ⟨rfl, rfl⟩
  go_wp2_with fail
  clear c0
  go_loopg [10, 11, 12] n (fun gk mv vv iv ws => ∃ (i m v : Nat) (s : Dec × List Nat), gk + i = n ∧ Hid (m + 1 ≤ 2 ^ (i + 1) ∧ v < 2 ^ i) ∧ mv = .int .i64 (m : Int) ∧ vv = .int .i64 (v : Int) ∧ iv = .int .i64 (i : Int) ∧ Hid (DS ws pb gc cc ba bc Bs s.1 s.2) ∧ Hid (s.2.length = N) ∧ Hid (getsD Bs base gk i m v s = R) ∧ Hid (DT w1 ws pb gc cc))
  case atStart => exact ⟨0, 1, 0, (d, ch), by omega, hide ⟨by decide, by decide⟩, rfl, rfl, rfl, HE, hide (unhide HNN).symm, hide (unhide HR).symm, hide (DT.refl _ _ _ _)⟩
  case round =>
    clear HE
    obtain ⟨i, m, v, ⟨d', ch'⟩, hgk, HMV, rfl, rfl, rfl, HE, HL, HX, HT⟩ := hrel
    rename World => wi
    by_cases hlt : 0 < gk
    · obtain ⟨g, rfl⟩ : ∃ g, gk = g + 1 := ⟨gk - 1, by omega⟩
      have tl : (i : Int) < (n : Int) := by omega
      obtain ⟨hmP, hm2, hv2, hQ0⟩ := ar_p (show i + 1 ≤ n by omega) (unhide HP) hP16 (unhide HMV).1 (unhide HMV).2
      have hbm : base + m < N := by omega
      have HG := hide (get_ds wi pb gc cc ba bc Bs d' ch' (base + m) (unhide HE) (by have := unhide HL; simp only at this; rw [this]; exact hbm))
      have hX := unhide HX
      rw [getsD] at hX
      simp only at hX
      obtain ⟨X, hXX⟩ : ∃ X, X = gotD Bs d' (ch'.getD (base + m) 0) := ⟨_, rfl⟩
      obtain ⟨C, hC⟩ : ∃ C, C = gotCh ch' (base + m) (ch'.getD (base + m) 0) X := ⟨_, rfl⟩
      have HCL : Hid (C.length = N) := hide (by rw [hC, got_len]; exact unhide HL)
      rw [← hXX, ← hC] at HG hX
      obtain ⟨bit, D⟩ := X
      simp only at hX
      obtain ⟨y, hy⟩ : ∃ y, y = bit.toNat := ⟨_, rfl⟩
      have hy1 : y ≤ 1 := by rw [hy]; exact Bool.toNat_le bit
      rw [← hy, show ((base + m : Nat) : Int) = (base : Int) + (m : Int) by omega] at HG
      rw [← hy] at hX
      obtain ⟨Q, hQ⟩ : ∃ Q, Q = 2 ^ i := ⟨_, rfl⟩
      have eQ : (2 : Int) ^ i = (Q : Int) := by rw [hQ]; simp
      have hvQ : v < Q := by rw [hQ]; exact (unhide HMV).2
      rw [← hQ] at hQ0
      have hzz := ar_z hy1 hvQ
      have HPW1 : Hid (2 * m + y + 1 ≤ 2 ^ (i + 1 + 1)) := hide (by rw [Nat.pow_succ]; exact ar_m hy1 (unhide HMV).1)
      have HPW2 : Hid (v + y * Q < 2 ^ (i + 1)) := hide (by rw [Nat.pow_succ, ← hQ]; exact hzz.1)
      obtain ⟨z, hz⟩ : ∃ z, z = y * Q := ⟨_, rfl⟩
      have ez : (y : Int) * (Q : Int) = (z : Int) := by rw [hz]; simp
      rw [← hz] at hzz HPW2
      have hz16 : z ≤ 65536 := by omega
      obtain ⟨fvz, fz⟩ := ar_w hv2 hz16
      rw [← hQ, ← hz] at hX
      have HZV := hide hz
      clear hzz hvQ hQ0
      have hi64 : i < 64 := by omega
      have HX2 := hide hX
      clear hX HX hXX hC hy hQ hz hmP
      go_wp2_with fail
      refine (unhide HG).mono ?_
      rintro e w5 ⟨rfl, h5, h6⟩
      have H5 := hide h5
      have H6 := hide ((unhide HT).trans h6)
      obtain ⟨dc, dr, da, dov⟩ := D
      have c5 : w5.cell? ⟨pb, 5, none⟩ = some (.bool dov) := h5.da.over
      clear h5 h6 HG
      rcases (show y = 0 ∨ y = 1 by omega) with rfl | rfl
      · obtain rfl : z = 0 := by rw [unhide HZV, Nat.zero_mul]
        clear ez fz fvz HZV hz16 eQ hy1
        cases dov
        · go_wp2_with fail
          go_roundg g
          case measure => omega
          case rel => exact ⟨i + 1, 2 * m + 0, v + 0, (⟨dc, dr, da, false⟩, C), by omega, hide ⟨unhide HPW1, unhide HPW2⟩, by go_num, by go_num, by go_num, H5, HCL, hide (by have := unhide HX2; rw [if_neg (by simp)] at this; exact this), H6⟩
        · have HX3 : Hid (((2 * m + 0, v + 0), ((⟨dc, dr, da, true⟩ : Dec), C)) = R) := hide (by have := unhide HX2; rw [if_pos rfl] at this; exact this)
          have HZ := H5
          have HT3 := H6
          clear H5 H6 HX2 HPW1 HPW2
          cases high
          · go_wp2_with fail
            refine (told_ds _ pb gc cc ba bc Bs _ _ _ (unhide HZ)).mono ?_
            rintro e w2 ⟨⟨x, y', rfl, H3⟩, rfl⟩
            go_wp2_with fail
            go_ret2
            rw [← unhide HX3]
            exact ⟨(congrArg Ending.returned (unhide H3)).trans rfl, unhide HZ, unhide HT3⟩
          · have e1 := unhide HE1
            have fP := unhide HFP
            go_wp2_with fail
            refine (told_ds _ pb gc cc ba bc Bs _ _ _ (unhide HZ)).mono ?_
            rintro e w2 ⟨⟨x, y', rfl, H3⟩, rfl⟩
            go_wp2_with fail
            go_ret2
            rw [← unhide HX3]
            refine ⟨(congrArg Ending.returned (unhide H3)).trans ?_, unhide HZ, unhide HT3⟩
            unfold treeV
            rw [if_pos rfl, e1]
            go_num
      · obtain rfl : Q = z := by rw [unhide HZV, Nat.one_mul]
        have HF := hide (And.intro fvz fz)
        clear ez HZV hy1 fvz fz hz16
        cases dov
        · go_wp2_with fail
          go_roundg g
          case measure => clear eQ; omega
          case rel =>
            clear eQ
            exact ⟨i + 1, 2 * m + 1, v + Q, (⟨dc, dr, da, false⟩, C), by omega, hide ⟨unhide HPW1, unhide HPW2⟩, by go_num, by rw [(unhide HF).2, (unhide HF).1]; go_num, by go_num, H5, HCL, hide (by have := unhide HX2; rw [if_neg (by simp)] at this; exact this), H6⟩
        · have HX3 : Hid (((2 * m + 1, v + Q), ((⟨dc, dr, da, true⟩ : Dec), C)) = R) := hide (by have := unhide HX2; rw [if_pos rfl] at this; exact this)
          have HZ := H5
          have HT3 := H6
          have e1 := unhide HE1
          clear H5 H6 HX2 HPW1 HPW2 hP16 hb
          cases high
          · go_wp2_with fail
            refine (told_ds _ pb gc cc ba bc Bs _ _ _ (unhide HZ)).mono ?_
            rintro e w2 ⟨⟨x, y', rfl, H3⟩, rfl⟩
            go_wp2_with fail
            go_ret2
            rw [← unhide HX3]
            exact ⟨(congrArg Ending.returned (unhide H3)).trans (congrArg Ending.returned (toldV_over rfl _ _)), unhide HZ, unhide HT3⟩
          · go_wp2_with fail
            refine (told_ds _ pb gc cc ba bc Bs _ _ _ (unhide HZ)).mono ?_
            rintro e w2 ⟨⟨x, y', rfl, H3⟩, rfl⟩
            go_wp2_with fail
            go_ret2
            rw [← unhide HX3]
            exact ⟨(congrArg Ending.returned (unhide H3)).trans (congrArg Ending.returned (toldV_over rfl _ _)), unhide HZ, unhide HT3⟩
    · obtain rfl : gk = 0 := by omega
      obtain rfl : i = n := by omega
      have tl : ¬ (i : Int) < (i : Int) := by omega
      have hm2 : m < 131072 := by have := (unhide HMV).1; have e := unhide HP; rw [Nat.pow_succ, ← e] at this; omega
      have HX3 : Hid (((m, v), (d', ch')) = R) := HX
      have HZ := HE
      have HT3 := HT
      clear HX HE HT
      cases high
      · go_wp2_with fail
        refine (told_ds _ pb gc cc ba bc Bs _ _ _ (unhide HZ)).mono ?_
        rintro e w2 ⟨⟨x, y', rfl, H3⟩, rfl⟩
        go_wp2_with fail
        go_ret2
        rw [← unhide HX3]
        exact ⟨(congrArg Ending.returned (unhide H3)).trans rfl, unhide HZ, unhide HT3⟩
      · have e1 := unhide HE1
        have fP := unhide HFP
        go_wp2_with fail
        refine (told_ds _ pb gc cc ba bc Bs _ _ _ (unhide HZ)).mono ?_
        rintro e w2 ⟨⟨x, y', rfl, H3⟩, rfl⟩
        go_wp2_with fail
        go_ret2
        rw [← unhide HX3]
        refine ⟨(congrArg Ending.returned (unhide H3)).trans ?_, unhide HZ, unhide HT3⟩
        unfold treeV
        rw [if_pos rfl, e1]
end Go.Proofs.Ytbolhbjipmndeaa.D
