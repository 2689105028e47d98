/- The best match; look and common. -/
import Derived.Test.YtabnfnejlffioaaRep
namespace Go.Proofs.Ytabnfnejlffioaa
open Go.RowKit
set_option linter.unusedVariables false

attribute [local go_sem ↓] Go.wp_at_zero Go.wp_at_succ

/-- n bytes from a place on are those a distance ahead -/
def Eqs (z : Nat → Nat) (p d n : Nat) : Prop := ∀ i, i < n → z (p + i) = z (p + i - d)

theorem Eqs.mono {z : Nat → Nat} {p d n k : Nat} (h : Eqs z p d n) (hk : k ≤ n) : Eqs z p d k := fun i hi => h i (by omega)

/-- the greatest length, of at most m, at one of the first w distances, and the least such distance -/
structure IsBest (z : Nat → Nat) (p w m n d : Nat) : Prop where
  le : n ≤ m
  one : (n = 0 ∧ d = 0) ∨ (1 ≤ n ∧ 1 ≤ d ∧ d ≤ w ∧ Eqs z p d n ∧ ∀ d', 1 ≤ d' → d' < d → ¬ Eqs z p d' n)
  max : n < m → ∀ d', 1 ≤ d' → d' ≤ w → ¬ Eqs z p d' (n + 1)

theorem IsBest.len {z : Nat → Nat} {p w m n d n' d' : Nat} (h : IsBest z p w m n d) (h' : IsBest z p w m n' d') : n' ≤ n := by
  refine Classical.byContradiction fun hc => ?_
  rcases h'.one with ⟨e, _⟩ | ⟨h1, h2, h3, h4, _⟩
  · omega
  · exact h.max (by have := h'.le; omega) d' h2 h3 (h4.mono (by omega))

theorem IsBest.eq {z : Nat → Nat} {p w m n d n' d' : Nat} (h : IsBest z p w m n d) (h' : IsBest z p w m n' d') : n = n' ∧ d = d' := by
  have e : n = n' := Nat.le_antisymm (h'.len h) (h.len h')
  subst e
  refine ⟨rfl, ?_⟩
  rcases h.one with ⟨e, e1⟩ | ⟨h1, h2, h3, h4, h5⟩ <;> rcases h'.one with ⟨e', e1'⟩ | ⟨k1, k2, k3, k4, k5⟩
  · omega
  · omega
  · omega
  · rcases Nat.lt_trichotomy d d' with hl | e | hl
    · exact absurd h4 (k5 d h2 hl)
    · exact e
    · exact absurd k4 (h5 d' k2 hl)

/-- the same of a part of the text -/
theorem IsBest.shift {z z' : Nat → Nat} {p f w m n d : Nat} (h : IsBest z' p w m n d) (hw : w ≤ p) (hz : ∀ i, i < p + m → z' i = z (f + i)) : IsBest z (f + p) w m n d := by
  have key : ∀ d' k, 1 ≤ d' → d' ≤ w → k ≤ m → (Eqs z' p d' k ↔ Eqs z (f + p) d' k) := fun d' k h1 h2 h3 => by
    constructor
    · intro he i hi
      have := he i hi
      rw [hz _ (by omega), hz _ (by omega)] at this
      rw [show f + p + i = f + (p + i) by omega, show f + (p + i) - d' = f + (p + i - d') by omega]
      exact this
    · intro he i hi
      have := he i hi
      rw [hz _ (by omega), hz _ (by omega)]
      rw [show f + p + i = f + (p + i) by omega, show f + (p + i) - d' = f + (p + i - d') by omega] at this
      exact this
  refine ⟨h.le, ?_, fun hl d' h1 h2 he => h.max hl d' h1 h2 ((key d' (n + 1) h1 h2 (by omega)).2 he)⟩
  rcases h.one with e | ⟨h1, h2, h3, h4, h5⟩
  · exact .inl e
  · exact .inr ⟨h1, h2, h3, (key d n h2 h3 h.le).1 h4, fun d' k1 k2 he => h5 d' k1 k2 ((key d' n k1 (by omega) h.le).2 he)⟩

theorem ReadsU.sub {B : Nat} {w : World} {a : Option Addr} {cap : Nat} {zs : List Nat} (h : ReadsU B w (.slice a zs.length cap) zs) {b off : Nat} (ha : a = some ⟨b, off, none⟩) (f k c : Nat) (hk : f + k ≤ zs.length) (hc : k ≤ c) : ReadsU B w (.slice (some ⟨b, off + f, none⟩) k c) ((zs.drop f).take k) := by
  obtain ⟨a', cap', e, _, hs⟩ := h
  injection e with e1 e2 e3
  subst e1 e3
  subst ha
  have hl : ((zs.drop f).take k).length = k := by simp; omega
  refine ⟨_, c, by rw [hl], by rw [hl]; exact hc, fun h0 => ?_⟩
  rw [hl] at h0 ⊢
  obtain ⟨b', off', e, hb, hcell⟩ := hs (by omega)
  injection e with e
  injection e with e1 e2
  subst e1 e2
  refine ⟨b, off + f, rfl, hb, fun j hj => ?_⟩
  rw [slice_get _ _ _ _ hj, Nat.add_assoc]
  exact hcell (f + j) (by omega)

theorem ReadsU.none {B : Nat} (w : World) (a : Option Addr) (c : Nat) (l : List Nat) (h : l = []) : ReadsU B w (.slice a 0 c) l := by
  subst h
  exact ⟨a, c, rfl, Nat.zero_le _, fun h0 => by simp at h0⟩

set_option maxRecDepth 100000 in
set_option maxHeartbeats 1000000 in
/-- look -/
theorem look_ok (zs : List Nat) (a : Option Addr) (cap B p W M : Nat) (w : World) (hr : ReadsU B w (.slice a zs.length cap) zs) (hcap : zs.length ≤ cap) (hp : p ≤ zs.length) (hl : zs.length ≤ 140737488355328) (hW : W ≤ 9223372036854775807) (hM : M ≤ 9223372036854775807) :
    Calls Try.prog 19 #[.slice a zs.length cap, .int .i64 (p : Int), .int .i64 (W : Int), .int .i64 (M : Int)] w fun e w' => ∃ a', e = .returned (.tuple #[.slice a' (min p W + min M (zs.length - p)) (min p W + min M (zs.length - p)), .int .i64 ((min p W : Nat) : Int)]) ∧ ReadsU B w (.slice a' (min p W + min M (zs.length - p)) (min p W + min M (zs.length - p))) ((zs.drop (p - min p W)).take (min p W + min M (zs.length - p))) ∧ w' = w := by
  have HR := hide hr
  clear hr
  obtain ⟨n, hn⟩ : ∃ n, n = zs.length := ⟨_, rfl⟩
  rw [← hn] at HR hp hl hcap ⊢
  have HN := hide hn
  clear hn
  obtain ⟨u, hu⟩ : ∃ u, u = min p W := ⟨_, rfl⟩
  obtain ⟨t, ht⟩ : ∃ t, t = min M (n - p) := ⟨_, rfl⟩
  rw [← hu, ← ht]
  have m1 := run_min_nat (A := (p : Int)) (B := (W : Int)) rfl rfl hu
  have m2 := run_min_nat (A := (M : Int)) (B := (n : Int) - (p : Int)) rfl (by omega) ht
  obtain ⟨f, hf⟩ : ∃ f : Nat, (p : Int) - (u : Int) = (f : Int) := ⟨p - u, by omega⟩
  obtain ⟨e, he⟩ : ∃ e : Nat, (p : Int) + (t : Int) = (e : Int) := ⟨p + t, by omega⟩
  have hpf : (p : Int) - (f : Int) = (u : Int) := by omega
  have hfe : f ≤ e := by omega
  have hec : e ≤ cap := by omega
  have hef : e - f = u + t := by omega
  have hpu : p - u = f := by omega
  have hen : e ≤ n := by omega
  have HF : Hid (f = p - u) := hide (by omega)
  rw [hpu]
  have HEF := hide hef
  have hfe2 : f ≤ e ∧ e ≤ cap := ⟨hfe, hec⟩
  clear hu ht hef hpu
  obtain ⟨T, hT⟩ : ∃ T, T = u + t := ⟨_, rfl⟩
  have hTe : e - f = T := by rw [hT]; exact unhide HEF
  rw [← hT]
  clear hT
  by_cases h0 : T = 0
  · subst h0
    have hfe3 : e = f := by omega
    have HRD : Hid (ReadsU B w (.slice a 0 0) ((zs.drop f).take 0)) := hide (ReadsU.none w a 0 _ (by simp))
    go_enter Try.func19, Try.ntmps19
    go_wp2_with fail
    go_ret2
    exact ⟨a, rfl, unhide HRD, rfl⟩
  · have hT0 : 0 < T := by omega
    obtain ⟨b, off, rfl⟩ : ∃ b off, a = some ⟨b, off, none⟩ := by
      obtain ⟨a', cap', e', _, hs⟩ := unhide HR
      injection e' with e1 e2 e3
      subst e1
      obtain ⟨b, off, e, _⟩ := hs (by rw [← unhide HN]; omega)
      exact ⟨b, off, e⟩
    have HRD : Hid (ReadsU B w (.slice (some ⟨b, off + f, none⟩) T T) ((zs.drop f).take T)) := hide (by
      have h1 := unhide HR
      rw [unhide HN] at h1
      exact h1.sub rfl f T T (by rw [← unhide HN]; omega) (Nat.le_refl _))
    go_enter Try.func19, Try.ntmps19
    go_wp2_with fail
    go_ret2
    exact ⟨_, rfl, unhide HRD, rfl⟩

/-- how many bytes both begin with -/
structure IsCommon (xs ys : List Nat) (n : Nat) : Prop where
  l1 : n ≤ xs.length
  l2 : n ≤ ys.length
  eq : ∀ i, i < n → xs.getD i 0 = ys.getD i 0
  ne : n < xs.length → n < ys.length → xs.getD n 0 ≠ ys.getD n 0

set_option maxRecDepth 100000 in
set_option maxHeartbeats 1000000 in
theorem common_loop (xs ys : List Nat) (a b : Option Addr) (ca cb B B' : Nat) (w : World) (h1 : ReadsU B w (.slice a xs.length ca) xs) (h2 : ReadsU B' w (.slice b ys.length cb) ys) (hl : xs.length ≤ 140737488355328) :
    Calls Try.prog 28 #[.slice a xs.length ca, .slice b ys.length cb] w fun e w' => ∃ n : Nat, e = .returned (.int .i64 (n : Int)) ∧ IsCommon xs ys n ∧ ∃ q, w' = w.drewN q := by
  have H1 := hide h1
  have H2 := hide h2
  clear h1 h2
  obtain ⟨n, hn⟩ : ∃ n, n = xs.length := ⟨_, rfl⟩
  obtain ⟨m, hm⟩ : ∃ m, m = ys.length := ⟨_, rfl⟩
  rw [← hn] at H1 hl ⊢
  rw [← hm] at H2 ⊢
  have HN := hide hn
  have HM := hide hm
  clear hn hm
  go_enter Try.func28, Try.ntmps28
  go_wp2_with fail
  go_loopg [5] n (fun gk d ws => ∃ (k q : Nat), gk = n - k ∧ k ≤ n ∧ k ≤ m ∧ Hid (∀ i, i < k → xs.getD i 0 = ys.getD i 0) ∧ d = .int .i64 (k : Int) ∧ ws = w.drewN q)
  case atStart => exact ⟨0, 0, by omega, by omega, by omega, hide fun i h => by omega, rfl, rfl⟩
  case round =>
    obtain ⟨k, q, rfl, hk, hkm, hgood, rfl, rfl⟩ := hrel
    have HEND : Hid ((k < n → k < m → xs.getD k 0 ≠ ys.getD k 0) → IsCommon xs ys k) := hide fun h => ⟨by rw [← unhide HN]; exact hk, by rw [← unhide HM]; exact hkm, unhide hgood, by rw [← unhide HN, ← unhide HM]; exact h⟩
    by_cases hlt : k < n
    · have hki : (k : Int) < (n : Int) := by omega
      by_cases hltm : k < m
      · have hkj : (k : Int) < (m : Int) := by omega
        obtain ⟨a', c', e, _, hs⟩ := unhide H1
        injection e with e1 e2 e3
        subst e1 e3
        clear e2
        obtain ⟨b1, off1, rfl, _, hcell1⟩ := hs (by rw [← unhide HN]; omega)
        obtain ⟨a', c', e, _, hs2⟩ := unhide H2
        injection e with e1 e2 e3
        subst e1 e3
        clear e2
        obtain ⟨b2, off2, rfl, _, hcell2⟩ := hs2 (by rw [← unhide HM]; omega)
        have k1 := hcell1 k (by rw [← unhide HN]; exact hlt)
        have k2 := hcell2 k (by rw [← unhide HM]; exact hltm)
        obtain ⟨x, hx⟩ : ∃ x, x = xs.getD k 0 := ⟨_, rfl⟩
        obtain ⟨y, hy⟩ : ∃ y, y = ys.getD k 0 := ⟨_, rfl⟩
        rw [← hx] at k1 HEND
        rw [← hy] at k2 HEND
        by_cases hxy : x = y
        · have HG : Hid (∀ i, i < k + 1 → xs.getD i 0 = ys.getD i 0) := hide fun i hi => by
            by_cases e : i = k
            · rw [e, ← hx, ← hy]; exact hxy
            · exact unhide hgood i (by omega)
          have e1 : ((x : Int) == (y : Int)) = true := by simp [hxy]
          have e1' : (x == y) = true := by simp [hxy]
          clear hcell1 hcell2 hx hy hgood hs hs2 hxy HEND
          go_wp2_with fail
          go_quiet (fail)
          go_wp2_with fail
          go_roundg (n - (k + 1))
          case measure => omega
          case rel => exact ⟨k + 1, q + nq, rfl, by omega, by omega, HG, by go_num, by first | rfl | (rw [World.drewN_drewN])⟩
        · have e1 : ((x : Int) == (y : Int)) = false := by simp; omega
          have e1' : (x == y) = false := by simp [hxy]
          have HE := hide (unhide HEND fun _ _ => hxy)
          clear hcell1 hcell2 hx hy hgood hs hs2 hxy HEND
          go_wp2_with fail
          go_quiet (fail)
          go_wp2_with fail
          go_ret
          exact ⟨k, rfl, unhide HE, q + nq, by first | rfl | (rw [World.drewN_drewN])⟩
      · have hkj : ¬ (k : Int) < (m : Int) := by omega
        have HE := hide (unhide HEND fun _ h => by omega)
        clear HEND hgood
        go_wp2_with fail
        go_quiet (fail)
        go_wp2_with fail
        go_ret
        exact ⟨k, rfl, unhide HE, q + nq, by first | rfl | (rw [World.drewN_drewN])⟩
    · have hki : ¬ (k : Int) < (n : Int) := by omega
      have HE := hide (unhide HEND fun h => by omega)
      clear HEND hgood
      go_wp2_with fail
      go_quiet (fail)
      go_wp2_with fail
      go_ret
      exact ⟨k, rfl, unhide HE, q + nq, by first | rfl | (rw [World.drewN_drewN])⟩

theorem common_ok (xs ys : List Nat) (v u : Value) (B B' : Nat) (w : World) (h1 : ReadsU B w v xs) (h2 : ReadsU B' w u ys) (hl : xs.length ≤ 140737488355328) :
    Calls Try.prog 28 #[v, u] w fun e w' => ∃ n : Nat, e = .returned (.int .i64 (n : Int)) ∧ IsCommon xs ys n ∧ ∃ q, w' = w.drewN q := by
  obtain ⟨a, ca, rfl, hs1⟩ := id h1
  obtain ⟨b, cb, rfl, hs2⟩ := id h2
  exact common_loop xs ys a b ca cb B B' w h1 h2 hl

end Go.Proofs.Ytabnfnejlffioaa
