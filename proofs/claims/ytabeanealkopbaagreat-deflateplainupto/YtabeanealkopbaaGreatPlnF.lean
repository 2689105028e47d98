/- Texts of one proof, one behind the other: Dp1, Pk, Lp, Arg8, PlainFrame. -/
import Derived.Test.YtabeanealkopbaaGreatPlnE
import Derived.ProofKit
import Derived.OpenShut
import Derived.ChangeOld
import Derived.SizedLaws
import Derived.JoinedCond
import Derived.Lib.SmallJoins

section
namespace Go.Proofs.YtabeanealkopbaaGreat.W4
open Go.RowKit Mth Infl Defl
set_option maxRecDepth 100000
set_option linter.unusedVariables false

theorem slice_from (b off e c fr : Nat) (h : fr < e) (h2 : e ≤ c) (h3 : c ≤ 9223372036854775807) (x : World) : (Instr.slice 22 (.slice (some ⟨b, off, none⟩) e c) (some (.int .i64 (fr : Int))) none none).run Tryz.prog x = .ok (.slice (some ⟨b, off + fr, none⟩) (e - fr) (c - fr)) x := by
  have e1 : (fr : Int) < (e : Int) := by omega
  have e2 : (fr : Int) ≤ (e : Int) := by omega
  have e3 : (e : Int) ≤ (c : Int) := by omega
  have e4 : ¬ c = fr := by omega
  go_simp

theorem slice_zero (a : Option Addr) (c : Nat) (x : World) : (Instr.slice 22 (.slice a 0 c) (some (.int .i64 0)) none none).run Tryz.prog x = .ok (.slice a 0 c) x := by
  go_simp

/-- a text in memory -/
def TextAt (w : World) (a : Option Addr) (c : Nat) (zs : List Nat) : Prop := (a = none ∧ c = 0 ∧ zs = []) ∨ ∃ ad, a = some ad ∧ ∀ (j : Nat) u, (zs.map bv)[j]? = some u → w.cell? (ad.add j) = some u

theorem TextAt.spot {w : World} {a : Option Addr} {c : Nat} {zs : List Nat} (h : TextAt w a c zs) (h0 : 0 < zs.length) : ∃ b off, a = some ⟨b, off, none⟩ ∧ b < w.heap.size ∧ ∀ j, j < zs.length → w.cell? ⟨b, off + j, none⟩ = some (bv (zs.getD j 0)) := by
  rcases h with ⟨_, _, rfl⟩ | ⟨ad, rfl, hc⟩
  · simp at h0
  · have h1 := hc 0 (bv zs[0]) (by simp [h0])
    have hsp : ad.spot = none := by
      cases hs : ad.spot with
      | none => rfl
      | some x =>
        exfalso
        rw [show ad.add 0 = ad by simp [Addr.add]] at h1
        unfold World.cell? at h1
        split at h1
        · rw [hs] at h1; simp at h1
        · cases h1
    obtain ⟨b, off, sp⟩ := ad
    simp only at hsp
    subst hsp
    refine ⟨b, off, rfl, ?_, fun j hj => ?_⟩
    · have := cell_lt h1
      rwa [add_block] at this
    · have h2 := hc j (bv zs[j]) (by simp [hj])
      have ea : (⟨b, off, none⟩ : Addr).add j = ⟨b, off + j, none⟩ := by by_cases hq : j = 0 <;> simp [Addr.add, hq]
      rw [ea] at h2
      rw [h2]
      simp [hj]

theorem ownB_one (zs : List Nat) (k : Nat) (tk : Nat → Nat → List T) (pl : List T → List Nat × List Nat × List Nat) (fr p : Nat) : ownB zs k 1 tk pl fr p = storedB (piece zs k fr) (lastOf zs k fr) p := by
  unfold ownB pick
  rw [if_pos rfl]

theorem piece_length (zs : List Nat) (k fr : Nat) : (piece zs k fr).length = ende zs k fr - fr := by
  unfold piece
  rw [List.length_drop, List.length_take]
  have : ende zs k fr ≤ zs.length := by unfold ende; omega
  rw [Nat.min_eq_left this]

theorem piece_get (zs : List Nat) (k fr j : Nat) (h : j < (piece zs k fr).length) : (piece zs k fr)[j]? = some (zs.getD (fr + j) 0) := by
  have h2 := h
  rw [piece_length] at h2
  have h3 : ende zs k fr ≤ zs.length := by unfold ende; omega
  unfold piece
  rw [List.getElem?_drop, List.getElem?_take, if_pos (by omega), List.getElem?_eq_getElem (by omega)]
  simp [List.getD_eq_getElem?_getD, show fr + j < zs.length by omega]

/-- what is read of a text's piece, where a packing stands -/
theorem piece_text {w x : World} {kind pp pb gw c1 c2 lo hi : Nat} {v0 : Value} {zs : List Nat} {a : Option Addr} {c k fr : Nat} (ht : TextAt w a c zs) (hc : zs.length ≤ c) (hcM : c ≤ 9223372036854775807) (hk : 1 ≤ k) (he : Env w x kind pp pb gw c1 c2 lo hi v0) (hfr : fr < zs.length ∨ fr = 0) :
    ∃ pa pc, (∀ y, (Instr.slice 22 (.slice a (ende zs k fr) c) (some (.int .i64 (fr : Int))) none none).run Tryz.prog y = .ok (.slice pa (piece zs k fr).length pc) y) ∧
      ((pa = none ∧ pc = 0 ∧ piece zs k fr = []) ∨ ∃ ad, pa = some ad ∧ (piece zs k fr = [] ∨ Safe x v0 pb ad.block) ∧ ∀ (j : Nat) u, ((piece zs k fr).map bv)[j]? = some u → x.cell? (ad.add j) = some u) := by
  have hpl := piece_length zs k fr
  rcases Nat.eq_zero_or_pos zs.length with h0 | h0
  · have h1 : zs = [] := List.length_eq_zero_iff.1 h0
    obtain rfl : fr = 0 := by omega
    have hen : ende zs k 0 = 0 := by unfold ende; omega
    have hp0 : piece zs k 0 = [] := List.length_eq_zero_iff.1 (by rw [hpl, hen])
    rw [hen, hp0]
    refine ⟨a, c, fun y => slice_zero a c y, ?_⟩
    rcases ht with ⟨q1, q2, _⟩ | ⟨ad, q1, _⟩
    · exact .inl ⟨q1, q2, rfl⟩
    · exact .inr ⟨ad, q1, .inl rfl, fun j u hj => by simp at hj⟩
  · obtain ⟨b, off, rfl, hb, hcell⟩ := ht.spot h0
    have hfe : fr < ende zs k fr := by unfold ende; omega
    have hec : ende zs k fr ≤ zs.length := by unfold ende; omega
    refine ⟨some ⟨b, off + fr, none⟩, c - fr, fun y => by rw [hpl]; exact slice_from b off _ c fr hfe (by omega) hcM y, .inr ⟨_, rfl, .inr ⟨Nat.lt_of_lt_of_le hb he.bel.size, by show b ≠ pb; have := he.wpb; omega, fun e => by have := he.row b e; omega⟩, fun j u hj => ?_⟩⟩
    have hjl : j < (piece zs k fr).length := by
      rcases Nat.lt_or_ge j (piece zs k fr).length with h | h
      · exact h
      · rw [List.getElem?_eq_none (by simpa using h)] at hj; cases hj
    rw [List.getElem?_map, piece_get zs k fr j hjl] at hj
    simp only [Option.map_some, Option.some.injEq] at hj
    have ea : (⟨b, off + fr, none⟩ : Addr).add j = ⟨b, off + (fr + j), none⟩ := by by_cases hq : j = 0 <;> simp [Addr.add, hq, Nat.add_assoc]
    rw [ea, ← hj]
    exact cell_stays he.bel (hcell (fr + j) (by omega))

theorem putIs_one (zs : List Nat) (a : Option Addr) (c k : Nat) (tk : Nat → Nat → List T) (pl : List T → List Nat × List Nat × List Nat) (w : World) (ht : TextAt w a c zs) (hz : ∀ z ∈ zs, z < 256) (hc : zs.length ≤ c) (hcM : c ≤ 9223372036854775807) (hk1 : 1 ≤ k) (hk2 : k ≤ 65535) : PutIs 1 zs k tk pl a c w := by
  intro x v0 m f L pp pb gw c1 c2 lo hi fr e last he hw hf hL hen hlast hfr
  obtain ⟨pa, pc, h1, h2⟩ := piece_text (k := k) ht hc hcM hk1 he hfr
  subst hen hlast
  have hll : lastOf zs k fr = (decide (zs.length ≤ fr + k)).toNat := by unfold lastOf; by_cases h : zs.length ≤ fr + k <;> simp [h]
  rw [ownB_one, hll]
  exact put_stored pp pb gw c1 c2 fr _ a c pa pc (piece zs k fr) _ x v0 m f L he.pack hw hf he.spp he.sgw h1 h2 (fun z hz' => hz z (List.mem_of_mem_take (List.mem_of_mem_drop hz'))) (by rw [piece_length]; unfold ende; omega) hL

/-- Deflate of the kind that stores tells the pieces, each behind five bytes -/
theorem deflate_one (zs : List Nat) (a : Option Addr) (c k : Nat) (w : World) (ht : TextAt w a c zs) (hz : ∀ z ∈ zs, z < 256) (hc : zs.length ≤ c) (hcM : c ≤ 9223372036854775807) (hk1 : 1 ≤ k) (hk2 : k ≤ 65535) (hn : zs.length ≤ 10000000) (P : List Nat) (hP : P = pack (pieces zs k (zs.length + 1) 0)) :
    Calls Tryz.prog 6 #[.slice a zs.length c, .int .i64 (k : Int), .int .i64 1] w fun e w' => ∃ g, e = .returned (.tuple #[.slice (some ⟨g, 0, none⟩) P.length P.length, .int .i64 0]) ∧ w'.heap[g]? = some (.cells (P.map bv).toArray 5 (0, 0)) ∧ w.heap.size ≤ g ∧ Below w.heap.size w w' := by
  have hf : zs.length < (zs.length + 1) * k := Nat.lt_of_lt_of_le (Nat.lt_succ_self _) (Nat.le_mul_of_pos_right _ (by omega))
  refine (deflate_gen 1 zs a c k (fun _ _ => []) (fun _ => ([], [], [])) w hk1 hk2 (by omega) hn hc (fun h0 => by obtain ⟨b, off, e, _⟩ := ht.spot h0; exact ⟨b, off, e⟩) (putIs_one zs a c k _ _ w ht hz hc hcM hk1 hk2) ?_).mono ?_
  · intro fr p hfr
    rw [ownB_one, storedB_len, piece_length]
    unfold storedBits
    have : ende zs k fr - fr ≤ k := by unfold ende; omega
    omega
  · rintro e w' ⟨g, L, hL, rfl, h1, h2, h3⟩
    have hb := plain_bytes (tk := fun _ _ => []) (pl := fun _ => ([], [], [])) hz hk1 hk2 (zs.length + 1) hf L hL
    have hl : (L.length + 7) / 8 = P.length := by rw [hP, ← hb, pk_length]
    rw [hl] at h1 hb ⊢
    rw [hb, ← hP] at h1
    exact ⟨g, rfl, h1, h2, h3⟩

end Go.Proofs.YtabeanealkopbaaGreat.W4
end

section
namespace Go.Proofs.YtabeanealkopbaaGreat.Defl
open Infl
set_option linter.unusedVariables false

theorem piece_len' (zs : List Nat) (k a : Nat) : (piece zs k a).length = min k (zs.length - a) := by
  unfold piece ende
  rw [List.length_drop, List.length_take]
  omega

theorem blk_length (l : Nat) (c : List Nat) : (blk l c).length = 5 + c.length := by simp [blk]; omega

theorem pack_at (zs : List Nat) (k : Nat) (hk : 1 ≤ k) : ∀ (i f a : Nat), zs.length ≤ a + f → 0 < f → (i = 0 ∨ a + i * k < zs.length) →
    ∃ pre post, pack (pieces zs k f a) = pre ++ (blk (lastOf zs k (a + i * k)) (piece zs k (a + i * k)) ++ post) ∧ pre.length = i * (k + 5) ∧ (lastOf zs k (a + i * k) = 1 → post = [])
  | 0, 0, a, _, h, _ => by omega
  | 0, f + 1, a, hf, _, _ => by
    have ea : a + 0 * k = a := by omega
    rw [ea]
    unfold pieces
    by_cases h : zs.length ≤ a + k
    · rw [if_pos h]
      refine ⟨[], [], ?_, by simp, fun _ => rfl⟩
      have : lastOf zs k a = 1 := by unfold lastOf; rw [if_pos h]
      rw [this]
      simp [pack]
    · rw [if_neg h]
      have hl : lastOf zs k a = 0 := by unfold lastOf; rw [if_neg h]
      obtain ⟨f', rfl⟩ : ∃ f', f = f' + 1 := ⟨f - 1, by omega⟩
      cases hp : pieces zs k (f' + 1) (a + k) with
      | nil => exact absurd hp (pieces_ne zs k f' (a + k))
      | cons d cs =>
        refine ⟨[], pack (d :: cs), ?_, by simp, fun h => by rw [hl] at h; cases h⟩
        rw [hl]
        simp [pack]
  | i + 1, 0, a, _, h, _ => by omega
  | i + 1, f + 1, a, hf, _, h => by
    have h1 : a + (i + 1) * k < zs.length := by rcases h with h | h; cases h; exact h
    rw [Nat.add_mul, Nat.one_mul] at h1
    have h2 : ¬ zs.length ≤ a + k := by omega
    obtain ⟨f', rfl⟩ : ∃ f', f = f' + 1 := ⟨f - 1, by omega⟩
    obtain ⟨pre, post, e1, e2, e3⟩ := pack_at zs k hk i (f' + 1) (a + k) (by omega) (by omega) (.inr (by omega))
    rw [show a + k + i * k = a + (i + 1) * k by rw [Nat.add_mul, Nat.one_mul]; omega] at e1 e3
    rw [pieces, if_neg h2]
    cases hp : pieces zs k (f' + 1) (a + k) with
    | nil => exact absurd hp (pieces_ne zs k f' (a + k))
    | cons d cs =>
      rw [hp] at e1
      refine ⟨blk 0 (piece zs k a) ++ pre, post, ?_, ?_, e3⟩
      · rw [pack, e1, List.append_assoc]
      · rw [List.length_append, blk_length, piece_len', e2, Nat.add_mul, Nat.one_mul]
        omega

/-- how many pieces there are -/
def nP (n k : Nat) : Nat := max 1 ((n + k - 1) / k)

theorem nP_lt {n k i : Nat} (hk : 1 ≤ k) (hi : i < nP n k) : i = 0 ∨ i * k < n := by
  unfold nP at hi
  rcases Nat.eq_zero_or_pos i with h | h
  · exact .inl h
  · right
    have : i + 1 ≤ (n + k - 1) / k := by omega
    rw [Nat.le_div_iff_mul_le (by omega)] at this
    rw [Nat.add_mul, Nat.one_mul] at this
    omega

theorem nP_last {n k i : Nat} (hk : 1 ≤ k) (hi : i < nP n k) : n ≤ i * k + k ↔ i + 1 = nP n k := by
  unfold nP at *
  have key : n ≤ i * k + k ↔ (n + k - 1) / k ≤ i + 1 := by
    have h1 : (n + k - 1) / k < i + 2 ↔ n + k - 1 < (i + 2) * k := Nat.div_lt_iff_lt_mul (by omega)
    rw [Nat.add_mul] at h1
    constructor
    · intro h; have := h1.2 (by omega); omega
    · intro h; have := h1.1 (by omega); omega
  rw [key]
  omega

/-- the i-th piece: its head, its bytes -/
theorem plain_at (zs : List Nat) (k : Nat) (hk : 1 ≤ k) (hk2 : k ≤ 65535) (P : List Nat) (hP : P = pack (pieces zs k (zs.length + 1) 0)) (i : Nat) (hi : i < nP zs.length k) :
    i * (k + 5) + 5 + min k (zs.length - i * k) ≤ P.length ∧ (i + 1 = nP zs.length k → i * (k + 5) + 5 + min k (zs.length - i * k) = P.length) ∧
    (∀ j, j < min k (zs.length - i * k) → P.getD (i * (k + 5) + 5 + j) 0 = zs.getD (i * k + j) 0) ∧
    P.getD (i * (k + 5) + 1) 0 + 256 * P.getD (i * (k + 5) + 2) 0 = min k (zs.length - i * k) ∧ (P.getD (i * (k + 5)) 0 = 1 ↔ i + 1 = nP zs.length k) := by
  obtain ⟨pre, post, e1, e2, e3⟩ := pack_at zs k hk i (zs.length + 1) 0 (by omega) (by omega) (by rcases nP_lt hk hi with h | h; exact .inl h; exact .inr (by omega))
  rw [Nat.zero_add] at e1 e3
  rw [← hP] at e1
  have hl := piece_len' zs k (i * k)
  have hlast : lastOf zs k (i * k) = 1 ↔ i + 1 = nP zs.length k := by
    rw [← nP_last hk hi]
    unfold lastOf
    split <;> simp_all
  have hg : ∀ j, j < 5 + min k (zs.length - i * k) → P.getD (i * (k + 5) + j) 0 = (blk (lastOf zs k (i * k)) (piece zs k (i * k))).getD j 0 := fun j hj => by
    rw [e1, ← e2]
    simp only [List.getD_eq_getElem?_getD]
    rw [List.getElem?_append_right (by omega), Nat.add_sub_cancel_left, List.getElem?_append_left (by rw [blk_length, hl]; exact hj)]
  have hPl : P.length = i * (k + 5) + (5 + min k (zs.length - i * k)) + post.length := by
    rw [e1, List.length_append, List.length_append, blk_length, hl, e2]; omega
  refine ⟨by omega, fun h => ?_, fun j hj => ?_, ?_, ?_⟩
  · have := e3 (hlast.2 h)
    rw [this] at hPl
    simp at hPl
    omega
  · rw [Nat.add_assoc (i * (k + 5)) 5 j, hg (5 + j) (by omega)]
    unfold blk
    simp only [List.getD_eq_getElem?_getD]
    rw [List.getElem?_append_right (by simp)]
    simp only [List.length_cons, List.length_nil]
    rw [show 5 + j - (0 + 1 + 1 + 1 + 1 + 1) = j by omega]
    unfold piece
    rw [List.getElem?_drop, List.getElem?_take, if_pos (by unfold ende; omega)]
  · rw [hg 1 (by omega), hg 2 (by omega)]
    unfold blk
    rw [hl]
    simp
    omega
  · have h0 := hg 0 (by omega)
    rw [Nat.add_zero] at h0
    rw [h0, ← hlast]
    unfold blk
    simp

end Go.Proofs.YtabeanealkopbaaGreat.Defl
end

section
namespace Go.Proofs.YtabeanealkopbaaGreat.W4
open Go.RowKit Mth Infl Defl
set_option maxRecDepth 100000
set_option linter.unusedVariables false
attribute [local go_sem ↓] Go.wp_at_zero Go.wp_at_succ

theorem slice_two (b off e c lo d : Nat) (h : lo < c) (h1 : lo + d ≤ c) (h3 : c ≤ 9223372036854775807) (x : World) : (Instr.slice 22 (.slice (some ⟨b, off, none⟩) e c) (some (.int .i64 (lo : Int))) (some (.int .i64 ((lo : Int) + (d : Int)))) none).run Tryz.prog x = .ok (.slice (some ⟨b, off + lo, none⟩) d (c - lo)) x := by
  obtain ⟨hi, hhi⟩ : ∃ hi, hi = lo + d := ⟨_, rfl⟩
  have e0 : (lo : Int) + (d : Int) = (hi : Int) := by omega
  have e1 : (lo : Int) ≤ (hi : Int) := by omega
  have e2 : (hi : Int) ≤ (c : Int) := by omega
  have e4 : ¬ c = lo := by omega
  have e5 : hi - lo = d := by omega
  clear hhi
  rw [e0]
  go_simp
  try rw [e5]

theorem slice_end (a : Option Addr) (e c : Nat) (h3 : c ≤ 9223372036854775807) (x : World) : (Instr.slice 22 (.slice a e c) (some (.int .i64 (c : Int))) (some (.int .i64 ((c : Int) + 0))) none).run Tryz.prog x = .ok (.slice a 0 0) x := by
  rw [Int.add_zero]
  go_simp

theorem slice_nil (a : Option Addr) (c : Nat) (x : World) : (Instr.slice 22 (.slice a 0 c) (some (.int .i64 ((0 : Nat) : Int))) (some (.int .i64 (((0 : Nat) : Int) + ((0 : Nat) : Int)))) none).run Tryz.prog x = .ok (.slice a 0 c) x := by
  go_simp

theorem text_part {w : World} {a : Option Addr} {c : Nat} {zs : List Nat} (h : TextAt w a c zs) (hc : zs.length ≤ c) (hcM : c ≤ 9223372036854775807) (lo d : Nat) (hl : lo + d ≤ zs.length) :
    ∃ xa xc, (∀ y, (Instr.slice 22 (.slice a zs.length c) (some (.int .i64 (lo : Int))) (some (.int .i64 ((lo : Int) + (d : Int)))) none).run Tryz.prog y = .ok (.slice xa d xc) y) ∧ YtabeanealkopbaaGreat.Reads w (.slice xa d xc) ((zs.drop lo).take d) := by
  have hlen : ((zs.drop lo).take d).length = d := by rw [List.length_take, List.length_drop]; omega
  rcases Nat.lt_or_ge lo c with hlt | hge
  · rcases Nat.eq_zero_or_pos zs.length with h0 | h0
    · have hz : zs = [] := List.length_eq_zero_iff.1 h0
      subst hz
      obtain rfl : lo = 0 := by simp at hl; omega
      obtain rfl : d = 0 := by simp at hl; omega
      exact ⟨a, c, fun y => slice_nil a c y, a, c, rfl, fun hp => by simp at hp⟩
    · obtain ⟨b, off, rfl, hb, hcell⟩ := h.spot h0
      refine ⟨_, _, fun y => slice_two b off _ c lo d hlt (by omega) hcM y, _, _, by rw [hlen], fun hp => ⟨_, rfl, fun j u hj => ?_⟩⟩
      have hjd : j < d := by
        rcases Nat.lt_or_ge j d with h | h
        · exact h
        · rw [List.getElem?_eq_none (by rw [List.length_map, hlen]; exact h)] at hj; cases hj
      rw [List.getElem?_map, List.getElem?_take, if_pos hjd, List.getElem?_drop, List.getElem?_eq_getElem (by omega)] at hj
      simp only [Option.map_some, Option.some.injEq] at hj
      have ea : (⟨b, off + lo, none⟩ : Addr).add j = ⟨b, off + (lo + j), none⟩ := by by_cases hq : j = 0 <;> simp [Addr.add, hq, Nat.add_assoc]
      rw [ea, hcell (lo + j) (by omega), ← hj]
      simp [List.getD_eq_getElem?_getD, show lo + j < zs.length by omega]
      rfl
  · obtain rfl : lo = c := by omega
    obtain rfl : d = 0 := by omega
    refine ⟨a, 0, fun y => slice_end a _ lo hcM y, a, 0, by rw [hlen], fun hp => by rw [hlen] at hp; omega⟩

/-- a block's size of any number -/
theorem size_of (x : Int) : ∃ (r s : Int) (t K : Nat), x.tmod 65535 = r ∧ r + 65535 = s ∧ 0 ≤ s ∧ s ≤ 131070 ∧ s.tmod 65535 = (t : Int) ∧ 1 + (t : Int) = (K : Int) ∧ 1 ≤ K ∧ K ≤ 65535 := by
  have h1 := Int.tmod_lt_of_pos x (show (0 : Int) < 65535 by omega)
  have h2 := Int.lt_tmod_of_pos x (show (0 : Int) < 65535 by omega)
  have h3 : 0 ≤ x.tmod 65535 + 65535 := by omega
  have h4 := Int.tmod_nonneg 65535 h3
  have h5 := Int.tmod_lt_of_pos (x.tmod 65535 + 65535) (show (0 : Int) < 65535 by omega)
  obtain ⟨t, ht⟩ := Int.eq_ofNat_of_zero_le h4
  exact ⟨_, _, t, t + 1, rfl, rfl, by omega, by omega, ht, by omega, by omega, by omega⟩

set_option maxHeartbeats 4000000 in
theorem plain_walk (zs : List Nat) (a : Option Addr) (c : Nat) (bk : Int) (w : World) (ht : TextAt w a c zs) (hz : ∀ z ∈ zs, z < 256) (hc : zs.length ≤ c) (hcM : c ≤ 9223372036854775807) (hn : zs.length ≤ 1048576) (hbk : (Lit.int .i64 bk).wf = true) :
    Calls Tryz.prog 5 #[.slice a zs.length c, .int .i64 bk] w fun e w' => e = .returned (.bool true) ∧ Below w.heap.size w w' := by
  obtain ⟨r, s, t, K, hr1, hr2, hs1, hs2, ht1, hK, hK1, hK2⟩ := size_of bk
  obtain ⟨P, hP⟩ : ∃ P, P = pack (pieces zs K (zs.length + 1) 0) := ⟨_, rfl⟩
  have HD := hide (deflate_one zs a c K w ht hz hc hcM hK1 hK2 (by omega) P hP)
  have HAT := hide (plain_at zs K hK1 hK2 P hP)
  obtain ⟨n, hN⟩ : ∃ n, n = zs.length := ⟨_, rfl⟩
  have HN := hide hN
  rw [← hN] at hn hc HD HAT ⊢
  have HT := hide ht
  have HZ := hide hz
  have HPP := hide hP
  clear ht hz hN hP
  obtain ⟨D, hD⟩ : ∃ D, D = (n + K - 1) / K := ⟨_, rfl⟩
  obtain ⟨NP, hNP⟩ : ∃ NP, NP = nP n K := ⟨_, rfl⟩
  have d1 : ((n : Int) + (K : Int) - 1).tdiv (K : Int) = (D : Int) := by
    rw [show (n : Int) + (K : Int) - 1 = ((n + K - 1 : Nat) : Int) by omega, hD]
    rfl
  have d2 : ∀ w, (Builtin.max_ #[3, 3] 3 #[.int .i64 1, .int .i64 (D : Int)]).run Tryz.prog w = .ok (.int .i64 (NP : Int)) w := fun w => by
    rw [run_max_int2]
    congr 2
    rw [hNP]
    unfold nP
    rw [← hD]
    split <;> omega
  have d3 : NP ≤ n + 1 ∧ 1 ≤ NP ∧ D ≤ n := by
    rw [hNP, hD]; unfold nP
    have : (n + K - 1) / K ≤ n := by
      rcases Nat.eq_zero_or_pos n with h | h
      · subst h; rw [Nat.zero_add, Nat.div_eq_of_lt (by omega)]; exact Nat.le_refl _
      · rw [Nat.div_le_iff_le_mul (by omega)]
        have := Nat.le_mul_of_pos_right n (show 0 < K by omega)
        omega
    omega
  obtain ⟨M, hM⟩ : ∃ M, M = P.length := ⟨_, rfl⟩
  have HM := hide hM
  rw [← hM] at HD HAT
  rw [← hNP] at HAT
  have d4 : (M : Int) = (n : Int) + 5 * (NP : Int) := by
    obtain ⟨i, hi⟩ : ∃ i, NP = i + 1 := ⟨NP - 1, by omega⟩
    have h := (unhide HAT i (by omega)).2.1 (by omega)
    have h1 := nP_lt (n := n) hK1 (i := i) (by rw [← hNP]; omega)
    have h2 := (nP_last (n := n) hK1 (i := i) (by rw [← hNP]; omega)).2 (by rw [← hNP]; omega)
    rw [Nat.mul_add] at h
    have h3 : i * K ≤ n := by
      rcases h1 with h1 | h1
      · rw [h1, Nat.zero_mul]; exact Nat.zero_le _
      · omega
    generalize i * K = q at h h2 h3
    omega
  have d6 : (D : Int) ≤ 2000000 := by omega
  have d7 : (NP : Int) ≤ 2000000 := by omega
  have d8 : IntKind.i64.wrap (D : Int) = (D : Int) := IntWalk.i64_in _ (by omega)
  have HNP := hide hNP
  clear hD hNP hM
  go_enter Tryz.func5, Tryz.ntmps5
  go_wp2_with fail
  refine (unhide HD).mono ?_
  rintro e w1 ⟨g, rfl, g1, g2, g3⟩
  have HG1 := hide g1
  have HB1 := hide g3
  clear g1 g3 HD
  have d5 : ((M : Int) != (n : Int) + 5 * (NP : Int)) = false := by rw [← d4]; simp
  have HD4 := hide d4
  clear d4
  go_wp2_with fail
  have HX : Hid (TextAt w1 (some ⟨g, 0, none⟩) M P) := hide (.inr ⟨_, rfl, fun j u hj => by
    have ea : (⟨g, 0, none⟩ : Addr).add j = ⟨g, j, none⟩ := by by_cases hq : j = 0 <;> simp [Addr.add, hq]
    rw [ea]
    simp only [World.cell?, unhide HG1]
    simpa using hj⟩)
  have HTW : Hid (TextAt w1 a c zs) := hide (by
    rcases unhide HT with h | ⟨ad, h1, h2⟩
    · exact .inl h
    · exact .inr ⟨ad, h1, fun j u hj => cell_stays (unhide HB1) (h2 j u hj)⟩)
  have HPS : Hid (∀ z ∈ P, z < 256) := hide (by
    rw [show P = pack (pieces zs K (zs.length + 1) 0) from unhide HPP]
    exact pack_small _ (pieces_ok (unhide HZ) hK2 _ 0 (Nat.zero_le _)))
  have hM7 : M ≤ 100000000 := by have := unhide HD4; omega
  clear d1 d2 d5 d6 d8 hr1 hr2 ht1 hK hs1 hs2 hbk HT
  go_loopg [8, 9] NP (fun gk av iv' ws => ∃ (i A q : Nat), gk = NP - i ∧ i ≤ NP ∧ av = .int .i64 (A : Int) ∧ iv' = .int .i64 (i : Int) ∧ ws = w1.drewN q ∧ Hid ((i < NP → A = i * (K + 5)) ∧ (i = NP → A = M)))
  case atStart => exact ⟨0, 0, 0, rfl, by omega, rfl, rfl, rfl, hide ⟨fun _ => by omega, fun h => by omega⟩⟩
  case round =>
    obtain ⟨i, A, q, rfl, hiN, rfl, rfl, rfl, hA⟩ := hrel
    by_cases hlt : i < NP
    · have e1 : (i : Int) < (NP : Int) := by omega
      obtain ⟨f1, f2, f3, f4, f5⟩ := unhide HAT i hlt
      have hAe := (unhide hA).1 hlt
      rw [← hAe] at f1 f2 f3 f4 f5
      obtain ⟨B, hB⟩ : ∃ B, B = i * K := ⟨_, rfl⟩
      rw [← hB] at f1 f2 f3 f4
      obtain ⟨ki, hki⟩ : ∃ ki, ki = min K (n - B) := ⟨_, rfl⟩
      rw [← hki] at f1 f2 f3 f4
      have hBn : B + ki ≤ n ∧ B ≤ n := by
        have h1 := nP_lt (n := n) hK1 (i := i) (by rw [← unhide HNP]; exact hlt)
        have h2 : B ≤ n := by
          rw [hB]
          rcases h1 with h1 | h1
          · rw [h1, Nat.zero_mul]; exact Nat.zero_le _
          · omega
        omega
      have u1 : (i : Int) * (K : Int) = (B : Int) := by rw [hB]; simp
      have u0 : ∀ w, (Builtin.min_ #[3, 3] 3 #[.int .i64 (K : Int), .int .i64 ((n : Int) - (B : Int))]).run Tryz.prog w = .ok (.int .i64 (ki : Int)) w := fun w => by
        rw [run_min_int2]
        congr 2
        rw [hki]
        split <;> omega
      obtain ⟨A5, hA5⟩ : ∃ A5, A5 = A + 5 := ⟨_, rfl⟩
      obtain ⟨A6, hA6⟩ : ∃ A6, A6 = A5 + ki := ⟨_, rfl⟩
      obtain ⟨B6, hB6⟩ : ∃ B6, B6 = B + ki := ⟨_, rfl⟩
      have v1 : (A : Int) + 5 = (A5 : Int) := by omega
      have v2 : (A5 : Int) + (ki : Int) = (A6 : Int) := by omega
      have v3 : (B : Int) + (ki : Int) = (B6 : Int) := by omega
      obtain ⟨xa, xc, x1, x2⟩ := text_part (unhide HX) (by rw [← unhide HM]; exact Nat.le_refl _) (by omega) A5 ki (by rw [← unhide HM]; omega)
      obtain ⟨ya, yc, y1, y2⟩ := text_part (unhide HTW) (by rw [← unhide HN]; exact hc) hcM B ki (by rw [← unhide HN]; omega)
      rw [← unhide HM, v2] at x1
      rw [← unhide HN, v3] at y1
      have hsame : (P.drop A5).take ki = (zs.drop B).take ki := by
        refine List.ext_getElem? fun j => ?_
        rw [List.getElem?_take, List.getElem?_take]
        by_cases hj : j < ki
        · rw [if_pos hj, if_pos hj, List.getElem?_drop, List.getElem?_drop]
          have h := f3 j hj
          rw [← hA5] at h
          rw [List.getElem?_eq_getElem (show A5 + j < P.length by rw [← unhide HM]; omega), List.getElem?_eq_getElem (show B + j < zs.length by rw [← unhide HN]; omega)]
          simp only [List.getD_eq_getElem?_getD] at h
          rw [List.getElem?_eq_getElem (show A5 + j < P.length by rw [← unhide HM]; omega), List.getElem?_eq_getElem (show B + j < zs.length by rw [← unhide HN]; omega)] at h
          simpa using h
        · rw [if_neg hj, if_neg hj]
      rw [hsame] at x2
      have z1 : ∀ q, (convert 22 9 (.slice xa ki xc)).run Tryz.prog (w1.drewN q) = .ok (.string ⟨(((zs.drop B).take ki).map UInt8.ofNat).toArray⟩) (w1.drewN q) := fun q => YtabeanealkopbaaGreat.conv_reads (w := w1.drewN q) x2 (drop_take_small (unhide HZ) B ki)
      have z2 : ∀ q, (convert 22 9 (.slice ya ki yc)).run Tryz.prog (w1.drewN q) = .ok (.string ⟨(((zs.drop B).take ki).map UInt8.ofNat).toArray⟩) (w1.drewN q) := fun q => YtabeanealkopbaaGreat.conv_reads (w := w1.drewN q) y2 (drop_take_small (unhide HZ) B ki)
      generalize (⟨(((zs.drop B).take ki).map UInt8.ofNat).toArray⟩ : ByteArray) = S at z1 z2
      have cell : ∀ j, j < M → w1.cell? ⟨g, j, none⟩ = some (.int .u8 ((P.getD j 0 : Nat) : Int)) := fun j hj => by
        simp only [World.cell?, unhide HG1]
        have : j < P.length := by rw [← unhide HM]; exact hj
        simp [this, bv]
      obtain ⟨A1, hA1⟩ : ∃ A1, A1 = A + 1 := ⟨_, rfl⟩
      obtain ⟨A2, hA2⟩ : ∃ A2, A2 = A + 2 := ⟨_, rfl⟩
      have v4 : (A : Int) + 1 = (A1 : Int) := by omega
      have v5 : (A : Int) + 2 = (A2 : Int) := by omega
      have k0 := cell A (by omega)
      have k1 := cell A1 (by omega)
      have k2 := cell A2 (by omega)
      rw [← hA1, ← hA2] at f4
      generalize P.getD A 0 = p0 at k0 f5
      generalize P.getD A1 0 = p1 at k1 f4
      generalize P.getD A2 0 = p2 at k2 f4
      have m1 : (A1 : Int) < (M : Int) := by omega
      have m2 : (A2 : Int) < (M : Int) := by omega
      have m0 : (A : Int) < (M : Int) := by omega
      have w1' : (p1 : Int) + 256 * (p2 : Int) = (ki : Int) := by omega
      obtain ⟨bb, w2', w3'⟩ : ∃ bb : Bool, ((p0 : Int) == 1) = bb ∧ ((i : Int) == (NP : Int) - 1) = bb := by
        by_cases h : i + 1 = NP
        · have h1 := f5.2 h
          have h2 : (i : Int) = (NP : Int) - 1 := by omega
          exact ⟨true, by rw [h1]; rfl, by simpa using h2⟩
        · have h1 : ¬ p0 = 1 := fun e => h (f5.1 e)
          have h2 : ¬ (i : Int) = (NP : Int) - 1 := by omega
          exact ⟨false, by simp; omega, by simpa using h2⟩
      have HNX : Hid ((i + 1 < NP → A6 = (i + 1) * (K + 5)) ∧ (i + 1 = NP → A6 = M)) := hide ⟨fun h => by
        have h1 := nP_lt (n := n) hK1 (i := i + 1) (by rw [← unhide HNP]; exact h)
        rw [Nat.add_mul, Nat.one_mul, ← hB] at h1
        rw [Nat.add_mul, Nat.one_mul]
        omega, fun h => by have := f2 h; omega⟩
      have hk3 : ki ≤ 65535 := by omega
      have hA6M : A6 ≤ 100000000 := by omega
      have hB6n : B6 ≤ n := by omega
      clear hA f1 f2 f3 f5 hAe hB hki hA5 hA6 hB6 hA1 hA2 hsame x2 y2 cell HAT
      go_wp2_with fail
      go_quiet (fail)
      go_wp2_with fail
      go_roundg (NP - (i + 1))
      case measure => omega
      case rel => exact ⟨i + 1, A6, q + nq, rfl, by omega, by go_num, by go_num, by simp, HNX⟩
    · obtain rfl : i = NP := by omega
      have hAM := (unhide hA).2 rfl
      subst hAM
      go_wp2_with fail
      go_ret
      exact ⟨rfl, YtabeanealkopbaaGreat.below_drewN (unhide HB1) _⟩

end Go.Proofs.YtabeanealkopbaaGreat.W4
end

section
namespace Go.Proofs.YtabeanealkopbaaGreat.W4
open Go.ChangeShapes Go.WideShapes Go.ChangeAt Go.RowKit Go.Deep Go.Joins
set_option maxRecDepth 100000

theorem own : ownKnob Tryz.prog.godebug = none := by kernel_rfl
theorem laidOut : laidOutB Tryz.prog = true := by kernel_rfl
theorem cells3 : Tryz.prog.cellsOf 3 = 1 := by kernel_rfl
theorem cells5 : Tryz.prog.cellsOf 5 = 1 := by kernel_rfl

theorem bulk_pos {H : Type} (d : DataW H) : 1 ≤ Rows.uptoBulk d := by
  cases d with
  | lit l => cases l <;> simp [Rows.uptoBulk]
  | _ => simp [Rows.uptoBulk]

theorem bulk_len {H : Type} (l : List (DataW H)) : l.length ≤ Rows.uptoBulkAll l := by
  induction l with
  | nil => simp [Rows.uptoBulkAll]
  | cons x r ih => have := bulk_pos x; simp only [Rows.uptoBulkAll, List.length_cons]; omega

theorem bulk_slice {H : Type} (elems spare : List (DataW H)) : elems.length ≤ Rows.uptoBulk (.slice elems spare) := by
  have := bulk_len elems
  simp only [Rows.uptoBulk]; omega

variable {H : Type} {enc : TypeId × Value → H} {W : World}

theorem bytes_of {fuel : Nat} {cs : List Value} {y : DataW H × List MemPlace} (h : DataW.trod enc Tryz.prog W 0 (fun _ => true) true fuel 22 cs = some y) :
    ∃ (a : Option Addr) (cap : Nat) (zs : List Nat), cs = [.slice a zs.length cap] ∧ zs.length ≤ cap ∧ cap ≤ 9223372036854775807 ∧ TextAt W a cap zs ∧ (∀ z ∈ zs, z < 256) ∧ zs.length ≤ Rows.uptoBulk y.1 := by
  rcases open_ints Tryz.underlying22 Tryz.underlying5 cells5 h with ⟨hcs, hy⟩ | ⟨x, l, c, ys, hcs, _, hl, hm, hz, hx, hcell, hwz⟩
  · exact ⟨none, 0, [], hcs, Nat.le_refl _, by omega, .inl ⟨rfl, rfl, rfl⟩, by simp, by simp⟩
  · simp at hz
    have hb : ∀ y ∈ ys, 0 ≤ y ∧ y ≤ 255 := fun y hy => bounds_u8 (hwz y hy)
    have hlen : ((ys.take l).map Int.toNat).length = l := by simp; omega
    refine ⟨some x, c, (ys.take l).map Int.toNat, by rw [hlen]; exact hcs, by rw [hlen]; exact hl, by unfold maxLen at hm; omega, .inr ⟨x, rfl, fun j u hj => ?_⟩, ?_, ?_⟩
    · have hj2 : j < l := by
        have := (List.getElem?_eq_some_iff.1 hj).1
        simp at this; omega
      rw [hcell j (by omega)]
      rw [List.getElem?_map, List.getElem?_map, List.getElem?_take, if_pos hj2, List.getElem?_eq_getElem (by omega)] at hj
      simp [bv] at hj
      rw [← hj]
      have := hb ys[j] (List.getElem_mem _)
      simp [show j < ys.length by omega]
      omega
    · intro z hz'
      obtain ⟨y, hy, rfl⟩ := List.mem_map.1 hz'
      have := hb y (List.mem_of_mem_take hy)
      omega
    · rw [hlen]
      have h1 := bulk_slice (lits .u8 (ys.take l) : List (DataW H)) (lits .u8 (ys.drop l))
      rw [hx]
      refine Nat.le_trans ?_ h1
      simp [lits]; omega


end Go.Proofs.YtabeanealkopbaaGreat.W4
end

section
namespace Go.Proofs.YtabeanealkopbaaGreat.DeflatePlainFrame
open Go.ChangeShapes Go.WideShapes Go.ChangeAt Go.RowKit Go.Deep Go.Joins W4

set_option maxRecDepth 100000 in
theorem contract (H : Type) (enc : TypeId × Value → H) (W : World) (base : Nat) (args : Array Value) (ds gs : List (DataW H)) (before : List MemPlace)
    (hval : ∀ (j : Nat) t v, Tryz.f5.params[j]? = some t → args[j]? = some v → Value.okWide Tryz.prog W .any base t v)
    (hW : DataW.Whole enc Tryz.prog Tryz.f5.params.toList Rows.deflatePlainSpec.vars false W args.toList ds gs before) (hk : Rows.uptoSmall H (ds ++ gs) = true) :
    Calls Tryz.prog 5 args W fun e W' => ∃ v, e = .returned v ∧ Rows.deflatePlainSpec.post enc Tryz.prog Tryz.f5 false true false false W args v W' := by
  have hW' := hW
  obtain ⟨p, q, hA0, hV, rfl, hfz, hnd⟩ := hW
  have hA : DataW.TrodAll enc Tryz.prog W 0 (fun _ => true) true Tryz.f5.params.toList args.toList ds p := hA0
  rw [Tryz.params5] at hA hval
  obtain ⟨v0, vs0, d0, ds0, p0, q0, hargs, rfl, rfl, h0, r0⟩ := trodAll_cons hA
  obtain ⟨v1, vs1, d1, ds1, p1, q1, rfl, rfl, rfl, h1, r1⟩ := trodAll_cons r0
  obtain ⟨rfl, rfl, rfl⟩ := trodAll_nil r1
  obtain rfl : args = #[v0, v1] := by cases args; simp_all
  obtain ⟨rfl, rfl⟩ := trodVars_none hV
  have hbulk : Rows.uptoBulk d0 + Rows.uptoBulk d1 ≤ 1048576 := by
    have := of_decide_eq_true hk
    simp only [List.append_nil, Rows.uptoBulkAll] at this
    omega
  have k0 := h0
  have lt0 : ∀ x ∈ p0, x.block < W.heap.size := by obtain ⟨m, hm⟩ := k0; exact DataW.trod_lt m _ _ _ hm
  obtain ⟨xa0, xl0, xc0, rfl⟩ := okWide_slice Tryz.underlying22 (hval 0 22 v0 rfl rfl)
  obtain ⟨fuel0, hf0⟩ := h0
  obtain ⟨a0, cap0, zs0, e0, hc0, hcm0, hr0, hs0, hy0⟩ := bytes_of hf0
  simp [Value.cells] at e0
  obtain ⟨rfl, rfl, rfl⟩ := e0
  have hn0 : zs0.length ≤ 1048576 := by
    try simp only at hy0
    omega
  have k1 := h1
  obtain ⟨I1, rfl, rfl, _, w1⟩ := open_int Tryz.underlying3 (hval 1 3 v1 rfl rfl) h1
  clear hA0
  refine (plain_walk zs0 _ _ I1 W hr0 hs0 hc0 hcm0 hn0 w1).mono fun e W' ⟨he, bel⟩ => ?_
  subst he
  exact ⟨_, rfl, _, _, _, [], _, [], hW', trodAll_mk1 (shut_bool Tryz.underlying4 _), (trodAll_cons_mk (Below.trod laidOut (by kernel_rfl) (of_decide_eq_true (by kernel_rfl)) k0 bel lt0) (trodAll_cons_mk (shut_int Tryz.underlying3 w1) trodAll_mk0)), rfl, bel.frame _, fun h => by cases h⟩

set_option maxRecDepth 100000 in
theorem lifted (os : Os) (started : os.Started) (H : Type) (enc : TypeId × Value → H) (F : Stop.Interp) :
    ReturnsInHanded {} Tryz.checked os 5 .any ((Rows.OpenSpec.upto Rows.deflatePlainSpec).pre6 enc Tryz.prog Tryz.f5 Rows.deflatePlainUptoRow.domain false) (((Rows.OpenSpec.upto Rows.deflatePlainSpec).at F).post enc Tryz.prog Tryz.f5 false true false false) := by
  refine returnsInHanded_of_cond (C := Tryz.checked) (s := Rows.OpenSpec.upto Rows.deflatePlainSpec) (k := Rows.uptoSmall) rfl own started (by kernel_rfl) Tryz.func5
    (OpenSpec.witness (enc := enc) (C := Tryz.checked) (s := Rows.OpenSpec.upto Rows.deflatePlainSpec) (k := Rows.uptoSmall) rfl false ⟨#[], #[.slice none 0 0, .int .i64 0], []⟩ 8 (by kernel_rfl) (by kernel_rfl) (by kernel_rfl)
      (x := ([.nil, .lit (.int .i64 0)], [], [])) (by kernel_rfl) rfl (by kernel_rfl)) ?_
  intro W base args ds gs before hval hW _ hk _
  exact contract H enc W base args ds gs before hval hW hk

theorem proved : Rows.DeflatePlainUptoSaid :=
  OpenClaim.holds_of_cond 5 Tryz.f5 rfl rfl rfl rfl rfl rfl rfl ⟨rfl, rfl, rfl, rfl, rfl⟩ rfl rfl rfl rfl rfl (by kernel_rfl) Tryz.func5 (by kernel_rfl)
    (of_decide_eq_true (by kernel_rfl)) (by unfold Func.isWrapper; first | (rw [if_pos (by decide +kernel)]; kernel_rfl) | (rw [if_neg (by decide +kernel)]; exact ⟨rfl, rfl⟩))
    (fun os started H enc _ F => lifted os started H enc F)

end Go.Proofs.YtabeanealkopbaaGreat.DeflatePlainFrame
namespace Go.Proofs.YtabeanealkopbaaGreat
theorem deflatePlainUpto_holds : Rows.DeflatePlainUptoSaid := DeflatePlainFrame.proved
end Go.Proofs.YtabeanealkopbaaGreat
end
