/- pack: what packages of two coins each are worth. -/
import Derived.Test.YtdpbjeajipggbaaRounds
import Derived.Test.YtdpbjeajipggbaaApp
import Derived.Test.YtdpbjeajipggbaaAid
namespace Go.Proofs.Ytdpbjeajipggbaa
open Go.RowKit
set_option linter.unusedVariables false

attribute [local go_sem ↓] Go.wp_at_zero Go.wp_at_succ

def ints (l : List Nat) : List Int := l.map (fun (n : Nat) => (n : Int))
theorem ints_length (l : List Nat) : (ints l).length = l.length := by simp [ints]
theorem ints_get (l : List Nat) (i : Nat) (h : i < l.length) : (ints l).getD i 0 = (l.getD i 0 : Nat) := by simp [ints, h]

theorem IntsAt.reads {w : World} {g n : Nat} {C : Nat → Nat} (h : IntsAt w .i64 3 g n C) {l : List Nat} (hn : l.length = n) (hc : ∀ i, i < n → C i = l.getD i 0) : ReadsI w (.slice (some ⟨g, 0, none⟩) n n) (ints l) := by
  subst hn
  refine ⟨_, l.length, by rw [ints_length], fun _ => ⟨g, 0, rfl, fun j hj => ?_⟩⟩
  rw [ints_length] at hj
  rw [Nat.zero_add, h.cell j hj, hc j hj, ints_get l j hj]

set_option maxRecDepth 100000 in
set_option maxHeartbeats 2000000 in
theorem pack_ok (zs : List Nat) (v : Value) (w : World) (hr : ReadsI w v (ints zs)) (hl : zs.length ≤ 131072) (hb : ∀ x ∈ zs, x ≤ 1152921504606846976) :
    Calls Try.prog 26 #[v] w fun e w' => ∃ v', e = .returned v' ∧ ReadsI w' v' (ints (Merge.packW zs)) ∧ Below w.heap.size w w' := by
  obtain ⟨a, cap, rfl, hsp⟩ := hr
  rw [ints_length] at hsp ⊢
  have hgb : ∀ i, zs.getD i 0 ≤ 1152921504606846976 := fun i => by
    by_cases h : i < zs.length
    · rw [List.getD_eq_getElem?_getD, List.getElem?_eq_getElem h]; exact hb _ (List.getElem_mem h)
    · rw [List.getD_eq_getElem?_getD, List.getElem?_eq_none (by omega)]; simp
  have HSP : Hid (0 < zs.length → ∃ b off, a = some ⟨b, off, none⟩ ∧ ∀ j, j < zs.length → w.cell? ⟨b, off + j, none⟩ = some (.int .i64 (zs.getD j 0 : Nat))) := hide fun h0 => by
    obtain ⟨b, off, h1, h2⟩ := hsp h0
    exact ⟨b, off, h1, fun j hj => by rw [h2 j hj, ints_get zs j hj]⟩
  have HGB := hide hgb
  clear hsp hgb hb
  obtain ⟨m, hm⟩ : ∃ m, m = zs.length := ⟨_, rfl⟩
  rw [← hm] at HSP hl ⊢
  have HM := hide hm
  clear hm
  obtain ⟨n, hn⟩ : ∃ n, n = m / 2 := ⟨_, rfl⟩
  have hn1 : 2 * n ≤ m := by omega
  have hn2 : n ≤ 65536 := by omega
  have hdiv : Int.tdiv (m : Int) 2 = (n : Int) := by rw [hn]; rfl
  have HN := hide hn
  clear hn
  have hmk := ints_made w n hn2
  have hz : IntsAt (w.alloc (.cells (icells .i64 n fun _ => 0) 3)) .i64 3 w.heap.size n (fun _ => 0) := heap_alloc_new _ _
  have hb0 : Below w.heap.size w (w.alloc (.cells (icells .i64 n fun _ => 0) 3)) := (Below.refl _ _).alloc (Nat.le_refl _) _
  obtain ⟨W1, hW1⟩ : ∃ W1, W1 = w.alloc (.cells (icells .i64 n fun _ => 0) 3) := ⟨_, rfl⟩
  rw [← hW1] at hmk hz hb0
  obtain ⟨g, hg⟩ : ∃ g, g = w.heap.size := ⟨_, rfl⟩
  rw [← hg] at hmk hz
  have HG := hide hg
  have HZ := hide hz
  have HB0 := hide hb0
  clear hW1 hz hb0 hg
  go_enter Try.func26, Try.ntmps26
  go_wp2_with fail
  go_loopg [11] n (fun gk d ws => ∃ (k : Nat) (C : Nat → Nat), gk = n - k ∧ k ≤ n ∧ d = .int .i64 (k : Int) ∧ IntsAt ws .i64 3 g n C ∧ (∀ i, i < k → C i = zs.getD (2 * i) 0 + zs.getD (2 * i + 1) 0) ∧ Below w.heap.size w ws)
  case atStart => exact ⟨0, _, by omega, by omega, rfl, unhide HZ, fun i h => by omega, unhide HB0⟩
  case round =>
    obtain ⟨k, C, rfl, hk, rfl, hat, hC, hbel⟩ := hrel
    clear hmk HZ HB0
    by_cases hlt : k < n
    · obtain ⟨b, off, rfl, hcell⟩ := unhide HSP (by omega)
      obtain ⟨q, hq⟩ : ∃ q : Nat, q = 2 * k := ⟨_, rfl⟩
      obtain ⟨p, hp⟩ : ∃ p : Nat, p = q + 1 := ⟨_, rfl⟩
      have k1 := cell_stays hbel (hcell q (by omega))
      have k2 := cell_stays hbel (hcell p (by omega))
      have b1 := unhide HGB q
      have b2 := unhide HGB p
      have k3 := hat.cell k hlt
      have k4 := hat.free k
      have HAT := hide (hat.set k (zs.getD q 0 + zs.getD p 0))
      have HC : Hid (∀ i, i < k + 1 → upd C k (zs.getD q 0 + zs.getD p 0) i = zs.getD (2 * i) 0 + zs.getD (2 * i + 1) 0) := hide fun i hi => by
        unfold upd
        by_cases e : i = k
        · rw [if_pos e, e, hp, hq]
        · rw [if_neg e]; exact hC i (by omega)
      have HBEL : Hid (∀ x : Value, Below w.heap.size w (wr.drew.setCell ⟨g, k, none⟩ x)) := hide fun x => hbel.trans (((Below.refl _ _).drew).setCell (by show w.heap.size ≤ g; exact Nat.le_of_eq (unhide HG).symm) x)
      have hqi : 2 * (k : Int) = (q : Int) := by omega
      have hki : (k : Int) < (n : Int) := by omega
      have hqm : (q : Int) < (m : Int) := by omega
      have hqm1 : (p : Int) < (m : Int) := by omega
      have hqp : (q : Int) + 1 = (p : Int) := by omega
      obtain ⟨x, hx⟩ : ∃ x, x = zs.getD q 0 := ⟨_, rfl⟩
      obtain ⟨y, hy⟩ : ∃ y, y = zs.getD p 0 := ⟨_, rfl⟩
      rw [← hx] at k1 b1 HAT HC
      rw [← hy] at k2 b2 HAT HC
      have hw1 : IntKind.i64.wrap (q : Int) = (q : Int) := IntWalk.i64_in _ (by omega)
      have hw2 : IntKind.i64.wrap (p : Int) = (p : Int) := IntWalk.i64_in _ (by omega)
      have hw3 : IntKind.i64.wrap ((x : Int) + (y : Int)) = (x : Int) + (y : Int) := IntWalk.i64_in _ (by omega)
      clear hcell hat hC hbel hq hp hx hy
      go_wp2_with fail
      refine wp_tail 15 (by kernel_rfl) (by kernel_rfl) ?_
      simp only [List.take_succ_cons, List.take_zero, List.drop_succ_cons, List.drop_zero]
      repeat still_step
      try refine wpStill_nil ?_
      go_wp2_with fail
      go_roundg (n - (k + 1))
      case measure => omega
      case rel => exact ⟨k + 1, _, rfl, by omega, by go_num, unhide HAT, unhide HC, unhide HBEL _⟩
    · obtain rfl : k = n := by omega
      have HR : Hid (ReadsI wr (.slice (some ⟨g, 0, none⟩) k k) (ints (Merge.packW zs))) := hide (hat.reads (by rw [Merge.packW_length, unhide HN, unhide HM]) (fun i hi => by
        rw [hC i hi]
        unfold Merge.packW
        rw [show ∀ (u : List Nat), u.getD i 0 = u[i]?.getD 0 from fun u => List.getD_eq_getElem?_getD, List.getElem?_map, List.getElem?_range (by rw [← unhide HM, ← unhide HN]; exact hi)]
        rfl))
      have HB := hide hbel
      clear hat hC hbel
      go_wp2_with fail
      go_ret
      exact ⟨_, rfl, unhide HR, unhide HB⟩

end Go.Proofs.Ytdpbjeajipggbaa
