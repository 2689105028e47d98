/- newIndex. -/
import Derived.Test.YtabnfnejlffioaaMzero
namespace Go.Proofs.Ytabnfnejlffioaa
open Go.RowKit Go.Maps
set_option linter.unusedVariables false

attribute [local go_sem ↓] Go.wp_at_zero Go.wp_at_succ

theorem info65 : (Try.prog.info? 65).map (fun i => (i.zero, i.size, i.bytes)) = some (some (.agg #[.int .i64 0, .map none, .slice none 0 0]), 3, 40) := by kernel_rfl

/-- the cells of k levels -/
def lcs (s0 : Nat) (b : Nat → Nat) : Nat → List Value
  | 0 => []
  | k + 1 => lcs s0 b k ++ [.int .i64 ((s0 * 2 ^ k : Nat) : Int), .map (some (b k)), .slice none 0 0]

theorem lcs_length (s0 : Nat) (b : Nat → Nat) : ∀ k, (lcs s0 b k).length = k * 3
  | 0 => rfl
  | k + 1 => by simp [lcs, lcs_length s0 b k]; omega

theorem lcs_get (s0 : Nat) (b : Nat → Nat) : ∀ k j, j < k → (lcs s0 b k)[j * 3]? = some (.int .i64 ((s0 * 2 ^ j : Nat) : Int)) ∧ (lcs s0 b k)[j * 3 + 1]? = some (.map (some (b j))) ∧ (lcs s0 b k)[j * 3 + 2]? = some (.slice none 0 0)
  | 0, j, h => by omega
  | k + 1, j, h => by
    have hl := lcs_length s0 b k
    by_cases e : j = k
    · subst e
      refine ⟨?_, ?_, ?_⟩
      · rw [lcs, List.getElem?_append_right (by omega), hl]; simp
      · rw [lcs, List.getElem?_append_right (by omega), hl, show j * 3 + 1 - j * 3 = 1 by omega]; rfl
      · rw [lcs, List.getElem?_append_right (by omega), hl, show j * 3 + 2 - j * 3 = 2 by omega]; rfl
    · have ih := lcs_get s0 b k j (by omega)
      refine ⟨?_, ?_, ?_⟩
      · rw [lcs, List.getElem?_append_left (by omega)]; exact ih.1
      · rw [lcs, List.getElem?_append_left (by omega)]; exact ih.2.1
      · rw [lcs, List.getElem?_append_left (by omega)]; exact ih.2.2

theorem lcs_upf (s0 : Nat) (b : Nat → Nat) (k x : Nat) : ∀ j, j ≤ k → lcs s0 (upf b k x) j = lcs s0 b j
  | 0, _ => rfl
  | j + 1, h => by rw [lcs, lcs, lcs_upf s0 b k x j (by omega), show upf b k x j = b j by simp [upf]; omega]

/-- k levels are made -/
structure NewAt (H W M s0 k : Nat) (tx : Value) (b : Nat → Nat) (v : Value) (w ws : World) : Prop where
  xb : ws.heap[H]? = some (.cells #[tx, .int .i64 (W : Int), .int .i64 (M : Int), v, .int .i64 0] 54 (0, 0))
  row : ws.ownsRow (H + 1) 65 3 v k (lcs s0 b k)
  mp : ∀ j, j < k → MapIs ws (b j) 0 (fun _ => 0)
  ap : ∀ i j, i < k → j < k → i ≠ j → b i ≠ b j
  bB : ∀ j, j < k → H ≤ b j
  bel : Below H w ws

theorem row_ty {w : World} {B e size n : Nat} {v : Value} {xs : List Value} (h : w.ownsRow B e size v n xs) {x : Nat} (hx : v.ownBlock = some x) : B ≤ x ∧ ∃ cs, w.heap[x]? = some (.cells cs e (0, 0)) := by
  rcases h.2 with ⟨e', _⟩ | ⟨g, cap, cur, e', hb, hh, _⟩
  · rw [e'] at hx; simp [Value.ownBlock] at hx
  · rw [e'] at hx
    simp [Value.ownBlock] at hx
    subst hx
    exact ⟨hb, _, hh⟩

theorem NewAt.x3 {H W M s0 k : Nat} {tx : Value} {b : Nat → Nat} {v : Value} {w ws : World} (h : NewAt H W M s0 k tx b v w ws) : ws.cell? ⟨H, 3, none⟩ = some v := by simp [World.cell?, h.xb]
theorem NewAt.f3 {H W M s0 k : Nat} {tx : Value} {b : Nat → Nat} {v : Value} {w ws : World} (h : NewAt H W M s0 k tx b v w ws) : ws.frozen? ⟨H, 3, none⟩ = false := by simp [World.frozen?, h.xb]

/-- one level more -/
theorem NewAt.next {H W M s0 k : Nat} {tx : Value} {b : Nat → Nat} {v v' : Value} {w ws w2 : World} (h : NewAt H W M s0 k tx b v w ws) (hH : H < ws.heap.size)
    (hown : w2.ownsRow (H + 1) 65 3 v' (k + 1) (lcs s0 b k ++ [.int .i64 ((s0 * 2 ^ k : Nat) : Int), .map (some ws.heap.size), .slice none 0 0]))
    (hg : ((ws.alloc (.map #[] 0)).alloc (.cells #[.int .i64 ((s0 * 2 ^ k : Nat) : Int), .map (some ws.heap.size), .slice none 0 0] 65)).grownBy w2 v.ownBlock) :
    NewAt H W M s0 (k + 1) tx (upf b k ws.heap.size) v' w (w2.setCell ⟨H, 3, none⟩ v') := by
  have hv : ∀ x, v.ownBlock = some x → H + 1 ≤ x ∧ ∃ cs, ws.heap[x]? = some (.cells cs 65 (0, 0)) := fun x hx => row_ty h.row hx
  have k2 : ∀ x, x ≤ ws.heap.size → v.ownBlock ≠ some x → w2.heap[x]? = (ws.alloc (.map #[] 0)).heap[x]? := fun x hx hr => by
    rw [hg.block x (by simp; omega) (fun e => hr e.symm)]
    exact Below.heap_alloc _ _ _ (by simp; omega)
  have k1 : ∀ x, x < ws.heap.size → v.ownBlock ≠ some x → w2.heap[x]? = ws.heap[x]? := fun x hx hr => by
    rw [k2 x (by omega) hr]; exact Below.heap_alloc _ _ _ hx
  have hvH : v.ownBlock ≠ some H := fun e => by have := (hv H e).1; omega
  have hxb2 : w2.heap[H]? = some (.cells #[tx, .int .i64 (W : Int), .int .i64 (M : Int), v, .int .i64 0] 54 (0, 0)) := by rw [k1 H hH hvH]; exact h.xb
  have o : ∀ x, x ≠ H → (w2.setCell ⟨H, 3, none⟩ v').heap[x]? = w2.heap[x]? := fun x hx => heap_setCell_other _ _ _ _ (by exact hx)
  have hvn : v.ownBlock ≠ some ws.heap.size := fun e => by
    obtain ⟨_, cs, hcs⟩ := hv _ e
    have := heap_lt hcs
    omega
  refine ⟨?_, ?_, fun j hj => ?_, fun i j hi hj hne => ?_, fun j hj => ?_, ⟨?_, ?_, ?_, ?_, fun x hx => ?_⟩⟩
  · rw [heap_setCell_same w2 H 3 _ 54 v' hxb2]; rfl
  · have e : lcs s0 (upf b k ws.heap.size) (k + 1) = lcs s0 b k ++ [.int .i64 ((s0 * 2 ^ k : Nat) : Int), .map (some ws.heap.size), .slice none 0 0] := by
      rw [lcs, lcs_upf s0 b k ws.heap.size k (Nat.le_refl _), show upf b k ws.heap.size k = ws.heap.size by simp [upf]]
    rw [e]
    refine own_keep hown (fun q hq => o q (fun e => ?_))
    have := (row_ty hown hq).1
    omega
  · by_cases e : j = k
    · rw [show upf b k ws.heap.size j = ws.heap.size by simp [upf, e]]
      refine (MapIs.made ws).block ?_
      rw [o _ (by omega), k2 _ (Nat.le_refl _) hvn]
    · rw [show upf b k ws.heap.size j = b j by simp [upf, e]]
      obtain ⟨es, ck, hb⟩ := (h.mp j (by omega)).is
      refine (h.mp j (by omega)).block ?_
      rw [o _ (fun e2 => by rw [e2, h.xb] at hb; cases hb), k1 _ (heap_lt hb) (fun e2 => by
        obtain ⟨_, cs, hcs⟩ := hv _ e2
        rw [hcs] at hb
        cases hb)]
  · have lt : ∀ i, i < k → b i < ws.heap.size := fun i hi => by obtain ⟨es, ck, hb⟩ := (h.mp i hi).is; exact heap_lt hb
    unfold upf
    by_cases e : i = k
    · rw [if_pos e, if_neg (by omega)]
      have := lt j (by omega)
      omega
    · by_cases e2 : j = k
      · rw [if_neg e, if_pos e2]
        have := lt i (by omega)
        omega
      · rw [if_neg e, if_neg e2]
        exact h.ap i j (by omega) (by omega) hne
  · unfold upf
    by_cases e : j = k
    · rw [if_pos e]; omega
    · rw [if_neg e]; exact h.bB j (by omega)
  · exact hg.os.trans h.bel.os
  · exact hg.tape.trans h.bel.tape
  · exact hg.output.trans h.bel.output
  · have h1 := hg.size
    have h2 := h.bel.size
    simp at h1 ⊢
    omega
  · rw [o x (by omega), k1 x (by omega) (fun e => by have := (hv x e).1; omega)]
    exact h.bel.block x hx

/-- the whole index, with no place taken in -/
theorem NewAt.idx {zs : List Nat} {H W M s0 N : Nat} {tx : Value} {b : Nat → Nat} {v : Value} {w ws : World} (h : NewAt H W M s0 N tx b v w ws) (hN : 1 ≤ N) : ∃ gl lc, N ≤ lc ∧ v = .slice (some ⟨gl, 0, none⟩) N lc ∧ IdxAt zs H N (fun j => s0 * 2 ^ j) b (fun _ => .slice none 0 0) (fun j => cnt zs.length (s0 * 2 ^ j) 0) H gl lc W M 0 tx ws := by
  rcases h.row.2 with ⟨_, e⟩ | ⟨g, cap, cur, e, hb, hh, hle, _, hcs, ht⟩
  · omega
  · refine ⟨g, cap, hle, e, ?_, ⟨⟨cur, hh⟩, fun j hj => ?_, h.ap, fun i j _ _ _ x hx => by simp [Value.ownBlock] at hx, by omega, h.bB⟩, Nat.le_refl _⟩
    · rw [h.xb, e]; rfl
    · have hget : ∀ i, i < N * 3 → cur[i]? = (lcs s0 b N)[i]? := fun i hi => by
        rw [← ht, List.getElem?_take, if_pos hi]; simp
      obtain ⟨g0, g1, g2⟩ := lcs_get s0 b N j hj
      have hc : cnt zs.length (s0 * 2 ^ j) 0 = 0 := by unfold cnt; omega
      rw [hc]
      refine ⟨?_, ?_, ?_, (h.mp j hj), ?_⟩
      · simp only [World.cell?, hh]; rw [hget _ (by omega)]; exact g0
      · simp only [World.cell?, hh]; rw [hget _ (by omega)]; exact g1
      · simp only [World.cell?, hh]; rw [hget _ (by omega)]; exact g2
      · exact World.ownsRow_nil _ _ _ _

end Go.Proofs.Ytabnfnejlffioaa
