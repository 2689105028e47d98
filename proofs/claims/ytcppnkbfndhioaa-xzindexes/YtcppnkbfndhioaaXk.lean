/- The cursor: an index up to its last record. -/
import Derived.Test.YtcppnkbfndhioaaXj
namespace Go.Proofs.Ytcppnkbfndhioaa
open Go.RowKit
set_option maxRecDepth 100000
set_option linter.unusedVariables false
attribute [local go_sem ↓] Go.wp_at_zero Go.wp_at_succ

/-- so many records from a place on: they, the error, the place behind them -/
def recsGo (zs : List Nat) : Nat → Nat → List (Int × Int) → List (Int × Int) × Nat × Nat
  | 0, p, rs => (rs, 0, p)
  | k + 1, p, rs => if (recF zs p).2.1 = 0 then recsGo zs k (recF zs p).2.2 (rs ++ [(((recF zs p).1.1 : Int), ((recF zs p).1.2 : Int))]) else ([], (recF zs p).2.1, (recF zs p).2.2)

/-- an index up to its last record -/
def headF (zs : List Nat) : List (Int × Int) × Nat × Nat :=
  if (expF zs 0 [0] 11).1 ≠ 0 then ([], (expF zs 0 [0] 11).1, (expF zs 0 [0] 11).2)
  else if (longF zs 1).2.1 ≠ 0 then ([], (longF zs 1).2.1, (longF zs 1).2.2)
  else if 65536 < (longF zs 1).1 then ([], 11, (longF zs 1).2.2)
  else recsGo zs (longF zs 1).1 (longF zs 1).2.2 []

/-- a row of records of one's own -/
def OwnR (B : Nat) (w : World) (v : Value) (l : List (Int × Int)) : Prop := w.ownsRow B 37 2 v l.length (rcells l)

theorem OwnR.step {B : Nat} {w w1 : World} {g h cap q : Nat} {zs : List Nat} {v : Value} {l : List (Int × Int)} (ho : OwnR B w v l) (hs : Step w w1 g h cap zs q) (hg : g < B) : OwnR B w1 v l :=
  own_keep ho (fun k e => hs.only.keep k (ho.lt k e).2 (by have := (ho.lt k e).1; omega))

theorem wp_oneR2 {ops : Array Oper} {rest : List Oper} {o : Oper} {a : Act} {Q : Exit → Act → World → Prop} {ws : World} (hgd : o.guard = none) (s x : Operand)
    (ho : o.op = .call { callee := .builtin .append, args := #[s, x], argTypes := #[22, 22] }) (B : Nat) (va : Value) (l : List (Int × Int)) (r1 r2 : Int) (hs : a.eval s = va) (hx : a.eval x = .slice (some ⟨ws.heap.size, 0, none⟩) 1 1)
    (hA : OwnR B ws va l) (hB : B ≤ ws.heap.size) (hlen : (l.length + 1) * 16 ≤ 140737488355328)
    (h : ∀ v' w', OwnR B w' v' (l ++ [(r1, r2)]) → (w'.os = ws.os ∧ w'.tape = ws.tape ∧ w'.output = ws.output ∧ ws.heap.size ≤ w'.heap.size) → (∀ k, k < B → w'.heap[k]? = ws.heap[k]?) → wpList Try.prog ops Q rest (a.put o.dst v') w') :
    wpList Try.prog ops Q (o :: rest) a (ws.alloc (.cells #[.int .i64 r1, .int .i64 r2] 37)) := by
  obtain ⟨i0, hi, hz0, hz1, hz2⟩ := info_parts info37
  refine wpList_append_own_at (ws.alloc (.cells #[.int .i64 r1, .int .i64 r2] 37)) hgd s x 22 ho B 37 i0 _ 2 16 Try.underlying22 hi hz0 hz1 hz2 rfl (by decide) va l.length (rcells l) hs (World.ownsRow.alloc hA _) ⟨ws.heap.size, 0, none⟩ 1 1 [.int .i64 r1, .int .i64 r2] hx rfl (by
    intro j u hj
    have e : (⟨ws.heap.size, 0, none⟩ : Addr).add j = ⟨ws.heap.size, j, none⟩ := by by_cases hq : j = 0 <;> simp [Addr.add, hq]
    rw [e]
    simp only [World.cell?, heap_alloc_new]
    simpa using hj) (by intro u hu; simp at hu; rcases hu with rfl | rfl <;> rfl) (by unfold maxLen; omega) (by omega) (by simp; omega) ?_
  intro v' w' h2 h3 _ _
  refine h v' w' (by unfold OwnR; rw [List.length_append, rcells_append]; exact h2) ⟨h3.os, h3.tape, h3.output, by have := h3.size; simp at this; omega⟩ (fun k hk => ?_)
  · rw [h3.block k (by simp; omega) (fun e => by have := (World.ownsRow.lt hA k e.symm).1; omega), Below.heap_alloc _ _ _ (by omega)]

theorem Cur.same {w w' : World} {g h cap p B : Nat} {zs : List Nat} (c : Cur w g h cap zs p) (hk : ∀ k, k < B → w'.heap[k]? = w.heap[k]?) (hg : g < B) (hh : h < B) (hs : w.heap.size ≤ w'.heap.size) : Cur w' g h cap zs p := by
  refine ⟨by rw [hk g hg]; exact c.cells, fun j hj => ?_, c.ne, Nat.lt_of_lt_of_le c.lies hs, c.le, c.cap, c.small, c.oct⟩
  have := c.bytes j hj
  simp only [World.cell?] at this ⊢
  rw [hk h hh]
  exact this

theorem Step.same {w w1 w2 : World} {g h cap q : Nat} {zs : List Nat} (s : Step w w1 g h cap zs q) (hk : ∀ k, k < w.heap.size → w2.heap[k]? = w1.heap[k]?) (hs : w2.os = w1.os ∧ w2.tape = w1.tape ∧ w2.output = w1.output ∧ w1.heap.size ≤ w2.heap.size) (hg : g < w.heap.size) (hh : h < w.heap.size) : Step w w2 g h cap zs q :=
  ⟨s.cur.same hk hg hh hs.2.2.2, ⟨hs.1.trans s.only.os, hs.2.1.trans s.only.tape, hs.2.2.1.trans s.only.output, Nat.le_trans s.only.size hs.2.2.2, fun x hx hne => (hk x hx).trans (s.only.keep x hx hne)⟩⟩

set_option maxHeartbeats 2000000 in
theorem readRecords_ok (g h cap : Nat) (zs : List Nat) (w : World) (c : Cur w g h cap zs 0) :
    Calls Try.prog 20 #[.pointer (some ⟨g, 0, none⟩)] w fun e w' => ∃ lv, e = .returned (.tuple #[lv, .int .i64 ((headF zs).2.1 : Int)]) ∧ Step w w' g h cap zs (headF zs).2.2 ∧ ((headF zs).2.1 = 0 → OwnR w.heap.size w' lv (headF zs).1) ∧ ((headF zs).2.1 ≠ 0 → lv = .slice none 0 0) := by
  have hgl := heap_lt c.cells
  have hhl := c.lies
  have HF : Hid (headF zs = if (expF zs 0 [0] 11).1 ≠ 0 then ([], (expF zs 0 [0] 11).1, (expF zs 0 [0] 11).2) else if (longF zs 1).2.1 ≠ 0 then ([], (longF zs 1).2.1, (longF zs 1).2.2) else if 65536 < (longF zs 1).1 then ([], 11, (longF zs 1).2.2) else recsGo zs (longF zs 1).1 (longF zs 1).2.2 []) := hide rfl
  generalize headF zs = R at *
  have HC2 := hide (c.stays ((Below.refl _ _).alloc (Nat.le_refl _) (.cells #[bv 0] 5)))
  have HEX := hide (expect_ok g h cap 0 11 zs [0] (.slice (some ⟨w.heap.size, 0, none⟩) 1 1) _ (unhide HC2) (StB.one w 0).reads (by intro a n k e; injection e with e1; injection e1 with e1; subst e1; show w.heap.size ≠ g; omega) (by simp) (by simp))
  have HSA := hide ((Step.refl c).stays ((Below.refl _ _).alloc (Nat.le_refl _) (.cells #[bv 0] 5)))
  have HX1 : Hid ((expF zs 0 [0] 11).1 = 0 → (expF zs 0 [0] 11).2 = 1 ∧ 1 ≤ zs.length) := hide (fun he => by
    unfold expF at he ⊢
    split at he
    · exact absurd he (by decide)
    · rename_i hlt
      rw [if_neg hlt]
      split at he
      · rename_i h2
        rw [if_pos h2]
        rw [List.length_singleton] at hlt
        exact ⟨rfl, by omega⟩
      · exact absurd he (by decide))
  clear c
  generalize expF zs 0 [0] 11 = X at *
  obtain ⟨x, q0⟩ := X
  simp only at HF HEX HX1
  by_cases hx : x = 0
  · subst hx
    obtain ⟨rfl, hz1⟩ := unhide HX1 rfl
    rw [if_neg (by simp)] at HF
    have HL : Hid (∀ W, Cur W g h cap zs 1 → _) := hide (fun W hW => readLong_ok g h cap 1 zs W hW)
    have HIN := hide (longF_in zs 1 hz1)
    generalize longF zs 1 = A at *
    obtain ⟨n, y, p0⟩ := A
    simp only at HF HL HIN
    by_cases hy : y = 0
    · subst hy
      rw [if_neg (by simp)] at HF
      have hn63 := (unhide HIN).1
      by_cases hbig : 65536 < n
      · rw [if_pos hbig] at HF
        obtain rfl : R = ([], 11, p0) := unhide HF
        have hbi : (65536 : Int) < (n : Int) := by omega
        go_enter Try.func20, Try.ntmps20
        go_wp2_with (go_at_call 31; go_must (refine (unhide HEX).mono ?_; rintro e w1 ⟨rfl, h1⟩; have H1 := hide ((unhide HSA).trans h1); clear h1))
        refine (unhide HL _ (unhide H1).cur).mono ?_
        rintro e w2 ⟨rfl, h2⟩
        have H2 := hide ((unhide H1).trans h2)
        clear h2 H1
        go_wp2_with fail
        go_ret2
        exact ⟨_, rfl, unhide H2, fun h => absurd h (by decide), fun _ => rfl⟩
      · rw [if_neg hbig] at HF
        have hbi : ¬ (65536 : Int) < (n : Int) := by omega
        have hni : (n : Int) ≤ 65536 := by omega
        go_enter Try.func20, Try.ntmps20
        go_wp2_with (go_at_call 31; go_must (refine (unhide HEX).mono ?_; rintro e w1 ⟨rfl, h1⟩; have H1 := hide ((unhide HSA).trans h1); clear h1))
        refine (unhide HL _ (unhide H1).cur).mono ?_
        rintro e w2 ⟨rfl, h2⟩
        have H2 := hide ((unhide H1).trans h2)
        clear h2 H1
        go_wp2_with fail
        clear HL HEX HSA HC2 HIN hn63
        go_loopg [7, 29] n (fun gk b c ws => ∃ (i q : Nat) (rs : List (Int × Int)) (vb : Value), gk = n - i ∧ i ≤ n ∧ b = vb ∧ c = .int .i64 (i : Int) ∧ Hid (recsGo zs n p0 [] = recsGo zs (n - i) q rs) ∧ Hid (Step w ws g h cap zs q) ∧ Hid (OwnR w.heap.size ws vb rs) ∧ Hid (rs.length = i))
        case atStart => exact ⟨0, p0, [], _, by omega, by omega, rfl, rfl, hide rfl, H2, hide (World.ownsRow_nil _ _ _ _), hide rfl⟩
        case round =>
          obtain ⟨i, q, rs, vb, rfl, hi, rfl, rfl, HG, HS, HO, HRL⟩ := hrel
          clear H2
          by_cases hlt : i < n
          · have HN : Hid (recsGo zs n p0 [] = if (recF zs q).2.1 = 0 then recsGo zs (n - (i + 1)) (recF zs q).2.2 (rs ++ [(((recF zs q).1.1 : Int), ((recF zs q).1.2 : Int))]) else ([], (recF zs q).2.1, (recF zs q).2.2)) := hide (by rw [unhide HG, show n - i = (n - (i + 1)) + 1 by omega, recsGo])
            have HRR := hide (readRecord_ok g h cap q zs wr (unhide HS).cur)
            have hki : (i : Int) < (n : Int) := by omega
            have HLT := hide hlt
            obtain ⟨av, cv, rfl⟩ := ownR_shape (unhide HO)
            rw [unhide HRL]
            clear hlt HG
            generalize recF zs q = T at *
            obtain ⟨⟨s, t⟩, y, q2⟩ := T
            simp only at HN HRR
            by_cases hy : y = 0
            · subst hy
              rw [if_pos rfl] at HN
              go_wp2_with fail
              refine (unhide HRR).mono ?_
              rintro e w3 ⟨rfl, h3⟩
              have hs3 := ((unhide HS).trans h3).stays ((Below.refl _ _).alloc (Nat.le_refl _) (.cells #[.int .i64 (s : Int), .int .i64 (t : Int)] 37))
              have ho3 : OwnR w.heap.size (w3.alloc (.cells #[.int .i64 (s : Int), .int .i64 (t : Int)] 37)) (.slice av rs.length cv) rs := World.ownsRow.alloc ((unhide HO).step h3 hgl) _
              have hra : RecAt (w3.alloc (.cells #[.int .i64 (s : Int), .int .i64 (t : Int)] 37)) w3.heap.size (s : Int) (t : Int) := heap_alloc_new w3 _
              have HB3 := hide hs3.only.size
              have HS3 := hide hs3
              have HO3 := hide ho3
              have HRA := hide hra
              clear h3 hra HRR HS HO hs3 ho3
              rw [unhide HRL] at HO3
              go_upto_region 13 with fail
              obtain ⟨W3, hW3⟩ : ∃ W3, W3 = w3.alloc (.cells #[.int .i64 (s : Int), .int .i64 (t : Int)] 37) := ⟨_, rfl⟩
              rw [← hW3] at HB3 HS3 HO3 HRA ⊢
              have k0 := (unhide HRA).c0
              have k1 := (unhide HRA).c1
              clear hW3
              go_wp2_with (at_builtin; go_must (refine wp_oneR2 rfl (.tmp 39) (.tmp 41) rfl w.heap.size (.slice av i cv) rs (s : Int) (t : Int) rfl rfl (unhide HO3) (unhide HB3) (by rw [unhide HRL]; omega) ?_; intro v5 w5 h5 h6 h7; have H5 := hide h5; have HS5 := hide ((unhide HS3).same h7 h6 hgl hhl); clear h5 h6 h7))
              go_roundg (n - (i + 1))
              case measure => have := unhide HLT; omega
              case rel => exact ⟨i + 1, q2, _, _, rfl, unhide HLT, rfl, by go_num, HN, HS5, H5, hide (by rw [List.length_append, unhide HRL]; rfl)⟩
            · rw [if_neg hy] at HN
              have hyy : ((y : Int) != 0) = true := by simp; omega
              go_wp2_with fail
              refine (unhide HRR).mono ?_
              rintro e w3 ⟨rfl, h3⟩
              have HS3 := hide (((unhide HS).trans h3).stays ((Below.refl _ _).alloc (Nat.le_refl _) (.cells #[.int .i64 (s : Int), .int .i64 (t : Int)] 37)))
              clear h3 HRR HS HO
              go_wp2_with fail
              go_ret2
              have e1 : R = ([], y, q2) := (unhide HF).trans (unhide HN)
              rw [e1]
              exact ⟨_, rfl, unhide HS3, fun h => absurd h hy, fun _ => rfl⟩
          · obtain rfl : i = n := by omega
            have HN : Hid (recsGo zs i p0 [] = (rs, 0, q)) := hide (by rw [unhide HG, Nat.sub_self, recsGo])
            go_wp2_with fail
            go_ret2
            have e1 : R = (rs, 0, q) := (unhide HF).trans (unhide HN)
            rw [e1]
            exact ⟨_, rfl, unhide HS, fun _ => unhide HO, fun h => absurd rfl h⟩
    · rw [if_pos hy] at HF
      obtain rfl : R = ([], y, p0) := unhide HF
      have hyy : ((y : Int) != 0) = true := by simp; omega
      go_enter Try.func20, Try.ntmps20
      go_wp2_with (go_at_call 31; go_must (refine (unhide HEX).mono ?_; rintro e w1 ⟨rfl, h1⟩; have H1 := hide ((unhide HSA).trans h1); clear h1))
      refine (unhide HL _ (unhide H1).cur).mono ?_
      rintro e w2 ⟨rfl, h2⟩
      have H2 := hide ((unhide H1).trans h2)
      clear h2 H1
      go_wp2_with fail
      go_ret2
      exact ⟨_, rfl, unhide H2, fun h => absurd h hy, fun _ => rfl⟩
  · rw [if_pos hx] at HF
    obtain rfl : R = ([], x, q0) := unhide HF
    have hxx : ((x : Int) != 0) = true := by simp; omega
    go_enter Try.func20, Try.ntmps20
    go_wp2_with (go_at_call 31; go_must (refine (unhide HEX).mono ?_; rintro e w1 ⟨rfl, h1⟩; have H1 := hide ((unhide HSA).trans h1); clear h1))
    go_ret2
    exact ⟨_, rfl, unhide H1, fun h => absurd h hx, fun _ => rfl⟩
end Go.Proofs.Ytcppnkbfndhioaa
