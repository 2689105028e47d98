/- The document's coins in memory. -/
import Derived.Test.YtdpbjeajipggbaaCostly
import Derived.Test.YtdpbjeajipggbaaApp
import Derived.Test.YtdpbjeajipggbaaRoundM
namespace Go.Proofs.Ytdpbjeajipggbaa
open Go.RowKit
set_option linter.unusedVariables false

theorem info48 : (Try.prog.info? 48).map (fun i => (i.zero, i.size, i.bytes)) = some (some (.agg #[.int .i64 0, .slice none 0 0]), 2, 32) := by kernel_rfl

/-- a coin as a value: its worth, and the slice of its symbols -/
abbrev CV := Nat × Value

def cz : CV := (0, .slice none 0 0)

/-- the cells of coins -/
def ccells : List CV → List Value
  | [] => []
  | c :: cs => .int .i64 (c.1 : Int) :: c.2 :: ccells cs

theorem ccells_length : ∀ cs : List CV, (ccells cs).length = cs.length * 2
  | [] => rfl
  | c :: cs => by simp [ccells, ccells_length cs]; omega

theorem ccells_append : ∀ a b : List CV, ccells (a ++ b) = ccells a ++ ccells b
  | [], _ => rfl
  | c :: cs, b => by simp [ccells, ccells_append cs b]

theorem ccells_get : ∀ (cs : List CV) (j : Nat), j < cs.length → (ccells cs)[j * 2]? = some (.int .i64 ((cs.getD j cz).1 : Int)) ∧ (ccells cs)[j * 2 + 1]? = some (cs.getD j cz).2
  | [], j, h => by simp at h
  | c :: cs, 0, _ => by simp [ccells]
  | c :: cs, j + 1, h => by
    have := ccells_get cs j (by simpa using h)
    rw [show (j + 1) * 2 = j * 2 + 1 + 1 by omega, show j * 2 + 1 + 1 + 1 = (j * 2 + 1) + 1 + 1 by omega]
    simpa [ccells] using this

/-- ints of numbers -/
def nats (l : List Nat) : List Int := l.map Int.ofNat

theorem nats_length (l : List Nat) : (nats l).length = l.length := by simp [nats]
theorem nats_append (a b : List Nat) : nats (a ++ b) = nats a ++ nats b := by simp [nats]
theorem nats_get (l : List Nat) (i : Nat) (h : i < l.length) : (nats l).getD i 0 = (l.getD i 0 : Nat) := by simp [nats, h]

/-- a value is the symbols' slice -/
def SymV (w : World) (v : Value) (l : List Nat) : Prop := ∃ a cap, v = .slice a l.length cap ∧ ReadsN w a cap (nats l)

theorem SymV.stays {w w1 : World} (hb : Below w.heap.size w w1) {v : Value} {l : List Nat} (h : SymV w v l) : SymV w1 v l := by
  obtain ⟨a, cap, rfl, hr⟩ := h
  exact ⟨a, cap, rfl, hr.stays hb⟩

/-- values are these coins -/
def CoinsR (w : World) (cv : List CV) (cs : List Merge.Coin) : Prop := cv.length = cs.length ∧ ∀ j, j < cs.length → (cv.getD j cz).1 = (cs.getD j Merge.d0).1 ∧ SymV w (cv.getD j cz).2 (cs.getD j Merge.d0).2

theorem CoinsR.stays {w w1 : World} (hb : Below w.heap.size w w1) {cv : List CV} {cs : List Merge.Coin} (h : CoinsR w cv cs) : CoinsR w1 cv cs := ⟨h.1, fun j hj => ⟨(h.2 j hj).1, (h.2 j hj).2.stays hb⟩⟩

theorem getD_cl {α : Type} (d : α) (a b : List α) (j : Nat) (h : j < a.length) : (a ++ b).getD j d = a.getD j d := by
  simp only [List.getD_eq_getElem?_getD]
  rw [List.getElem?_append_left h]

theorem getD_cr {α : Type} (d : α) (a b : List α) (j : Nat) : (a ++ b).getD (a.length + j) d = b.getD j d := by
  simp only [List.getD_eq_getElem?_getD]
  rw [List.getElem?_append_right (by omega), Nat.add_sub_cancel_left]

theorem getD_sub {α : Type} (d : α) (l : List α) (f k j : Nat) (h : j < k) : ((l.drop f).take k).getD j d = l.getD (f + j) d := by
  simp only [List.getD_eq_getElem?_getD]
  rw [List.getElem?_take, if_pos h, List.getElem?_drop]

theorem CoinsR.append {w : World} {cv cv' : List CV} {cs cs' : List Merge.Coin} (h : CoinsR w cv cs) (h' : CoinsR w cv' cs') : CoinsR w (cv ++ cv') (cs ++ cs') := by
  refine ⟨by simp [h.1, h'.1], fun j hj => ?_⟩
  by_cases hl : j < cs.length
  · rw [getD_cl cz cv cv' j (by rw [h.1]; exact hl), getD_cl Merge.d0 cs cs' j hl]
    exact h.2 j hl
  · have e : j = cs.length + (j - cs.length) := by omega
    rw [e, getD_cr Merge.d0 cs cs', ← h.1, getD_cr cz cv cv', h.1]
    exact h'.2 _ (by simp at hj; omega)

theorem CoinsR.sub {w : World} {cv : List CV} {cs : List Merge.Coin} (h : CoinsR w cv cs) (f k : Nat) (hk : f + k ≤ cs.length) : CoinsR w ((cv.drop f).take k) ((cs.drop f).take k) := by
  refine ⟨by simp [h.1], fun j hj => ?_⟩
  have hj' : j < k := by simp at hj; omega
  rw [getD_sub cz cv f k j hj', getD_sub Merge.d0 cs f k j hj']
  exact h.2 _ (by omega)

theorem CoinsR.one {w : World} {x : Nat} {v : Value} {l : List Nat} (h : SymV w v l) : CoinsR w [(x, v)] [(x, l)] := ⟨rfl, fun j hj => by
  obtain rfl : j = 0 := by simp at hj; exact hj
  exact ⟨rfl, h⟩⟩

theorem CoinsR.nil (w : World) : CoinsR w [] [] := ⟨rfl, fun j hj => by simp at hj⟩

/-- a slice of coins' values, with a nil one told apart -/
def ReadsC (w : World) (a : Option Addr) (cap : Nat) (cv : List CV) : Prop := (a = none ∧ cap = 0 ∧ cv = []) ∨ ∃ b off, a = some ⟨b, off, none⟩ ∧ cv.length ≤ cap ∧ ∀ (j : Nat), j < cv.length → w.cell? ⟨b, off + j * 2, none⟩ = some (.int .i64 ((cv.getD j cz).1 : Int)) ∧ w.cell? ⟨b, off + j * 2 + 1, none⟩ = some (cv.getD j cz).2

theorem ReadsC.stays {w w1 : World} (hb : Below w.heap.size w w1) {a : Option Addr} {cap : Nat} {cv : List CV} (h : ReadsC w a cap cv) : ReadsC w1 a cap cv := by
  rcases h with h | ⟨b, off, rfl, hl, hc⟩
  · exact .inl h
  · exact .inr ⟨b, off, rfl, hl, fun j hj => ⟨cell_stays hb (hc j hj).1, cell_stays hb (hc j hj).2⟩⟩

theorem ReadsC.news {w : World} {b off cap : Nat} {cv : List CV} (h : ReadsC w (some ⟨b, off, none⟩) cap cv) : ∀ (j : Nat) u, (ccells cv)[j]? = some u → w.cell? ((⟨b, off, none⟩ : Addr).add j) = some u := by
  rcases h with ⟨e, _⟩ | ⟨b', off', e, hl, hc⟩
  · cases e
  · injection e with e
    injection e with e1 e2
    subst e1 e2
    intro j u hj
    have hj2 : j < cv.length * 2 := by
      have := (List.getElem?_eq_some_iff.1 hj).1
      rw [ccells_length] at this
      exact this
    obtain ⟨g1, g2⟩ := ccells_get cv (j / 2) (by omega)
    obtain ⟨c1, c2⟩ := hc (j / 2) (by omega)
    have ea : (⟨b, off, none⟩ : Addr).add j = ⟨b, off + j, none⟩ := by by_cases hq : j = 0 <;> simp [Addr.add, hq]
    rw [ea]
    have hd := Nat.div_add_mod j 2
    have hm : j % 2 = 0 ∨ j % 2 = 1 := by omega
    rcases hm with e | e
    · rw [show j / 2 * 2 = j by omega] at g1 c1
      rw [c1, ← hj, g1]
    · rw [show j / 2 * 2 + 1 = j by omega] at g2
      rw [show off + j / 2 * 2 + 1 = off + j by omega] at c2
      rw [c2, ← hj, g2]

theorem ReadsC.sub {w : World} {b off cap : Nat} {cv : List CV} (h : ReadsC w (some ⟨b, off, none⟩) cap cv) (f k : Nat) (hk : f + k ≤ cv.length) (c' : Nat) (hc' : k ≤ c') : ReadsC w (some ⟨b, off + f * 2, none⟩) c' ((cv.drop f).take k) := by
  rcases h with ⟨e, _⟩ | ⟨b', off', e, hl, hc⟩
  · cases e
  · injection e with e
    injection e with e1 e2
    subst e1 e2
    refine .inr ⟨b, off + f * 2, rfl, by simp; omega, fun j hj => ?_⟩
    have hj' : j < k := by simp at hj; omega
    rw [getD_sub cz cv f k j hj']
    have := hc (f + j) (by omega)
    rw [show off + (f + j) * 2 = off + f * 2 + j * 2 by omega] at this
    exact this

theorem own_coins {w : World} {base n : Nat} {v : Value} {cv : List CV} (h : w.ownsRow base 48 2 v n (ccells cv)) : ∃ a c, v = .slice a n c ∧ n = cv.length ∧ ReadsC w a c cv := by
  have hl := h.1
  rw [ccells_length] at hl
  have hn : n = cv.length := by omega
  subst hn
  rcases h.2 with ⟨e, e'⟩ | ⟨g, cap, cur, e, _, _, hle, _⟩
  · exact ⟨none, 0, by rw [e, e'], rfl, .inl ⟨rfl, rfl, List.length_eq_zero_iff.1 e'⟩⟩
  · have hc : ∀ j u, (ccells cv)[j]? = some u → w.cell? ((⟨g, 0, none⟩ : Addr).add j) = some u := h.cells (by rw [e]; rfl)
    have ea : ∀ j, (⟨g, 0, none⟩ : Addr).add j = ⟨g, 0 + j, none⟩ := fun j => by by_cases hq : j = 0 <;> simp [Addr.add, hq]
    refine ⟨_, cap, e, rfl, .inr ⟨g, 0, rfl, hle, fun j hj => ?_⟩⟩
    obtain ⟨g1, g2⟩ := ccells_get cv j hj
    have c1 := hc _ _ g1
    have c2 := hc _ _ g2
    rw [ea] at c1 c2
    exact ⟨c1, by rw [Nat.add_assoc]; exact c2⟩

theorem built_coins (w : World) (base : Nat) (hb : base ≤ w.heap.size) : (w.alloc (.cells #[] 48)).ownsRow base 48 2 (.slice (some ⟨w.heap.size, 0, none⟩) 0 0) 0 (ccells []) := by
  have := World.ownsRow_made (base := base) (e := 48) (size := 2) w #[] 0 hb (by unfold maxLen; omega) rfl
  exact this

theorem nil_coins (w : World) (base : Nat) : w.ownsRow base 48 2 (.slice none 0 0) 0 (ccells []) := ⟨rfl, .inl ⟨rfl, rfl⟩⟩

/-- all symbols are slices -/
def Slices (cv : List CV) : Prop := ∀ c ∈ cv, ∃ a l k, c.2 = .slice a l k

theorem CoinsR.slices {w : World} {cv : List CV} {cs : List Merge.Coin} (h : CoinsR w cv cs) : Slices cv := fun c hc => by
  obtain ⟨j, hj, rfl⟩ := List.getElem_of_mem hc
  obtain ⟨_, a, k, e, _⟩ := h.2 j (by rw [← h.1]; exact hj)
  rw [List.getD_eq_getElem?_getD, List.getElem?_eq_getElem hj] at e
  exact ⟨a, _, k, e⟩

theorem ccells_one {cv : List CV} (h : Slices cv) : ∀ u ∈ ccells cv, u.oneCell' = true := by
  induction cv with
  | nil => intro u hu; simp [ccells] at hu
  | cons c cs ih =>
    intro u hu
    simp only [ccells, List.mem_cons] at hu
    rcases hu with rfl | rfl | hu
    · rfl
    · obtain ⟨a, l, k, e⟩ := h c (by simp)
      rw [e]
      rfl
    · exact ih (fun c' hc' => h c' (by simp [hc'])) u hu

theorem wpList_append_coins {w : World} {ops : Array Oper} {rest : List Oper} {o : Oper} {a : Act} {Q : Exit → Act → World → Prop} (hgd : o.guard = none) (s x : Operand)
    (ho : o.op = .call { callee := .builtin .append, args := #[s, x], argTypes := #[45, 45] })
    (base : Nat) (v : Value) (n : Nat) (xs : List CV) (hs : a.eval s = v) (hown : w.ownsRow base 48 2 v n (ccells xs))
    (sa : Option Addr) (m c : Nat) (zs : List CV) (hm : m = zs.length) (hx : a.eval x = .slice sa m c) (hr : ReadsC w sa c zs) (hz : Slices zs) (h63 : n + m ≤ 10000000) (hbase : base ≤ w.heap.size)
    (h : ∀ v' w', w'.ownsRow base 48 2 v' (n + m) (ccells (xs ++ zs)) → w.grownBy w' v.ownBlock → wpList Try.prog ops Q rest (a.put o.dst v') w') : wpList Try.prog ops Q (o :: rest) a w := by
  obtain ⟨i0, hii, hz0, hz1, hz2⟩ := info_parts info48
  rcases id hr with ⟨rfl, rfl, rfl⟩ | ⟨b, off, rfl, hl, hc⟩
  · obtain rfl : m = 0 := hm
    exact wpList_append_own_none hgd s x 45 ho base 48 i0 2 Try.underlying45 hii v n (ccells xs) hs hown hx (h v w (by simpa using hown) (World.grownBy.refl _ _))
  · exact wpList_append_own (w := w) hgd s x 45 ho base 48 i0 _ 2 32 Try.underlying45 hii hz0 hz1 hz2 rfl (by decide) v n (ccells xs) hs hown ⟨b, off, none⟩ m c (ccells zs) hx (by rw [ccells_length, hm]) hr.news
      (ccells_one hz) (by unfold maxLen; omega) (by omega) hbase (fun v' w' h1 h2 h3 => h v' w' (by rw [ccells_append]; exact h1) h2)

end Go.Proofs.Ytdpbjeajipggbaa
