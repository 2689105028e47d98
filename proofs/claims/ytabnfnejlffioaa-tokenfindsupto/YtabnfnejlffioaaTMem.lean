/- Lists of tokens appended to one another. -/
import Derived.Test.YtabnfnejlffioaaJoinM
import Derived.Test.YtabnfnejlffioaaRefE
import Derived.Test.YtabnfnejlffioaaSame
namespace Go.Proofs.Ytabnfnejlffioaa
open Go.RowKit
set_option linter.unusedVariables false

/-- the cells of tokens -/
def tcells : List Tok → List Value
  | [] => []
  | t :: ts => .int .i64 t.n :: .int .i64 t.d :: .int .u8 (t.b : Int) :: tcells ts

theorem tcells_length : ∀ ts : List Tok, (tcells ts).length = ts.length * 3
  | [] => rfl
  | t :: ts => by simp [tcells, tcells_length ts]; omega

theorem tcells_append : ∀ a b : List Tok, tcells (a ++ b) = tcells a ++ tcells b
  | [], _ => rfl
  | t :: ts, b => by simp [tcells, tcells_append ts b]

theorem tcells_get : ∀ (ts : List Tok) (j : Nat), j < ts.length → (tcells ts)[j * 3]? = some (.int .i64 (ts.getD j tz).n) ∧ (tcells ts)[j * 3 + 1]? = some (.int .i64 (ts.getD j tz).d) ∧ (tcells ts)[j * 3 + 2]? = some (.int .u8 ((ts.getD j tz).b : Int))
  | [], j, h => by simp at h
  | t :: ts, 0, _ => by simp [tcells]
  | t :: ts, j + 1, h => by
    have := tcells_get ts j (by simpa using h)
    rw [show (j + 1) * 3 = j * 3 + 1 + 1 + 1 by omega, show j * 3 + 1 + 1 + 1 + 1 = (j * 3 + 1) + 1 + 1 + 1 by omega, show j * 3 + 1 + 1 + 1 + 2 = (j * 3 + 2) + 1 + 1 + 1 by omega]
    simpa [tcells] using this

theorem tcells_one (ts : List Tok) : ∀ u ∈ tcells ts, u.oneCell' = true := by
  induction ts with
  | nil => intro u hu; simp [tcells] at hu
  | cons t ts ih =>
    intro u hu
    simp only [tcells, List.mem_cons] at hu
    rcases hu with rfl | rfl | rfl | hu
    · rfl
    · rfl
    · rfl
    · exact ih u hu

/-- a list of tokens, with a nil one told apart -/
def ReadsTN (w : World) (a : Option Addr) (cap : Nat) (ts : List Tok) : Prop := (a = none ∧ cap = 0 ∧ ts = []) ∨ ∃ ad, a = some ad ∧ ts.length ≤ cap ∧ ∀ (j : Nat) u, (tcells ts)[j]? = some u → w.cell? (ad.add j) = some u

theorem ReadsTN.stays {w w1 : World} (hb : Below w.heap.size w w1) {a : Option Addr} {cap : Nat} {ts : List Tok} (h : ReadsTN w a cap ts) : ReadsTN w1 a cap ts := by
  rcases h with h | ⟨ad, rfl, hl, hc⟩
  · exact .inl h
  · exact .inr ⟨ad, rfl, hl, fun j u hj => cell_stays hb (hc j u hj)⟩

theorem ReadsTN.t {w : World} {a : Option Addr} {cap : Nat} {ts : List Tok} (h : ReadsTN w a cap ts) : ReadsT w.heap.size w (.slice a ts.length cap) ts := by
  rcases h with ⟨rfl, rfl, rfl⟩ | ⟨ad, rfl, hl, hc⟩
  · exact ⟨none, 0, rfl, Nat.le_refl _, fun h0 => by simp at h0⟩
  · refine ⟨some ad, cap, rfl, hl, fun h0 => ?_⟩
    have h1 := hc 0 _ (tcells_get ts 0 h0).1
    have hsp : ad.spot = none := by simpa [Addr.add] using World.cell?_spot h1
    have e : ∀ j, ad.add j = ⟨ad.block, ad.off + j, none⟩ := fun j => by
      cases ad
      simp only at hsp
      subst hsp
      by_cases hq : j = 0 <;> simp [Addr.add, hq]
    rw [e] at h1
    refine ⟨ad.block, ad.off, by cases ad; simp_all, (by have := cell_lt h1; exact this), fun j hj => ?_⟩
    obtain ⟨g1, g2, g3⟩ := tcells_get ts j hj
    have c1 := hc _ _ g1
    have c2 := hc _ _ g2
    have c3 := hc _ _ g3
    rw [e] at c1 c2 c3
    exact ⟨c1, by rw [Nat.add_assoc]; exact c2, by rw [Nat.add_assoc]; exact c3⟩

theorem own_toks {w : World} {base n : Nat} {v : Value} {ts : List Tok} (h : w.ownsRow base 37 3 v n (tcells ts)) (hn : n = ts.length) : ∃ a c, v = .slice a n c ∧ ReadsTN w a c ts := by
  subst hn
  rcases h.2 with ⟨e, e'⟩ | ⟨g, cap, cur, e, _, _, hle, _⟩
  · exact ⟨none, 0, by rw [e, e'], .inl ⟨rfl, rfl, List.length_eq_zero_iff.1 e'⟩⟩
  · exact ⟨_, cap, e, .inr ⟨_, rfl, hle, h.cells (by rw [e]; rfl)⟩⟩

theorem built_toks (w : World) (base : Nat) (hb : base ≤ w.heap.size) : (w.alloc (.cells #[] 37)).ownsRow base 37 3 (.slice (some ⟨w.heap.size, 0, none⟩) 0 0) 0 (tcells []) := by
  have := World.ownsRow_made (base := base) (e := 37) (size := 3) w #[] 0 hb (by unfold maxLen; omega) rfl
  exact this

theorem wpList_append_toks {w : World} {ops : Array Oper} {rest : List Oper} {o : Oper} {a : Act} {Q : Exit → Act → World → Prop} (hgd : o.guard = none) (s x : Operand)
    (ho : o.op = .call { callee := .builtin .append, args := #[s, x], argTypes := #[28, 28] })
    (base : Nat) (v : Value) (n : Nat) (xs : List Tok) (hs : a.eval s = v) (hown : w.ownsRow base 37 3 v n (tcells xs))
    (sa : Option Addr) (m c : Nat) (zs : List Tok) (hm : m = zs.length) (hx : a.eval x = .slice sa m c) (hr : ReadsTN w sa c zs) (h63 : (n + m) * 24 ≤ 140737488355328) (hbase : base ≤ w.heap.size)
    (h : ∀ v' w', w'.ownsRow base 37 3 v' (n + m) (tcells (xs ++ zs)) → w.grownBy w' v.ownBlock → wpList Try.prog ops Q rest (a.put o.dst v') w') : wpList Try.prog ops Q (o :: rest) a w := by
  obtain ⟨i0, hii, hz0, hz1, hz2⟩ := info_parts info37
  rcases hr with ⟨rfl, rfl, rfl⟩ | ⟨ad, rfl, hl, hc⟩
  · obtain rfl : m = 0 := hm
    exact wpList_append_own_none hgd s x 28 ho base 37 i0 3 Try.underlying28 hii v n (tcells xs) hs hown hx (h v w (by simpa using hown) (World.grownBy.refl _ _))
  · exact wpList_append_own (w := w) hgd s x 28 ho base 37 i0 _ 3 24 Try.underlying28 hii hz0 hz1 hz2 rfl (by decide) v n (tcells xs) hs hown ad m c (tcells zs) hx (by rw [tcells_length, hm]) hc
      (tcells_one _) (by unfold maxLen; omega) h63 hbase (fun v' w' h1 h2 h3 => h v' w' (by rw [tcells_append]; exact h1) h2)

theorem InT.app {ta tb : List Tok} (h : InT ta) (h' : InT tb) : InT (ta ++ tb) := fun j hj => by
  by_cases hl : j < ta.length
  · rw [getD_tl ta tb j hl]; exact h j hl
  · rw [show j = ta.length + (j - ta.length) by omega, getD_tr]
    exact h' _ (by simp at hj; omega)

theorem SmallT.app {ta tb : List Tok} (h : SmallT ta) (h' : SmallT tb) : SmallT (ta ++ tb) := fun j hj => by
  by_cases hl : j < ta.length
  · rw [getD_tl ta tb j hl]; exact h j hl
  · rw [show j = ta.length + (j - ta.length) by omega, getD_tr]
    exact h' _ (by simp at hj; omega)

theorem own_readsB {w : World} {base n : Nat} {v : Value} {zs : List Nat} (h : w.ownsRow base 5 1 v n (zs.map bv)) : ∃ a c, v = .slice a n c ∧ n ≤ c ∧ n = zs.length ∧ ReadsB w a c zs := by
  have hl := h.1
  simp at hl
  rcases h.2 with ⟨e, e'⟩ | ⟨g, cap, cur, e, _, _, hle, _⟩
  · exact ⟨none, 0, by rw [e, e'], by omega, hl.symm, .inl ⟨rfl, rfl, List.length_eq_zero_iff.1 (by omega)⟩⟩
  · exact ⟨_, cap, e, hle, hl.symm, .inr ⟨_, rfl, h.cells (by rw [e]; rfl)⟩⟩

theorem ReadsB.reads {w : World} {a : Option Addr} {c : Nat} {zs : List Nat} (h : ReadsB w a c zs) : Reads w (.slice a zs.length c) zs := by
  refine ⟨a, c, rfl, fun h0 => ?_⟩
  rcases h with ⟨_, _, rfl⟩ | ⟨ad, rfl, hc⟩
  · simp at h0
  · exact ⟨ad, rfl, hc⟩

theorem reads_x (w : World) : ∀ (j : Nat) u, (([120] : List Nat).map bv)[j]? = some u → (w.alloc (.cells #[.int .u8 120] 5 (1, 2))).cell? ((⟨w.heap.size, 0, none⟩ : Addr).add j) = some u := fun j u hj => by
  have ea : (⟨w.heap.size, 0, none⟩ : Addr).add j = ⟨w.heap.size, j, none⟩ := by by_cases hq : j = 0 <;> simp [Addr.add, hq]
  rw [ea]
  simp only [World.cell?, heap_alloc_new]
  match j, hj with
  | 0, hj => simpa [bv] using hj

theorem conv_x (w : World) : (convert 22 22 (.slice (some ⟨w.heap.size, 0, none⟩) 1 1)).run Try.prog (w.alloc (.cells #[.int .u8 120] 5)) = .ok (.slice (some ⟨w.heap.size, 0, none⟩) 1 1) (w.alloc (.cells #[.int .u8 120] 5 (1, 2))) :=
  Lib.run_convert_bytes_const w 22 5 #[.int .u8 120] 1 1 Try.underlying22 Try.underlying5

/-- "x", three times -/
theorem probe_exp (w : World) : Calls Try.prog 14 #[.slice (some ⟨w.heap.size, 0, none⟩) 1 1, .slice (some ⟨w.heap.size + 1, 0, none⟩) 1 1] ((w.alloc (.cells #[.int .u8 120] 5 (1, 2))).alloc (.cells #[.int .i64 3, .int .i64 1, .int .u8 0] 37)) fun e w' => ∃ v, e = .returned (.tuple #[v, .int .i64 0]) ∧ Reads w' v [120, 120, 120] ∧ Below w.heap.size w w' := by
  have hb : ReadsB (w.alloc (.cells #[.int .u8 120] 5 (1, 2))) (some ⟨w.heap.size, 0, none⟩) 1 [120] := .inr ⟨_, rfl, reads_x w⟩
  have hbel : Below w.heap.size w ((w.alloc (.cells #[.int .u8 120] 5 (1, 2))).alloc (.cells #[.int .i64 3, .int .i64 1, .int .u8 0] 37)) := ((Below.refl _ _).alloc (Nat.le_refl _) _).alloc (by simp) _
  have hb2 := (hb.stays ((Below.refl _ _).alloc (Nat.le_refl _) (.cells #[.int .i64 3, .int .i64 1, .int .u8 0] 37))).reads.u (by decide)
  have ht : ReadsTN ((w.alloc (.cells #[.int .u8 120] 5 (1, 2))).alloc (.cells #[.int .i64 3, .int .i64 1, .int .u8 0] 37)) (some ⟨w.heap.size + 1, 0, none⟩) 1 [⟨3, 1, 0⟩] := .inr ⟨_, rfl, by decide, fun j u hj => by
    have e : (⟨w.heap.size + 1, 0, none⟩ : Addr).add j = ⟨(w.alloc (.cells #[.int .u8 120] 5 (1, 2))).heap.size, j, none⟩ := by by_cases hq : j = 0 <;> simp [Addr.add, hq]
    rw [e]
    refine box_cell _ _ _ _ _ ?_
    match j, hj with
    | 0, hj => simpa [tcells] using hj
    | 1, hj => simpa [tcells] using hj
    | 2, hj => simpa [tcells] using hj⟩
  refine (expand_ok [120] [⟨3, 1, 0⟩] _ _ _ _ hb2 ht.t (Nat.le_refl _) (fun j hj => by match j, hj with | 0, _ => decide) (by decide) (by decide)).mono ?_
  rintro e w' ⟨v, x, rfl, hx, hb'⟩
  have hg : Good ([120] : List Nat).length [⟨3, 1, 0⟩] 1 := fun j hj => by
    match j, hj with
    | 0, _ => exact .inr (.inr (.inr ⟨.inr ⟨by decide, by decide, rfl⟩, by decide, by decide, rfl⟩))
  rcases hx with ⟨hf, _⟩ | ⟨_, rfl, ho⟩
  · exact absurd hg hf.not
  · refine ⟨v, rfl, ?_, hbel.trans (hb'.mono hbel.size)⟩
    obtain ⟨a, c, rfl, _, hn, hr⟩ := own_readsB ho
    have := hr.reads
    rw [show mades [120] [⟨3, 1, 0⟩] ([⟨3, 1, 0⟩] : List Tok).length = [120, 120, 120] by decide] at this ⊢
    exact this

end Go.Proofs.Ytabnfnejlffioaa
