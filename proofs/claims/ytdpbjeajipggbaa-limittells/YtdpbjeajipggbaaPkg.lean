/- A package is made: the statement whose order Go leaves open. -/
import Derived.Test.YtdpbjeajipggbaaCoinTwo
import Derived.Test.YtdpbjeajipggbaaAidTwo
namespace Go.Proofs.Ytdpbjeajipggbaa
open Go.RowKit
set_option linter.unusedVariables false

section
variable {md : Region.Mode} {ops : Array Oper} {Q : Exit → Act → World → Prop} {S : World → Prop}

/-- ints appended to a row of one's own, alone -/
theorem held_app_ints {o : Oper} {fuel : Nat} {listed : Array Bool} {l : List Value} {df : List Deferred} {w : World} (i d : Nat) (s x : Operand) (hr : Region.ready md ops listed = [i]) (hi : ops[i]? = some o) (hd : o.dst = some d)
    (hw : Region.wanted o (yielded ops l.toArray) = true) (ho : o.op = .call { callee := .builtin .append, args := #[s, x], argTypes := #[22, 22] })
    (base : Nat) (v : Value) (n : Nat) (xs : List Int) (hs : Act.eval ⟨l.toArray, df⟩ s = v) (hown : w.ownsRow base 3 1 v n (xs.map iv))
    (sa : Option Addr) (m c : Nat) (zs : List Int) (hm : m = zs.length) (hx : Act.eval ⟨l.toArray, df⟩ x = .slice sa m c) (hrN : ReadsN w sa c zs) (h63 : n + m ≤ 1000000000) (hbase : base ≤ w.heap.size) (hS : ∀ w', w.grownBy w' v.ownBlock → S w')
    (h : ∀ v' w', w'.ownsRow base 3 1 v' (n + m) ((xs ++ zs).map iv) → w.grownBy w' v.ownBlock → wpAnyH Try.prog md ops Q S fuel (listed.setIfInBounds i true) ⟨(l.set d v').toArray, df⟩ w') : wpAnyH Try.prog md ops Q S (fuel + 1) listed ⟨l.toArray, df⟩ w := by
  obtain ⟨i0, hii, hz0, hz1, hz2⟩ := info_parts info3'
  have e : ∀ v', Act.put (⟨l.toArray, df⟩ : Act) o.dst v' = ⟨(l.set d v').toArray, df⟩ := fun v' => by rw [hd]; simp [Act.put]
  rcases hrN with ⟨rfl, rfl, rfl⟩ | ⟨ad, rfl, hc⟩
  · obtain rfl : m = 0 := hm
    have hrun := run_append_owned_none (P := Try.prog) (w := w) base 22 o.type 3 i0 1 Try.underlying22 hii v n (xs.map iv) hown
    refine held_one i d hr hi hd hw (v := v) (w' := w) ?_ (hS w (World.grownBy.refl _ _)) (h v w (by simpa using hown) (World.grownBy.refl _ _))
    simp [execOp, ho, resolve, invoke, builtin, hs, hx, hrun, Result.andThen]
  · refine wpAnyH_ready hr (by simp) (AllReadyH.cons hi (fun K hK => ?_) AllReadyH.nil)
    rw [if_pos hw]
    refine wp_append_own w s x 22 ho base 3 i0 _ 1 8 Try.underlying22 hii hz0 hz1 hz2 rfl (by decide) v n (xs.map iv) hs hown ad m c (zs.map iv) hx (by simp [hm]) hc
      (by intro u hu; simp at hu; obtain ⟨z, _, rfl⟩ := hu; rfl) (by unfold maxLen; omega) (by omega) hbase (fun v' w' h1 h2 h3 => ?_)
    rw [e]
    exact hK.out _ _ (hS w' h2) (fun _ => h v' w' (by simpa using h1) h2)

/-- one coin appended, alone -/
theorem held_app_coin {o : Oper} {fuel : Nat} {listed : Array Bool} {l : List Value} {df : List Deferred} {w : World} (i d : Nat) (s x : Operand) (hr : Region.ready md ops listed = [i]) (hi : ops[i]? = some o) (hd : o.dst = some d)
    (hw : Region.wanted o (yielded ops l.toArray) = true) (ho : o.op = .call { callee := .builtin .append, args := #[s, x], argTypes := #[45, 45] })
    (base : Nat) (v : Value) (n : Nat) (xs : List CV) (hs : Act.eval ⟨l.toArray, df⟩ s = v) (hown : w.ownsRow base 48 2 v n (ccells xs))
    (b off : Nat) (z : CV) (hx : Act.eval ⟨l.toArray, df⟩ x = .slice (some ⟨b, off, none⟩) 1 1) (hrC : ReadsC w (some ⟨b, off, none⟩) 1 [z]) (hz : Slices [z]) (h63 : n + 1 ≤ 10000000) (hbase : base ≤ w.heap.size) (hS : ∀ w', w.grownBy w' v.ownBlock → S w')
    (h : ∀ v' w', w'.ownsRow base 48 2 v' (n + 1) (ccells (xs ++ [z])) → w.grownBy w' v.ownBlock → wpAnyH Try.prog md ops Q S fuel (listed.setIfInBounds i true) ⟨(l.set d v').toArray, df⟩ w') : wpAnyH Try.prog md ops Q S (fuel + 1) listed ⟨l.toArray, df⟩ w := by
  obtain ⟨i0, hii, hz0, hz1, hz2⟩ := info_parts info48
  have e : ∀ v', Act.put (⟨l.toArray, df⟩ : Act) o.dst v' = ⟨(l.set d v').toArray, df⟩ := fun v' => by rw [hd]; simp [Act.put]
  refine wpAnyH_ready hr (by simp) (AllReadyH.cons hi (fun K hK => ?_) AllReadyH.nil)
  rw [if_pos hw]
  refine wp_append_own w s x 45 ho base 48 i0 _ 2 32 Try.underlying45 hii hz0 hz1 hz2 rfl (by decide) v n (ccells xs) hs hown ⟨b, off, none⟩ 1 1 (ccells [z]) hx (by rw [ccells_length]; rfl) hrC.news
    (ccells_one hz) (by unfold maxLen; omega) (by omega) hbase (fun v' w' h1 h2 h3 => ?_)
  rw [e]
  exact hK.out _ _ (hS w' h2) (fun _ => h v' w' (by rw [ccells_append]; exact h1) h2)

end

/-- two coins' cells -/
def TwoAt (gA gB wa wb : Nat) (sa sb : Value) (x : World) : Prop := x.cell? ⟨gA, 0, none⟩ = some (.int .i64 (wa : Int)) ∧ x.cell? ⟨gA, 1, none⟩ = some sa ∧ x.cell? ⟨gB, 0, none⟩ = some (.int .i64 (wb : Int)) ∧ x.cell? ⟨gB, 1, none⟩ = some sb

theorem TwoAt.stays {gA gB wa wb : Nat} {sa sb : Value} {x y : World} (h : TwoAt gA gB wa wb sa sb x) (hb : Below x.heap.size x y) : TwoAt gA gB wa wb sa sb y := ⟨cell_stays hb h.1, cell_stays hb h.2.1, cell_stays hb h.2.2.1, cell_stays hb h.2.2.2⟩

theorem TwoAt.grown {gA gB wa wb : Nat} {sa sb : Value} {x y : World} {ob : Option Nat} (h : TwoAt gA gB wa wb sa sb x) (hg : x.grownBy y ob) (hn : ∀ g, ob = some g → g ≠ gA ∧ g ≠ gB) : TwoAt gA gB wa wb sa sb y := by
  have key : ∀ g i u, (g = gA ∨ g = gB) → x.cell? ⟨g, i, none⟩ = some u → y.cell? ⟨g, i, none⟩ = some u := fun g i u hgg hc => by
    have hne : some g ≠ ob := fun e => by have := hn g e.symm; omega
    rw [World.cell?_of_block (hg.block g (cell_lt hc) hne)]
    exact hc
  exact ⟨key _ _ _ (.inl rfl) h.1, key _ _ _ (.inl rfl) h.2.1, key _ _ _ (.inr rfl) h.2.2.1, key _ _ _ (.inr rfl) h.2.2.2⟩

theorem rounds_ge (base : List Merge.Coin) : ∀ k, base.length ≤ (Merge.rounds base k).length
  | 0 => Nat.le_refl _
  | k + 1 => by rw [Merge.rounds, Merge.mrg_length]; omega

theorem base_all {os : List Int} {l : List Nat} (h : IsOrder os l) : Merge.AllIn (fun s => s < os.length) (Merge.baseOf (wt os) l) := fun c hc s hs => by
  unfold Merge.baseOf at hc
  obtain ⟨i, hi, rfl⟩ := List.mem_map.1 hc
  simp at hs
  subst hs
  exact ((h.mem _).1 hi).1

/-- what is small of the coins of a round -/
structure Small (os : List Int) (l : List Nat) (k : Nat) (cs : List Merge.Coin) : Prop where
  len : cs.length ≤ 131072
  ge : l.length ≤ cs.length
  worth : ∀ c ∈ cs, c.1 ≤ 24189255811072
  syms : ∀ c ∈ cs, c.2.length ≤ 1310720
  tot : (Merge.syms cs).length ≤ 1310720
  all : ∀ c ∈ cs, ∀ s ∈ c.2, s < os.length

theorem small_rounds {os : List Int} {l : List Nat} (h : IsOrder os l) (hl : l.length ≤ 65536) (hf : tot os os.length ≤ 1099511627776) (k : Nat) (hk : k < 20) : Small os l k (Merge.rounds (Merge.baseOf (wt os) l) k) := by
  have hb : (Merge.baseOf (wt os) l).length = l.length := Merge.base_length _ _
  have h1 := Merge.rounds_len (Merge.baseOf (wt os) l) k
  have h2 := rounds_ge (Merge.baseOf (wt os) l) k
  have hw : Merge.worth (Merge.baseOf (wt os) l) = Go.Proofs.Ytdpbjeajipggbaa.tot os os.length := by
    rw [← order_sum h, worths_fs]
    rfl
  have h3 := Merge.worth_rounds (Merge.baseOf (wt os) l) k
  rw [hw] at h3
  have h4 : (k + 1) * Go.Proofs.Ytdpbjeajipggbaa.tot os os.length ≤ 20 * 1099511627776 := Nat.mul_le_mul (by omega) hf
  have h5 := Merge.syms_rounds_len (Merge.baseOf (wt os) l) k
  rw [Merge.base_syms_len] at h5
  have h6 : (k + 1) * l.length ≤ 20 * 65536 := Nat.mul_le_mul (by omega) hl
  exact ⟨by omega, by omega, fun c hc => by have := Merge.coin_worth hc; omega, fun c hc => by have := Merge.coin_syms hc; omega, by omega, (base_all h).rounds k⟩

theorem NextAt.finish {next pk : List Merge.Coin} {wn ws w2 : World} {v v2 : Value} {nv pvv : List CV} {i : Nat} (h : NextAt next wn ws v nv) (hcr : CoinsR wn pvv pk) (hi : i ≤ pk.length) (ho : w2.ownsRow wn.heap.size 48 2 v2 (next.length + (pk.length - i)) (ccells (nv ++ pvv.drop i))) (hb : Below wn.heap.size wn w2) : CoinsL w2 v2 (next ++ pk.drop i) := by
  obtain ⟨a, c, rfl, hn, hr⟩ := own_coins ho
  have h1 := hcr.sub i (pk.length - i) (by omega)
  rw [List.take_of_length_le (by simp [hcr.1]), List.take_of_length_le (by simp)] at h1
  exact ⟨a, c, _, by simp, hr, (h.co.append h1).stays hb⟩

/-- no symbols lie in that block -/
def NotIn (g : Nat) (cv : List CV) : Prop := ∀ c ∈ cv, c.2.ownBlock ≠ some g

theorem NotIn.snoc {g : Nat} {cv : List CV} {x : Nat} {v : Value} (h : NotIn g cv) (hv : v.ownBlock ≠ some g) : NotIn g (cv ++ [(x, v)]) := fun c hc => by
  rw [List.mem_append] at hc
  rcases hc with hc | hc
  · exact h c hc
  · simp at hc; subst hc; exact hv

/-- a list of coins, nothing of it in block g -/
def CoinsG (g : Nat) (w : World) (v : Value) (cs : List Merge.Coin) : Prop := v.ownBlock ≠ some g ∧ ∃ a c cv, v = .slice a cs.length c ∧ ReadsC w a c cv ∧ CoinsR w cv cs ∧ NotIn g cv

theorem CoinsG.stays {g : Nat} {w w1 : World} (hb : Below w.heap.size w w1) {v : Value} {cs : List Merge.Coin} (h : CoinsG g w v cs) : CoinsG g w1 v cs := by
  obtain ⟨h0, a, c, cv, rfl, h1, h2, h3⟩ := h
  exact ⟨h0, a, c, cv, rfl, h1.stays hb, h2.stays hb, h3⟩

theorem SymV.lt {w : World} {v : Value} {l : List Nat} (h : SymV w v l) (h0 : l ≠ []) (g : Nat) (hg : w.heap.size ≤ g) : v.ownBlock ≠ some g := by
  obtain ⟨a, cap, rfl, hr⟩ := h
  rcases hr with ⟨_, _, e⟩ | ⟨ad, rfl, hc⟩
  · exfalso
    apply h0
    cases l with
    | nil => rfl
    | cons x r => simp [nats] at e
  · intro e
    simp [Value.ownBlock] at e
    have hl : 0 < l.length := List.length_pos_iff.2 h0
    have h1 := hc 0 (iv (l.getD 0 0 : Nat)) (by simp [nats, hl])
    have h2 := cell_lt h1
    rw [show ad.add 0 = ad by simp [Addr.add]] at h2
    omega

theorem CoinsL.g {w : World} {v : Value} {cs : List Merge.Coin} (h : CoinsL w v cs) (h0 : 0 < cs.length) (hs : ∀ c ∈ cs, c.2 ≠ []) : CoinsG w.heap.size w v cs := by
  obtain ⟨b, off, c, e, _, hget⟩ := h.get h0
  obtain ⟨sv, g1, _, _⟩ := hget 0 h0
  have hlt := cell_lt g1
  simp only at hlt
  refine ⟨?_, ?_⟩
  · rw [e]
    intro e'
    simp [Value.ownBlock] at e'
    omega
  · obtain ⟨a, c', cv, e2, h1, h2⟩ := h
    refine ⟨a, c', cv, e2, h1, h2, fun x hx => ?_⟩
    obtain ⟨j, hj, rfl⟩ := List.getElem_of_mem hx
    have hjc : j < cs.length := by rw [← h2.1]; exact hj
    have h3 := (h2.2 j hjc).2
    rw [List.getD_eq_getElem?_getD, List.getElem?_eq_getElem hj] at h3
    exact h3.lt (hs _ (Merge.getD_mem_coin cs j hjc)) _ (Nat.le_refl _)

theorem CoinsG.get {g : Nat} {w : World} {v : Value} {cs : List Merge.Coin} (h : CoinsG g w v cs) (h0 : 0 < cs.length) : ∃ b off c, v = .slice (some ⟨b, off, none⟩) cs.length c ∧ b ≠ g ∧ cs.length ≤ c ∧ ∀ j, j < cs.length → ∃ sv, w.cell? ⟨b, off + j * 2, none⟩ = some (.int .i64 ((cs.getD j Merge.d0).1 : Int)) ∧ w.cell? ⟨b, off + j * 2 + 1, none⟩ = some sv ∧ SymV w sv (cs.getD j Merge.d0).2 ∧ sv.ownBlock ≠ some g := by
  obtain ⟨hn, a, c, cv, rfl, h1, h2, h3⟩ := h
  rcases h1 with ⟨_, _, rfl⟩ | ⟨b, off, rfl, hl, hc⟩
  · have := h2.1
    simp at this
    omega
  · refine ⟨b, off, c, rfl, fun e => hn (by rw [e]; rfl), by rw [← h2.1]; exact hl, fun j hj => ⟨(cv.getD j cz).2, ?_, (hc j (by rw [h2.1]; exact hj)).2, (h2.2 j hj).2, ?_⟩⟩
    · rw [← (h2.2 j hj).1]
      exact (hc j (by rw [h2.1]; exact hj)).1
    · refine h3 (cv.getD j cz) ?_
      rw [List.getD_eq_getElem?_getD, List.getElem?_eq_getElem (by rw [h2.1]; exact hj)]
      exact List.getElem_mem _

theorem PackAt.doneG {g : Nat} {coins : List Merge.Coin} {wk ws : World} {v : Value} {pv : List CV} {p : Nat} (h : PackAt coins wk ws v pv p) (hp : p = (Merge.pack coins).length) (hg : g < wk.heap.size) (hn : NotIn g pv) : CoinsG g ws v (Merge.pack coins) := by
  refine ⟨fun e => by have := (h.own.lt g e).1; omega, ?_⟩
  obtain ⟨a, c, rfl, _, hr⟩ := own_coins h.own
  have hc := h.co.r
  rw [List.take_of_length_le (by omega)] at hc
  exact ⟨a, c, pv, by rw [hp], hr, hc, hn⟩

theorem NextAt.finishG {g : Nat} {next pk : List Merge.Coin} {wn ws w2 : World} {v v2 : Value} {nv pvv : List CV} {i : Nat} (h : NextAt next wn ws v nv) (hcr : CoinsR wn pvv pk) (hi : i ≤ pk.length) (ho : w2.ownsRow wn.heap.size 48 2 v2 (next.length + (pk.length - i)) (ccells (nv ++ pvv.drop i))) (hb : Below wn.heap.size wn w2) (hg : g < wn.heap.size) (hn : NotIn g nv) (hp : NotIn g pvv) : CoinsG g w2 v2 (next ++ pk.drop i) := by
  refine ⟨fun e => by have := (ho.lt g e).1; omega, ?_⟩
  obtain ⟨a, c, rfl, _, hr⟩ := own_coins ho
  have h1 := hcr.sub i (pk.length - i) (by omega)
  rw [List.take_of_length_le (by simp [hcr.1]), List.take_of_length_le (by simp)] at h1
  refine ⟨a, c, _, by simp, hr, (h.co.append h1).stays hb, fun x hx => ?_⟩
  rw [List.mem_append] at hx
  rcases hx with hx | hx
  · exact hn x hx
  · exact hp x (List.mem_of_mem_drop hx)

theorem base_nonempty (os : List Int) (l : List Nat) : ∀ c ∈ Merge.baseOf (wt os) l, c.2 ≠ [] := fun c hc => by
  unfold Merge.baseOf at hc
  obtain ⟨i, _, rfl⟩ := List.mem_map.1 hc
  simp

end Go.Proofs.Ytdpbjeajipggbaa
