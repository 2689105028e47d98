/-
  For every order of bits and all acts that hold together at most 1048576 values, hamperlaw01.BitsWrites returns true, and its arguments read behind the call as they read before; the one condition is that size (the '..UptoSaid' form).
-/
import Derived.Test.YtcplockmnabccaaWrites
import Derived.ProofKit
import Derived.OpenShut
import Derived.ChangeOld
import Derived.SizedLaws
import Derived.JoinedCond
import Derived.Lib.SmallJoins
namespace Go.Proofs.Ytcplockmnabccaa.Wrs
open Go.ChangeShapes Go.WideShapes Go.ChangeAt Go.RowKit Go.Deep Go.Joins Mth

theorem own : ownKnob Try.prog.godebug = none := by kernel_rfl
theorem laidOut : laidOutB Try.prog = true := by kernel_rfl
theorem cells32 : Try.prog.cellsOf 32 = 4 := by kernel_rfl
theorem cells3 : Try.prog.cellsOf 3 = 1 := by kernel_rfl
theorem cells30 : Try.prog.cellsOf 30 = 1 := by kernel_rfl
theorem cells26 : Try.prog.cellsOf 26 = 1 := by kernel_rfl
theorem cells5 : Try.prog.cellsOf 5 = 1 := by kernel_rfl

theorem bulk_pos {H : Type} (d : DataW H) : 1 ≤ Rows.uptoBulk d := by
  cases d with
  | lit l => cases l <;> simp [Rows.uptoBulk]
  | _ => simp [Rows.uptoBulk]

theorem bulk_len {H : Type} (l : List (DataW H)) : l.length ≤ Rows.uptoBulkAll l := by
  induction l with
  | nil => simp [Rows.uptoBulkAll]
  | cons x r ih => have := bulk_pos x; simp only [Rows.uptoBulkAll, List.length_cons]; omega

theorem bulk_slice {H : Type} (elems spare : List (DataW H)) : elems.length ≤ Rows.uptoBulk (.slice elems spare) := by
  have := bulk_len elems
  simp only [Rows.uptoBulk]; omega


/-- An act: its cells, its bytes, and that its bytes are counted in its bulk. -/
theorem act_cells {H : Type} {enc : TypeId × Value → H} {w : World} {base n : Nat} {spare : Nat → Bool} {held : Bool} {cs : List Value} {y : DataW H × List MemPlace} (h : DataW.trod enc Try.prog w base spare held n 32 cs = some y) (hl : cs.length = 4) :
    ∃ (kd : Int) (V : Nat) (N : Int) (p : Option Addr) (c : Nat) (zs : List Nat), cs = [.int .i64 kd, .int .u64 (V : Int), .int .i64 N, .slice p zs.length c] ∧ V < 2 ^ 64 ∧ zs.length ≤ Rows.uptoBulk y.1 ∧ (∀ z ∈ zs, z < 256) ∧
      ((p = none ∧ c = 0 ∧ zs = []) ∨ ∃ ad, p = some ad ∧ ∀ (j : Nat) u, (zs.map bv)[j]? = some u → w.cell? (ad.add j) = some u) := by
  obtain ⟨y0, y1, y2, y3, m, hy, _, t0, t1, t2, t3⟩ := trod_struct4 Try.underlying32 h
  match cs, hl with
  | [c0, c1, c2, c3], _ =>
    simp [cells3, cells30, cells26] at t0 t1 t2 t3
    obtain ⟨kd, e0, _, _⟩ := DataW.trod_int Try.underlying3 t0
    obtain ⟨V, e1, _, w1⟩ := DataW.trod_int Try.underlying30 t1
    obtain ⟨N, e2, _, _⟩ := DataW.trod_int Try.underlying3 t2
    have hu := bounds_u64 w1
    obtain ⟨V', rfl⟩ := Int.eq_ofNat_of_zero_le hu.1
    have hb3 : Rows.uptoBulk y3.1 ≤ Rows.uptoBulk y.1 := by rw [hy]; simp only [Rows.uptoBulk, Rows.uptoBulkAll]; omega
    rcases open_ints Try.underlying26 Try.underlying5 cells5 t3 with ⟨e3, _⟩ | ⟨x, l, c, ys, e3, _, hl, hm, hz, hx, hcell, hwz⟩
    · simp at e0 e1 e2 e3
      exact ⟨kd, V', N, none, 0, [], by rw [e0, e1, e2, e3]; rfl, by omega, by simp, by simp, .inl ⟨rfl, rfl, rfl⟩⟩
    · simp at e0 e1 e2 e3
      have hb : ∀ z ∈ ys, 0 ≤ z ∧ z ≤ 255 := fun z hz => bounds_u8 (hwz z hz)
      have hyl : l ≤ ys.length := by rw [hz]; split <;> omega
      have hlen : ((ys.take l).map Int.toNat).length = l := by simp; omega
      refine ⟨kd, V', N, some x, c, (ys.take l).map Int.toNat, by rw [hlen, e0, e1, e2, e3], by omega, ?_, ?_, .inr ⟨x, rfl, fun j u hj => ?_⟩⟩
      · rw [hlen]
        refine Nat.le_trans ?_ hb3
        have h1 := bulk_slice (lits .u8 (ys.take l) : List (DataW H)) (lits .u8 (ys.drop l))
        rw [hx]
        refine Nat.le_trans ?_ h1
        simp [lits]; omega
      · intro z hz'
        obtain ⟨q, hq, rfl⟩ := List.mem_map.1 hz'
        have := hb q (List.mem_of_mem_take hq)
        omega
      · have hj2 : j < l := by
          have := (List.getElem?_eq_some_iff.1 hj).1
          simp at this; omega
        rw [hcell j (by omega)]
        rw [List.getElem?_map, List.getElem?_map, List.getElem?_take, if_pos hj2, List.getElem?_eq_getElem (by omega)] at hj
        simp [bv] at hj
        rw [← hj]
        have := hb ys[j] (List.getElem_mem _)
        simp [show j < ys.length by omega]
        omega

theorem tot_bulk {H : Type} (D : Nat → DataW H) (Zf : Nat → List Nat) : ∀ n, (∀ i, i < n → (Zf i).length ≤ Rows.uptoBulk (D i)) → tot Zf n ≤ Rows.uptoBulkAll ((List.range n).map D)
  | 0, _ => by simp [tot]
  | n + 1, h => by
    have ih := tot_bulk D Zf n (fun i hi => h i (by omega))
    have e : ∀ (l : List (DataW H)) (d : DataW H), Rows.uptoBulkAll (l ++ [d]) = Rows.uptoBulkAll l + Rows.uptoBulk d := fun l d => by
      induction l with
      | nil => simp [Rows.uptoBulkAll]
      | cons x r ih => simp only [List.cons_append, Rows.uptoBulkAll, ih]; omega
    rw [List.range_succ, List.map_append, List.map_cons, List.map_nil, e]
    have := h n (by omega)
    simp only [tot]
    omega

theorem contract (H : Type) (enc : TypeId × Value → H) (W : World) (base : Nat) (args : Array Value) (ds gs : List (DataW H)) (before : List MemPlace)
    (hval : ∀ (j : Nat) t v, Try.f3.params[j]? = some t → args[j]? = some v → Value.okWide Try.prog W .any base t v)
    (hW : DataW.Whole enc Try.prog Try.f3.params.toList Rows.bitsWritesSpec.vars false W args.toList ds gs before) (hk : Rows.uptoSmall H (ds ++ gs) = true) :
    Calls Try.prog 3 args W fun e W' => ∃ v, e = .returned v ∧ Rows.bitsWritesSpec.post enc Try.prog Try.f3 false true false false W args v W' := by
  have hW' := hW
  obtain ⟨p, q, hA0, hV, rfl, hfz, hnd⟩ := hW
  have hA : DataW.TrodAll enc Try.prog W 0 (fun _ => true) true Try.f3.params.toList args.toList ds p := hA0
  rw [Try.params3] at hA hval
  obtain ⟨v0, vs0, d0, ds0, p0, q0, hargs, rfl, rfl, h0, r0⟩ := trodAll_cons hA
  obtain ⟨v2, vs2, d2, ds2, p2, q2, rfl, rfl, rfl, h2, r2⟩ := trodAll_cons r0
  obtain ⟨rfl, rfl, rfl⟩ := trodAll_nil r2
  obtain rfl : args = #[v0, v2] := by cases args; simp_all
  obtain ⟨rfl, rfl⟩ := trodVars_none hV
  have hb : Rows.uptoBulkAll ([d0, d2] ++ []) ≤ 1048576 := of_decide_eq_true hk
  simp only [List.append_nil, Rows.uptoBulkAll] at hb
  obtain ⟨a0, rfl, rfl, rfl⟩ := open_bool Try.underlying4 (hval 0 4 v0 rfl rfl) h0
  obtain ⟨a2, len2, cap2, rfl⟩ := okWide_slice Try.underlying22 (hval 1 22 v2 rfl rfl)
  have k2 := h2
  have lt2 : ∀ x ∈ p2, x.block < W.heap.size := by obtain ⟨m, hm⟩ := k2; exact DataW.trod_lt m _ _ _ hm
  obtain ⟨b, off, Kf, Nf, Vf, Ep, Ec, Zf, hal, hacts, hlen, htot⟩ : ∃ b off Kf Nf Vf Ep Ec Zf, (0 < len2 → a2 = some ⟨b, off, none⟩) ∧ Acts W b off len2 Kf Vf Nf Ep Ec Zf ∧ len2 ≤ 2000000 ∧ tot Zf len2 ≤ 2000000 := by
    obtain ⟨fuel, hf⟩ := h2
    rcases open_slice Try.underlying22 hf with ⟨hcs, _⟩ | ⟨x, l, c, m, n, D, Pl, hcs, _, hl, hm, hmm, hx, hcell⟩
    · simp [Value.cells] at hcs
      obtain ⟨rfl, rfl, rfl⟩ := hcs
      exact ⟨0, 0, fun _ => 0, fun _ => 0, fun _ => 0, fun _ => none, fun _ => 0, fun _ => [], by omega, ⟨by omega, by omega, by omega, by omega, by omega, by omega, by omega⟩, by omega, by simp [tot]⟩
    · simp [Value.cells] at hcs
      obtain ⟨rfl, rfl, rfl⟩ := hcs
      simp only [Prod.mk.injEq] at hx
      have hbu : Rows.uptoBulkAll ((List.range len2).map D) ≤ 1048576 := by
        have e := hx.1
        have : Rows.uptoBulkAll ((List.range len2).map D) ≤ Rows.uptoBulk d2 := by rw [e]; simp only [Rows.uptoBulk]; omega
        omega
      have hlen : len2 ≤ 2000000 := by
        have := bulk_len ((List.range len2).map D)
        simp at this
        omega
      have hmm' : len2 ≤ m := by simp at hmm; omega
      have hcells : ∀ i, i < len2 → ∃ (kd : Int) (V : Nat) (N : Int) (p : Option Addr) (c : Nat) (zs : List Nat), (∀ k, k < 4 → W.cell? ((x.add (i * 4)).add k) = [Value.int .i64 kd, .int .u64 (V : Int), .int .i64 N, .slice p zs.length c][k]?) ∧ V < 2 ^ 64 ∧ zs.length ≤ Rows.uptoBulk (D i) ∧ (∀ z ∈ zs, z < 256) ∧
          ((p = none ∧ c = 0 ∧ zs = []) ∨ ∃ ad, p = some ad ∧ ∀ (j : Nat) u, (zs.map bv)[j]? = some u → W.cell? (ad.add j) = some u) := fun i hi => by
        obtain ⟨cs, hc1, hc2⟩ := hcell i (by omega)
        rw [cells32] at hc1
        obtain ⟨_, hcl, hc3⟩ := World.cells?_some hc1
        obtain ⟨kd, V, N, p, c, zs, rfl, hV⟩ := act_cells hc2 hcl
        exact ⟨kd, V, N, p, c, zs, hc3, hV⟩
      by_cases h0 : len2 = 0
      · subst h0
        exact ⟨0, 0, fun _ => 0, fun _ => 0, fun _ => 0, fun _ => none, fun _ => 0, fun _ => [], by omega, ⟨by omega, by omega, by omega, by omega, by omega, by omega, by omega⟩, by omega, by simp [tot]⟩
      · obtain ⟨xb, xo, xs⟩ := x
        have hspot : xs = none := by
          obtain ⟨kd, V, N, p, c, zs, hk, _⟩ := hcells 0 (by omega)
          have := hk 0 (by omega)
          simp at this
          simpa [Addr.add] using World.cell?_spot this
        subst hspot
        have had : ∀ i k, ((⟨xb, xo, none⟩ : Addr).add (i * 4)).add k = ⟨xb, xo + i * 4 + k, none⟩ := fun i k => by
          by_cases hi : i * 4 = 0 <;> by_cases hk : k = 0 <;> simp [Addr.add, hi, hk] <;> omega
        obtain ⟨F, hF⟩ : ∃ F : Nat → (Int × Nat × Int × Option Addr × Nat × List Nat), ∀ i, i < len2 → (∀ k, k < 4 → W.cell? ⟨xb, xo + i * 4 + k, none⟩ = [Value.int .i64 (F i).1, .int .u64 ((F i).2.1 : Int), .int .i64 (F i).2.2.1, .slice (F i).2.2.2.1 (F i).2.2.2.2.2.length (F i).2.2.2.2.1][k]?) ∧ (F i).2.1 < 2 ^ 64 ∧ (F i).2.2.2.2.2.length ≤ Rows.uptoBulk (D i) ∧ (∀ z ∈ (F i).2.2.2.2.2, z < 256) ∧
            (((F i).2.2.2.1 = none ∧ (F i).2.2.2.2.1 = 0 ∧ (F i).2.2.2.2.2 = []) ∨ ∃ ad, (F i).2.2.2.1 = some ad ∧ ∀ (j : Nat) u, ((F i).2.2.2.2.2.map bv)[j]? = some u → W.cell? (ad.add j) = some u) :=
          choose_lt (p := fun i (f : Int × Nat × Int × Option Addr × Nat × List Nat) => (∀ k, k < 4 → W.cell? ⟨xb, xo + i * 4 + k, none⟩ = [Value.int .i64 f.1, .int .u64 (f.2.1 : Int), .int .i64 f.2.2.1, .slice f.2.2.2.1 f.2.2.2.2.2.length f.2.2.2.2.1][k]?) ∧ f.2.1 < 2 ^ 64 ∧ f.2.2.2.2.2.length ≤ Rows.uptoBulk (D i) ∧ (∀ z ∈ f.2.2.2.2.2, z < 256) ∧
            ((f.2.2.2.1 = none ∧ f.2.2.2.2.1 = 0 ∧ f.2.2.2.2.2 = []) ∨ ∃ ad, f.2.2.2.1 = some ad ∧ ∀ (j : Nat) u, (f.2.2.2.2.2.map bv)[j]? = some u → W.cell? (ad.add j) = some u)) (fun i hi => by
            obtain ⟨kd, V, N, p, c, zs, hk, hV⟩ := hcells i hi
            exact ⟨(kd, V, N, p, c, zs), fun k hk4 => by rw [← had]; exact hk k hk4, hV⟩)
        refine ⟨xb, xo, fun i => (F i).1, fun i => (F i).2.2.1, fun i => (F i).2.1, fun i => (F i).2.2.2.1, fun i => (F i).2.2.2.2.1, fun i => (F i).2.2.2.2.2, fun _ => rfl,
          ⟨fun i hi => (hF i hi).1 0 (by omega), fun i hi => (hF i hi).1 1 (by omega), fun i hi => (hF i hi).1 2 (by omega), fun i hi => (hF i hi).1 3 (by omega), fun i hi => (hF i hi).2.1, fun i hi => (hF i hi).2.2.2.2, fun i hi => (hF i hi).2.2.2.1⟩, hlen, ?_⟩
        have := tot_bulk D (fun i => (F i).2.2.2.2.2) len2 (fun i hi => (hF i hi).2.2.1)
        omega
  clear hA0
  refine (walk a0 a2 b off len2 cap2 hal Kf Nf Vf Ep Ec Zf W hacts hlen htot).mono fun e W' ⟨he, bel⟩ => ?_
  subst he
  exact ⟨_, rfl, _, _, _, [], _, [], hW', trodAll_mk1 (shut_bool Try.underlying4 _), (trodAll_cons_mk (shut_bool Try.underlying4 _) (trodAll_cons_mk (Below.trod laidOut (by kernel_rfl) (of_decide_eq_true (by kernel_rfl)) k2 bel lt2) trodAll_mk0)), rfl, bel.frame _, fun h => by cases h⟩

set_option maxRecDepth 100000 in
theorem lifted (os : Os) (started : os.Started) (H : Type) (enc : TypeId × Value → H) (F : Stop.Interp) :
    ReturnsInHanded {} Try.checked os 3 .any ((Rows.OpenSpec.upto Rows.bitsWritesSpec).pre6 enc Try.prog Try.f3 Rows.bitsWritesUptoRow.domain false) (((Rows.OpenSpec.upto Rows.bitsWritesSpec).at F).post enc Try.prog Try.f3 false true false false) := by
  refine returnsInHanded_of_cond (C := Try.checked) (s := Rows.OpenSpec.upto Rows.bitsWritesSpec) (k := Rows.uptoSmall) rfl own started (by kernel_rfl) Try.func3
    (OpenSpec.witness (enc := enc) (C := Try.checked) (s := Rows.OpenSpec.upto Rows.bitsWritesSpec) (k := Rows.uptoSmall) rfl false ⟨#[], #[.bool false, .slice none 0 0], []⟩ 8 (by kernel_rfl) (by kernel_rfl) (by kernel_rfl)
      (x := ([.lit (.bool false), .nil], [], [])) (by kernel_rfl) rfl (by kernel_rfl)) ?_
  intro W base args ds gs before hval hW _ hk _
  exact contract H enc W base args ds gs before hval hW hk

theorem proved : Rows.BitsWritesUptoSaid :=
  OpenClaim.holds_of_cond 3 Try.f3 rfl rfl rfl rfl rfl rfl rfl ⟨rfl, rfl, rfl, rfl, rfl⟩ rfl rfl rfl rfl rfl (by kernel_rfl) Try.func3 (by kernel_rfl)
    (of_decide_eq_true (by kernel_rfl)) (by unfold Func.isWrapper; first | (rw [if_pos (by decide +kernel)]; kernel_rfl) | (rw [if_neg (by decide +kernel)]; exact ⟨rfl, rfl⟩))
    (fun os started H enc _ F => lifted os started H enc F)

end Go.Proofs.Ytcplockmnabccaa.Wrs
namespace Go.Proofs.Ytcplockmnabccaa
theorem bitsWritesUpto_holds : Rows.BitsWritesUptoSaid := Wrs.proved
end Go.Proofs.Ytcplockmnabccaa
