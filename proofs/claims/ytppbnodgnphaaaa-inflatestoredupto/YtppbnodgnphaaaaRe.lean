/- A reading of packed bytes in memory, and what its calls may change. -/
import Derived.Test.YtppbnodgnphaaaaInflC
import Derived.Test.YtppbnodgnphaaaaCGet
import Derived.Test.YtppbnodgnphaaaaLooks
namespace Go.Proofs.Ytppbnodgnphaaaa
open Go.RowKit Mth Infl
set_option maxRecDepth 100000
set_option linter.unusedVariables false

/-- a reading: its reader of bits, what has come out, the most -/
structure RAt (w : World) (B rb rp g : Nat) (zs : List Nat) (p : Nat) (v : Value) (out : List Nat) (most : Nat) (sv dv : Value) : Prop where
  blk : w.heap[rb]? = some (.cells #[.pointer (some ⟨rp, 0, none⟩), .int .i64 (most : Int), v, sv, dv] 57 (0, 0))
  rd : ROk w rp false g zs p
  row : w.ownsRow B 5 1 v out.length (out.map bv)
  small : ∀ z ∈ out, z < 256
  lb : rb < B
  lp : rp < B
  lg : g < B
  ne : rp ≠ rb
  ng : g ≠ rb
  ol : out.length ≤ most
  hB : B ≤ w.heap.size

/-- what a call through it may change -/
structure Chg (rb rp : Nat) (v0 : Value) (w0 : World) (v : Value) (w : World) : Prop where
  os : w.os = w0.os
  tape : w.tape = w0.tape
  output : w.output = w0.output
  size : w0.heap.size ≤ w.heap.size
  keep : ∀ k, k < w0.heap.size → k ≠ rb → k ≠ rp → v0.ownBlock ≠ some k → w.heap[k]? = w0.heap[k]?
  lies : v.ownBlock = v0.ownBlock ∨ ∃ g, v.ownBlock = some g ∧ w0.heap.size ≤ g

section
variable {rb rp : Nat} {v0 v v1 v2 : Value} {w0 w w1 w2 w' : World} {B g p q most : Nat} {zs out : List Nat} {sv dv : Value}

theorem Chg.refl (rb rp : Nat) (v : Value) (w : World) : Chg rb rp v w v w := ⟨rfl, rfl, rfl, Nat.le_refl _, fun _ _ _ _ _ => rfl, .inl rfl⟩

theorem Chg.trans (h : Chg rb rp v0 w0 v1 w1) (k : Chg rb rp v1 w1 v2 w2) : Chg rb rp v0 w0 v2 w2 where
  os := k.os.trans h.os
  tape := k.tape.trans h.tape
  output := k.output.trans h.output
  size := Nat.le_trans h.size k.size
  keep := fun b hb hne hne2 hv => by
    have hs := h.size
    rw [k.keep b (by omega) hne hne2 (by
      rcases h.lies with e | ⟨g, e, hg⟩
      · rw [e]; exact hv
      · rw [e]; intro c; injection c with c; omega), h.keep b hb hne hne2 hv]
  lies := by
    have hs := h.size
    rcases k.lies with e | ⟨g, e, hg⟩
    · rw [e]; exact h.lies
    · exact .inr ⟨g, e, by omega⟩

theorem Chg.drewN (h : Chg rb rp v0 w0 v w) (n : Nat) : Chg rb rp v0 w0 v (w.drewN n) := ⟨h.os, h.tape, h.output, h.size, h.keep, h.lies⟩

theorem Chg.only (rb : Nat) (v : Value) (h : Only rp w w') : Chg rb rp v w v w' := ⟨h.os, h.tape, h.output, h.size, fun k h1 _ h3 _ => h.keep k h1 h3, .inl rfl⟩

theorem Chg.of_below (rb rp : Nat) (v : Value) (h : Below w.heap.size w w') : Chg rb rp v w v w' := ⟨h.os, h.tape, h.output, h.size, fun k h1 _ _ _ => h.block k h1, .inl rfl⟩

theorem Chg.below {C : Nat} (h : Chg rb rp v0 w0 v w) (h1 : C ≤ rb) (h2 : C ≤ rp) (h3 : C ≤ w0.heap.size) (h4 : ∀ k, v0.ownBlock = some k → C ≤ k) : Below C w0 w :=
  ⟨h.os, h.tape, h.output, h.size, fun k hk => h.keep k (by omega) (by omega) (by omega) (fun e => by have := h4 k e; omega)⟩

theorem RAt.c0 (h : RAt w B rb rp g zs p v out most sv dv) : w.cell? ⟨rb, 0, none⟩ = some (.pointer (some ⟨rp, 0, none⟩)) := by simp [World.cell?, h.blk]
theorem RAt.c1 (h : RAt w B rb rp g zs p v out most sv dv) : w.cell? ⟨rb, 1, none⟩ = some (.int .i64 (most : Int)) := by simp [World.cell?, h.blk]
theorem RAt.c2 (h : RAt w B rb rp g zs p v out most sv dv) : w.cell? ⟨rb, 2, none⟩ = some v := by simp [World.cell?, h.blk]
theorem RAt.c3 (h : RAt w B rb rp g zs p v out most sv dv) : w.cell? ⟨rb, 3, none⟩ = some sv := by simp [World.cell?, h.blk]
theorem RAt.c4 (h : RAt w B rb rp g zs p v out most sv dv) : w.cell? ⟨rb, 4, none⟩ = some dv := by simp [World.cell?, h.blk]
theorem RAt.fz (h : RAt w B rb rp g zs p v out most sv dv) (o : Nat) : w.frozen? ⟨rb, o, none⟩ = false := by simp [World.frozen?, h.blk]
theorem RAt.lt (h : RAt w B rb rp g zs p v out most sv dv) : rb < w.heap.size := heap_lt h.blk
theorem RAt.own (h : RAt w B rb rp g zs p v out most sv dv) {k : Nat} (e : v.ownBlock = some k) : B ≤ k ∧ k < w.heap.size := h.row.lt k e

theorem RAt.slice (h : RAt w B rb rp g zs p v out most sv dv) : ∃ a c, v = .slice a out.length c := by
  rcases h.row.2 with ⟨e, hn⟩ | ⟨g, c, cur, e, _⟩
  · exact ⟨none, 0, by rw [e, hn]⟩
  · exact ⟨_, c, e⟩

theorem RAt.drewN (h : RAt w B rb rp g zs p v out most sv dv) (n : Nat) : RAt (w.drewN n) B rb rp g zs p v out most sv dv :=
  ⟨h.blk, h.rd.drewN n, own_keep h.row (fun _ _ => rfl), h.small, h.lb, h.lp, h.lg, h.ne, h.ng, h.ol, h.hB⟩

theorem RAt.only (h : RAt w B rb rp g zs p v out most sv dv) (ho : Only rp w w') (hr : ROk w' rp false g zs q) : RAt w' B rb rp g zs q v out most sv dv :=
  ⟨by rw [ho.keep rb h.lt (by have := h.ne; omega)]; exact h.blk, hr, own_keep h.row (fun k e => ho.keep k (h.own e).2 (by have := (h.own e).1; have := h.lp; omega)), h.small, h.lb, h.lp, h.lg, h.ne, h.ng, h.ol, by have := ho.size; have := h.hB; omega⟩

theorem RAt.below (h : RAt w B rb rp g zs p v out most sv dv) (hb : Below w.heap.size w w') : RAt w' B rb rp g zs p v out most sv dv :=
  h.only (Only.of_below hb) (h.rd.keep (hb.block _ h.rd.lt) (hb.block _ (heap_lt h.rd.row)))

theorem RAt.read (h : RAt w B rb rp g zs p v out most sv dv) (k q : Nat) (hq : q ≤ 8 * zs.length) : RAt ((w.drewN k).setCell ⟨rp, 3, none⟩ (.int .i64 (q : Int))) B rb rp g zs q v out most sv dv :=
  h.only ((Only.drewN rp w k).set 3 _) ((h.rd.drewN k).set q hq)

/-- the fixed codes are put there -/
theorem RAt.codes (h : RAt w B rb rp g zs p v out most sv dv) (sv' dv' : Value) : RAt ((w.setCell ⟨rb, 3, none⟩ sv').setCell ⟨rb, 4, none⟩ dv') B rb rp g zs p v out most sv' dv' := by
  have e : ∀ k, k ≠ rb → ((w.setCell ⟨rb, 3, none⟩ sv').setCell ⟨rb, 4, none⟩ dv').heap[k]? = w.heap[k]? := fun k hk => by
    rw [heap_setCell_other _ _ _ _ (by exact hk), heap_setCell_other _ _ _ _ (by exact hk)]
  refine ⟨?_, h.rd.keep (e rp h.ne) (e g h.ng), own_keep h.row (fun k hk => e k (by have := (h.own hk).1; have := h.lb; omega)), h.small, h.lb, h.lp, h.lg, h.ne, h.ng, h.ol, by simpa using h.hB⟩
  rw [heap_setCell_same _ rb 4 _ _ _ (heap_setCell_same _ rb 3 _ _ _ h.blk)]
  simp

theorem Chg.codes (h : Chg rb rp v0 w0 v w) (sv' dv' : Value) : Chg rb rp v0 w0 v ((w.setCell ⟨rb, 3, none⟩ sv').setCell ⟨rb, 4, none⟩ dv') :=
  ⟨h.os, h.tape, h.output, by simpa using h.size, fun k h1 h2 h3 h4 => by rw [heap_setCell_other _ _ _ _ (by exact h2), heap_setCell_other _ _ _ _ (by exact h2)]; exact h.keep k h1 h2 h3 h4, h.lies⟩

/-- more comes out: the row has grown, and is put there -/
theorem RAt.grow (h : RAt w B rb rp g zs p v out most sv dv) (hb : Below w.heap.size w w1) {g' cap : Nat} {ys : List Nat} (hy : ∀ z ∈ ys, z < 256) (hl : out.length + ys.length ≤ most)
    (hown : w2.ownsRow B 5 1 (.slice (some ⟨g', 0, none⟩) (out.length + ys.length) cap) (out.length + ys.length) (out.map bv ++ ys.map bv)) (hg : w1.grownBy w2 v.ownBlock) (hat : v.ownBlock = some g' ∨ w.heap.size ≤ g') :
    RAt (w2.setCell ⟨rb, 2, none⟩ (.slice (some ⟨g', 0, none⟩) (out.length + ys.length) cap)) B rb rp g zs p (.slice (some ⟨g', 0, none⟩) (out.length + ys.length) cap) (out ++ ys) most sv dv ∧
    Chg rb rp v w (.slice (some ⟨g', 0, none⟩) (out.length + ys.length) cap) (w2.setCell ⟨rb, 2, none⟩ (.slice (some ⟨g', 0, none⟩) (out.length + ys.length) cap)) := by
  have hlt := h.lt
  have hsz := hb.size
  have hg' : B ≤ g' := by
    rcases hat with e | e
    · exact (h.own e).1
    · have := h.hB; omega
  have hkeep : ∀ k, k < w.heap.size → v.ownBlock ≠ some k → w2.heap[k]? = w.heap[k]? := fun k hk hne => by
    rw [hg.block k (by omega) (fun e => hne e.symm), hb.block k hk]
  have hvb : ∀ k, k < B → v.ownBlock ≠ some k := fun k hk e => by have := (h.own e).1; omega
  have hbk := (hkeep rb hlt (hvb rb h.lb)).trans h.blk
  refine ⟨⟨?_, ?_, ?_, ?_, h.lb, h.lp, h.lg, h.ne, h.ng, by rw [List.length_append]; exact hl, ?_⟩, ?_⟩
  · rw [heap_setCell_same w2 rb 2 _ _ _ hbk]; simp
  · refine h.rd.keep ?_ ?_
    · rw [heap_setCell_other _ _ _ _ (by exact h.ne)]; exact hkeep rp h.rd.lt (hvb rp h.lp)
    · rw [heap_setCell_other _ _ _ _ (by exact h.ng)]; exact hkeep g (heap_lt h.rd.row) (hvb g h.lg)
  · rw [List.length_append, List.map_append]
    exact own_keep hown (fun k e => heap_setCell_other _ _ _ _ (by simp only [Value.ownBlock, Option.some.injEq] at e; have := h.lb; show k ≠ rb; omega))
  · intro z hz
    rw [List.mem_append] at hz
    rcases hz with hz | hz
    · exact h.small z hz
    · exact hy z hz
  · have := hg.size; have := h.hB; simp; omega
  · have h1 := hg.size
    refine ⟨hg.os.trans hb.os, hg.tape.trans hb.tape, hg.output.trans hb.output, by simp; omega, fun k hk hne _ hv => ?_, ?_⟩
    · rw [heap_setCell_other _ _ _ _ (by exact hne)]
      exact hkeep k hk hv
    · rcases hat with e | e
      · exact .inl (by rw [e]; rfl)
      · exact .inr ⟨g', rfl, e⟩

/-- a code that stands beside a reading -/
structure COk (ls : List Nat) (w : World) (B cp : Nat) (v : Value) : Prop where
  ex : ∃ lo hi, Code ls w cp lo hi ∧ B ≤ lo ∧ hi ≤ w.heap.size ∧ ∀ k, v.ownBlock = some k → k < lo ∨ hi ≤ k

theorem COk.chg {ls : List Nat} {cp : Nat} (h : COk ls w0 B cp v0) (c : Chg rb rp v0 w0 v w) (lb : rb < B) (lp : rp < B) : COk ls w B cp v := by
  obtain ⟨lo, hi, ⟨wg, g, cap, N, base, A, B', S, H, ix, ky, hc⟩, h1, h2, h3⟩ := h.ex
  refine ⟨lo, hi, ⟨wg, g, cap, N, base, A, B', S, H, ix, ky, hc.keep (fun k k1 k2 => ?_)⟩, h1, by have := c.size; omega, fun k e => ?_⟩
  · exact c.keep k (by omega) (by omega) (by omega) (fun e => by have := h3 k e; omega)
  · rcases c.lies with e' | ⟨g', e', hg'⟩
    · exact h3 k (by rw [← e']; exact e)
    · rw [e'] at e; injection e with e; omega

theorem numAt_num (f : Nat → Bool) (p n : Nat) : numAt false n (fun i => f (p + i)) = num f p n := by
  have key : ∀ i, i ≤ n → acc false n (fun i => f (p + i)) i = num f p i := by
    intro i
    induction i with
    | zero => intro _; rfl
    | succ i ih =>
      intro hi
      rw [acc, ih (by omega), num]
      have hlt := num_lt f p i
      rw [show rk false n i = i from by simp [rk], Nat.or_comm, ← Nat.shiftLeft_add_eq_or_of_lt hlt, Nat.shiftLeft_eq]
      omega
  exact key n (Nat.le_refl _)

theorem bitIn_is (zs : List Nat) (i : Nat) : bitIn false zs i = (Infl.bitsOf zs).f i := by
  unfold bitIn Infl.bitsOf
  simp [rk]

/-- what has been got: a number and the place behind it, or that bits end -/
def GotIs (n : Nat) (zs : List Nat) (p x q b : Nat) : Prop := (b = 0 ∧ Infl.get n (Infl.bitsOf zs) p = .ok x q ∧ x < 2 ^ n ∧ q = p + n) ∨ (b = 10 ∧ x = 0 ∧ Infl.get n (Infl.bitsOf zs) p = .bad 10)

theorem rget (n : Nat) (h : RAt w B rb rp g zs p v out most sv dv) (hz : zs.length ≤ 140737488355328) (hn : n ≤ 64) :
    Calls Try.prog 27 #[.pointer (some ⟨rp, 0, none⟩), .int .i64 (n : Int)] w fun e w' => ∃ x q b : Nat, e = .returned (.tuple #[.int .u64 (x : Int), .int .i64 (b : Int)]) ∧ RAt w' B rb rp g zs q v out most sv dv ∧ Chg rb rp v w v w' ∧ GotIs n zs p x q b := by
  by_cases hp : p + n ≤ 8 * zs.length
  · refine (get_ok rp g p false zs (n : Int) w h.rd hz (by omega) (by omega) (by simp; omega)).mono ?_
    rintro e w' ⟨rfl, k, rfl⟩
    refine ⟨num (Infl.bitsOf zs).f p n, p + n, 0, ?_, ?_, Chg.only rb v ((Only.drewN rp w k).set 3 _), .inl ⟨rfl, ?_, num_lt _ _ _, rfl⟩⟩
    · rw [show (fun i => bitIn false zs (p + i)) = (fun i => (Infl.bitsOf zs).f (p + i)) from funext fun i => bitIn_is zs (p + i)]
      rw [show ((n : Int).toNat) = n from by simp, numAt_num]
      rfl
    · rw [show ((p + (n : Int).toNat : Nat) : Int) = ((p + n : Nat) : Int) from by simp]
      exact h.read k (p + n) hp
    · unfold Infl.get; rw [bitsOf_m, if_pos hp]
  · refine (get_end rp g p false zs (n : Int) w h.rd hz (by omega) (by omega) (by omega)).mono ?_
    rintro e w' ⟨rfl, k, rfl⟩
    refine ⟨0, p, 10, rfl, h.drewN k, (Chg.refl _ _ _ _).drewN k, .inr ⟨rfl, rfl, ?_⟩⟩
    unfold Infl.get; rw [bitsOf_m, if_neg hp]

/-- what a word has told -/
def WordIs (ls zs : List Nat) (p s q b : Nat) : Prop := (b = 0 ∧ Infl.word gg ls (Infl.bitsOf zs) p = .ok s q ∧ s < ls.length ∧ p < q ∧ q ≤ 8 * zs.length) ∨ (b ≠ 0 ∧ b < 100 ∧ Infl.word gg ls (Infl.bitsOf zs) p = .bad b)

theorem rword {ls : List Nat} {cp : Nat} (h : RAt w B rb rp g zs p v out most sv dv) (hz : zs.length ≤ 140737488355328) (hc : COk ls w B cp v) :
    Calls Try.prog 50 #[.pointer (some ⟨cp, 0, none⟩), .pointer (some ⟨rp, 0, none⟩)] w fun e w' => ∃ s q b : Nat, e = .returned (.tuple #[.int .i64 (s : Int), .int .i64 (b : Int)]) ∧ RAt w' B rb rp g zs q v out most sv dv ∧ Chg rb rp v w v w' ∧ WordIs ls zs p s q b := by
  obtain ⟨lo, hi, hcode, hlo, hhi, _⟩ := hc.ex
  have hgood : Good ls := by obtain ⟨_, _, _, _, _, _, _, _, _, _, _, h⟩ := hcode; exact h.good
  refine (cget_ok ls cp lo hi rp g p false zs w hcode h.rd hz (by have := h.lp; omega) hhi).mono ?_
  rintro e w' ⟨s, n, x, rfl, hget, hrd, honly⟩
  have hw : gg ls (fun i => (Infl.bitsOf zs).f (p + i)) (8 * zs.length - p) = (s, n, x) := by
    refine gg_of hgood ?_
    rw [show (fun i => (Infl.bitsOf zs).f (p + i)) = (fun i => bitIn false zs (p + i)) from funext fun i => (bitIn_is zs (p + i)).symm]
    exact hget
  refine ⟨s, p + n, x, rfl, h.only honly hrd, Chg.only rb v honly, ?_⟩
  have hle := hget.1
  have hple := h.rd.le
  rcases hget.2.2 with ⟨rfl, h1, h2⟩ | ⟨rfl, _, _⟩ | ⟨rfl, _, _⟩
  · refine .inl ⟨rfl, ?_, h2.1, by omega, by omega⟩
    unfold Infl.word
    rw [bitsOf_m, hw]
  · refine .inr ⟨by decide, by decide, ?_⟩
    unfold Infl.word
    rw [bitsOf_m, hw]
  · refine .inr ⟨by decide, by decide, ?_⟩
    unfold Infl.word
    rw [bitsOf_m, hw]

set_option maxHeartbeats 1000000 in
theorem fit_no (n : Nat) (h : RAt w B rb rp g zs p v out most sv dv) (hm : most ≤ 268435456) (hn : most < out.length + n) (hn2 : n ≤ 1000000) :
    Calls Try.prog 42 #[.pointer (some ⟨rb, 0, none⟩), .int .i64 (n : Int)] w fun e w' => e = .returned (.int .i64 3) ∧ ∃ k, w' = w.drewN k := by
  have c1 := h.c1
  have c2 := h.c2
  have hol := h.ol
  obtain ⟨a, c, rfl⟩ := h.slice
  have ht : (most : Int) - (out.length : Int) < (n : Int) := by omega
  clear h
  generalize out.length = ol at *
  go_enter Try.func42, Try.ntmps42
  go_wp2_with fail
  go_quiet (fail)
  go_wp2_with fail
  go_ret
  exact ⟨rfl, _, rfl⟩

set_option maxHeartbeats 1000000 in
theorem fit_yes (n : Nat) (h : RAt w B rb rp g zs p v out most sv dv) (hm : most ≤ 268435456) (hn : ¬ most < out.length + n) (hn2 : n ≤ 1000000) :
    Calls Try.prog 42 #[.pointer (some ⟨rb, 0, none⟩), .int .i64 (n : Int)] w fun e w' => e = .returned (.int .i64 0) ∧ ∃ k, w' = w.drewN k := by
  have c1 := h.c1
  have c2 := h.c2
  have hol := h.ol
  obtain ⟨a, c, rfl⟩ := h.slice
  have ht : ¬ (most : Int) - (out.length : Int) < (n : Int) := by omega
  clear h
  generalize out.length = ol at *
  go_enter Try.func42, Try.ntmps42
  go_wp2_with fail
  go_quiet (fail)
  go_wp2_with fail
  go_ret
  exact ⟨rfl, _, rfl⟩

end
end Go.Proofs.Ytppbnodgnphaaaa
