/- The code by which lengths are told. -/
import Derived.Test.YtppbnodgnphaaaaCod
namespace Go.Proofs.Ytppbnodgnphaaaa
open Go.RowKit Mth Infl
set_option maxRecDepth 100000
set_option linter.unusedVariables false

/-- what innerCode tells -/
def InnIs (k : Nat) (w : World) (B rb rp g : Nat) (zs : List Nat) (p : Nat) (v : Value) (out : List Nat) (most : Nat) (sv dv : Value) (e : Ending) (w' : World) : Prop :=
  Chg rb rp v w v w' ∧ ((∃ (cp q : Nat) (own : List Nat), e = .returned (.tuple #[.pointer (some ⟨cp, 0, none⟩), .int .i64 0]) ∧ inn k (Infl.bitsOf zs) p = .ok own q ∧ own.length = 19 ∧ RAt w' B rb rp g zs q v out most sv dv ∧ COk own w' B cp v) ∨
    (∃ b : Nat, b ≠ 0 ∧ b < 100 ∧ e = .returned (.tuple #[.pointer none, .int .i64 (b : Int)]) ∧ inn k (Infl.bitsOf zs) p = .bad b))

/-- within it: i numbers of three bits have been read -/
structure InAt2 (k : Nat) (w ws : World) (B rb rp g : Nat) (zs : List Nat) (p : Nat) (v : Value) (out : List Nat) (most : Nat) (sv dv : Value) (go gl i : Nat) (vs : List Nat) (q : Nat) : Prop where
  len : vs.length = i
  le : ∀ x ∈ vs, x ≤ 7
  on : threes k [] (Infl.bitsOf zs) p = threes (k - i) vs (Infl.bitsOf zs) q
  rat : RAt ws B rb rp g zs q v out most sv dv
  chg : Chg rb rp v w v ws
  ord : ∀ j, j < 19 → ws.cell? ⟨go, j, none⟩ = some (.int .i64 ((order.getD j 0 : Nat) : Int))
  ints : IntsAt ws .i64 3 gl 19 (fun j => vs.getD (order.idxOf j) 0)

section
variable {rb rp : Nat} {v : Value} {w ws w1 w' : World} {B g p q most : Nat} {zs out : List Nat} {sv dv : Value} {k go gl i x q1 : Nat} {vs : List Nat}

theorem order_cells (w : World) (j : Nat) (hj : j < 19) : (w.alloc (.cells (order.map (fun z : Nat => iv (z : Int))).toArray 3)).cell? ⟨w.heap.size, j, none⟩ = some (.int .i64 ((order.getD j 0 : Nat) : Int)) := by
  simp only [World.cell?, heap_alloc_new]
  rw [List.getElem?_toArray, List.getElem?_map]
  rw [List.getD_eq_getElem?_getD, List.getElem?_eq_getElem (show j < order.length from hj)]
  rfl

/-- three bits more have been read, and the length is laid -/
theorem InAt2.next (h : InAt2 k w ws B rb rp g zs p v out most sv dv go gl i vs q) (hr : RAt ws B rb rp g zs q v out most sv dv) (hv : ∀ j, v.ownBlock = some j → j < w.heap.size) (hB : B ≤ w.heap.size) (hgo : w.heap.size ≤ go) (hgl : go < gl) (hik : i < k) (hk : k ≤ 19)
    (r1 : RAt w1 B rb rp g zs q1 v out most sv dv) (d1 : Chg rb rp v ws v w1) (g1 : Infl.get 3 (Infl.bitsOf zs) q = .ok x q1) (hx : x < 8) :
    InAt2 k w (w1.setCell ⟨gl, order.getD i 0, none⟩ (.int .i64 (x : Int))) B rb rp g zs p v out most sv dv go gl (i + 1) (vs ++ [x]) q1 := by
  have hlb := r1.lb
  have hlp := r1.lp
  have hlg := r1.lg
  have hgls : gl < ws.heap.size := h.ints.lt
  have hlen := h.len
  have hvgl : v.ownBlock ≠ some gl := fun e => by have := hv gl e; omega
  have hvgo : v.ownBlock ≠ some go := fun e => by have := hv go e; omega
  have hi1 : IntsAt w1 .i64 3 gl 19 (fun j => vs.getD (order.idxOf j) 0) := by
    unfold IntsAt
    rw [d1.keep gl hgls (by omega) (by omega) hvgl]
    exact h.ints
  have ho : Only gl w1 (w1.setCell ⟨gl, order.getD i 0, none⟩ (.int .i64 (x : Int))) := (Only.refl gl w1).set _ _
  refine ⟨by simp [hlen], fun y hy => ?_, ?_, r1.off (by omega) (by omega) (by omega) hvgl ho, (h.chg.trans d1).off (by omega) ho, fun j hj => ?_, ?_⟩
  · rw [List.mem_append] at hy
    rcases hy with hy | hy
    · exact h.le y hy
    · rw [List.mem_singleton.1 hy]; omega
  · rw [h.on, show k - i = (k - (i + 1)) + 1 from by omega, threes_next _ _ _ _ _ _ g1]
  · have hc := h.ord j hj
    rw [← hc]
    have e1 : w1.cell? ⟨go, j, none⟩ = ws.cell? ⟨go, j, none⟩ := World.cell?_of_block (d1.keep go (cell_lt hc) (by omega) (by omega) hvgo)
    rw [← e1]
    exact World.cell?_of_block (heap_setCell_other _ _ _ _ (by show go ≠ gl; omega))
  · refine (hi1.set (order.getD i 0) x).congr (fun j hj => ?_)
    rw [own_next vs x (by omega) j hj, hlen]
    unfold upd
    rfl

set_option maxHeartbeats 2000000 in
theorem innerCode_ok (h : RAt w B rb rp g zs p v out most sv dv) (hz : zs.length ≤ 140737488355328) (h4 : 4 ≤ k) (hk : k ≤ 19) :
    Calls Try.prog 54 #[.pointer (some ⟨rb, 0, none⟩), .int .i64 (k : Int)] w fun e w' => InnIs k w B rb rp g zs p v out most sv dv e w' := by
  have hm : ∀ w, (Instr.makeSlice 35 (.int .i64 19) (.int .i64 19)).run Try.prog w = .ok (.slice (some ⟨w.heap.size, 0, none⟩) 19 19) (w.alloc (.cells (icells .i64 19 (fun _ => 0)) 3)) := fun w => ints_made w 19 (by decide)
  have hki : (k : Int) ≤ 19 := by omega
  have HST : Hid (InAt2 k w ((w.alloc (.cells (order.map (fun z : Nat => iv (z : Int))).toArray 3)).alloc (.cells (icells .i64 19 (fun _ => 0)) 3)) B rb rp g zs p v out most sv dv w.heap.size (w.heap.size + 1) 0 [] p) := hide (by
    have hb : Below w.heap.size w ((w.alloc (.cells (order.map (fun z : Nat => iv (z : Int))).toArray 3)).alloc (.cells (icells .i64 19 (fun _ => 0)) 3)) := ((Below.refl _ _).alloc (Nat.le_refl _) _).alloc (by simp) _
    refine ⟨rfl, fun x hx => by simp at hx, rfl, h.below hb, Chg.of_below _ _ _ hb, fun j hj => ?_, ?_⟩
    · rw [← order_cells w j hj]
      exact World.cell?_of_block (Below.heap_alloc _ _ _ (by simp))
    · unfold IntsAt
      rw [show w.heap.size + 1 = (w.alloc (.cells (order.map (fun z : Nat => iv (z : Int))).toArray 3)).heap.size by simp, heap_alloc_new]
      rfl)
  have HV : Hid ((∀ j, v.ownBlock = some j → j < w.heap.size) ∧ B ≤ w.heap.size) := hide ⟨fun j e => (h.own e).2, h.hB⟩
  clear h
  go_enter Try.func54, Try.ntmps54
  go_wp2_with fail
  refine (order_ok w).mono ?_
  rintro e w1 ⟨rfl, rfl⟩
  go_wp2_with fail
  clear hm
  obtain ⟨go, hgo⟩ : ∃ go, go = w.heap.size := ⟨_, rfl⟩
  obtain ⟨gl, hgl⟩ : ∃ gl, gl = w.heap.size + 1 := ⟨_, rfl⟩
  rw [← hgl, ← hgo] at HST ⊢
  have HGO : Hid (w.heap.size ≤ go ∧ go < gl) := hide (by omega)
  clear hgo hgl
  generalize (w.alloc (.cells (order.map (fun z : Nat => iv (z : Int))).toArray 3)).alloc (.cells (icells .i64 19 (fun _ => 0)) 3) = w1 at HST ⊢
  go_loopg [20] k (fun gk c ws => ∃ (i q : Nat) (vs : List Nat), gk = k - i ∧ i ≤ k ∧ c = .int .i64 (i : Int) ∧ Hid (InAt2 k w ws B rb rp g zs p v out most sv dv go gl i vs q))
  case atStart => exact ⟨0, p, [], by omega, by omega, rfl, HST⟩
  case round =>
    obtain ⟨i, q, vs, rfl, hik, rfl, hat⟩ := hrel
    clear HST
    by_cases hlt : i < k
    · have hii : (i : Int) < (k : Int) := by omega
      have k1 := (unhide hat).ord i (by omega)
      have hol := order_lt i (by omega)
      obtain ⟨o, ho⟩ : ∃ o, o = order.getD i 0 := ⟨_, rfl⟩
      rw [← ho] at k1 hol
      have c0 := (unhide hat).rat.c0
      have HG := hide (rget 3 (unhide hat).rat hz (by decide))
      have HO := hide ho
      have hoi : (o : Int) < 19 := by omega
      clear ho
      go_wp2_with fail
      refine (unhide HG).mono ?_
      rintro e w2 ⟨x, q1, b, rfl, r1, d1, g1⟩
      clear HG c0 k1
      rcases g1 with ⟨rfl, g1, gx, _⟩ | ⟨rfl, rfl, g1⟩
      · have HN := hide ((unhide hat).next (unhide hat).rat (unhide HV).1 (unhide HV).2 (unhide HGO).1 (unhide HGO).2 hlt hk r1 d1 g1 gx)
        rw [← unhide HO] at HN
        have hx : x < 8 := gx
        have hi2 : w2.heap[gl]? = wr.heap[gl]? := d1.keep gl (unhide hat).ints.lt (by have := r1.lb; have := unhide HV; have := unhide HGO; omega) (by have := r1.lp; have := unhide HV; have := unhide HGO; omega) (fun e => by have := (unhide HV).1 gl e; have := unhide HGO; omega)
        have hi3 : IntsAt w2 .i64 3 gl 19 (fun j => vs.getD (order.idxOf j) 0) := by unfold IntsAt; rw [hi2]; exact (unhide hat).ints
        have k2 := hi3.free o
        have k3 := hi3.cell o hol
        have hcv := conv_u64 x (by omega)
        generalize vs.getD (order.idxOf o) 0 = old at k3
        clear r1 d1 g1 gx hi2 hi3 hat
        go_wp2_with fail
        go_roundg (k - (i + 1))
        case measure => omega
        case rel => exact ⟨i + 1, q1, _, rfl, by omega, by go_num, HN⟩
      · have HE : Hid (InnIs k w B rb rp g zs p v out most sv dv (.returned (.tuple #[.pointer none, .int .i64 ((10 : Nat) : Int)])) w2) := hide ⟨(unhide hat).chg.trans d1, .inr ⟨10, by decide, by decide, rfl, by unfold inn; rw [bind_bad]; rw [(unhide hat).on, show k - i = (k - (i + 1)) + 1 from by omega, threes_bad _ _ _ _ _ g1]⟩⟩
        clear r1 d1 g1 hat
        go_wp2_with fail
        go_ret2
        exact unhide HE
    · obtain rfl : i = k := by omega
      have hrd : ReadsN wr (.slice (some ⟨gl, 0, none⟩) 19 19) (ownOf vs) := by
        refine ⟨some ⟨gl, 0, none⟩, 19, by rw [List.length_map, ownOf_length], fun _ => ⟨gl, 0, rfl, fun j hj => ?_⟩⟩
        rw [List.length_map, ownOf_length] at hj
        rw [Nat.zero_add, (unhide hat).ints.cell j hj]
        unfold ownOf
        rw [List.map_map]
        have e : ((List.range 19).map ((fun l : Nat => (l : Int)) ∘ fun j => vs.getD (order.idxOf j) 0))[j]? = some ((vs.getD (order.idxOf j) 0 : Nat) : Int) := by
          rw [List.getElem?_map, List.getElem?_range hj]; rfl
        rw [List.getD_eq_getElem?_getD (l := List.map _ _), e]
        rfl
      have HN := hide (rnew (ownOf vs) 7 false _ wr hrd (by decide) (by rw [ownOf_length]; decide) (ownOf_le vs (unhide hat).le))
      have HTH : Hid (threes i [] (Infl.bitsOf zs) p = .ok vs q) := hide (by rw [(unhide hat).on, Nat.sub_self]; rfl)
      have HRT := hide (unhide hat).rat
      have HCH := hide (unhide hat).chg
      clear hat hrd
      go_wp2_with fail
      refine (unhide HN).mono ?_
      rintro e w2 ⟨hb, ⟨hc, rfl⟩ | ⟨hc, cp, rfl, hcode⟩⟩
      · have HE : Hid (InnIs i w B rb rp g zs p v out most sv dv (.returned (.tuple #[.pointer none, .int .i64 ((13 : Nat) : Int)])) w2) := hide ⟨(unhide HCH).below' hb, .inr ⟨13, by decide, by decide, rfl, by unfold inn; rw [bind_of (unhide HTH), hc]; rfl⟩⟩
        clear hb hc
        go_wp2_with fail
        go_ret2
        exact unhide HE
      · have HE : Hid (InnIs i w B rb rp g zs p v out most sv dv (.returned (.tuple #[.pointer (some ⟨cp, 0, none⟩), .int .i64 0])) w2) := hide ⟨(unhide HCH).below' hb, .inl ⟨cp, q, ownOf vs, rfl, by unfold inn; rw [bind_of (unhide HTH), hc]; rfl, ownOf_length vs, (unhide HRT).below hb, COk.new (unhide HRT) ⟨_, _, hcode, Nat.le_refl _, Nat.le_refl _⟩⟩⟩
        clear hb hc hcode
        go_wp2_with fail
        go_ret2
        exact unhide HE

end
end Go.Proofs.Ytppbnodgnphaaaa
