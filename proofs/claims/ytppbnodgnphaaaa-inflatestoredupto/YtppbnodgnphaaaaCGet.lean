/- What a code's Get does. -/
import Derived.Test.YtppbnodgnphaaaaWord
import Derived.Test.YtppbnodgnphaaaaGetMath
import Derived.Test.YtppbnodgnphaaaaBits
import Derived.ChangeKeysEq
namespace Go.Proofs.Ytppbnodgnphaaaa
open Go.RowKit Mth
set_option maxRecDepth 100000
set_option linter.unusedVariables false

attribute [local go_sem ↓] Go.wp_at_zero Go.wp_at_succ

/-- Within Get, behind j bits: the variable holds node a; the reader stands at t. -/
structure GetAt (ls : List Nat) (w ws : World) (cp lo hi wg g cap N base : Nat) (A B S : Nat → Nat) (H : Nat → Bool) (ix ky : Nat → Nat) (rp gr ab : Nat) (high : Bool) (zs : List Nat) (f : Nat → Bool) (t j a : Nat) : Prop where
  code : CodeAt ls ws cp lo hi wg g cap N base A B S H ix ky
  rd : ROk ws rp high gr zs t
  var : ws.heap[ab]? = some (.cells #[.int .i32 (A a : Int), .int .i32 (B a : Int), .int .i32 (S a : Int), .bool (H a)] 103 (0, 0))
  only : Only rp w ws
  new : w.heap.size ≤ ab
  o1 : rp < lo ∨ hi ≤ rp
  o2 : hi ≤ ab
  o3 : rp ≠ ab
  o4 : gr ≠ ab
  al : a = ix (kf f j)
  beg : Beg ls ls.length (kf f j)
  pre : ∀ i, 1 ≤ i → i < j → Pre ls (kf f i)

section
variable {ls : List Nat} {w ws w2 : World} {cp lo hi wg g cap N base : Nat} {A B S : Nat → Nat} {H : Nat → Bool} {ix ky : Nat → Nat} {rp gr ab : Nat} {high : Bool} {zs : List Nat} {f : Nat → Bool} {t j a : Nat}

theorem CodeAt.keep (h : CodeAt ls ws cp lo hi wg g cap N base A B S H ix ky) (hk : ∀ k, lo ≤ k → k < hi → w2.heap[k]? = ws.heap[k]?) : CodeAt ls w2 cp lo hi wg g cap N base A B S H ix ky :=
  ⟨by rw [hk _ h.b1.1 h.b1.2]; exact h.blk, by unfold WordsAt; rw [hk _ h.b2.1 h.b2.2]; exact h.words, h.nodes.keep (hk _ h.b3.1 h.b3.2), h.tr, h.good, h.small, h.b1, h.b2, h.b3⟩

theorem GetAt.read (h : GetAt ls w ws cp lo hi wg g cap N base A B S H ix ky rp gr ab high zs f t j a) (q t' : Nat) (ht : t' ≤ 8 * zs.length) :
    GetAt ls w ((ws.drewN q).setCell ⟨rp, 3, none⟩ (.int .i64 (t' : Int))) cp lo hi wg g cap N base A B S H ix ky rp gr ab high zs f t' j a := by
  refine ⟨h.code.keep (fun k h1 h2 => ?_), (h.rd.drewN q).set t' ht, ?_, h.only.trans ((Only.drewN rp ws q).set 3 _), h.new, h.o1, h.o2, h.o3, h.o4, h.al, h.beg, h.pre⟩
  · rw [heap_setCell_other _ _ _ _ (by have := h.o1; show k ≠ rp; omega)]; rfl
  · rw [heap_setCell_other _ _ _ _ (by exact h.o3.symm)]; exact h.var

theorem GetAt.drewN (h : GetAt ls w ws cp lo hi wg g cap N base A B S H ix ky rp gr ab high zs f t j a) (q : Nat) : GetAt ls w (ws.drewN q) cp lo hi wg g cap N base A B S H ix ky rp gr ab high zs f t j a :=
  ⟨h.code.keep (fun k h1 h2 => rfl), h.rd.drewN q, h.var, h.only.trans (Only.drewN rp ws q), h.new, h.o1, h.o2, h.o3, h.o4, h.al, h.beg, h.pre⟩

theorem GetAt.drew (h : GetAt ls w ws cp lo hi wg g cap N base A B S H ix ky rp gr ab high zs f t j a) : GetAt ls w ws.drew cp lo hi wg g cap N base A B S H ix ky rp gr ab high zs f t j a :=
  ⟨h.code.keep (fun k h1 h2 => rfl), ⟨h.rd.blk, h.rd.row, h.rd.ne, h.rd.le, h.rd.small⟩, h.var, h.only.trans (Only.drew rp ws), h.new, h.o1, h.o2, h.o3, h.o4, h.al, h.beg, h.pre⟩

def lay4 (ws : World) (ab : Nat) (x0 x1 x2 x3 : Value) : World := (((ws.setCell ⟨ab, 0, none⟩ x0).setCell ⟨ab, 1, none⟩ x1).setCell ⟨ab, 2, none⟩ x2).setCell ⟨ab, 3, none⟩ x3

theorem lay4_other (ws : World) (ab : Nat) (x0 x1 x2 x3 : Value) (k : Nat) (hk : k ≠ ab) : (lay4 ws ab x0 x1 x2 x3).heap[k]? = ws.heap[k]? := by
  unfold lay4
  rw [heap_setCell_other _ _ _ _ (by exact hk), heap_setCell_other _ _ _ _ (by exact hk), heap_setCell_other _ _ _ _ (by exact hk), heap_setCell_other _ _ _ _ (by exact hk)]

theorem GetAt.outs (h : GetAt ls w ws cp lo hi wg g cap N base A B S H ix ky rp gr ab high zs f t j a) (x0 x1 x2 x3 : Value) : ROk (lay4 ws ab x0 x1 x2 x3) rp high gr zs t ∧ Only rp w (lay4 ws ab x0 x1 x2 x3) := by
  refine ⟨h.rd.keep (lay4_other _ _ _ _ _ _ _ h.o3) (lay4_other _ _ _ _ _ _ _ h.o4), h.only.os, h.only.tape, h.only.output, ?_, fun k h1 h2 => ?_⟩
  · have := h.only.size; simpa [lay4] using this
  · rw [lay4_other _ _ _ _ _ _ _ (by have := h.new; omega)]; exact h.only.keep k h1 h2

theorem GetAt.next (h : GetAt ls w ws cp lo hi wg g cap N base A B S H ix ky rp gr ab high zs f t j a) (a' : Nat) (ha : a' = ix (kf f (j + 1))) (hb : Beg ls ls.length (kf f (j + 1))) (hp : 1 ≤ j → Pre ls (kf f j)) :
    GetAt ls w (lay4 ws ab (.int .i32 (A a' : Int)) (.int .i32 (B a' : Int)) (.int .i32 (S a' : Int)) (.bool (H a'))) cp lo hi wg g cap N base A B S H ix ky rp gr ab high zs f t (j + 1) a' := by
  obtain ⟨r1, r2⟩ := h.outs (.int .i32 (A a' : Int)) (.int .i32 (B a' : Int)) (.int .i32 (S a' : Int)) (.bool (H a'))
  refine ⟨h.code.keep (fun k h1 h2 => lay4_other _ _ _ _ _ _ _ (by have := h.o2; omega)), r1, ?_, r2, h.new, h.o1, h.o2, h.o3, h.o4, ha, hb, fun i h1 h2 => ?_⟩
  · unfold lay4
    rw [heap_setCell_same _ ab 3 _ 103 _ (heap_setCell_same _ ab 2 _ 103 _ (heap_setCell_same _ ab 1 _ 103 _ (heap_setCell_same _ ab 0 _ 103 _ h.var)))]
    simp
  · by_cases e : i = j
    · subst e; exact hp h1
    · exact h.pre i h1 (by omega)

theorem GetAt.node (h : GetAt ls w ws cp lo hi wg g cap N base A B S H ix ky rp gr ab high zs f t j a) : 1 ≤ a ∧ a < N ∧ ky a = kf f j := by
  obtain ⟨h1, h2, h3, _⟩ := h.code.tr.inX _ h.beg
  rw [← h.al] at h1 h2 h3
  exact ⟨h1, h2, h3⟩

theorem GetAt.word (h : GetAt ls w ws cp lo hi wg g cap N base A B S H ix ky rp gr ab high zs f t j a) {i : Nat} (hi : Wrd ls ls.length i (kf f j)) : H a = true ∧ S a = i ∧ 1 ≤ j := by
  obtain ⟨h1, h2, h3⟩ := h.node
  have hm := (h.code.tr.mark a h1 h2).1 i (by rw [h3]; exact hi)
  refine ⟨hm.1, hm.2, ?_⟩
  rcases j with _ | j
  · exfalso
    have hk := hi.2.2
    have hp : 2 ^ 1 ≤ 2 ^ Canon.ln ls i := Nat.pow_le_pow_right (by decide) hi.2.1
    unfold key at hk
    simp only [kf] at hk
    omega
  · omega

theorem GetAt.noword (h : GetAt ls w ws cp lo hi wg g cap N base A B S H ix ky rp gr ab high zs f t j a) (hn : ∀ i, ¬ Wrd ls ls.length i (kf f j)) : H a = false ∧ S a = 0 := by
  obtain ⟨h1, h2, h3⟩ := h.node
  exact (h.code.tr.mark a h1 h2).2 (by rw [h3]; exact hn)

/-- where the next bit leads -/
theorem GetAt.kid (h : GetAt ls w ws cp lo hi wg g cap N base A B S H ix ky rp gr ab high zs f t j a) : (f j = false → A a = ix (kf f (j + 1))) ∧ (f j = true → B a = ix (kf f (j + 1))) := by
  obtain ⟨h1, h2, h3⟩ := h.node
  have hk := h.code.tr.kid a h1 h2
  rw [h3] at hk
  refine ⟨fun e => ?_, fun e => ?_⟩
  · rw [hk.1, kf, e]; rfl
  · rw [hk.2, kf, e]; rfl

theorem GetAt.zero (h : GetAt ls w ws cp lo hi wg g cap N base A B S H ix ky rp gr ab high zs f t j a) (hb : ¬ Beg ls ls.length (kf f (j + 1))) : ix (kf f (j + 1)) = 0 ∧ A 0 = 0 ∧ B 0 = 0 ∧ S 0 = 0 ∧ H 0 = false :=
  ⟨h.code.tr.no _ hb, h.code.tr.out 0 (.inl rfl)⟩

/-- no node that is there is empty -/
theorem GetAt.full (h : GetAt ls w ws cp lo hi wg g cap N base A B S H ix ky rp gr ab high zs f t j a) (hb : Beg ls ls.length (kf f (j + 1))) (a' : Nat) (ha : a' = ix (kf f (j + 1))) : a' < N ∧ (A a' ≠ 0 ∨ B a' ≠ 0 ∨ H a' = true) := by
  obtain ⟨h1, h2, h3, _⟩ := h.code.tr.inX _ hb
  rw [← ha] at h1 h2 h3
  refine ⟨h2, ?_⟩
  by_cases hw : ∃ i, Wrd ls ls.length i (kf f (j + 1))
  · obtain ⟨i, hi⟩ := hw
    exact .inr (.inr ((h.code.tr.mark a' h1 h2).1 i (by rw [h3]; exact hi)).1)
  · obtain ⟨b, hb1, hc⟩ := Pre.child h.code.good ⟨hb, fun i hi => hw ⟨i, hi⟩⟩ (fun e => by have := kf_two f (j + 1) (by omega); omega)
    have hk := h.code.tr.kid a' h1 h2
    rw [h3] at hk
    have hx := (h.code.tr.inX _ hc).1
    by_cases e : b = 0
    · subst e; left; rw [hk.1]; simp only [Nat.add_zero] at hx; omega
    · obtain rfl : b = 1 := by omega
      right; left; rw [hk.2]; omega

theorem GetAt.v (h : GetAt ls w ws cp lo hi wg g cap N base A B S H ix ky rp gr ab high zs f t j a) : ws.cell? ⟨ab, 0, none⟩ = some (.int .i32 (A a : Int)) ∧ ws.cell? ⟨ab, 1, none⟩ = some (.int .i32 (B a : Int)) ∧ ws.cell? ⟨ab, 2, none⟩ = some (.int .i32 (S a : Int)) ∧ ws.cell? ⟨ab, 3, none⟩ = some (.bool (H a)) := by
  simp [World.cell?, h.var]
theorem GetAt.fz (h : GetAt ls w ws cp lo hi wg g cap N base A B S H ix ky rp gr ab high zs f t j a) (k : Nat) : ws.frozen? ⟨ab, k, none⟩ = false := by
  simp [World.frozen?, h.var]

theorem getAt_start (h : CodeAt ls w cp lo hi wg g cap N base A B S H ix ky) (hrd : ROk w rp high gr zs t) (ho : rp < lo ∨ hi ≤ rp) (hhi : hi ≤ w.heap.size) :
    GetAt ls w (w.alloc (.cells #[.int .i32 (A 1 : Int), .int .i32 (B 1 : Int), .int .i32 (S 1 : Int), .bool (H 1)] 103)) cp lo hi wg g cap N base A B S H ix ky rp gr w.heap.size high zs f t 0 1 := by
  have l1 := hrd.lt
  have l2 := heap_lt hrd.row
  have e := (h.tr.inK 1 (by omega) (by have := h.tr.two; omega)).2
  rw [h.tr.root] at e
  exact ⟨h.keep (fun k h1 h2 => Below.heap_alloc _ _ _ (by omega)), hrd.keep (Below.heap_alloc _ _ _ l1) (Below.heap_alloc _ _ _ l2), heap_alloc_new _ _, Only.alloc _ _ _, Nat.le_refl _, ho, hhi, by omega, by omega, by rw [kf, e], .inl rfl, fun i h1 h2 => by omega⟩

end

theorem info21 : (Try.prog.info? 21).map (fun i => (i.zero, i.size, i.bytes)) = some (some (.int .i32 0), 1, 4) := by kernel_rfl

theorem eq_pair (w : World) (x y : Int) : (Op.equalIn 9999 101 (.agg #[.int .i32 x, .int .i32 y]) (.agg #[.int .i32 0, .int .i32 0])).run Try.prog w = .ok (decide (x = 0) && decide (y = 0)) w := by
  obtain ⟨i0, hi, hz0, hz1, hz2⟩ := info_parts info21
  have := run_equalIn_array (P := Try.prog) (w := w) 9998 #[.int .i32 x, .int .i32 y] #[.int .i32 0, .int .i32 0] Try.underlying101 hi
  rw [this]
  rw [show List.range 2 = [0, 1] from rfl, show Try.prog.cellsOf 21 = 1 by kernel_rfl]
  simp only [Op.eqItems, Sem.run_bind]
  by_cases hx : x = 0
  · by_cases hy : y = 0
    · subst hx hy
      go_simp
    · go_simp
  · go_simp

theorem eq_pair_no (w : World) (x y : Nat) (h : ¬ (x = 0 ∧ y = 0)) : (Op.equalIn 9999 101 (.agg #[.int .i32 (x : Int), .int .i32 (y : Int)]) (.agg #[.int .i32 0, .int .i32 0])).run Try.prog w = .ok false w := by
  rw [eq_pair]
  congr 1
  by_cases hx : x = 0
  · have hy : y ≠ 0 := fun e => h ⟨hx, e⟩
    simp [hy]
  · simp [hx]

theorem num_one (high : Bool) (zs : List Nat) (t : Nat) : (numAt high (1 : Int).toNat (fun i => bitIn high zs (t + i)) : Int) = ((bitIn high zs t).toNat : Int) := by
  have : numAt high 1 (fun i => bitIn high zs (t + i)) = (bitIn high zs t).toNat := by
    cases high <;> simp [numAt, acc, rk]
  exact congrArg _ this

set_option maxRecDepth 100000 in
set_option maxHeartbeats 1000000 in
theorem cget_ok (ls : List Nat) (cp lo hi rp gr p : Nat) (high : Bool) (zs : List Nat) (w : World) (h : Code ls w cp lo hi) (hrd : ROk w rp high gr zs p) (hn : zs.length ≤ 140737488355328) (ho : rp < lo ∨ hi ≤ rp) (hhi : hi ≤ w.heap.size) :
    Calls Try.prog 50 #[.pointer (some ⟨cp, 0, none⟩), .pointer (some ⟨rp, 0, none⟩)] w fun e w' => ∃ (s n x : Nat), e = .returned (.tuple #[.int .i64 (s : Int), .int .i64 (x : Int)]) ∧ GetIs ls (fun i => bitIn high zs (p + i)) (8 * zs.length - p) s n x ∧ ROk w' rp high gr zs (p + n) ∧ Only rp w w' := by
  obtain ⟨wg, g, cap, N, base, A, B, S, H, ix, ky, h⟩ := h
  have c0 := h.c0
  have c2 := h.c2
  have hN2 := h.tr.two
  have k1 := h.nodes.cA 1 (by omega)
  have k2 := h.nodes.cB 1 (by omega)
  have k3 := h.nodes.cS 1 (by omega)
  have k4 := h.nodes.cH 1 (by omega)
  simp only [Nat.one_mul] at k1 k2 k3 k4
  have h1N : (1 : Int) < (N : Int) := by omega
  have HC := hide h
  have HRD := hide hrd
  clear h hrd
  go_enter Try.func50, Try.ntmps50
  go_wp2_with (go_at_call 62; refine (cgood_yes _ _ (by assumption)).mono ?_; rintro e w' ⟨rfl, rfl⟩)
  have HST := hide (getAt_start (f := fun i => bitIn high zs (p + i)) (unhide HC) (unhide HRD) ho hhi)
  obtain ⟨ab, hab⟩ : ∃ ab, ab = w'.heap.size := ⟨_, rfl⟩
  rw [← hab] at HST ⊢
  generalize w'.alloc (.cells #[.int .i32 (A 1 : Int), .int .i32 (B 1 : Int), .int .i32 (S 1 : Int), .bool (H 1)] 103) = w1 at HST ⊢
  clear hab c0 c2 k1 k2 k3 k4 h1N HC HRD
  obtain ⟨f, hf⟩ : ∃ f : Nat → Bool, f = fun i => bitIn high zs (p + i) := ⟨_, rfl⟩
  rw [← hf] at HST
  have HFF := hide hf
  clear hf
  go_loopg [] (8 * zs.length - p) (fun gk ws => ∃ (j a : Nat), gk = 8 * zs.length - p - j ∧ p + j ≤ 8 * zs.length ∧ GetAt ls w' ws cp lo hi wg g cap N base A B S H ix ky rp gr ab high zs f (p + j) j a)
  case atStart => exact ⟨0, 1, by omega, (unhide HST).rd.le, unhide HST⟩
  case round =>
    obtain ⟨j, a, rfl, hj, hst⟩ := hrel
    clear HST
    by_cases hwd : ∃ i, Wrd ls ls.length i (kf f j)
    · obtain ⟨i, hi⟩ := hwd
      obtain ⟨w1, w2, w3⟩ := hst.word hi
      obtain ⟨v0, v1, v2, v3⟩ := hst.v
      rw [w1] at v3
      rw [w2] at v2
      have hi16 : i < 65536 := by have := hi.1; have := hst.code.small; omega
      have HFIN : Hid (GetIs ls f (8 * zs.length - p) i j 0 ∧ ROk wr rp high gr zs (p + j) ∧ Only rp w' wr) := hide ⟨⟨by omega, fun x h1 h2 => hst.pre x h1 h2, .inl ⟨rfl, w3, hi⟩⟩, hst.rd, hst.only⟩
      clear hst hi w1 w2 w3
      go_wp2_with fail
      go_ret2
      obtain ⟨r1, r2, r3⟩ := unhide HFIN
      rw [unhide HFF] at r1
      exact ⟨i, j, 0, rfl, r1, r2, r3⟩
    · have hnw : ∀ i, ¬ Wrd ls ls.length i (kf f j) := fun i hi => hwd ⟨i, hi⟩
      obtain ⟨w1, w2⟩ := hst.noword hnw
      obtain ⟨v0, v1, v2, v3⟩ := hst.v
      rw [w1] at v3
      rw [w2] at v2
      clear hwd w1 w2
      by_cases hlt : p + j < 8 * zs.length
      · have hkk := hst.kid
        have hfj : f j = bitIn high zs (p + j) := by rw [unhide HFF]
        have c2 := hst.code.c2
        have f0 := hst.fz 0
        have f1 := hst.fz 1
        have f2 := hst.fz 2
        have f3 := hst.fz 3
        cases hfb : f j with
        | false =>
          have hkid := hkk.1 hfb
          obtain ⟨a', ha'⟩ : ∃ a', a' = ix (kf f (j + 1)) := ⟨_, rfl⟩
          by_cases hbg : Beg ls ls.length (kf f (j + 1))
          · obtain ⟨q1, q2⟩ := hst.full hbg a' ha'
            have k1 := hst.code.nodes.cA a' q1
            have k2 := hst.code.nodes.cB a' q1
            have k3 := hst.code.nodes.cS a' q1
            have k4 := hst.code.nodes.cH a' q1
            have haN : (a' : Int) < (N : Int) := by omega
            have HST := hide hst
            have HNX : Hid (∀ ws, GetAt ls w' ws cp lo hi wg g cap N base A B S H ix ky rp gr ab high zs f (p + j + 1) j a → GetAt ls w' (lay4 ws ab (.int .i32 (A a' : Int)) (.int .i32 (B a' : Int)) (.int .i32 (S a' : Int)) (.bool (H a'))) cp lo hi wg g cap N base A B S H ix ky rp gr ab high zs f (p + j + 1) (j + 1) a') := hide (fun ws h => h.next a' ha' hbg (fun _ => ⟨hst.beg, hnw⟩))
            have HNZ := hide q2
            have HKID := hide hkid
            have HAA := hide ha'
            clear hst q2 ha' hnw hkk hkid hbg
            go_upto_region 8 with (go_at_call 27; go_must (refine (get_ok rp gr (p + j) high zs 1 _ (unhide HST).rd hn (by omega) (by omega) (by simp; omega)).mono ?_; rintro e w2 ⟨rfl, q, rfl⟩; rw [num_one, show bitIn high zs (p + j) = false by rw [← hfj]; exact hfb, show ((false : Bool).toNat : Int) = 0 from rfl]; have HST2 := hide ((unhide HST).read q (p + j + 1) (by omega)); rw [show ((p + j + (1 : Int).toNat : Nat) : Int) = ((p + j + 1 : Nat) : Int) from rfl]))
            rw [show (p : Int) + (j : Int) + 1 = ((p + j + 1 : Nat) : Int) by omega]
            clear v0 v1 v2 v3 c2 f0 f1 f2 f3 k1 k2 k3 k4
            generalize (wr.drewN q).setCell ⟨rp, 3, none⟩ (.int .i64 ((p + j + 1 : Nat) : Int)) = wq at HST2 ⊢
            obtain ⟨v0, v1, v2, v3⟩ := (unhide HST2).v
            have c2 := (unhide HST2).code.c2
            have k1 := (unhide HST2).code.nodes.cA a' q1
            have k2 := (unhide HST2).code.nodes.cB a' q1
            have k3 := (unhide HST2).code.nodes.cS a' q1
            have k4 := (unhide HST2).code.nodes.cH a' q1
            rw [show A a = a' from (by rw [unhide HKID, ← unhide HAA])] at v0
            have HST3 := hide (unhide HST2).drew
            refine wp_tail 10 (by kernel_rfl) (by kernel_rfl) ?_
            simp only [List.take_succ_cons, List.take_zero, List.drop_succ_cons, List.drop_zero]
            repeat still_step
            try refine wpStill_nil ?_
            clear v0 v1 v2 v3 c2 k1 k2 k3 k4
            generalize wq.drew = w5 at HST3 ⊢
            obtain ⟨v0, v1, v2, v3⟩ := (unhide HST3).v
            have f0 := (unhide HST3).fz 0
            have f1 := (unhide HST3).fz 1
            have f2 := (unhide HST3).fz 2
            have f3 := (unhide HST3).fz 3
            by_cases hAB : A a' = 0 ∧ B a' = 0
            · have hH : H a' = true := by have := unhide HNZ; rcases this with h | h | h; exact absurd hAB.1 h; exact absurd hAB.2 h; exact h
              rw [hAB.1, hAB.2, hH] at HNX ⊢
              have heq := fun w => eq_pair w 0 0
              simp only [decide_true, Bool.and_true] at heq
              by_cases hS : S a' = 0
              · rw [hS] at HNX ⊢
                go_wp2_with fail
                go_roundg (8 * zs.length - p - (j + 1))
                case measure => omega
                case rel => exact ⟨j + 1, a', rfl, by omega, by have := unhide HNX _ (unhide HST3); exact this⟩
              · have hS' : ¬ ((S a' : Nat) : Int) = 0 := by omega
                go_wp2_with fail
                go_roundg (8 * zs.length - p - (j + 1))
                case measure => omega
                case rel => exact ⟨j + 1, a', rfl, by omega, by have := unhide HNX _ (unhide HST3); exact this⟩
            · have heq := fun w => eq_pair_no w (A a') (B a') hAB
              go_wp2_with fail
              go_roundg (8 * zs.length - p - (j + 1))
              case measure => omega
              case rel => exact ⟨j + 1, a', rfl, by omega, by have := unhide HNX _ (unhide HST3); exact this⟩
          · obtain ⟨z0, z1, z2, z3, z4⟩ := hst.zero hbg
            have hz : A a = 0 := by rw [hkid, z0]
            have q1 : 0 < N := by omega
            have k1 := hst.code.nodes.cA 0 q1
            have k2 := hst.code.nodes.cB 0 q1
            have k3 := hst.code.nodes.cS 0 q1
            have k4 := hst.code.nodes.cH 0 q1
            have haN : (0 : Int) < (N : Int) := by omega
            have HST := hide hst
            have HFIN : Hid (GetIs ls f (8 * zs.length - p) 0 (j + 1) 11) := hide ⟨by omega, fun x h1 h2 => by
              by_cases e : x = j
              · subst e; exact ⟨hst.beg, hnw⟩
              · exact hst.pre x h1 (by omega), .inr (.inl ⟨rfl, rfl, by omega, hbg⟩)⟩
            have HZ := hide hz
            have HZZ := hide (show A 0 = 0 ∧ B 0 = 0 ∧ S 0 = 0 ∧ H 0 = false from ⟨z1, z2, z3, z4⟩)
            clear hst ha' hnw hkk hkid hbg z0 z1 z2 z3 z4 hz
            go_upto_region 8 with (go_at_call 27; go_must (refine (get_ok rp gr (p + j) high zs 1 _ (unhide HST).rd hn (by omega) (by omega) (by simp; omega)).mono ?_; rintro e w2 ⟨rfl, q, rfl⟩; rw [num_one, show bitIn high zs (p + j) = false by rw [← hfj]; exact hfb, show ((false : Bool).toNat : Int) = 0 from rfl]; have HST2 := hide ((unhide HST).read q (p + j + 1) (by omega)); rw [show ((p + j + (1 : Int).toNat : Nat) : Int) = ((p + j + 1 : Nat) : Int) from rfl]))
            rw [show (p : Int) + (j : Int) + 1 = ((p + j + 1 : Nat) : Int) by omega]
            clear v0 v1 v2 v3 c2 f0 f1 f2 f3 k1 k2 k3 k4
            generalize (wr.drewN q).setCell ⟨rp, 3, none⟩ (.int .i64 ((p + j + 1 : Nat) : Int)) = wq at HST2 ⊢
            obtain ⟨v0, v1, v2, v3⟩ := (unhide HST2).v
            have c2 := (unhide HST2).code.c2
            have k1 := (unhide HST2).code.nodes.cA 0 q1
            have k2 := (unhide HST2).code.nodes.cB 0 q1
            have k3 := (unhide HST2).code.nodes.cS 0 q1
            have k4 := (unhide HST2).code.nodes.cH 0 q1
            rw [unhide HZ] at v0
            obtain ⟨z1, z2, z3, z4⟩ := unhide HZZ
            rw [z1, Nat.zero_mul] at k1
            rw [z2, Nat.zero_mul] at k2
            rw [z3, Nat.zero_mul] at k3
            rw [z4, Nat.zero_mul] at k4
            clear z1 z2 z3 z4
            have HST3 := hide (unhide HST2).drew
            refine wp_tail 10 (by kernel_rfl) (by kernel_rfl) ?_
            simp only [List.take_succ_cons, List.take_zero, List.drop_succ_cons, List.drop_zero]
            repeat still_step
            try refine wpStill_nil ?_
            clear v0 v1 v2 v3 c2 k1 k2 k3 k4
            generalize wq.drew = w5 at HST3 ⊢
            obtain ⟨v0, v1, v2, v3⟩ := (unhide HST3).v
            have f0 := (unhide HST3).fz 0
            have f1 := (unhide HST3).fz 1
            have f2 := (unhide HST3).fz 2
            have f3 := (unhide HST3).fz 3
            have heq := fun w => eq_pair w 0 0
            simp only [decide_true, Bool.and_true] at heq
            go_wp2_with fail
            go_ret2
            have r1 := unhide HFIN
            rw [unhide HFF] at r1
            obtain ⟨r2, r3⟩ := (unhide HST3).outs (.int .i32 0) (.int .i32 0) (.int .i32 0) (.bool false)
            exact ⟨0, j + 1, 11, rfl, r1, r2, r3⟩
        | true =>
          have hkid := hkk.2 hfb
          obtain ⟨a', ha'⟩ : ∃ a', a' = ix (kf f (j + 1)) := ⟨_, rfl⟩
          by_cases hbg : Beg ls ls.length (kf f (j + 1))
          · obtain ⟨q1, q2⟩ := hst.full hbg a' ha'
            have k1 := hst.code.nodes.cA a' q1
            have k2 := hst.code.nodes.cB a' q1
            have k3 := hst.code.nodes.cS a' q1
            have k4 := hst.code.nodes.cH a' q1
            have haN : (a' : Int) < (N : Int) := by omega
            have HST := hide hst
            have HNX : Hid (∀ ws, GetAt ls w' ws cp lo hi wg g cap N base A B S H ix ky rp gr ab high zs f (p + j + 1) j a → GetAt ls w' (lay4 ws ab (.int .i32 (A a' : Int)) (.int .i32 (B a' : Int)) (.int .i32 (S a' : Int)) (.bool (H a'))) cp lo hi wg g cap N base A B S H ix ky rp gr ab high zs f (p + j + 1) (j + 1) a') := hide (fun ws h => h.next a' ha' hbg (fun _ => ⟨hst.beg, hnw⟩))
            have HNZ := hide q2
            have HKID := hide hkid
            have HAA := hide ha'
            clear hst q2 ha' hnw hkk hkid hbg
            go_upto_region 8 with (go_at_call 27; go_must (refine (get_ok rp gr (p + j) high zs 1 _ (unhide HST).rd hn (by omega) (by omega) (by simp; omega)).mono ?_; rintro e w2 ⟨rfl, q, rfl⟩; rw [num_one, show bitIn high zs (p + j) = true by rw [← hfj]; exact hfb, show ((true : Bool).toNat : Int) = 1 from rfl]; have HST2 := hide ((unhide HST).read q (p + j + 1) (by omega)); rw [show ((p + j + (1 : Int).toNat : Nat) : Int) = ((p + j + 1 : Nat) : Int) from rfl]))
            rw [show (p : Int) + (j : Int) + 1 = ((p + j + 1 : Nat) : Int) by omega]
            clear v0 v1 v2 v3 c2 f0 f1 f2 f3 k1 k2 k3 k4
            generalize (wr.drewN q).setCell ⟨rp, 3, none⟩ (.int .i64 ((p + j + 1 : Nat) : Int)) = wq at HST2 ⊢
            obtain ⟨v0, v1, v2, v3⟩ := (unhide HST2).v
            have c2 := (unhide HST2).code.c2
            have k1 := (unhide HST2).code.nodes.cA a' q1
            have k2 := (unhide HST2).code.nodes.cB a' q1
            have k3 := (unhide HST2).code.nodes.cS a' q1
            have k4 := (unhide HST2).code.nodes.cH a' q1
            rw [show B a = a' from (by rw [unhide HKID, ← unhide HAA])] at v1
            have HST3 := hide (unhide HST2).drew
            refine wp_tail 10 (by kernel_rfl) (by kernel_rfl) ?_
            simp only [List.take_succ_cons, List.take_zero, List.drop_succ_cons, List.drop_zero]
            repeat still_step
            try refine wpStill_nil ?_
            clear v0 v1 v2 v3 c2 k1 k2 k3 k4
            generalize wq.drew = w5 at HST3 ⊢
            obtain ⟨v0, v1, v2, v3⟩ := (unhide HST3).v
            have f0 := (unhide HST3).fz 0
            have f1 := (unhide HST3).fz 1
            have f2 := (unhide HST3).fz 2
            have f3 := (unhide HST3).fz 3
            by_cases hAB : A a' = 0 ∧ B a' = 0
            · have hH : H a' = true := by have := unhide HNZ; rcases this with h | h | h; exact absurd hAB.1 h; exact absurd hAB.2 h; exact h
              rw [hAB.1, hAB.2, hH] at HNX ⊢
              have heq := fun w => eq_pair w 0 0
              simp only [decide_true, Bool.and_true] at heq
              by_cases hS : S a' = 0
              · rw [hS] at HNX ⊢
                go_wp2_with fail
                go_roundg (8 * zs.length - p - (j + 1))
                case measure => omega
                case rel => exact ⟨j + 1, a', rfl, by omega, by have := unhide HNX _ (unhide HST3); exact this⟩
              · have hS' : ¬ ((S a' : Nat) : Int) = 0 := by omega
                go_wp2_with fail
                go_roundg (8 * zs.length - p - (j + 1))
                case measure => omega
                case rel => exact ⟨j + 1, a', rfl, by omega, by have := unhide HNX _ (unhide HST3); exact this⟩
            · have heq := fun w => eq_pair_no w (A a') (B a') hAB
              go_wp2_with fail
              go_roundg (8 * zs.length - p - (j + 1))
              case measure => omega
              case rel => exact ⟨j + 1, a', rfl, by omega, by have := unhide HNX _ (unhide HST3); exact this⟩
          · obtain ⟨z0, z1, z2, z3, z4⟩ := hst.zero hbg
            have hz : B a = 0 := by rw [hkid, z0]
            have q1 : 0 < N := by omega
            have k1 := hst.code.nodes.cA 0 q1
            have k2 := hst.code.nodes.cB 0 q1
            have k3 := hst.code.nodes.cS 0 q1
            have k4 := hst.code.nodes.cH 0 q1
            have haN : (0 : Int) < (N : Int) := by omega
            have HST := hide hst
            have HFIN : Hid (GetIs ls f (8 * zs.length - p) 0 (j + 1) 11) := hide ⟨by omega, fun x h1 h2 => by
              by_cases e : x = j
              · subst e; exact ⟨hst.beg, hnw⟩
              · exact hst.pre x h1 (by omega), .inr (.inl ⟨rfl, rfl, by omega, hbg⟩)⟩
            have HZ := hide hz
            have HZZ := hide (show A 0 = 0 ∧ B 0 = 0 ∧ S 0 = 0 ∧ H 0 = false from ⟨z1, z2, z3, z4⟩)
            clear hst ha' hnw hkk hkid hbg z0 z1 z2 z3 z4 hz
            go_upto_region 8 with (go_at_call 27; go_must (refine (get_ok rp gr (p + j) high zs 1 _ (unhide HST).rd hn (by omega) (by omega) (by simp; omega)).mono ?_; rintro e w2 ⟨rfl, q, rfl⟩; rw [num_one, show bitIn high zs (p + j) = true by rw [← hfj]; exact hfb, show ((true : Bool).toNat : Int) = 1 from rfl]; have HST2 := hide ((unhide HST).read q (p + j + 1) (by omega)); rw [show ((p + j + (1 : Int).toNat : Nat) : Int) = ((p + j + 1 : Nat) : Int) from rfl]))
            rw [show (p : Int) + (j : Int) + 1 = ((p + j + 1 : Nat) : Int) by omega]
            clear v0 v1 v2 v3 c2 f0 f1 f2 f3 k1 k2 k3 k4
            generalize (wr.drewN q).setCell ⟨rp, 3, none⟩ (.int .i64 ((p + j + 1 : Nat) : Int)) = wq at HST2 ⊢
            obtain ⟨v0, v1, v2, v3⟩ := (unhide HST2).v
            have c2 := (unhide HST2).code.c2
            have k1 := (unhide HST2).code.nodes.cA 0 q1
            have k2 := (unhide HST2).code.nodes.cB 0 q1
            have k3 := (unhide HST2).code.nodes.cS 0 q1
            have k4 := (unhide HST2).code.nodes.cH 0 q1
            rw [unhide HZ] at v1
            obtain ⟨z1, z2, z3, z4⟩ := unhide HZZ
            rw [z1, Nat.zero_mul] at k1
            rw [z2, Nat.zero_mul] at k2
            rw [z3, Nat.zero_mul] at k3
            rw [z4, Nat.zero_mul] at k4
            clear z1 z2 z3 z4
            have HST3 := hide (unhide HST2).drew
            refine wp_tail 10 (by kernel_rfl) (by kernel_rfl) ?_
            simp only [List.take_succ_cons, List.take_zero, List.drop_succ_cons, List.drop_zero]
            repeat still_step
            try refine wpStill_nil ?_
            clear v0 v1 v2 v3 c2 k1 k2 k3 k4
            generalize wq.drew = w5 at HST3 ⊢
            obtain ⟨v0, v1, v2, v3⟩ := (unhide HST3).v
            have f0 := (unhide HST3).fz 0
            have f1 := (unhide HST3).fz 1
            have f2 := (unhide HST3).fz 2
            have f3 := (unhide HST3).fz 3
            have heq := fun w => eq_pair w 0 0
            simp only [decide_true, Bool.and_true] at heq
            go_wp2_with fail
            go_ret2
            have r1 := unhide HFIN
            rw [unhide HFF] at r1
            obtain ⟨r2, r3⟩ := (unhide HST3).outs (.int .i32 0) (.int .i32 0) (.int .i32 0) (.bool false)
            exact ⟨0, j + 1, 11, rfl, r1, r2, r3⟩
      · have he : p + j = 8 * zs.length := by omega
        have HFIN : Hid (GetIs ls f (8 * zs.length - p) 0 j 10 ∧ ROk wr rp high gr zs (p + j) ∧ Only rp w' wr) := hide ⟨⟨by omega, fun x h1 h2 => hst.pre x h1 h2, .inr (.inr ⟨rfl, rfl, by omega, fun h1 => ⟨hst.beg, hnw⟩⟩)⟩, hst.rd, hst.only⟩
        have HRD := hide hst.rd
        clear hst hnw
        go_wp2_with (go_at_call 27; go_must (refine (get_end rp gr (p + j) high zs 1 _ (unhide HRD) hn (by omega) (by omega) (by omega)).mono ?_; rintro e w2 ⟨rfl, q, rfl⟩))
        go_ret2
        obtain ⟨r1, r2, r3⟩ := unhide HFIN
        rw [unhide HFF] at r1
        exact ⟨0, j, 10, rfl, r1, r2.drewN q, r3.trans (Only.drewN _ _ _)⟩

end Go.Proofs.Ytppbnodgnphaaaa
