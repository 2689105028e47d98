/- The sums of blocks together: the program and the document tell one number. -/
import Derived.Test.YtljdhaepkhhnlaaProg
import Derived.BigQuiet
import Derived.Deep.AppendLies
import Derived.Deep.DeepCutAuto
import Derived.Deep.DeepMust
import Derived.Deep.DrawnRows
import Derived.Deep.LoopGhost
import Derived.Deep.QuietTactic
import Derived.Deep.WholeRow
import Derived.Handy
import Derived.KernelRfl
import Derived.Laws.AppendOwnNone
import Derived.Laws.BytesArg
import Derived.Laws.CopyOwn
import Derived.Laws.Rows
import Derived.Lib.SmallJoins
import Derived.Maps.AppendAt
import Derived.OwnWalk
import Derived.WalkKit
import Derived.WalkMore
import Derived.WalkSpells
import Derived.Deep.CutBlock
import Derived.Laws.BitsAllLaws
namespace Go.Proofs.Ytljdhaepkhhnlaa
open Go.RowKit
set_option maxRecDepth 100000
set_option linter.unusedVariables false
attribute [local go_sem ↓] Go.wp_at_zero Go.wp_at_succ

theorem hide {p : Prop} (h : p) : Hid p := h
theorem unhide {p : Prop} (h : Hid p) : p := h
theorem getD_mem {l : List Nat} {r : Nat} (h : r < l.length) : l.getD r 0 ∈ l := by
  rw [List.getD_eq_getElem?_getD, List.getElem?_eq_getElem h]
  exact List.getElem_mem h

/-- sums together: 32 bits, turned left by one -/
def rot1 (s : Nat) : Nat := s * 2 % 4294967296 ||| s / 2147483648
def sumF (l : List Nat) : Nat := l.foldl (fun s x => rot1 s ^^^ x) 0

theorem rot1_lt {s : Nat} (h : s < 4294967296) : rot1 s < 4294967296 := by
  unfold rot1
  exact Nat.or_lt_two_pow (n := 32) (by omega) (by omega)

theorem foldl_lt : ∀ (l : List Nat) (s : Nat), s < 4294967296 → (∀ x ∈ l, x < 4294967296) → l.foldl (fun s x => rot1 s ^^^ x) s < 4294967296
  | [], s, h, _ => h
  | x :: l, s, h, hl => by
    rw [List.foldl_cons]
    refine foldl_lt l _ ?_ (fun z hz => hl z (List.mem_cons_of_mem _ hz))
    exact Nat.xor_lt_two_pow (n := 32) (rot1_lt h) (hl x (List.mem_cons_self ..))

theorem sumF_lt {l : List Nat} (h : ∀ x ∈ l, x < 4294967296) : sumF l < 4294967296 := foldl_lt l 0 (by decide) h

theorem sum_step (l : List Nat) (i : Nat) (h : i < l.length) : sumF (l.take (i + 1)) = rot1 (sumF (l.take i)) ^^^ l.getD i 0 := by
  unfold sumF
  rw [List.take_add_one, List.foldl_append, List.getElem?_eq_getElem h, List.getD_eq_getElem?_getD, List.getElem?_eq_getElem h]
  rfl

def U32In (w : World) (a0 : Option Addr) (l : List Nat) : Prop := ∀ j, j < l.length → ∃ g off, a0 = some ⟨g, off, none⟩ ∧ w.cell? ⟨g, off + j, none⟩ = some (.int .u32 ((l.getD j 0 : Nat) : Int))

set_option maxHeartbeats 2000000 in
theorem rsum_ok (l : List Nat) (a0 : Option Addr) (cap : Nat) (w : World) (hc : U32In w a0 l) (hb : ∀ z ∈ l, z < 4294967296) (hn : l.length ≤ 140737488355328) :
    Calls Try.prog 10 #[.slice a0 l.length cap] w fun e w' => e = .returned (.int .u32 ((sumF l : Nat) : Int)) ∧ w' = w := by
  have HC := hide hc
  have HBB := hide hb
  obtain ⟨n, hN⟩ : ∃ n, n = l.length := ⟨_, rfl⟩
  have HN := hide hN
  rw [← hN] at hn ⊢
  clear hN hc hb
  go_enter Try.func10, Try.ntmps10
  go_wp2_with fail
  go_loopg [3, 4] n (fun gk sv d ws => ∃ (i : Nat), gk = n - i ∧ i ≤ n ∧ sv = .int .u32 ((sumF (l.take i) : Nat) : Int) ∧ d = .int .i64 (i : Int) ∧ ws = w)
  case atStart => exact ⟨0, by omega, by omega, rfl, rfl, rfl⟩
  case round =>
    obtain ⟨i, rfl, hi, rfl, rfl, rfl⟩ := hrel
    by_cases hlt : i < n
    · have tl : (i : Int) < (n : Int) := by omega
      have hil : i < l.length := by rw [← unhide HN]; exact hlt
      obtain ⟨g, off, rfl, c1⟩ := unhide HC i hil
      have hx := unhide HBB _ (getD_mem hil)
      have hs : sumF (l.take i) < 4294967296 := sumF_lt (fun z hz => unhide HBB z (List.mem_of_mem_take hz))
      have HST := hide (sum_step l i hil)
      obtain ⟨x, hxx⟩ : ∃ x, x = l.getD i 0 := ⟨_, rfl⟩
      obtain ⟨s, hss⟩ : ∃ s, s = sumF (l.take i) := ⟨_, rfl⟩
      rw [← hxx] at c1 hx HST
      rw [← hss] at hs HST ⊢
      clear hxx hss
      obtain ⟨a, ha⟩ : ∃ a, a = s * 2 % 4294967296 := ⟨_, rfl⟩
      obtain ⟨b, hb⟩ : ∃ b, b = s / 2147483648 := ⟨_, rfl⟩
      have hal : a < 4294967296 := by omega
      have hbl : b < 4294967296 := by omega
      have f1 : (s : Int) * 2 % 4294967296 = (a : Int) := by omega
      have f2 : (s : Int) / 2147483648 = (b : Int) := by omega
      have f3 := u32_or_nat a b hal hbl
      have hr : a ||| b = rot1 s := by rw [ha, hb]; rfl
      rw [hr] at f3
      have f4 := u32_xor_nat (rot1 s) x (rot1_lt hs) hx
      rw [← unhide HST] at f4
      have hql := sumF_lt (l := l.take (i + 1)) (fun z hz => unhide HBB z (List.mem_of_mem_take hz))
      generalize rot1 s = r at f3 f4
      obtain ⟨q, hq⟩ : ∃ q, q = sumF (l.take (i + 1)) := ⟨_, rfl⟩
      rw [← hq] at f4 hql
      have HQ := hide hq
      clear hq ha hb hr HST
      go_wp2_with fail
      go_roundg (n - (i + 1))
      case measure => omega
      case rel => exact ⟨i + 1, rfl, by omega, by rw [← unhide HQ], by go_num, rfl⟩
    · obtain rfl : n = i := by omega
      have tl : ¬ (n : Int) < (n : Int) := by omega
      have HT : Hid (l.take n = l) := hide (by rw [unhide HN]; exact List.take_length)
      go_wp2_with fail
      go_ret
      refine ⟨?_, rfl⟩
      show Ending.returned (Value.int .u32 ((sumF (l.take n) : Nat) : Int)) = _
      rw [unhide HT]

set_option maxHeartbeats 2000000 in
theorem psum_ok (l : List Nat) (a0 : Option Addr) (cap : Nat) (w : World) (hc : U32In w a0 l) (hb : ∀ z ∈ l, z < 4294967296) (hn : l.length ≤ 140737488355328) :
    Calls Try.prog 9 #[.slice a0 l.length cap] w fun e w' => e = .returned (.int .u32 ((sumF l : Nat) : Int)) ∧ w' = w := by
  have HC := hide hc
  have HBB := hide hb
  obtain ⟨n, hN⟩ : ∃ n, n = l.length := ⟨_, rfl⟩
  have HN := hide hN
  rw [← hN] at hn ⊢
  clear hN hc hb
  go_enter Try.func9, Try.ntmps9
  go_wp2_with fail
  go_loopg [3, 8] n (fun gk sv d ws => ∃ (i : Nat), gk = n - i ∧ i ≤ n ∧ sv = .int .u32 ((sumF (l.take i) : Nat) : Int) ∧ d = .int .i64 (i : Int) ∧ ws = w)
  case atStart => exact ⟨0, by omega, by omega, rfl, rfl, rfl⟩
  case round =>
    obtain ⟨i, rfl, hi, rfl, rfl, rfl⟩ := hrel
    by_cases hlt : i < n
    · have tl : (i : Int) < (n : Int) := by omega
      have hil : i < l.length := by rw [← unhide HN]; exact hlt
      obtain ⟨g, off, rfl, c1⟩ := unhide HC i hil
      have hx := unhide HBB _ (getD_mem hil)
      have hs : sumF (l.take i) < 4294967296 := sumF_lt (fun z hz => unhide HBB z (List.mem_of_mem_take hz))
      have HST := hide (sum_step l i hil)
      obtain ⟨x, hxx⟩ : ∃ x, x = l.getD i 0 := ⟨_, rfl⟩
      obtain ⟨s, hss⟩ : ∃ s, s = sumF (l.take i) := ⟨_, rfl⟩
      rw [← hxx] at c1 hx HST
      rw [← hss] at hs HST ⊢
      clear hxx hss
      obtain ⟨a, ha⟩ : ∃ a, a = s * 2 % 4294967296 := ⟨_, rfl⟩
      obtain ⟨b, hb⟩ : ∃ b, b = s / 2147483648 := ⟨_, rfl⟩
      have hal : a < 4294967296 := by omega
      have hbl : b < 4294967296 := by omega
      have f1 : (s : Int) * 2 % 4294967296 = (a : Int) := by omega
      have f2 : (s : Int) / 2147483648 = (b : Int) := by omega
      have f3 := u32_or_nat a b hal hbl
      have hr : a ||| b = rot1 s := by rw [ha, hb]; rfl
      rw [hr] at f3
      have f4 := u32_xor_nat (rot1 s) x (rot1_lt hs) hx
      rw [← unhide HST] at f4
      have hql := sumF_lt (l := l.take (i + 1)) (fun z hz => unhide HBB z (List.mem_of_mem_take hz))
      generalize rot1 s = r at f3 f4
      obtain ⟨q, hq⟩ : ∃ q, q = sumF (l.take (i + 1)) := ⟨_, rfl⟩
      rw [← hq] at f4 hql
      have HQ := hide hq
      clear hq ha hb hr HST
      go_wp2_with fail
      go_roundg (n - (i + 1))
      case measure => omega
      case rel => exact ⟨i + 1, rfl, by omega, by rw [← unhide HQ], by go_num, rfl⟩
    · obtain rfl : n = i := by omega
      have tl : ¬ (n : Int) < (n : Int) := by omega
      have HT : Hid (l.take n = l) := hide (by rw [unhide HN]; exact List.take_length)
      go_wp2_with fail
      go_ret
      refine ⟨?_, rfl⟩
      show Ending.returned (Value.int .u32 ((sumF (l.take n) : Nat) : Int)) = _
      rw [unhide HT]


def uv (z : Nat) : Value := .int .u32 (z : Int)
theorem info32 : (Try.prog.info? 32).map (fun i => (i.zero, i.size, i.bytes)) = some (some (.int .u32 0), 1, 4) := by kernel_rfl

def U32s (w : World) (a : Option Addr) (cap : Nat) (zs : List Nat) : Prop := (a = none ∧ cap = 0 ∧ zs = []) ∨ ∃ ad, a = some ad ∧ ∀ (j : Nat) u, (zs.map uv)[j]? = some u → w.cell? (ad.add j) = some u

theorem u32s_in {w : World} {a : Option Addr} {cap : Nat} {zs : List Nat} (h : U32s w a cap zs) : U32In w a zs := fun j hj => by
  rcases h with ⟨_, _, rfl⟩ | ⟨ad, rfl, hc⟩
  · simp at hj
  · have h0 := hc 0 (uv (zs.getD 0 0)) (by simp [List.getD_eq_getElem?_getD, show 0 < zs.length by omega])
    obtain ⟨b, off, sp⟩ := ad
    have hsp : sp = none := by simpa [Addr.add] using World.cell?_spot h0
    subst hsp
    refine ⟨b, off, rfl, ?_⟩
    have e : (⟨b, off, none⟩ : Addr).add j = ⟨b, off + j, none⟩ := by by_cases hq : j = 0 <;> simp [Addr.add, hq]
    have := hc j (uv (zs.getD j 0)) (by simp [List.getD_eq_getElem?_getD, hj])
    rw [e] at this
    exact this

theorem own_in {w : World} {base n g cap : Nat} {zs : List Nat} (h : w.ownsRow base 32 1 (.slice (some ⟨g, 0, none⟩) n cap) n (zs.map uv)) : U32In w (some ⟨g, 0, none⟩) zs := by
  have hc := h.cells rfl
  exact u32s_in (cap := cap) (.inr ⟨_, rfl, hc⟩)

theorem below_grown {w w' : World} {B g : Nat} (hg : w.grownBy w' (some g)) (hB : B ≤ w.heap.size) (h : B ≤ g) : Below B w w' :=
  ⟨hg.os, hg.tape, hg.output, hg.size, fun k hk => hg.block k (by omega) (fun e => by injection e with e; omega)⟩

theorem info_of {t : Nat} {z : Value} {s b : Nat} (h : (Try.prog.info? t).map (fun i => (i.zero, i.size, i.bytes)) = some (some z, s, b)) : ∃ i, Try.prog.info? t = some i ∧ i.zero = some z ∧ i.size = s ∧ i.bytes = b := by
  cases hi : Try.prog.info? t with
  | none => rw [hi] at h; cases h
  | some i =>
    rw [hi] at h
    simp only [Option.map_some, Option.some.injEq, Prod.mk.injEq] at h
    exact ⟨i, rfl, h.1, h.2.1, h.2.2⟩

theorem wp_u32s {w : World} {ops : Array Oper} {rest : List Oper} {o : Oper} {a : Act} {Q : Exit → Act → World → Prop} (hgd : o.guard = none) (s x : Operand)
    (ho : o.op = .call { callee := .builtin .append, args := #[s, x], argTypes := #[31, 31] })
    (base : Nat) (v : Value) (n : Nat) (xs : List Nat) (hs : a.eval s = v) (hown : w.ownsRow base 32 1 v n (xs.map uv))
    (sa : Option Addr) (m c : Nat) (zs : List Nat) (hm : m = zs.length) (hx : a.eval x = .slice sa m c) (hr : U32s w sa c zs) (h63 : (n + m) * 4 ≤ 140737488355328) (hbase : base ≤ w.heap.size)
    (h : ∀ v' w', w'.ownsRow base 32 1 v' (n + m) ((xs ++ zs).map uv) → w.grownBy w' v.ownBlock → (v' = .slice none 0 0 ↔ v = .slice none 0 0 ∧ m = 0) → wpList Try.prog ops Q rest (a.put o.dst v') w') : wpList Try.prog ops Q (o :: rest) a w := by
  obtain ⟨i0, hii, hz0, hz1, hz2⟩ := info_of info32
  rcases hr with ⟨rfl, rfl, rfl⟩ | ⟨ad, rfl, hc⟩
  · obtain rfl : m = 0 := hm
    exact wpList_append_own_none hgd s x 31 ho base 32 i0 1 Try.underlying31 hii v n (xs.map uv) hs hown hx (h v w (by simpa using hown) (World.grownBy.refl _ _) (by simp))
  · exact wpList_append_own (w := w) hgd s x 31 ho base 32 i0 _ 1 4 Try.underlying31 hii hz0 hz1 hz2 rfl (by decide) v n (xs.map uv) hs hown ad m c (zs.map uv) hx (by simp [hm]) hc
      (by intro u hu; simp at hu; obtain ⟨z, _, rfl⟩ := hu; rfl) (by unfold maxLen; omega) h63 hbase (fun v' w' h1 h2 h3 => h v' w' (by simpa using h1) h2 h3)

theorem built_own (w : World) (base : Nat) (hb : base ≤ w.heap.size) : (w.alloc (.cells #[] 32)).ownsRow base 32 1 (.slice (some ⟨w.heap.size, 0, none⟩) 0 0) 0 (([] : List Nat).map uv) := by
  have := World.ownsRow_made (base := base) (e := 32) (size := 1) w #[] 0 hb (by unfold maxLen; omega) rfl
  simpa using this

theorem U32s.stays {w w1 : World} (hb : Below w.heap.size w w1) {a : Option Addr} {cap : Nat} {zs : List Nat} (h : U32s w a cap zs) : U32s w1 a cap zs := by
  rcases h with h | ⟨ad, rfl, hc⟩
  · exact .inl h
  · refine .inr ⟨ad, rfl, fun j u hj => ?_⟩
    have h1 := hc j u hj
    have hlt : (ad.add j).block < w.heap.size := by
      rcases Nat.lt_or_ge (ad.add j).block w.heap.size with h' | h'
      · exact h'
      · simp [World.cell?, Array.getElem?_eq_none h'] at h1
    rw [hb.cell hlt]; exact h1

set_option maxHeartbeats 4000000 in
theorem sums_law (l : List Nat) (a : Option Addr) (cap : Nat) (w : World) (hr : U32s w a cap l) (hb : ∀ z ∈ l, z < 4294967296) (hn : l.length ≤ 35184372087808) :
    Calls Try.prog 4 #[.slice a l.length cap] w fun e w' => e = .returned (.bool true) ∧ Below w.heap.size w w' := by
  have HR := hide hr
  have HB := hide hb
  obtain ⟨n, hN⟩ : ∃ n, n = l.length := ⟨_, rfl⟩
  have HN := hide hN
  rw [← hN] at hn ⊢
  clear hr hb hN
  go_enter Try.func4, Try.ntmps4
  go_wp2_with (at_builtin; go_must (refine wp_u32s rfl _ _ rfl w.heap.size _ 0 [] (by rfl) (built_own w w.heap.size (Nat.le_refl _)) _ n _ l (unhide HN) (by rfl) ((unhide HR).stays ((Below.refl _ _).alloc (Nat.le_refl _) _)) (by omega) (by simp) ?_; intro v1 w1 h1 h2 _; have HO : Hid (w1.ownsRow w.heap.size 32 1 v1 n (l.map uv)) := hide (by simpa using h1); have HB1 : Hid (Below w.heap.size w w1) := hide (((Below.refl _ _).alloc (Nat.le_refl _) _).trans (below_grown h2 (by simp) (Nat.le_refl _))); clear h1 h2))
  obtain ⟨a1, c1, rfl, hin⟩ : ∃ a1 c1, v1 = .slice a1 l.length c1 ∧ U32In w1 a1 l := by
    have ho := unhide HO
    rcases ho.2 with ⟨e, e'⟩ | ⟨g, c, cur, e, _⟩
    · have : l = [] := List.eq_nil_of_length_eq_zero (by rw [← unhide HN]; simpa using e')
      subst this
      exact ⟨none, 0, by rw [e]; rfl, fun j hj => by simp at hj⟩
    · subst e
      rw [unhide HN] at ho ⊢
      exact ⟨_, c, rfl, own_in ho⟩
  refine (psum_ok l a1 c1 w1 hin (unhide HB) (by rw [← unhide HN]; omega)).mono ?_
  intro e w2 ⟨he, hw2⟩
  subst he hw2
  go_wp2_with fail
  have h2 := rsum_ok l a cap w2 (u32s_in ((unhide HR).stays (unhide HB1))) (unhide HB) (by rw [← unhide HN]; omega)
  rw [← unhide HN] at h2
  refine h2.mono ?_
  intro e w3 ⟨he, hw3⟩
  subst he hw3
  have f1 : (((sumF l : Nat) : Int) == ((sumF l : Nat) : Int)) = true := by simp
  go_wp2_with fail
  go_ret
  exact ⟨rfl, unhide HB1⟩
end Go.Proofs.Ytljdhaepkhhnlaa
