/- pieces: the iterator's walk. -/
import Derived.Test.YthhdlmegbbmbhaaPc
namespace Go.Proofs.Ythhdlmegbbmbhaa
open Go.RowKit Go.Shelf
set_option linter.unusedVariables false

attribute [local go_sem] Oper.semAt_some

theorem abides_iter {β : Type} {B : Nat} {J : β → World → Prop} (h : AbidesFrom B J) {s : β} {W : World} {k : Nat} {t : ByteArray} {pos : Nat} (hB : B ≤ k) (hk : W.heap[k]? = some (.stringIter t pos)) (pos' : Nat) (hJ : J s W) : J s (W.iterAt k t pos') :=
  h s W (W.iterAt k t pos') (some k) hJ (grownBy_putObj' W k (.stringIter t pos')) (fun r e => by cases e; exact ⟨hB, _, hk, rfl⟩)

theorem abides_alloc {β : Type} {B : Nat} {J : β → World → Prop} (h : AbidesFrom B J) {s : β} {W : World} (o : Obj) (hJ : J s W) : J s (W.alloc o) :=
  h s W _ none hJ (World.grownBy_alloc W o none) (fun r e => by cases e)

theorem cell_of_heap {W : World} {b : Nat} {v : Value} {t : Nat} {f : Nat × Nat} (h : W.heap[b]? = some (.cells #[v] t f)) : W.cell? ⟨b, 0, none⟩ = some v := by
  simp [World.cell?, h]

set_option maxRecDepth 100000 in
set_option maxHeartbeats 2000000 in
theorem pieces1_at (F : Fence) (m : Nat) (h39 : F.fn 39) (hro : F.round = none) (hm : 1 ≤ m) (Bs : Nat) (s : ByteArray) (hs : s.size ≤ 9223372036854775807) (w : World) (hbox : w.heap[Bs]? = some (.cells #[.string s] 9 (0, 0))) :
    SeqAt F m Try.prog 39 #[.pointer (some ⟨Bs, 0, none⟩)] (fun k => #[.string (pcAt s.data.toList k)]) (KpB Bs (.string s)) (pcs s.data.toList).length w := by
  intro l J Y W hW hJ hY hy h0
  have hbW : W.heap[Bs]? = some (.cells #[.string s] 9 (0, 0)) := (hW.block Bs (Array.getElem?_eq_some_iff.1 hbox).1).trans hbox
  have hBlt : Bs < W.heap.size := (Array.getElem?_eq_some_iff.1 hbW).1
  have c0 := cell_of_heap hbW
  have HY := hide hy
  clear hy hbox
  refine callsIn_of_wp Try.func39 rfl h39 ?_ hro
  simp only [Try.ntmps39, List.size_toArray, List.length_cons, List.length_nil, Nat.reduceAdd, Nat.reduceSub, Array.replicate_succ, Array.replicate_zero, List.push_toArray, List.append_toArray, List.nil_append, List.cons_append]
  gi_wp2
  gi_loopw [3] (fun i wr => ∃ k fr pos : Nat, i = .int .i64 (fr : Int) ∧ Stand s k fr pos ∧ wr.heap[W.heap.size]? = some (.stringIter s pos) ∧ wr.heap[Bs]? = some (.cells #[.string s] 9 (0, 0)) ∧ J k wr) (fun _ wr => s.size - wr.iterPos W.heap.size)
  case atStart => exact ⟨0, 0, 0, rfl, Stand.zero s, World.iter_heap _ _ _, (Below.heap_alloc W _ Bs hBlt).trans hbW, abides_alloc hJ _ h0⟩
  case round =>
    obtain ⟨k, fr, pos, rfl, hst, hit, hbx, hJk⟩ := hrel
    have c0 := cell_of_heap hbx
    by_cases hp : pos < s.size
    · have hnx : ∀ ty, (Instr.next (.pointer (some ⟨W.heap.size, 0, none⟩)) true ty).run Try.prog wr = _ := fun ty => Lib.run_next_any_at wr W.heap.size s pos ty hit hp
      have hit2 := Lib.iterAt_heap wr W.heap.size s pos (pos + (Utf8.decode s pos).2) hit
      have hbx2 : (wr.iterAt W.heap.size s (pos + (Utf8.decode s pos).2)).heap[Bs]? = _ := (Lib.iterAt_other wr W.heap.size Bs s (pos + (Utf8.decode s pos).2) (by omega)).trans hbx
      have c1 := cell_of_heap hbx2
      have hJ2 := abides_iter hJ (Nat.le_refl _) hit (pos + (Utf8.decode s pos).2) hJk
      have HM : Hid (s.size - (wr.iterAt W.heap.size s (pos + (Utf8.decode s pos).2)).iterPos W.heap.size < s.size - wr.iterPos W.heap.size) := by
        have := decode_facts s pos hp
        show s.size - (wr.iterAt W.heap.size s (pos + (Utf8.decode s pos).2)).iterPos W.heap.size < s.size - wr.iterPos W.heap.size
        simp only [World.iterPos, hit2, hit]
        omega
      have HI := hide hit
      have HI2 := hide hit2
      obtain ⟨W2, hW2⟩ : ∃ W2, W2 = wr.iterAt W.heap.size s (pos + (Utf8.decode s pos).2) := ⟨_, rfl⟩
      rw [← hW2] at hnx hit2 hbx2 c1 hJ2 HM HI2
      clear hJk hit hit2
      by_cases h47 : (Utf8.decode s pos).1 = 47
      · have e47 : (((Utf8.decode s pos).1 : Nat) : Int) = 47 := by omega
        obtain ⟨hq, hst2⟩ := hst.cut hp (is_slash hp h47).1
        obtain ⟨fn, tmps, assign, body, hyy, hRd⟩ := unhide HY k W2 hst.k_lt hJ2
        rw [hq] at hyy
        have f1 : (fr : Int) ≤ (pos : Int) := by have := hst.le; omega
        have f2 : (pos : Int) ≤ (s.size : Int) := by omega
        have f3 : (0 : Int) ≤ (fr : Int) := by omega
        have HS := hide hst2
        have HW := hide hW2
        clear hst hst2 hq hW2
        gi_wp2
        refine hRd.mono ?_
        rintro e W3 (⟨rfl, hJ3, hk3⟩ | ⟨rfl, hY3⟩)
        · gi_wp2
          have hi3 := hk3.1.same W.heap.size _ (unhide HI2) rfl
          have e3 := unhide HM
          refine ⟨⟨k + 1, pos + 1, pos + (Utf8.decode s pos).2, by simp, ?_, hi3, hk3.2 hbx2, hJ3⟩, ?_⟩
          · rw [(is_slash hp h47).2]; exact unhide HS
          · simp only [World.iterPos, hi3, unhide HI2, unhide HI] at e3 ⊢
            exact e3
        · gi_wp2
          refine bodyPost_ret (results_none rfl _ _ _) rfl ?_
          exact ⟨⟨_, rfl⟩, .inr hY3⟩
      · have i47 : ¬ (((Utf8.decode s pos).1 : Nat) : Int) = 47 := by omega
        have j47 : ((((Utf8.decode s pos).1 : Nat) : Int) == 47) = false := by simpa using i47
        have HS := hide (hst.step hp h47)
        have HW := hide hW2
        clear hst hW2
        gi_wp2
        exact ⟨⟨k, fr, pos + (Utf8.decode s pos).2, rfl, unhide HS, unhide HI2, hbx2, hJ2⟩, unhide HM⟩
    · have hnx : ∀ ty, (Instr.next (.pointer (some ⟨W.heap.size, 0, none⟩)) true ty).run Try.prog wr = _ := fun ty => Lib.run_next_end_at wr W.heap.size s pos ty hit hp
      obtain rfl : pos = s.size := by have := hst.size; omega
      obtain ⟨hq, hN⟩ := hst.last
      obtain ⟨fn, tmps, assign, body, hyy, hRd⟩ := unhide HY k wr (by omega) hJk
      rw [hq] at hyy
      have f1 : (fr : Int) ≤ (s.size : Int) := by have := hst.le; omega
      have f3 : (0 : Int) ≤ (fr : Int) := by omega
      have HS := hide hst
      clear hst hq hit
      gi_wp2
      refine hRd.mono ?_
      rintro e W3 (⟨rfl, hJ3, hk3⟩ | ⟨rfl, hY3⟩)
      · gi_wp2
        go_end0
        refine ⟨⟨_, rfl⟩, .inl ?_⟩
        rw [hN]
        exact hJ3
      · gi_wp2
        go_end0
        exact ⟨⟨_, rfl⟩, .inr hY3⟩

end Go.Proofs.Ythhdlmegbbmbhaa
