/- take, in memory: what holds between two rounds. -/
import Derived.Test.YtdpbjeajipggbaaBackward
import Derived.Test.YtdpbjeajipggbaaTaken
namespace Go.Proofs.Ytdpbjeajipggbaa
open Go.RowKit Go.Shelf
set_option linter.unusedVariables false

/-- what does not change in take's time: symbols and rounds, none of them in the lengths' block -/
structure TakeW (os : List Int) (order : List Nat) (w : World) (gr gl M : Nat) (sa : Option Addr) (v1 v2 : Nat → Value) : Prop where
  sym : 0 < order.length → ∃ g off, sa = some ⟨g, off, none⟩ ∧ g ≠ gl ∧ ∀ j, j < order.length → w.cell? ⟨g, off + j * 2, none⟩ = some (.int .i64 (order.getD j 0 : Nat)) ∧ w.cell? ⟨g, off + j * 2 + 1, none⟩ = some (.int .i64 (wt os (order.getD j 0) : Nat))
  ne : gr ≠ gl
  one : ∀ j, j < M → w.cell? ⟨gr, j * 2, none⟩ = some (v1 j)
  two : ∀ j, j < M → w.cell? ⟨gr, j * 2 + 1, none⟩ = some (v2 j)
  sh : ∀ j, j < M → ∃ a l c, v1 j = .slice a l c
  ahd : ∀ j, j < M → ∃ b off cap, b ≠ gl ∧ v2 j = .slice (some ⟨b, off, none⟩) (Merge.ahd (worths os order) (Merge.bk (worths os order) j)).length cap ∧
    ∀ i, i < (Merge.ahd (worths os order) (Merge.bk (worths os order) j)).length → w.cell? ⟨b, off + i, none⟩ = some (.int .i64 ((Merge.ahd (worths os order) (Merge.bk (worths os order) j)).getD i 0 : Nat))

structure TakeI (w : World) (gr gl M nn N T : Nat) (sa : Option Addr) (scap : Nat) (order wl : List Nat) (C : Nat → Nat) (t : Nat) (W : World) : Prop where
  b0 : W.heap[w.heap.size]? = some (.cells #[.slice sa N scap] 38 (0, 0))
  b1 : W.heap[w.heap.size + 1]? = some (.cells #[.slice (some ⟨gl, 0, none⟩) nn nn] 22 (0, 0))
  b2 : W.heap[w.heap.size + 2]? = some (.cells #[.int .i64 (t : Int)] 3 (0, 0))
  b3 : W.heap[w.heap.size + 3]? = some (.cells #[.slice (some ⟨gr, 0, none⟩) M M] 43 (0, 0))
  ln : IntsAt W .i64 3 gl nn C
  kp : ∀ x, x < w.heap.size → x ≠ gl → W.heap[x]? = w.heap[x]?
  st : W.os = w.os ∧ W.tape = w.tape ∧ W.output = w.output

section
variable {w : World} {gr gl M nn N T : Nat} {sa : Option Addr} {scap : Nat} {order wl : List Nat} {C : Nat → Nat} {t : Nat} {W W' : World}

theorem TakeI.cell (h : TakeI w gr gl M nn N T sa scap order wl C t W) {p : Addr} {u : Value} (hp : w.cell? p = some u) (hne : p.block ≠ gl) : W.cell? p = some u := by
  rw [World.cell?_of_block (h.kp _ (cell_lt hp) hne)]; exact hp

/-- what keeps the cells that were there keeps it -/
theorem TakeI.grown (h : TakeI w gr gl M nn N T sa scap order wl C t W) {row : Option Nat} (hg : W.grownBy W' row) (hr : ∀ r, row = some r → w.heap.size ≤ r ∧ ∃ o : Obj, W.heap[r]? = some o ∧ o.isCells = false) : TakeI w gr gl M nn N T sa scap order wl C t W' := by
  have key : ∀ (x : Nat) (cs : Array Value) (ty : TypeId) (f : Nat × Nat), W.heap[x]? = some (Obj.cells cs ty f) → W'.heap[x]? = W.heap[x]? := fun x cs ty f hx => by
    refine hg.block x (heap_lt hx) (fun e => ?_)
    obtain ⟨_, o, ho, hc⟩ := hr x e.symm
    rw [hx] at ho
    injection ho with ho
    subst ho
    simp [Obj.isCells] at hc
  have hs : w.heap.size < W.heap.size := heap_lt h.b0
  exact ⟨by rw [key _ _ _ _ h.b0]; exact h.b0, by rw [key _ _ _ _ h.b1]; exact h.b1, by rw [key _ _ _ _ h.b2]; exact h.b2, by rw [key _ _ _ _ h.b3]; exact h.b3, by unfold IntsAt; rw [key _ _ _ _ h.ln]; exact h.ln,
    fun x hx hne => by rw [hg.block x (by omega) (fun e => by have := (hr x e.symm).1; omega)]; exact h.kp x hx hne, ⟨hg.os.trans h.st.1, hg.tape.trans h.st.2.1, hg.output.trans h.st.2.2⟩⟩

theorem TakeI.alloc (h : TakeI w gr gl M nn N T sa scap order wl C t W) (o : Obj) : TakeI w gr gl M nn N T sa scap order wl C t (W.alloc o) := h.grown (World.grownBy_alloc W o none) (fun r e => by cases e)

/-- one more for a symbol -/
theorem TakeI.inc (h : TakeI w gr gl M nn N T sa scap order wl C t W) (hl : gl < w.heap.size) (i x : Nat) : TakeI w gr gl M nn N T sa scap order wl (upd C i x) t (W.setCell ⟨gl, i, none⟩ (.int .i64 (x : Int))) := by
  have o : ∀ k, k ≠ gl → (W.setCell ⟨gl, i, none⟩ (.int .i64 (x : Int))).heap[k]? = W.heap[k]? := fun k hk => heap_setCell_other _ _ _ _ (by exact hk)
  exact ⟨by rw [o _ (by omega)]; exact h.b0, by rw [o _ (by omega)]; exact h.b1, by rw [o _ (by omega)]; exact h.b2, by rw [o _ (by omega)]; exact h.b3, h.ln.set i x, fun k hk hne => by rw [o k hne]; exact h.kp k hk hne, h.st⟩

/-- how many are taken -/
theorem TakeI.taken (h : TakeI w gr gl M nn N T sa scap order wl C t W) (hl : gl < w.heap.size) (t' : Nat) : TakeI w gr gl M nn N T sa scap order wl C t' (W.setCell ⟨w.heap.size + 2, 0, none⟩ (.int .i64 (t' : Int))) := by
  have o : ∀ k, k ≠ w.heap.size + 2 → (W.setCell ⟨w.heap.size + 2, 0, none⟩ (.int .i64 (t' : Int))).heap[k]? = W.heap[k]? := fun k hk => heap_setCell_other _ _ _ _ (by exact hk)
  refine ⟨by rw [o _ (by omega)]; exact h.b0, by rw [o _ (by omega)]; exact h.b1, ?_, by rw [o _ (by omega)]; exact h.b3, by unfold IntsAt; rw [o _ (by omega)]; exact h.ln, fun k hk hne => by rw [o k (by omega)]; exact h.kp k hk hne, h.st⟩
  rw [heap_setCell_same W (w.heap.size + 2) 0 _ 3 _ h.b2]; rfl

theorem TakeI.c0 (h : TakeI w gr gl M nn N T sa scap order wl C t W) : W.cell? ⟨w.heap.size, 0, none⟩ = some (.slice sa N scap) := by simp [World.cell?, h.b0]
theorem TakeI.c1 (h : TakeI w gr gl M nn N T sa scap order wl C t W) : W.cell? ⟨w.heap.size + 1, 0, none⟩ = some (.slice (some ⟨gl, 0, none⟩) nn nn) := by simp [World.cell?, h.b1]
theorem TakeI.c2 (h : TakeI w gr gl M nn N T sa scap order wl C t W) : W.cell? ⟨w.heap.size + 2, 0, none⟩ = some (.int .i64 (t : Int)) := by simp [World.cell?, h.b2]
theorem TakeI.f2 (h : TakeI w gr gl M nn N T sa scap order wl C t W) : W.frozen? ⟨w.heap.size + 2, 0, none⟩ = false := by simp [World.frozen?, h.b2]
theorem TakeI.c3 (h : TakeI w gr gl M nn N T sa scap order wl C t W) : W.cell? ⟨w.heap.size + 3, 0, none⟩ = some (.slice (some ⟨gr, 0, none⟩) M M) := by simp [World.cell?, h.b3]

theorem TakeI.back {os : List Int} {v1 v2 : Nat → Value} (h : TakeI w gr gl M nn N T sa scap order wl C t W) (hw : TakeW os order w gr gl M sa v1 v2) : BackR (w.heap.size + 3) gr M v1 v2 W :=
  ⟨h.c3, fun j hj => h.cell (hw.one j hj) hw.ne, fun j hj => h.cell (hw.two j hj) hw.ne⟩

theorem TakeI.start {w : World} {gr gl M nn N T : Nat} {sa : Option Addr} {scap : Nat} {order wl : List Nat} (hl : IntsAt w .i64 3 gl nn (fun _ => 0)) :
    TakeI w gr gl M nn N T sa scap order wl (fun _ => 0) T ((((w.alloc (.cells #[.slice sa N scap] 38)).alloc (.cells #[.slice (some ⟨gl, 0, none⟩) nn nn] 22)).alloc (.cells #[.int .i64 (T : Int)] 3)).alloc (.cells #[.slice (some ⟨gr, 0, none⟩) M M] 43)) := by
  obtain ⟨A, hA⟩ : ∃ A, A = w.alloc (.cells #[.slice sa N scap] 38) := ⟨_, rfl⟩
  obtain ⟨B, hB⟩ : ∃ B, B = A.alloc (.cells #[.slice (some ⟨gl, 0, none⟩) nn nn] 22) := ⟨_, rfl⟩
  obtain ⟨D, hD⟩ : ∃ D, D = B.alloc (.cells #[.int .i64 (T : Int)] 3) := ⟨_, rfl⟩
  have sA : A.heap.size = w.heap.size + 1 := by rw [hA]; simp
  have sB : B.heap.size = w.heap.size + 2 := by rw [hB]; simp [sA]
  have sD : D.heap.size = w.heap.size + 3 := by rw [hD]; simp [sB]
  rw [← hA, ← hB, ← hD]
  have kD : ∀ x o, x < D.heap.size → (D.alloc o).heap[x]? = D.heap[x]? := fun x o hx => Below.heap_alloc _ _ _ hx
  have kB : ∀ x, x < B.heap.size → D.heap[x]? = B.heap[x]? := fun x hx => by rw [hD]; exact Below.heap_alloc _ _ _ hx
  have kA : ∀ x, x < A.heap.size → B.heap[x]? = A.heap[x]? := fun x hx => by rw [hB]; exact Below.heap_alloc _ _ _ hx
  have kw : ∀ x, x < w.heap.size → A.heap[x]? = w.heap[x]? := fun x hx => by rw [hA]; exact Below.heap_alloc _ _ _ hx
  have all : ∀ x o, x < w.heap.size → (D.alloc o).heap[x]? = w.heap[x]? := fun x o hx => by rw [kD x o (by omega), kB x (by omega), kA x (by omega), kw x hx]
  refine ⟨?_, ?_, ?_, ?_, ?_, fun x hx _ => all x _ hx, ⟨by rw [hD, hB, hA]; rfl, by rw [hD, hB, hA]; rfl, by rw [hD, hB, hA]; rfl⟩⟩
  · rw [kD _ _ (by omega), kB _ (by omega), kA _ (by omega), hA]; exact heap_alloc_new _ _
  · rw [kD _ _ (by omega), kB _ (by omega), hB, ← sA]; exact heap_alloc_new _ _
  · rw [kD _ _ (by omega), hD, ← sB]; exact heap_alloc_new _ _
  · rw [← sD]; exact heap_alloc_new _ _
  · unfold IntsAt; rw [all _ _ hl.lt]; exact hl
end

end Go.Proofs.Ytdpbjeajipggbaa
