/-
  The state of BitsWrites' loop where the writer and the list of bits may part for a while.
-/
import Derived.Test.YtcplockmnabccaaWrThree
namespace Go.Proofs.Ytcplockmnabccaa
open Go.RowKit Mth

structure Sm (w0 ws : World) (pb : Nat) (high : Bool) (v : Value) (m f : Nat) (L M : List Bool) (la : Option Addr) (lcap : Nat) : Prop where
  wok : WOk ws pb high v m L f
  fle : f ≤ 7
  own : ws.ownsRow (pb + 1) 3 1 (.slice la M.length lcap) M.length (M.map bi)
  dis : ∀ g, v.ownBlock = some g → (Value.slice la M.length lcap).ownBlock ≠ some g
  bel : Below w0.heap.size w0 ws
  pbw : w0.heap.size ≤ pb

theorem own_len {w : World} {base e size n : Nat} {v : Value} {xs : List Value} (h : w.ownsRow base e size v n xs) : ∃ la lcap, v = .slice la n lcap := by
  rcases h.2 with ⟨e, e'⟩ | ⟨g, c, _, e, _⟩
  · exact ⟨none, 0, by rw [e, e']⟩
  · exact ⟨_, _, e⟩

section
variable {w0 ws ws' : World} {pb : Nat} {high : Bool} {v : Value} {m f : Nat} {L M : List Bool} {la : Option Addr} {lcap : Nat}

theorem St.sm (h : St w0 ws pb high v m f L la lcap) : Sm w0 ws pb high v m f L L la lcap := ⟨h.wok, h.fle, h.own, h.dis, h.bel, h.pbw⟩
theorem Sm.st (h : Sm w0 ws pb high v m f L L la lcap) : St w0 ws pb high v m f L la lcap := ⟨h.wok, h.fle, h.own, h.dis, h.bel, h.pbw⟩
theorem Sm.vlt (h : Sm w0 ws pb high v m f L M la lcap) {g : Nat} (e : v.ownBlock = some g) : pb < g ∧ g < ws.heap.size := by have := h.wok.row.lt g e; omega
theorem Sm.llt (h : Sm w0 ws pb high v m f L M la lcap) {g : Nat} (e : (Value.slice la M.length lcap).ownBlock = some g) : pb < g ∧ g < ws.heap.size := by have := h.own.lt g e; omega

theorem Sm.below (h : Sm w0 ws pb high v m f L M la lcap) (hb : Below ws.heap.size ws ws') : Sm w0 ws' pb high v m f L M la lcap :=
  ⟨h.wok.keep (hb.block pb h.wok.lt) (fun g e => hb.block g (h.vlt e).2), h.fle, own_keep h.own (fun g e => hb.block g (h.llt e).2), h.dis, h.bel.trans (hb.mono h.bel.size), h.pbw⟩

/-- What a call that writes through the writer leaves. -/
theorem Sm.put {v' : Value} {m' f' : Nat} {L' : List Bool} (h : Sm w0 ws pb high v m f L M la lcap) (hw : WOk ws' pb high v' m' L' f') (hf : f' ≤ 7) (hc : Chg pb v ws v' ws') : Sm w0 ws' pb high v' m' f' L' M la lcap where
  wok := hw
  fle := hf
  own := own_keep h.own (fun g e => hc.keep g (h.llt e).2 (by have := (h.llt e).1; omega) (fun e' => h.dis g e' e))
  dis := fun g e e' => by
    rcases hc.lies with e2 | ⟨g2, e2, h2⟩
    · exact h.dis g (by rw [← e2]; exact e) e'
    · rw [e2] at e
      injection e with e
      have := (h.llt e').2
      omega
  bel := h.bel.trans ⟨hc.os, hc.tape, hc.output, hc.size, fun k hk => hc.keep k (by have := h.bel.size; omega) (by have := h.pbw; omega) (fun e => by have := (h.vlt e).1; have := h.pbw; omega)⟩
  pbw := h.pbw

/-- What an append to the list leaves. -/
theorem Sm.grow {T : List Bool} {la' : Option Addr} {lcap' : Nat} (h : Sm w0 ws pb high v m f L M la lcap) (ho : ws'.ownsRow (pb + 1) 3 1 (.slice la' (M ++ T).length lcap') (M ++ T).length ((M ++ T).map bi))
    (hg : ws.grownBy ws' (Value.slice la M.length lcap).ownBlock) (hat : (Value.slice la' (M ++ T).length lcap').ownBlock = (Value.slice la M.length lcap).ownBlock ∨ (Value.slice la' (M ++ T).length lcap').ownBlock = some ws.heap.size) : Sm w0 ws' pb high v m f L (M ++ T) la' lcap' where
  wok := h.wok.keep (hg.block pb h.wok.lt (fun e => by have := (h.llt e.symm).1; omega)) (fun g e => hg.block g (h.vlt e).2 (fun e' => h.dis g e e'.symm))
  fle := h.fle
  own := ho
  dis := fun g e e' => by
    rcases hat with e2 | e2
    · exact h.dis g e (by rw [← e2]; exact e')
    · rw [e2] at e'
      injection e' with e'
      have := (h.vlt e).2
      omega
  bel := h.bel.grown hg h.bel.size (fun k e => by have := (h.llt e).1; have := h.pbw; omega)
  pbw := h.pbw
end
end Go.Proofs.Ytcplockmnabccaa
