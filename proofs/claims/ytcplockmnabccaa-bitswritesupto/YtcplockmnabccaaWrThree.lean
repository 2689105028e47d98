/-
  A writer beside a list of its bits: what stands when others' blocks are written; Put that is refused; a list of ints that is read.
-/
import Derived.Test.YtcplockmnabccaaRefTwo
namespace Go.Proofs.Ytcplockmnabccaa
open Go.RowKit Mth

set_option maxHeartbeats 1000000 in
theorem put_arg (pb m f : Nat) (high : Bool) (v0 : Value) (L : List Bool) (V : Nat) (n : Int) (w : World) (hw : WOk w pb high v0 m L f) (hn : ¬ (0 ≤ n ∧ n ≤ 64 ∧ V < 2 ^ n.toNat)) :
    Calls Try.prog 12 #[.pointer (some ⟨pb, 0, none⟩), .int .u64 (V : Int), .int .i64 n] w fun e w' => e = .returned (.int .i64 2) ∧ w' = w := by
  have c0 := hw.c0
  clear hw
  by_cases h0 : n < 0
  · have hd : decide (n < 0) = true := by simpa using h0
    clear hn
    go_enter Try.func12, Try.ntmps12
    go_wp2_with (go_at_call 26; refine (good_yes _ _ (by assumption)).mono ?_; rintro e w' ⟨rfl, rfl⟩)
    go_ret
    exact ⟨rfl, rfl⟩
  · have hd : decide (n < 0) = false := by simpa using h0
    by_cases h1 : 64 < n
    · have hd1 : decide (64 < n) = true := by simpa using h1
      clear hn
      go_enter Try.func12, Try.ntmps12
      go_wp2_with (go_at_call 26; refine (good_yes _ _ (by assumption)).mono ?_; rintro e w' ⟨rfl, rfl⟩)
      go_ret
      exact ⟨rfl, rfl⟩
    · obtain ⟨N, rfl⟩ := Int.eq_ofNat_of_zero_le (show 0 ≤ n by omega)
      have hd1 : decide (64 < (N : Int)) = false := by simp; omega
      have hge : 2 ^ N ≤ V := by
        rw [Int.toNat_natCast] at hn
        omega
      have hsh : ((V : Int) / 2 ^ N != 0) = true := by
        rw [show ((V : Int) / 2 ^ N) = ((V / 2 ^ N : Nat) : Int) by simp]
        have h7 : 0 < V / 2 ^ N := Nat.div_pos hge (Nat.pow_pos (by decide))
        simp only [bne_iff_ne, ne_eq]
        omega
      clear hn hge
      go_enter Try.func12, Try.ntmps12
      go_wp2_with (go_at_call 26; refine (good_yes _ _ (by assumption)).mono ?_; rintro e w' ⟨rfl, rfl⟩)
      go_ret
      exact ⟨rfl, rfl⟩

/-- A writer, and a list of ints that holds its bits. -/
structure St (w0 ws : World) (pb : Nat) (high : Bool) (v : Value) (m f : Nat) (L : List Bool) (la : Option Addr) (lcap : Nat) : Prop where
  wok : WOk ws pb high v m L f
  fle : f ≤ 7
  own : ws.ownsRow (pb + 1) 3 1 (.slice la L.length lcap) L.length (L.map bi)
  dis : ∀ g, v.ownBlock = some g → (Value.slice la L.length lcap).ownBlock ≠ some g
  bel : Below w0.heap.size w0 ws
  pbw : w0.heap.size ≤ pb

section
variable {w0 ws ws' : World} {pb : Nat} {high : Bool} {v : Value} {m f : Nat} {L : List Bool} {la : Option Addr} {lcap : Nat}

theorem St.lt (h : St w0 ws pb high v m f L la lcap) : pb < ws.heap.size := h.wok.lt
theorem St.vlt (h : St w0 ws pb high v m f L la lcap) {g : Nat} (e : v.ownBlock = some g) : pb < g ∧ g < ws.heap.size := by have := h.wok.row.lt g e; omega
theorem St.llt (h : St w0 ws pb high v m f L la lcap) {g : Nat} (e : (Value.slice la L.length lcap).ownBlock = some g) : pb < g ∧ g < ws.heap.size := by have := h.own.lt g e; omega

/-- What others write leaves all of it. -/
theorem St.only {x : Nat} (h : St w0 ws pb high v m f L la lcap) (ho : Only x ws ws') (h1 : pb < x) (h2 : v.ownBlock ≠ some x) (h3 : (Value.slice la L.length lcap).ownBlock ≠ some x) : St w0 ws' pb high v m f L la lcap :=
  ⟨h.wok.keep (ho.keep pb h.lt (by omega)) (fun g e => ho.keep g (h.vlt e).2 (fun e' => h2 (by rw [← e']; exact e))), h.fle,
    own_keep h.own (fun g e => ho.keep g (h.llt e).2 (fun e' => h3 (by rw [← e']; exact e))), h.dis, h.bel.trans (ho.below (by have := h.pbw; omega) (by have := h.bel.size; omega)), h.pbw⟩

theorem St.below (h : St w0 ws pb high v m f L la lcap) (hb : Below ws.heap.size ws ws') : St w0 ws' pb high v m f L la lcap :=
  h.only (x := ws.heap.size) (Only.of_below hb) h.lt (fun e => by have := (h.vlt e).2; omega) (fun e => by have := (h.llt e).2; omega)

theorem St.bytes (h : St w0 ws pb high v m f L la lcap) : m = (L.length + 7) / 8 := by have := h.wok.len; have := h.fle; omega

/-- The list, read int by int. -/
theorem St.ints (h : St w0 ws pb high v m f L la lcap) : 0 < L.length → ∃ b off, la = some ⟨b, off, none⟩ ∧ ∀ j, j < L.length → ws.cell? ⟨b, off + j, none⟩ = some (bi (L.getD j false)) := fun h0 => by
  rcases h.own.2 with ⟨_, e'⟩ | ⟨g, c, _, e, _⟩
  · omega
  · injection e with e1
    refine ⟨g, 0, e1, fun j hj => ?_⟩
    have h5 := h.own.cells (g := g) (by rw [e1]; rfl) j (bi (L.getD j false)) (by simp [hj])
    have e5 : ∀ k, (⟨g, 0, none⟩ : Addr).add k = ⟨g, k, none⟩ := fun k => by by_cases hq : k = 0 <;> simp [Addr.add, hq]
    rw [e5] at h5
    simpa using h5
end

/-- How many bytes the first i acts have. -/
def tot (Zf : Nat → List Nat) : Nat → Nat
  | 0 => 0
  | i + 1 => tot Zf i + (Zf i).length

theorem tot_mono (Zf : Nat → List Nat) (i n : Nat) (h : i ≤ n) : tot Zf i ≤ tot Zf n := by
  induction n with
  | zero => obtain rfl : i = 0 := by omega
            exact Nat.le_refl _
  | succ n ih =>
    by_cases e : i = n + 1
    · subst e; exact Nat.le_refl _
    · have := ih (by omega); simp only [tot]; omega

end Go.Proofs.Ytcplockmnabccaa
