/- bytes.Index: the first place at which a piece stands. -/
import Derived.Test.YtabnfnejlffioaaLastI
import Derived.Test.YtabnfnejlffioaaShelf
import Derived.Lib.IndexMore
namespace Go.Proofs.Ytabnfnejlffioaa
open Go.RowKit Go.Lib
set_option linter.unusedVariables false

/-- the library's variable is an int -/
def ML (w : World) : Prop := ∃ m : Int, w.cell? ⟨0, 0, none⟩ = some (.int .i64 m)

theorem ML.stays {w w1 : World} (hb : Below w.heap.size w w1) (h : ML w) : ML w1 := by
  obtain ⟨m, h⟩ := h
  exact ⟨m, cell_stays hb h⟩

theorem ML.drewN {w : World} (q : Nat) (h : ML w) : ML (w.drewN q) := h

/-- the first place at which it stands, or none -/
def FirstIs (zs ys : List Nat) (r : Int) : Prop := (r = -1 ∧ ∀ j, j + ys.length ≤ zs.length → ¬ Stands zs ys j) ∨ ∃ j : Nat, r = (j : Int) ∧ j + ys.length ≤ zs.length ∧ Stands zs ys j ∧ ∀ j', j' < j → ¬ Stands zs ys j'

theorem occ_stands {zs ys : List Nat} (hz : ∀ z ∈ zs, z < 256) (hy : ∀ z ∈ ys, z < 256) {j : Nat} (hj : j + ys.length ≤ zs.length) : occAt (zs.map UInt8.ofNat) (ys.map UInt8.ofNat) j = true ↔ Stands zs ys j := by
  rw [RK.occAt_win _ _ _ (by simpa using hj), stands_sub hj]
  unfold RK.win
  rw [List.length_map, ← List.map_drop, ← List.map_take]
  constructor
  · intro h
    have h1 : ((zs.drop j).take ys.length).map UInt8.ofNat = ys.map UInt8.ofNat := by simpa using h
    refine sb_inj (fun z hz' => hz z (List.mem_of_mem_drop (List.mem_of_mem_take hz'))) hy ?_
    unfold sb
    rw [h1]
  · intro h
    rw [h]
    simp

theorem occ_short {s sub : List UInt8} {j : Nat} (h : occAt s sub j = true) : sub.length ≤ s.length - j := by
  unfold occAt at h
  have := List.isPrefixOf_iff_prefix.1 h
  have := this.length_le
  simpa using this

theorem first_of {zs ys : List Nat} (hz : ∀ z ∈ zs, z < 256) (hy : ∀ z ∈ ys, z < 256) (h1 : 1 ≤ ys.length) : FirstIs zs ys (index (zs.map UInt8.ofNat) (ys.map UInt8.ofNat)) := by
  rcases index_spec (zs.map UInt8.ofNat) (ys.map UInt8.ofNat) with ⟨e, hn⟩ | ⟨i, e, hi, ho, hno⟩
  · refine .inl ⟨e, fun j hj hs => ?_⟩
    have := hn j (by simp; omega)
    rw [(occ_stands hz hy hj).2 hs] at this
    cases this
  · have hl := occ_short ho
    simp at hl hi
    have hil : i + ys.length ≤ zs.length := by omega
    refine .inr ⟨i, e, hil, (occ_stands hz hy hil).1 ho, fun j' hj hs => ?_⟩
    have := hno j' hj
    rw [(occ_stands hz hy (by omega)).2 hs] at this
    cases this

theorem bytesOf_nats (zs : List Nat) : bytesOf (zs.map Int.ofNat) = zs.map UInt8.ofNat := by
  unfold bytesOf
  rw [List.map_map]
  rfl

theorem index_ok (zs ys : List Nat) (b off c b2 off2 c2 B : Nat) (w : World) (hr : ReadsU B w (.slice (some ⟨b, off, none⟩) zs.length c) zs) (hr2 : ReadsU B w (.slice (some ⟨b2, off2, none⟩) ys.length c2) ys) (hz : ∀ z ∈ zs, z < 256) (hy : ∀ z ∈ ys, z < 256)
    (h1 : 1 ≤ ys.length) (hl : zs.length < 4294967281) (hly : ys.length ≤ 140737488355328) (hcap : zs.length ≤ c) (hm : ML w) :
    Calls Try.prog 27 #[.slice (some ⟨b, off, none⟩) zs.length c, .slice (some ⟨b2, off2, none⟩) ys.length c2] w fun e w' => ∃ r : Int, e = .returned (.int .i64 r) ∧ FirstIs zs ys r ∧ ∃ q, w' = w.drewN q := by
  obtain ⟨m, hm⟩ := hm
  have hcell : ∀ {zs : List Nat} {b off c : Nat}, ReadsU B w (.slice (some ⟨b, off, none⟩) zs.length c) zs → ∀ i, i < zs.length → w.cell? ((⟨b, off, none⟩ : Addr).add i) = some (.int .u8 ((zs.map Int.ofNat).getD i 0)) := fun {zs b off c} h i hi => by
    obtain ⟨a', c', e, _, hs⟩ := h
    injection e with e1 e2 e3
    subst e1
    obtain ⟨_, _, e, _, hc⟩ := hs (by omega)
    injection e with e
    injection e with e1 e2
    subst e1 e2
    have ea : (⟨b, off, none⟩ : Addr).add i = ⟨b, off + i, none⟩ := by by_cases hq : i = 0 <;> simp [Addr.add, hq]
    rw [ea, hc i hi]
    simp [hi]
  have hr' : ∀ {zs : List Nat}, (∀ z ∈ zs, z < 256) → ∀ x ∈ zs.map Int.ofNat, 0 ≤ x ∧ x < 256 := fun {zs} h x hx => by
    obtain ⟨z, hz, rfl⟩ := List.mem_map.1 hx
    have := h z hz
    simp
    omega
  refine (Any.bytes_Index_at { Try.laysM185 with } ⟨b, off, none⟩ ⟨b2, off2, none⟩ zs.length c ys.length c2 (zs.map Int.ofNat) (ys.map Int.ofNat) m w (by simp) (by simp) (hr' hz) (hr' hy) (hcell hr) (hcell hr2) hcap hl (by omega) hm).mono ?_
  rintro e w' ⟨rfl, hq⟩
  refine ⟨_, rfl, ?_, hq⟩
  rw [bytesOf_nats, bytesOf_nats]
  exact first_of hz hy h1

end Go.Proofs.Ytabnfnejlffioaa
