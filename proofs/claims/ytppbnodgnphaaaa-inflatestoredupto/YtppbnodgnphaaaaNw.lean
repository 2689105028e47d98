/- Codes that are made beside a reading: prefix.New, codesOf. -/
import Derived.Test.YtppbnodgnphaaaaSt
import Derived.Test.YtppbnodgnphaaaaToks
import Derived.Test.YtppbnodgnphaaaaFx
namespace Go.Proofs.Ytppbnodgnphaaaa
open Go.RowKit Mth Infl
set_option maxRecDepth 100000
set_option linter.unusedVariables false

open Classical in
/-- the error of a code's lengths -/
noncomputable def ce (ls : List Nat) (most : Nat) (loose : Bool) : Nat := if okSum ls loose then 0 else 13

theorem ce_cases (ls : List Nat) (most : Nat) (loose : Bool) : (ce ls most loose = 0 ∧ okSum ls loose) ∨ (ce ls most loose = 13 ∧ ¬ okSum ls loose) := by
  unfold ce
  by_cases h : okSum ls loose
  · rw [if_pos h]; exact .inl ⟨rfl, h⟩
  · rw [if_neg h]; exact .inr ⟨rfl, h⟩

/-- lengths in memory -/
def ReadsN (w : World) (v : Value) (ls : List Nat) : Prop := ReadsI w v (ls.map fun l : Nat => (l : Int))

theorem nat_map (ls : List Nat) : nat (ls.map fun l : Nat => (l : Int)) = ls := by
  unfold nat
  rw [List.map_map]
  conv => rhs; rw [← List.map_id ls]
  exact List.map_congr_left fun a _ => by simp

theorem ReadsN.stays {w w1 : World} {v : Value} {ls : List Nat} (h : ReadsN w v ls) (hb : Below w.heap.size w w1) : ReadsN w1 v ls := ReadsI.stays hb h

theorem rnew (ls : List Nat) (M : Nat) (loose : Bool) (v : Value) (w : World) (hr : ReadsN w v ls) (hM : 1 ≤ M ∧ M ≤ 20) (hn : 1 ≤ ls.length ∧ ls.length ≤ 65536) (hl : ∀ l ∈ ls, l ≤ M) :
    Calls Try.prog 49 #[v, .int .i64 (M : Int), .bool loose] w fun e w' => Below w.heap.size w w' ∧ ((ce ls M loose = 13 ∧ e = .returned (.tuple #[.pointer none, .int .i64 13])) ∨ (ce ls M loose = 0 ∧ ∃ cp, e = .returned (.tuple #[.pointer (some ⟨cp, 0, none⟩), .int .i64 0]) ∧ Code ls w' cp w.heap.size w'.heap.size)) := by
  refine (pnew_ok v _ (M : Int) loose w hr).mono ?_
  rintro e w' ⟨_, h2, h3, h4⟩
  have hok : okArgs (ls.map fun l : Nat => (l : Int)).length (M : Int) ∧ ∀ z ∈ (ls.map fun l : Nat => (l : Int)), okLen (M : Int) z := by
    refine ⟨⟨by omega, by omega, by simp; omega, by simp; omega⟩, fun z hz => ?_⟩
    rw [List.mem_map] at hz
    obtain ⟨l, hl1, rfl⟩ := hz
    have := hl l hl1
    exact ⟨by omega, by omega⟩
  rw [nat_map] at h2 h3
  refine ⟨h4, ?_⟩
  rcases ce_cases ls M loose with ⟨c1, c2⟩ | ⟨c1, c2⟩
  · exact .inr ⟨c1, h3 hok c2⟩
  · exact .inl ⟨c1, h2 hok c2⟩

/-- two codes that are new -/
def NewIs (l1 l2 : List Nat) (w : World) (e : Ending) (w' : World) : Prop :=
  Below w.heap.size w w' ∧ ((∃ cs cd, ce l1 15 true = 0 ∧ ce l2 15 true = 0 ∧ e = .returned (.tuple #[.pointer (some ⟨cs, 0, none⟩), .pointer (some ⟨cd, 0, none⟩), .int .i64 0]) ∧ (∃ lo hi, Code l1 w' cs lo hi ∧ w.heap.size ≤ lo ∧ hi ≤ w'.heap.size) ∧ (∃ lo hi, Code l2 w' cd lo hi ∧ w.heap.size ≤ lo ∧ hi ≤ w'.heap.size)) ∨
    ((ce l1 15 true = 13 ∨ ce l1 15 true = 0 ∧ ce l2 15 true = 13) ∧ e = .returned (.tuple #[.pointer none, .pointer none, .int .i64 13])))

set_option maxHeartbeats 1000000 in
theorem codesOf_ok (l1 l2 : List Nat) (v1 v2 : Value) (w : World) (h1 : ReadsN w v1 l1) (h2 : ReadsN w v2 l2) (hn1 : 1 ≤ l1.length ∧ l1.length ≤ 65536) (hn2 : 1 ≤ l2.length ∧ l2.length ≤ 65536) (hl1 : ∀ l ∈ l1, l ≤ 15) (hl2 : ∀ l ∈ l2, l ≤ 15) :
    Calls Try.prog 44 #[v1, v2] w fun e w' => NewIs l1 l2 w e w' := by
  have HN1 := hide (rnew l1 15 true v1 w h1 (by decide) hn1 hl1)
  have HN2 : Hid (∀ w1, Below w.heap.size w w1 → _) := hide fun w1 hb => rnew l2 15 true v2 w1 (h2.stays hb) (by decide) hn2 hl2
  clear h1 h2 hn1 hn2 hl1 hl2
  go_enter Try.func44, Try.ntmps44
  go_wp2_with fail
  refine wp_scope_on 0 rfl ?_
  go_wp2_with fail
  refine (unhide HN1).mono ?_
  rintro e w1 ⟨hb, ⟨hc, rfl⟩ | ⟨hc, cs, rfl, hcode⟩⟩
  · have HE : Hid (NewIs l1 l2 w (.returned (.tuple #[.pointer none, .pointer none, .int .i64 13])) w1) := hide ⟨hb, .inr ⟨.inl hc, rfl⟩⟩
    clear hb hc
    go_wp2_with fail
    go_step3
    refine ⟨rfl, ?_⟩
    go_wp2_with fail
    rw [Exit.noGoto_ret]
    go_ret3
    exact unhide HE
  · have HN := hide (unhide HN2 w1 hb)
    have HB := hide hb
    have HC := hide hc
    have HCO := hide hcode
    clear hb hc hcode HN2
    go_wp2_with fail
    refine (unhide HN).mono ?_
    rintro e w2 ⟨hb2, ⟨hc2, rfl⟩ | ⟨hc2, cd, rfl, hcode2⟩⟩
    · have HE : Hid (NewIs l1 l2 w (.returned (.tuple #[.pointer none, .pointer none, .int .i64 13])) w2) := hide ⟨(unhide HB).trans (hb2.mono (unhide HB).size), .inr ⟨.inr ⟨unhide HC, hc2⟩, rfl⟩⟩
      clear hb2 hc2
      go_wp2_with fail
      go_step3
      refine ⟨rfl, ?_⟩
      go_wp2_with fail
      rw [Exit.noGoto_ret]
      go_ret3
      exact unhide HE
    · have HE : Hid (NewIs l1 l2 w (.returned (.tuple #[.pointer (some ⟨cs, 0, none⟩), .pointer (some ⟨cd, 0, none⟩), .int .i64 0])) w2) := hide ⟨(unhide HB).trans (hb2.mono (unhide HB).size), .inl ⟨cs, cd, unhide HC, hc2, rfl, ⟨_, _, (unhide HCO).below hb2 (Nat.le_refl _), Nat.le_refl _, hb2.size⟩, ⟨_, _, hcode2, (unhide HB).size, Nat.le_refl _⟩⟩⟩
      clear hb2 hc2 hcode2
      go_wp2_with fail
      refine jump_ret_of ?_
      go_ret3
      exact unhide HE

section
variable {rb rp : Nat} {v : Value} {w w' : World} {B g p q most : Nat} {zs out : List Nat} {sv dv : Value}

theorem COk.new {ls : List Nat} {cp : Nat} (h : RAt w B rb rp g zs p v out most sv dv) (hc : ∃ lo hi, Code ls w' cp lo hi ∧ w.heap.size ≤ lo ∧ hi ≤ w'.heap.size) : COk ls w' B cp v := by
  obtain ⟨lo, hi, h1, h2, h3⟩ := hc
  exact ⟨lo, hi, h1, by have := h.hB; omega, h3, fun k e => by have := (h.own e).2; omega⟩

/-- a block apart has changed -/
theorem RAt.off {k : Nat} (h : RAt w B rb rp g zs p v out most sv dv) (h1 : k ≠ rb) (h2 : k ≠ rp) (h3 : k ≠ g) (h4 : v.ownBlock ≠ some k) (ho : Only k w w') : RAt w' B rb rp g zs p v out most sv dv :=
  ⟨by rw [ho.keep rb h.lt (fun e => h1 e.symm)]; exact h.blk, h.rd.keep (ho.keep rp h.rd.lt (fun e => h2 e.symm)) (ho.keep g (heap_lt h.rd.row) (fun e => h3 e.symm)), own_keep h.row (fun j e => ho.keep j (h.own e).2 (fun e' => h4 (by rw [← e']; exact e))), h.small, h.lb, h.lp, h.lg, h.ne, h.ng, h.ol, by have := ho.size; have := h.hB; omega⟩

theorem Chg.off {k : Nat} {v0 : Value} {w0 : World} (h : Chg rb rp v0 w0 v w) (hk : w0.heap.size ≤ k) (ho : Only k w w') : Chg rb rp v0 w0 v w' :=
  ⟨ho.os.trans h.os, ho.tape.trans h.tape, ho.output.trans h.output, by have := h.size; have := ho.size; omega, fun j h1 h2 h3 h4 => by rw [ho.keep j (by have := h.size; omega) (by omega)]; exact h.keep j h1 h2 h3 h4, h.lies⟩

theorem Chg.below' {v0 : Value} {w0 : World} (h : Chg rb rp v0 w0 v w) (hb : Below w.heap.size w w') : Chg rb rp v0 w0 v w' := h.trans (Chg.of_below rb rp v hb)
end

end Go.Proofs.Ytppbnodgnphaaaa
