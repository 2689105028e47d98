/- PrefixMakes: any lengths make the document's code, or none, and any symbol has its word. -/
import Derived.Test.YtclccccodeekmaaRefCost
import Derived.Test.YtclccccodeekmaaRef
import Derived.Laws.AppendOwnNone
namespace Go.Proofs.Ytclccccodeekmaa
open Go.RowKit
set_option linter.unusedVariables false

attribute [local go_sem ↓] Go.wp_at_zero Go.wp_at_succ

/-- What New answers, in one. -/
def PNew (zs : List Int) (most : Int) (loose : Bool) (cv : Value) (ec : Int) (w' : World) (lo hi : Nat) : Prop :=
  (¬ (okArgs zs.length most ∧ ∀ z ∈ zs, okLen most z) ∧ cv = .pointer none ∧ ec = 2) ∨
  ((okArgs zs.length most ∧ ∀ z ∈ zs, okLen most z) ∧ ¬ okSum (nat zs) loose ∧ cv = .pointer none ∧ ec = 13) ∨
  ((okArgs zs.length most ∧ ∀ z ∈ zs, okLen most z) ∧ okSum (nat zs) loose ∧ ec = 0 ∧ ∃ cp, cv = .pointer (some ⟨cp, 0, none⟩) ∧ Code (nat zs) w' cp lo hi)

theorem pnew_any (v : Value) (zs : List Int) (most : Int) (loose : Bool) (w : World) (hr : ReadsI w v zs) :
    Calls Try.prog 8 #[v, .int .i64 most, .bool loose] w fun e w' => ∃ cv ec, e = .returned (.tuple #[cv, .int .i64 ec]) ∧ PNew zs most loose cv ec w' w.heap.size w'.heap.size ∧ Below w.heap.size w w' := by
  refine (pnew_ok v zs most loose w hr).mono fun e w' ⟨h1, h2, h3, h4⟩ => ?_
  by_cases hok : okArgs zs.length most ∧ ∀ z ∈ zs, okLen most z
  · by_cases hs : okSum (nat zs) loose
    · obtain ⟨cp, he, hc⟩ := h3 hok hs
      exact ⟨_, 0, he, .inr (.inr ⟨hok, hs, rfl, cp, rfl, hc⟩), h4⟩
    · exact ⟨_, 13, h2 hok hs, .inr (.inl ⟨hok, hs, rfl, rfl⟩), h4⟩
  · exact ⟨_, 2, h1 hok, .inl ⟨hok, rfl, rfl⟩, h4⟩

theorem PNew.keep {zs : List Int} {most : Int} {loose : Bool} {cv : Value} {ec : Int} {w w' : World} {lo hi : Nat} (h : PNew zs most loose cv ec w lo hi) (hk : ∀ k, lo ≤ k → k < hi → w'.heap[k]? = w.heap[k]?) : PNew zs most loose cv ec w' lo hi := by
  rcases h with h | h | ⟨h1, h2, h3, cp, h4, h5⟩
  · exact .inl h
  · exact .inr (.inl h)
  · exact .inr (.inr ⟨h1, h2, h3, cp, h4, h5.keep hk⟩)

def RNew (zs : List Int) (most : Int) (loose : Bool) (rv : Value) (ec : Int) (w' : World) (lo : Nat) : Prop :=
  (¬ (okArgs zs.length most ∧ ∀ z ∈ zs, okLen most z) ∧ rv = .slice none 0 0 ∧ ec = 2) ∨
  ((okArgs zs.length most ∧ ∀ z ∈ zs, okLen most z) ∧ ¬ okSum (nat zs) loose ∧ rv = .slice none 0 0 ∧ ec = 13) ∨
  ((okArgs zs.length most ∧ ∀ z ∈ zs, okLen most z) ∧ okSum (nat zs) loose ∧ ec = 0 ∧ ∃ rg, lo ≤ rg ∧ rv = .slice (some ⟨rg, 0, none⟩) zs.length zs.length ∧ WordsAt w' 43 rg zs.length (wdz (nat zs)) (Canon.ln (nat zs)))

theorem refnew_any (v : Value) (zs : List Int) (most : Int) (loose : Bool) (w : World) (hr : ReadsI w v zs) :
    Calls Try.prog 9 #[v, .int .i64 most, .bool loose] w fun e w' => ∃ rv ec, e = .returned (.tuple #[rv, .int .i64 ec]) ∧ RNew zs most loose rv ec w' w.heap.size ∧ Below w.heap.size w w' := by
  by_cases hok : okArgs zs.length most
  · refine (refnew_good v zs most loose w hr hok).mono fun e w' ⟨h1, h2, h3, h4⟩ => ?_
    by_cases hz : okArgs zs.length most ∧ ∀ z ∈ zs, okLen most z
    · by_cases hs : okSum (nat zs) loose
      · obtain ⟨g, hg, he, hc⟩ := h3 hz hs
        exact ⟨_, 0, he, .inr (.inr ⟨hz, hs, rfl, g, hg, rfl, hc⟩), h4⟩
      · exact ⟨_, 13, h2 hz hs, .inr (.inl ⟨hz, hs, rfl, rfl⟩), h4⟩
    · exact ⟨_, 2, h1 hz, .inl ⟨hz, rfl, rfl⟩, h4⟩
  · obtain ⟨a, cap, rfl, _⟩ := hr
    refine (refnew_args a zs.length cap most loose w hok).mono fun e w' ⟨he, hw⟩ => ?_
    subst he hw
    exact ⟨_, 2, rfl, .inl ⟨fun h => hok h.1, rfl, rfl⟩, Below.refl _ _⟩

/-- A row of ints, whatever they are. -/
def RowI (w : World) (g n : Nat) : Prop := ∃ cur : Array Value, w.heap[g]? = some (.cells cur 3 (0, 0)) ∧ n ≤ cur.size
theorem RowI.cell {w : World} {g n : Nat} (h : RowI w g n) (j : Nat) (hj : j < n) : (∃ y, w.cell? ⟨g, j, none⟩ = some y) ∧ w.frozen? ⟨g, j, none⟩ = false := by
  obtain ⟨cur, hh, hs⟩ := h
  refine ⟨⟨cur[j], ?_⟩, by simp [World.frozen?, hh]⟩
  simp only [World.cell?, hh]
  simp [show j < cur.size by omega]
theorem RowI.set {w : World} {g n : Nat} (h : RowI w g n) (j : Nat) (y : Value) : RowI (w.setCell ⟨g, j, none⟩ y) g n := by
  obtain ⟨cur, hh, hs⟩ := h
  exact ⟨_, heap_setCell_same w g j cur 3 y hh, by simpa using hs⟩

def iv (z : Int) : Value := .int .i64 z

/-- what a slice of ints reads as, with a nil one told apart -/
def ReadsN (w : World) (a : Option Addr) (cap : Nat) (zs : List Int) : Prop := (a = none ∧ cap = 0 ∧ zs = []) ∨ ∃ ad, a = some ad ∧ ∀ (j : Nat) u, (zs.map iv)[j]? = some u → w.cell? (ad.add j) = some u

theorem ReadsN.reads {w : World} {a : Option Addr} {cap : Nat} {zs : List Int} (h : ReadsN w a cap zs) : ReadsI w (.slice a zs.length cap) zs := by
  refine ⟨a, cap, rfl, fun h0 => ?_⟩
  rcases h with ⟨_, _, rfl⟩ | ⟨ad, rfl, hc⟩
  · simp at h0
  · have h1 := hc 0 (iv zs[0]) (by simp [h0])
    have hsp : ad.spot = none := by
      cases hs : ad.spot with
      | none => rfl
      | some x =>
        exfalso
        rw [show ad.add 0 = ad by simp [Addr.add]] at h1
        unfold World.cell? at h1
        split at h1
        · rw [hs] at h1; simp at h1
        · cases h1
    refine ⟨ad.block, ad.off, by cases ad; simp_all, fun j hj => ?_⟩
    have h2 := hc j (iv zs[j]) (by simp [hj])
    have e : ad.add j = ⟨ad.block, ad.off + j, none⟩ := by
      cases ad
      simp only at hsp
      subst hsp
      by_cases hq : j = 0 <;> simp [Addr.add, hq]
    rw [e] at h2
    simpa [iv, hj] using h2

structure InRow (w wc : World) (box : Array Value) (g n : Nat) (zs : List Int) : Prop where
  bel : Below w.heap.size w wc
  box : wc.heap[w.heap.size]? = some (.cells box 24 (0, 0))
  lo : w.heap.size < g
  row : RowI wc g n
  rd : ∀ cap, ReadsI wc (.slice (some ⟨g, 0, none⟩) n cap) zs

theorem InRow.made {w w1 : World} {box : Array Value} {zs : List Int} {v' : Value} {n : Nat} (hn : n = zs.length) (hown : w1.ownsRow (w.heap.size + 1) 3 1 v' n ([] ++ zs.map iv)) (hg : ((w.alloc (.cells box 24)).alloc (.cells #[] 3)).grownBy w1 (some (w.heap.size + 1))) (hv : v' ≠ .slice none 0 0) :
    ∃ g cap, v' = .slice (some ⟨g, 0, none⟩) n cap ∧ InRow w w1 box g n zs := by
  obtain ⟨hl, ⟨e, _⟩ | ⟨g, cap, cur, e, hb, hh, hn', hc, hs, ht⟩⟩ := hown
  · exact absurd e hv
  · refine ⟨g, cap, e, ⟨?_, ?_, by omega, ⟨cur, hh, by omega⟩, fun cap' => ⟨_, cap', by rw [hn], fun h0 => ⟨g, 0, rfl, fun j hj => ?_⟩⟩⟩⟩
    · exact (((Below.refl _ _).alloc (Nat.le_refl _) _).alloc (by simp) _).trans ⟨hg.os, hg.tape, hg.output, hg.size, fun k hk => hg.block k (by simp; omega) (fun e => by injection e with e; omega)⟩
    · rw [hg.block _ (by simp; omega) (fun e => by injection e with e; omega), Below.heap_alloc _ _ _ (by simp)]
      exact heap_alloc_new _ _
    · have h2 : (cur.toList.take (n * 1))[j]? = some (iv zs[j]) := by rw [ht]; simp [hj]
      rw [List.getElem?_take, if_pos (by omega)] at h2
      simp only [World.cell?, hh, Nat.zero_add]
      simpa [iv, hj] using h2

theorem refnew_bad (v : Value) (zs : List Int) (most : Int) (loose : Bool) (w : World) (hr : ReadsI w v zs) (h : ¬ (okArgs zs.length most ∧ ∀ z ∈ zs, okLen most z)) :
    Calls Try.prog 9 #[v, .int .i64 most, .bool loose] w fun e w' => e = .returned (.tuple #[.slice none 0 0, .int .i64 2]) ∧ Below w.heap.size w w' := by
  refine (refnew_any v zs most loose w hr).mono fun e w' ⟨rv, ec, he, h1, h2⟩ => ?_
  rcases h1 with ⟨_, rfl, rfl⟩ | ⟨k, _⟩ | ⟨k, _⟩
  · exact ⟨he, h2⟩
  · exact absurd k h
  · exact absurd k h

theorem refnew_code (v : Value) (zs : List Int) (most : Int) (loose : Bool) (w : World) (hr : ReadsI w v zs) (h : okArgs zs.length most ∧ ∀ z ∈ zs, okLen most z) (hs : ¬ okSum (nat zs) loose) :
    Calls Try.prog 9 #[v, .int .i64 most, .bool loose] w fun e w' => e = .returned (.tuple #[.slice none 0 0, .int .i64 13]) ∧ Below w.heap.size w w' := by
  refine (refnew_any v zs most loose w hr).mono fun e w' ⟨rv, ec, he, h1, h2⟩ => ?_
  rcases h1 with ⟨k, _⟩ | ⟨_, _, rfl, rfl⟩ | ⟨_, k, _⟩
  · exact absurd h k
  · exact ⟨he, h2⟩
  · exact absurd k hs

theorem refnew_yes (v : Value) (zs : List Int) (most : Int) (loose : Bool) (w : World) (hr : ReadsI w v zs) (h : okArgs zs.length most ∧ ∀ z ∈ zs, okLen most z) (hs : okSum (nat zs) loose) :
    Calls Try.prog 9 #[v, .int .i64 most, .bool loose] w fun e w' => ∃ rg, e = .returned (.tuple #[.slice (some ⟨rg, 0, none⟩) zs.length zs.length, .int .i64 0]) ∧ w.heap.size ≤ rg ∧ WordsAt w' 43 rg zs.length (wdz (nat zs)) (Canon.ln (nat zs)) ∧ Below w.heap.size w w' := by
  refine (refnew_any v zs most loose w hr).mono fun e w' ⟨rv, ec, he, h1, h2⟩ => ?_
  rcases h1 with ⟨k, _⟩ | ⟨_, k, _⟩ | ⟨_, _, rfl, rg, hl, rfl, hw⟩
  · exact absurd h k
  · exact absurd hs k
  · exact ⟨rg, he, hl, hw, h2⟩

theorem refcost_n (ls : List Nat) (rg n : Nat) (hn : ls.length = n) (v : Value) (os : List Int) (w : World) (h : WordsAt w 43 rg n (wdz ls) (Canon.ln ls)) (hsm : n ≤ 65536) (hr : ReadsI w v os) :
    Calls Try.prog 12 #[.slice (some ⟨rg, 0, none⟩) n n, v] w fun e w' => ∃ a x, e = .returned (.tuple #[.int .i64 a, .int .i64 x]) ∧ CostIs ls os a x ∧ ∃ q, w' = w.drewN q := by
  subst hn; exact refcost_ok ls rg v os w h hsm hr

theorem has_yes (ls : List Nat) (rg n : Nat) (hn : ls.length = n) (s : Int) (w : World) (h : WordsAt w 43 rg n (wdz ls) (Canon.ln ls)) (hs : HasW ls s) :
    Calls Try.prog 15 #[.slice (some ⟨rg, 0, none⟩) n n, .int .i64 s] w fun e w' => e = .returned (.bool true) ∧ w' = w := by
  subst hn
  refine (has_ok ls rg s w h).mono fun e w' ⟨h1, h2⟩ => ⟨?_, h2⟩
  rcases h1 with ⟨e, _⟩ | ⟨_, k⟩
  · exact e
  · exact absurd hs k

theorem has_no (ls : List Nat) (rg n : Nat) (hn : ls.length = n) (s : Int) (w : World) (h : WordsAt w 43 rg n (wdz ls) (Canon.ln ls)) (hs : ¬ HasW ls s) :
    Calls Try.prog 15 #[.slice (some ⟨rg, 0, none⟩) n n, .int .i64 s] w fun e w' => e = .returned (.bool false) ∧ w' = w := by
  subst hn
  refine (has_ok ls rg s w h).mono fun e w' ⟨h1, h2⟩ => ⟨?_, h2⟩
  rcases h1 with ⟨_, k⟩ | ⟨e, _⟩
  · exact absurd k hs
  · exact e

theorem symbols_n (ls : List Nat) (cp lo hi n : Nat) (hn : ls.length = n) (w : World) (h : Code ls w cp lo hi) : Calls Try.prog 13 #[.pointer (some ⟨cp, 0, none⟩)] w fun e w' => e = .returned (.int .i64 (n : Int)) ∧ w' = w := by
  subst hn; exact symbols_ok ls cp lo hi w h

set_option maxHeartbeats 400000 in
theorem names_ok (w : World) : Calls Try.prog 10 #[] w fun e w' => e = .returned (.bool true) ∧ w' = w := by
  go_enter Try.func10, Try.ntmps10
  go_wp2
  go_ret
  exact ⟨rfl, rfl⟩

/-- The code and the document's words, beside each other. -/
structure Both (ls : List Nat) (w ws : World) (cp lo hi rg n : Nat) : Prop where
  code : Code ls ws cp lo hi
  words : WordsAt ws 43 rg n (wdz ls) (Canon.ln ls)
  bel : Below w.heap.size w ws
  hi : hi ≤ ws.heap.size

theorem Both.step {ls : List Nat} {w ws w' : World} {cp lo hi rg n : Nat} (h : Both ls w ws cp lo hi rg n) (hb : Below ws.heap.size ws w') : Both ls w w' cp lo hi rg n :=
  ⟨h.code.below hb h.hi, h.words.stays hb h.words.lt, h.bel.trans (hb.mono h.bel.size), Nat.le_trans h.hi hb.size⟩

set_option maxRecDepth 100000 in
set_option maxHeartbeats 4000000 in
theorem makes_walk (a : Option Addr) (cap : Nat) (zs os : List Int) (most symbol : Int) (loose : Bool) (ov : Value) (w : World) (hr : ReadsN w a cap zs) (hn : zs.length * 8 ≤ 140737488351232) (ho : ReadsI w ov os) :
    Calls Try.prog 3 #[.agg #[.slice a zs.length cap, .int .i64 most, .bool loose], ov, .int .i64 symbol] w fun e w' => e = .returned (.bool true) ∧ Below w.heap.size w w' := by
  obtain ⟨i0, hii, hz0, hz1, hz2⟩ := info_parts info3'
  have HR := hide hr
  have HRD := hide hr.reads
  have HO := hide ho
  obtain ⟨n, hnn⟩ : ∃ n, n = zs.length := ⟨_, rfl⟩
  rw [← hnn] at hn HRD ⊢
  have HN := hide hnn
  clear hr ho hnn
  go_enter Try.func3, Try.ntmps3
  go_upto_region 1 with fail
  go_cut [7] (fun v7 wc => ∃ g cap', v7 = .slice (some ⟨g, 0, none⟩) n cap' ∧ InRow w wc #[.slice a n cap, .int .i64 most, .bool loose] g n zs)
  case first =>
    have HOWN : Hid (((w.alloc (.cells #[.slice a n cap, .int .i64 most, .bool loose] 24)).alloc (.cells #[] 3)).ownsRow (w.heap.size + 1) 3 1 (.slice (some ⟨w.heap.size + 1, 0, none⟩) 0 0) 0 []) := hide (by
      have := World.ownsRow_made (base := w.heap.size + 1) (e := 3) (size := 1) (w.alloc (.cells #[.slice a n cap, .int .i64 most, .bool loose] 24)) #[] 0 (by simp) (by unfold maxLen; omega) rfl
      simpa using this)
    rcases unhide HR with ⟨rfl, rfl, hz⟩ | ⟨ad, rfl, hcell⟩
    · have hn0 : n = 0 := by rw [unhide HN, hz]; rfl
      subst hn0
      have HX : Hid (InRow w ((w.alloc (.cells #[.slice none 0 0, .int .i64 most, .bool loose] 24)).alloc (.cells #[] 3)) #[.slice none 0 0, .int .i64 most, .bool loose] (w.heap.size + 1) 0 zs) := by
        refine hide ⟨((Below.refl _ _).alloc (Nat.le_refl _) _).alloc (by simp) _, ?_, by omega, ⟨#[], ?_, by simp⟩, fun cap' => ⟨_, cap', by rw [hz]; rfl, fun h0 => by rw [hz] at h0; simp at h0⟩⟩
        · rw [Below.heap_alloc _ _ _ (by simp)]
          exact heap_alloc_new _ _
        · rw [show w.heap.size + 1 = (w.alloc (.cells #[.slice none 0 0, .int .i64 most, .bool loose] 24)).heap.size by simp]
          exact heap_alloc_new _ _
      clear hz
      go_wp2_with (at_builtin; go_must (refine wpList_append_own_none rfl (.tmp 22) (.tmp 24) 22 rfl (w.heap.size + 1) 3 i0 1 Try.underlying22 hii _ 0 [] (by rfl) (unhide HOWN) (by rfl) ?_))
      go_meet
      exact ⟨_, _, rfl, unhide HX⟩
    · have HNEWS : Hid (∀ j u, (zs.map iv)[j]? = some u → ((w.alloc (.cells #[.slice (some ad) n cap, .int .i64 most, .bool loose] 24)).alloc (.cells #[] 3)).cell? (ad.add j) = some u) := hide (fun j u hj => by
        have h1 := hcell j u hj
        have b : Below w.heap.size w ((w.alloc (.cells #[.slice (some ad) n cap, .int .i64 most, .bool loose] 24)).alloc (.cells #[] 3)) := ((Below.refl _ _).alloc (Nat.le_refl _) _).alloc (by simp) _
        exact cell_stays b h1)
      clear hcell
      go_wp2_with (at_builtin; go_must (refine wpList_append_own _ rfl (.tmp 22) (.tmp 24) 22 rfl (w.heap.size + 1) 3 i0 _ 1 8 Try.underlying22 hii hz0 hz1 hz2 rfl (by decide) _ 0 [] (by rfl) (unhide HOWN) ad n cap (zs.map iv) (by rfl) (by simp [unhide HN]) (unhide HNEWS) (by intro u hu; simp at hu; obtain ⟨z, _, rfl⟩ := hu; rfl) (by unfold maxLen; omega) (by omega) (by simp) ?_; intro v' w1 hown hgrow hiff; have HX := hide (InRow.made (unhide HN) (by simpa using hown) hgrow (fun e => by have := (hiff.1 e).1; cases this)); clear hown hgrow hiff))
      go_meet
      exact unhide HX
  case rest =>
    obtain ⟨g, cap', rfl, hin⟩ := hcut
    have HIN := hide hin
    have b0 : wc.cell? ⟨w.heap.size, 0, none⟩ = some (.slice a n cap) := by simp [World.cell?, hin.box]
    have b1 : wc.cell? ⟨w.heap.size, 1, none⟩ = some (.int .i64 most) := by simp [World.cell?, hin.box]
    have b2 : wc.cell? ⟨w.heap.size, 2, none⟩ = some (.bool loose) := by simp [World.cell?, hin.box]
    have hlo := hin.lo
    clear hin
    obtain ⟨bx, hbx⟩ : ∃ bx, bx = w.heap.size := ⟨_, rfl⟩
    rw [← hbx] at b0 b1 b2 hlo ⊢
    have HBX := hide hbx
    clear hbx
    go_wp2_with (go_at_call 8; go_must (refine (pnew_any _ zs most loose _ ((unhide HIN).rd cap')).mono ?_; rintro e wn ⟨cv, ec, rfl, h1, h2⟩; have H1 := hide h1; have H2 := hide h2; clear h1 h2))
    have HBC := hide (unhide HIN).bel
    have HROW0 : Hid (RowI wn g n) := hide (by
      obtain ⟨cur, hh, hs⟩ := (unhide HIN).row
      exact ⟨cur, by rw [(unhide H2).block g (heap_lt hh)]; exact hh, hs⟩)
    have HB2 : Hid (Below w.heap.size w wn) := hide ((unhide HBC).trans ((unhide H2).mono (unhide HBC).size))
    have HBOX : Hid (wn.heap[bx]? = some (.cells #[.slice a n cap, .int .i64 most, .bool loose] 24 (0, 0))) := hide (by
      have h1 := (unhide HIN).box
      rw [← unhide HBX] at h1
      rw [(unhide H2).block bx (heap_lt h1)]
      exact h1)
    have hgl : g < wc.heap.size := by
      obtain ⟨cur, hh, hs⟩ := (unhide HIN).row
      exact heap_lt hh
    obtain ⟨lo, hlo2⟩ : ∃ lo, lo = wc.heap.size := ⟨_, rfl⟩
    obtain ⟨hi, hhi2⟩ : ∃ hi, hi = wn.heap.size := ⟨_, rfl⟩
    have HP : Hid (PNew zs most loose cv ec wn lo hi) := hide (by rw [hlo2, hhi2]; exact unhide H1)
    have HLO : Hid (g < lo ∧ hi = wn.heap.size) := hide ⟨by omega, hhi2⟩
    clear HIN H1 H2 HBC hgl hlo2 hhi2 b0 b1 b2
    go_loopg [10] n (fun gk d ws => ∃ (k : Nat), gk = n - k ∧ k ≤ n ∧ d = .int .i64 (k : Int) ∧ RowI ws g n ∧ Only g wn ws)
    case atStart => exact ⟨0, by omega, by omega, rfl, unhide HROW0, Only.refl _ _⟩
    case round =>
      obtain ⟨k, rfl, hk, rfl, hrow, honly⟩ := hrel
      clear HROW0
      by_cases hlt : k < n
      · obtain ⟨⟨y, k1⟩, k2⟩ := hrow.cell k hlt
        have hki : (k : Int) < (n : Int) := by omega
        have HR2 := hide (hrow.set k (.int .i64 1))
        have HO2 := hide (honly.set k (.int .i64 1))
        clear hrow honly
        go_wp2_with fail
        go_roundg (n - (k + 1))
        case measure => omega
        case rel => exact ⟨k + 1, rfl, by omega, by go_num, unhide HR2, unhide HO2⟩
      · have hki : ¬ (k : Int) < (n : Int) := by omega
        have hgl : w.heap.size < g := by rw [← unhide HBX]; exact hlo
        have hbw : Below w.heap.size w wr := (unhide HB2).trans (honly.below (by omega) (unhide HB2).size)
        have HBW := hide hbw
        have HRW := hide ((unhide HRD).stays hbw)
        have HOW := hide ((unhide HO).stays hbw)
        have hbox : wr.heap[bx]? = some (.cells #[.slice a n cap, .int .i64 most, .bool loose] 24 (0, 0)) := by rw [honly.keep bx (heap_lt (unhide HBOX)) (by omega)]; exact unhide HBOX
        have b0 : wr.cell? ⟨bx, 0, none⟩ = some (.slice a n cap) := by simp [World.cell?, hbox]
        have b1 : wr.cell? ⟨bx, 1, none⟩ = some (.int .i64 most) := by simp [World.cell?, hbox]
        have b2 : wr.cell? ⟨bx, 2, none⟩ = some (.bool loose) := by simp [World.cell?, hbox]
        have HHI : Hid (hi ≤ wr.heap.size) := hide (by rw [(unhide HLO).2]; exact honly.size)
        have hp := (unhide HP).keep (w' := wr) (fun x h1 h2 => by have := unhide HLO; exact honly.keep x (by omega) (by omega))
        clear hrow honly hbox HBOX HB2 HP HO HRD
        rcases hp with ⟨hok, rfl, rfl⟩ | ⟨hok, hs, rfl, rfl⟩ | ⟨hok, hs, rfl, cp, rfl, hc⟩
        · have HK := hide hok
          clear hok
          go_wp2_with (first | (go_at_call 10; refine (names_ok _).mono ?_; rintro e w' ⟨rfl, rfl⟩) | (go_at_call 9; go_must (refine (refnew_bad _ zs most loose _ (unhide HRW) (unhide HK)).mono ?_; rintro e w4 ⟨rfl, h4⟩; have HB4 := hide ((unhide HBW).trans (h4.mono (unhide HBW).size)); clear h4)))
          go_ret
          exact ⟨rfl, unhide HB4⟩
        · have HK := hide hok
          have HS := hide hs
          clear hok hs
          go_wp2_with (first | (go_at_call 10; refine (names_ok _).mono ?_; rintro e w' ⟨rfl, rfl⟩) | (go_at_call 9; go_must (refine (refnew_code _ zs most loose _ (unhide HRW) (unhide HK) (unhide HS)).mono ?_; rintro e w4 ⟨rfl, h4⟩; have HB4 := hide ((unhide HBW).trans (h4.mono (unhide HBW).size)); clear h4)))
          go_ret
          exact ⟨rfl, unhide HB4⟩
        · have HK := hide hok
          have HS := hide hs
          have HC := hide hc
          have HLEN : Hid ((nat zs).length = n) := hide (by simp [nat, unhide HN])
          have hn16 : n ≤ 65536 := by rw [unhide HN]; exact hok.1.2.2.2
          clear hok hs hc
          generalize hls : nat zs = ls at HC HLEN
          have HLS := hide hls
          clear hls
          go_wp2_with (first | (go_at_call 10; refine (names_ok _).mono ?_; rintro e w' ⟨rfl, rfl⟩) | (go_at_call 9; go_must (refine (refnew_yes _ zs most loose _ (unhide HRW) (unhide HK) (unhide HS)).mono ?_; rintro e w4 ⟨rg, rfl, h3, h4, h5⟩; rw [unhide HLS, ← unhide HN] at h4; rw [← unhide HN]; have HO5 := hide ((unhide HOW).stays h5); have HBO := hide (show Both ls w w4 cp lo hi rg n from ⟨(unhide HC).below h5 (unhide HHI), h4, (unhide HBW).trans (h5.mono (unhide HBW).size), Nat.le_trans (unhide HHI) h5.size⟩); clear h3 h4 h5)) | (go_at_call 11; go_must (refine (cost_ok ls cp lo hi _ os _ (unhide HBO).code (unhide HO5)).mono ?_; rintro e w' ⟨ca, cx, rfl, h6, rfl⟩; have H6 := hide h6; clear h6)) | (go_at_call 12; go_must (refine (refcost_n ls rg n (unhide HLEN) _ os _ (unhide HBO).words hn16 (unhide HO5)).mono ?_; rintro e w7 ⟨ra, rx, rfl, h7, q7, rfl⟩; obtain ⟨rfl, rfl⟩ := (unhide H6).one h7; have HBO2 := hide ((unhide HBO).step (below_drewN (Below.refl _ _) q7)); clear h7)) | (go_at_call 13; go_must (refine (symbols_n ls cp lo hi n (unhide HLEN) _ (unhide HBO2).code).mono ?_; rintro e w' ⟨rfl, rfl⟩)))
          go_loopg [17] (n + 2) (fun gk d ws => ∃ (j : Nat), gk = n + 2 - j ∧ j ≤ n + 2 ∧ d = .int .i64 ((j : Int) - 1) ∧ Both ls w ws cp lo hi rg n)
          case atStart => exact ⟨0, by omega, by omega, rfl, unhide HBO2⟩
          case round =>
            obtain ⟨j, rfl, hj, rfl, hbo⟩ := hrel
            clear HBO HBO2 HO5 H6 HC HBW HOW HRW
            by_cases hjn : j ≤ n + 1
            · have HJ := hide hjn
              rcases j with _ | t
              · have hle : (-1 : Int) ≤ (n : Int) := by omega
                rw [show ((0 : Nat) : Int) - 1 = -1 by omega]
                clear hj
                by_cases hh : HasW ls symbol
                · obtain ⟨s1, s2, s3⟩ := id hh
                  obtain ⟨sn, hsn⟩ := Int.eq_ofNat_of_zero_le s1
                  subst hsn
                  rw [Int.toNat_natCast] at s3
                  have hsl : sn < ls.length := by omega
                  have hsi : (sn : Int) < (n : Int) := by rw [← unhide HLEN]; exact s2
                  have k1 := hbo.words.word sn (by have := unhide HLEN; omega)
                  have k2 := hbo.words.len sn (by have := unhide HLEN; omega)
                  rw [show wdz ls sn = Canon.wd ls sn from if_neg (by omega)] at k1
                  have HW := hide (word_ok ls cp lo hi sn wr hbo.code hsl s3)
                  have HBO := hide hbo
                  have HHH := hide hh
                  have HRL := hide hbo.words.lt
                  obtain ⟨W, hW⟩ : ∃ W, W = Canon.wd ls sn := ⟨_, rfl⟩
                  obtain ⟨L, hL⟩ : ∃ L, L = Canon.ln ls sn := ⟨_, rfl⟩
                  rw [← hW] at k1 HW
                  rw [← hL] at k2 HW
                  clear hh s1 s2 s3 hbo hW hL
                  go_wp2_with (first | (go_at_call 14; go_must (refine (unhide HW).mono ?_; rintro e w4 ⟨rfl, h4⟩; have HB4 := hide ((unhide HBO).step h4); replace k1 : w4.cell? ⟨rg, sn * 2, none⟩ = some (.int .u32 (W : Int)) := (by rw [h4.cell (by exact unhide HRL)]; exact k1); replace k2 : w4.cell? ⟨rg, sn * 2 + 1, none⟩ = some (.int .i64 (L : Int)) := (by rw [h4.cell (by exact unhide HRL)]; exact k2); clear h4)) | (go_at_call 15; go_must (refine (has_yes ls rg n (unhide HLEN) _ _ (unhide HB4).words (unhide HHH)).mono ?_; rintro e w' ⟨rfl, rfl⟩)))
                  go_roundg (n + 2 - (0 + 1))
                  case measure => have := unhide HJ; omega
                  case rel => exact ⟨0 + 1, rfl, by have := unhide HJ; omega, by first | rfl | (congr 1; have := unhide HJ; omega), unhide HB4⟩
                · have HW := hide (word_none ls cp lo hi _ wr hbo.code hh)
                  have HBO := hide hbo
                  have HHH := hide hh
                  clear hh hbo
                  go_wp2_with (first | (go_at_call 14; go_must (refine (unhide HW).mono ?_; rintro e w' ⟨rfl, rfl⟩)) | (go_at_call 15; go_must (refine (has_no ls rg n (unhide HLEN) _ _ (unhide HBO).words (unhide HHH)).mono ?_; rintro e w' ⟨rfl, rfl⟩)))
                  go_roundg (n + 2 - (0 + 1))
                  case measure => have := unhide HJ; omega
                  case rel => exact ⟨0 + 1, rfl, by have := unhide HJ; omega, by first | rfl | (congr 1; have := unhide HJ; omega), unhide HBO⟩
              · have hle : (t : Int) ≤ (n : Int) := by omega
                have htm : ((t : Int) == -1) = false := by simp <;> omega
                rw [show ((t + 1 : Nat) : Int) - 1 = (t : Int) by omega]
                clear hj
                by_cases hh : HasW ls (t : Int)
                · obtain ⟨s1, s2, s3⟩ := id hh
                  obtain ⟨sn, hsn⟩ := Int.eq_ofNat_of_zero_le s1
                  obtain rfl : t = sn := by omega
                  rw [Int.toNat_natCast] at s3
                  have hsl : t < ls.length := by omega
                  have hsi : (t : Int) < (n : Int) := by rw [← unhide HLEN]; exact s2
                  have k1 := hbo.words.word t (by have := unhide HLEN; omega)
                  have k2 := hbo.words.len t (by have := unhide HLEN; omega)
                  rw [show wdz ls t = Canon.wd ls t from if_neg (by omega)] at k1
                  have HW := hide (word_ok ls cp lo hi t wr hbo.code hsl s3)
                  have HBO := hide hbo
                  have HHH := hide hh
                  have HRL := hide hbo.words.lt
                  obtain ⟨W, hW⟩ : ∃ W, W = Canon.wd ls t := ⟨_, rfl⟩
                  obtain ⟨L, hL⟩ : ∃ L, L = Canon.ln ls t := ⟨_, rfl⟩
                  rw [← hW] at k1 HW
                  rw [← hL] at k2 HW
                  clear hh s1 s2 s3 hbo hW hL
                  go_wp2_with (first | (go_at_call 14; go_must (refine (unhide HW).mono ?_; rintro e w4 ⟨rfl, h4⟩; have HB4 := hide ((unhide HBO).step h4); replace k1 : w4.cell? ⟨rg, t * 2, none⟩ = some (.int .u32 (W : Int)) := (by rw [h4.cell (by exact unhide HRL)]; exact k1); replace k2 : w4.cell? ⟨rg, t * 2 + 1, none⟩ = some (.int .i64 (L : Int)) := (by rw [h4.cell (by exact unhide HRL)]; exact k2); clear h4)) | (go_at_call 15; go_must (refine (has_yes ls rg n (unhide HLEN) _ _ (unhide HB4).words (unhide HHH)).mono ?_; rintro e w' ⟨rfl, rfl⟩)))
                  go_roundg (n + 2 - ((t + 1) + 1))
                  case measure => have := unhide HJ; omega
                  case rel => exact ⟨(t + 1) + 1, rfl, by have := unhide HJ; omega, by first | rfl | (congr 1; have := unhide HJ; omega), unhide HB4⟩
                · have HW := hide (word_none ls cp lo hi _ wr hbo.code hh)
                  have HBO := hide hbo
                  have HHH := hide hh
                  clear hh hbo
                  go_wp2_with (first | (go_at_call 14; go_must (refine (unhide HW).mono ?_; rintro e w' ⟨rfl, rfl⟩)) | (go_at_call 15; go_must (refine (has_no ls rg n (unhide HLEN) _ _ (unhide HBO).words (unhide HHH)).mono ?_; rintro e w' ⟨rfl, rfl⟩)))
                  go_roundg (n + 2 - ((t + 1) + 1))
                  case measure => have := unhide HJ; omega
                  case rel => exact ⟨(t + 1) + 1, rfl, by have := unhide HJ; omega, by first | rfl | (congr 1; have := unhide HJ; omega), unhide HBO⟩
            · have hjj : j = n + 2 := by omega
              subst hjj
              have hle : ¬ ((n + 2 : Nat) : Int) - 1 ≤ (n : Int) := by omega
              rw [show ((n + 2 : Nat) : Int) - 1 = (n : Int) + 1 by omega] at hle ⊢
              have HBO := hide hbo.bel
              clear hbo
              go_wp2_with fail
              go_ret
              exact ⟨rfl, unhide HBO⟩

end Go.Proofs.Ytclccccodeekmaa
