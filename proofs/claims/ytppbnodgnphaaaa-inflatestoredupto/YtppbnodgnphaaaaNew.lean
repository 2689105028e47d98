/- What prefix.New does. -/
import Derived.Test.YtppbnodgnphaaaaWays
import Derived.Test.YtppbnodgnphaaaaLayTwo
import Derived.Test.YtppbnodgnphaaaaCountTwo
namespace Go.Proofs.Ytppbnodgnphaaaa
open Go.RowKit
set_option maxRecDepth 100000
set_option linter.unusedVariables false

/-- A code in memory: its blocks lie from lo on, ahead of hi. -/
structure CodeAt (ls : List Nat) (w : World) (cp lo hi wg g cap N base : Nat) (A B S : Nat → Nat) (H : Nat → Bool) (ix ky : Nat → Nat) : Prop where
  blk : w.heap[cp]? = some (.cells #[.bool true, .slice (some ⟨wg, 0, none⟩) ls.length ls.length, .slice (some ⟨g, 0, none⟩) N cap] 100 (0, 0))
  words : WordsAt w 110 wg ls.length (wdz ls) (Canon.ln ls)
  nodes : NodesAt w base g cap N A B S H
  tr : Trie N A B S H (Beg ls ls.length) (Wrd ls ls.length) ix ky
  good : Good ls
  small : ls.length ≤ 65536
  b1 : lo ≤ cp ∧ cp < hi
  b2 : lo ≤ wg ∧ wg < hi
  b3 : lo ≤ g ∧ g < hi

def Code (ls : List Nat) (w : World) (cp lo hi : Nat) : Prop := ∃ wg g cap N base A B S H ix ky, CodeAt ls w cp lo hi wg g cap N base A B S H ix ky

theorem Code.keep {ls : List Nat} {w w' : World} {cp lo hi : Nat} (h : Code ls w cp lo hi) (hk : ∀ k, lo ≤ k → k < hi → w'.heap[k]? = w.heap[k]?) : Code ls w' cp lo hi := by
  obtain ⟨wg, g, cap, N, base, A, B, S, H, ix, ky, h⟩ := h
  exact ⟨wg, g, cap, N, base, A, B, S, H, ix, ky, by rw [hk _ h.b1.1 h.b1.2]; exact h.blk, by unfold WordsAt; rw [hk _ h.b2.1 h.b2.2]; exact h.words, h.nodes.keep (hk _ h.b3.1 h.b3.2), h.tr, h.good, h.small, h.b1, h.b2, h.b3⟩

theorem Code.below {ls : List Nat} {w w' : World} {cp lo hi B : Nat} (h : Code ls w cp lo hi) (hb : Below B w w') (hB : hi ≤ B) : Code ls w' cp lo hi := h.keep fun k _ h2 => hb.block k (by omega)

def pnewPost (zs : List Int) (most : Int) (loose : Bool) (w : World) (e : Ending) (w' : World) : Prop :=
  (¬ (okArgs zs.length most ∧ ∀ z ∈ zs, okLen most z) → e = .returned (.tuple #[.pointer none, .int .i64 2])) ∧
  ((okArgs zs.length most ∧ ∀ z ∈ zs, okLen most z) → ¬ okSum (nat zs) loose → e = .returned (.tuple #[.pointer none, .int .i64 13])) ∧
  ((okArgs zs.length most ∧ ∀ z ∈ zs, okLen most z) → okSum (nat zs) loose → ∃ cp, e = .returned (.tuple #[.pointer (some ⟨cp, 0, none⟩), .int .i64 0]) ∧ Code (nat zs) w' cp w.heap.size w'.heap.size) ∧
  Below w.heap.size w w'

theorem pnewPost.bad {zs : List Int} {most : Int} {loose : Bool} {w : World} (h : ¬ (okArgs zs.length most ∧ ∀ z ∈ zs, okLen most z)) : pnewPost zs most loose w (.returned (.tuple #[.pointer none, .int .i64 2])) w :=
  ⟨fun _ => rfl, fun h' => absurd h' h, fun h' => absurd h' h, Below.refl _ _⟩

theorem okSum_iff {ls : List Nat} {M : Nat} {loose : Bool} (h : ∀ l ∈ ls, l ≤ M) (hM : M ≤ 20) : okSum ls loose ↔ fullB ls M = true ∨ loose = true ∧ bareB ls = true := by
  unfold okSum
  rw [← full_iff ls M h hM]
  simp only [fullB, bareB, decide_eq_true_eq]

set_option maxHeartbeats 1000000 in
theorem pnew_args (a : Option Addr) (n cap : Nat) (most : Int) (loose : Bool) (w : World) (h : ¬ okArgs n most) :
    Calls Try.prog 49 #[.slice a n cap, .int .i64 most, .bool loose] w fun e w' => e = .returned (.tuple #[.pointer none, .int .i64 2]) ∧ w' = w := by
  have H := hide h
  clear h
  go_enter Try.func49, Try.ntmps49
  go_wp2_with (go_at_call 56; refine (fit_args _ _ _ _ _ (unhide H)).mono ?_; rintro e w' ⟨rfl, rfl⟩)
  go_ret2
  exact ⟨rfl, rfl⟩

set_option maxHeartbeats 1000000 in
theorem pnew_lens (v : Value) (zs : List Int) (most : Int) (loose : Bool) (w : World) (hr : ReadsI w v zs) (hok : okArgs zs.length most) (hb : fitB most zs = false) :
    Calls Try.prog 49 #[v, .int .i64 most, .bool loose] w fun e w' => e = .returned (.tuple #[.pointer none, .int .i64 2]) ∧ w' = w := by
  have HR := hide hr
  have HOK := hide hok
  clear hr hok
  go_enter Try.func49, Try.ntmps49
  go_wp2_with (go_at_call 56; refine (fit_good _ zs _ _ (unhide HR) (unhide HOK)).mono ?_; rintro e w' ⟨rfl, rfl⟩)
  go_ret2
  exact ⟨rfl, rfl⟩

/-- The code that is laid of words and nodes. -/
theorem code_made {ls : List Nat} {w wc ww w3 : World} {wg g cap N : Nat} {A B S : Nat → Nat} {H : Nat → Bool} {ix ky : Nat → Nat} (hg : Good ls) (hn : ls.length ≤ 65536) (b1 : Below w.heap.size w wc) (h1 : wc.heap.size ≤ wg) (hw : WordsAt ww 110 wg ls.length (wdz ls) (Canon.ln ls)) (b2 : Below wc.heap.size wc ww)
    (h3 : WayAt ww w3 g cap N A B S H (Beg ls ls.length) (Wrd ls ls.length) ix ky) :
    Code ls (w3.alloc (.cells #[.bool true, .slice (some ⟨wg, 0, none⟩) ls.length ls.length, .slice (some ⟨g, 0, none⟩) N cap] 100)) w3.heap.size w.heap.size (w3.alloc (.cells #[.bool true, .slice (some ⟨wg, 0, none⟩) ls.length ls.length, .slice (some ⟨g, 0, none⟩) N cap] 100)).heap.size ∧ Below w.heap.size w (w3.alloc (.cells #[.bool true, .slice (some ⟨wg, 0, none⟩) ls.length ls.length, .slice (some ⟨g, 0, none⟩) N cap] 100)) := by
  have s1 := b1.size
  have s2 := b2.size
  have s3 := h3.bel.size
  have hl := h3.row.lt
  have hwl := hw.lt
  have hw3 := hw.stays h3.bel hwl
  refine ⟨⟨wg, g, cap, N, _, A, B, S, H, ix, ky, heap_alloc_new _ _, hw3.alloc _, h3.row.keep (Below.heap_alloc _ _ _ hl.2), h3.tr, hg, hn, ?_, ?_, ?_⟩, ?_⟩
  · simp; omega
  · simp; omega
  · simp; omega
  · exact ((b1.trans (b2.mono (by omega))).trans (h3.bel.mono (by omega))).alloc (by omega) _

theorem lens_le {zs : List Int} {M : Nat} (hz : ∀ z ∈ zs, okLen (M : Int) z) : ∀ l ∈ nat zs, l ≤ M := fun l hl => by
  obtain ⟨z, hz', rfl⟩ := List.mem_map.1 hl
  have := hz z hz'
  unfold okLen at this
  omega

set_option maxRecDepth 100000 in
set_option maxHeartbeats 2000000 in
theorem pnew_no1 (v : Value) (zs : List Int) (M : Nat) (loose : Bool) (w : World) (hr : ReadsI w v zs) (hok : okArgs zs.length (M : Int)) (hz : ∀ z ∈ zs, okLen (M : Int) z) (hF : fullB (nat zs) M = false) (hl : loose = false) :
    Calls Try.prog 49 #[v, .int .i64 (M : Int), .bool loose] w fun e w' => e = .returned (.tuple #[.pointer none, .int .i64 13]) ∧ Below w.heap.size w w' := by
  obtain ⟨q1, q2, q3, q4⟩ := id hok
  have hM20 : M ≤ 20 := by omega
  have hM0 : ¬ M = 0 := by omega
  have hlM := lens_le hz
  have hl20 : ∀ l ∈ nat zs, l ≤ 20 := fun l hl => by have := hlM l hl; omega
  have hlen : (nat zs).length = zs.length := by simp [nat]
  have HFIT : Hid (fitB (M : Int) zs = true) := hide (decide_eq_true hz)
  have HR := hide hr
  have HOK := hide hok
  have HZ := hide hz
  have HM := hide hlM
  have H20 := hide hl20
  have HLEN := hide hlen
  clear hr hok hz hlM hl20 hlen q1 q2 q3
  subst hl
  have HF := hide hF
  clear hF
  go_enter Try.func49, Try.ntmps49
  go_wp2_with (first | (go_at_call 56; refine (fit_good _ zs _ _ (unhide HR) (unhide HOK)).mono ?_; rintro e w' ⟨rfl, rfl⟩; rw [unhide HFIT]) | (go_at_call 57; go_must (refine (counts_ok _ zs M _ (unhide HR) q4 (unhide HZ) hM20).mono ?_; rintro e wc ⟨cg, rfl, h1, h2, h3⟩; have H1 := hide h1; have H2 := hide h2; have H3 := hide h3; clear h1 h2 h3)) | (go_at_call 58; go_must (refine (full_ok (nat zs) M cg _ (unhide H20) (by rw [unhide HLEN]; exact q4) hM20 hM0 (unhide H2)).mono ?_; rintro e w' ⟨rfl, rfl⟩; rw [unhide HF])))
  go_ret2
  exact ⟨rfl, unhide H3⟩

set_option maxRecDepth 100000 in
set_option maxHeartbeats 2000000 in
theorem pnew_no2 (v : Value) (zs : List Int) (M : Nat) (loose : Bool) (w : World) (hr : ReadsI w v zs) (hok : okArgs zs.length (M : Int)) (hz : ∀ z ∈ zs, okLen (M : Int) z) (hF : fullB (nat zs) M = false) (hl : loose = true) (hB : bareB (nat zs) = false) :
    Calls Try.prog 49 #[v, .int .i64 (M : Int), .bool loose] w fun e w' => e = .returned (.tuple #[.pointer none, .int .i64 13]) ∧ Below w.heap.size w w' := by
  obtain ⟨q1, q2, q3, q4⟩ := id hok
  have hM20 : M ≤ 20 := by omega
  have hM0 : ¬ M = 0 := by omega
  have hlM := lens_le hz
  have hl20 : ∀ l ∈ nat zs, l ≤ 20 := fun l hl => by have := hlM l hl; omega
  have hlen : (nat zs).length = zs.length := by simp [nat]
  have HFIT : Hid (fitB (M : Int) zs = true) := hide (decide_eq_true hz)
  have HR := hide hr
  have HOK := hide hok
  have HZ := hide hz
  have HM := hide hlM
  have H20 := hide hl20
  have HLEN := hide hlen
  clear hr hok hz hlM hl20 hlen q1 q2 q3
  subst hl
  have HF := hide hF
  have HB := hide hB
  clear hF hB
  go_enter Try.func49, Try.ntmps49
  go_wp2_with (first | (go_at_call 56; refine (fit_good _ zs _ _ (unhide HR) (unhide HOK)).mono ?_; rintro e w' ⟨rfl, rfl⟩; rw [unhide HFIT]) | (go_at_call 57; go_must (refine (counts_ok _ zs M _ (unhide HR) q4 (unhide HZ) hM20).mono ?_; rintro e wc ⟨cg, rfl, h1, h2, h3⟩; have H1 := hide h1; have H2 := hide h2; have H3 := hide h3; clear h1 h2 h3)) | (go_at_call 58; go_must (refine (full_ok (nat zs) M cg _ (unhide H20) (by rw [unhide HLEN]; exact q4) hM20 hM0 (unhide H2)).mono ?_; rintro e w' ⟨rfl, rfl⟩; rw [unhide HF])) | (go_at_call 59; go_must (refine (bare_ok (nat zs) M cg _ (unhide HM) (by rw [unhide HLEN]; exact q4) hM20 hM0 (unhide H2)).mono ?_; rintro e w' ⟨rfl, rfl⟩; rw [unhide HB])))
  go_ret2
  exact ⟨rfl, unhide H3⟩

set_option maxRecDepth 100000 in
set_option maxHeartbeats 2000000 in
theorem pnew_yes1 (v : Value) (zs : List Int) (M : Nat) (loose : Bool) (w : World) (hr : ReadsI w v zs) (hok : okArgs zs.length (M : Int)) (hz : ∀ z ∈ zs, okLen (M : Int) z) (hg : Good (nat zs)) (hF : fullB (nat zs) M = true) :
    Calls Try.prog 49 #[v, .int .i64 (M : Int), .bool loose] w fun e w' => ∃ cp, e = .returned (.tuple #[.pointer (some ⟨cp, 0, none⟩), .int .i64 0]) ∧ Code (nat zs) w' cp w.heap.size w'.heap.size ∧ Below w.heap.size w w' := by
  obtain ⟨q1, q2, q3, q4⟩ := id hok
  have hM20 : M ≤ 20 := by omega
  have hM0 : ¬ M = 0 := by omega
  have hlM := lens_le hz
  have hl20 : ∀ l ∈ nat zs, l ≤ 20 := fun l hl => by have := hlM l hl; omega
  have hlen : (nat zs).length = zs.length := by simp [nat]
  have HFIT : Hid (fitB (M : Int) zs = true) := hide (decide_eq_true hz)
  have HR := hide hr
  have HOK := hide hok
  have HZ := hide hz
  have HM := hide hlM
  have H20 := hide hl20
  have HLEN := hide hlen
  clear hr hok hz hlM hl20 hlen q1 q2 q3
  have HG := hide hg
  clear hg
  have HF := hide hF
  clear hF
  go_enter Try.func49, Try.ntmps49
  go_wp2_with (first | (go_at_call 56; refine (fit_good _ zs _ _ (unhide HR) (unhide HOK)).mono ?_; rintro e w' ⟨rfl, rfl⟩; rw [unhide HFIT]) | (go_at_call 57; go_must (refine (counts_ok _ zs M _ (unhide HR) q4 (unhide HZ) hM20).mono ?_; rintro e wc ⟨cg, rfl, h1, h2, h3⟩; have H1 := hide h1; have H2 := hide h2; have H3 := hide h3; clear h1 h2 h3)) | (go_at_call 58; go_must (refine (full_ok (nat zs) M cg _ (unhide H20) (by rw [unhide HLEN]; exact q4) hM20 hM0 (unhide H2)).mono ?_; rintro e w' ⟨rfl, rfl⟩; rw [unhide HF])) | (go_at_call 60; go_must (refine (lay_ok _ zs M cg _ _ (unhide HR) (unhide H3) q4 (unhide HZ) hM20 (unhide HG).sum (unhide H2)).mono ?_; rintro e ww ⟨wg, rfl, h4, h5, h6⟩; rw [← unhide HLEN] at h5; have H4 := hide h4; have H5 := hide h5; have H6 := hide h6; clear h4 h5 h6; rw [← unhide HLEN])) | (go_at_call 61; go_must (refine (ways_ok (nat zs) wg (nat zs).length _ (unhide HG) rfl (by rw [unhide HLEN]; exact q4) (unhide H5)).mono ?_; rintro e w3 ⟨g, cap, N, A, B, S, H, ix, ky, rfl, h7⟩; have H7 := hide h7; clear h7)))
  go_ret2
  have hh := code_made (unhide HG) (by rw [unhide HLEN]; exact q4) (unhide H3) (unhide H4) (unhide H5) (unhide H6) (unhide H7)
  exact ⟨_, rfl, hh.1, hh.2⟩

set_option maxRecDepth 100000 in
set_option maxHeartbeats 2000000 in
theorem pnew_yes2 (v : Value) (zs : List Int) (M : Nat) (loose : Bool) (w : World) (hr : ReadsI w v zs) (hok : okArgs zs.length (M : Int)) (hz : ∀ z ∈ zs, okLen (M : Int) z) (hg : Good (nat zs)) (hF : fullB (nat zs) M = false) (hl : loose = true) (hB : bareB (nat zs) = true) :
    Calls Try.prog 49 #[v, .int .i64 (M : Int), .bool loose] w fun e w' => ∃ cp, e = .returned (.tuple #[.pointer (some ⟨cp, 0, none⟩), .int .i64 0]) ∧ Code (nat zs) w' cp w.heap.size w'.heap.size ∧ Below w.heap.size w w' := by
  obtain ⟨q1, q2, q3, q4⟩ := id hok
  have hM20 : M ≤ 20 := by omega
  have hM0 : ¬ M = 0 := by omega
  have hlM := lens_le hz
  have hl20 : ∀ l ∈ nat zs, l ≤ 20 := fun l hl => by have := hlM l hl; omega
  have hlen : (nat zs).length = zs.length := by simp [nat]
  have HFIT : Hid (fitB (M : Int) zs = true) := hide (decide_eq_true hz)
  have HR := hide hr
  have HOK := hide hok
  have HZ := hide hz
  have HM := hide hlM
  have H20 := hide hl20
  have HLEN := hide hlen
  clear hr hok hz hlM hl20 hlen q1 q2 q3
  have HG := hide hg
  clear hg
  subst hl
  have HF := hide hF
  have HB := hide hB
  clear hF hB
  go_enter Try.func49, Try.ntmps49
  go_wp2_with (first | (go_at_call 56; refine (fit_good _ zs _ _ (unhide HR) (unhide HOK)).mono ?_; rintro e w' ⟨rfl, rfl⟩; rw [unhide HFIT]) | (go_at_call 57; go_must (refine (counts_ok _ zs M _ (unhide HR) q4 (unhide HZ) hM20).mono ?_; rintro e wc ⟨cg, rfl, h1, h2, h3⟩; have H1 := hide h1; have H2 := hide h2; have H3 := hide h3; clear h1 h2 h3)) | (go_at_call 58; go_must (refine (full_ok (nat zs) M cg _ (unhide H20) (by rw [unhide HLEN]; exact q4) hM20 hM0 (unhide H2)).mono ?_; rintro e w' ⟨rfl, rfl⟩; rw [unhide HF])) | (go_at_call 59; go_must (refine (bare_ok (nat zs) M cg _ (unhide HM) (by rw [unhide HLEN]; exact q4) hM20 hM0 (unhide H2)).mono ?_; rintro e w' ⟨rfl, rfl⟩; rw [unhide HB])) | (go_at_call 60; go_must (refine (lay_ok _ zs M cg _ _ (unhide HR) (unhide H3) q4 (unhide HZ) hM20 (unhide HG).sum (unhide H2)).mono ?_; rintro e ww ⟨wg, rfl, h4, h5, h6⟩; rw [← unhide HLEN] at h5; have H4 := hide h4; have H5 := hide h5; have H6 := hide h6; clear h4 h5 h6; rw [← unhide HLEN])) | (go_at_call 61; go_must (refine (ways_ok (nat zs) wg (nat zs).length _ (unhide HG) rfl (by rw [unhide HLEN]; exact q4) (unhide H5)).mono ?_; rintro e w3 ⟨g, cap, N, A, B, S, H, ix, ky, rfl, h7⟩; have H7 := hide h7; clear h7)))
  go_ret2
  have hh := code_made (unhide HG) (by rw [unhide HLEN]; exact q4) (unhide H3) (unhide H4) (unhide H5) (unhide H6) (unhide H7)
  exact ⟨_, rfl, hh.1, hh.2⟩

theorem pnew_ok (v : Value) (zs : List Int) (most : Int) (loose : Bool) (w : World) (hr : ReadsI w v zs) :
    Calls Try.prog 49 #[v, .int .i64 most, .bool loose] w fun e w' => pnewPost zs most loose w e w' := by
  by_cases hok : okArgs zs.length most
  · by_cases hz : ∀ z ∈ zs, okLen most z
    · obtain ⟨M, rfl⟩ := Int.eq_ofNat_of_zero_le (show 0 ≤ most by have := hok.1; omega)
      have hM : M ≤ 20 := by have := hok.2.1; omega
      have hiff := okSum_iff (loose := loose) (lens_le hz) hM
      have ho : okArgs zs.length (M : Int) ∧ ∀ z ∈ zs, okLen (M : Int) z := ⟨hok, hz⟩
      have l20 : ∀ l ∈ nat zs, l ≤ 20 := fun l hl => by have := lens_le hz l hl; omega
      by_cases hs : okSum (nat zs) loose
      · have hg : Good (nat zs) := ⟨l20, okSum.le l20 hs⟩
        cases hF : fullB (nat zs) M with
        | true => exact (pnew_yes1 v zs M loose w hr hok hz hg hF).mono fun e w' ⟨cp, he, hc, hb⟩ => ⟨fun h => absurd ho h, fun _ h => absurd hs h, fun _ _ => ⟨cp, he, hc⟩, hb⟩
        | false =>
          have h2 := (hiff.1 hs).resolve_left (by rw [hF]; simp)
          exact (pnew_yes2 v zs M loose w hr hok hz hg hF h2.1 h2.2).mono fun e w' ⟨cp, he, hc, hb⟩ => ⟨fun h => absurd ho h, fun _ h => absurd hs h, fun _ _ => ⟨cp, he, hc⟩, hb⟩
      · have hF : fullB (nat zs) M = false := by
          cases hF : fullB (nat zs) M with
          | true => exact absurd (hiff.2 (.inl hF)) hs
          | false => rfl
        cases hl : loose with
        | false =>
          rw [hl] at hs
          exact (pnew_no1 v zs M false w hr hok hz hF rfl).mono fun e w' ⟨he, hb⟩ => ⟨fun h => absurd ho h, fun _ _ => he, fun _ h => absurd h hs, hb⟩
        | true =>
          have hB : bareB (nat zs) = false := by
            cases hB : bareB (nat zs) with
            | true => exact absurd (hiff.2 (.inr ⟨hl, hB⟩)) hs
            | false => rfl
          rw [hl] at hs
          exact (pnew_no2 v zs M true w hr hok hz hF rfl hB).mono fun e w' ⟨he, hb⟩ => ⟨fun h => absurd ho h, fun _ _ => he, fun _ h => absurd h hs, hb⟩
    · exact (pnew_lens v zs most loose w hr hok (decide_eq_false hz)).mono fun e w' ⟨he, hw⟩ => by subst he hw; exact pnewPost.bad (fun h => hz h.2)
  · obtain ⟨a, cap, rfl, _⟩ := hr
    exact (pnew_args a zs.length cap most loose w hok).mono fun e w' ⟨he, hw⟩ => by subst he hw; exact pnewPost.bad (fun h => hok h.1)

end Go.Proofs.Ytppbnodgnphaaaa
