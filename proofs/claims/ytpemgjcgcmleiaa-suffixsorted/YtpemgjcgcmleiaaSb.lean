/- sortByByte: places in the order of the bytes that a function tells of them. -/
import Derived.Test.YtpemgjcgcmleiaaMem
import Derived.Test.YtpemgjcgcmleiaaCs
namespace Go.Proofs.Ytpemgjcgcmleiaa
open Go.RowKit Suf
set_option maxRecDepth 100000
set_option linter.unusedVariables false

/-- a function that tells a byte of each place, and changes nothing -/
structure ByteFn (w : World) (fn : Nat) (cb : Array Value) (L : List Nat) (f : Nat → Nat) : Prop where
  enter : ∀ (args : Array Value) (x : World), Sem.run Try.prog (callFunc fn args) x = .ok (.enter fn args) x
  call : ∀ (x : Nat) (W : World), Below w.heap.size w W → x ∈ L → Calls Try.prog fn (#[.int .i64 (x : Int)] ++ cb) W fun e W' => e = .returned (.int .u8 (f x : Int)) ∧ ∃ q, W' = W.drewN q
  lt : ∀ x ∈ L, f x < 256

theorem zero42 : Try.zeroCells42 = icells .i64 256 (fun _ => 0) := by kernel_rfl

theorem range_of {w : World} {k : IntKind} {t : TypeId} {g n : Nat} {C : Nat → Nat} (h : IntsAt w k t g n C) : w.rangeAt g 0 ((List.range n).map fun i => Value.int k (C i : Int)) := by
  intro j v hv
  rw [List.getElem?_map] at hv
  rcases Nat.lt_or_ge j n with hj | hj
  · rw [List.getElem?_range hj] at hv
    simp only [Option.map_some, Option.some.injEq] at hv
    subst hv
    rw [Nat.zero_add]
    exact h.cell j hj
  · rw [List.getElem?_eq_none (by simpa using hj)] at hv
    cases hv

/-- all the rows at once -/
theorem rows_load {w : World} {g : Nat} {C : Nat → Nat} (h : IntsAt w .i64 42 g 256 C) : (Instr.loadAt 42 (.pointer (some ⟨g, 0, none⟩))).run Try.prog w = .ok (.agg (icells .i64 256 C)) w :=
  run_loadAt_mid w g 0 42 _ _ (range_of h) Try.underlying42 rfl (by rw [List.length_map, List.length_range]; kernel_rfl)

theorem icells_at (k : IntKind) (n : Nat) (C : Nat → Nat) (i : Nat) (hi : i < n) : (icells k n C)[i]? = some (.int k (C i : Int)) := by
  unfold icells
  simp [List.getElem?_range hi]

theorem run_index_agg (C : Nat → Nat) (CS : List Value) (hCS : CS = (List.range 256).map fun i => Value.int .i64 (C i : Int)) (v : Nat) (hv : v < 256) (w : World) : (Instr.index 42 (.agg CS.toArray) (.int .i64 (v : Int))).run Try.prog w = .ok (.int .i64 (C v : Int)) w := by
  have hz : (Go.sizeOf 3).run Try.prog w = .ok 1 w := Try.sizeOf3 w
  have h1 : (0 : Int) ≤ (v : Int) ∧ (v : Int) < ((256 : Nat) : Int) := by omega
  have h2 : CS[v]? = some (.int .i64 (C v : Int)) := by rw [hCS]; simp [List.getElem?_range hv]
  simp [Instr.index, run_underlying Try.underlying42, asIntOf, hv, go_sem, hz, h2]

set_option maxHeartbeats 4000000 in
theorem sort_ok (L : List Nat) (f : Nat → Nat) (fn gp n : Nat) (cb : Array Value) (w : World) (hL : L.length = n) (hn : n ≤ 1048576) (hd : L.Nodup) (hp : IntsAt w .i64 3 gp n (fun i => L.getD i 0)) (hf : ByteFn w fn cb L f) :
    Calls Try.prog 20 #[.slice (some ⟨gp, 0, none⟩) n n, .func (.func fn) #[] cb] w fun e w' => ∃ g, e = .returned (.slice (some ⟨g, 0, none⟩) n n) ∧ w.heap.size ≤ g ∧ IntsAt w' .i64 3 g n (fun i => (bys f L 256).getD i 0) ∧ Below w.heap.size w w' := by
  have hE := hf.enter
  have HP := hide hp
  have HF := hide hf
  have HL := hide hL
  have HD := hide hd
  obtain ⟨H, hH⟩ : ∃ H, H = w.heap.size := ⟨_, rfl⟩
  have hgp := hp.lt
  have HH := hide hH
  have H0 : Hid (IntsAt (w.alloc (.cells Try.zeroCells42 42)) .i64 42 H 256 (cnt f (L.take 0))) := hide (by
    rw [zero42, hH]
    exact IntsAt.congr (C := fun _ => 0) (heap_alloc_new _ _) (fun i _ => rfl))
  have HB : Hid (Below H w (w.alloc (.cells Try.zeroCells42 42))) := hide (by rw [hH]; exact (Below.refl _ _).alloc (Nat.le_refl _) _)
  clear hp hf hL hd
  go_enter Try.func20, Try.ntmps20
  go_wp2_with fail
  rw [← hH] at hgp ⊢
  clear hH
  go_loopg [17] n (fun gk d ws => ∃ (k : Nat), gk = n - k ∧ k ≤ n ∧ d = .int .i64 (k : Int) ∧ Hid (IntsAt ws .i64 42 H 256 (cnt f (L.take k))) ∧ Hid (Below H w ws))
  case atStart => exact ⟨0, by omega, by omega, rfl, H0, HB⟩
  case round =>
    clear H0 HB
    obtain ⟨k, rfl, hk, rfl, H0, HB⟩ := hrel
    by_cases hlt : k < n
    · have tl : (k : Int) < (n : Int) := by omega
      have c1 := ((unhide HP).of ((unhide HB).block gp hgp)).cell k hlt
      have hm : L.getD k 0 ∈ L := getD_mem (by rw [unhide HL]; exact hlt)
      have hx := (unhide HF).lt _ hm
      have HC := hide fun W hW => (unhide HF).call _ W hW hm
      have HN := hide (cnt_snoc f L k)
      have HCL := hide (cnt_le f (L.take k) (f (L.getD k 0)))
      generalize L.getD k 0 = x at *
      generalize hy : f x = y at *
      have c3 : ∀ q, (wr.drewN q).cell? ⟨H, y, none⟩ = some (.int .i64 ((cnt f (L.take k) y : Nat) : Int)) := fun q => (unhide H0).cell y hx
      have c4 : ∀ q, (wr.drewN q).frozen? ⟨H, y, none⟩ = false := fun q => (unhide H0).free y
      have hyi : (y : Int) < 256 := by omega
      have hcn : cnt f (L.take k) y ≤ 1048576 := by
        have := unhide HCL
        rw [List.length_take] at this
        omega
      generalize hcv : cnt f (L.take k) y = cv at *
      clear hm hy
      go_wp2_with fail
      refine (unhide HC wr (by have := unhide HB; rw [unhide HH] at this; exact this)).mono ?_
      rintro e w' ⟨rfl, q, rfl⟩
      have d3 := c3 q
      have d4 := c4 q
      go_wp2_with fail
      go_roundg (n - (k + 1))
      case measure => omega
      case rel =>
        refine ⟨k + 1, rfl, by omega, by go_num, hide ?_, hide ?_⟩
        · have h1 : IntsAt (wr.drewN q) .i64 42 H 256 (cnt f (L.take k)) := unhide H0
          have h2 := h1.set y (cv + 1)
          refine IntsAt.congr (C := upd (cnt f (L.take k)) y (cv + 1)) h2 fun v _ => ?_
          rw [unhide HN v (by rw [unhide HL]; exact hlt)]
          rfl
        · have h1 : Below H w (wr.drewN q) := ⟨(unhide HB).os, (unhide HB).tape, (unhide HB).output, (unhide HB).size, (unhide HB).block⟩
          exact h1.setCell (Nat.le_refl _) _
    · obtain rfl : k = n := by omega
      have tl : ¬ (k : Int) < (k : Int) := by omega
      have HT : Hid (L.take k = L) := hide (by rw [← unhide HL]; exact List.take_length)
      have hrw := unhide H0
      rw [unhide HT] at hrw
      have H1 : Hid (IntsAt wr .i64 42 H 256 (fun u => if u < 0 then Suf.start f L u else cnt f L u)) := hide (by
        have := unhide H0
        rw [unhide HT] at this
        exact this.congr fun i _ => by rw [if_neg (by omega)])
      clear H0
      obtain ⟨CS, hCS⟩ : ∃ CS, CS = (List.range 256).map fun i => Value.int .i64 (cnt f L i : Int) := ⟨_, rfl⟩
      have hrg := range_of hrw
      have hln : (Try.prog.info? 42).map (·.size) = some CS.length := by rw [hCS, List.length_map, List.length_range]; kernel_rfl
      rw [← hCS] at hrg
      have HCS := hide hCS
      clear hCS
      go_wp2_with (refine wpList_load_mid rfl 42 _ rfl H 0 rfl CS (.array 256 3) hrg Try.underlying42 rfl hln ?_)
      clear hrw hrg hln
      go_loopg [8, 30] 256 (fun gk a d ws => ∃ (v : Nat), gk = 256 - v ∧ v ≤ 256 ∧ a = .int .i64 ((Suf.start f L v : Nat) : Int) ∧ d = .int .i64 (v : Int) ∧ Hid (IntsAt ws .i64 42 H 256 (fun u => if u < v then Suf.start f L u else cnt f L u)) ∧ Hid (Below H w ws))
      case atStart => exact ⟨0, by omega, by omega, rfl, rfl, H1, HB⟩
      case round =>
        clear H1 HB
        obtain ⟨v, rfl, hv, rfl, rfl, H1, HB⟩ := hrel
        rename World => wv
        by_cases hvl : v < 256
        · have tv : (v : Int) < 256 := by omega
          have c1 := run_index_agg (cnt f L) CS (unhide HCS) v hvl wv
          have hst := start_succ f L v
          have htp : Suf.start f L v + cnt f L v ≤ k := by
            have h1 := start_mono f L (show v + 1 ≤ 256 by omega)
            rw [start_succ, start_top f (unhide HD) (unhide HF).lt, unhide HL] at h1
            exact h1
          have c2 := (unhide H1).cell v hvl
          have c3 := (unhide H1).free v
          rw [if_neg (Nat.lt_irrefl v)] at c2
          have HST := hide hst
          clear hst
          generalize hs : Suf.start f L v = s at *
          generalize hcv : cnt f L v = cv at *
          go_wp2_with fail
          go_roundg (256 - (v + 1))
          case measure => omega
          case rel =>
            refine ⟨v + 1, rfl, by omega, ?_, by go_num, hide (((unhide H1).set v s).congr fun i _ => ?_), hide ((unhide HB).setCell (Nat.le_refl _) _)⟩
            · rw [unhide HST]; go_num
            · unfold upd
              dsimp only
              by_cases e : i = v
              · subst e; rw [if_pos rfl, if_pos (by omega), hs]
              · rw [if_neg e]
                by_cases e2 : i < v
                · rw [if_pos e2, if_pos (by omega)]
                · rw [if_neg e2, if_neg (by omega)]
        · obtain rfl : v = 256 := by omega
          have hmk := ints_made wv k (by omega)
          obtain ⟨G, hG⟩ : ∃ G, G = wv.heap.size := ⟨_, rfl⟩
          have hgG : gp < G ∧ H < G := by rw [hG]; have := (unhide H1).lt; omega
          have H2 : Hid (IntsAt (wv.alloc (.cells (icells .i64 k (fun _ => 0)) 3)) .i64 42 H 256 (fun u => Suf.start f L u + cnt f (L.take 0) u)) := hide (((unhide H1).alloc _).congr fun i hi => by rw [if_pos hi, List.take_zero]; rfl)
          have H3 : Hid (∃ S, IntsAt (wv.alloc (.cells (icells .i64 k (fun _ => 0)) 3)) .i64 3 G k S ∧ PutTo f L 0 S) := hide ⟨fun _ => 0, by rw [hG]; exact heap_alloc_new _ _, put_zero f L _⟩
          have H4 : Hid (Below H w (wv.alloc (.cells (icells .i64 k (fun _ => 0)) 3))) := hide ((unhide HB).alloc (by omega) _)
          rw [← hG] at hmk
          clear H1 HB hG
          go_wp2_with fail
          clear hmk
          go_loopg [46] k (fun gk d ws => ∃ (i : Nat), gk = k - i ∧ i ≤ k ∧ d = .int .i64 (i : Int) ∧ Hid (IntsAt ws .i64 42 H 256 (fun u => Suf.start f L u + cnt f (L.take i) u)) ∧ Hid (∃ S, IntsAt ws .i64 3 G k S ∧ PutTo f L i S) ∧ Hid (Below H w ws))
          case atStart => exact ⟨0, by omega, by omega, rfl, H2, H3, H4⟩
          case round =>
            clear H2 H3 H4
            obtain ⟨i, rfl, hi, rfl, H2, H3, H4⟩ := hrel
            rename World => wi
            by_cases hil : i < k
            · have ti : (i : Int) < (k : Int) := by omega
              have hiL : i < L.length := by rw [unhide HL]; exact hil
              have c1 := ((unhide HP).of ((unhide H4).block gp hgp)).cell i hil
              have hm : L.getD i 0 ∈ L := getD_mem hiL
              have hx := (unhide HF).lt _ hm
              have HC := hide fun W hW => (unhide HF).call _ W hW hm
              have HN := hide (cnt_snoc f L i)
              have hrl := start_row_lt f (unhide HD) (unhide HF).lt i hiL
              rw [unhide HL] at hrl
              obtain ⟨S, hS1, hS2⟩ := unhide H3
              have HS2 := hide (put_succ f L i S hiL hS2)
              generalize L.getD i 0 = x at *
              generalize hy : f x = y at *
              have e2 := (unhide H2).cell y hx
              generalize hr : Suf.start f L y + cnt f (L.take i) y = r at *
              have c3 : ∀ q, (wi.drewN q).cell? ⟨H, y, none⟩ = some (.int .i64 (r : Int)) := fun q => e2
              have c4 : ∀ q, (wi.drewN q).frozen? ⟨H, y, none⟩ = false := fun q => (unhide H2).free y
              have c5 : ∀ q, (wi.drewN q).cell? ⟨G, r, none⟩ = some (.int .i64 ((S r : Nat) : Int)) := fun q => hS1.cell r hrl
              have c6 : ∀ q, (wi.drewN q).frozen? ⟨G, r, none⟩ = false := fun q => hS1.free r
              have hri : (r : Int) < (k : Int) := by omega
              have hyi : (y : Int) < 256 := by omega
              have HS1 := hide hS1
              have d7 : ∀ q, ((wi.drewN q).setCell ⟨G, r, none⟩ (.int .i64 (x : Int))).cell? ⟨H, y, none⟩ = some (.int .i64 (r : Int)) := fun q => ((unhide H2).other ⟨G, r, none⟩ (.int .i64 (x : Int)) (by show H ≠ G; omega)).cell y hx |>.trans (by rw [hr])
              have d8 : ∀ q, ((wi.drewN q).setCell ⟨G, r, none⟩ (.int .i64 (x : Int))).frozen? ⟨H, y, none⟩ = false := fun q => ((unhide H2).other ⟨G, r, none⟩ (.int .i64 (x : Int)) (by show H ≠ G; omega)).free y
              clear hm hS1 hS2 e2
              go_wp2_with fail
              refine (unhide HC wi (by have := unhide H4; rw [unhide HH] at this; exact this)).mono ?_
              rintro e w' ⟨rfl, q, rfl⟩
              have d3 := c3 q
              have d4 := c4 q
              have d5 := c5 q
              have d6 := c6 q
              have d7 := d7 q
              have d8 := d8 q
              clear c3 c4 c5 c6
              go_wp2_with fail
              go_roundg (k - (i + 1))
              case measure => omega
              case rel =>
                refine ⟨i + 1, rfl, by omega, by go_num, hide ?_, hide ?_, hide ?_⟩
                · have h1 : IntsAt (wi.drewN q) .i64 42 H 256 (fun u => Suf.start f L u + cnt f (L.take i) u) := unhide H2
                  have h2 := (h1.other ⟨G, r, none⟩ (.int .i64 (x : Int)) (by show H ≠ G; omega)).set y (r + 1)
                  refine IntsAt.congr h2 fun v _ => ?_
                  rw [unhide HN v hiL]
                  unfold upd
                  by_cases e : v = y
                  · subst e; rw [if_pos rfl, if_pos rfl, ← hr]; omega
                  · rw [if_neg e, if_neg e]
                · have h1 : IntsAt (wi.drewN q) .i64 3 G k S := unhide HS1
                  exact ⟨_, ((h1.set r x).other ⟨H, y, none⟩ _ (by show G ≠ H; omega)), unhide HS2⟩
                · have h1 : Below H w (wi.drewN q) := ⟨(unhide H4).os, (unhide H4).tape, (unhide H4).output, (unhide H4).size, (unhide H4).block⟩
                  exact (h1.setCell (by show H ≤ G; omega) _).setCell (Nat.le_refl _) _
            · obtain rfl : i = k := by omega
              have ti : ¬ (i : Int) < (i : Int) := by omega
              go_wp2_with fail
              go_ret
              obtain ⟨S, hS1, hS2⟩ := unhide H3
              rw [← unhide HH]
              refine ⟨G, rfl, by omega, hS1.congr fun r hr => ?_, unhide H4⟩
              rw [← unhide HL] at hS2 hr
              exact put_done f S (unhide HD) (unhide HF).lt hS2 r hr
end Go.Proofs.Ytpemgjcgcmleiaa
