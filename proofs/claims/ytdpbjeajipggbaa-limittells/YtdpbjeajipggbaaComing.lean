/- The document's Coming: the symbols that come, in their order, as coins. -/
import Derived.Test.YtdpbjeajipggbaaCoin
namespace Go.Proofs.Ytdpbjeajipggbaa
open Go.RowKit
set_option linter.unusedVariables false

attribute [local go_sem ↓] Go.wp_at_zero Go.wp_at_succ

/-- of the first i symbols those that come, in order -/
structure Upto (os : List Int) (L : List Nat) (i : Nat) : Prop where
  pw : L.Pairwise (Ahead os)
  mem : ∀ j, j ∈ L ↔ j < i ∧ 0 < wt os j

theorem Upto.skip {os : List Int} {L : List Nat} {i : Nat} (h : Upto os L i) (h0 : wt os i = 0) : Upto os L (i + 1) := ⟨h.pw, fun j => by
  rw [h.mem]
  constructor
  · rintro ⟨h1, h2⟩; exact ⟨by omega, h2⟩
  · rintro ⟨h1, h2⟩
    have : j ≠ i := fun e => by rw [e] at h2; omega
    exact ⟨by omega, h2⟩⟩

theorem Upto.ins {os : List Int} {L : List Nat} {i k : Nat} (h : Upto os L i) (h0 : 0 < wt os i) (h1 : ∀ j ∈ L.take k, wt os j ≤ wt os i) (h2 : ∀ j ∈ L.drop k, wt os i < wt os j) : Upto os (L.take k ++ [i] ++ L.drop k) (i + 1) := by
  have hpw := h.pw
  rw [← List.take_append_drop k L, List.pairwise_append] at hpw
  obtain ⟨p1, p2, p3⟩ := hpw
  refine ⟨?_, fun j => ?_⟩
  · rw [List.pairwise_append, List.pairwise_append]
    refine ⟨⟨p1, List.pairwise_singleton _ _, fun x hx y hy => ?_⟩, p2, fun x hx y hy => ?_⟩
    · simp at hy
      subst hy
      have hm := (h.mem x).1 (List.mem_of_mem_take hx)
      have := h1 x hx
      unfold Ahead
      omega
    · rw [List.mem_append] at hx
      rcases hx with hx | hx
      · exact p3 x hx y hy
      · simp at hx
        subst hx
        exact .inl (h2 y hy)
  · have hm := h.mem j
    rw [← List.take_append_drop k L, List.mem_append] at hm
    rw [List.mem_append, List.mem_append, List.mem_singleton]
    constructor
    · rintro ((h' | h') | h')
      · have := hm.1 (.inl h'); exact ⟨by omega, this.2⟩
      · subst h'; exact ⟨by omega, h0⟩
      · have := hm.1 (.inr h'); exact ⟨by omega, this.2⟩
    · rintro ⟨a, b⟩
      by_cases e : j = i
      · exact .inl (.inr e)
      · rcases hm.2 ⟨by omega, b⟩ with h' | h'
        · exact .inl (.inl h')
        · exact .inr h'

theorem sorted_wt {os : List Int} {L : List Nat} (h : L.Pairwise (Ahead os)) {j k : Nat} (hjk : j ≤ k) (hk : k < L.length) : wt os (L.getD j 0) ≤ wt os (L.getD k 0) := by
  by_cases e : j = k
  · subst e; exact Nat.le_refl _
  · have := List.pairwise_iff_getElem.1 h j k (by omega) hk (by omega)
    rw [List.getD_eq_getElem?_getD, List.getElem?_eq_getElem (by omega), List.getD_eq_getElem?_getD, List.getElem?_eq_getElem hk]
    unfold Ahead at this
    simp only [Option.getD_some]
    omega

theorem mem_take_get {L : List Nat} {k x : Nat} (h : x ∈ L.take k) : ∃ j, j < k ∧ j < L.length ∧ x = L.getD j 0 := by
  obtain ⟨j, hj, rfl⟩ := List.getElem_of_mem h
  simp at hj
  exact ⟨j, by omega, by omega, by simp [show j < L.length by omega]⟩

theorem mem_drop_get {L : List Nat} {k x : Nat} (h : x ∈ L.drop k) : ∃ j, k ≤ j ∧ j < L.length ∧ x = L.getD j 0 := by
  obtain ⟨j, hj, rfl⟩ := List.getElem_of_mem h
  simp at hj
  exact ⟨k + j, by omega, by omega, by simp [show k + j < L.length by omega]⟩

theorem own_base {w : World} {base base' e size n : Nat} {v : Value} {xs : List Value} (h : w.ownsRow base e size v n xs) (hb : base' ≤ base) : w.ownsRow base' e size v n xs := by
  obtain ⟨hl, hr⟩ := h
  refine ⟨hl, ?_⟩
  rcases hr with e | ⟨g, cap, cur, e, h1, r⟩
  · exact .inl e
  · exact .inr ⟨g, cap, cur, e, Nat.le_trans hb h1, r⟩

/-- behind i symbols -/
structure CominAt (os : List Int) (w ws : World) (v : Value) (L : List Nat) (cv : List CV) (i : Nat) : Prop where
  up : Upto os L i
  own : ws.ownsRow w.heap.size 48 2 v L.length (ccells cv)
  co : CoinsR ws cv (Merge.baseOf (wt os) L)
  bel : Below w.heap.size w ws

theorem base_get (os : List Int) (L : List Nat) (j : Nat) (h : j < L.length) : (Merge.baseOf (wt os) L).getD j Merge.d0 = (wt os (L.getD j 0), [L.getD j 0]) := by
  simp [Merge.baseOf, h]

theorem Upto.len {os : List Int} {L : List Nat} {i : Nat} (h : Upto os L i) : L.length ≤ i := by
  have hnd : L.Nodup := by
    have := h.pw
    exact this.imp fun {a b} hab e => by subst e; exact hab.irrefl
  have h1 : L.length = (raw os i).length := ((List.perm_ext_iff_of_nodup hnd (raw_nodup os _)).2 fun j => by rw [h.mem, raw_mem]).length_eq
  rw [h1]
  exact raw_len os i

theorem drewN_own {w : World} {q base e size n : Nat} {v : Value} {xs : List Value} (h : w.ownsRow base e size v n xs) : (w.drewN q).ownsRow base e size v n xs := h

theorem CominAt.next {os : List Int} {w wq w3 : World} {v v3 sv : Value} {L : List Nat} {cv : List CV} {i k z : Nat} (h : CominAt os w wq v L cv i) (hz : wt os i = z) (h0 : 0 < z) (hx : (∀ j ∈ L.take k, wt os j ≤ wt os i) ∧ (∀ j ∈ L.drop k, wt os i < wt os j)) (hk : k ≤ L.length)
    (hB : Below wq.heap.size wq w3) (hown : w3.ownsRow wq.heap.size 48 2 v3 (k + 1 + (L.length - k)) (ccells (cv.take k ++ [(z, sv)] ++ cv.drop k))) (hsv : SymV w3 sv [i]) : CominAt os w w3 v3 (L.take k ++ [i] ++ L.drop k) (cv.take k ++ [(z, sv)] ++ cv.drop k) (i + 1) := by
  have hbs := h.bel.size
  have hcl := h.co.1
  have hbl : (Merge.baseOf (wt os) L).length = L.length := Merge.base_length _ _
  refine ⟨h.up.ins (by omega) hx.1 hx.2, ?_, ?_, h.bel.trans (hB.mono hbs)⟩
  · have e : (L.take k ++ [i] ++ L.drop k).length = k + 1 + (L.length - k) := by simp; omega
    rw [e]
    exact own_base hown hbs
  · have h1 := h.co.stays hB
    have e : Merge.baseOf (wt os) (L.take k ++ [i] ++ L.drop k) = (Merge.baseOf (wt os) L).take k ++ [(z, [i])] ++ (Merge.baseOf (wt os) L).drop k := by
      simp [Merge.baseOf, hz]
    rw [e]
    have a1 := h1.sub 0 k (by omega)
    have a2 := h1.sub k (L.length - k) (by omega)
    rw [List.drop_zero, List.drop_zero] at a1
    rw [List.take_of_length_le (by simp; omega), List.take_of_length_le (by simp [Merge.base_length])] at a2
    exact (a1.append (CoinsR.one hsv)).append a2

theorem sym_one (w : World) (i : Nat) : SymV (w.alloc (.cells #[.int .i64 (i : Int)] 3)) (.slice (some ⟨w.heap.size, 0, none⟩) 1 1) [i] := ⟨_, 1, rfl, .inr ⟨_, rfl, fun j u hj => by
  match j, hj with
  | 0, hj =>
    have ea : (⟨w.heap.size, 0, none⟩ : Addr).add 0 = ⟨w.heap.size, 0, none⟩ := by simp [Addr.add]
    rw [ea]
    simp only [World.cell?, heap_alloc_new]
    simpa [nats, iv] using hj⟩⟩

theorem sym_keep {w w' : World} {x base n : Nat} {cs : Array Value} {f : Nat × Nat} {v : Value} {xs : List Value} (h : w.heap[x]? = some (.cells cs 3 f)) (ho : w.ownsRow base 48 2 v n xs) (hg : w.grownBy w' v.ownBlock) : w'.heap[x]? = some (.cells cs 3 f) := by
  rw [hg.block x (heap_lt h) (fun e => ?_)]
  · exact h
  · rcases ho.2 with ⟨rfl, _⟩ | ⟨g, cap, cur, rfl, _, hh, _⟩
    · simp [Value.ownBlock] at e
    · simp [Value.ownBlock] at e
      subst e
      rw [h] at hh
      simp at hh

theorem sym_at {w : World} {g i : Nat} (h : w.heap[g]? = some (.cells #[.int .i64 (i : Int)] 3 (0, 0))) : SymV w (.slice (some ⟨g, 0, none⟩) 1 1) [i] := ⟨_, 1, rfl, .inr ⟨_, rfl, fun j u hj => by
  match j, hj with
  | 0, hj =>
    have ea : (⟨g, 0, none⟩ : Addr).add 0 = ⟨g, 0, none⟩ := by simp [Addr.add]
    rw [ea]
    simp only [World.cell?, h]
    simpa [nats, iv] using hj⟩⟩

theorem coin_one (w : World) (z : Nat) (sv : Value) : ReadsC (w.alloc (.cells #[.int .i64 (z : Int), sv] 48)) (some ⟨w.heap.size, 0, none⟩) 1 [(z, sv)] := .inr ⟨w.heap.size, 0, rfl, by simp, fun j hj => by
  obtain rfl : j = 0 := by simp at hj; exact hj
  constructor
  · simp only [World.cell?, heap_alloc_new]; rfl
  · simp only [World.cell?, heap_alloc_new]; rfl⟩

set_option maxRecDepth 100000 in
set_option maxHeartbeats 2000000 in
theorem coming_ok (v : Value) (os : List Int) (w : World) (hr : ReadsI w v os) (hlen : os.length ≤ 65536) (hnb : NoneBelow os) :
    Calls Try.prog 18 #[v] w fun e w' => ∃ v' l cv, e = .returned v' ∧ IsOrder os l ∧ w'.ownsRow w.heap.size 48 2 v' l.length (ccells cv) ∧ CoinsR w' cv (Merge.baseOf (wt os) l) ∧ Below w.heap.size w w' := by
  obtain ⟨a, cap, rfl, hsp⟩ := hr
  have HSP := hide hsp
  have HNB := hide hnb
  clear hsp hnb
  obtain ⟨m, hm⟩ : ∃ m, m = os.length := ⟨_, rfl⟩
  rw [← hm] at HSP hlen ⊢
  have HM := hide hm
  clear hm
  go_enter Try.func18, Try.ntmps18
  go_wp2_with fail
  go_loopg [3, 4] m (fun gk c d ws => ∃ (i : Nat) (c0 : Value) (L : List Nat) (cv : List CV), gk = m - i ∧ i ≤ m ∧ c0 = c ∧ Hid (CominAt os w ws c0 L cv i) ∧ d = .int .i64 (i : Int))
  case atStart => exact ⟨0, _, [], [], by omega, by omega, rfl, hide ⟨⟨List.Pairwise.nil, fun j => by simp⟩, nil_coins _ _, CoinsR.nil _, Below.refl _ _⟩, rfl⟩
  case round =>
    obtain ⟨i, c0, L, cv, rfl, hi, rfl, hat, rfl⟩ := hrel
    by_cases hlt : i < m
    · obtain ⟨b, off, rfl, hcell⟩ := unhide HSP (by omega)
      have k1 := cell_stays (unhide hat).bel (hcell i hlt)
      have hz := unhide HNB i (by rw [← unhide HM]; exact hlt)
      obtain ⟨z, hzz⟩ := Int.eq_ofNat_of_zero_le hz
      have hw : wt os i = z := by unfold wt; rw [hzz, Int.toNat_natCast]
      rw [hzz] at k1
      have hki : (i : Int) < (m : Int) := by omega
      have HW := hide hw
      clear hcell hz hzz hw
      by_cases h0 : z = 0
      · subst h0
        have HA2 : Hid (CominAt os w wr c0 L cv (i + 1)) := hide ⟨(unhide hat).up.skip (unhide HW), (unhide hat).own, (unhide hat).co, (unhide hat).bel⟩
        clear hat
        go_wp2_with fail
        go_roundg (m - (i + 1))
        case measure => omega
        case rel => exact ⟨i + 1, _, L, cv, rfl, by omega, rfl, HA2, by go_num⟩
      · have h0' : ((z : Int) == 0) = false := by simp; omega
        have hll := (unhide hat).up.len
        obtain ⟨ac, cc, rfl, hnl, hrc⟩ := own_coins (unhide hat).own
        have HRC := hide hrc
        have hcl := (unhide hat).co.1
        obtain ⟨Q, hQ⟩ : ∃ Q, Q = L.length := ⟨_, rfl⟩
        rw [← hQ] at hll hnl ⊢
        have HQ := hide hQ
        have HNL := hide hnl
        clear hQ hrc hcl hnl
        obtain ⟨wo, rfl⟩ : ∃ wo, wo = wr := ⟨_, rfl⟩
        go_upto_region 7 with fail
        go_loopg [5] Q (fun gk d ws => ∃ (k q : Nat), k = gk ∧ k ≤ Q ∧ Hid (∀ j, k ≤ j → j < Q → z < wt os (L.getD j 0)) ∧ d = .int .i64 (k : Int) ∧ ws = wo.drewN q)
        case atStart => exact ⟨Q, 0, rfl, Nat.le_refl _, hide fun j h1 h2 => by omega, rfl, rfl⟩
        case round =>
          obtain ⟨k, q, rfl, hk, hgr, rfl, rfl⟩ := hrel
          have HEXIT : Hid (k = 0 ∨ wt os (L.getD (k - 1) 0) ≤ z → (∀ j ∈ L.take k, wt os j ≤ wt os i) ∧ (∀ j ∈ L.drop k, wt os i < wt os j)) := hide fun hx => by
            refine ⟨fun x hx' => ?_, fun x hx' => ?_⟩
            · obtain ⟨j, h1, h2, rfl⟩ := mem_take_get hx'
              rcases hx with rfl | hx
              · omega
              · rw [unhide HW]
                exact Nat.le_trans (sorted_wt (unhide hat).up.pw (show j ≤ k - 1 by omega) (by rw [← unhide HQ]; omega)) hx
            · obtain ⟨j, h1, h2, rfl⟩ := mem_drop_get hx'
              rw [unhide HW]
              exact unhide hgr j h1 (by rw [unhide HQ]; exact h2)
          by_cases hk0 : 0 < k
          · have hk0i : (0 : Int) < (k : Int) := by omega
            obtain ⟨K, hK⟩ : ∃ K : Nat, (k : Int) - 1 = (K : Int) := ⟨k - 1, by omega⟩
            have HKK : Hid (k = K + 1) := hide (by omega)
            rcases unhide HRC with ⟨_, _, e⟩ | ⟨gb, goff, rfl, hlc, hcc⟩
            · exfalso
              have := unhide HNL
              rw [e] at this
              simp at this
              omega
            · have hKQ : (K : Int) < (Q : Int) := by omega
              have hKc : K < cv.length := by rw [← unhide HNL]; omega
              have hco := (unhide hat).co
              have c1 := (hcc K hKc).1
              rw [(hco.2 K (by rw [← hco.1]; exact hKc)).1, base_get os L K (by rw [← unhide HQ]; omega)] at c1
              obtain ⟨y, hy⟩ : ∃ y, y = wt os (L.getD K 0) := ⟨_, rfl⟩
              simp only at c1
              rw [← hy] at c1
              have HY := hide hy
              have HCC := hide hcc
              clear hcc hy hco
              by_cases hzy : (z : Int) < (y : Int)
              · have hKk := unhide HKK
                have HG2 : Hid (∀ j, K ≤ j → j < Q → z < wt os (L.getD j 0)) := hide fun j h1 h2 => by
                  by_cases e : j = K
                  · subst e; rw [← unhide HY]; omega
                  · exact unhide hgr j (by omega) h2
                have hKQ2 : K ≤ Q := by omega
                have hKk2 : K < k := by omega
                clear hKk
                go_wp2_with fail
                go_quiet (fail)
                go_wp2_with fail
                go_roundg K
                case measure => omega
                case rel => exact ⟨K, q + nq, rfl, by omega, HG2, by first | rfl | go_num, by first | rfl | (rw [World.drewN_drewN])⟩
              · have HX := hide (unhide HEXIT (.inr (by rw [show k - 1 = K by have := unhide HKK; omega, ← unhide HY]; omega)))
                clear HEXIT
                go_wp2_with fail
                go_quiet (fail)
                go_upto_region 9 with fail
                obtain ⟨wq, hwq⟩ : ∃ wq, wq = (wo.drewN q).drewN nq := ⟨_, rfl⟩
                have HAQ : Hid (CominAt os w wq (.slice (some ⟨gb, goff, none⟩) Q cc) L cv i) := hide (by rw [hwq]; exact ⟨(unhide hat).up, by rw [unhide HQ]; exact (unhide hat).own, (unhide hat).co, below_drewN (below_drewN (unhide hat).bel q) nq⟩)
                have k1q : wq.cell? ⟨b, off + i, none⟩ = some (.int .i64 (z : Int)) := by rw [hwq]; exact k1
                rw [← hwq]
                have HCW := hide (unhide HAQ).co.slices
                have HSL1 : Hid (Slices (cv.take k)) := hide fun c hc => unhide HCW c (List.mem_of_mem_take hc)
                have HSL2 : Hid (Slices (cv.drop k)) := hide fun c hc => unhide HCW c (List.mem_of_mem_drop hc)
                have HTL : Hid (k = (cv.take k).length) := hide (by have := unhide HNL; simp; omega)
                have HDL : Hid (Q - k = (cv.drop k).length) := hide (by rw [unhide HNL]; simp)
                have HRQ : Hid (ReadsC wq (some ⟨gb, goff, none⟩) cc cv) := hide (by rw [hwq]; exact .inr ⟨gb, goff, rfl, hlc, unhide HCC⟩)
                have HSA : Hid (ReadsC wq (some ⟨gb, goff, none⟩) cc (cv.take k)) := hide (by have := (unhide HRQ).sub 0 k (by rw [← unhide HNL]; omega) cc (by have := unhide HNL; omega); simpa using this)
                have hkc : k ≤ cc := by have := unhide HNL; omega
                by_cases hke : k = cc
                · have HSB : Hid (ReadsC wq (some ⟨gb, goff, none⟩) 0 (cv.drop k)) := hide (by
                    have e : cv.drop k = [] := List.drop_eq_nil_of_le (by omega)
                    rw [e]
                    exact .inr ⟨gb, goff, rfl, by simp, fun j hj => by simp at hj⟩)
                  have hQk : Q - k = 0 := by have := unhide HNL; omega
                  subst hke
                  clear hwq
                  have HQ1 : Hid (Below wq.heap.size wq (wq.alloc (.cells #[] 48))) := hide ((Below.refl _ _).alloc (Nat.le_refl _) _)
                  have HOB := hide (built_coins wq wq.heap.size (Nat.le_refl _))
                  go_upto_region 10 with (at_builtin; go_must (refine wpList_append_coins rfl (.tmp 37) (.tmp 40) rfl wq.heap.size (.slice (some ⟨wq.heap.size, 0, none⟩) 0 0) 0 [] (by rfl) (unhide HOB) (some ⟨gb, goff, none⟩) k k (cv.take k) (unhide HTL) (by first | rfl | (simp; done)) ((unhide HSA).stays (unhide HQ1)) (unhide HSL1) (by omega) (by simp) ?_; intro v1 w1 ho1 hg1; have HO1 : Hid (w1.ownsRow wq.heap.size 48 2 v1 k (ccells (cv.take k))) := hide (by simpa using ho1); have HB1 : Hid (Below wq.heap.size wq w1) := hide ((unhide HQ1).trans (grown_below hg1 (by simp) (Nat.le_refl _))); clear ho1 hg1))
                  have hb1s := (unhide HB1).size
                  have k1w := cell_stays (unhide HB1) k1q
                  have HB1B : Hid (Below wq.heap.size wq ((w1.alloc (.cells #[.int .i64 (i : Int)] 3)).alloc (.cells #[.int .i64 (z : Int), .slice (some ⟨w1.heap.size, 0, none⟩) 1 1] 48))) := hide (((unhide HB1).alloc hb1s _).alloc (by simp; omega) _)
                  have HCO : Hid (ReadsC ((w1.alloc (.cells #[.int .i64 (i : Int)] 3)).alloc (.cells #[.int .i64 (z : Int), .slice (some ⟨w1.heap.size, 0, none⟩) 1 1] 48)) (some ⟨w1.heap.size + 1, 0, none⟩) 1 [(z, .slice (some ⟨w1.heap.size, 0, none⟩) 1 1)]) := hide (by have := coin_one (w1.alloc (.cells #[.int .i64 (i : Int)] 3)) z (.slice (some ⟨w1.heap.size, 0, none⟩) 1 1); rw [World.size_alloc] at this; exact this)
                  have HS1 : Hid (((w1.alloc (.cells #[.int .i64 (i : Int)] 3)).alloc (.cells #[.int .i64 (z : Int), .slice (some ⟨w1.heap.size, 0, none⟩) 1 1] 48)).heap[w1.heap.size]? = some (.cells #[.int .i64 (i : Int)] 3 (0, 0))) := hide (by rw [Below.heap_alloc _ _ _ (by simp)]; exact heap_alloc_new _ _)
                  obtain ⟨sv, hsv⟩ : ∃ sv, sv = Value.slice (some ⟨w1.heap.size, 0, none⟩) 1 1 := ⟨_, rfl⟩
                  have HSLO : Hid (Slices [(z, sv)]) := hide fun c hc => by simp at hc; subst hc; exact ⟨_, _, _, hsv⟩
                  obtain ⟨av1, cv1, rfl, -, -⟩ := own_coins (unhide HO1)
                  go_upto_region 11 with (at_builtin; go_must (refine wpList_append_coins rfl (.tmp 42) (.tmp 50) rfl wq.heap.size (.slice av1 k cv1) k (cv.take k) (by rfl) (((unhide HO1).alloc _).alloc _) (some ⟨w1.heap.size + 1, 0, none⟩) 1 1 [(z, .slice (some ⟨w1.heap.size, 0, none⟩) 1 1)] rfl (by rfl) (unhide HCO) (by rw [← hsv]; exact unhide HSLO) (by omega) (by simp; omega) ?_; intro v2 w2 ho2 hg2; have HO2 := hide ho2; have HG2 := hide hg2; have HS2 := hide (sym_keep (unhide HS1) (((unhide HO1).alloc _).alloc _) hg2); clear ho2 hg2))
                  have HB2 : Hid (Below wq.heap.size wq w2) := hide ((unhide HB1B).grown (unhide HG2) (by simp; omega) (fun x e => ((unhide HO1).lt x e).1))
                  have hb2s := (unhide HB2).size
                  have HSV : Hid (∀ w', w'.heap[w1.heap.size]? = some (.cells #[.int .i64 (i : Int)] 3 (0, 0)) → SymV w' sv [i]) := hide fun w' h => by rw [hsv]; exact sym_at h
                  clear HG2
                  rw [← hsv] at HO2
                  clear hsv HCO HB1B k1w HS1
                  obtain ⟨av2, cv2, rfl, -, -⟩ := own_coins (unhide HO2)

                  go_upto_region 4 with (at_builtin; go_must (refine wpList_append_coins rfl (.tmp 52) (.tmp 55) rfl wq.heap.size (.slice av2 (k + 1) cv2) (k + 1) (cv.take k ++ [(z, sv)]) (by rfl) (unhide HO2) (some ⟨gb, goff, none⟩) (Q - k) 0 (cv.drop k) (unhide HDL) (by show Value.slice _ 0 0 = _; rw [hQk]) ((unhide HSB).stays (unhide HB2)) (unhide HSL2) (by omega) hb2s ?_; intro v3 w3 ho3 hg3; have HO3 := hide ho3; have HB3 : Hid (Below wq.heap.size wq w3) := hide ((unhide HB2).grown hg3 hb2s (fun x e => ((unhide HO2).lt x e).1)); have HS3 := hide (sym_keep (unhide HS2) (unhide HO2) hg3); clear ho3 hg3))
                  have HNX := hide ((unhide HAQ).next (unhide HW) (by omega) (unhide HX) (by rw [← unhide HQ]; exact hk) (unhide HB3) (by have := unhide HO3; rw [unhide HQ] at this; exact this) (unhide HSV w3 (unhide HS3)))
                  clear HO3 HS3 HSV HO2 HS2 HB2 HB3
                  go_wp2_with fail
                  go_roundg (m - (i + 1))
                  case measure => omega
                  case rel => exact ⟨i + 1, _, _, _, rfl, by omega, rfl, HNX, by go_num⟩
                · have HSB : Hid (ReadsC wq (some ⟨gb, goff + k * 2, none⟩) (cc - k) (cv.drop k)) := hide (by
                    have := (unhide HRQ).sub k (Q - k) (by rw [← unhide HNL]; omega) (cc - k) (by have := unhide HNL; omega)
                    rw [List.take_of_length_le (by have := unhide HNL; simp; omega)] at this
                    exact this)
                  have hkl : ¬ cc - k = 0 := by omega
                  clear hwq
                  have HQ1 : Hid (Below wq.heap.size wq (wq.alloc (.cells #[] 48))) := hide ((Below.refl _ _).alloc (Nat.le_refl _) _)
                  have HOB := hide (built_coins wq wq.heap.size (Nat.le_refl _))
                  go_upto_region 10 with (at_builtin; go_must (refine wpList_append_coins rfl (.tmp 37) (.tmp 40) rfl wq.heap.size (.slice (some ⟨wq.heap.size, 0, none⟩) 0 0) 0 [] (by rfl) (unhide HOB) (some ⟨gb, goff, none⟩) k cc (cv.take k) (unhide HTL) (by first | rfl | (simp; done)) ((unhide HSA).stays (unhide HQ1)) (unhide HSL1) (by omega) (by simp) ?_; intro v1 w1 ho1 hg1; have HO1 : Hid (w1.ownsRow wq.heap.size 48 2 v1 k (ccells (cv.take k))) := hide (by simpa using ho1); have HB1 : Hid (Below wq.heap.size wq w1) := hide ((unhide HQ1).trans (grown_below hg1 (by simp) (Nat.le_refl _))); clear ho1 hg1))
                  have hb1s := (unhide HB1).size
                  have k1w := cell_stays (unhide HB1) k1q
                  have HB1B : Hid (Below wq.heap.size wq ((w1.alloc (.cells #[.int .i64 (i : Int)] 3)).alloc (.cells #[.int .i64 (z : Int), .slice (some ⟨w1.heap.size, 0, none⟩) 1 1] 48))) := hide (((unhide HB1).alloc hb1s _).alloc (by simp; omega) _)
                  have HCO : Hid (ReadsC ((w1.alloc (.cells #[.int .i64 (i : Int)] 3)).alloc (.cells #[.int .i64 (z : Int), .slice (some ⟨w1.heap.size, 0, none⟩) 1 1] 48)) (some ⟨w1.heap.size + 1, 0, none⟩) 1 [(z, .slice (some ⟨w1.heap.size, 0, none⟩) 1 1)]) := hide (by have := coin_one (w1.alloc (.cells #[.int .i64 (i : Int)] 3)) z (.slice (some ⟨w1.heap.size, 0, none⟩) 1 1); rw [World.size_alloc] at this; exact this)
                  have HS1 : Hid (((w1.alloc (.cells #[.int .i64 (i : Int)] 3)).alloc (.cells #[.int .i64 (z : Int), .slice (some ⟨w1.heap.size, 0, none⟩) 1 1] 48)).heap[w1.heap.size]? = some (.cells #[.int .i64 (i : Int)] 3 (0, 0))) := hide (by rw [Below.heap_alloc _ _ _ (by simp)]; exact heap_alloc_new _ _)
                  obtain ⟨sv, hsv⟩ : ∃ sv, sv = Value.slice (some ⟨w1.heap.size, 0, none⟩) 1 1 := ⟨_, rfl⟩
                  have HSLO : Hid (Slices [(z, sv)]) := hide fun c hc => by simp at hc; subst hc; exact ⟨_, _, _, hsv⟩
                  obtain ⟨av1, cv1, rfl, -, -⟩ := own_coins (unhide HO1)
                  go_upto_region 11 with (at_builtin; go_must (refine wpList_append_coins rfl (.tmp 42) (.tmp 50) rfl wq.heap.size (.slice av1 k cv1) k (cv.take k) (by rfl) (((unhide HO1).alloc _).alloc _) (some ⟨w1.heap.size + 1, 0, none⟩) 1 1 [(z, .slice (some ⟨w1.heap.size, 0, none⟩) 1 1)] rfl (by rfl) (unhide HCO) (by rw [← hsv]; exact unhide HSLO) (by omega) (by simp; omega) ?_; intro v2 w2 ho2 hg2; have HO2 := hide ho2; have HG2 := hide hg2; have HS2 := hide (sym_keep (unhide HS1) (((unhide HO1).alloc _).alloc _) hg2); clear ho2 hg2))
                  have HB2 : Hid (Below wq.heap.size wq w2) := hide ((unhide HB1B).grown (unhide HG2) (by simp; omega) (fun x e => ((unhide HO1).lt x e).1))
                  have hb2s := (unhide HB2).size
                  have HSV : Hid (∀ w', w'.heap[w1.heap.size]? = some (.cells #[.int .i64 (i : Int)] 3 (0, 0)) → SymV w' sv [i]) := hide fun w' h => by rw [hsv]; exact sym_at h
                  clear HG2
                  rw [← hsv] at HO2
                  clear hsv HCO HB1B k1w HS1
                  obtain ⟨av2, cv2, rfl, -, -⟩ := own_coins (unhide HO2)

                  go_upto_region 4 with (at_builtin; go_must (refine wpList_append_coins rfl (.tmp 52) (.tmp 55) rfl wq.heap.size (.slice av2 (k + 1) cv2) (k + 1) (cv.take k ++ [(z, sv)]) (by rfl) (unhide HO2) (some ⟨gb, goff + k * 2, none⟩) (Q - k) (cc - k) (cv.drop k) (unhide HDL) (by first | rfl | (simp; done)) ((unhide HSB).stays (unhide HB2)) (unhide HSL2) (by omega) hb2s ?_; intro v3 w3 ho3 hg3; have HO3 := hide ho3; have HB3 : Hid (Below wq.heap.size wq w3) := hide ((unhide HB2).grown hg3 hb2s (fun x e => ((unhide HO2).lt x e).1)); have HS3 := hide (sym_keep (unhide HS2) (unhide HO2) hg3); clear ho3 hg3))
                  have HNX := hide ((unhide HAQ).next (unhide HW) (by omega) (unhide HX) (by rw [← unhide HQ]; exact hk) (unhide HB3) (by have := unhide HO3; rw [unhide HQ] at this; exact this) (unhide HSV w3 (unhide HS3)))
                  clear HO3 HS3 HSV HO2 HS2 HB2 HB3
                  go_wp2_with fail
                  go_roundg (m - (i + 1))
                  case measure => omega
                  case rel => exact ⟨i + 1, _, _, _, rfl, by omega, rfl, HNX, by go_num⟩
          · have HK0 : Hid (k = 0) := hide (by omega)
            have hk0n : ¬ (0 : Int) < (k : Int) := by omega
            have HX := hide (unhide HEXIT (.inl (unhide HK0)))
            clear HEXIT
            go_wp2_with fail
            go_quiet (fail)
            go_upto_region 9 with fail
            rcases unhide HRC with ⟨rfl, rfl, hcn⟩ | ⟨gb, goff, rfl, hlc, hcc⟩
            · obtain ⟨wq, hwq⟩ : ∃ wq, wq = (wo.drewN q).drewN nq := ⟨_, rfl⟩
              have HAQ : Hid (CominAt os w wq (.slice none Q 0) L cv i) := hide (by rw [hwq]; exact ⟨(unhide hat).up, by rw [unhide HQ]; exact (unhide hat).own, (unhide hat).co, below_drewN (below_drewN (unhide hat).bel q) nq⟩)
              have k1q : wq.cell? ⟨b, off + i, none⟩ = some (.int .i64 (z : Int)) := by rw [hwq]; exact k1
              rw [← hwq]
              have HCW := hide (unhide HAQ).co.slices
              have HSL1 : Hid (Slices (cv.take k)) := hide fun c hc => unhide HCW c (List.mem_of_mem_take hc)
              have HSL2 : Hid (Slices (cv.drop k)) := hide fun c hc => unhide HCW c (List.mem_of_mem_drop hc)
              have HTL : Hid (k = (cv.take k).length) := hide (by have := unhide HNL; simp; omega)
              have HDL : Hid (Q - k = (cv.drop k).length) := hide (by rw [unhide HNL]; simp)
              have HSA : Hid (ReadsC wq none 0 (cv.take k)) := hide (by rw [hcn]; exact .inl ⟨rfl, rfl, by simp⟩)
              have HSB : Hid (ReadsC wq none 0 (cv.drop k)) := hide (by rw [hcn]; exact .inl ⟨rfl, rfl, by simp⟩)
              have hQ0 : Q = 0 := by rw [unhide HNL, hcn]; rfl
              have hk0 : k = 0 := unhide HK0
              have HCN := hide hcn
              clear hwq hcn
              subst hQ0 hk0
              have HQ1 : Hid (Below wq.heap.size wq (wq.alloc (.cells #[] 48))) := hide ((Below.refl _ _).alloc (Nat.le_refl _) _)
              have HOB := hide (built_coins wq wq.heap.size (Nat.le_refl _))
              go_upto_region 10 with (at_builtin; go_must (refine wpList_append_coins rfl (.tmp 37) (.tmp 40) rfl wq.heap.size (.slice (some ⟨wq.heap.size, 0, none⟩) 0 0) 0 [] (by rfl) (unhide HOB) none 0 0 (cv.take 0) (unhide HTL) (by first | rfl | (simp; done)) ((unhide HSA).stays (unhide HQ1)) (unhide HSL1) (by omega) (by simp) ?_; intro v1 w1 ho1 hg1; have HO1 : Hid (w1.ownsRow wq.heap.size 48 2 v1 0 (ccells (cv.take 0))) := hide (by simpa using ho1); have HB1 : Hid (Below wq.heap.size wq w1) := hide ((unhide HQ1).trans (grown_below hg1 (by simp) (Nat.le_refl _))); clear ho1 hg1))
              have hb1s := (unhide HB1).size
              have k1w := cell_stays (unhide HB1) k1q
              have HB1B : Hid (Below wq.heap.size wq ((w1.alloc (.cells #[.int .i64 (i : Int)] 3)).alloc (.cells #[.int .i64 (z : Int), .slice (some ⟨w1.heap.size, 0, none⟩) 1 1] 48))) := hide (((unhide HB1).alloc hb1s _).alloc (by simp; omega) _)
              have HCO : Hid (ReadsC ((w1.alloc (.cells #[.int .i64 (i : Int)] 3)).alloc (.cells #[.int .i64 (z : Int), .slice (some ⟨w1.heap.size, 0, none⟩) 1 1] 48)) (some ⟨w1.heap.size + 1, 0, none⟩) 1 [(z, .slice (some ⟨w1.heap.size, 0, none⟩) 1 1)]) := hide (by have := coin_one (w1.alloc (.cells #[.int .i64 (i : Int)] 3)) z (.slice (some ⟨w1.heap.size, 0, none⟩) 1 1); rw [World.size_alloc] at this; exact this)
              have HS1 : Hid (((w1.alloc (.cells #[.int .i64 (i : Int)] 3)).alloc (.cells #[.int .i64 (z : Int), .slice (some ⟨w1.heap.size, 0, none⟩) 1 1] 48)).heap[w1.heap.size]? = some (.cells #[.int .i64 (i : Int)] 3 (0, 0))) := hide (by rw [Below.heap_alloc _ _ _ (by simp)]; exact heap_alloc_new _ _)
              obtain ⟨sv, hsv⟩ : ∃ sv, sv = Value.slice (some ⟨w1.heap.size, 0, none⟩) 1 1 := ⟨_, rfl⟩
              have HSLO : Hid (Slices [(z, sv)]) := hide fun c hc => by simp at hc; subst hc; exact ⟨_, _, _, hsv⟩
              obtain ⟨av1, cv1, rfl, -, -⟩ := own_coins (unhide HO1)
              go_upto_region 11 with (at_builtin; go_must (refine wpList_append_coins rfl (.tmp 42) (.tmp 50) rfl wq.heap.size (.slice av1 0 cv1) 0 (cv.take 0) (by rfl) (((unhide HO1).alloc _).alloc _) (some ⟨w1.heap.size + 1, 0, none⟩) 1 1 [(z, .slice (some ⟨w1.heap.size, 0, none⟩) 1 1)] rfl (by rfl) (unhide HCO) (by rw [← hsv]; exact unhide HSLO) (by omega) (by simp; omega) ?_; intro v2 w2 ho2 hg2; have HO2 := hide ho2; have HG2 := hide hg2; have HS2 := hide (sym_keep (unhide HS1) (((unhide HO1).alloc _).alloc _) hg2); clear ho2 hg2))
              have HB2 : Hid (Below wq.heap.size wq w2) := hide ((unhide HB1B).grown (unhide HG2) (by simp; omega) (fun x e => ((unhide HO1).lt x e).1))
              have hb2s := (unhide HB2).size
              have HSV : Hid (∀ w', w'.heap[w1.heap.size]? = some (.cells #[.int .i64 (i : Int)] 3 (0, 0)) → SymV w' sv [i]) := hide fun w' h => by rw [hsv]; exact sym_at h
              clear HG2
              rw [← hsv] at HO2
              clear hsv HCO HB1B k1w HS1
              obtain ⟨av2, cv2, rfl, -, -⟩ := own_coins (unhide HO2)

              go_upto_region 4 with (at_builtin; go_must (refine wpList_append_coins rfl (.tmp 52) (.tmp 55) rfl wq.heap.size (.slice av2 (0 + 1) cv2) (0 + 1) (cv.take 0 ++ [(z, sv)]) (by rfl) (unhide HO2) none (0 - 0) 0 (cv.drop 0) (unhide HDL) (by rfl) ((unhide HSB).stays (unhide HB2)) (unhide HSL2) (by omega) hb2s ?_; intro v3 w3 ho3 hg3; have HO3 := hide ho3; have HB3 : Hid (Below wq.heap.size wq w3) := hide ((unhide HB2).grown hg3 hb2s (fun x e => ((unhide HO2).lt x e).1)); have HS3 := hide (sym_keep (unhide HS2) (unhide HO2) hg3); clear ho3 hg3))
              have HNX := hide ((unhide HAQ).next (unhide HW) (by omega) (unhide HX) (by rw [← unhide HQ]; exact hk) (unhide HB3) (by have := unhide HO3; rw [show L.length - 0 = 0 by have := unhide HQ; omega]; exact this) (unhide HSV w3 (unhide HS3)))
              clear HO3 HS3 HSV HO2 HS2 HB2 HB3
              go_wp2_with fail
              go_roundg (m - (i + 1))
              case measure => omega
              case rel => exact ⟨i + 1, _, _, _, rfl, by omega, rfl, HNX, by go_num⟩
            · have HCC := hide hcc
              clear hcc
              obtain ⟨wq, hwq⟩ : ∃ wq, wq = (wo.drewN q).drewN nq := ⟨_, rfl⟩
              have HAQ : Hid (CominAt os w wq (.slice (some ⟨gb, goff, none⟩) Q cc) L cv i) := hide (by rw [hwq]; exact ⟨(unhide hat).up, by rw [unhide HQ]; exact (unhide hat).own, (unhide hat).co, below_drewN (below_drewN (unhide hat).bel q) nq⟩)
              have k1q : wq.cell? ⟨b, off + i, none⟩ = some (.int .i64 (z : Int)) := by rw [hwq]; exact k1
              rw [← hwq]
              have HCW := hide (unhide HAQ).co.slices
              have HSL1 : Hid (Slices (cv.take k)) := hide fun c hc => unhide HCW c (List.mem_of_mem_take hc)
              have HSL2 : Hid (Slices (cv.drop k)) := hide fun c hc => unhide HCW c (List.mem_of_mem_drop hc)
              have HTL : Hid (k = (cv.take k).length) := hide (by have := unhide HNL; simp; omega)
              have HDL : Hid (Q - k = (cv.drop k).length) := hide (by rw [unhide HNL]; simp)
              have HRQ : Hid (ReadsC wq (some ⟨gb, goff, none⟩) cc cv) := hide (by rw [hwq]; exact .inr ⟨gb, goff, rfl, hlc, unhide HCC⟩)
              have HSA : Hid (ReadsC wq (some ⟨gb, goff, none⟩) cc (cv.take k)) := hide (by have := (unhide HRQ).sub 0 k (by rw [← unhide HNL]; omega) cc (by have := unhide HNL; omega); simpa using this)
              have hkc : k ≤ cc := by have := unhide HNL; omega
              by_cases hke : k = cc
              · have HSB : Hid (ReadsC wq (some ⟨gb, goff, none⟩) 0 (cv.drop k)) := hide (by
                  have e : cv.drop k = [] := List.drop_eq_nil_of_le (by omega)
                  rw [e]
                  exact .inr ⟨gb, goff, rfl, by simp, fun j hj => by simp at hj⟩)
                have hQk : Q - k = 0 := by have := unhide HNL; omega
                subst hke
                clear hwq
                have HQ1 : Hid (Below wq.heap.size wq (wq.alloc (.cells #[] 48))) := hide ((Below.refl _ _).alloc (Nat.le_refl _) _)
                have HOB := hide (built_coins wq wq.heap.size (Nat.le_refl _))
                go_upto_region 10 with (at_builtin; go_must (refine wpList_append_coins rfl (.tmp 37) (.tmp 40) rfl wq.heap.size (.slice (some ⟨wq.heap.size, 0, none⟩) 0 0) 0 [] (by rfl) (unhide HOB) (some ⟨gb, goff, none⟩) k k (cv.take k) (unhide HTL) (by first | rfl | (simp; done)) ((unhide HSA).stays (unhide HQ1)) (unhide HSL1) (by omega) (by simp) ?_; intro v1 w1 ho1 hg1; have HO1 : Hid (w1.ownsRow wq.heap.size 48 2 v1 k (ccells (cv.take k))) := hide (by simpa using ho1); have HB1 : Hid (Below wq.heap.size wq w1) := hide ((unhide HQ1).trans (grown_below hg1 (by simp) (Nat.le_refl _))); clear ho1 hg1))
                have hb1s := (unhide HB1).size
                have k1w := cell_stays (unhide HB1) k1q
                have HB1B : Hid (Below wq.heap.size wq ((w1.alloc (.cells #[.int .i64 (i : Int)] 3)).alloc (.cells #[.int .i64 (z : Int), .slice (some ⟨w1.heap.size, 0, none⟩) 1 1] 48))) := hide (((unhide HB1).alloc hb1s _).alloc (by simp; omega) _)
                have HCO : Hid (ReadsC ((w1.alloc (.cells #[.int .i64 (i : Int)] 3)).alloc (.cells #[.int .i64 (z : Int), .slice (some ⟨w1.heap.size, 0, none⟩) 1 1] 48)) (some ⟨w1.heap.size + 1, 0, none⟩) 1 [(z, .slice (some ⟨w1.heap.size, 0, none⟩) 1 1)]) := hide (by have := coin_one (w1.alloc (.cells #[.int .i64 (i : Int)] 3)) z (.slice (some ⟨w1.heap.size, 0, none⟩) 1 1); rw [World.size_alloc] at this; exact this)
                have HS1 : Hid (((w1.alloc (.cells #[.int .i64 (i : Int)] 3)).alloc (.cells #[.int .i64 (z : Int), .slice (some ⟨w1.heap.size, 0, none⟩) 1 1] 48)).heap[w1.heap.size]? = some (.cells #[.int .i64 (i : Int)] 3 (0, 0))) := hide (by rw [Below.heap_alloc _ _ _ (by simp)]; exact heap_alloc_new _ _)
                obtain ⟨sv, hsv⟩ : ∃ sv, sv = Value.slice (some ⟨w1.heap.size, 0, none⟩) 1 1 := ⟨_, rfl⟩
                have HSLO : Hid (Slices [(z, sv)]) := hide fun c hc => by simp at hc; subst hc; exact ⟨_, _, _, hsv⟩
                obtain ⟨av1, cv1, rfl, -, -⟩ := own_coins (unhide HO1)
                go_upto_region 11 with (at_builtin; go_must (refine wpList_append_coins rfl (.tmp 42) (.tmp 50) rfl wq.heap.size (.slice av1 k cv1) k (cv.take k) (by rfl) (((unhide HO1).alloc _).alloc _) (some ⟨w1.heap.size + 1, 0, none⟩) 1 1 [(z, .slice (some ⟨w1.heap.size, 0, none⟩) 1 1)] rfl (by rfl) (unhide HCO) (by rw [← hsv]; exact unhide HSLO) (by omega) (by simp; omega) ?_; intro v2 w2 ho2 hg2; have HO2 := hide ho2; have HG2 := hide hg2; have HS2 := hide (sym_keep (unhide HS1) (((unhide HO1).alloc _).alloc _) hg2); clear ho2 hg2))
                have HB2 : Hid (Below wq.heap.size wq w2) := hide ((unhide HB1B).grown (unhide HG2) (by simp; omega) (fun x e => ((unhide HO1).lt x e).1))
                have hb2s := (unhide HB2).size
                have HSV : Hid (∀ w', w'.heap[w1.heap.size]? = some (.cells #[.int .i64 (i : Int)] 3 (0, 0)) → SymV w' sv [i]) := hide fun w' h => by rw [hsv]; exact sym_at h
                clear HG2
                rw [← hsv] at HO2
                clear hsv HCO HB1B k1w HS1
                obtain ⟨av2, cv2, rfl, -, -⟩ := own_coins (unhide HO2)

                go_upto_region 4 with (at_builtin; go_must (refine wpList_append_coins rfl (.tmp 52) (.tmp 55) rfl wq.heap.size (.slice av2 (k + 1) cv2) (k + 1) (cv.take k ++ [(z, sv)]) (by rfl) (unhide HO2) (some ⟨gb, goff, none⟩) (Q - k) 0 (cv.drop k) (unhide HDL) (by show Value.slice _ 0 0 = _; rw [hQk]) ((unhide HSB).stays (unhide HB2)) (unhide HSL2) (by omega) hb2s ?_; intro v3 w3 ho3 hg3; have HO3 := hide ho3; have HB3 : Hid (Below wq.heap.size wq w3) := hide ((unhide HB2).grown hg3 hb2s (fun x e => ((unhide HO2).lt x e).1)); have HS3 := hide (sym_keep (unhide HS2) (unhide HO2) hg3); clear ho3 hg3))
                have HNX := hide ((unhide HAQ).next (unhide HW) (by omega) (unhide HX) (by rw [← unhide HQ]; exact hk) (unhide HB3) (by have := unhide HO3; rw [unhide HQ] at this; exact this) (unhide HSV w3 (unhide HS3)))
                clear HO3 HS3 HSV HO2 HS2 HB2 HB3
                go_wp2_with fail
                go_roundg (m - (i + 1))
                case measure => omega
                case rel => exact ⟨i + 1, _, _, _, rfl, by omega, rfl, HNX, by go_num⟩
              · have HSB : Hid (ReadsC wq (some ⟨gb, goff + k * 2, none⟩) (cc - k) (cv.drop k)) := hide (by
                  have := (unhide HRQ).sub k (Q - k) (by rw [← unhide HNL]; omega) (cc - k) (by have := unhide HNL; omega)
                  rw [List.take_of_length_le (by have := unhide HNL; simp; omega)] at this
                  exact this)
                have hkl : ¬ cc - k = 0 := by omega
                clear hwq
                have HQ1 : Hid (Below wq.heap.size wq (wq.alloc (.cells #[] 48))) := hide ((Below.refl _ _).alloc (Nat.le_refl _) _)
                have HOB := hide (built_coins wq wq.heap.size (Nat.le_refl _))
                go_upto_region 10 with (at_builtin; go_must (refine wpList_append_coins rfl (.tmp 37) (.tmp 40) rfl wq.heap.size (.slice (some ⟨wq.heap.size, 0, none⟩) 0 0) 0 [] (by rfl) (unhide HOB) (some ⟨gb, goff, none⟩) k cc (cv.take k) (unhide HTL) (by first | rfl | (simp; done)) ((unhide HSA).stays (unhide HQ1)) (unhide HSL1) (by omega) (by simp) ?_; intro v1 w1 ho1 hg1; have HO1 : Hid (w1.ownsRow wq.heap.size 48 2 v1 k (ccells (cv.take k))) := hide (by simpa using ho1); have HB1 : Hid (Below wq.heap.size wq w1) := hide ((unhide HQ1).trans (grown_below hg1 (by simp) (Nat.le_refl _))); clear ho1 hg1))
                have hb1s := (unhide HB1).size
                have k1w := cell_stays (unhide HB1) k1q
                have HB1B : Hid (Below wq.heap.size wq ((w1.alloc (.cells #[.int .i64 (i : Int)] 3)).alloc (.cells #[.int .i64 (z : Int), .slice (some ⟨w1.heap.size, 0, none⟩) 1 1] 48))) := hide (((unhide HB1).alloc hb1s _).alloc (by simp; omega) _)
                have HCO : Hid (ReadsC ((w1.alloc (.cells #[.int .i64 (i : Int)] 3)).alloc (.cells #[.int .i64 (z : Int), .slice (some ⟨w1.heap.size, 0, none⟩) 1 1] 48)) (some ⟨w1.heap.size + 1, 0, none⟩) 1 [(z, .slice (some ⟨w1.heap.size, 0, none⟩) 1 1)]) := hide (by have := coin_one (w1.alloc (.cells #[.int .i64 (i : Int)] 3)) z (.slice (some ⟨w1.heap.size, 0, none⟩) 1 1); rw [World.size_alloc] at this; exact this)
                have HS1 : Hid (((w1.alloc (.cells #[.int .i64 (i : Int)] 3)).alloc (.cells #[.int .i64 (z : Int), .slice (some ⟨w1.heap.size, 0, none⟩) 1 1] 48)).heap[w1.heap.size]? = some (.cells #[.int .i64 (i : Int)] 3 (0, 0))) := hide (by rw [Below.heap_alloc _ _ _ (by simp)]; exact heap_alloc_new _ _)
                obtain ⟨sv, hsv⟩ : ∃ sv, sv = Value.slice (some ⟨w1.heap.size, 0, none⟩) 1 1 := ⟨_, rfl⟩
                have HSLO : Hid (Slices [(z, sv)]) := hide fun c hc => by simp at hc; subst hc; exact ⟨_, _, _, hsv⟩
                obtain ⟨av1, cv1, rfl, -, -⟩ := own_coins (unhide HO1)
                go_upto_region 11 with (at_builtin; go_must (refine wpList_append_coins rfl (.tmp 42) (.tmp 50) rfl wq.heap.size (.slice av1 k cv1) k (cv.take k) (by rfl) (((unhide HO1).alloc _).alloc _) (some ⟨w1.heap.size + 1, 0, none⟩) 1 1 [(z, .slice (some ⟨w1.heap.size, 0, none⟩) 1 1)] rfl (by rfl) (unhide HCO) (by rw [← hsv]; exact unhide HSLO) (by omega) (by simp; omega) ?_; intro v2 w2 ho2 hg2; have HO2 := hide ho2; have HG2 := hide hg2; have HS2 := hide (sym_keep (unhide HS1) (((unhide HO1).alloc _).alloc _) hg2); clear ho2 hg2))
                have HB2 : Hid (Below wq.heap.size wq w2) := hide ((unhide HB1B).grown (unhide HG2) (by simp; omega) (fun x e => ((unhide HO1).lt x e).1))
                have hb2s := (unhide HB2).size
                have HSV : Hid (∀ w', w'.heap[w1.heap.size]? = some (.cells #[.int .i64 (i : Int)] 3 (0, 0)) → SymV w' sv [i]) := hide fun w' h => by rw [hsv]; exact sym_at h
                clear HG2
                rw [← hsv] at HO2
                clear hsv HCO HB1B k1w HS1
                obtain ⟨av2, cv2, rfl, -, -⟩ := own_coins (unhide HO2)

                go_upto_region 4 with (at_builtin; go_must (refine wpList_append_coins rfl (.tmp 52) (.tmp 55) rfl wq.heap.size (.slice av2 (k + 1) cv2) (k + 1) (cv.take k ++ [(z, sv)]) (by rfl) (unhide HO2) (some ⟨gb, goff + k * 2, none⟩) (Q - k) (cc - k) (cv.drop k) (unhide HDL) (by first | rfl | (simp; done)) ((unhide HSB).stays (unhide HB2)) (unhide HSL2) (by omega) hb2s ?_; intro v3 w3 ho3 hg3; have HO3 := hide ho3; have HB3 : Hid (Below wq.heap.size wq w3) := hide ((unhide HB2).grown hg3 hb2s (fun x e => ((unhide HO2).lt x e).1)); have HS3 := hide (sym_keep (unhide HS2) (unhide HO2) hg3); clear ho3 hg3))
                have HNX := hide ((unhide HAQ).next (unhide HW) (by omega) (unhide HX) (by rw [← unhide HQ]; exact hk) (unhide HB3) (by have := unhide HO3; rw [unhide HQ] at this; exact this) (unhide HSV w3 (unhide HS3)))
                clear HO3 HS3 HSV HO2 HS2 HB2 HB3
                go_wp2_with fail
                go_roundg (m - (i + 1))
                case measure => omega
                case rel => exact ⟨i + 1, _, _, _, rfl, by omega, rfl, HNX, by go_num⟩
    · obtain rfl : i = m := by omega
      have HEND : Hid (∃ v' l cv, Ending.returned c0 = .returned v' ∧ IsOrder os l ∧ wr.ownsRow w.heap.size 48 2 v' l.length (ccells cv) ∧ CoinsR wr cv (Merge.baseOf (wt os) l) ∧ Below w.heap.size w wr) := hide ⟨c0, L, cv, rfl, ⟨(unhide hat).up.pw, fun j => by rw [(unhide hat).up.mem, unhide HM]⟩, (unhide hat).own, (unhide hat).co, (unhide hat).bel⟩
      clear hat
      go_wp2_with fail
      go_ret
      exact unhide HEND

end Go.Proofs.Ytdpbjeajipggbaa
