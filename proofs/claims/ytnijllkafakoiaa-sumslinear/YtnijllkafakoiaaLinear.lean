/- The law SumsLinear, walked. -/
import Derived.Test.YtnijllkafakoiaaGo
import Derived.OwnWalk
import Derived.Laws.Cover1
namespace Go.Proofs.Ytnijllkafakoiaa
open Go.RowKit

section
variable {P : Program} {md : Region.Mode} {ops : Array Oper} {Q : Exit → Act → World → Prop} {S : World → Prop}

/-- An operation that alone may come up now, and yields. -/
theorem held_value {o : Oper} {v : Value} {fuel : Nat} {listed : Array Bool} {l : List Value} {df : List Deferred} {w w' : World} (i d : Nat) (hr : Region.ready md ops listed = [i]) (hi : ops[i]? = some o) (hd : o.dst = some d)
    (hw : Region.wanted o (yielded ops l.toArray) = true) (hrun : (execOp (Act.eval ⟨l.toArray, df⟩) o).run P w = .ok (.value v) w') (hS : S w')
    (h : wpAnyH P md ops Q S fuel (listed.setIfInBounds i true) ⟨(l.set d v).toArray, df⟩ w') : wpAnyH P md ops Q S (fuel + 1) listed ⟨l.toArray, df⟩ w := by
  refine wpAnyH_ready hr (by simp) (AllReadyH.cons hi (fun K hK => ?_) AllReadyH.nil)
  rw [if_pos hw]
  unfold Oper.wp
  rw [hrun, Oper.upon_value]
  have e : Act.put (⟨l.toArray, df⟩ : Act) o.dst v = ⟨(l.set d v).toArray, df⟩ := by rw [hd]; simp [Act.put]
  show K (Act.put ⟨l.toArray, df⟩ o.dst v) w'
  rw [e]
  exact hK.out _ _ hS (fun _ => h)

end

/-- a row of bytes that is whole -/
def RowAt (w : World) (g : Nat) (xs : List Nat) : Prop := w.heap[g]? = some (.cells (xs.map bv).toArray 5 (0, 0))

theorem RowAt.set {w : World} {g : Nat} {xs : List Nat} (h : RowAt w g xs) (i y : Nat) : RowAt (w.setCell ⟨g, i, none⟩ (.int .u8 (y : Int))) g (xs.set i y) := by
  have := heap_setCell_same w g i _ 5 (.int .u8 (y : Int)) h
  unfold RowAt
  rw [this]
  congr 2
  apply Array.toList_inj.1
  simp [bv, List.map_set]

theorem RowAt.cell {w : World} {g : Nat} {xs : List Nat} (h : RowAt w g xs) (i : Nat) (hi : i < xs.length) : (∃ y : Int, w.cell? ⟨g, i, none⟩ = some (.int .u8 y)) ∧ w.frozen? ⟨g, i, none⟩ = false :=
  (RowB.block h).cell i hi

theorem RowAt.reads {w : World} {g : Nat} {xs : List Nat} (h : RowAt w g xs) : Reads w (.slice (some ⟨g, 0, none⟩) xs.length xs.length) xs := by
  refine ⟨_, _, rfl, fun _ => ⟨_, rfl, fun j u hj => ?_⟩⟩
  have ea : (⟨g, 0, none⟩ : Addr).add j = ⟨g, j, none⟩ := by by_cases hq : j = 0 <;> simp [Addr.add, hq]
  rw [ea]
  simp only [World.cell?, show w.heap[g]? = _ from h]
  simpa using hj

theorem made_row (w : World) (n : Nat) : RowAt (w.alloc (.cells (madeCells #[.int .u8 0] n) 5)) w.heap.size (List.replicate n 0) := by
  unfold RowAt
  rw [heap_alloc_last]
  congr 2
  apply Array.toList_inj.1
  rw [toList_madeCells_one]
  simp [bv]

theorem make_run (w : World) (n : Nat) (hn : n ≤ 140737488355328) : (Instr.makeSlice 24 (.int .i64 (n : Int)) (.int .i64 (n : Int))).run Try.prog w = .ok (.slice (some ⟨w.heap.size, 0, none⟩) n n) (w.alloc (.cells (madeCells #[.int .u8 0] n) 5)) := by
  obtain ⟨i0, hi, hz0, hz1, hz2⟩ := info_parts info5
  have := run_make (P := Try.prog) w 24 5 i0 (.int .u8 0) Try.underlying24 hi hz0 .i64 .i64 (n : Int) (n : Int) (by omega) (by omega) (by rw [hz2]; omega) (by omega)
  rw [hz1] at this
  simpa [Value.cells] using this

/-- three texts, laid over one another as far as they go -/
def overN (za zb zc : List Nat) (i : Nat) : Nat := za.getD i 0 ^^^ zb.getD i 0 ^^^ zc.getD i 0

theorem reads_take {w : World} {a : Option Addr} {cap : Nat} {zs : List Nat} (h : Reads w (.slice a zs.length cap) zs) (n : Nat) (hn : n ≤ zs.length) : Reads w (.slice a n cap) (zs.take n) := by
  obtain ⟨a', cap', e, hc⟩ := h
  obtain ⟨rfl, rfl⟩ : a' = a ∧ cap' = cap := by injection e with e1 e2 e3; exact ⟨e1.symm, e3.symm⟩
  refine ⟨a', cap', by rw [List.length_take, Nat.min_eq_left hn], fun h0 => ?_⟩
  obtain ⟨ad, ha, h2⟩ := hc (by rw [List.length_take] at h0; omega)
  refine ⟨ad, ha, fun j u hj => h2 j u ?_⟩
  rw [List.map_take, List.getElem?_take] at hj
  split at hj
  · exact hj
  · cases hj

theorem over_all (za zb zc xs : List Nat) (n : Nat) (ha : n ≤ za.length) (hb : n ≤ zb.length) (hc : n ≤ zc.length) (hx : xs.length = n) (h : ∀ j, j < n → xs.getD j 0 = overN za zb zc j) :
    xs = over (over (za.take n) (zb.take n)) (zc.take n) := by
  apply List.ext_getElem
  · simp [over, hx]; omega
  · intro j h1 h2
    have hj : j < n := by omega
    have := h j hj
    simp only [overN, List.getD_eq_getElem?_getD] at this
    rw [List.getElem?_eq_getElem h1, List.getElem?_eq_getElem (show j < za.length by omega), List.getElem?_eq_getElem (show j < zb.length by omega), List.getElem?_eq_getElem (show j < zc.length by omega)] at this
    simp only [Option.getD_some] at this
    rw [this]
    simp [over]

set_option maxRecDepth 100000 in
set_option maxHeartbeats 4000000 in
theorem linear_walk (aa ba ca : Option Addr) (acap bcap ccap : Nat) (za zb zc : List Nat) (w : World)
    (hra : Reads w (.slice aa za.length acap) za) (hrb : Reads w (.slice ba zb.length bcap) zb) (hrc : Reads w (.slice ca zc.length ccap) zc)
    (hsa : ∀ z ∈ za, z < 256) (hsb : ∀ z ∈ zb, z < 256) (hsc : ∀ z ∈ zc, z < 256) (hla : za.length ≤ 140737488355328)
    (hca : za.length ≤ acap) (hcb : zb.length ≤ bcap) (hcc : zc.length ≤ ccap) :
    Calls Try.prog 6 #[.slice aa za.length acap, .slice ba zb.length bcap, .slice ca zc.length ccap] w fun e w' => e = .returned (.bool true) ∧ Below w.heap.size w w' := by
  obtain ⟨n, hn⟩ : ∃ n, n = min (min za.length zb.length) zc.length := ⟨_, rfl⟩
  have hna : n ≤ za.length := by omega
  have hnb : n ≤ zb.length := by omega
  have hnc : n ≤ zc.length := by omega
  have HSPA : Hid _ := hide hra.spot
  have HSPB : Hid _ := hide hrb.spot
  have HSPC : Hid _ := hide hrc.spot
  have HRA := hide (reads_take hra n hna)
  have HRB := hide (reads_take hrb n hnb)
  have HRC := hide (reads_take hrc n hnc)
  have HSA := hide hsa
  have HSB := hide hsb
  have HSC := hide hsc
  have HMIN := hide hn
  have HNN : Hid (n ≤ za.length ∧ n ≤ zb.length ∧ n ≤ zc.length ∧ n ≤ 140737488355328 ∧ n ≤ acap ∧ n ≤ bcap ∧ n ≤ ccap) := hide (by omega)
  clear hra hrb hrc hsa hsb hsc hla hca hcb hcc hn hna hnb hnc
  obtain ⟨la, hla⟩ : ∃ la, la = za.length := ⟨_, rfl⟩
  obtain ⟨lb, hlb⟩ : ∃ lb, lb = zb.length := ⟨_, rfl⟩
  obtain ⟨lc, hlc⟩ : ∃ lc, lc = zc.length := ⟨_, rfl⟩
  rw [← hla] at HMIN HNN ⊢
  rw [← hlb] at HMIN HNN ⊢
  rw [← hlc] at HMIN HNN ⊢
  have HLA := hide hla
  have HLB := hide hlb
  have HLC := hide hlc
  clear hla hlb hlc
  have hmin : (if (lc : Int) < (if (lb : Int) < (la : Int) then (lb : Int) else (la : Int)) then (lc : Int) else (if (lb : Int) < (la : Int) then (lb : Int) else (la : Int))) = (n : Int) := by
    have := unhide HMIN
    split <;> split <;> omega
  have hmin3 : ∀ w, (Builtin.min_ #[3, 3, 3] 3 #[.int .i64 (la : Int), .int .i64 (lb : Int), .int .i64 (lc : Int)]).run Try.prog w = .ok (.int .i64 (n : Int)) w := fun w => by rw [run_min_int3, hmin]
  clear hmin
  have hmk := (make_run w n (unhide HNN).2.2.2.1)
  go_enter Try.func6, Try.ntmps6
  go_wp2_with fail
  have HROW := hide (made_row w n)
  have HBE : Hid (Below w.heap.size w (w.alloc (.cells (madeCells #[.int .u8 0] n) 5))) := hide ((Below.refl _ _).alloc (Nat.le_refl _) _)
  clear hmk hmin3
  generalize w.alloc (.cells (madeCells #[.int .u8 0] n) 5) = w0 at *
  obtain ⟨g, hg⟩ : ∃ g, g = w.heap.size := ⟨_, rfl⟩
  rw [← hg] at HROW ⊢
  have HG := hide hg
  clear hg
  go_loopg [9] n (fun gk c ws => ∃ (i : Nat) (xs : List Nat), gk = n - i ∧ i ≤ n ∧ c = .int .i64 (i : Int) ∧ xs.length = n ∧ RowAt ws g xs ∧ Below w.heap.size w ws ∧ (∀ j, j < i → xs.getD j 0 = overN za zb zc j))
  case atStart => exact ⟨0, _, by omega, by omega, rfl, by simp, unhide HROW, unhide HBE, by omega⟩
  case round =>
    obtain ⟨i, xs, rfl, hi, rfl, hxl, hrow, hbel, hxs⟩ := hrel
    obtain ⟨n1, n2, n3, n4, n5, n6, n7⟩ := unhide HNN
    by_cases hlt : i < n
    · have e1 := unhide HLA
      have e2 := unhide HLB
      have e3 := unhide HLC
      obtain ⟨a1, c1, q1, s1⟩ := unhide HSPA
      obtain ⟨a2, c2, q2, s2⟩ := unhide HSPB
      obtain ⟨a3, c3, q3, s3⟩ := unhide HSPC
      obtain ⟨rfl, rfl⟩ : aa = a1 ∧ acap = c1 := by injection q1 with e1 e2 e3; exact ⟨e1, e3⟩
      obtain ⟨rfl, rfl⟩ : ba = a2 ∧ bcap = c2 := by injection q2 with e1 e2 e3; exact ⟨e1, e3⟩
      obtain ⟨rfl, rfl⟩ : ca = a3 ∧ ccap = c3 := by injection q3 with e1 e2 e3; exact ⟨e1, e3⟩
      obtain ⟨b1, o1, rfl, t1⟩ := s1 (by omega)
      obtain ⟨b2, o2, rfl, t2⟩ := s2 (by omega)
      obtain ⟨b3, o3, rfl, t3⟩ := s3 (by omega)
      obtain ⟨x, hx⟩ : ∃ x, x = za.getD i 0 := ⟨_, rfl⟩
      obtain ⟨y, hy⟩ : ∃ y, y = zb.getD i 0 := ⟨_, rfl⟩
      obtain ⟨z, hz⟩ : ∃ z, z = zc.getD i 0 := ⟨_, rfl⟩
      have k1 := cell_stays hbel (t1 i (by omega))
      have k2 := cell_stays hbel (t2 i (by omega))
      have k3 := cell_stays hbel (t3 i (by omega))
      rw [← hx] at k1
      rw [← hy] at k2
      rw [← hz] at k3
      have x8 : x < 256 := by rw [hx]; exact unhide HSA _ (getD_mem _ _ (by omega))
      have y8 : y < 256 := by rw [hy]; exact unhide HSB _ (getD_mem _ _ (by omega))
      have z8 : z < 256 := by rw [hz]; exact unhide HSC _ (getD_mem _ _ (by omega))
      obtain ⟨u, hu⟩ : ∃ u, x ^^^ y = u := ⟨_, rfl⟩
      obtain ⟨v, hv⟩ : ∃ v, u ^^^ z = v := ⟨_, rfl⟩
      have u8 : u < 256 := by rw [← hu]; exact Nat.xor_lt_two_pow (n := 8) (by omega) (by omega)
      have m1 : bits .xor .u8 (x : Int) (y : Int) = (u : Int) := by rw [u8_xor_nat x y x8 y8, hu]
      have m2 : bits .xor .u8 (u : Int) (z : Int) = (v : Int) := by rw [u8_xor_nat u z u8 z8, hv]
      have HV : Hid (v = overN za zb zc i) := hide (by rw [overN, ← hx, ← hy, ← hz, hu, hv])
      obtain ⟨⟨old, k4⟩, k5⟩ := hrow.cell i (by omega)
      have i1 : (i : Int) < (la : Int) := by omega
      have i2 : (i : Int) < (lb : Int) := by omega
      have i3 : (i : Int) < (lc : Int) := by omega
      have i4 : (i : Int) < (n : Int) := by omega
      have h64 : wrap64 ((i : Int) + 1) = ((i + 1 : Nat) : Int) := by unfold wrap64; omega
      have HROWI := hide hrow
      have HBELI := hide hbel
      have HXS := hide hxs
      have HXL := hide hxl
      have HLT := hide hlt
      clear e1 e2 e3 q1 q2 q3 s1 s2 s3 t1 t2 t3 hx hy hz hu hv x8 y8 z8 u8 hrow hbel hxs hxl hlt hi n1 n2 n3 n4 n5 n6 n7
      go_wp2_with fail
      refine wp_tail 16 (by kernel_rfl) (by kernel_rfl) ?_
      simp only [List.take_succ_cons, List.take_zero, List.drop_succ_cons, List.drop_zero]
      repeat still_step
      try refine wpStill_nil ?_
      go_wp2_with fail
      go_roundg (n - (i + 1))
      case measure => have := unhide HLT; omega
      case rel =>
        refine ⟨i + 1, xs.set i v, rfl, unhide HLT, by rw [h64], by simpa using unhide HXL, (unhide HROWI).set _ _, ((unhide HBELI).setCell (p := ⟨g, i, none⟩) (by have := unhide HG; show w.heap.size ≤ g; omega) _).drew, fun j hj => ?_⟩
        by_cases e : j = i
        · subst e
          have hl : j < xs.length := by rw [unhide HXL]; exact unhide HLT
          rw [← unhide HV]
          simp [hl]
        · rw [List.getD_eq_getElem?_getD, List.getElem?_set_ne (by omega), ← List.getD_eq_getElem?_getD]
          exact unhide HXS j (by omega)
    · obtain rfl : i = n := by omega
      have e1 := unhide HLA
      have e2 := unhide HLB
      have e3 := unhide HLC
      have hxx := over_all za zb zc xs i (by omega) (by omega) (by omega) hxl hxs
      have HRX : Hid (Reads wr (.slice (some ⟨g, 0, none⟩) i i) xs) := hide (by have := hrow.reads; rw [hxl] at this; exact this)
      have HBW := hide hbel
      have i1 : (i : Int) ≤ (acap : Int) := by omega
      have i2 : (i : Int) ≤ (bcap : Int) := by omega
      have i3 : (i : Int) ≤ (ccap : Int) := by omega
      have lp : ∀ r, r < 4294967296 → lstep pl r < 4294967296 := fun r hr => lstep_lt (w := 32) (by decide) hr
      have lh : ∀ r, r < 4294967296 → hstep ph r < 4294967296 := fun r _ => hstep_lt (by decide)
      have lw : ∀ r, r < 18446744073709551616 → lstep pw r < 18446744073709551616 := fun r hr => lstep_lt (w := 64) (by decide) hr
      have sA : ∀ z ∈ za.take i, z < 256 := fun z hz => unhide HSA z (List.mem_of_mem_take hz)
      have sB : ∀ z ∈ zb.take i, z < 256 := fun z hz => unhide HSB z (List.mem_of_mem_take hz)
      have sC : ∀ z ∈ zc.take i, z < 256 := fun z hz => unhide HSC z (List.mem_of_mem_take hz)
      have sX : ∀ z ∈ xs, z < 256 := fun z hz => by
        obtain ⟨j, hj, rfl⟩ := List.getElem_of_mem hz
        have h := hxs j (by omega)
        rw [List.getD_eq_getElem?_getD, List.getElem?_eq_getElem hj, Option.getD_some] at h
        rw [h, overN]
        exact Nat.xor_lt_two_pow (n := 8) (Nat.xor_lt_two_pow (n := 8) (unhide HSA _ (getD_mem _ _ (by omega))) (unhide HSB _ (getD_mem _ _ (by omega)))) (unhide HSC _ (getD_mem _ _ (by omega)))
      have lA : (za.take i).length ≤ 140737488355328 := by rw [List.length_take]; omega
      have lB : (zb.take i).length ≤ 140737488355328 := by rw [List.length_take]; omega
      have lC : (zc.take i).length ≤ 140737488355328 := by rw [List.length_take]; omega
      have lX : xs.length ≤ 140737488355328 := by omega
      obtain ⟨CX, eCX⟩ : ∃ x, x = sum32 (lstep pl) 1 0 xs := ⟨_, rfl⟩
      have HCCX : Hid (∀ w', Reads w' (.slice (some ⟨g, 0, none⟩) i i) xs → Calls Try.prog 8 #[.int .u32 0, (.slice (some ⟨g, 0, none⟩) i i)] w' fun e w'' => e = .returned (.int .u32 (CX : Int)) ∧ Below w'.heap.size w' w'') := hide fun w' h => by rw [eCX]; exact crc32_walk 0 _ xs w' (by omega) h sX lX
      obtain ⟨CA, eCA⟩ : ∃ x, x = sum32 (lstep pl) 1 0 (za.take i) := ⟨_, rfl⟩
      have HCCA : Hid (∀ w', Reads w' (.slice aa i acap) (za.take i) → Calls Try.prog 8 #[.int .u32 0, (.slice aa i acap)] w' fun e w'' => e = .returned (.int .u32 (CA : Int)) ∧ Below w'.heap.size w' w'') := hide fun w' h => by rw [eCA]; exact crc32_walk 0 _ (za.take i) w' (by omega) h sA lA
      obtain ⟨CB, eCB⟩ : ∃ x, x = sum32 (lstep pl) 1 0 (zb.take i) := ⟨_, rfl⟩
      have HCCB : Hid (∀ w', Reads w' (.slice ba i bcap) (zb.take i) → Calls Try.prog 8 #[.int .u32 0, (.slice ba i bcap)] w' fun e w'' => e = .returned (.int .u32 (CB : Int)) ∧ Below w'.heap.size w' w'') := hide fun w' h => by rw [eCB]; exact crc32_walk 0 _ (zb.take i) w' (by omega) h sB lB
      obtain ⟨CC, eCC⟩ : ∃ x, x = sum32 (lstep pl) 1 0 (zc.take i) := ⟨_, rfl⟩
      have HCCC : Hid (∀ w', Reads w' (.slice ca i ccap) (zc.take i) → Calls Try.prog 8 #[.int .u32 0, (.slice ca i ccap)] w' fun e w'' => e = .returned (.int .u32 (CC : Int)) ∧ Below w'.heap.size w' w'') := hide fun w' h => by rw [eCC]; exact crc32_walk 0 _ (zc.take i) w' (by omega) h sC lC
      have bCA : CA < 4294967296 := by rw [eCA]; exact sum32_lt (by omega) lp 0 (by omega) _ sA
      have bCB : CB < 4294967296 := by rw [eCB]; exact sum32_lt (by omega) lp 0 (by omega) _ sB
      have bCC : CC < 4294967296 := by rw [eCC]; exact sum32_lt (by omega) lp 0 (by omega) _ sC
      have oC : CA ^^^ CB ^^^ CC = CX := by
        rw [eCA, eCB, eCC, eCX, hxx]
        exact (sum32_over (lstep_lin pl) 0 _ _ _ (by simp only [List.length_take]; omega) (by simp only [List.length_take]; omega)).symm
      obtain ⟨CD, eCD⟩ : ∃ x, CA ^^^ CB = x := ⟨_, rfl⟩
      have mC1 := xor_32 bCA bCB eCD
      have mC2 := xor_32 (a := CD) (b := CC) (c := CX) (by rw [← eCD]; exact Nat.xor_lt_two_pow (n := 32) bCA bCB) bCC (by rw [← eCD]; exact oC)
      obtain ⟨HX, eHX⟩ : ∃ x, x = sum32 (hstep ph) 16777216 0 xs := ⟨_, rfl⟩
      have HCHX : Hid (∀ w', Reads w' (.slice (some ⟨g, 0, none⟩) i i) xs → Calls Try.prog 11 #[.int .u32 0, (.slice (some ⟨g, 0, none⟩) i i)] w' fun e w'' => e = .returned (.int .u32 (HX : Int)) ∧ Below w'.heap.size w' w'') := hide fun w' h => by rw [eHX]; exact high_walk 0 _ xs w' (by omega) h sX lX
      obtain ⟨HA, eHA⟩ : ∃ x, x = sum32 (hstep ph) 16777216 0 (za.take i) := ⟨_, rfl⟩
      have HCHA : Hid (∀ w', Reads w' (.slice aa i acap) (za.take i) → Calls Try.prog 11 #[.int .u32 0, (.slice aa i acap)] w' fun e w'' => e = .returned (.int .u32 (HA : Int)) ∧ Below w'.heap.size w' w'') := hide fun w' h => by rw [eHA]; exact high_walk 0 _ (za.take i) w' (by omega) h sA lA
      obtain ⟨HB, eHB⟩ : ∃ x, x = sum32 (hstep ph) 16777216 0 (zb.take i) := ⟨_, rfl⟩
      have HCHB : Hid (∀ w', Reads w' (.slice ba i bcap) (zb.take i) → Calls Try.prog 11 #[.int .u32 0, (.slice ba i bcap)] w' fun e w'' => e = .returned (.int .u32 (HB : Int)) ∧ Below w'.heap.size w' w'') := hide fun w' h => by rw [eHB]; exact high_walk 0 _ (zb.take i) w' (by omega) h sB lB
      obtain ⟨HC, eHC⟩ : ∃ x, x = sum32 (hstep ph) 16777216 0 (zc.take i) := ⟨_, rfl⟩
      have HCHC : Hid (∀ w', Reads w' (.slice ca i ccap) (zc.take i) → Calls Try.prog 11 #[.int .u32 0, (.slice ca i ccap)] w' fun e w'' => e = .returned (.int .u32 (HC : Int)) ∧ Below w'.heap.size w' w'') := hide fun w' h => by rw [eHC]; exact high_walk 0 _ (zc.take i) w' (by omega) h sC lC
      have bHA : HA < 4294967296 := by rw [eHA]; exact sum32_lt (by omega) lh 0 (by omega) _ sA
      have bHB : HB < 4294967296 := by rw [eHB]; exact sum32_lt (by omega) lh 0 (by omega) _ sB
      have bHC : HC < 4294967296 := by rw [eHC]; exact sum32_lt (by omega) lh 0 (by omega) _ sC
      have oH : HA ^^^ HB ^^^ HC = HX := by
        rw [eHA, eHB, eHC, eHX, hxx]
        exact (sum32_over (hstep_lin ph) 24 _ _ _ (by simp only [List.length_take]; omega) (by simp only [List.length_take]; omega)).symm
      obtain ⟨HD, eHD⟩ : ∃ x, HA ^^^ HB = x := ⟨_, rfl⟩
      have mH1 := xor_32 bHA bHB eHD
      have mH2 := xor_32 (a := HD) (b := HC) (c := HX) (by rw [← eHD]; exact Nat.xor_lt_two_pow (n := 32) bHA bHB) bHC (by rw [← eHD]; exact oH)
      obtain ⟨WX, eWX⟩ : ∃ x, x = sum64 (lstep pw) 1 0 xs := ⟨_, rfl⟩
      have HCWX : Hid (∀ w', Reads w' (.slice (some ⟨g, 0, none⟩) i i) xs → Calls Try.prog 13 #[.int .u64 0, (.slice (some ⟨g, 0, none⟩) i i)] w' fun e w'' => e = .returned (.int .u64 (WX : Int)) ∧ Below w'.heap.size w' w'') := hide fun w' h => by rw [eWX]; exact crc64_walk 0 _ xs w' (by omega) h sX lX
      obtain ⟨WA, eWA⟩ : ∃ x, x = sum64 (lstep pw) 1 0 (za.take i) := ⟨_, rfl⟩
      have HCWA : Hid (∀ w', Reads w' (.slice aa i acap) (za.take i) → Calls Try.prog 13 #[.int .u64 0, (.slice aa i acap)] w' fun e w'' => e = .returned (.int .u64 (WA : Int)) ∧ Below w'.heap.size w' w'') := hide fun w' h => by rw [eWA]; exact crc64_walk 0 _ (za.take i) w' (by omega) h sA lA
      obtain ⟨WB, eWB⟩ : ∃ x, x = sum64 (lstep pw) 1 0 (zb.take i) := ⟨_, rfl⟩
      have HCWB : Hid (∀ w', Reads w' (.slice ba i bcap) (zb.take i) → Calls Try.prog 13 #[.int .u64 0, (.slice ba i bcap)] w' fun e w'' => e = .returned (.int .u64 (WB : Int)) ∧ Below w'.heap.size w' w'') := hide fun w' h => by rw [eWB]; exact crc64_walk 0 _ (zb.take i) w' (by omega) h sB lB
      obtain ⟨WC, eWC⟩ : ∃ x, x = sum64 (lstep pw) 1 0 (zc.take i) := ⟨_, rfl⟩
      have HCWC : Hid (∀ w', Reads w' (.slice ca i ccap) (zc.take i) → Calls Try.prog 13 #[.int .u64 0, (.slice ca i ccap)] w' fun e w'' => e = .returned (.int .u64 (WC : Int)) ∧ Below w'.heap.size w' w'') := hide fun w' h => by rw [eWC]; exact crc64_walk 0 _ (zc.take i) w' (by omega) h sC lC
      have bWA : WA < 18446744073709551616 := by rw [eWA]; exact sum64_lt (by omega) lw 0 (by omega) _ sA
      have bWB : WB < 18446744073709551616 := by rw [eWB]; exact sum64_lt (by omega) lw 0 (by omega) _ sB
      have bWC : WC < 18446744073709551616 := by rw [eWC]; exact sum64_lt (by omega) lw 0 (by omega) _ sC
      have oW : WA ^^^ WB ^^^ WC = WX := by
        rw [eWA, eWB, eWC, eWX, hxx]
        exact (sum64_over (lstep_lin pw) 0 _ _ _ (by simp only [List.length_take]; omega) (by simp only [List.length_take]; omega)).symm
      obtain ⟨WD, eWD⟩ : ∃ x, WA ^^^ WB = x := ⟨_, rfl⟩
      have mW1 := xor_64 bWA bWB eWD
      have mW2 := xor_64 (a := WD) (b := WC) (c := WX) (by rw [← eWD]; exact Nat.xor_lt_two_pow (n := 64) bWA bWB) bWC (by rw [← eWD]; exact oW)
      have HX0 : Hid (Below w.heap.size w wr.drew) := hide (unhide HBW).drew
      have HY0 : Hid (Below wr.heap.size wr wr.drew) := hide (Below.refl wr.heap.size wr).drew
      clear eCX eCA eCB eCC eCD eHX eHA eHB eHC eHD eWX eWA eWB eWC eWD bCA bCB bCC bHA bHB bHC bWA bWB bWC oC oH oW sA sB sC sX lA lB lC lX lp lh lw hxx hxl
      clear hrow hbel hxs hlt hi n1 n2 n3 n4 n5 n6 n7 e1 e2 e3
      go_upto_region 7 with fail
      refine wp_region_noPanic ?_
      refine wp_region_held_drew (S := fun _ => True) (by kernel_rfl) True.intro (fun hHeld => ?_)
      refine held_take 0 41 rfl rfl (by kernel_rfl) (by kernel_rfl) (by kernel_rfl) (by rfl) hHeld noPanic_panic (v := ?_) (fun x hSx => ?_) ?_
      rotate_left 1
      · go_simp <;> with_reducible rfl
      simp only [List.set_cons_zero, List.set_cons_succ]
      refine held_take 2 43 rfl rfl (by kernel_rfl) (by kernel_rfl) (by kernel_rfl) (by rfl) hHeld noPanic_panic (v := ?_) (fun x hSx => ?_) ?_
      rotate_left 1
      · go_simp <;> with_reducible rfl
      simp only [List.set_cons_zero, List.set_cons_succ]
      refine held_take 3 44 rfl rfl (by kernel_rfl) (by kernel_rfl) (by kernel_rfl) (by rfl) hHeld noPanic_panic (v := ?_) (fun x hSx => ?_) ?_
      rotate_left 1
      · go_simp <;> with_reducible rfl
      simp only [List.set_cons_zero, List.set_cons_succ]
      refine held_take 6 47 rfl rfl (by kernel_rfl) (by kernel_rfl) (by kernel_rfl) (by rfl) hHeld noPanic_panic (v := ?_) (fun x hSx => ?_) ?_
      rotate_left 1
      · go_simp <;> with_reducible rfl
      simp only [List.set_cons_zero, List.set_cons_succ]
      refine held_take 7 48 rfl rfl (by kernel_rfl) (by kernel_rfl) (by kernel_rfl) (by rfl) hHeld noPanic_panic (v := ?_) (fun x hSx => ?_) ?_
      rotate_left 1
      · go_simp <;> with_reducible rfl
      simp only [List.set_cons_zero, List.set_cons_succ]
      refine held_take 11 52 rfl rfl (by kernel_rfl) (by kernel_rfl) (by kernel_rfl) (by rfl) hHeld noPanic_panic (v := ?_) (fun x hSx => ?_) ?_
      rotate_left 1
      · go_simp <;> with_reducible rfl
      simp only [List.set_cons_zero, List.set_cons_succ]
      refine held_take 12 53 rfl rfl (by kernel_rfl) (by kernel_rfl) (by kernel_rfl) (by rfl) hHeld noPanic_panic (v := ?_) (fun x hSx => ?_) ?_
      rotate_left 1
      · go_simp <;> with_reducible rfl
      simp only [List.set_cons_zero, List.set_cons_succ]
      refine held_take 4 45 rfl rfl (by kernel_rfl) (by kernel_rfl) (by kernel_rfl) (by rfl) hHeld noPanic_panic (v := ?_) (fun x hSx => ?_) ?_
      rotate_left 1
      · go_simp <;> with_reducible rfl
      simp only [List.set_cons_zero, List.set_cons_succ]
      refine held_take 8 49 rfl rfl (by kernel_rfl) (by kernel_rfl) (by kernel_rfl) (by rfl) hHeld noPanic_panic (v := ?_) (fun x hSx => ?_) ?_
      rotate_left 1
      · go_simp <;> with_reducible rfl
      simp only [List.set_cons_zero, List.set_cons_succ]
      refine held_take 13 54 rfl rfl (by kernel_rfl) (by kernel_rfl) (by kernel_rfl) (by rfl) hHeld noPanic_panic (v := ?_) (fun x hSx => ?_) ?_
      rotate_left 1
      · go_simp <;> with_reducible rfl
      simp only [List.set_cons_zero, List.set_cons_succ]
      refine held_enter 1 42 (by kernel_rfl) rfl rfl (by rfl) (by go_simp <;> exact ⟨rfl, rfl⟩) ?_
      refine (unhide HCCX _ ((unhide HRX).stays (unhide HY0))).mono ?_
      rintro e w1 ⟨rfl, hb⟩
      have HX1 : Hid (Below w.heap.size w w1) := hide ((unhide HX0).trans (hb.mono (unhide HX0).size))
      have HY1 : Hid (Below wr.heap.size wr w1) := hide ((unhide HY0).trans (hb.mono (unhide HY0).size))
      clear hb
      refine ⟨_, rfl, True.intro, ?_⟩
      simp only [List.set_cons_zero, List.set_cons_succ]
      refine held_enter 5 46 (by kernel_rfl) rfl rfl (by rfl) (by go_simp <;> exact ⟨rfl, rfl⟩) ?_
      refine (unhide HCCA _ ((unhide HRA).stays (unhide HX1))).mono ?_
      rintro e w2 ⟨rfl, hb⟩
      have HX2 : Hid (Below w.heap.size w w2) := hide ((unhide HX1).trans (hb.mono (unhide HX1).size))
      have HY2 : Hid (Below wr.heap.size wr w2) := hide ((unhide HY1).trans (hb.mono (unhide HY1).size))
      clear hb
      refine ⟨_, rfl, True.intro, ?_⟩
      simp only [List.set_cons_zero, List.set_cons_succ]
      refine held_enter 9 50 (by kernel_rfl) rfl rfl (by rfl) (by go_simp <;> exact ⟨rfl, rfl⟩) ?_
      refine (unhide HCCB _ ((unhide HRB).stays (unhide HX2))).mono ?_
      rintro e w3 ⟨rfl, hb⟩
      have HX3 : Hid (Below w.heap.size w w3) := hide ((unhide HX2).trans (hb.mono (unhide HX2).size))
      have HY3 : Hid (Below wr.heap.size wr w3) := hide ((unhide HY2).trans (hb.mono (unhide HY2).size))
      clear hb
      refine ⟨_, rfl, True.intro, ?_⟩
      simp only [List.set_cons_zero, List.set_cons_succ]
      refine held_take 10 51 rfl rfl (by kernel_rfl) (by kernel_rfl) (by kernel_rfl) (by rfl) hHeld noPanic_panic (v := ?_) (fun x hSx => ?_) ?_
      rotate_left 1
      · go_simp <;> (try rw [mC1]) <;> with_reducible rfl
      simp only [List.set_cons_zero, List.set_cons_succ]
      refine held_enter 14 55 (by kernel_rfl) rfl rfl (by rfl) (by go_simp <;> exact ⟨rfl, rfl⟩) ?_
      refine (unhide HCCC _ ((unhide HRC).stays (unhide HX3))).mono ?_
      rintro e w4 ⟨rfl, hb⟩
      have HX4 : Hid (Below w.heap.size w w4) := hide ((unhide HX3).trans (hb.mono (unhide HX3).size))
      have HY4 : Hid (Below wr.heap.size wr w4) := hide ((unhide HY3).trans (hb.mono (unhide HY3).size))
      clear hb
      refine ⟨_, rfl, True.intro, ?_⟩
      simp only [List.set_cons_zero, List.set_cons_succ]
      refine held_take 15 56 rfl rfl (by kernel_rfl) (by kernel_rfl) (by kernel_rfl) (by rfl) hHeld noPanic_panic (v := ?_) (fun x hSx => ?_) ?_
      rotate_left 1
      · go_simp <;> (try rw [mC2]) <;> with_reducible rfl
      simp only [List.set_cons_zero, List.set_cons_succ]
      refine held_take 16 57 rfl rfl (by kernel_rfl) (by kernel_rfl) (by kernel_rfl) (by rfl) hHeld noPanic_panic (v := ?_) (fun x hSx => ?_) ?_
      rotate_left 1
      · go_simp <;> with_reducible rfl
      simp only [List.set_cons_zero, List.set_cons_succ]
      refine held_take 17 58 rfl rfl (by kernel_rfl) (by kernel_rfl) (by kernel_rfl) (by rfl) hHeld noPanic_panic (v := ?_) (fun x hSx => ?_) ?_
      rotate_left 1
      · go_simp <;> with_reducible rfl
      simp only [List.set_cons_zero, List.set_cons_succ]
      refine held_take 18 59 rfl rfl (by kernel_rfl) (by kernel_rfl) (by kernel_rfl) (by rfl) hHeld noPanic_panic (v := ?_) (fun x hSx => ?_) ?_
      rotate_left 1
      · go_simp <;> with_reducible rfl
      simp only [List.set_cons_zero, List.set_cons_succ]
      refine held_take 20 61 rfl rfl (by kernel_rfl) (by kernel_rfl) (by kernel_rfl) (by rfl) hHeld noPanic_panic (v := ?_) (fun x hSx => ?_) ?_
      rotate_left 1
      · go_simp <;> with_reducible rfl
      simp only [List.set_cons_zero, List.set_cons_succ]
      refine held_take 21 62 rfl rfl (by kernel_rfl) (by kernel_rfl) (by kernel_rfl) (by rfl) hHeld noPanic_panic (v := ?_) (fun x hSx => ?_) ?_
      rotate_left 1
      · go_simp <;> with_reducible rfl
      simp only [List.set_cons_zero, List.set_cons_succ]
      refine held_take 24 65 rfl rfl (by kernel_rfl) (by kernel_rfl) (by kernel_rfl) (by rfl) hHeld noPanic_panic (v := ?_) (fun x hSx => ?_) ?_
      rotate_left 1
      · go_simp <;> with_reducible rfl
      simp only [List.set_cons_zero, List.set_cons_succ]
      refine held_take 25 66 rfl rfl (by kernel_rfl) (by kernel_rfl) (by kernel_rfl) (by rfl) hHeld noPanic_panic (v := ?_) (fun x hSx => ?_) ?_
      rotate_left 1
      · go_simp <;> with_reducible rfl
      simp only [List.set_cons_zero, List.set_cons_succ]
      refine held_take 29 70 rfl rfl (by kernel_rfl) (by kernel_rfl) (by kernel_rfl) (by rfl) hHeld noPanic_panic (v := ?_) (fun x hSx => ?_) ?_
      rotate_left 1
      · go_simp <;> with_reducible rfl
      simp only [List.set_cons_zero, List.set_cons_succ]
      refine held_take 30 71 rfl rfl (by kernel_rfl) (by kernel_rfl) (by kernel_rfl) (by rfl) hHeld noPanic_panic (v := ?_) (fun x hSx => ?_) ?_
      rotate_left 1
      · go_simp <;> with_reducible rfl
      simp only [List.set_cons_zero, List.set_cons_succ]
      refine held_take 22 63 rfl rfl (by kernel_rfl) (by kernel_rfl) (by kernel_rfl) (by rfl) hHeld noPanic_panic (v := ?_) (fun x hSx => ?_) ?_
      rotate_left 1
      · go_simp <;> with_reducible rfl
      simp only [List.set_cons_zero, List.set_cons_succ]
      refine held_take 26 67 rfl rfl (by kernel_rfl) (by kernel_rfl) (by kernel_rfl) (by rfl) hHeld noPanic_panic (v := ?_) (fun x hSx => ?_) ?_
      rotate_left 1
      · go_simp <;> with_reducible rfl
      simp only [List.set_cons_zero, List.set_cons_succ]
      refine held_take 31 72 rfl rfl (by kernel_rfl) (by kernel_rfl) (by kernel_rfl) (by rfl) hHeld noPanic_panic (v := ?_) (fun x hSx => ?_) ?_
      rotate_left 1
      · go_simp <;> with_reducible rfl
      simp only [List.set_cons_zero, List.set_cons_succ]
      refine held_enter 19 60 (by kernel_rfl) rfl rfl (by rfl) (by go_simp <;> exact ⟨rfl, rfl⟩) ?_
      refine (unhide HCHX _ ((unhide HRX).stays (unhide HY4))).mono ?_
      rintro e w5 ⟨rfl, hb⟩
      have HX5 : Hid (Below w.heap.size w w5) := hide ((unhide HX4).trans (hb.mono (unhide HX4).size))
      have HY5 : Hid (Below wr.heap.size wr w5) := hide ((unhide HY4).trans (hb.mono (unhide HY4).size))
      clear hb
      refine ⟨_, rfl, True.intro, ?_⟩
      simp only [List.set_cons_zero, List.set_cons_succ]
      refine held_enter 23 64 (by kernel_rfl) rfl rfl (by rfl) (by go_simp <;> exact ⟨rfl, rfl⟩) ?_
      refine (unhide HCHA _ ((unhide HRA).stays (unhide HX5))).mono ?_
      rintro e w6 ⟨rfl, hb⟩
      have HX6 : Hid (Below w.heap.size w w6) := hide ((unhide HX5).trans (hb.mono (unhide HX5).size))
      have HY6 : Hid (Below wr.heap.size wr w6) := hide ((unhide HY5).trans (hb.mono (unhide HY5).size))
      clear hb
      refine ⟨_, rfl, True.intro, ?_⟩
      simp only [List.set_cons_zero, List.set_cons_succ]
      refine held_enter 27 68 (by kernel_rfl) rfl rfl (by rfl) (by go_simp <;> exact ⟨rfl, rfl⟩) ?_
      refine (unhide HCHB _ ((unhide HRB).stays (unhide HX6))).mono ?_
      rintro e w7 ⟨rfl, hb⟩
      have HX7 : Hid (Below w.heap.size w w7) := hide ((unhide HX6).trans (hb.mono (unhide HX6).size))
      have HY7 : Hid (Below wr.heap.size wr w7) := hide ((unhide HY6).trans (hb.mono (unhide HY6).size))
      clear hb
      refine ⟨_, rfl, True.intro, ?_⟩
      simp only [List.set_cons_zero, List.set_cons_succ]
      refine held_take 28 69 rfl rfl (by kernel_rfl) (by kernel_rfl) (by kernel_rfl) (by rfl) hHeld noPanic_panic (v := ?_) (fun x hSx => ?_) ?_
      rotate_left 1
      · go_simp <;> (try rw [mH1]) <;> with_reducible rfl
      simp only [List.set_cons_zero, List.set_cons_succ]
      refine held_enter 32 73 (by kernel_rfl) rfl rfl (by rfl) (by go_simp <;> exact ⟨rfl, rfl⟩) ?_
      refine (unhide HCHC _ ((unhide HRC).stays (unhide HX7))).mono ?_
      rintro e w8 ⟨rfl, hb⟩
      have HX8 : Hid (Below w.heap.size w w8) := hide ((unhide HX7).trans (hb.mono (unhide HX7).size))
      have HY8 : Hid (Below wr.heap.size wr w8) := hide ((unhide HY7).trans (hb.mono (unhide HY7).size))
      clear hb
      refine ⟨_, rfl, True.intro, ?_⟩
      simp only [List.set_cons_zero, List.set_cons_succ]
      refine held_take 33 74 rfl rfl (by kernel_rfl) (by kernel_rfl) (by kernel_rfl) (by rfl) hHeld noPanic_panic (v := ?_) (fun x hSx => ?_) ?_
      rotate_left 1
      · go_simp <;> (try rw [mH2]) <;> with_reducible rfl
      simp only [List.set_cons_zero, List.set_cons_succ]
      refine held_take 34 75 rfl rfl (by kernel_rfl) (by kernel_rfl) (by kernel_rfl) (by rfl) hHeld noPanic_panic (v := ?_) (fun x hSx => ?_) ?_
      rotate_left 1
      · go_simp <;> with_reducible rfl
      simp only [List.set_cons_zero, List.set_cons_succ]
      refine held_take 35 76 rfl rfl (by kernel_rfl) (by kernel_rfl) (by kernel_rfl) (by rfl) hHeld noPanic_panic (v := ?_) (fun x hSx => ?_) ?_
      rotate_left 1
      · go_simp <;> with_reducible rfl
      simp only [List.set_cons_zero, List.set_cons_succ]
      refine held_take 36 77 rfl rfl (by kernel_rfl) (by kernel_rfl) (by kernel_rfl) (by rfl) hHeld noPanic_panic (v := ?_) (fun x hSx => ?_) ?_
      rotate_left 1
      · go_simp <;> with_reducible rfl
      simp only [List.set_cons_zero, List.set_cons_succ]
      refine held_take 37 78 rfl rfl (by kernel_rfl) (by kernel_rfl) (by kernel_rfl) (by rfl) hHeld noPanic_panic (v := ?_) (fun x hSx => ?_) ?_
      rotate_left 1
      · go_simp <;> with_reducible rfl
      simp only [List.set_cons_zero, List.set_cons_succ]
      refine held_take 39 80 rfl rfl (by kernel_rfl) (by kernel_rfl) (by kernel_rfl) (by rfl) hHeld noPanic_panic (v := ?_) (fun x hSx => ?_) ?_
      rotate_left 1
      · go_simp <;> with_reducible rfl
      simp only [List.set_cons_zero, List.set_cons_succ]
      refine held_take 40 81 rfl rfl (by kernel_rfl) (by kernel_rfl) (by kernel_rfl) (by rfl) hHeld noPanic_panic (v := ?_) (fun x hSx => ?_) ?_
      rotate_left 1
      · go_simp <;> with_reducible rfl
      simp only [List.set_cons_zero, List.set_cons_succ]
      refine held_take 43 84 rfl rfl (by kernel_rfl) (by kernel_rfl) (by kernel_rfl) (by rfl) hHeld noPanic_panic (v := ?_) (fun x hSx => ?_) ?_
      rotate_left 1
      · go_simp <;> with_reducible rfl
      simp only [List.set_cons_zero, List.set_cons_succ]
      refine held_take 44 85 rfl rfl (by kernel_rfl) (by kernel_rfl) (by kernel_rfl) (by rfl) hHeld noPanic_panic (v := ?_) (fun x hSx => ?_) ?_
      rotate_left 1
      · go_simp <;> with_reducible rfl
      simp only [List.set_cons_zero, List.set_cons_succ]
      refine held_take 48 89 rfl rfl (by kernel_rfl) (by kernel_rfl) (by kernel_rfl) (by rfl) hHeld noPanic_panic (v := ?_) (fun x hSx => ?_) ?_
      rotate_left 1
      · go_simp <;> with_reducible rfl
      simp only [List.set_cons_zero, List.set_cons_succ]
      refine held_take 49 90 rfl rfl (by kernel_rfl) (by kernel_rfl) (by kernel_rfl) (by rfl) hHeld noPanic_panic (v := ?_) (fun x hSx => ?_) ?_
      rotate_left 1
      · go_simp <;> with_reducible rfl
      simp only [List.set_cons_zero, List.set_cons_succ]
      refine held_take 41 82 rfl rfl (by kernel_rfl) (by kernel_rfl) (by kernel_rfl) (by rfl) hHeld noPanic_panic (v := ?_) (fun x hSx => ?_) ?_
      rotate_left 1
      · go_simp <;> with_reducible rfl
      simp only [List.set_cons_zero, List.set_cons_succ]
      refine held_take 45 86 rfl rfl (by kernel_rfl) (by kernel_rfl) (by kernel_rfl) (by rfl) hHeld noPanic_panic (v := ?_) (fun x hSx => ?_) ?_
      rotate_left 1
      · go_simp <;> with_reducible rfl
      simp only [List.set_cons_zero, List.set_cons_succ]
      refine held_take 50 91 rfl rfl (by kernel_rfl) (by kernel_rfl) (by kernel_rfl) (by rfl) hHeld noPanic_panic (v := ?_) (fun x hSx => ?_) ?_
      rotate_left 1
      · go_simp <;> with_reducible rfl
      simp only [List.set_cons_zero, List.set_cons_succ]
      refine held_enter 38 79 (by kernel_rfl) rfl rfl (by rfl) (by go_simp <;> exact ⟨rfl, rfl⟩) ?_
      refine (unhide HCWX _ ((unhide HRX).stays (unhide HY8))).mono ?_
      rintro e w9 ⟨rfl, hb⟩
      have HX9 : Hid (Below w.heap.size w w9) := hide ((unhide HX8).trans (hb.mono (unhide HX8).size))
      have HY9 : Hid (Below wr.heap.size wr w9) := hide ((unhide HY8).trans (hb.mono (unhide HY8).size))
      clear hb
      refine ⟨_, rfl, True.intro, ?_⟩
      simp only [List.set_cons_zero, List.set_cons_succ]
      refine held_enter 42 83 (by kernel_rfl) rfl rfl (by rfl) (by go_simp <;> exact ⟨rfl, rfl⟩) ?_
      refine (unhide HCWA _ ((unhide HRA).stays (unhide HX9))).mono ?_
      rintro e w10 ⟨rfl, hb⟩
      have HX10 : Hid (Below w.heap.size w w10) := hide ((unhide HX9).trans (hb.mono (unhide HX9).size))
      have HY10 : Hid (Below wr.heap.size wr w10) := hide ((unhide HY9).trans (hb.mono (unhide HY9).size))
      clear hb
      refine ⟨_, rfl, True.intro, ?_⟩
      simp only [List.set_cons_zero, List.set_cons_succ]
      refine held_enter 46 87 (by kernel_rfl) rfl rfl (by rfl) (by go_simp <;> exact ⟨rfl, rfl⟩) ?_
      refine (unhide HCWB _ ((unhide HRB).stays (unhide HX10))).mono ?_
      rintro e w11 ⟨rfl, hb⟩
      have HX11 : Hid (Below w.heap.size w w11) := hide ((unhide HX10).trans (hb.mono (unhide HX10).size))
      have HY11 : Hid (Below wr.heap.size wr w11) := hide ((unhide HY10).trans (hb.mono (unhide HY10).size))
      clear hb
      refine ⟨_, rfl, True.intro, ?_⟩
      simp only [List.set_cons_zero, List.set_cons_succ]
      refine held_take 47 88 rfl rfl (by kernel_rfl) (by kernel_rfl) (by kernel_rfl) (by rfl) hHeld noPanic_panic (v := ?_) (fun x hSx => ?_) ?_
      rotate_left 1
      · go_simp <;> (try rw [mW1]) <;> with_reducible rfl
      simp only [List.set_cons_zero, List.set_cons_succ]
      refine held_enter 51 92 (by kernel_rfl) rfl rfl (by rfl) (by go_simp <;> exact ⟨rfl, rfl⟩) ?_
      refine (unhide HCWC _ ((unhide HRC).stays (unhide HX11))).mono ?_
      rintro e w12 ⟨rfl, hb⟩
      have HX12 : Hid (Below w.heap.size w w12) := hide ((unhide HX11).trans (hb.mono (unhide HX11).size))
      have HY12 : Hid (Below wr.heap.size wr w12) := hide ((unhide HY11).trans (hb.mono (unhide HY11).size))
      clear hb
      refine ⟨_, rfl, True.intro, ?_⟩
      simp only [List.set_cons_zero, List.set_cons_succ]
      refine held_take 52 93 rfl rfl (by kernel_rfl) (by kernel_rfl) (by kernel_rfl) (by rfl) hHeld noPanic_panic (v := ?_) (fun x hSx => ?_) ?_
      rotate_left 1
      · go_simp <;> (try rw [mW2]) <;> with_reducible rfl
      simp only [List.set_cons_zero, List.set_cons_succ]
      refine held_take 53 94 rfl rfl (by kernel_rfl) (by kernel_rfl) (by kernel_rfl) (by rfl) hHeld noPanic_panic (v := ?_) (fun x hSx => ?_) ?_
      rotate_left 1
      · go_simp <;> with_reducible rfl
      simp only [List.set_cons_zero, List.set_cons_succ]
      refine held_take 54 95 rfl rfl (by kernel_rfl) (by kernel_rfl) (by kernel_rfl) (by rfl) hHeld noPanic_panic (v := ?_) (fun x hSx => ?_) ?_
      rotate_left 1
      · go_simp <;> with_reducible rfl
      simp only [List.set_cons_zero, List.set_cons_succ]
      refine held_take 55 96 rfl rfl (by kernel_rfl) (by kernel_rfl) (by kernel_rfl) (by rfl) hHeld noPanic_panic (v := ?_) (fun x hSx => ?_) ?_
      rotate_left 1
      · go_simp <;> with_reducible rfl
      simp only [List.set_cons_zero, List.set_cons_succ]
      refine held_value 56 97 (by kernel_rfl) rfl rfl (by rfl) (by go_simp <;> exact ⟨rfl, rfl⟩) True.intro ?_
      simp only [List.set_cons_zero, List.set_cons_succ]
      refine held_value 57 98 (by kernel_rfl) rfl rfl (by rfl) (by have hcn := conv_nine w12; go_simp <;> exact ⟨rfl, rfl⟩) True.intro ?_
      simp only [List.set_cons_zero, List.set_cons_succ]
      refine held_enter 58 99 (by kernel_rfl) rfl rfl (by rfl) (by go_simp <;> exact ⟨rfl, rfl⟩) ?_
      refine (crc64_walk 0 _ nine _ (by omega) (reads_nine w12) nine_small (by decide)).mono ?_
      rintro e wz ⟨rfl, hb⟩
      have HXZ : Hid (Below w.heap.size w wz) := hide ((unhide HX12).trans ((((Below.refl w12.heap.size w12).alloc (Nat.le_refl _) _).trans (hb.mono (by simp))).mono (unhide HX12).size))
      rw [nine64, show ((11051210869376104954 : Nat) : Int) = 11051210869376104954 from rfl]
      clear hb
      refine ⟨_, rfl, True.intro, ?_⟩
      simp only [List.set_cons_zero, List.set_cons_succ]
      refine held_take 59 100 rfl rfl (by kernel_rfl) (by kernel_rfl) (by kernel_rfl) (by rfl) hHeld noPanic_panic (v := ?_) (fun x hSx => ?_) ?_
      rotate_left 1
      · go_simp <;> with_reducible rfl
      simp only [List.set_cons_zero, List.set_cons_succ]
      refine held_take 60 101 rfl rfl (by kernel_rfl) (by kernel_rfl) (by kernel_rfl) (by rfl) hHeld noPanic_panic (v := ?_) (fun x hSx => ?_) ?_
      rotate_left 1
      · go_simp <;> with_reducible rfl
      simp only [List.set_cons_zero, List.set_cons_succ]
      refine held_take 61 6 rfl rfl (by kernel_rfl) (by kernel_rfl) (by kernel_rfl) (by rfl) hHeld noPanic_panic (v := ?_) (fun x hSx => ?_) ?_
      rotate_left 1
      · go_simp <;> with_reducible rfl
      simp only [List.set_cons_zero, List.set_cons_succ]
      refine wpAnyH_done (by kernel_rfl) ?_ _
      refine NoPanic.normal ?_
      go_wp2_with fail
      go_ret
      exact ⟨by first | rfl | simp, unhide HXZ⟩
end Go.Proofs.Ytnijllkafakoiaa
