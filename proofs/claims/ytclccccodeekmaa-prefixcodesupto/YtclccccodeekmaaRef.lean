/-
  What the document's answers for bits are: hamperref01's Of and Number.
-/
import Derived.Test.YtclccccodeekmaaRdTwo
import Derived.Laws.AppendOwnNone
import Derived.Laws.BytesString
namespace Go.Proofs.Ytclccccodeekmaa
open Go.RowKit Mth

def bi (b : Bool) : Value := .int .i64 (b.toNat : Int)
theorem info3 : (Try.prog.info? 3).map (fun i => (i.zero, i.size, i.bytes)) = some (some (.int .i64 0), 1, 8) := by kernel_rfl

theorem bit_u8 (B r : Nat) (hr : r < 8) (hB : B < 256) : bits .and .u8 ((B : Int) / 2 ^ min r 8) 1 = ((B.testBit r).toNat : Int) := by
  have hd : B / 2 ^ r < 256 := Nat.lt_of_le_of_lt (Nat.div_le_self _ _) hB
  rw [Nat.min_eq_left (by omega), show ((B : Int) / 2 ^ r) = ((B / 2 ^ r : Nat) : Int) by simp]
  have h := u8_and_nat (B / 2 ^ r) 1 hd (by decide)
  rw [Nat.and_one_is_mod, ← Nat.shiftRight_eq_div_pow, shift_one] at h
  rw [← Nat.shiftRight_eq_div_pow]
  exact h

theorem Reads.spot {w : World} {v : Value} {zs : List Nat} (h : Reads w v zs) : ∃ a cap, v = .slice a zs.length cap ∧ (0 < zs.length → ∃ b off, a = some ⟨b, off, none⟩ ∧ ∀ j, j < zs.length → w.cell? ⟨b, off + j, none⟩ = some (.int .u8 (zs.getD j 0 : Int))) := by
  obtain ⟨a, cap, rfl, hs⟩ := h
  refine ⟨a, cap, rfl, fun h0 => ?_⟩
  obtain ⟨⟨b, off, sp⟩, rfl, hc⟩ := hs h0
  have h1 := hc 0 (bv (zs.getD 0 0)) (by simp [h0])
  have hsp : sp = none := by simpa [Addr.add] using World.cell?_spot h1
  subst hsp
  refine ⟨b, off, rfl, fun j hj => ?_⟩
  have h2 := hc j (bv (zs.getD j 0)) (by simp [hj])
  have e : (⟨b, off, none⟩ : Addr).add j = ⟨b, off + j, none⟩ := by by_cases hq : j = 0 <;> simp [Addr.add, hq]
  rw [e] at h2
  exact h2

theorem getD_mem (zs : List Nat) (i : Nat) (h : i < zs.length) : zs.getD i 0 ∈ zs := by
  rw [List.getD_eq_getElem?_getD, List.getElem?_eq_getElem h]; exact List.getElem_mem _

theorem news_one {w : World} (x : Value) (t : TypeId) : ∀ (j : Nat) u, [x][j]? = some u → (w.alloc (.cells #[x] t)).cell? ((⟨w.heap.size, 0, none⟩ : Addr).add j) = some u := by
  intro j u hj
  match j, hj with
  | 0, hj => simp at hj; subst hj; simp [Addr.add]

theorem wrap_bool (b : Bool) : wrap64 (b.toNat : Int) = (b.toNat : Int) := by
  have := Bool.toNat_le b
  exact IntWalk.wrap64_in _ (by omega)

set_option maxHeartbeats 1000000 in
theorem of_ok (v : Value) (zs : List Nat) (high : Bool) (w : World) (hr : Reads w v zs) (hn : zs.length ≤ 2000000) (hs : ∀ z ∈ zs, z < 256) :
    Calls Try.prog 22 #[v, .bool high] w fun e w' => ∃ lv, e = .returned lv ∧ w'.ownsRow w.heap.size 3 1 lv (8 * zs.length) ((List.range (8 * zs.length)).map fun i => bi (bitIn high zs i)) ∧ Below w.heap.size w w' := by
  obtain ⟨a, cap, rfl, hsrc⟩ := hr.spot
  obtain ⟨i0, hi, hz0, hz1, hz2⟩ := info_parts info3
  have HS := hide hsrc
  have HSM := hide hs
  clear hsrc hs hr
  cases high
  · go_enter Try.func22, Try.ntmps22
    go_wp2
    go_loopg [5, 6] (8 * zs.length) (fun gk o c ws => ∃ i, gk = 8 * zs.length - i ∧ i ≤ 8 * zs.length ∧ c = .int .i64 (i : Int) ∧ ws.ownsRow w.heap.size 3 1 o i ((List.range i).map fun i => bi (bitIn false zs i)) ∧ Below w.heap.size w ws)
    case atStart => exact ⟨0, by omega, by omega, rfl, World.ownsRow_nil _ _ _ _, Below.refl _ _⟩
    case round =>
      obtain ⟨i, rfl, hil, rfl, hown, hbel⟩ := hrel
      by_cases hlt : i < 8 * zs.length
      · obtain ⟨ab, ao, rfl, hcell⟩ := unhide HS (by omega)
        have hq8 : i / 8 < zs.length := by omega
        have hcl := cell_stays hbel (hcell (i / 8) hq8)
        have hz : zs.getD (i / 8) 0 < 256 := (unhide HSM) _ (getD_mem _ _ hq8)
        have hbi : bitIn false zs i = (zs.getD (i / 8) 0).testBit (rk false 8 (i % 8)) := rfl
        generalize zs.getD (i / 8) 0 = B at hcl hz hbi
        obtain ⟨q8, hq⟩ : ∃ q8, q8 = i / 8 := ⟨_, rfl⟩
        obtain ⟨r8, hr8⟩ : ∃ r8, r8 = i % 8 := ⟨_, rfl⟩
        rw [← hr8] at hbi
        rw [← hq] at hcl hq8
        have hr8' : r8 < 8 := by omega
        have hbit := bit_u8 B r8 (by omega) hz
        rw [Nat.min_eq_left (by omega)] at hbit
        have hrk : rk false 8 r8 = r8 := by simp [rk]
        rw [hrk] at hbi
        rw [← hbi] at hbit
        have HO := hide hown
        have HB := hide hbel
        have hw1 : (q8 : Int) < (zs.length : Int) := by omega
        have hw2 : (0 : Int) ≤ (q8 : Int) := by omega
        have hdd : ((i : Int) / 8) = (q8 : Int) := by omega
        have hmm : ((i : Int) % 8) = (r8 : Int) := by omega
        have hi20 : (i : Int) ≤ 20000000 := by omega
        have hwb := wrap_bool (bitIn false zs i)
        have hsz := hbel.size
        have HN : Hid (∀ (j : Nat) u, [bi (bitIn false zs i)][j]? = some u → (wr.alloc (.cells #[bi (bitIn false zs i)] 3)).cell? ((⟨wr.heap.size, 0, none⟩ : Addr).add j) = some u) := hide (news_one _ _)
        clear hbi hown hbel hq hr8 hcell hrk
        skip
        go_wp2_with (at_builtin; go_must (refine wpList_append_own _ rfl (.tmp 20) (.tmp 31) 22 rfl w.heap.size 3 i0 (.int .i64 0) 1 8 Try.underlying22 hi hz0 hz1 hz2 rfl (by decide) u5 i _ (by rfl) ((unhide HO).alloc _) ⟨wr.heap.size, 0, none⟩ 1 1 [bi (bitIn false zs i)] (by rfl) rfl (by exact unhide HN) (by intro u hu; simp at hu; subst hu; rfl) (by unfold maxLen; omega) (by omega) (by simp; omega) ?_; intro v' w1 hown' hgrow _; have HO' := hide hown'; have HG := hide hgrow; clear hown' hgrow))
        go_roundg (8 * zs.length - (i + 1))
        case measure => omega
        case rel =>
          refine ⟨i + 1, rfl, by omega, by go_num, ?_, ?_⟩
          · rw [List.range_succ, List.map_append]; exact unhide HO'
          · exact ((unhide HB).alloc hsz _).grown (unhide HG) (by simp; omega) (fun k e => ((unhide HO).lt k e).1)
      · obtain rfl : i = 8 * zs.length := by omega
        have HO := hide hown
        have HB := hide hbel
        clear hown hbel
        go_wp2
        go_ret
        exact ⟨_, rfl, unhide HO, unhide HB⟩
  · go_enter Try.func22, Try.ntmps22
    go_wp2
    go_loopg [5, 6] (8 * zs.length) (fun gk o c ws => ∃ i, gk = 8 * zs.length - i ∧ i ≤ 8 * zs.length ∧ c = .int .i64 (i : Int) ∧ ws.ownsRow w.heap.size 3 1 o i ((List.range i).map fun i => bi (bitIn true zs i)) ∧ Below w.heap.size w ws)
    case atStart => exact ⟨0, by omega, by omega, rfl, World.ownsRow_nil _ _ _ _, Below.refl _ _⟩
    case round =>
      obtain ⟨i, rfl, hil, rfl, hown, hbel⟩ := hrel
      by_cases hlt : i < 8 * zs.length
      · obtain ⟨ab, ao, rfl, hcell⟩ := unhide HS (by omega)
        have hq8 : i / 8 < zs.length := by omega
        have hcl := cell_stays hbel (hcell (i / 8) hq8)
        have hz : zs.getD (i / 8) 0 < 256 := (unhide HSM) _ (getD_mem _ _ hq8)
        have hbi : bitIn true zs i = (zs.getD (i / 8) 0).testBit (rk true 8 (i % 8)) := rfl
        generalize zs.getD (i / 8) 0 = B at hcl hz hbi
        obtain ⟨q8, hq⟩ : ∃ q8, q8 = i / 8 := ⟨_, rfl⟩
        obtain ⟨r8, hr8⟩ : ∃ r8, r8 = i % 8 := ⟨_, rfl⟩
        rw [← hr8] at hbi
        rw [← hq] at hcl hq8
        have hr8' : r8 < 8 := by omega
        have hbit := bit_u8 B (7 - r8) (by omega) hz
        rw [Nat.min_eq_left (by omega)] at hbit
        have hrk : rk true 8 r8 = (7 - r8) := by simp [rk]
        rw [hrk] at hbi
        rw [← hbi] at hbit
        have HO := hide hown
        have HB := hide hbel
        have hw1 : (q8 : Int) < (zs.length : Int) := by omega
        have hw2 : (0 : Int) ≤ (q8 : Int) := by omega
        have hdd : ((i : Int) / 8) = (q8 : Int) := by omega
        have hmm : ((i : Int) % 8) = (r8 : Int) := by omega
        have hi20 : (i : Int) ≤ 20000000 := by omega
        have hwb := wrap_bool (bitIn true zs i)
        have hsz := hbel.size
        have HN : Hid (∀ (j : Nat) u, [bi (bitIn true zs i)][j]? = some u → (wr.alloc (.cells #[bi (bitIn true zs i)] 3)).cell? ((⟨wr.heap.size, 0, none⟩ : Addr).add j) = some u) := hide (news_one _ _)
        clear hbi hown hbel hq hr8 hcell hrk
        have h7 : ((7 : Int) - (r8 : Int)) = ((7 - r8 : Nat) : Int) := by omega
        go_wp2_with (at_builtin; go_must (refine wpList_append_own _ rfl (.tmp 20) (.tmp 31) 22 rfl w.heap.size 3 i0 (.int .i64 0) 1 8 Try.underlying22 hi hz0 hz1 hz2 rfl (by decide) u5 i _ (by rfl) ((unhide HO).alloc _) ⟨wr.heap.size, 0, none⟩ 1 1 [bi (bitIn true zs i)] (by rfl) rfl (by exact unhide HN) (by intro u hu; simp at hu; subst hu; rfl) (by unfold maxLen; omega) (by omega) (by simp; omega) ?_; intro v' w1 hown' hgrow _; have HO' := hide hown'; have HG := hide hgrow; clear hown' hgrow))
        go_roundg (8 * zs.length - (i + 1))
        case measure => omega
        case rel =>
          refine ⟨i + 1, rfl, by omega, by go_num, ?_, ?_⟩
          · rw [List.range_succ, List.map_append]; exact unhide HO'
          · exact ((unhide HB).alloc hsz _).grown (unhide HG) (by simp; omega) (fun k e => ((unhide HO).lt k e).1)
      · obtain rfl : i = 8 * zs.length := by omega
        have HO := hide hown
        have HB := hide hbel
        clear hown hbel
        go_wp2
        go_ret
        exact ⟨_, rfl, unhide HO, unhide HB⟩

theorem or_u64 (A R : Nat) (bt : Bool) (hR : R < 64) (hA : A < 2 ^ 64) :
    bits .or .u64 (A : Int) (IntKind.u64.wrap ((bt.toNat : Int) * 2 ^ R)) = ((A ||| (bt.toNat <<< R) : Nat) : Int) := by
  have h2 : bt.toNat ≤ 1 := Bool.toNat_le _
  have h3 : 2 ^ R ≤ 2 ^ 63 := Nat.pow_le_pow_right (by decide) (by omega)
  have h4 := Nat.mul_le_mul h2 h3
  rw [show ((bt.toNat : Int) * 2 ^ R) = ((bt.toNat * 2 ^ R : Nat) : Int) by simp, IntWalk.u64_in _ (by omega), u64_or_nat A _ (by omega) (by omega), Nat.shiftLeft_eq]

structure Only (rp : Nat) (w w' : World) : Prop where
  os : w'.os = w.os
  tape : w'.tape = w.tape
  output : w'.output = w.output
  size : w.heap.size ≤ w'.heap.size
  keep : ∀ x, x < w.heap.size → x ≠ rp → w'.heap[x]? = w.heap[x]?

theorem Only.below {rp B : Nat} {w w' : World} (h : Only rp w w') (hB : B ≤ rp) (hs : B ≤ w.heap.size) : Below B w w' :=
  ⟨h.os, h.tape, h.output, h.size, fun k hk => h.keep k (by omega) (by omega)⟩

/-- A row of bytes, whatever they are. -/
def RowB (w : World) (g n : Nat) : Prop := ∃ cur, w.heap[g]? = some (.cells cur 5 (0, 0)) ∧ n ≤ cur.size ∧ ∀ j, j < n → ∃ y : Int, cur[j]? = some (.int .u8 y)

theorem RowB.cell {w : World} {g n : Nat} (h : RowB w g n) (j : Nat) (hj : j < n) : (∃ y : Int, w.cell? ⟨g, j, none⟩ = some (.int .u8 y)) ∧ w.frozen? ⟨g, j, none⟩ = false := by
  obtain ⟨cur, hh, _, hc⟩ := h
  obtain ⟨y, hy⟩ := hc j hj
  exact ⟨⟨y, by simp [World.cell?, hh, hy]⟩, by simp [World.frozen?, hh]⟩

theorem RowB.set {w : World} {g n : Nat} (h : RowB w g n) (j : Nat) (y : Int) : RowB (w.setCell ⟨g, j, none⟩ (.int .u8 y)) g n := by
  obtain ⟨cur, hh, hs, hc⟩ := h
  refine ⟨_, heap_setCell_same w g j cur 5 _ hh, by simpa using hs, fun k hk => ?_⟩
  obtain ⟨z, hz⟩ := hc k hk
  by_cases e : k = j
  · subst e
    exact ⟨y, by simp [Array.getElem?_setIfInBounds]; omega⟩
  · exact ⟨z, by rw [Array.getElem?_setIfInBounds_ne (by omega)]; exact hz⟩

theorem RowB.of {w : World} {base g n cap : Nat} {zs : List Nat} (h : w.ownsRow base 5 1 (.slice (some ⟨g, 0, none⟩) n cap) n (zs.map bv)) (hn : zs.length = n) : RowB w g n := by
  obtain ⟨hl, hr⟩ := h
  rcases hr with ⟨e, _⟩ | ⟨g', cap', cur, e, hb, hh, hle, hc, hs, ht⟩
  · cases e
  · injection e with e1 e2 e3
    injection e1 with e1
    injection e1 with e1
    subst e1 e3
    refine ⟨cur, hh, by omega, fun j hj => ⟨(zs.getD j 0 : Nat), ?_⟩⟩
    have h2 : (cur.toList.take (n * 1))[j]? = (zs.map bv)[j]? := by rw [ht]
    rw [List.getElem?_take, if_pos (by omega)] at h2
    rw [← Array.getElem?_toList, h2]
    simp [bv, hn, hj]

theorem RowB.block {w : World} {g : Nat} {zs : List Nat} (h : w.heap[g]? = some (.cells (zs.map bv).toArray 5 (0, 0))) : RowB w g zs.length :=
  ⟨_, h, by simp, fun j hj => ⟨(zs.getD j 0 : Nat), by simp [bv, hj]⟩⟩

theorem Only.refl (g : Nat) (w : World) : Only g w w := ⟨rfl, rfl, rfl, Nat.le_refl _, fun _ _ _ => rfl⟩
theorem Only.set {g : Nat} {w w' : World} (h : Only g w w') (j : Nat) (v : Value) : Only g w (w'.setCell ⟨g, j, none⟩ v) :=
  ⟨h.os, h.tape, h.output, by simpa using h.size, fun x hx hne => by rw [heap_setCell_other _ _ _ _ (by exact hne)]; exact h.keep x hx hne⟩
theorem Only.of_below {g : Nat} {w w' : World} (h : Below w.heap.size w w') : Only g w w' := ⟨h.os, h.tape, h.output, h.size, fun x hx _ => h.block x hx⟩
theorem Only.trans {g : Nat} {a b c : World} (h : Only g a b) (k : Only g b c) : Only g a c :=
  ⟨k.os.trans h.os, k.tape.trans h.tape, k.output.trans h.output, Nat.le_trans h.size k.size, fun x hx hne => by rw [k.keep x (by have := h.size; omega) hne, h.keep x hx hne]⟩

theorem reads_of {w : World} {ba : Option Addr} {bcap : Nat} {zs : List Nat} (hr : (ba = none ∧ bcap = 0 ∧ zs = []) ∨ ∃ ad, ba = some ad ∧ ∀ (j : Nat) u, (zs.map bv)[j]? = some u → w.cell? (ad.add j) = some u) : Reads w (.slice ba zs.length bcap) zs := by
  refine ⟨ba, bcap, rfl, fun h0 => ?_⟩
  rcases hr with ⟨_, _, rfl⟩ | ⟨ad, rfl, h⟩
  · simp at h0
  · exact ⟨ad, rfl, h⟩

theorem reads_row {w : World} {base n cap : Nat} {a : Option Addr} {zs : List Nat} (h : w.ownsRow base 5 1 (.slice a n cap) n (zs.map bv)) (hn : zs.length = n) : Reads w (.slice a n cap) zs := by
  refine ⟨a, cap, by rw [hn], fun h0 => ?_⟩
  rcases h.2 with ⟨_, e'⟩ | ⟨g, c, _, e, _⟩
  · omega
  · injection e with e1
    exact ⟨_, e1, h.cells (by rw [e1]; rfl)⟩

theorem own_keep {w w' : World} {base e size n : Nat} {v : Value} {xs : List Value} (h : w.ownsRow base e size v n xs) (h2 : ∀ g, v.ownBlock = some g → w'.heap[g]? = w.heap[g]?) : w'.ownsRow base e size v n xs := by
  obtain ⟨hl, hr⟩ := h
  refine ⟨hl, ?_⟩
  rcases hr with e | ⟨g, cap, cur, e, hb, hh, r⟩
  · exact .inl e
  · exact .inr ⟨g, cap, cur, e, hb, by rw [h2 g (by rw [e]; rfl)]; exact hh, r⟩

theorem st_only {w ws ws' : World} {B rp OB n : Nat} {lv : Value} {xs : List Value} (hl : ws.ownsRow OB 3 1 lv n xs) (hb : Below B w ws) (ho : Only rp ws ws') (h1 : rp < OB) (h2 : B ≤ rp) (h3 : B ≤ ws.heap.size) : ws'.ownsRow OB 3 1 lv n xs ∧ Below B w ws' :=
  ⟨own_keep hl (fun g e => ho.keep g (hl.lt g e).2 (by have := (hl.lt g e).1; omega)), hb.trans (ho.below h2 h3)⟩

theorem Only.drewN (g : Nat) (w : World) (n : Nat) : Only g w (w.drewN n) := ⟨rfl, rfl, rfl, Nat.le_refl _, fun _ _ _ => rfl⟩
theorem Only.drew (g : Nat) (w : World) : Only g w w.drew := ⟨rfl, rfl, rfl, Nat.le_refl _, fun _ _ _ => rfl⟩
theorem Only.alloc (g : Nat) (w : World) (o : Obj) : Only g w (w.alloc o) := Only.of_below ((Below.refl _ _).alloc (Nat.le_refl _) o)

theorem ROk.only {w w' : World} {rp : Nat} {high : Bool} {g : Nat} {zs : List Nat} {p x : Nat} (h : ROk w rp high g zs p) (ho : Only x w w') (h1 : rp ≠ x) (h2 : g ≠ x) : ROk w' rp high g zs p :=
  h.keep (ho.keep rp h.lt h1) (ho.keep g (heap_lt h.row) h2)

theorem ROk.alloc {w : World} {rp : Nat} {high : Bool} {g : Nat} {zs : List Nat} {p : Nat} (h : ROk w rp high g zs p) (o : Obj) : ROk (w.alloc o) rp high g zs p :=
  h.keep (Below.heap_alloc _ _ _ h.lt) (Below.heap_alloc _ _ _ (heap_lt h.row))

theorem get_only {w : World} {rp k q : Nat} {high : Bool} {g : Nat} {zs : List Nat} {p : Nat} (h : ROk w rp high g zs p) (hq : q ≤ 8 * zs.length) : ROk ((w.drewN k).setCell ⟨rp, 3, none⟩ (.int .i64 (q : Int))) rp high g zs q ∧ Only rp w ((w.drewN k).setCell ⟨rp, 3, none⟩ (.int .i64 (q : Int))) :=
  ⟨(h.drewN k).set q hq, (Only.drewN rp w k).set 3 _⟩

theorem align_int (p : Nat) : ((p : Int) + 7) / 8 * 8 = (((p + 7) / 8 * 8 : Nat) : Int) := by omega

theorem conv_zero (w : World) (a : Option Addr) (cap : Nat) : (convert 45 9 (.slice a 0 cap)).run Try.prog w = .ok (.string ⟨#[]⟩) w := by
  rw [run_convert_bytes_string w 45 9 5 a 0 cap Try.underlying45 Try.underlying5 Try.underlying9]
  cases a <;> simp [Conv.bytesToString, loadCells] <;> rfl

theorem conv_reads {w : World} {v : Value} {zs : List Nat} (h : Reads w v zs) (hs : ∀ z ∈ zs, z < 256) : (convert 45 9 v).run Try.prog w = .ok (.string ⟨(zs.map UInt8.ofNat).toArray⟩) w := by
  by_cases h0 : zs.length = 0
  · obtain ⟨a, cap, rfl, _⟩ := h
    obtain rfl : zs = [] := List.eq_nil_of_length_eq_zero h0
    exact conv_zero w a cap
  · obtain ⟨a, cap, rfl, hc⟩ := h
    obtain ⟨ad, rfl, hc2⟩ := hc (by omega)
    have := run_convert_bytes_back w 45 9 5 ad cap (zs.map UInt8.ofNat) Try.underlying45 Try.underlying5 Try.underlying9 (by
      intro j hj
      simp at hj
      have hzj := hs zs[j] (List.getElem_mem hj)
      rw [hc2 j (bv zs[j]) (by simp [hj])]
      simp [bv, Nat.mod_eq_of_lt hzj])
    simpa using this

theorem drop_take_small {zs : List Nat} (hs : ∀ z ∈ zs, z < 256) (q N : Nat) : ∀ z ∈ (zs.drop q).take N, z < 256 := fun z hz => hs z (List.mem_of_mem_drop (List.mem_of_mem_take hz))

end Go.Proofs.Ytclccccodeekmaa
