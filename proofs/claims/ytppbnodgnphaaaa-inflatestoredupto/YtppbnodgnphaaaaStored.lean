/- InflateStored, walked. -/
import Derived.Test.YtppbnodgnphaaaaStops
import Derived.Laws.DeepNot64
namespace Go.Proofs.Ytppbnodgnphaaaa
open Go.RowKit Mth Infl
set_option maxRecDepth 100000
set_option linter.unusedVariables false

/-- the rest behind n bytes -/
theorem Bytes.rest {w : World} {ra : Option Addr} {rc : Nat} {rest : List Nat} (h : Bytes w ra rc rest) (n : Nat) (hn : n ≤ rest.length) :
    ∃ ra', (∀ w', (Instr.slice 22 (.slice ra rest.length rc) (some (.int .i64 (n : Int))) none none).run Try.prog w' = .ok (.slice ra' (rest.length - n) (rc - n)) w') ∧ Bytes w ra' (rc - n) (rest.drop n) := by
  have hle := h.1
  refine ⟨if rc = n then ra else ra.map (·.add (n * 1)), fun w' => ?_, by rw [List.length_drop]; omega, ?_⟩
  · obtain ⟨i0, hi, hz0, hz1, hz2⟩ := info_parts info5
    rw [run_slice_l w' 22 ra rest.length rc Try.underlying22 .i64 (n : Int) (by omega) (by omega)]
    simp [sizeOf, typeInfo, sliced, Result.andThen, show Try.prog.elem 22 = 5 from by kernel_rfl, hi, hz1]
  · rw [List.length_drop]
    refine ⟨_, _, by rw [List.length_drop], fun h0 => ?_⟩
    rw [List.length_drop] at h0
    obtain ⟨a, cap, e, hs⟩ := Reads.spot h.2
    injection e with e1 e2 e3
    subst e1 e3
    obtain ⟨b, off, rfl, hc⟩ := hs (by omega)
    rw [if_neg (by omega)]
    refine ⟨_, rfl, fun j u hj => ?_⟩
    have hj2 : j < rest.length - n := by
      have := (List.getElem?_eq_some_iff.1 hj).1
      simp at this; omega
    have e : ((⟨b, off, none⟩ : Addr).add (n * 1)).add j = ⟨b, off + (n + j), none⟩ := by
      by_cases hn0 : n = 0 <;> by_cases hj0 : j = 0 <;> simp [Addr.add, hn0, hj0, Nat.add_assoc]
    rw [e, hc (n + j) (by omega)]
    rw [List.getElem?_map, List.getElem?_drop, List.getElem?_eq_getElem (by omega)] at hj
    rw [List.getD_eq_getElem?_getD, List.getElem?_eq_getElem (by omega)]
    simpa [bv] using hj

/-- the first n bytes of the rest -/
theorem Bytes.first {w : World} {ra : Option Addr} {rc : Nat} {rest : List Nat} (h : Bytes w ra rc rest) (n : Nat) (hn : n ≤ rest.length) (w' : World) :
    (Instr.slice 22 (.slice ra rest.length rc) none (some (.int .i64 (n : Int))) none).run Try.prog w' = .ok (.slice ra n rc) w' := by
  have hle := h.1
  obtain ⟨i0, hi, hz0, hz1, hz2⟩ := info_parts info5
  rw [run_slice_h w' 22 ra rest.length rc Try.underlying22 .i64 (n : Int) (by omega) (by omega)]
  cases ra <;> simp [sizeOf, typeInfo, sliced, Addr.add, Result.andThen, show Try.prog.elem 22 = 5 from by kernel_rfl, hi, hz1]

/-- pieces that are not the last -/
def laid (cs : List (List Nat)) : List Nat := (cs.map (blk 0)).flatten

structure PkAt (w ws : World) (zs : List Nat) (K : Nat) (cs : List (List Nat)) (rest : List Nat) (pv : Value) (ra : Option Addr) (rc : Nat) : Prop where
  own : ws.ownsRow w.heap.size 5 1 pv (laid cs).length ((laid cs).map bv)
  bel : Below w.heap.size w ws
  by' : Bytes w ra rc rest
  eq : zs = cs.flatten ++ rest
  ok : ∀ c ∈ cs, c.length ≤ 65535 ∧ ∀ x ∈ c, x < 256
  cnt : cs.length ≤ K + cs.flatten.length

theorem laid_len : ∀ cs : List (List Nat), (laid cs).length = cs.flatten.length + 5 * cs.length
  | [] => rfl
  | c :: cs => by
    have := laid_len cs
    unfold laid at this ⊢
    rw [List.map_cons, List.flatten_cons, List.length_append, this, blk_len, List.flatten_cons, List.length_append, List.length_cons]
    omega

theorem laid_snoc (cs : List (List Nat)) (c : List Nat) : laid (cs ++ [c]) = laid cs ++ blk 0 c := by
  unfold laid
  rw [List.map_append, List.flatten_append]
  simp

/-- the head of a block -/
def hdr (last n : Nat) : List Nat := [last, n % 256, n / 256, 255 - n % 256, 255 - n / 256]

theorem blk_hdr (last : Nat) (c : List Nat) : blk last c = hdr last c.length ++ c := rfl

theorem hdr_news (w : World) (last n : Nat) (hn : n ≤ 65535) : ∀ (j : Nat) u, ((hdr last n).map bv)[j]? = some u → (w.alloc (.cells #[.int .u8 (last : Int), .int .u8 ((n : Int) % 256), .int .u8 ((n : Int) / 256), .int .u8 (bits BinOp.xor IntKind.i64 (if IntKind.i64.signed = true then -1 else 9223372036854775807) (n : Int) % 256), .int .u8 (bits BinOp.xor IntKind.i64 (if IntKind.i64.signed = true then -1 else 9223372036854775807) (n : Int) / 256 % 256)] 5)).cell? ((⟨w.heap.size, 0, none⟩ : Addr).add j) = some u := by
  intro j u hj
  refine World.news_of_block (heap_alloc_new _ _) j u ?_
  have hT : bits BinOp.xor IntKind.i64 (if IntKind.i64.signed = true then -1 else 9223372036854775807) (n : Int) = -1 - (n : Int) := i64_not n (by omega)
  rw [hT, ← hj]
  have e1 : (n : Int) % 256 = ((n % 256 : Nat) : Int) := by omega
  have e2 : (n : Int) / 256 = ((n / 256 : Nat) : Int) := by omega
  have e3 : (-1 - (n : Int)) % 256 = ((255 - n % 256 : Nat) : Int) := by omega
  have e4 : (-1 - (n : Int)) / 256 % 256 = ((255 - n / 256 : Nat) : Int) := by omega
  rw [e1, e2, e3, e4]
  rfl

theorem hdr_small (last n : Nat) (hl : last < 2) (hn : n ≤ 65535) : ∀ z ∈ hdr last n, z < 256 := by
  intro z hz
  unfold hdr at hz
  simp only [List.mem_cons, List.not_mem_nil, or_false] at hz
  rcases hz with rfl | rfl | rfl | rfl | rfl <;> omega

/-- one piece more is laid -/
theorem PkAt.next {w ws w2 : World} {zs : List Nat} {K : Nat} {cs : List (List Nat)} {rest : List Nat} {pv pv' : Value} {ra ra' : Option Addr} {rc n : Nat} (h : PkAt w ws zs K cs rest pv ra rc) (sz : ∀ z ∈ zs, z < 256) (hn : n ≤ rest.length) (hn2 : n ≤ 65535) (hcnt : cs.length + 1 ≤ K + cs.flatten.length + n)
    (hown : w2.ownsRow w.heap.size 5 1 pv' ((laid cs).length + 5 + n) (((laid cs).map bv ++ (hdr 0 n).map bv) ++ (rest.take n).map bv)) (hb : Below w.heap.size w w2) (hby : Bytes w ra' (rc - n) (rest.drop n)) :
    PkAt w w2 zs K (cs ++ [rest.take n]) (rest.drop n) pv' ra' (rc - n) := by
  have hl : (rest.take n).length = n := by rw [List.length_take]; omega
  refine ⟨?_, hb, hby, ?_, ?_, ?_⟩
  · rw [laid_snoc, blk_hdr, hl]
    have e : (laid cs ++ (hdr 0 n ++ rest.take n)).length = (laid cs).length + 5 + n := by rw [List.length_append, List.length_append, hl]; show _ + (5 + n) = _; omega
    rw [e, List.map_append, List.map_append, ← List.append_assoc]
    exact hown
  · rw [h.eq, List.flatten_append, List.append_assoc]
    simp
  · intro c hc
    rw [List.mem_append] at hc
    rcases hc with hc | hc
    · exact h.ok c hc
    · rw [List.mem_singleton.1 hc]
      exact ⟨by omega, fun x hx => sz x (by rw [h.eq]; exact List.mem_append_right _ (List.mem_of_mem_take hx))⟩
  · rw [List.length_append, List.flatten_append, List.length_append, List.length_singleton]
    rw [List.flatten_cons, List.flatten_nil, List.append_nil, hl]
    omega

/-- what is told of all pieces -/
theorem PkAt.told {w ws : World} {zs : List Nat} {K : Nat} {cs : List (List Nat)} {rest : List Nat} {pv : Value} {ra : Option Addr} {rc : Nat} (h : PkAt w ws zs K cs rest pv ra rc) (sz : ∀ z ∈ zs, z < 256) (hn2 : rest.length ≤ 65535) :
    Tells gg ce (Infl.bitsOf (laid cs ++ blk 1 rest)) zs.length (.ok zs (8 * (laid cs ++ blk 1 rest).length)) := by
  have hf : (cs ++ [rest]).flatten = zs := by rw [h.eq, List.flatten_append]; simp
  have := (stored_tells (g := gg) (ce := ce) (cs ++ [rest]) zs.length (by simp) (fun c hc => by
    rw [List.mem_append] at hc
    rcases hc with hc | hc
    · exact h.ok c hc
    · rw [List.mem_singleton.1 hc]
      exact ⟨hn2, fun x hx => sz x (by rw [h.eq]; exact List.mem_append_right _ hx)⟩)).1 (by rw [hf]; exact Nat.le_refl _)
  rw [hf, pack_snoc] at this
  exact this

theorem cut_at (z : Int) (m : Nat) (hm : m ≤ 65535) (hz : -9223372036854775808 ≤ z ∧ z < 9223372036854775808) :
    ∃ n : Nat, (wrap64 (wrap64 (z.tmod ((m : Int) + 1) + (m : Int)) + 1)).tmod ((m : Int) + 1) = (n : Int) ∧ n ≤ m := by
  have h1 : z.tmod ((m : Int) + 1) < (m : Int) + 1 := Int.tmod_lt_of_pos _ (by omega)
  have h2 : -((m : Int) + 1) < z.tmod ((m : Int) + 1) := by
    have := Int.tmod_lt_of_pos (-z) (show (0 : Int) < (m : Int) + 1 by omega)
    rw [Int.neg_tmod] at this
    omega
  generalize z.tmod ((m : Int) + 1) = t at h1 h2
  have e1 : wrap64 (t + (m : Int)) = t + (m : Int) := by unfold wrap64; omega
  have e2 : wrap64 (t + (m : Int) + 1) = t + (m : Int) + 1 := by unfold wrap64; omega
  rw [e1, e2]
  have h3 : 0 ≤ (t + (m : Int) + 1).tmod ((m : Int) + 1) := Int.tmod_nonneg _ (by omega)
  have h4 : (t + (m : Int) + 1).tmod ((m : Int) + 1) < (m : Int) + 1 := Int.tmod_lt_of_pos _ (by omega)
  exact ⟨((t + (m : Int) + 1).tmod ((m : Int) + 1)).toNat, by omega, by omega⟩

set_option maxHeartbeats 4000000 in
theorem stored_walk (a b : Option Addr) (ca cb : Nat) (zs : List Nat) (ks : List Int) (w : World) (h1 : Bytes w a ca zs) (h2 : ReadsI w (.slice b ks.length cb) ks) (hz : zs.length ≤ 1048576) (hk : ks.length ≤ 1048576) (sz : ∀ z ∈ zs, z < 256) (sk : ∀ k ∈ ks, -9223372036854775808 ≤ k ∧ k < 9223372036854775808) :
    Calls Try.prog 6 #[.slice a zs.length ca, .slice b ks.length cb] w fun e w' => e = .returned (.bool true) ∧ Below w.heap.size w w' := by
  obtain ⟨i0, hi, hz0, hz1, hz2⟩ := info_parts info5
  have H1 := hide h1
  have H2 := hide h2
  have SZ := hide sz
  have SK := hide sk
  obtain ⟨N, hN⟩ : ∃ N, N = zs.length := ⟨_, rfl⟩
  obtain ⟨K, hK⟩ : ∃ K, K = ks.length := ⟨_, rfl⟩
  have HST : Hid (PkAt w w zs K [] zs (.slice none 0 0) a ca) := hide ⟨World.ownsRow_nil _ _ _ _, Below.refl _ _, h1, rfl, fun c hc => by simp at hc, by simp⟩
  rw [← hN] at hz ⊢
  rw [← hK] at hk ⊢
  have HN := hide hN
  have HK := hide hK
  clear h1 h2 sz sk hN hK
  go_enter Try.func6, Try.ntmps6
  go_wp2_with fail
  go_loopg [5, 6, 7] (K + N) (fun gk pk rs c ws => ∃ (cs : List (List Nat)) (rest : List Nat) (ra : Option Addr) (rc R i : Nat) (pv : Value), gk = (K - i) + R ∧ pv = pk ∧ rs = .slice ra R rc ∧ c = .int .i64 (i : Int) ∧ Hid (R = rest.length) ∧ Hid (i = cs.length) ∧ Hid (PkAt w ws zs K cs rest pv ra rc))
  case atStart => exact ⟨[], zs, a, ca, N, 0, _, by omega, rfl, rfl, rfl, HN, hide rfl, HST⟩
  case round =>
    obtain ⟨cs, rest, ra, rc, R, i, pv, rfl, rfl, rfl, rfl, HR, HI, hat⟩ := hrel
    clear HST
    have hRN : R ≤ N := by have := congrArg List.length (unhide hat).eq; rw [List.length_append, ← unhide HN, ← unhide HR] at this; omega
    have hiB : i ≤ K + N := by
      have h1 := (unhide hat).cnt
      have := congrArg List.length (unhide hat).eq; rw [List.length_append, ← unhide HN] at this
      have := unhide HI
      omega
    obtain ⟨m, hm⟩ : ∃ m, m = min R 65535 := ⟨_, rfl⟩
    have hmn := run_min_nat (A := (R : Int)) (B := (65535 : Int)) rfl rfl hm
    have hm1 : m ≤ R := by omega
    have hm2 : m ≤ 65535 := by omega
    have HMM := hide hm
    clear hm
    by_cases hiK : i < K
    · have tiK : (i : Int) < (K : Int) := by omega
      obtain ⟨b', cb', eb, hcells⟩ := unhide H2
      rw [← unhide HK] at eb hcells
      injection eb with eb1 eb2 eb3
      subst eb1 eb3
      obtain ⟨bb, boff, rfl, hc⟩ := hcells (by omega)
      have hci := cell_stays (unhide hat).bel (hc i hiK)
      obtain ⟨z, hzz⟩ : ∃ z, z = ks.getD i 0 := ⟨_, rfl⟩
      rw [← hzz] at hci
      have hzb : -9223372036854775808 ≤ z ∧ z < 9223372036854775808 := by
        rw [hzz]
        refine unhide SK _ ?_
        rw [List.getD_eq_getElem?_getD, List.getElem?_eq_getElem (by rw [← unhide HK]; exact hiK)]
        exact List.getElem_mem _
      have HZB := hide hzb
      clear hcells hc hzz hzb
      go_upto_region 8 with fail
      obtain ⟨n, hn, hnm⟩ := cut_at z m hm2 (unhide HZB)
      generalize wrap64 (wrap64 (z.tmod ((m : Int) + 1) + (m : Int)) + 1) = X at hn ⊢
      generalize wrap64 (z.tmod ((m : Int) + 1) + (m : Int)) = X2
      generalize z.tmod ((m : Int) + 1) = X3
      rw [hn]
      have tiK2 : ¬ (K : Int) ≤ (i : Int) := by omega
      have tiK3 : decide ((K : Int) ≤ (i : Int)) = false := by simp; omega
      clear hn hmn HMM
      obtain ⟨P, hP⟩ : ∃ P, P = (laid cs).length := ⟨_, rfl⟩
      have hPB : P ≤ 20000000 := by
        have e1 := laid_len cs
        have e2 := congrArg List.length (unhide hat).eq
        rw [List.length_append, ← unhide HN] at e2
        have e3 := (unhide hat).cnt
        omega
      have HOW : Hid ((wr.alloc (.cells #[.int .u8 0, .int .u8 ((n : Int) % 256), .int .u8 ((n : Int) / 256), .int .u8 (bits BinOp.xor IntKind.i64 (if IntKind.i64.signed = true then -1 else 9223372036854775807) (n : Int) % 256), .int .u8 (bits BinOp.xor IntKind.i64 (if IntKind.i64.signed = true then -1 else 9223372036854775807) (n : Int) / 256 % 256)] 5)).ownsRow w.heap.size 5 1 pv P ((laid cs).map bv)) := hide (by rw [hP]; exact (unhide hat).own.alloc _)
      have HNEWS : Hid (∀ (j : Nat) u, ((hdr 0 n).map bv)[j]? = some u → (wr.alloc (.cells #[.int .u8 0, .int .u8 ((n : Int) % 256), .int .u8 ((n : Int) / 256), .int .u8 (bits BinOp.xor IntKind.i64 (if IntKind.i64.signed = true then -1 else 9223372036854775807) (n : Int) % 256), .int .u8 (bits BinOp.xor IntKind.i64 (if IntKind.i64.signed = true then -1 else 9223372036854775807) (n : Int) / 256 % 256)] 5)).cell? ((⟨wr.heap.size, 0, none⟩ : Addr).add j) = some u) := hide (hdr_news wr 0 n (by omega))
      obtain ⟨ra', hsl, hby⟩ := (unhide hat).by'.rest n (by rw [← unhide HR]; omega)
      have hsf := (unhide hat).by'.first n (by rw [← unhide HR]; omega)
      rw [← unhide HR] at hsl hsf
      have HBY := hide hby
      have HP := hide hP
      have hnR : n ≤ R := by omega
      clear hby hP
      by_cases hn0 : 0 < n
      · have hlt : (rest.take n).length = n := by rw [List.length_take, ← unhide HR]; omega
        have HLT := hide hlt
        obtain ⟨ra2, rc2, er, hra⟩ := (unhide hat).by'.take n (by rw [← unhide HR]; omega)
        rw [hlt] at er hra
        injection er with er1 er2 er3
        subst er1 er3
        obtain ⟨ad, hrad, hcells⟩ := hra hn0
        have HCELLS := hide hcells
        subst hrad
        clear hlt hcells
        go_wp2_with (at_builtin; first | (refine wpList_append_lies _ rfl (.tmp 46) (.tmp 60) 22 rfl w.heap.size 5 i0 (.int .u8 0) 1 1 Try.underlying22 hi hz0 hz1 hz2 rfl (by decide) pv P ((laid cs).map bv) (by rfl) (unhide HOW) ⟨wr.heap.size, 0, none⟩ 5 5 ((hdr 0 n).map bv) (by rfl) rfl (unhide HNEWS) (one_cells _) (by decide) (by unfold maxLen; omega) (by omega) (by have := (unhide hat).bel.size; simp; omega) _ rfl ?_; intro g3 c3 w3 hown3 hgrow3 hat3 hglt3; have HO3 := hide hown3; have HB3 : Hid (Below w.heap.size w w3) := hide (((unhide hat).bel.alloc (unhide hat).bel.size _).grown hgrow3 (by have := (unhide hat).bel.size; simp; omega) (fun k e => ((unhide hat).own.lt k e).1)); have HB3r : Hid (∀ p u, wr.cell? p = some u → p.block < w.heap.size → w3.cell? p = some u) := hide (fun p u hp hlt => (by rw [(unhide HB3).cell hlt, ← (unhide hat).bel.cell hlt]; exact hp)); clear hown3 hgrow3 hat3 hglt3) | (refine wpList_append_lies _ rfl (.tmp 62) (.tmp 65) 22 rfl w.heap.size 5 i0 (.int .u8 0) 1 1 Try.underlying22 hi hz0 hz1 hz2 rfl (by decide) _ (P + 5) _ (by rfl) (unhide HO3) ad n rc ((rest.take n).map bv) (by rfl) (by rw [List.length_map, unhide HLT, Nat.mul_one]) (fun j u hj => (by have hc := unhide HCELLS j u hj; rw [(unhide HB3).cell (cell_lt hc)]; exact hc)) (one_cells _) hn0 (by unfold maxLen; omega) (by omega) (unhide HB3).size _ rfl ?_; intro g4 c4 w4 hown4 hgrow4 hat4 hglt4; have HO4 := hide hown4; have HB4 : Hid (Below w.heap.size w w4) := hide ((unhide HB3).grown hgrow4 (unhide HB3).size (fun k e => ((unhide HO3).lt k e).1)); clear hown4 hgrow4 hat4 hglt4))
        go_roundg ((K - (i + 1)) + (R - n))
        case measure => omega
        case rel => exact ⟨cs ++ [rest.take n], rest.drop n, ra', rc - n, R - n, i + 1, _, rfl, rfl, rfl, by go_num, hide (by rw [List.length_drop, ← unhide HR]), hide (by rw [List.length_append, ← unhide HI]; rfl), hide ((unhide hat).next (unhide SZ) (by rw [← unhide HR]; exact hnR) (by omega) (by have := unhide HI; omega) (by rw [← unhide HP]; exact unhide HO4) (unhide HB4) (unhide HBY))⟩
      · obtain rfl : n = 0 := by omega
        go_wp2_with (at_builtin; first | (refine wpList_append_lies _ rfl (.tmp 46) (.tmp 60) 22 rfl w.heap.size 5 i0 (.int .u8 0) 1 1 Try.underlying22 hi hz0 hz1 hz2 rfl (by decide) pv P ((laid cs).map bv) (by rfl) (unhide HOW) ⟨wr.heap.size, 0, none⟩ 5 5 ((hdr 0 0).map bv) (by rfl) rfl (unhide HNEWS) (one_cells _) (by decide) (by unfold maxLen; omega) (by omega) (by have := (unhide hat).bel.size; simp; omega) _ rfl ?_; intro g3 c3 w3 hown3 hgrow3 hat3 hglt3; have HO3 := hide hown3; have HB3 : Hid (Below w.heap.size w w3) := hide (((unhide hat).bel.alloc (unhide hat).bel.size _).grown hgrow3 (by have := (unhide hat).bel.size; simp; omega) (fun k e => ((unhide hat).own.lt k e).1)); have HB3r : Hid (∀ p u, wr.cell? p = some u → p.block < w.heap.size → w3.cell? p = some u) := hide (fun p u hp hlt => (by rw [(unhide HB3).cell hlt, ← (unhide hat).bel.cell hlt]; exact hp)); clear hown3 hgrow3 hat3 hglt3) | (refine wpList_append_zero rfl (.tmp 62) (.tmp 65) rfl (some ⟨g3, 0, none⟩) ra (P + 5) c3 rc (own_le (unhide HO3)) (by rfl) (by rfl) ?_))
        go_roundg ((K - (i + 1)) + R)
        case measure => omega
        case rel => exact ⟨cs ++ [rest.take 0], rest.drop 0, ra, rc, R, i + 1, _, rfl, rfl, rfl, by go_num, hide (by simpa using unhide HR), hide (by rw [List.length_append, ← unhide HI]; rfl), hide ((unhide hat).next (n := 0) (unhide SZ) (by omega) (by omega) (by have := unhide HI; omega) (by rw [← unhide HP]; simpa using unhide HO3) (unhide HB3) (by simpa using (unhide hat).by'))⟩
    · have tiK : ¬ (i : Int) < (K : Int) := by omega
      have tiK2 : (K : Int) ≤ (i : Int) := by omega
      have tiK3 : decide ((K : Int) ≤ (i : Int)) = true := by simp; omega
      obtain ⟨n, hn⟩ : ∃ n, n = m := ⟨_, rfl⟩
      subst hn
      by_cases hlast : n = R
      · have tl : ((n : Int) == (R : Int)) = true := by simp only [beq_iff_eq]; omega
        have tl2 : (n : Int) = (R : Int) := by omega
        have HLA := hide hlast
        clear hlast tl2
        obtain ⟨P, hP⟩ : ∃ P, P = (laid cs).length := ⟨_, rfl⟩
        have hPB : P ≤ 20000000 := by
          have e1 := laid_len cs
          have e2 := congrArg List.length (unhide hat).eq
          rw [List.length_append, ← unhide HN] at e2
          have e3 := (unhide hat).cnt
          omega
        have HOW : Hid ((wr.alloc (.cells #[.int .u8 1, .int .u8 ((n : Int) % 256), .int .u8 ((n : Int) / 256), .int .u8 (bits BinOp.xor IntKind.i64 (if IntKind.i64.signed = true then -1 else 9223372036854775807) (n : Int) % 256), .int .u8 (bits BinOp.xor IntKind.i64 (if IntKind.i64.signed = true then -1 else 9223372036854775807) (n : Int) / 256 % 256)] 5)).ownsRow w.heap.size 5 1 pv P ((laid cs).map bv)) := hide (by rw [hP]; exact (unhide hat).own.alloc _)
        have HNEWS : Hid (∀ (j : Nat) u, ((hdr 1 n).map bv)[j]? = some u → (wr.alloc (.cells #[.int .u8 1, .int .u8 ((n : Int) % 256), .int .u8 ((n : Int) / 256), .int .u8 (bits BinOp.xor IntKind.i64 (if IntKind.i64.signed = true then -1 else 9223372036854775807) (n : Int) % 256), .int .u8 (bits BinOp.xor IntKind.i64 (if IntKind.i64.signed = true then -1 else 9223372036854775807) (n : Int) / 256 % 256)] 5)).cell? ((⟨wr.heap.size, 0, none⟩ : Addr).add j) = some u) := hide (hdr_news wr 1 n (by omega))
        obtain ⟨ra', hsl, hby⟩ := (unhide hat).by'.rest n (by have := unhide HLA; rw [← unhide HR]; omega)
        have hsf := (unhide hat).by'.first n (by have := unhide HLA; rw [← unhide HR]; omega)
        rw [← unhide HR] at hsl hsf
        have HBY := hide hby
        have HP := hide hP
        have hnR : n ≤ R := by omega
        clear hby hP
        have hmn2 := run_min_nat (a := N) (b := 268435456) (x := N) (A := (N : Int)) (B := (268435456 : Int)) rfl rfl (by omega)
        have tbig : ¬ (268435456 : Int) < (N : Int) := by omega
        by_cases hn0 : 0 < n
        · have hlt : (rest.take n).length = n := by rw [List.length_take, ← unhide HR]; omega
          have HLT := hide hlt
          obtain ⟨ra2, rc2, er, hra⟩ := (unhide hat).by'.take n (by have := unhide HLA; rw [← unhide HR]; omega)
          rw [hlt] at er hra
          injection er with er1 er2 er3
          subst er1 er3
          obtain ⟨ad, hrad, hcells⟩ := hra hn0
          have HCELLS := hide hcells
          subst hrad
          clear hlt hcells
          go_wp2_with (at_builtin; first | (refine wpList_append_lies _ rfl (.tmp 46) (.tmp 60) 22 rfl w.heap.size 5 i0 (.int .u8 0) 1 1 Try.underlying22 hi hz0 hz1 hz2 rfl (by decide) pv P ((laid cs).map bv) (by rfl) (unhide HOW) ⟨wr.heap.size, 0, none⟩ 5 5 ((hdr 1 n).map bv) (by rfl) rfl (unhide HNEWS) (one_cells _) (by decide) (by unfold maxLen; omega) (by omega) (by have := (unhide hat).bel.size; simp; omega) _ rfl ?_; intro g3 c3 w3 hown3 hgrow3 hat3 hglt3; have HO3 := hide hown3; have HB3 : Hid (Below w.heap.size w w3) := hide (((unhide hat).bel.alloc (unhide hat).bel.size _).grown hgrow3 (by have := (unhide hat).bel.size; simp; omega) (fun k e => ((unhide hat).own.lt k e).1)); have HB3r : Hid (∀ p u, wr.cell? p = some u → p.block < w.heap.size → w3.cell? p = some u) := hide (fun p u hp hlt => (by rw [(unhide HB3).cell hlt, ← (unhide hat).bel.cell hlt]; exact hp)); clear hown3 hgrow3 hat3 hglt3) | (refine wpList_append_lies _ rfl (.tmp 62) (.tmp 65) 22 rfl w.heap.size 5 i0 (.int .u8 0) 1 1 Try.underlying22 hi hz0 hz1 hz2 rfl (by decide) _ (P + 5) _ (by rfl) (unhide HO3) ad n rc ((rest.take n).map bv) (by rfl) (by rw [List.length_map, unhide HLT, Nat.mul_one]) (fun j u hj => (by have hc := unhide HCELLS j u hj; rw [(unhide HB3).cell (cell_lt hc)]; exact hc)) (one_cells _) hn0 (by unfold maxLen; omega) (by omega) (unhide HB3).size _ rfl ?_; intro g4 c4 w4 hown4 hgrow4 hat4 hglt4; have HO4 := hide hown4; have HB4 : Hid (Below w.heap.size w w4) := hide ((unhide HB3).grown hgrow4 (unhide HB3).size (fun k e => ((unhide HO3).lt k e).1)); clear hown4 hgrow4 hat4 hglt4))
          obtain ⟨pl, hpl⟩ : ∃ pl, pl = laid cs ++ blk 1 rest := ⟨_, rfl⟩
          have HTL : Hid (Tells gg ce (Infl.bitsOf pl) N (.ok zs (8 * pl.length))) := hide (by rw [hpl, unhide HN]; exact (unhide hat).told (unhide SZ) (by have := unhide HLA; rw [← unhide HR]; omega))
          have hln : pl.length = P + 5 + n := by have := unhide HLA; rw [hpl, List.length_append, blk_len, ← unhide HR, ← unhide HP]; omega
          have hrn : rest.length = n := by have := unhide HLA; rw [← unhide HR]; omega
          have HBP : Hid (Bytes w4 (some ⟨g4, 0, none⟩) c4 pl) := hide ⟨by rw [hln]; exact own_le (unhide HO4), by rw [hln]; exact reads_row (by rw [hpl, blk_hdr, hrn, List.map_append, List.map_append, ← List.append_assoc]; rw [show rest = rest.take n from by rw [List.take_of_length_le (by omega)]]; exact unhide HO4) hln⟩
          have HSM : Hid (∀ z ∈ pl, z < 256) := hide (by
            intro z hz
            rw [hpl, List.mem_append] at hz
            rcases hz with hz | hz
            · unfold laid at hz
              rw [List.mem_flatten] at hz
              obtain ⟨l, hl, hzl⟩ := hz
              rw [List.mem_map] at hl
              obtain ⟨c, hc, rfl⟩ := hl
              have hco := (unhide hat).ok c hc
              rw [blk_hdr, List.mem_append] at hzl
              rcases hzl with h | h
              · exact hdr_small 0 _ (by decide) hco.1 z h
              · exact hco.2 z h
            · rw [blk_hdr, List.mem_append] at hz
              rcases hz with h | h
              · exact hdr_small 1 _ (by decide) (by have := unhide HLA; rw [← unhide HR]; omega) z h
              · exact unhide SZ z (by rw [(unhide hat).eq]; exact List.mem_append_right _ h))
          have HIN := inflate_is (some ⟨g4, 0, none⟩) c4 pl N w4 _ (unhide HBP) (by rw [hln]; omega) (unhide HSM) (by omega) (unhide HTL)
          rw [hln] at HIN
          have HIN := hide HIN
          clear hpl hln hrn HBP HSM
          go_wp2_with fail
          refine (unhide HIN).mono ?_
          rintro e w5 hri
          obtain ⟨hb5, x, rfl, -, hrx, -, -⟩ := hri.ok
          have HB5 : Hid (Below w.heap.size w w5) := hide ((unhide HB4).trans (hb5.mono (unhide HB4).size))
          have hcx := conv_str hrx (unhide SZ)
          have hcb := conv_str ((unhide H1).stays (unhide HB5)).2 (unhide SZ)
          rw [← unhide HN] at hcb
          rw [show ((8 * (P + 5 + n) + 7) / 8 : Nat) = P + 5 + n from by omega]
          generalize strOf zs = S at hcx hcb
          clear hri hb5 hrx HIN HTL
          go_wp2_with fail
          go_ret
          exact ⟨rfl, unhide HB5⟩
        · obtain rfl : n = 0 := by omega
          go_wp2_with (at_builtin; first | (refine wpList_append_lies _ rfl (.tmp 46) (.tmp 60) 22 rfl w.heap.size 5 i0 (.int .u8 0) 1 1 Try.underlying22 hi hz0 hz1 hz2 rfl (by decide) pv P ((laid cs).map bv) (by rfl) (unhide HOW) ⟨wr.heap.size, 0, none⟩ 5 5 ((hdr 1 0).map bv) (by rfl) rfl (unhide HNEWS) (one_cells _) (by decide) (by unfold maxLen; omega) (by omega) (by have := (unhide hat).bel.size; simp; omega) _ rfl ?_; intro g3 c3 w3 hown3 hgrow3 hat3 hglt3; have HO3 := hide hown3; have HB3 : Hid (Below w.heap.size w w3) := hide (((unhide hat).bel.alloc (unhide hat).bel.size _).grown hgrow3 (by have := (unhide hat).bel.size; simp; omega) (fun k e => ((unhide hat).own.lt k e).1)); have HB3r : Hid (∀ p u, wr.cell? p = some u → p.block < w.heap.size → w3.cell? p = some u) := hide (fun p u hp hlt => (by rw [(unhide HB3).cell hlt, ← (unhide hat).bel.cell hlt]; exact hp)); clear hown3 hgrow3 hat3 hglt3) | (refine wpList_append_zero rfl (.tmp 62) (.tmp 65) rfl (some ⟨g3, 0, none⟩) ra (P + 5) c3 rc (own_le (unhide HO3)) (by rfl) (by rfl) ?_))
          obtain ⟨pl, hpl⟩ : ∃ pl, pl = laid cs ++ blk 1 rest := ⟨_, rfl⟩
          have HTL : Hid (Tells gg ce (Infl.bitsOf pl) N (.ok zs (8 * pl.length))) := hide (by rw [hpl, unhide HN]; exact (unhide hat).told (unhide SZ) (by have := unhide HLA; rw [← unhide HR]; omega))
          have hln : pl.length = P + 5 := by have := unhide HLA; rw [hpl, List.length_append, blk_len, ← unhide HR, ← unhide HP]; omega
          have hrn : rest.length = 0 := by have := unhide HLA; rw [← unhide HR]; omega
          have HBP : Hid (Bytes w3 (some ⟨g3, 0, none⟩) c3 pl) := hide ⟨by rw [hln]; exact own_le (unhide HO3), by rw [hln]; exact reads_row (by rw [hpl, blk_hdr, hrn, List.map_append, List.map_append, ← List.append_assoc]; rw [show rest = [] from List.eq_nil_of_length_eq_zero hrn]; simpa using unhide HO3) hln⟩
          have HSM : Hid (∀ z ∈ pl, z < 256) := hide (by
            intro z hz
            rw [hpl, List.mem_append] at hz
            rcases hz with hz | hz
            · unfold laid at hz
              rw [List.mem_flatten] at hz
              obtain ⟨l, hl, hzl⟩ := hz
              rw [List.mem_map] at hl
              obtain ⟨c, hc, rfl⟩ := hl
              have hco := (unhide hat).ok c hc
              rw [blk_hdr, List.mem_append] at hzl
              rcases hzl with h | h
              · exact hdr_small 0 _ (by decide) hco.1 z h
              · exact hco.2 z h
            · rw [blk_hdr, List.mem_append] at hz
              rcases hz with h | h
              · exact hdr_small 1 _ (by decide) (by have := unhide HLA; rw [← unhide HR]; omega) z h
              · exact unhide SZ z (by rw [(unhide hat).eq]; exact List.mem_append_right _ h))
          have HIN := inflate_is (some ⟨g3, 0, none⟩) c3 pl N w3 _ (unhide HBP) (by rw [hln]; omega) (unhide HSM) (by omega) (unhide HTL)
          rw [hln] at HIN
          have HIN := hide HIN
          clear hpl hln hrn HBP HSM
          go_wp2_with fail
          refine (unhide HIN).mono ?_
          rintro e w5 hri
          obtain ⟨hb5, x, rfl, -, hrx, -, -⟩ := hri.ok
          have HB5 : Hid (Below w.heap.size w w5) := hide ((unhide HB3).trans (hb5.mono (unhide HB3).size))
          have hcx := conv_str hrx (unhide SZ)
          have hcb := conv_str ((unhide H1).stays (unhide HB5)).2 (unhide SZ)
          rw [← unhide HN] at hcb
          rw [show ((8 * (P + 5) + 7) / 8 : Nat) = P + 5 from by omega]
          generalize strOf zs = S at hcx hcb
          clear hri hb5 hrx HIN HTL
          go_wp2_with fail
          go_ret
          exact ⟨rfl, unhide HB5⟩
      · have tl : ((n : Int) == (R : Int)) = false := by simp only [beq_eq_false_iff_ne, ne_eq]; omega
        have tl2 : ¬ (n : Int) = (R : Int) := by omega
        have hn65 : n = 65535 := by have := unhide HMM; omega
        have HN65 := hide hn65
        clear hn65
        obtain ⟨P, hP⟩ : ∃ P, P = (laid cs).length := ⟨_, rfl⟩
        have hPB : P ≤ 20000000 := by
          have e1 := laid_len cs
          have e2 := congrArg List.length (unhide hat).eq
          rw [List.length_append, ← unhide HN] at e2
          have e3 := (unhide hat).cnt
          omega
        have HOW : Hid ((wr.alloc (.cells #[.int .u8 0, .int .u8 ((n : Int) % 256), .int .u8 ((n : Int) / 256), .int .u8 (bits BinOp.xor IntKind.i64 (if IntKind.i64.signed = true then -1 else 9223372036854775807) (n : Int) % 256), .int .u8 (bits BinOp.xor IntKind.i64 (if IntKind.i64.signed = true then -1 else 9223372036854775807) (n : Int) / 256 % 256)] 5)).ownsRow w.heap.size 5 1 pv P ((laid cs).map bv)) := hide (by rw [hP]; exact (unhide hat).own.alloc _)
        have HNEWS : Hid (∀ (j : Nat) u, ((hdr 0 n).map bv)[j]? = some u → (wr.alloc (.cells #[.int .u8 0, .int .u8 ((n : Int) % 256), .int .u8 ((n : Int) / 256), .int .u8 (bits BinOp.xor IntKind.i64 (if IntKind.i64.signed = true then -1 else 9223372036854775807) (n : Int) % 256), .int .u8 (bits BinOp.xor IntKind.i64 (if IntKind.i64.signed = true then -1 else 9223372036854775807) (n : Int) / 256 % 256)] 5)).cell? ((⟨wr.heap.size, 0, none⟩ : Addr).add j) = some u) := hide (hdr_news wr 0 n (by omega))
        obtain ⟨ra', hsl, hby⟩ := (unhide hat).by'.rest n (by rw [← unhide HR]; omega)
        have hsf := (unhide hat).by'.first n (by rw [← unhide HR]; omega)
        rw [← unhide HR] at hsl hsf
        have HBY := hide hby
        have HP := hide hP
        have hnR : n ≤ R := by omega
        clear hby hP
        by_cases hn0 : 0 < n
        · have hlt : (rest.take n).length = n := by rw [List.length_take, ← unhide HR]; omega
          have HLT := hide hlt
          obtain ⟨ra2, rc2, er, hra⟩ := (unhide hat).by'.take n (by rw [← unhide HR]; omega)
          rw [hlt] at er hra
          injection er with er1 er2 er3
          subst er1 er3
          obtain ⟨ad, hrad, hcells⟩ := hra hn0
          have HCELLS := hide hcells
          subst hrad
          clear hlt hcells
          go_wp2_with (at_builtin; first | (refine wpList_append_lies _ rfl (.tmp 46) (.tmp 60) 22 rfl w.heap.size 5 i0 (.int .u8 0) 1 1 Try.underlying22 hi hz0 hz1 hz2 rfl (by decide) pv P ((laid cs).map bv) (by rfl) (unhide HOW) ⟨wr.heap.size, 0, none⟩ 5 5 ((hdr 0 n).map bv) (by rfl) rfl (unhide HNEWS) (one_cells _) (by decide) (by unfold maxLen; omega) (by omega) (by have := (unhide hat).bel.size; simp; omega) _ rfl ?_; intro g3 c3 w3 hown3 hgrow3 hat3 hglt3; have HO3 := hide hown3; have HB3 : Hid (Below w.heap.size w w3) := hide (((unhide hat).bel.alloc (unhide hat).bel.size _).grown hgrow3 (by have := (unhide hat).bel.size; simp; omega) (fun k e => ((unhide hat).own.lt k e).1)); have HB3r : Hid (∀ p u, wr.cell? p = some u → p.block < w.heap.size → w3.cell? p = some u) := hide (fun p u hp hlt => (by rw [(unhide HB3).cell hlt, ← (unhide hat).bel.cell hlt]; exact hp)); clear hown3 hgrow3 hat3 hglt3) | (refine wpList_append_lies _ rfl (.tmp 62) (.tmp 65) 22 rfl w.heap.size 5 i0 (.int .u8 0) 1 1 Try.underlying22 hi hz0 hz1 hz2 rfl (by decide) _ (P + 5) _ (by rfl) (unhide HO3) ad n rc ((rest.take n).map bv) (by rfl) (by rw [List.length_map, unhide HLT, Nat.mul_one]) (fun j u hj => (by have hc := unhide HCELLS j u hj; rw [(unhide HB3).cell (cell_lt hc)]; exact hc)) (one_cells _) hn0 (by unfold maxLen; omega) (by omega) (unhide HB3).size _ rfl ?_; intro g4 c4 w4 hown4 hgrow4 hat4 hglt4; have HO4 := hide hown4; have HB4 : Hid (Below w.heap.size w w4) := hide ((unhide HB3).grown hgrow4 (unhide HB3).size (fun k e => ((unhide HO3).lt k e).1)); clear hown4 hgrow4 hat4 hglt4))
          go_roundg ((K - (i + 1)) + (R - n))
          case measure => omega
          case rel => exact ⟨cs ++ [rest.take n], rest.drop n, ra', rc - n, R - n, i + 1, _, rfl, rfl, rfl, by go_num, hide (by rw [List.length_drop, ← unhide HR]), hide (by rw [List.length_append, ← unhide HI]; rfl), hide ((unhide hat).next (unhide SZ) (by rw [← unhide HR]; exact hnR) (by omega) (by have := unhide HI; have := unhide HN65; have := (unhide hat).cnt; omega) (by rw [← unhide HP]; exact unhide HO4) (unhide HB4) (unhide HBY))⟩
        · exfalso; have := unhide HN65; omega

end Go.Proofs.Ytppbnodgnphaaaa
