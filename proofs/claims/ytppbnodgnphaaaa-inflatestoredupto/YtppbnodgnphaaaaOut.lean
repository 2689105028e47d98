/- What comes out: single, again. -/
import Derived.Test.YtppbnodgnphaaaaRe
import Derived.Test.YtppbnodgnphaaaaCp
namespace Go.Proofs.Ytppbnodgnphaaaa
open Go.RowKit Mth Infl
set_option maxRecDepth 100000
set_option linter.unusedVariables false

theorem own_cells {w : World} {base : Nat} {v : Value} {m : List Nat} (h : w.ownsRow base 5 1 v m.length (m.map bv)) (h0 : 0 < m.length) : ∃ g cap, v = .slice (some ⟨g, 0, none⟩) m.length cap ∧ m.length ≤ cap ∧ base ≤ g ∧ ∀ j, j < m.length → w.cell? ⟨g, j, none⟩ = some (.int .u8 (m.getD j 0 : Int)) := by
  obtain ⟨hl, hr⟩ := h
  rcases hr with ⟨_, e⟩ | ⟨g, cap, cur, e, hb, hh, hle, hc, hs, ht⟩
  · omega
  · refine ⟨g, cap, e, hle, hb, fun j hj => ?_⟩
    have h2 : (cur.toList.take (m.length * 1))[j]? = (m.map bv)[j]? := by rw [ht]
    rw [List.getElem?_take, if_pos (by omega)] at h2
    simp only [World.cell?, hh]
    rw [← Array.getElem?_toList, h2]
    simp [bv, hj]

theorem piece_news {w : World} {g off n f k : Nat} {zs : List Nat} (hc : ∀ j, j < n → w.cell? ⟨g, off + j, none⟩ = some (.int .u8 (zs.getD j 0 : Int))) (hf : f + k ≤ n) :
    ∀ (j : Nat) u, (((zs.drop f).take k).map bv)[j]? = some u → w.cell? ((⟨g, off + f, none⟩ : Addr).add j) = some u := by
  intro j u hj
  have hl : j < k ∧ f + j < zs.length := by
    have : j < (((zs.drop f).take k).map bv).length := by
      rcases Nat.lt_or_ge j (((zs.drop f).take k).map bv).length with h | h
      · exact h
      · rw [List.getElem?_eq_none h] at hj; cases hj
    simp at this
    omega
  have e : (⟨g, off + f, none⟩ : Addr).add j = ⟨g, off + (f + j), none⟩ := by by_cases hq : j = 0 <;> simp [Addr.add, hq, Nat.add_assoc]
  rw [e, hc (f + j) (by omega)]
  rw [List.getElem?_map, List.getElem?_take, if_pos hl.1, List.getElem?_drop, List.getElem?_eq_getElem hl.2] at hj
  simp only [Option.map_some, Option.some.injEq] at hj
  rw [← hj]
  simp [bv, hl.2]

theorem run_min_nat {a b x : Nat} {A B : Int} (hA : A = (a : Int)) (hB : B = (b : Int)) (h : x = min a b) (w : World) : (Builtin.min_ #[3, 3] 3 #[.int .i64 A, .int .i64 B]).run Try.prog w = .ok (.int .i64 (x : Int)) w := by
  rw [run_min_int2, hA, hB]
  congr 2
  split <;> omega

theorem one_cells (l : List Nat) : ∀ u ∈ l.map bv, u.oneCell' = true := by
  intro u hu
  simp at hu
  obtain ⟨z, _, rfl⟩ := hu
  rfl


section
variable {rb rp : Nat} {v : Value} {w : World} {B g p q most : Nat} {zs out : List Nat} {sv dv : Value}

set_option maxHeartbeats 1000000 in
theorem single_no (x : Nat) (hx : x < 256) (h : RAt w B rb rp g zs p v out most sv dv) (hm : most ≤ 268435456) (hn : most < out.length + 1) :
    Calls Try.prog 51 #[.pointer (some ⟨rb, 0, none⟩), .int .u8 (x : Int)] w fun e w' => e = .returned (.int .i64 3) ∧ Chg rb rp v w v w' := by
  have HF := hide (fit_no 1 h hm hn (by decide))
  clear h hn hx
  go_enter Try.func51, Try.ntmps51
  go_wp2_with fail
  refine (unhide HF).mono ?_
  rintro e w' ⟨rfl, k, rfl⟩
  go_wp2_with fail
  go_ret
  exact ⟨rfl, (Chg.refl _ _ _ _).drewN k⟩

set_option maxHeartbeats 1000000 in
theorem single_yes (x : Nat) (hx : x < 256) (h : RAt w B rb rp g zs p v out most sv dv) (hm : most ≤ 268435456) (hn : ¬ most < out.length + 1) :
    Calls Try.prog 51 #[.pointer (some ⟨rb, 0, none⟩), .int .u8 (x : Int)] w fun e w' => e = .returned (.int .i64 0) ∧ ∃ v', RAt w' B rb rp g zs p v' (out ++ [x]) most sv dv ∧ Chg rb rp v w v' w' := by
  obtain ⟨i0, hi, hz0, hz1, hz2⟩ := info_parts info5
  have HF := hide (fit_yes 1 h hm hn (by decide))
  have HR := hide h
  have HX := hide hx
  have HN := hide hn
  have HM := hide hm
  clear h hn hx hm
  go_enter Try.func51, Try.ntmps51
  go_wp2_with fail
  refine (unhide HF).mono ?_
  rintro e w' ⟨rfl, k, rfl⟩
  have HR2 := hide ((unhide HR).drewN k)
  have HC2 : Hid (Chg rb rp v w v (w.drewN k)) := hide ((Chg.refl _ _ _ _).drewN k)
  generalize w.drewN k = w1 at HR2 HC2 ⊢
  clear HF HR
  have c2 := (unhide HR2).c2
  have f2 := (unhide HR2).fz 2
  have hlt := (unhide HR2).lt
  have HNEW : Hid (∀ (j : Nat) u, [bv x][j]? = some u → (w1.alloc (.cells #[bv x] 5)).cell? ((⟨w1.heap.size, 0, none⟩ : Addr).add j) = some u) := hide (news_one _ _)
  have HOW : Hid ((w1.alloc (.cells #[bv x] 5)).ownsRow B 5 1 v out.length (out.map bv)) := hide ((unhide HR2).row.alloc _)
  have HBS := hide (unhide HR2).hB
  go_wp2_with (at_builtin; go_must (refine wpList_append_lies _ rfl (.tmp 15) (.tmp 17) 22 rfl B 5 i0 (.int .u8 0) 1 1 Try.underlying22 hi hz0 hz1 hz2 rfl (by decide) v out.length (out.map bv) (by rfl) (unhide HOW) ⟨w1.heap.size, 0, none⟩ 1 1 [bv x] (by rfl) rfl (unhide HNEW) (by intro u hu; simp at hu; subst hu; rfl) (by decide) (by unfold maxLen; have := unhide HN; have := unhide HM; omega) (by have := unhide HN; have := unhide HM; omega) (by have := unhide HBS; simp; omega) (w1.heap.size + 1) (by simp) ?_; intro g' cap' w3 hown hgrow hat hglt; have HG := hide ((unhide HR2).grow ((Below.refl _ _).alloc (Nat.le_refl _) _) (ys := [x]) (by intro z hz; rw [List.mem_singleton.1 hz]; exact unhide HX) (by have := unhide HN; show out.length + 1 ≤ most; omega) hown hgrow (hat.elim Or.inl (fun e => Or.inr (by omega)))); have hbk : w3.heap[rb]? = w1.heap[rb]? := (by rw [hgrow.block rb (by simp; omega) (fun e => by have := ((unhide HR2).own e.symm).1; have := (unhide HR2).lb; omega), Below.heap_alloc _ _ _ hlt]); have c2' : w3.cell? ⟨rb, 2, none⟩ = some v := (by rw [← c2]; exact World.cell?_of_block hbk); have f2' : w3.frozen? ⟨rb, 2, none⟩ = false := (by rw [← f2]; exact World.frozen?_of_block hbk); clear hown hgrow hat hglt hbk))
  go_ret
  exact ⟨rfl, _, (unhide HG).1, (unhide HC2).trans (unhide HG).2⟩

/-- behind so many bytes of the piece -/
structure AgAt (w ws : World) (B rb rp g : Nat) (zs : List Nat) (p : Nat) (v vi : Value) (out : List Nat) (most : Nat) (sv dv : Value) (n d left j : Nat) : Prop where
  sum : left + j = n
  rat : RAt ws B rb rp g zs p vi (Infl.cp d j out) most sv dv
  chg : Chg rb rp v w vi ws
  per : 0 < left → j % d = 0

set_option maxHeartbeats 1000000 in
theorem again_ok (n d : Nat) (h : RAt w B rb rp g zs p v out most sv dv) (hm : most ≤ 268435456) (hn : out.length + n ≤ most) (hd : 1 ≤ d) (hdl : d ≤ out.length) (hn2 : n ≤ 1000000) :
    Calls Try.prog 64 #[.pointer (some ⟨rb, 0, none⟩), .int .i64 (n : Int), .int .i64 (d : Int)] w fun e w' => e = .returned (.tuple #[]) ∧ ∃ v', RAt w' B rb rp g zs p v' (Infl.cp d n out) most sv dv ∧ Chg rb rp v w v' w' := by
  obtain ⟨i0, hi, hz0, hz1, hz2⟩ := info_parts info5
  have HR := hide h
  have c2 := h.c2
  obtain ⟨a, c, hv⟩ := h.slice
  rw [hv] at c2
  obtain ⟨L, hL⟩ : ∃ L, L = out.length := ⟨_, rfl⟩
  rw [← hL] at c2 hn hdl
  obtain ⟨F, hF⟩ : ∃ F : Nat, F + d = L := ⟨L - d, by omega⟩
  have hFi : (L : Int) - (d : Int) = (F : Int) := by omega
  have HST : Hid (AgAt w w B rb rp g zs p v v out most sv dv n d n 0) := hide ⟨by omega, h, Chg.refl _ _ _ _, fun _ => Nat.zero_mod d⟩
  have HL := hide hL
  have HV := hide hv
  clear h hL hv
  go_enter Try.func64, Try.ntmps64
  go_wp2_with fail
  clear hFi c2
  go_loopg [1] n (fun gk l ws => ∃ (left j : Nat) (vi : Value), left = gk ∧ l = .int .i64 (left : Int) ∧ left ≤ n ∧ Hid (AgAt w ws B rb rp g zs p v vi out most sv dv n d left j))
  case atStart => exact ⟨n, 0, v, rfl, rfl, Nat.le_refl _, HST⟩
  case round =>
    obtain ⟨left, j, vi, rfl, rfl, hle, hat⟩ := hrel
    clear HST
    by_cases h0 : 0 < left
    · have hsum := (unhide hat).sum
      have hper := (unhide hat).per h0
      have hcl : (Infl.cp d j out).length = L + j := by rw [Infl.cp_length, unhide HL]
      obtain ⟨gv, cg, rfl, hcg, hbg, hcell⟩ := own_cells (unhide hat).rat.row (by omega)
      obtain ⟨m, hmm⟩ : ∃ m, m = Infl.cp d j out := ⟨_, rfl⟩
      have hro := (unhide hat).rat
      have hch := (unhide hat).chg
      rw [← hmm] at hcell hcg hcl hro hch
      obtain ⟨K, hK⟩ : ∃ K, K = m.length := ⟨_, rfl⟩
      have c2 := hro.c2
      have f2 := hro.fz 2
      have hlt := hro.lt
      have HOW := hide hro.row
      rw [← hK] at hcell hcg hcl HOW c2 hch hro
      have HRO := hide hro
      have HCH := hide hch
      have HK := hide hK
      have HCELL := hide hcell
      have h0i : (0 : Int) < (left : Int) := by omega
      have hFK : ¬ cg = F := by omega
      obtain ⟨D, hD⟩ : ∃ D, D = d + j := ⟨_, rfl⟩
      have hKF : K - F = D := by omega
      obtain ⟨k, hk⟩ : ∃ k, k = min D left := ⟨_, rfl⟩
      have hmn := run_min_nat (A := (D : Int)) (B := (left : Int)) rfl rfl hk
      have hk1 : k ≤ left := by omega
      have hk2 : 0 < k := by omega
      have hk3 : F + k ≤ K := by omega
      have HBS := hide hro.hB
      have hkl : ((m.drop F).take k).length = k := by simp; omega
      have HKL := hide hkl
      have HNEXT : Hid (∀ g' cap' w', w'.ownsRow B 5 1 (.slice (some ⟨g', 0, none⟩) (K + k) cap') (K + k) (m.map bv ++ ((m.drop F).take k).map bv) → wr.grownBy w' (some gv) → (some gv = some g' ∨ g' = wr.heap.size) →
          AgAt w (w'.setCell ⟨rb, 2, none⟩ (.slice (some ⟨g', 0, none⟩) (K + k) cap')) B rb rp g zs p v (.slice (some ⟨g', 0, none⟩) (K + k) cap') out most sv dv n d (left - k) (j + k) ∧ w'.heap[rb]? = wr.heap[rb]?) := hide fun g' cap' w' h1 h2 h3 => by
        have hg := hro.grow (Below.refl _ _) (ys := (m.drop F).take k) (fun z hz => hro.small z (List.mem_of_mem_drop (List.mem_of_mem_take hz))) (by rw [hkl, ← hK]; omega) (by rw [hkl, ← hK]; exact h1) h2 (h3.elim Or.inl (fun e => Or.inr (by omega)))
        rw [hkl, ← hK] at hg
        have hcp : Infl.cp d (j + k) out = m ++ (m.drop F).take k := by
          rw [Infl.cp_long hd (by rw [← unhide HL]; exact hdl) hper (by omega), ← hmm, show out.length - d = F from by rw [← unhide HL]; omega]
        refine ⟨⟨by omega, by rw [hcp]; exact hg.1, hch.trans hg.2, fun hlt => ?_⟩, ?_⟩
        · have e : k = d + j := by omega
          rw [e]
          exact Nat.mod_eq_zero_of_dvd (Nat.dvd_add (Nat.dvd_of_mod_eq_zero hper) (Nat.dvd_add (Nat.dvd_refl d) (Nat.dvd_of_mod_eq_zero hper)))
        · exact h2.block rb (by omega) (fun e => by injection e with e; have := hro.lb; omega)
      clear hcell hK hat hcl hF hkl hsum hper hmm hro hch hD hk
      go_wp2_with (at_builtin; go_must (refine wpList_append_lies _ rfl (.tmp 33) (.tmp 34) 22 rfl B 5 i0 (.int .u8 0) 1 1 Try.underlying22 hi hz0 hz1 hz2 rfl (by decide) _ K (m.map bv) (by rfl) (unhide HOW) ⟨gv, F, none⟩ k (cg - F) (((m.drop F).take k).map bv) (by rfl) (by rw [List.length_map, unhide HKL, Nat.mul_one]) (by have := piece_news (off := 0) (f := F) (k := k) (zs := m) (n := K) (by simpa using unhide HCELL) hk3; simpa using this) (one_cells _) hk2 (by unfold maxLen; have := (unhide HRO).ol; have := unhide HK; omega) (by have := (unhide HRO).ol; have := unhide HK; omega) (unhide HBS) wr.heap.size rfl ?_; intro g' cap' w3 hown hgrow hat hglt; have HG := hide (unhide HNEXT g' cap' w3 hown hgrow hat); have hbk := (unhide HG).2; have c2' : w3.cell? ⟨rb, 2, none⟩ = some (Value.slice (some ⟨gv, 0, none⟩) K cg) := (by rw [← c2]; exact World.cell?_of_block hbk); have f2' : w3.frozen? ⟨rb, 2, none⟩ = false := (by rw [← f2]; exact World.frozen?_of_block hbk); clear hown hgrow hat hglt hbk))
      go_roundg (left - k)
      case measure => omega
      case rel => exact ⟨left - k, j + k, _, rfl, by go_num, by omega, hide (unhide HG).1⟩
    · obtain rfl : left = 0 := by omega
      have HFIN : Hid (∃ v', RAt wr B rb rp g zs p v' (Infl.cp d n out) most sv dv ∧ Chg rb rp v w v' wr) := hide ⟨vi, (by have := (unhide hat).sum; rw [show n = j from by omega]; exact (unhide hat).rat), (unhide hat).chg⟩
      clear hat
      go_wp2_with fail
      go_end0
      exact ⟨rfl, unhide HFIN⟩

end
end Go.Proofs.Ytppbnodgnphaaaa
