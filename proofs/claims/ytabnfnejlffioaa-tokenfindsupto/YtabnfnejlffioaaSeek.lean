/- seek: the longest piece that stands ahead, too, the nearest of several. -/
import Derived.Test.YtabnfnejlffioaaIndex
import Derived.Test.YtabnfnejlffioaaKey
namespace Go.Proofs.Ytabnfnejlffioaa
open Go.RowKit Go.Lib
set_option linter.unusedVariables false

attribute [local go_sem ↓] Go.wp_at_zero Go.wp_at_succ

theorem LastIs.has (zs ys : List Nat) : ∀ k, ∃ r, LastIs zs ys k r
  | 0 => ⟨-1, .inl ⟨rfl, fun j h => by omega⟩⟩
  | k + 1 => by
    by_cases h : Stands zs ys k
    · exact ⟨_, LastIs.hit h⟩
    · obtain ⟨r, hr⟩ := LastIs.has zs ys k
      exact ⟨r, hr.step h⟩

theorem LastIs.eq {zs ys : List Nat} {k : Nat} {r r' : Int} (h : LastIs zs ys k r) (h' : LastIs zs ys k r') : r = r' := by
  rcases h with ⟨e, h1⟩ | ⟨j, e, h1, h2, h3⟩ <;> rcases h' with ⟨e', k1⟩ | ⟨j', e', k1, k2, k3⟩
  · omega
  · exact absurd k2 (h1 j' k1)
  · exact absurd h2 (k1 j h1)
  · rcases Nat.lt_trichotomy j j' with hl | hl | hl
    · exact absurd k2 (h3 j' hl k1)
    · omega
    · exact absurd h2 (k3 j hl h1)

theorem ReadsU.drewN {B : Nat} {w : World} {v : Value} {zs : List Nat} (h : ReadsU B w v zs) (q : Nat) : ReadsU B (w.drewN q) v zs := h.stays ⟨rfl, rfl, rfl, Nat.le_refl _, fun _ _ => rfl⟩

theorem lasti_det (zs ys : List Nat) (b off c b2 off2 c2 B : Nat) (w : World) (hr : ReadsU B w (.slice (some ⟨b, off, none⟩) zs.length c) zs) (hr2 : ReadsU B w (.slice (some ⟨b2, off2, none⟩) ys.length c2) ys) (hz : ∀ z ∈ zs, z < 256) (hy : ∀ z ∈ ys, z < 256)
    (h1 : 1 ≤ ys.length) (h2 : ys.length ≤ zs.length) (hl : zs.length ≤ 140737488355328) (hcap : zs.length ≤ c) :
    ∃ r : Int, LastIs zs ys (zs.length - ys.length + 1) r ∧ ∀ q, Calls Try.prog 29 #[.slice (some ⟨b, off, none⟩) zs.length c, .slice (some ⟨b2, off2, none⟩) ys.length c2] (w.drewN q) fun e w' => e = .returned (.int .i64 r) ∧ ∃ m, w' = w.drewN m := by
  obtain ⟨r, hr0⟩ := LastIs.has zs ys (zs.length - ys.length + 1)
  refine ⟨r, hr0, fun q => (lasti_ok zs ys b off c b2 off2 c2 B (w.drewN q) (hr.drewN q) (hr2.drewN q) hz hy h1 h2 hl hcap).mono ?_⟩
  rintro e w' ⟨r', rfl, h, q', rfl⟩
  obtain rfl := hr0.eq h
  exact ⟨rfl, q + q', by rw [World.drewN_drewN]⟩

theorem FirstIs.eq {zs ys : List Nat} {r r' : Int} (h : FirstIs zs ys r) (h' : FirstIs zs ys r') : r = r' := by
  rcases h with ⟨e, h1⟩ | ⟨j, e, h1, h2, h3⟩ <;> rcases h' with ⟨e', k1⟩ | ⟨j', e', k1, k2, k3⟩
  · omega
  · exact absurd k2 (h1 j' k1)
  · exact absurd h2 (k1 j h1)
  · rcases Nat.lt_trichotomy j j' with hl | hl | hl
    · exact absurd h2 (k3 j hl)
    · omega
    · exact absurd k2 (h3 j' hl)

theorem index_det (zs ys : List Nat) (b off c b2 off2 c2 B : Nat) (w : World) (hr : ReadsU B w (.slice (some ⟨b, off, none⟩) zs.length c) zs) (hr2 : ReadsU B w (.slice (some ⟨b2, off2, none⟩) ys.length c2) ys) (hz : ∀ z ∈ zs, z < 256) (hy : ∀ z ∈ ys, z < 256)
    (h1 : 1 ≤ ys.length) (hl : zs.length < 4294967281) (hly : ys.length ≤ 140737488355328) (hcap : zs.length ≤ c) (hm : ML w) :
    ∃ r : Int, FirstIs zs ys r ∧ ∀ q, Calls Try.prog 27 #[.slice (some ⟨b, off, none⟩) zs.length c, .slice (some ⟨b2, off2, none⟩) ys.length c2] (w.drewN q) fun e w' => e = .returned (.int .i64 r) ∧ ∃ m, w' = w.drewN m := by
  refine ⟨_, first_of hz hy h1, fun q => (index_ok zs ys b off c b2 off2 c2 B (w.drewN q) (hr.drewN q) (hr2.drewN q) hz hy h1 hl hly hcap (hm.drewN q)).mono ?_⟩
  rintro e w' ⟨r', rfl, h, q', rfl⟩
  obtain rfl := (first_of hz hy h1).eq h
  exact ⟨rfl, q + q', by rw [World.drewN_drewN]⟩

/-- sought so far -/
structure SeekAt (z : Nat → Nat) (p m n pl : Nat) : Prop where
  nle : n ≤ m
  ple : pl ≤ p
  has : 0 < n → ∃ x, x < p ∧ Same z p x n
  no : n < m → ∀ x, x < pl → ¬ Same z p x (n + 1)

theorem SeekAt.start (z : Nat → Nat) (p m : Nat) : SeekAt z p m 0 0 := ⟨by omega, by omega, fun h => by omega, fun _ x hx => by omega⟩

theorem SeekAt.next {z : Nat → Nat} {p m n pl x n' : Nat} (h : SeekAt z p m n pl) (hn : n < m) (hx1 : pl ≤ x) (hx2 : x < p) (hno : ∀ y, pl ≤ y → y < x → ¬ Same z p y (n + 1)) (hs : Same z p x n') (hgt : n < n') (hle : n' ≤ m) (hne : n' < m → ¬ Same z p x (n' + 1)) : SeekAt z p m n' (x + 1) := by
  refine ⟨hle, by omega, fun _ => ⟨x, hx2, hs⟩, fun hlt y hy => ?_⟩
  by_cases e : y = x
  · subst e; exact hne hlt
  · by_cases hl : y < pl
    · exact fun hc => h.no hn y hl (hc.mono (by omega))
    · exact fun hc => hno y (by omega) (by omega) (hc.mono (by omega))

/-- none is longer -/
theorem SeekAt.best {z : Nat → Nat} {p m n pl j : Nat} (h : SeekAt z p m n pl) (hn : 1 ≤ n) (hall : n < m → ∀ x, x < p → ¬ Same z p x (n + 1)) (hj : j < p) (hs : Same z p j n) (hlast : ∀ x, j < x → x < p → ¬ Same z p x n) : IsBest z p p m n (p - j) := by
  refine ⟨h.nle, .inr ⟨hn, by omega, by omega, (same_eqs (by omega)).1 hs, fun d' h1 h2 he => ?_⟩, fun hlt d' h1 h2 he => ?_⟩
  · have e : d' = p - (p - d') := by omega
    rw [e] at he
    exact hlast (p - d') (by omega) (by omega) ((same_eqs (by omega)).2 he)
  · have e : d' = p - (p - d') := by omega
    rw [e] at he
    exact hall hlt (p - d') (by omega) ((same_eqs (by omega)).2 he)

theorem SeekAt.none {z : Nat → Nat} {p m pl : Nat} (h : SeekAt z p m 0 pl) (hall : 0 < m → ∀ x, x < p → ¬ Same z p x 1) : IsBest z p p m 0 0 := by
  refine ⟨h.nle, .inl ⟨rfl, rfl⟩, fun hlt d' h1 h2 he => ?_⟩
  have e : d' = p - (p - d') := by omega
  rw [e] at he
  exact hall hlt (p - d') (by omega) ((same_eqs (by omega)).2 he)

/-- a piece of the text, in the text -/
theorem stands_same {zs : List Nat} {f l p k j : Nat} (hk : p + k ≤ zs.length) (hj : j + k ≤ l) : Stands ((zs.drop f).take l) ((zs.drop p).take k) j ↔ Same (fun i => zs.getD i 0) p (f + j) k := by
  have hl : ((zs.drop p).take k).length = k := by simp; omega
  unfold Stands Same
  rw [hl]
  constructor
  · intro h i hi
    have := h i hi
    rw [slice_get _ _ _ _ (show j + i < l by omega), slice_get _ _ _ _ hi] at this
    show zs.getD (f + j + i) 0 = zs.getD (p + i) 0
    rw [Nat.add_assoc]
    exact this
  · intro h i hi
    have : zs.getD (f + j + i) 0 = zs.getD (p + i) 0 := h i hi
    rw [slice_get _ _ _ _ (show j + i < l by omega), slice_get _ _ _ _ hi, ← Nat.add_assoc]
    exact this

set_option maxRecDepth 100000 in
set_option maxHeartbeats 4000000 in
theorem seek_loop (zs : List Nat) (b off cap B p : Nat) (w : World) (hr : ReadsU B w (.slice (some ⟨b, off, none⟩) zs.length cap) zs) (hz : ∀ z ∈ zs, z < 256) (hp : p < zs.length) (hl : zs.length < 4294967281) (hcap : zs.length ≤ cap) (hm : ML w) :
    Calls Try.prog 18 #[.slice (some ⟨b, off, none⟩) zs.length cap, .int .i64 (p : Int)] w fun e w' => ∃ n d : Nat, e = .returned (.tuple #[.int .i64 (n : Int), .int .i64 (d : Int)]) ∧ IsBest (fun i => zs.getD i 0) p p (zs.length - p) n d ∧ ∃ q, w' = w.drewN q := by
  have HR := hide hr
  have HZ := hide hz
  have HML := hide hm
  clear hr hz hm
  obtain ⟨L, hL⟩ : ∃ L, L = zs.length := ⟨_, rfl⟩
  rw [← hL] at HR hp hl hcap ⊢
  have HL := hide hL
  clear hL
  have HSUB : Hid (∀ f k c', f + k ≤ L → k ≤ c' → ReadsU B w (.slice (some ⟨b, off + f, none⟩) k c') ((zs.drop f).take k)) := hide fun f k c' h1 h2 => by
    have h3 := unhide HR
    rw [unhide HL] at h3
    exact h3.sub rfl f k c' (by rw [← unhide HL]; exact h1) h2
  have HSM : Hid (∀ f k, ∀ z ∈ (zs.drop f).take k, z < 256) := hide fun f k z h => unhide HZ z (List.mem_of_mem_drop (List.mem_of_mem_take h))
  have HLEN : Hid (∀ f k, f + k ≤ L → ((zs.drop f).take k).length = k) := hide fun f k h => by rw [unhide HL] at h; simp; omega
  obtain ⟨m, hm⟩ : ∃ m : Nat, m = L - p := ⟨_, rfl⟩
  rw [← hm]
  have hpm : p + m = L := by omega
  have HPM := hide hpm
  have hLp : L - p = m := hm.symm
  have hcp : ¬ cap - p = 0 := by omega
  have hpc : p ≤ cap := by omega
  have hpL : p ≤ L := by omega
  have hm0 : 0 < m := by omega
  clear hm hpm
  go_enter Try.func18, Try.ntmps18
  go_wp2_with fail
  go_loopg [4, 7] (p + 1) (fun gk vn vp ws => ∃ (n pl q : Nat), gk = p + 1 - pl ∧ n ≤ m ∧ pl ≤ p ∧ vn = .int .i64 (n : Int) ∧ vp = .int .i64 (pl : Int) ∧ Hid (SeekAt (fun i => zs.getD i 0) p m n pl) ∧ ws = w.drewN q)
  case atStart => exact ⟨0, 0, 0, by omega, by omega, by omega, rfl, rfl, hide (SeekAt.start _ _ _), rfl⟩
  case round =>
    obtain ⟨n, pl, q, rfl, hn, hpl, rfl, rfl, hat, rfl⟩ := hrel
    by_cases hnm : n < m
    · have hni : (n : Int) < (m : Int) := by omega
      obtain ⟨E, hE⟩ : ∃ E : Nat, (p : Int) + (n : Int) = (E : Int) := ⟨p + n, by omega⟩
      obtain ⟨T, hT⟩ : ∃ T : Nat, E - pl = T := ⟨_, rfl⟩
      have hEL : E ≤ L := by have := unhide HPM; omega
      have hplE : pl ≤ E := by omega
      have hEc : E ≤ cap := by omega
      have hplc : ¬ cap - pl = 0 := by omega
      have hcpl : ¬ cap = pl := by omega
      obtain ⟨n1, hn1⟩ : ∃ n1 : Nat, (n : Int) + 1 = (n1 : Int) := ⟨n + 1, by omega⟩
      have hn1c : n1 ≤ cap - p := by have := unhide HPM; omega
      obtain ⟨r, hf, hcall⟩ := index_det ((zs.drop pl).take T) ((zs.drop p).take n1) b (off + pl) (cap - pl) b (off + p) (cap - p) B (w.drewN q) (by rw [unhide HLEN pl T (by omega)]; exact (unhide HSUB pl T _ (by omega) (by omega)).drewN q) (by rw [unhide HLEN p n1 (by have := unhide HPM; omega)]; exact (unhide HSUB p n1 _ (by have := unhide HPM; omega) hn1c).drewN q) (unhide HSM pl T) (unhide HSM p n1) (by rw [unhide HLEN p n1 (by have := unhide HPM; omega)]; omega) (by rw [unhide HLEN pl T (by omega)]; omega) (by rw [unhide HLEN p n1 (by have := unhide HPM; omega)]; omega) (by rw [unhide HLEN pl T (by omega)]; omega) ((unhide HML).drewN q)
      rw [unhide HLEN pl T (by omega), unhide HLEN p n1 (by have := unhide HPM; omega)] at hcall
      have HCALL := hide hcall
      have HF : Hid ((r = -1 ∧ ∀ x, pl ≤ x → x < p → ¬ Same (fun i => zs.getD i 0) p x (n + 1)) ∨ ∃ x : Nat, (pl : Int) + r = (x : Int) ∧ ¬ r < 0 ∧ pl ≤ x ∧ x < p ∧ Same (fun i => zs.getD i 0) p x (n + 1) ∧ ∀ y, pl ≤ y → y < x → ¬ Same (fun i => zs.getD i 0) p y (n + 1)) := hide (by
        have hn1' : n1 = n + 1 := by omega
        have hpn : p + n1 ≤ zs.length := by rw [← unhide HL]; have := unhide HPM; omega
        rcases hf with ⟨e, h1⟩ | ⟨j, e, h1, h2, h3⟩
        · refine .inl ⟨e, fun x hx1 hx2 hs => ?_⟩
          have hj : (x - pl) + n1 ≤ T := by omega
          refine h1 (x - pl) (by rw [unhide HLEN pl T (by omega), unhide HLEN p n1 (by have := unhide HPM; omega)]; exact hj) ((stands_same hpn hj).2 ?_)
          rw [show pl + (x - pl) = x by omega, hn1']
          exact hs
        · rw [unhide HLEN pl T (by omega), unhide HLEN p n1 (by have := unhide HPM; omega)] at h1
          refine .inr ⟨pl + j, by omega, by omega, by omega, by omega, ?_, fun y hy1 hy2 hs => ?_⟩
          · have := (stands_same hpn h1).1 h2
            rw [hn1'] at this
            exact this
          · have hj : (y - pl) + n1 ≤ T := by omega
            refine h3 (y - pl) (by omega) ((stands_same hpn hj).2 ?_)
            rw [show pl + (y - pl) = y by omega, hn1']
            exact hs)
      have hwE : IntKind.i64.wrap (E : Int) = (E : Int) := IntWalk.i64_in _ (by omega)
      have hwn1 : IntKind.i64.wrap (n1 : Int) = (n1 : Int) := IntWalk.i64_in _ (by omega)
      obtain ⟨wq, hwq⟩ : ∃ wq, wq = w.drewN q := ⟨_, rfl⟩
      rw [← hwq] at HCALL
      clear hf hcall
      go_wp2_with fail
      rw [← hwq]
      have HWQ0 := hide hwq
      clear hwq
      go_quiet (first | (go_at_call 27; exact unhide HCALL _))
      have HWQ : Hid (wq.drewN nq = w.drewN (q + nq)) := hide (by rw [unhide HWQ0, World.drewN_drewN])
      rw [unhide HWQ]
      clear HCALL HWQ HWQ0
      rcases unhide HF with ⟨rfl, hno⟩ | ⟨x, hx1, hr0, hx2, hx3, hx4, hx5⟩
      · have HALL : Hid (n < m → ∀ x, x < p → ¬ Same (fun i => zs.getD i 0) p x (n + 1)) := hide fun _ x hx => by
          by_cases h : x < pl
          · exact (unhide hat).no hnm x h
          · exact hno x (by omega) hx
        clear HF hno
        obtain ⟨QQ, hQQ⟩ : ∃ QQ, QQ = q + nq := ⟨_, rfl⟩
        rw [← hQQ]
        clear hQQ hE hT hn1
        by_cases hn0 : n = 0
        · have HB : Hid (IsBest (fun i => zs.getD i 0) p p m 0 0) := hide (by
            have h1 := unhide hat
            have h2 := unhide HALL
            rw [hn0] at h1 h2
            exact h1.none h2)
          subst hn0
          clear hat HALL
          go_wp2_with fail
          go_ret2
          exact ⟨0, 0, rfl, unhide HB, QQ, rfl⟩
        · have hn0b : ((n : Int) == 0) = false := by simp; omega
          obtain ⟨E2, hE2⟩ : ∃ E2 : Nat, (p : Int) + (n : Int) - 1 = (E2 : Int) := ⟨p + n - 1, by omega⟩
          obtain ⟨pn, hpn⟩ : ∃ pn : Nat, (p : Int) + (n : Int) = (pn : Int) := ⟨p + n, by omega⟩
          have hE3 : (pn : Int) - 1 = (E2 : Int) := by omega
          obtain ⟨x0, hx0, hs0⟩ := (unhide hat).has (by omega)
          have hE2L : E2 ≤ L := by have := unhide HPM; omega
          have hE2c : E2 ≤ cap := by omega
          have hnc : n ≤ cap - p := by have := unhide HPM; omega
          have hpnL : p + n ≤ L := by have := unhide HPM; omega
          obtain ⟨r2, hf2, hcall2⟩ := lasti_det ((zs.drop 0).take E2) ((zs.drop p).take n) b off cap b (off + p) (cap - p) B (w.drewN QQ) (by rw [unhide HLEN 0 E2 (by omega)]; exact (unhide HSUB 0 E2 _ (by omega) hE2c).drewN QQ) (by rw [unhide HLEN p n hpnL]; exact (unhide HSUB p n _ hpnL hnc).drewN QQ) (unhide HSM 0 E2) (unhide HSM p n) (by rw [unhide HLEN p n hpnL]; omega) (by rw [unhide HLEN 0 E2 (by omega), unhide HLEN p n hpnL]; omega) (by rw [unhide HLEN 0 E2 (by omega)]; omega) (by rw [unhide HLEN 0 E2 (by omega)]; exact hE2c)
          rw [unhide HLEN 0 E2 (by omega), unhide HLEN p n hpnL] at hf2 hcall2
          have hk : E2 - n + 1 = p := by omega
          rw [hk] at hf2
          have hzl : p + n ≤ zs.length := by rw [← unhide HL]; exact hpnL
          have HR2 : Hid (∃ j : Nat, r2 = (j : Int) ∧ j < p ∧ IsBest (fun i => zs.getD i 0) p p m n (p - j)) := hide (by
            rcases hf2 with ⟨_, h1⟩ | ⟨j, e, h1, h2, h3⟩
            · exact absurd ((stands_same (f := 0) (l := E2) hzl (show x0 + n ≤ E2 by omega)).2 (by rw [Nat.zero_add]; exact hs0)) (h1 x0 hx0)
            · have hj := (stands_same (f := 0) (l := E2) hzl (show j + n ≤ E2 by omega)).1 h2
              rw [Nat.zero_add] at hj
              refine ⟨j, e, h1, (unhide hat).best (by omega) (unhide HALL) h1 hj fun x hx1 hx2 hs => ?_⟩
              exact h3 x hx1 hx2 ((stands_same (f := 0) (l := E2) hzl (show x + n ≤ E2 by omega)).2 (by rw [Nat.zero_add]; exact hs)))
          have HC2 := hide hcall2
          have hwp : IntKind.i64.wrap (pn : Int) = (pn : Int) := IntWalk.i64_in _ (by omega)
          have hwe : IntKind.i64.wrap (E2 : Int) = (E2 : Int) := IntWalk.i64_in _ (by omega)
          obtain ⟨j, hj1, hj2, hj3⟩ := unhide HR2
          subst hj1
          obtain ⟨dd, hdd⟩ : ∃ dd : Nat, (p : Int) - (j : Int) = (dd : Int) := ⟨p - j, by omega⟩
          have hwd : IntKind.i64.wrap (dd : Int) = (dd : Int) := IntWalk.i64_in _ (by omega)
          have HB : Hid (IsBest (fun i => zs.getD i 0) p p m n dd) := hide (by rw [show dd = p - j by omega]; exact hj3)
          obtain ⟨wq2, hwq2⟩ : ∃ wq2, wq2 = w.drewN QQ := ⟨_, rfl⟩
          rw [← hwq2] at HC2
          clear hat HALL hf2 hcall2 hs0 hx0 hj3 HR2 hk hzl hE2
          go_upto_region 11 with fail
          rw [← hwq2]
          have HWQ2 := hide hwq2
          clear hwq2
          go_quiet (first | (go_at_call 29; exact unhide HC2 _))
          go_wp2_with fail
          go_ret2
          exact ⟨n, dd, rfl, unhide HB, QQ + nq, by rw [unhide HWQ2, World.drewN_drewN]⟩
      · have hxc : ¬ cap - x = 0 := by omega
        have hxcc : ¬ cap = x := by omega
        have hxL : x ≤ L := by omega
        have hxcap : x ≤ cap := by omega
        have HCM := hide (common_ok ((zs.drop x).take (L - x)) ((zs.drop p).take m) (.slice (some ⟨b, off + x, none⟩) (L - x) (cap - x)) (.slice (some ⟨b, off + p, none⟩) m (cap - p)) B B (w.drewN (q + nq)) ((unhide HSUB x (L - x) _ (by omega) (by omega)).drewN _) ((unhide HSUB p m _ (by have := unhide HPM; omega) (by have := unhide HPM; omega)).drewN _) (by rw [unhide HLEN x (L - x) (by omega)]; omega))
        have HNX : Hid (∀ n', IsCommon ((zs.drop x).take (L - x)) ((zs.drop p).take m) n' → n' ≤ m ∧ SeekAt (fun i => zs.getD i 0) p m n' (x + 1)) := hide fun n' hc => by
          have l1 := hc.l1
          have l2 := hc.l2
          rw [unhide HLEN x (L - x) (by omega)] at l1
          rw [unhide HLEN p m (by have := unhide HPM; omega)] at l2
          have hs : Same (fun i => zs.getD i 0) p x n' := fun i hi => by
            have := hc.eq i hi
            rw [slice_get _ _ _ _ (show i < L - x by omega), slice_get _ _ _ _ (show i < m by omega)] at this
            exact this
          have hne : n' < m → zs.getD (x + n') 0 ≠ zs.getD (p + n') 0 := fun h => by
            have hxl : n' < L - x := by have := unhide HPM; omega
            have := hc.ne (by rw [unhide HLEN x (L - x) (by omega)]; exact hxl) (by rw [unhide HLEN p m (by have := unhide HPM; omega)]; exact h)
            rw [slice_get _ _ _ _ hxl, slice_get _ _ _ _ h] at this
            exact this
          refine ⟨l2, (unhide hat).next hnm hx2 hx3 hx5 hs ?_ l2 fun h hc' => hne h (hc' n' (by omega))⟩
          refine Classical.byContradiction fun hlt => ?_
          exact hne (by omega) (hx4 n' (by omega))
        obtain ⟨QQ, hQQ⟩ : ∃ QQ, QQ = q + nq := ⟨_, rfl⟩
        rw [← hQQ] at HCM ⊢
        clear HF hx4 hx5 hE hT hn1 hat hQQ
        go_wp2_with fail
        refine (unhide HCM).mono ?_
        rintro e w' ⟨n', rfl, hcom, q3, rfl⟩
        obtain ⟨hn'm, hat2⟩ := unhide HNX n' hcom
        have HAT2 := hide hat2
        clear HCM HNX hcom hat2
        go_wp2_with fail
        go_roundg (p + 1 - (x + 1))
        case measure => omega
        case rel => exact ⟨n', x + 1, QQ + q3, rfl, hn'm, by omega, rfl, by go_num, HAT2, by first | rfl | (rw [World.drewN_drewN])⟩
    · have hni : ¬ (n : Int) < (m : Int) := by omega
      have HALL : Hid (n < m → ∀ x, x < p → ¬ Same (fun i => zs.getD i 0) p x (n + 1)) := hide fun h => absurd h hnm
      obtain ⟨QQ, hQQ⟩ : ∃ QQ, QQ = q := ⟨_, rfl⟩
      rw [← hQQ]
      clear hQQ
      by_cases hn0 : n = 0
      · exfalso; omega
      · have hn0b : ((n : Int) == 0) = false := by simp; omega
        obtain ⟨E2, hE2⟩ : ∃ E2 : Nat, (p : Int) + (n : Int) - 1 = (E2 : Int) := ⟨p + n - 1, by omega⟩
        obtain ⟨pn, hpn⟩ : ∃ pn : Nat, (p : Int) + (n : Int) = (pn : Int) := ⟨p + n, by omega⟩
        have hE3 : (pn : Int) - 1 = (E2 : Int) := by omega
        obtain ⟨x0, hx0, hs0⟩ := (unhide hat).has (by omega)
        have hE2L : E2 ≤ L := by have := unhide HPM; omega
        have hE2c : E2 ≤ cap := by omega
        have hnc : n ≤ cap - p := by have := unhide HPM; omega
        have hpnL : p + n ≤ L := by have := unhide HPM; omega
        obtain ⟨r2, hf2, hcall2⟩ := lasti_det ((zs.drop 0).take E2) ((zs.drop p).take n) b off cap b (off + p) (cap - p) B (w.drewN QQ) (by rw [unhide HLEN 0 E2 (by omega)]; exact (unhide HSUB 0 E2 _ (by omega) hE2c).drewN QQ) (by rw [unhide HLEN p n hpnL]; exact (unhide HSUB p n _ hpnL hnc).drewN QQ) (unhide HSM 0 E2) (unhide HSM p n) (by rw [unhide HLEN p n hpnL]; omega) (by rw [unhide HLEN 0 E2 (by omega), unhide HLEN p n hpnL]; omega) (by rw [unhide HLEN 0 E2 (by omega)]; omega) (by rw [unhide HLEN 0 E2 (by omega)]; exact hE2c)
        rw [unhide HLEN 0 E2 (by omega), unhide HLEN p n hpnL] at hf2 hcall2
        have hk : E2 - n + 1 = p := by omega
        rw [hk] at hf2
        have hzl : p + n ≤ zs.length := by rw [← unhide HL]; exact hpnL
        have HR2 : Hid (∃ j : Nat, r2 = (j : Int) ∧ j < p ∧ IsBest (fun i => zs.getD i 0) p p m n (p - j)) := hide (by
          rcases hf2 with ⟨_, h1⟩ | ⟨j, e, h1, h2, h3⟩
          · exact absurd ((stands_same (f := 0) (l := E2) hzl (show x0 + n ≤ E2 by omega)).2 (by rw [Nat.zero_add]; exact hs0)) (h1 x0 hx0)
          · have hj := (stands_same (f := 0) (l := E2) hzl (show j + n ≤ E2 by omega)).1 h2
            rw [Nat.zero_add] at hj
            refine ⟨j, e, h1, (unhide hat).best (by omega) (unhide HALL) h1 hj fun x hx1 hx2 hs => ?_⟩
            exact h3 x hx1 hx2 ((stands_same (f := 0) (l := E2) hzl (show x + n ≤ E2 by omega)).2 (by rw [Nat.zero_add]; exact hs)))
        have HC2 := hide hcall2
        have hwp : IntKind.i64.wrap (pn : Int) = (pn : Int) := IntWalk.i64_in _ (by omega)
        have hwe : IntKind.i64.wrap (E2 : Int) = (E2 : Int) := IntWalk.i64_in _ (by omega)
        obtain ⟨j, hj1, hj2, hj3⟩ := unhide HR2
        subst hj1
        obtain ⟨dd, hdd⟩ : ∃ dd : Nat, (p : Int) - (j : Int) = (dd : Int) := ⟨p - j, by omega⟩
        have hwd : IntKind.i64.wrap (dd : Int) = (dd : Int) := IntWalk.i64_in _ (by omega)
        have HB : Hid (IsBest (fun i => zs.getD i 0) p p m n dd) := hide (by rw [show dd = p - j by omega]; exact hj3)
        obtain ⟨wq2, hwq2⟩ : ∃ wq2, wq2 = w.drewN QQ := ⟨_, rfl⟩
        rw [← hwq2] at HC2
        clear hat HALL hf2 hcall2 hs0 hx0 hj3 HR2 hk hzl hE2
        go_upto_region 11 with fail
        rw [← hwq2]
        have HWQ2 := hide hwq2
        clear hwq2
        go_quiet (first | (go_at_call 29; exact unhide HC2 _))
        go_wp2_with fail
        go_ret2
        exact ⟨n, dd, rfl, unhide HB, QQ + nq, by rw [unhide HWQ2, World.drewN_drewN]⟩

end Go.Proofs.Ytabnfnejlffioaa
