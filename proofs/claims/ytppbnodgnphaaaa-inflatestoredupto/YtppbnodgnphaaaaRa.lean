/- All blocks are read. -/
import Derived.Test.YtppbnodgnphaaaaBs
namespace Go.Proofs.Ytppbnodgnphaaaa
open Go.RowKit Mth Infl
set_option maxRecDepth 100000
set_option linter.unusedVariables false

section
variable {w : World} {zs : List Nat}

theorem start_at {w w1 : World} {zs : List Nat} {rp : Nat} (most : Nat) (hr : ROk w1 rp false w.heap.size zs 0) (hb : Below w.heap.size w w1) (hlo : w.heap.size ≤ rp) :
    BsAt w (w1.alloc (.cells #[.pointer (some ⟨rp, 0, none⟩), .int .i64 (most : Int), .slice none 0 0, .pointer none, .pointer none] 57)) (w1.heap.size + 1) w1.heap.size rp w.heap.size zs 0 (.slice none 0 0) [] most (.pointer none) (.pointer none) := by
  have h1 := hr.lt
  have h2 := heap_lt hr.row
  have h3 := hb.size
  refine ⟨⟨heap_alloc_new _ _, hr.keep (Below.heap_alloc _ _ _ h1) (Below.heap_alloc _ _ _ h2), World.ownsRow_nil _ _ _ _, fun z hz => by simp at hz, by omega, by omega, by omega, by omega, by omega, by simp, by simp⟩, .inl rfl, hb.alloc h3 _, h3, hlo⟩

set_option maxHeartbeats 4000000 in
theorem readAll_ok (bs : Value) (zs : List Nat) (most : Nat) (w : World) (hr : Reads w bs zs) (hz : zs.length ≤ 140737488355328) (hs : ∀ z ∈ zs, z < 256) (hm : most ≤ 268435456) :
    Calls Try.prog 19 #[bs, .int .i64 (most : Int)] w fun e w' => ∃ r, Tells gg ce (Infl.bitsOf zs) most r ∧ ReadIs r most zs w e w' := by
  have HN := hide (newReader_ok bs zs false w hr hz hs)
  clear hr
  go_enter Try.func19, Try.ntmps19
  go_wp2_with fail
  refine wp_scope_on 0 rfl ?_
  go_wp2_with fail
  refine (unhide HN).mono ?_
  rintro e w1 ⟨rp, rfl, hlo, hrd, hb⟩
  have HST := hide (start_at most hrd hb hlo)
  clear hrd hb hlo HN
  go_wp2_with fail
  obtain ⟨rb, hrb⟩ : ∃ rb, rb = w1.heap.size := ⟨_, rfl⟩
  obtain ⟨B, hB⟩ : ∃ B, B = rb + 1 := ⟨_, rfl⟩
  obtain ⟨g, hg⟩ : ∃ g, g = w.heap.size := ⟨_, rfl⟩
  have HST2 : Hid (BsAt w (w1.alloc (.cells #[.pointer (some ⟨rp, 0, none⟩), .int .i64 (most : Int), .slice none 0 0, .pointer none, .pointer none] 57)) B rb rp g zs 0 (.slice none 0 0) [] most (.pointer none) (.pointer none)) := hide (by rw [hB, hrb, hg]; exact unhide HST)
  rw [← hrb]
  clear HST hB hg hrb
  generalize w1.alloc (.cells #[.pointer (some ⟨rp, 0, none⟩), .int .i64 (most : Int), .slice none 0 0, .pointer none, .pointer none] 57) = w2 at HST2 ⊢
  go_loopg [7] (8 * zs.length + 1) (fun gk l ws => ∃ (L q : Nat) (vi : Value) (oi : List Nat) (sv dv : Value), gk = 8 * zs.length + 1 - q ∧ q ≤ 8 * zs.length ∧ l = .int .u64 (L : Int) ∧ Hid (BsAt w ws B rb rp g zs q vi oi most sv dv) ∧ ((L = 0 ∧ Hid (Goes most zs oi q)) ∨ (L = 1 ∧ Hid (Tells gg ce (Infl.bitsOf zs) most (.ok oi q)))))
  case atStart => exact ⟨0, 0, _, [], _, _, by omega, by omega, rfl, HST2, .inl ⟨rfl, hide (Goes.start most zs)⟩⟩
  case round =>
    obtain ⟨L, q, vi, oi, sv, dv, rfl, hq, rfl, HBS, hL⟩ := hrel
    clear HST2
    rcases hL with ⟨rfl, HGO⟩ | ⟨rfl, HTE⟩
    · have c0 := (unhide HBS).rat.c0
      have HG := hide (rget 1 (unhide HBS).rat hz (by decide))
      go_wp2_with fail
      refine (unhide HG).mono ?_
      rintro e w3 ⟨last, q1, b, rfl, r1, d1, g1⟩
      clear HG c0
      rcases g1 with ⟨rfl, g1, gl, gq1⟩ | ⟨rfl, rfl, g1⟩
      · have hlast : last < 2 := gl
        have HD1 := hide d1
        have HG1 := hide g1
        have HK := hide (kind_ok r1 hz)
        have HF1 := hide ((unhide HBS).fix.chg d1 r1.lb r1.lp)
        have HLB := hide (And.intro r1.lb r1.lp)
        clear r1 d1 g1 gl
        go_wp2_with fail
        refine (unhide HK).mono ?_
        rintro e w5 ⟨d2, x, q2, b, g2, r2, hcase⟩
        have HD2 := hide ((unhide HD1).trans d2)
        have HR3 := hide r2
        have HF3 := hide ((unhide HF1).chg d2 (unhide HLB).1 (unhide HLB).2)
        have hq2le := r2.rd.le
        clear d2 r2 HK HD1 HF1
        rcases hcase with ⟨rfl, hx, rfl⟩ | ⟨rfl, rfl, rfl⟩ | ⟨rfl, rfl⟩
        · obtain ⟨g2, gq2⟩ : Infl.get 2 (Infl.bitsOf zs) q1 = .ok x q2 ∧ q2 = q1 + 2 := by
            rcases g2 with ⟨_, g2, _, h⟩ | ⟨h, _⟩
            · exact ⟨g2, h⟩
            · cases h
          have HG2 := hide g2
          clear g2
          rcases (show x = 0 ∨ x = 1 ∨ x = 2 by omega) with rfl | rfl | rfl
          · have HB := hide (storedBlock_ok (unhide HR3) (unhide HF3) hz hm)
            have HGO2 := HGO
            rw [show kindF 0 rb = .func (.func 37) #[.pointer (some ⟨rb, 0, none⟩)] #[] from rfl]
            go_wp2_with fail
            refine (unhide HB).mono ?_
            rintro e w4 hblk
            obtain ⟨F, hF⟩ : ∃ F : Nat, F = 0 := ⟨0, rfl⟩
            rcases hblk with ⟨v4, o4, q4, sv4, dv4, hk, rfl, r4, f4, d4⟩ | ⟨b, v4, hk, hb0, hb1, rfl, d4⟩
            · have hbl := block_is (F := F) (unhide HG1) (unhide HG2) (show byKind 0 most F oi (Infl.bitsOf zs) q2 = _ from hk)
              have HN4 := hide ((unhide HBS).next r4 f4 ((unhide HD2).trans d4))
              have hq4 := r4.rd.le
              have hqq : q2 ≤ q4 := ((loc_byKind 0 most F oi).le _ _ _ _ (by rw [bitsOf_m]; omega) (show byKind 0 most F oi (Infl.bitsOf zs) q2 = _ from hk)).1
              rcases (show last = 0 ∨ last = 1 by omega) with rfl | rfl
              · have HNX := hide ((unhide HGO2).next hbl)
                clear hbl hk r4 f4 d4
                go_wp2_with fail
                go_roundg (8 * zs.length + 1 - q4)
                case measure => omega
                case rel => exact ⟨0, q4, v4, o4, sv4, dv4, rfl, hq4, rfl, HN4, .inl ⟨rfl, HNX⟩⟩
              · have HNX := hide ((unhide HGO2).fin hbl)
                clear hbl hk r4 f4 d4
                go_wp2_with fail
                go_roundg (8 * zs.length + 1 - q4)
                case measure => omega
                case rel => exact ⟨1, q4, v4, o4, sv4, dv4, rfl, hq4, rfl, HN4, .inr ⟨rfl, HNX⟩⟩
            · have hbl : Infl.block gg ce most F oi (Infl.bitsOf zs) q = .bad b := by rw [block_by, bind_of (unhide HG1), bind_of (unhide HG2), bind_bad (show byKind 0 most F oi (Infl.bitsOf zs) q2 = _ from hk)]
              have HE : Hid (∃ r, Tells gg ce (Infl.bitsOf zs) most r ∧ ReadIs r most zs w (.returned (.tuple #[.slice none 0 0, .int .i64 0, .int .i64 (b : Int)])) w4) := hide ⟨_, (unhide HGO2).bad hbl, (unhide HBS).gone ((unhide HD2).trans d4), .inr ⟨b, rfl, hb0, hb1, rfl⟩⟩
              have t1 : ¬ (b : Int) = 0 := by omega
              have t2 : ((b : Int) == 0) = false := by simp; omega
              clear hbl hk d4 hb0 hb1
              go_wp2_with fail
              go_step3
              refine ⟨rfl, ?_⟩
              go_wp2_with fail
              rw [Exit.noGoto_ret]
              go_ret3
              exact unhide HE
          · have HB := hide (fixedBlock_ok (unhide HR3) (unhide HF3) hz hm)
            have HGO2 := HGO
            rw [show kindF 1 rb = .func (.func 38) #[.pointer (some ⟨rb, 0, none⟩)] #[] from rfl]
            go_wp2_with fail
            refine (unhide HB).mono ?_
            rintro e w4 ⟨F, hblk⟩
            rcases hblk with ⟨v4, o4, q4, sv4, dv4, hk, rfl, r4, f4, d4⟩ | ⟨b, v4, hk, hb0, hb1, rfl, d4⟩
            · have hbl := block_is (F := F) (unhide HG1) (unhide HG2) (show byKind 1 most F oi (Infl.bitsOf zs) q2 = _ from hk)
              have HN4 := hide ((unhide HBS).next r4 f4 ((unhide HD2).trans d4))
              have hq4 := r4.rd.le
              have hqq : q2 ≤ q4 := ((loc_byKind 1 most F oi).le _ _ _ _ (by rw [bitsOf_m]; omega) (show byKind 1 most F oi (Infl.bitsOf zs) q2 = _ from hk)).1
              rcases (show last = 0 ∨ last = 1 by omega) with rfl | rfl
              · have HNX := hide ((unhide HGO2).next hbl)
                clear hbl hk r4 f4 d4
                go_wp2_with fail
                go_roundg (8 * zs.length + 1 - q4)
                case measure => omega
                case rel => exact ⟨0, q4, v4, o4, sv4, dv4, rfl, hq4, rfl, HN4, .inl ⟨rfl, HNX⟩⟩
              · have HNX := hide ((unhide HGO2).fin hbl)
                clear hbl hk r4 f4 d4
                go_wp2_with fail
                go_roundg (8 * zs.length + 1 - q4)
                case measure => omega
                case rel => exact ⟨1, q4, v4, o4, sv4, dv4, rfl, hq4, rfl, HN4, .inr ⟨rfl, HNX⟩⟩
            · have hbl : Infl.block gg ce most F oi (Infl.bitsOf zs) q = .bad b := by rw [block_by, bind_of (unhide HG1), bind_of (unhide HG2), bind_bad (show byKind 1 most F oi (Infl.bitsOf zs) q2 = _ from hk)]
              have HE : Hid (∃ r, Tells gg ce (Infl.bitsOf zs) most r ∧ ReadIs r most zs w (.returned (.tuple #[.slice none 0 0, .int .i64 0, .int .i64 (b : Int)])) w4) := hide ⟨_, (unhide HGO2).bad hbl, (unhide HBS).gone ((unhide HD2).trans d4), .inr ⟨b, rfl, hb0, hb1, rfl⟩⟩
              have t1 : ¬ (b : Int) = 0 := by omega
              have t2 : ((b : Int) == 0) = false := by simp; omega
              clear hbl hk d4 hb0 hb1
              go_wp2_with fail
              go_step3
              refine ⟨rfl, ?_⟩
              go_wp2_with fail
              rw [Exit.noGoto_ret]
              go_ret3
              exact unhide HE
          · have HB := hide (ownBlock_ok (unhide HR3) (unhide HF3) hz hm)
            have HGO2 := HGO
            rw [show kindF 2 rb = .func (.func 39) #[.pointer (some ⟨rb, 0, none⟩)] #[] from rfl]
            go_wp2_with fail
            refine (unhide HB).mono ?_
            rintro e w4 ⟨F, hblk⟩
            rcases hblk with ⟨v4, o4, q4, sv4, dv4, hk, rfl, r4, f4, d4⟩ | ⟨b, v4, hk, hb0, hb1, rfl, d4⟩
            · have hbl := block_is (F := F) (unhide HG1) (unhide HG2) (show byKind 2 most F oi (Infl.bitsOf zs) q2 = _ from hk)
              have HN4 := hide ((unhide HBS).next r4 f4 ((unhide HD2).trans d4))
              have hq4 := r4.rd.le
              have hqq : q2 ≤ q4 := ((loc_byKind 2 most F oi).le _ _ _ _ (by rw [bitsOf_m]; omega) (show byKind 2 most F oi (Infl.bitsOf zs) q2 = _ from hk)).1
              rcases (show last = 0 ∨ last = 1 by omega) with rfl | rfl
              · have HNX := hide ((unhide HGO2).next hbl)
                clear hbl hk r4 f4 d4
                go_wp2_with fail
                go_roundg (8 * zs.length + 1 - q4)
                case measure => omega
                case rel => exact ⟨0, q4, v4, o4, sv4, dv4, rfl, hq4, rfl, HN4, .inl ⟨rfl, HNX⟩⟩
              · have HNX := hide ((unhide HGO2).fin hbl)
                clear hbl hk r4 f4 d4
                go_wp2_with fail
                go_roundg (8 * zs.length + 1 - q4)
                case measure => omega
                case rel => exact ⟨1, q4, v4, o4, sv4, dv4, rfl, hq4, rfl, HN4, .inr ⟨rfl, HNX⟩⟩
            · have hbl : Infl.block gg ce most F oi (Infl.bitsOf zs) q = .bad b := by rw [block_by, bind_of (unhide HG1), bind_of (unhide HG2), bind_bad (show byKind 2 most F oi (Infl.bitsOf zs) q2 = _ from hk)]
              have HE : Hid (∃ r, Tells gg ce (Infl.bitsOf zs) most r ∧ ReadIs r most zs w (.returned (.tuple #[.slice none 0 0, .int .i64 0, .int .i64 (b : Int)])) w4) := hide ⟨_, (unhide HGO2).bad hbl, (unhide HBS).gone ((unhide HD2).trans d4), .inr ⟨b, rfl, hb0, hb1, rfl⟩⟩
              have t1 : ¬ (b : Int) = 0 := by omega
              have t2 : ((b : Int) == 0) = false := by simp; omega
              clear hbl hk d4 hb0 hb1
              go_wp2_with fail
              go_step3
              refine ⟨rfl, ?_⟩
              go_wp2_with fail
              rw [Exit.noGoto_ret]
              go_ret3
              exact unhide HE
        · obtain ⟨g2, gq2⟩ : Infl.get 2 (Infl.bitsOf zs) q1 = .ok 3 q2 ∧ q2 = q1 + 2 := by
            rcases g2 with ⟨_, g2, _, h⟩ | ⟨h, _⟩
            · exact ⟨g2, h⟩
            · cases h
          have HE : Hid (∃ r, Tells gg ce (Infl.bitsOf zs) most r ∧ ReadIs r most zs w (.returned (.tuple #[.slice none 0 0, .int .i64 0, .int .i64 ((16 : Nat) : Int)])) w5) := hide ⟨_, (unhide HGO).bad (F := 0) (b := 16) (by rw [block_by, bind_of (unhide HG1), bind_of g2]; rfl), (unhide HBS).gone (unhide HD2), .inr ⟨16, rfl, by decide, by decide, rfl⟩⟩
          clear g2
          go_wp2_with fail
          go_step3
          refine ⟨rfl, ?_⟩
          go_wp2_with fail
          rw [Exit.noGoto_ret]
          go_ret3
          exact unhide HE
        · have g2 : Infl.get 2 (Infl.bitsOf zs) q1 = .bad 10 := by
            rcases g2 with ⟨h, _⟩ | ⟨_, _, g2⟩
            · cases h
            · exact g2
          have HE : Hid (∃ r, Tells gg ce (Infl.bitsOf zs) most r ∧ ReadIs r most zs w (.returned (.tuple #[.slice none 0 0, .int .i64 0, .int .i64 ((10 : Nat) : Int)])) w5) := hide ⟨_, (unhide HGO).bad (F := 0) (b := 10) (by rw [block_by, bind_of (unhide HG1), bind_bad g2]), (unhide HBS).gone (unhide HD2), .inr ⟨10, rfl, by decide, by decide, rfl⟩⟩
          clear g2
          go_wp2_with fail
          go_step3
          refine ⟨rfl, ?_⟩
          go_wp2_with fail
          rw [Exit.noGoto_ret]
          go_ret3
          exact unhide HE
      · have HE : Hid (∃ r, Tells gg ce (Infl.bitsOf zs) most r ∧ ReadIs r most zs w (.returned (.tuple #[.slice none 0 0, .int .i64 0, .int .i64 ((10 : Nat) : Int)])) w3) := hide ⟨_, (unhide HGO).bad (F := 0) (b := 10) (by rw [block_by, bind_bad g1]), (unhide HBS).gone d1, .inr ⟨10, rfl, by decide, by decide, rfl⟩⟩
        clear r1 d1 g1
        go_wp2_with fail
        go_step3
        refine ⟨rfl, ?_⟩
        go_wp2_with fail
        rw [Exit.noGoto_ret]
        go_ret3
        exact unhide HE
    · have c0 := (unhide HBS).rat.c0
      have c2 := (unhide HBS).rat.c2
      have HAT : Hid (∀ n, Calls Try.prog 29 #[.pointer (some ⟨rp, 0, none⟩)] (wr.drewN n) fun e w' => e = .returned (.int .i64 (q : Int)) ∧ w' = wr.drewN n) := hide fun n => at_ok rp g q false zs _ ((unhide HBS).rat.rd.drewN n)
      have HE : Hid (∀ k, (∃ r, Tells gg ce (Infl.bitsOf zs) most r ∧ ReadIs r most zs w (.returned (.tuple #[vi, .int .i64 (((q + 7) / 8 : Nat) : Int), .int .i64 0])) (wr.drewN k))) := hide fun k => ⟨_, unhide HTE, ⟨(unhide HBS).bel.os, (unhide HBS).bel.tape, (unhide HBS).bel.output, (unhide HBS).bel.size, (unhide HBS).bel.block⟩, .inl ⟨oi, q, vi, rfl, rfl, by
        have hrow := (unhide HBS).rat.row
        refine ⟨hrow.1, ?_⟩
        rcases hrow.2 with e | ⟨g', cap, cur, e, hb', r⟩
        · exact .inl e
        · exact .inr ⟨g', cap, cur, e, by have := (unhide HBS).rat.lb; have := (unhide HBS).lo; omega, r⟩, (unhide HBS).rat.small, (unhide HBS).rat.ol, hq⟩⟩
      have hqi : (q : Int) ≤ 1125899906842624 := by omega
      clear HTE HBS
      go_wp2_with fail
      go_quiet (first | (go_at_call 29; refine Calls.quiet_of_same (unhide HAT _)))
      go_wp2_with fail
      refine jump_ret_of ?_
      go_ret3
      exact unhide HE _
end
end Go.Proofs.Ytppbnodgnphaaaa
