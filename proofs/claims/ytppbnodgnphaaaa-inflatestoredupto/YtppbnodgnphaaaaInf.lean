/- Inflate: the first bytes first, and more where they did not reach. -/
import Derived.Test.YtppbnodgnphaaaaRa
namespace Go.Proofs.Ytppbnodgnphaaaa
open Go.RowKit Mth Infl
set_option maxRecDepth 100000
set_option linter.unusedVariables false

theorem agree_take (zs : List Nat) (S : Nat) : Agree (Infl.bitsOf (zs.take S)) (Infl.bitsOf zs) (Infl.bitsOf (zs.take S)).m := by
  intro i hi
  rw [bitsOf_m, List.length_take] at hi
  unfold Infl.bitsOf
  simp only [List.getD_eq_getElem?_getD]
  rw [List.getElem?_take, if_pos (by omega)]

/-- what is told of the first bytes is told of all, but for that bits end -/
theorem tells_more {zs : List Nat} {S most : Nat} {r : Res (List Nat)} (h : Tells gg ce (Infl.bitsOf (zs.take S)) most r) (h10 : r ≠ .bad 10) : Tells gg ce (Infl.bitsOf zs) most r := by
  have hm : (Infl.bitsOf (zs.take S)).m ≤ (Infl.bitsOf zs).m := by rw [bitsOf_m, bitsOf_m, List.length_take]; omega
  cases r with
  | ok o q =>
    have hle := h.le gg_gl
    exact h.ext gg_gl ((agree_take zs S).mono hle) (by omega)
  | bad b => exact h.err gg_gl (fun e => h10 (by rw [e])) (agree_take zs S) hm
  | more => exact absurd rfl h.1

theorem ReadIs.wide {r : Res (List Nat)} {most : Nat} {zs : List Nat} {S : Nat} {w w1 w' : World} {e : Ending} (h : ReadIs r most (zs.take S) w1 e w') (hb : Below w.heap.size w w1) : ReadIs r most zs w e w' := by
  obtain ⟨h1, h2⟩ := h
  refine ⟨hb.trans (h1.mono hb.size), ?_⟩
  rcases h2 with ⟨o, q, v', e1, e2, e3, e4, e5, e6⟩ | ⟨b, e1, e2, e3, e4⟩
  · refine .inl ⟨o, q, v', e1, e2, ?_, e4, e5, by rw [List.length_take] at e6; omega⟩
    refine ⟨e3.1, ?_⟩
    rcases e3.2 with e | ⟨g', cap, cur, e, hb', r⟩
    · exact .inl e
    · exact .inr ⟨g', cap, cur, e, by have := hb.size; omega, r⟩
  · exact .inr ⟨b, e1, e2, e3, e4⟩

theorem ReadIs.same {r : Res (List Nat)} {most : Nat} {zs : List Nat} {w w1 w' : World} {e : Ending} (h : ReadIs r most zs w1 e w') (hb : Below w.heap.size w w1) : ReadIs r most zs w e w' := by
  have : zs = zs.take zs.length := by simp
  rw [this] at h
  exact h.wide hb

set_option maxHeartbeats 1000000 in
theorem inflate_arg (bs : Value) (most : Int) (w : World) (hm : most < 0 ∨ 268435456 < most) :
    Calls Try.prog 7 #[bs, .int .i64 most] w fun e w' => e = .returned (.tuple #[.slice none 0 0, .int .i64 0, .int .i64 2]) ∧ w' = w := by
  by_cases h : most < 0
  · have hb : decide (most < 0) = true := by simp; omega
    clear hm
    go_enter Try.func7, Try.ntmps7
    go_wp2_with fail
    go_ret3
    exact ⟨rfl, rfl⟩
  · have hb : decide (most < 0) = false := by simp; omega
    have h2 : 268435456 < most := by omega
    have hb2 : decide (268435456 < most) = true := by simp; omega
    clear hm
    go_enter Try.func7, Try.ntmps7
    go_wp2_with fail
    go_ret3
    exact ⟨rfl, rfl⟩

/-- bytes that were handed in -/
def Bytes (w : World) (a : Option Addr) (cap : Nat) (zs : List Nat) : Prop := zs.length ≤ cap ∧ Reads w (.slice a zs.length cap) zs

theorem Bytes.take {w : World} {a : Option Addr} {cap : Nat} {zs : List Nat} (h : Bytes w a cap zs) (S : Nat) (hS : S ≤ zs.length) : Reads w (.slice a S cap) (zs.take S) := by
  obtain ⟨_, a', cap', e, hr⟩ := h
  injection e with e1 e2 e3
  subst e1 e3
  have hl : (zs.take S).length = S := by simp; omega
  refine ⟨a, cap, by rw [hl], fun h0 => ?_⟩
  rw [hl] at h0
  obtain ⟨ad, rfl, h2⟩ := hr (by omega)
  refine ⟨ad, rfl, fun j u hj => h2 j u ?_⟩
  rw [List.map_take, List.getElem?_take] at hj
  split at hj
  · exact hj
  · cases hj

theorem Bytes.stays {w w1 : World} {a : Option Addr} {cap : Nat} {zs : List Nat} (h : Bytes w a cap zs) (hb : Below w.heap.size w w1) : Bytes w1 a cap zs := ⟨h.1, h.2.stays hb⟩

set_option maxHeartbeats 2000000 in
theorem inflate_ok (a : Option Addr) (cap : Nat) (zs : List Nat) (most : Nat) (w : World) (hr : Bytes w a cap zs) (hz : zs.length ≤ 140737488355328) (hs : ∀ z ∈ zs, z < 256) (hm : most ≤ 268435456) :
    Calls Try.prog 7 #[.slice a zs.length cap, .int .i64 (most : Int)] w fun e w' => ∃ r, Tells gg ce (Infl.bitsOf zs) most r ∧ ReadIs r most zs w e w' := by
  have hb1 : decide ((most : Int) < 0) = false := by simp
  have hb1' : ¬ (most : Int) < 0 := by omega
  have hb2 : decide (268435456 < (most : Int)) = false := by simp; omega
  have hb2' : ¬ 268435456 < (most : Int) := by omega
  have HR := hide hr
  have HS := hide hs
  obtain ⟨N, hN⟩ : ∃ N, N = zs.length := ⟨_, rfl⟩
  have hcap := hr.1
  rw [← hN] at hcap hz ⊢
  have HN := hide hN
  clear hr hs hN
  go_enter Try.func7, Try.ntmps7
  go_wp2_with fail
  go_loopg [7] (N - 4096) (fun gk l ws => ∃ S : Nat, gk = N - S ∧ 4096 ≤ S ∧ S ≤ 1125899906842624 ∧ l = .int .i64 (S : Int) ∧ Hid (Below w.heap.size w ws))
  case atStart => exact ⟨4096, rfl, by omega, by omega, rfl, hide (Below.refl _ _)⟩
  case round =>
    obtain ⟨S, rfl, hS, hS2, rfl, hbel⟩ := hrel
    by_cases hlt : S < N
    · have tlt : (S : Int) < (N : Int) := by omega
      have tc : (S : Int) ≤ (cap : Int) := by omega
      have HRA := hide (readAll_ok (.slice a S cap) (zs.take S) most wr (((unhide HR).stays (unhide hbel)).take S (by rw [← unhide HN]; omega)) (by rw [List.length_take]; omega) (fun z hz => unhide HS z (List.mem_of_mem_take hz)) hm)
      go_wp2_with fail
      refine (unhide HRA).mono ?_
      rintro e w1 ⟨r, ht, hri⟩
      have HRW := hide (hri.wide (unhide hbel))
      have HB1 := hide ((unhide hbel).trans (hri.1.mono (unhide hbel).size))
      rcases hri.2 with ⟨o, q, v', rfl, rfl, _, _, _, _⟩ | ⟨b, rfl, hb0, hb100, rfl⟩
      · have HE := hide (show ∃ r, Tells gg ce (Infl.bitsOf zs) most r ∧ ReadIs r most zs w _ w1 from ⟨_, tells_more ht (by simp), unhide HRW⟩)
        clear ht hri
        go_wp2_with fail
        go_ret3
        exact unhide HE
      · by_cases h10 : b = 10
        · subst h10
          clear ht hri
          go_wp2_with fail
          go_roundg (N - S * 8)
          case measure => omega
          case rel => exact ⟨S * 8, rfl, by omega, by omega, by go_num, HB1⟩
        · have HE := hide (show ∃ r, Tells gg ce (Infl.bitsOf zs) most r ∧ ReadIs r most zs w _ w1 from ⟨_, tells_more ht (by intro e; injection e with e; exact h10 e), unhide HRW⟩)
          have t1 : ¬ (b : Int) = 10 := by omega
          have t2 : ((b : Int) == 10) = false := by simp; omega
          clear ht hri h10
          go_wp2_with fail
          go_ret3
          exact unhide HE
    · have tlt : ¬ (S : Int) < (N : Int) := by omega
      have HRA := hide (readAll_ok (.slice a N cap) zs most wr (by have := ((unhide HR).stays (unhide hbel)).2; rw [← unhide HN] at this; exact this) (by rw [← unhide HN]; exact hz) (unhide HS) hm)
      go_wp2_with fail
      refine (unhide HRA).mono ?_
      rintro e w1 ⟨r, ht, hri⟩
      have HE := hide (show ∃ r, Tells gg ce (Infl.bitsOf zs) most r ∧ ReadIs r most zs w e w1 from ⟨_, ht, hri.same (unhide hbel)⟩)
      rcases hri.2 with ⟨o, q, v', rfl, rfl, _, _, _, _⟩ | ⟨b, rfl, hb0, hb100, rfl⟩
      · clear ht hri
        go_wp2_with fail
        go_ret3
        exact unhide HE
      · clear ht hri
        go_wp2_with fail
        go_ret3
        exact unhide HE

end Go.Proofs.Ytppbnodgnphaaaa
