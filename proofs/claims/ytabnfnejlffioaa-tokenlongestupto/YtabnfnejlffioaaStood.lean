/- level.stood: the last place at which a piece stood. -/
import Derived.Test.YtabnfnejlffioaaAdd
namespace Go.Proofs.Ytabnfnejlffioaa
open Go.RowKit Go.Maps
set_option linter.unusedVariables false

attribute [local go_sem ↓] Go.wp_at_zero Go.wp_at_succ

set_option maxRecDepth 100000 in
set_option maxHeartbeats 1000000 in
/-- where the text has not so many bytes -/
theorem add_short (L s p g o : Nat) (a : Option Addr) (cap : Nat) (w : World) (hs8 : s ≤ 8) (hpl : p ≤ L) (hl : L ≤ 100000000) (hp : L < p + s) (c0 : w.cell? ⟨g, o, none⟩ = some (.int .i64 (s : Int))) :
    Calls Try.prog 42 #[.pointer (some ⟨g, o, none⟩), .slice a L cap, .int .i64 (p : Int)] w fun e w' => e = .returned (.tuple #[]) ∧ w' = w := by
  have hnl : (L : Int) - (p : Int) < (s : Int) := by omega
  go_enter Try.func42, Try.ntmps42
  go_wp2_with fail
  refine bodyPost_ret (results_none rfl _ _ _) rfl ?_
  exact ⟨rfl, rfl⟩

set_option maxRecDepth 100000 in
set_option maxHeartbeats 1000000 in
theorem stood_short (L s p g o : Nat) (a : Option Addr) (cap : Nat) (w : World) (hs8 : s ≤ 8) (hpl : p ≤ L) (hl : L ≤ 100000000) (hp : L < p + s) (c0 : w.cell? ⟨g, o, none⟩ = some (.int .i64 (s : Int))) :
    Calls Try.prog 32 #[.pointer (some ⟨g, o, none⟩), .slice a L cap, .int .i64 (p : Int)] w fun e w' => e = .returned (.int .i64 (-1)) ∧ w' = w := by
  have hnl : (L : Int) - (p : Int) < (s : Int) := by omega
  go_enter Try.func32, Try.ntmps32
  go_wp2_with fail
  go_ret
  exact ⟨rfl, rfl⟩

set_option maxRecDepth 100000 in
set_option maxHeartbeats 4000000 in
theorem stood_ok (zs : List Nat) (s p m B B' g o b cap ba off : Nat) (v : Value) (w : World) (hs1 : 1 ≤ s) (hs8 : s ≤ 8) (hr : ReadsU B' w (.slice (some ⟨ba, off, none⟩) zs.length cap) zs) (hcap : zs.length ≤ cap) (hz : ∀ c ∈ zs, c < 256) (hp : p + s ≤ zs.length) (hl : zs.length ≤ 100000000)
    (hlv : LvlAt zs s m B w g o b v) (hm : m ≤ zs.length) :
    Calls Try.prog 32 #[.pointer (some ⟨g, o, none⟩), .slice (some ⟨ba, off, none⟩) zs.length cap, .int .i64 (p : Int)] w fun e w' => e = .returned (.int .i64 ((lastOf zs s m (keyAt zs s p) : Nat) - 1 : Int)) ∧ ∃ q, w' = w.drewN q := by
  have hln : ((zs.drop p).take s).length = s := by simp; omega
  have HKC : Hid (∀ q, Calls Try.prog 44 #[.slice (some ⟨ba, off + p, none⟩) s s] (w.drewN q) fun e w' => e = .returned (.int .u64 (keyAt zs s p : Nat)) ∧ w' = w.drewN q) := hide fun q => by
    have h1 := (hr.sub rfl p s s hp (Nat.le_refl _)).stays (w1 := w.drewN q) ⟨rfl, rfl, rfl, Nat.le_refl _, fun _ _ => rfl⟩
    exact key_ok ((zs.drop p).take s) _ B' (w.drewN q) h1 (by rw [hln]; exact hs8) (fun c hc => hz c (List.mem_of_mem_drop (List.mem_of_mem_take hc)))
  have c0 := hlv.c0
  have c1 := hlv.c1
  have hk64 := keyAt_lt hz hs8 hp
  have hlk : ∀ q, (Instr.lookup 62 (.map (some b)) (.int .u64 ((keyAt zs s p : Nat) : Int)) false).run Try.prog (w.drewN q) = .ok (.int .i64 (lastOf zs s m (keyAt zs s p) : Nat)) (w.drewN q) := fun q => (hlv.mp.block (w' := w.drewN q) rfl).look _ hk64
  have hzl : lastOf zs s m (keyAt zs s p) ≤ m := lastOf_le _ _ _ _
  obtain ⟨z, hzz⟩ : ∃ z, z = lastOf zs s m (keyAt zs s p) := ⟨_, rfl⟩
  rw [← hzz] at hlk hzl ⊢
  obtain ⟨L, hL⟩ : ∃ L, L = zs.length := ⟨_, rfl⟩
  rw [← hL] at hp hl hcap hm ⊢
  obtain ⟨E, hE⟩ : ∃ E : Nat, (p : Int) + (s : Int) = (E : Int) := ⟨p + s, by omega⟩
  have hEp : E - p = s := by omega
  have hpE : p ≤ E := by omega
  have hEc : E ≤ cap := by omega
  have hpEc : p ≤ E ∧ E ≤ cap := ⟨hpE, hEc⟩
  have hnl : ¬ (L : Int) - (p : Int) < (s : Int) := by omega
  have hwE : IntKind.i64.wrap (E : Int) = (E : Int) := IntWalk.i64_in _ (by omega)
  have hwz : IntKind.i64.wrap ((z : Int) - 1) = (z : Int) - 1 := IntWalk.i64_in _ (by omega)
  have hs0 : ¬ s = 0 := by omega
  obtain ⟨K, hK⟩ : ∃ K, K = keyAt zs s p := ⟨_, rfl⟩
  rw [← hK] at HKC hlk
  clear hL hr hln hK hlv hk64 hz hzz
  have hlk0 := hlk 0
  go_enter Try.func32, Try.ntmps32
  go_wp2_with fail
  go_quiet (first | (go_at_call 44; refine Calls.quiet_of_same (unhide HKC _)))
  go_wp2_with fail
  go_ret
  exact ⟨rfl, nq, rfl⟩

end Go.Proofs.Ytabnfnejlffioaa
