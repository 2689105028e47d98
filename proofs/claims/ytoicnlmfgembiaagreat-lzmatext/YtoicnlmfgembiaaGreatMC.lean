/- Texts of one proof, one behind the other: We, Wf, Wg, Wi, Co, Lf, Ky, Kz, Ix, Io, Ip, Iq, Ra, Rb. -/
import Derived.Test.YtoicnlmfgembiaaGreatMB
import Derived.RangeFuncNested
import Derived.RangeFuncBound
import Derived.RangeFuncCalls
import Derived.RangeFuncLeaves
import Derived.Shelf.Abstract
import Derived.Shelf.RegionOpen
import Derived.OwnWalkIn
import Derived.TacticsInMore
import Derived.LoopNIn
import Derived.LoopIn

set_option linter.unusedVariables false
set_option maxRecDepth 100000
set_option maxHeartbeats 24000000
namespace Go.Proofs.YtoicnlmfgembiaaGreat
namespace D
open Go.RowKit Rang
attribute [local go_sem ↓] wp_at_zero wp_at_succ
section
variable {B:Nat} {W w w':World} {wb pb gc:Nat} {ov:Value} {tl:List Value} {s s1:LS} {chv tv:Value} {σ:Sta} {l m:List A4}
theorem z1w (h:AD B wb pb gc ov tl s chv tv σ l W w) (hk:σ.k+31*(l.length+5)≤70000000000000) (at_ n:Nat) (hn:2≤n∧n≤273) (ha:at_+514≤s.chances) :
  Calls Tryz.prog 114 #[.pointer (some ⟨wb,0,none⟩),.int .i64 (at_:Int),.int .i64 (n:Int)] w (PD B wb pb gc ov tl s chv tv σ (l++lenA at_ s.y n) W):=by
 obtain ⟨g1,g2,g3,g4,g5,g6,g7,g8,f0,f1,f2,f3,f4,f5,f6,f7⟩:=z9h hn ha (s.y_lt h.ok) (z0x h.ok)
 obtain ⟨k0,k1,k2,k3,k4⟩:=y2s hk
 have c12:=h.c12
 have i1:=(iw ((at_:Int)+1)).trans f1
 have i4:=(iw ((n:Int)-2)).trans f4
 have i5:=(iw _).trans f5
 have i6:=(iw _).trans f6
 have i7:=(iw _).trans f7
 clear hk ha
 by_cases h10:n<10
 ·have t1:(n:Int)<10:=by omega
  have e1:l++lenA at_ s.y n=(l++[bitA at_ 0])++[z1a (at_+2+s.y*8) (n-2) 3]:=by unfold lenA;rw [if_pos h10];simp
  rw [e1]
  have HB:Hid (Calls Tryz.prog 112 #[.pointer (some ⟨pb,0,none⟩),.int .i64 (at_:Int),.int .i64 0] w fun e w'=>ActE e∧AD B wb pb gc ov tl s chv tv σ (l++[bitA at_ 0]) W w'):=qz (h.bit k0 at_ 0 g1 (Nat.zero_le _))
  have HT:Hid (∀w2,AD B wb pb gc ov tl s chv tv σ (l++[bitA at_ 0]) W w2→Calls Tryz.prog 145 #[.pointer (some ⟨pb,0,none⟩),.int .i64 ((at_+2+s.y*8:Nat):Int),.int .i64 ((n-2:Nat):Int),.int .i64 3] w2 fun e w'=>ActE e∧AD B wb pb gc ov tl s chv tv σ (l++[bitA at_ 0]++[z1a (at_+2+s.y*8) (n-2) 3]) W w'):=qz fun w2 h2=>h2.tree (by rw [len1];exact k1) (at_+2+s.y*8) (n-2) 3 (by decide) g3 (g6 h10)
  have HL:=qz fun w2 (h2:AD B wb pb gc ov tl s chv tv σ (l++[bitA at_ 0]) W w2)=>h2.st.lowT h2.ok
  clear e1 hn h10 h g1 g2 g3 g4 g5 g6 g7 g8 k0 k1 k2 k3 k4 f1 f2 f3 f6 f7 i1 i6 i7
  generalize at_+2+s.y*8=base at *
  generalize 2+s.y*8=lt at *
  generalize n-2=n2 at *
  go_enter Tryz.func114,Tryz.ntmps114
  go_wp2_with fail
  refine (uh HB).mono ?_
  rintro e w2 ⟨rfl,h2⟩
  have H2:=qz h2
  have d12:=h2.c12
  clear h2 HB c12
  go_wp2_with fail
  refine wp_region_noPanic ?_
  refine wp_region_held_drew (S:=fun x=>x.cell? ⟨wb,12,none⟩=some (.pointer (some ⟨pb,0,none⟩))∧x.cell? ⟨wb,9,none⟩=some (.int .i64 (s.z:Int))) (by kernel_rfl) ⟨(uh H2).c12,(uh H2).st.c9⟩ (fun hHeld=>?_)
  show wpAnyH _ _ _ _ _ _ _ _ w2.drew
  have H0:=qz (uh H2).drew
  generalize w2.drew=x1 at H0 hHeld ⊢
  refine hT 0 15 rfl rfl hHeld nPp (v:=?_) (fun x hSx=>?_) ?_
  rotate_left 1
  ·(obtain ⟨s0,s1⟩:=hSx;go_simp<;>with_reducible rfl)
  simp only [sA,sB]
  refine hT 1 16 rfl rfl hHeld nPp (v:=?_) (fun x hSx=>?_) ?_
  rotate_left 1
  ·(obtain ⟨s0,s1⟩:=hSx;go_simp<;>with_reducible rfl)
  simp only [sA,sB]
  refine hT 2 17 rfl rfl hHeld nPp (v:=?_) (fun x hSx=>?_) ?_
  rotate_left 1
  ·(obtain ⟨s0,s1⟩:=hSx;go_simp<;>with_reducible rfl)
  simp only [sA,sB]
  refine hT 3 18 rfl rfl hHeld nPp (v:=?_) (fun x hSx=>?_) ?_
  rotate_left 1
  ·(obtain ⟨s0,s1⟩:=hSx;go_simp<;>with_reducible rfl)
  simp only [sA,sB]
  refine hT 4 19 rfl rfl hHeld nPp (v:=?_) (fun x hSx=>?_) ?_
  rotate_left 1
  ·(obtain ⟨s0,s1⟩:=hSx;go_simp<;>with_reducible rfl)
  simp only [sA,sB]
  refine hT 5 20 rfl rfl hHeld nPp (v:=?_) (fun x hSx=>?_) ?_
  rotate_left 1
  ·(obtain ⟨s0,s1⟩:=hSx;go_simp<;>with_reducible rfl)
  simp only [sA,sB]
  refine hT 6 21 rfl rfl hHeld nPp (v:=?_) (fun x hSx=>?_) ?_
  rotate_left 1
  ·(obtain ⟨s0,s1⟩:=hSx;go_simp<;>with_reducible rfl)
  simp only [sA,sB]
  refine hT 7 22 rfl rfl hHeld nPp (v:=?_) (fun x hSx=>?_) ?_
  rotate_left 1
  ·(obtain ⟨s0,s1⟩:=hSx;go_simp<;>with_reducible rfl)
  simp only [sA,sB]
  refine hT 10 25 rfl rfl hHeld nPp (v:=?_) (fun x hSx=>?_) ?_
  rotate_left 1
  ·(obtain ⟨s0,s1⟩:=hSx;go_simp<;>with_reducible rfl)
  simp only [sA,sB]
  refine hT 11 26 rfl rfl hHeld nPp (v:=?_) (fun x hSx=>?_) ?_
  rotate_left 1
  ·(obtain ⟨s0,s1⟩:=hSx;go_simp<;>with_reducible rfl)
  simp only [sA,sB]
  refine z0a 8 23 (by kernel_rfl) rfl rfl (by rfl) (by go_simp<;>exact ⟨rfl,rfl⟩) ?_
  refine (uh HL _ (uh H0)).mono ?_
  rintro e wq hr
  obtain ⟨rfl,h3⟩:=(uh H0).rt hr
  have H0:=qz h3
  clear hr h3
  have hHeld:=And.intro (uh H0).c12 (uh H0).st.c9
  refine ⟨_,rfl,hHeld,?_⟩
  simp only [sA,sB]
  refine hT 9 24 rfl rfl hHeld nPp (v:=?_) (fun x hSx=>?_) ?_
  rotate_left 1
  ·(obtain ⟨s0,s1⟩:=hSx;go_simp<;>with_reducible rfl)
  simp only [sA,sB]
  refine z0a 12 27 (by kernel_rfl) rfl rfl (by rfl) (by go_simp<;>exact ⟨rfl,rfl⟩) ?_
  refine (uh HT _ (uh H0)).mono ?_
  rintro e wn ⟨he,h3⟩
  obtain rfl:e=.returned (.int .i64 0):=he
  have H3:=qz h3
  clear h3
  refine ⟨_,rfl,⟨(uh H3).c12,(uh H3).st.c9⟩,?_⟩
  simp only [sA,sB]
  refine dN ?_
  go_wp2_with fail
  refine bodyPost_ret (results_none rfl _ _ _) rfl ?_
  exact ⟨rfl,uh H3⟩
 ·have t1:¬ (n:Int)<10:=by omega
  have HB:Hid (Calls Tryz.prog 112 #[.pointer (some ⟨pb,0,none⟩),.int .i64 (at_:Int),.int .i64 1] w fun e w'=>ActE e∧AD B wb pb gc ov tl s chv tv σ (l++[bitA at_ 1]) W w'):=qz (h.bit k0 at_ 1 g1 (Nat.le_refl _))
  by_cases h18:n<18
  ·have t2:(n:Int)<18:=by omega
   have i2:=(iw ((n:Int)-10)).trans (f2 h10)
   have f2':=f2 h10
   have e1:l++lenA at_ s.y n=((l++[bitA at_ 1])++[bitA (at_+1) 0])++[z1a (at_+130+s.y*8) (n-10) 3]:=by unfold lenA;rw [if_neg h10,if_pos h18];simp
   rw [e1]
   have HC:Hid (∀w2,AD B wb pb gc ov tl s chv tv σ (l++[bitA at_ 1]) W w2→Calls Tryz.prog 112 #[.pointer (some ⟨pb,0,none⟩),.int .i64 (((at_+1:Nat)):Int),.int .i64 0] w2 fun e w'=>ActE e∧AD B wb pb gc ov tl s chv tv σ (l++[bitA at_ 1]++[bitA (at_+1) 0]) W w'):=qz fun w2 h2=>h2.bit (by rw [len1];exact k1) (at_+1) 0 g2 (Nat.zero_le _)
   have HT:Hid (∀w2,AD B wb pb gc ov tl s chv tv σ (l++[bitA at_ 1]++[bitA (at_+1) 0]) W w2→Calls Tryz.prog 145 #[.pointer (some ⟨pb,0,none⟩),.int .i64 ((at_+130+s.y*8:Nat):Int),.int .i64 ((n-10:Nat):Int),.int .i64 3] w2 fun e w'=>ActE e∧AD B wb pb gc ov tl s chv tv σ (l++[bitA at_ 1]++[bitA (at_+1) 0]++[z1a (at_+130+s.y*8) (n-10) 3]) W w'):=qz fun w2 h2=>h2.tree (by rw [len2];exact k2) (at_+130+s.y*8) (n-10) 3 (by decide) g4 (g7 h18)
   have HL:=qz fun w2 (h2:AD B wb pb gc ov tl s chv tv σ (l++[bitA at_ 1]++[bitA (at_+1) 0]) W w2)=>h2.st.midT h2.ok
   clear e1 hn h10 h18 h g1 g2 g3 g4 g5 g6 g7 g8 k0 k1 k2 k3 k4 f2 f3 f4 f5 f7 i4 i5 i7
   generalize at_+130+s.y*8=base at *
   generalize 130+s.y*8=lt at *
   generalize n-10=n2 at *
   generalize at_+1=at1 at *
   go_enter Tryz.func114,Tryz.ntmps114
   go_wp2_with fail
   refine (uh HB).mono ?_
   rintro e w1 ⟨rfl,h2⟩
   have d12:=h2.c12
   have HC1:=qz (uh HC _ h2)
   clear h2 HB c12 HC
   go_wp2_with fail
   refine (uh HC1).mono ?_
   rintro e w2 ⟨rfl,h2⟩
   have H2:=qz h2
   clear h2 HC1 d12
   go_wp2_with fail
   refine wp_region_noPanic ?_
   refine wp_region_held_drew (S:=fun x=>x.cell? ⟨wb,12,none⟩=some (.pointer (some ⟨pb,0,none⟩))∧x.cell? ⟨wb,9,none⟩=some (.int .i64 (s.z:Int))) (by kernel_rfl) ⟨(uh H2).c12,(uh H2).st.c9⟩ (fun hHeld=>?_)
   show wpAnyH _ _ _ _ _ _ _ _ w2.drew
   have H0:=qz (uh H2).drew
   generalize w2.drew=x1 at H0 hHeld ⊢
   refine hT 0 44 rfl rfl hHeld nPp (v:=?_) (fun x hSx=>?_) ?_
   rotate_left 1
   ·(obtain ⟨s0,s1⟩:=hSx;go_simp<;>with_reducible rfl)
   simp only [sA,sB]
   refine hT 1 45 rfl rfl hHeld nPp (v:=?_) (fun x hSx=>?_) ?_
   rotate_left 1
   ·(obtain ⟨s0,s1⟩:=hSx;go_simp<;>with_reducible rfl)
   simp only [sA,sB]
   refine hT 2 46 rfl rfl hHeld nPp (v:=?_) (fun x hSx=>?_) ?_
   rotate_left 1
   ·(obtain ⟨s0,s1⟩:=hSx;go_simp<;>with_reducible rfl)
   simp only [sA,sB]
   refine hT 3 47 rfl rfl hHeld nPp (v:=?_) (fun x hSx=>?_) ?_
   rotate_left 1
   ·(obtain ⟨s0,s1⟩:=hSx;go_simp<;>with_reducible rfl)
   simp only [sA,sB]
   refine hT 4 48 rfl rfl hHeld nPp (v:=?_) (fun x hSx=>?_) ?_
   rotate_left 1
   ·(obtain ⟨s0,s1⟩:=hSx;go_simp<;>with_reducible rfl)
   simp only [sA,sB]
   refine hT 5 49 rfl rfl hHeld nPp (v:=?_) (fun x hSx=>?_) ?_
   rotate_left 1
   ·(obtain ⟨s0,s1⟩:=hSx;go_simp<;>with_reducible rfl)
   simp only [sA,sB]
   refine hT 6 50 rfl rfl hHeld nPp (v:=?_) (fun x hSx=>?_) ?_
   rotate_left 1
   ·(obtain ⟨s0,s1⟩:=hSx;go_simp<;>with_reducible rfl)
   simp only [sA,sB]
   refine hT 7 51 rfl rfl hHeld nPp (v:=?_) (fun x hSx=>?_) ?_
   rotate_left 1
   ·(obtain ⟨s0,s1⟩:=hSx;go_simp<;>with_reducible rfl)
   simp only [sA,sB]
   refine hT 10 54 rfl rfl hHeld nPp (v:=?_) (fun x hSx=>?_) ?_
   rotate_left 1
   ·(obtain ⟨s0,s1⟩:=hSx;go_simp<;>with_reducible rfl)
   simp only [sA,sB]
   refine hT 11 55 rfl rfl hHeld nPp (v:=?_) (fun x hSx=>?_) ?_
   rotate_left 1
   ·(obtain ⟨s0,s1⟩:=hSx;go_simp<;>with_reducible rfl)
   simp only [sA,sB]
   refine z0a 8 52 (by kernel_rfl) rfl rfl (by rfl) (by go_simp<;>exact ⟨rfl,rfl⟩) ?_
   refine (uh HL _ (uh H0)).mono ?_
   rintro e wq hr
   obtain ⟨rfl,h3⟩:=(uh H0).rt hr
   have H0:=qz h3
   clear hr h3
   have hHeld:=And.intro (uh H0).c12 (uh H0).st.c9
   refine ⟨_,rfl,hHeld,?_⟩
   simp only [sA,sB]
   refine hT 9 53 rfl rfl hHeld nPp (v:=?_) (fun x hSx=>?_) ?_
   rotate_left 1
   ·(obtain ⟨s0,s1⟩:=hSx;go_simp<;>with_reducible rfl)
   simp only [sA,sB]
   refine z0a 12 56 (by kernel_rfl) rfl rfl (by rfl) (by go_simp<;>exact ⟨rfl,rfl⟩) ?_
   refine (uh HT _ (uh H0)).mono ?_
   rintro e wn ⟨he,h3⟩
   obtain rfl:e=.returned (.int .i64 0):=he
   have H3:=qz h3
   clear h3
   refine ⟨_,rfl,⟨(uh H3).c12,(uh H3).st.c9⟩,?_⟩
   simp only [sA,sB]
   refine dN ?_
   go_wp2_with fail
   refine bodyPost_ret (results_none rfl _ _ _) rfl ?_
   exact ⟨rfl,uh H3⟩
  ·have t2:¬ (n:Int)<18:=by omega
   have i3:=(iw ((n:Int)-18)).trans (f3 h18)
   have f3':=f3 h18
   have e1:l++lenA at_ s.y n=((l++[bitA at_ 1])++[bitA (at_+1) 1])++[z1a (at_+258) (n-18) 8]:=by unfold lenA;rw [if_neg h10,if_neg h18];simp
   rw [e1]
   have HC:Hid (∀w2,AD B wb pb gc ov tl s chv tv σ (l++[bitA at_ 1]) W w2→Calls Tryz.prog 112 #[.pointer (some ⟨pb,0,none⟩),.int .i64 (((at_+1:Nat)):Int),.int .i64 1] w2 fun e w'=>ActE e∧AD B wb pb gc ov tl s chv tv σ (l++[bitA at_ 1]++[bitA (at_+1) 1]) W w'):=qz fun w2 h2=>h2.bit (by rw [len1];exact k1) (at_+1) 1 g2 (Nat.le_refl _)
   have HT:Hid (∀w2,AD B wb pb gc ov tl s chv tv σ (l++[bitA at_ 1]++[bitA (at_+1) 1]) W w2→Calls Tryz.prog 145 #[.pointer (some ⟨pb,0,none⟩),.int .i64 ((at_+258:Nat):Int),.int .i64 ((n-18:Nat):Int),.int .i64 8] w2 fun e w'=>ActE e∧AD B wb pb gc ov tl s chv tv σ (l++[bitA at_ 1]++[bitA (at_+1) 1]++[z1a (at_+258) (n-18) 8]) W w'):=qz fun w2 h2=>h2.tree (by rw [len2];exact k2) (at_+258) (n-18) 8 (by decide) g5 g8
   clear e1 hn h10 h18 h g1 g2 g3 g4 g5 g6 g7 g8 k0 k1 k2 k3 k4 f2 f3 f4 f5 f6 i4 i5 i6
   generalize at_+258=base at *
   generalize n-18=n2 at *
   generalize at_+1=at1 at *
   go_enter Tryz.func114,Tryz.ntmps114
   go_wp2_with fail
   refine (uh HB).mono ?_
   rintro e w1 ⟨rfl,h2⟩
   have d12:=h2.c12
   have HC1:=qz (uh HC _ h2)
   clear h2 HB c12 HC
   go_wp2_with fail
   refine (uh HC1).mono ?_
   rintro e w2 ⟨rfl,h2⟩
   have e12:=h2.c12
   have HT1:=qz (uh HT _ h2)
   clear h2 HC1 d12 HT
   go_wp2_with fail
   refine (uh HT1).mono ?_
   rintro e w3 ⟨rfl,h2⟩
   have H3:=qz h2
   clear h2
   go_wp2_with fail
   go_end0
   exact ⟨rfl,uh H3⟩
end
end D
namespace D
open Go.RowKit Rang
attribute [local go_sem ↓] wp_at_zero wp_at_succ
section
variable {B:Nat} {W w w':World} {wb pb gc:Nat} {ov:Value} {tl:List Value} {s s1:LS} {chv tv:Value} {σ:Sta} {l m:List A4}
theorem y1l {f:FuncId} {args:Array Value} {v:Value} {w:World} (h:Calls Tryz.prog f args w fun e w'=>e=.returned v∧w'=w):Calls Tryz.prog f args w (Rt v w):=h.mono fun _ _ h=>⟨h.1,0,h.2⟩
theorem z7k {f:Nat} (hf:f<4294967296) (h4:¬z0b f<4):4≤z0b f∧z0b f<64∧z0l (z0b f)≤30∧f-z0d (z0b f)<2^z0l (z0b f)∧(z0b f<14→z0l (z0b f)≤16∧z2w (z0b f)+2^z0l (z0b f)≤1840)∧(¬z0b f<14→z0l (z0b f)-4≤31∧(f-z0d (z0b f))/16<2^(z0l (z0b f)-4)) ∧
  wrap64 ((f-z0d (z0b f):Nat):Int)=((f-z0d (z0b f):Nat):Int)∧((f:Int)-(z0d (z0b f):Int))%4294967296=((f-z0d (z0b f):Nat):Int)∧wrap64 (((z0l (z0b f):Nat):Int))=((z0l (z0b f):Nat):Int)∧(¬z0b f<14→wrap64 ((z0l (z0b f):Int)-4)=((z0l (z0b f)-4:Nat):Int))∧z0d (z0b f)≤f:=by
 have hf4:4≤f:=by
  rcases Nat.lt_or_ge f 4 with h|h
  ·rw [z2r h] at h4;omega
  ·exact h
 obtain ⟨h1,h2,h3,h5,h6,h7,h8⟩:=z4b hf4 hf
 refine ⟨h1,h2,z1b h2,h6,fun h=>⟨by have:=z9u h;omega,by have:=h7 h;unfold z2w;omega⟩,fun h=>⟨by have:=z1b h2;omega,?_⟩,w64 (by omega) (by omega),by omega,w64 (by omega) (by have:=z1b h2;omega),fun h=>?_,h5⟩
 ·have h9:=z7c (show 14≤z0b f by omega)
  rw [Nat.div_lt_iff_lt_mul (by omega),show (16:Nat)=2^4 from rfl,←Nat.pow_add,show z0l (z0b f)-4+4=z0l (z0b f) by omega]
  exact h6
 ·have h9:=z7c (show 14≤z0b f by omega)
  have h10:=z1b h2
  rw [w64 (by omega) (by omega)];omega
theorem z7u (h:AD B wb pb gc ov tl s chv tv σ l W w) (hk:σ.k+31*(l.length+5)≤70000000000000) (f n:Nat) (hn:2≤n∧n≤273) (hf:f<4294967296) :
  Calls Tryz.prog 115 #[.pointer (some ⟨wb,0,none⟩),.int .u32 (f:Int),.int .i64 (n:Int)] w (PD B wb pb gc ov tl s chv tv σ (l++z2n f n) W):=by
 obtain ⟨k0,k1,k2,k3,k4⟩:=y2s hk
 have hN:=z2c s
 have hslot:z0b f<64:=by
  rcases Nat.lt_or_ge f 4 with h|h
  ·rw [z2r h];omega
  ·exact (z4b h hf).2.1
 have HS:=qz (y3k f w hf)
 have HTR:=qz fun w2=>y1l (y1t n w2 hn.1 (by omega))
 have HT:Hid (∀w2,AD B wb pb gc ov tl s chv tv σ (l) W w2→Calls Tryz.prog 145 #[.pointer (some ⟨pb,0,none⟩),.int .i64 ((z0g n:Nat):Int),.int .i64 ((z0b f:Nat):Int),.int .i64 6] w2 fun e w'=>ActE e∧AD B wb pb gc ov tl s chv tv σ (l++[z1a (z0g n) (z0b f) 6]) W w'):=qz fun w2 h2=>h2.tree k0 (z0g n) (z0b f) 6 (by decide) (by unfold z0g;omega) (by omega)
 have H1:=qz h
 by_cases h4:z0b f<4
 ·have t1:((z0b f:Nat):Int)<4:=by omega
  have e1:l++z2n f n=l++[z1a (z0g n) (z0b f) 6]:=by unfold z2n;rw [if_pos h4]
  rw [e1]
  clear e1 h hk k0 k1 k2 k3 k4 hN hn hf hslot h4
  generalize z0b f=sl at *
  generalize z0g n=st at *
  go_enter Tryz.func115,Tryz.ntmps115
  go_wp2_with fail
  refine (uh HS).mono ?_
  rintro e w1 ⟨rfl,rfl⟩
  go_wp2_with fail
  refine wp_region_noPanic ?_
  refine wp_region_held_drew (S:=fun x=>x.cell? ⟨wb,12,none⟩=some (.pointer (some ⟨pb,0,none⟩))∧x.cell? ⟨wb,9,none⟩=some (.int .i64 (s.z:Int))) (by kernel_rfl) ⟨(uh H1).c12,(uh H1).st.c9⟩ (fun hHeld=>?_)
  show wpAnyH _ _ _ _ _ _ _ _ w1.drew
  have H0:=qz (uh H1).drew
  generalize w1.drew=x1 at H0 hHeld ⊢
  refine hT 0 11 rfl rfl hHeld nPp (v:=?_) (fun x hSx=>?_) ?_
  rotate_left 1
  ·(obtain ⟨s0,s1⟩:=hSx;go_simp<;>with_reducible rfl)
  simp only [sA,sB]
  refine hT 1 12 rfl rfl hHeld nPp (v:=?_) (fun x hSx=>?_) ?_
  rotate_left 1
  ·(obtain ⟨s0,s1⟩:=hSx;go_simp<;>with_reducible rfl)
  simp only [sA,sB]
  refine hT 2 13 rfl rfl hHeld nPp (v:=?_) (fun x hSx=>?_) ?_
  rotate_left 1
  ·(obtain ⟨s0,s1⟩:=hSx;go_simp<;>with_reducible rfl)
  simp only [sA,sB]
  refine hT 3 14 rfl rfl hHeld nPp (v:=?_) (fun x hSx=>?_) ?_
  rotate_left 1
  ·(obtain ⟨s0,s1⟩:=hSx;go_simp<;>with_reducible rfl)
  simp only [sA,sB]
  refine hT 4 15 rfl rfl hHeld nPp (v:=?_) (fun x hSx=>?_) ?_
  rotate_left 1
  ·(obtain ⟨s0,s1⟩:=hSx;go_simp<;>with_reducible rfl)
  simp only [sA,sB]
  refine hT 6 17 rfl rfl hHeld nPp (v:=?_) (fun x hSx=>?_) ?_
  rotate_left 1
  ·(obtain ⟨s0,s1⟩:=hSx;go_simp<;>with_reducible rfl)
  simp only [sA,sB]
  refine z0a 5 16 (by kernel_rfl) rfl rfl (by rfl) (by go_simp<;>exact ⟨rfl,rfl⟩) ?_
  refine (uh HTR _).mono ?_
  rintro e wq hr
  obtain ⟨rfl,h3⟩:=(uh H0).rt hr
  have H0:=qz h3
  clear hr h3
  have hHeld:=And.intro (uh H0).c12 (uh H0).st.c9
  refine ⟨_,rfl,hHeld,?_⟩
  simp only [sA,sB]
  refine z0a 7 18 (by kernel_rfl) rfl rfl (by rfl) (by go_simp<;>exact ⟨rfl,rfl⟩) ?_
  refine (uh HT _ (uh H0)).mono ?_
  rintro e wn ⟨he,h3⟩
  obtain rfl:e=.returned (.int .i64 0):=he
  have H3:=qz h3
  clear h3
  refine ⟨_,rfl,⟨(uh H3).c12,(uh H3).st.c9⟩,?_⟩
  simp only [sA,sB]
  refine dN ?_
  go_wp2_with fail
  refine bodyPost_ret (results_none rfl _ _ _) rfl ?_
  exact ⟨rfl,uh H3⟩
 ·have t1:¬ ((z0b f:Nat):Int)<4:=by omega
  obtain ⟨b1,b2,b3,b4,b5,b6,b7,b8,b9,b10,b11⟩:=z7k hf h4
  have HR:=qz fun w2=>y1l (z9v (z0b f) w2 (by omega) (by omega))
  have HLE:=qz fun w2=>y1l (z6t (z0b f) w2 b2)
  by_cases h14:z0b f<14
  ·have t2:((z0b f:Nat):Int)<14:=by omega
   have e1:l++z2n f n=l++[z1a (z0g n) (z0b f) 6]++[revA (z2w (z0b f)) (f-z0d (z0b f)) (z0l (z0b f))]:=by unfold z2n;rw [if_neg h4,if_pos h14];simp
   rw [e1]
   have HNE:=qz fun w2=>y1l (y2w (z0b f) w2 b2 b1)
   have HV:Hid (∀w2,AD B wb pb gc ov tl s chv tv σ (l++[z1a (z0g n) (z0b f) 6]) W w2→Calls Tryz.prog 147 #[.pointer (some ⟨pb,0,none⟩),.int .i64 ((z2w (z0b f):Nat):Int),.int .i64 ((f-z0d (z0b f):Nat):Int),.int .i64 ((z0l (z0b f):Nat):Int)] w2 fun e w'=>ActE e∧AD B wb pb gc ov tl s chv tv σ (l++[z1a (z0g n) (z0b f) 6]++[revA (z2w (z0b f)) (f-z0d (z0b f)) (z0l (z0b f))]) W w'):=qz fun w2 h2=>h2.rev (by rw [len1];exact k1) _ _ _ (b5 h14).1 (by have:=(b5 h14).2;omega) b4
   have j8:Hid (((f:Int)-(z0d (z0b f):Int))%4294967296=((f-z0d (z0b f):Nat):Int)):=qz b8
   clear e1 h hk k0 k1 k2 k3 k4 hN hn hf hslot h4 h14 b1 b2 b3 b4 b5 b6 b10 b11
   generalize z0l (z0b f)=rn at *
   generalize z2w (z0b f)=ne at *
   generalize f-z0d (z0b f)=rs at *
   generalize z0d (z0b f)=le at *
   generalize z0b f=sl at *
   generalize z0g n=st at *
   go_enter Tryz.func115,Tryz.ntmps115
   go_wp2_with fail
   refine (uh HS).mono ?_
   rintro e w1 ⟨rfl,rfl⟩
   go_wp2_with fail
   refine wp_region_noPanic ?_
   refine wp_region_held_drew (S:=fun x=>x.cell? ⟨wb,12,none⟩=some (.pointer (some ⟨pb,0,none⟩))∧x.cell? ⟨wb,9,none⟩=some (.int .i64 (s.z:Int))) (by kernel_rfl) ⟨(uh H1).c12,(uh H1).st.c9⟩ (fun hHeld=>?_)
   show wpAnyH _ _ _ _ _ _ _ _ w1.drew
   have H0:=qz (uh H1).drew
   generalize w1.drew=x1 at H0 hHeld ⊢
   refine hT 0 11 rfl rfl hHeld nPp (v:=?_) (fun x hSx=>?_) ?_
   rotate_left 1
   ·(obtain ⟨s0,s1⟩:=hSx;go_simp<;>with_reducible rfl)
   simp only [sA,sB]
   refine hT 1 12 rfl rfl hHeld nPp (v:=?_) (fun x hSx=>?_) ?_
   rotate_left 1
   ·(obtain ⟨s0,s1⟩:=hSx;go_simp<;>with_reducible rfl)
   simp only [sA,sB]
   refine hT 2 13 rfl rfl hHeld nPp (v:=?_) (fun x hSx=>?_) ?_
   rotate_left 1
   ·(obtain ⟨s0,s1⟩:=hSx;go_simp<;>with_reducible rfl)
   simp only [sA,sB]
   refine hT 3 14 rfl rfl hHeld nPp (v:=?_) (fun x hSx=>?_) ?_
   rotate_left 1
   ·(obtain ⟨s0,s1⟩:=hSx;go_simp<;>with_reducible rfl)
   simp only [sA,sB]
   refine hT 4 15 rfl rfl hHeld nPp (v:=?_) (fun x hSx=>?_) ?_
   rotate_left 1
   ·(obtain ⟨s0,s1⟩:=hSx;go_simp<;>with_reducible rfl)
   simp only [sA,sB]
   refine hT 6 17 rfl rfl hHeld nPp (v:=?_) (fun x hSx=>?_) ?_
   rotate_left 1
   ·(obtain ⟨s0,s1⟩:=hSx;go_simp<;>with_reducible rfl)
   simp only [sA,sB]
   refine z0a 5 16 (by kernel_rfl) rfl rfl (by rfl) (by go_simp<;>exact ⟨rfl,rfl⟩) ?_
   refine (uh HTR _).mono ?_
   rintro e wq hr
   obtain ⟨rfl,h3⟩:=(uh H0).rt hr
   have H0:=qz h3
   clear hr h3
   have hHeld:=And.intro (uh H0).c12 (uh H0).st.c9
   refine ⟨_,rfl,hHeld,?_⟩
   simp only [sA,sB]
   refine z0a 7 18 (by kernel_rfl) rfl rfl (by rfl) (by go_simp<;>exact ⟨rfl,rfl⟩) ?_
   refine (uh HT _ (uh H0)).mono ?_
   rintro e wn ⟨he,h3⟩
   obtain rfl:e=.returned (.int .i64 0):=he
   have H3:=qz h3
   clear h3
   refine ⟨_,rfl,⟨(uh H3).c12,(uh H3).st.c9⟩,?_⟩
   simp only [sA,sB]
   refine dN ?_
   go_wp2_with fail
   refine (uh HR _).mono ?_
   rintro e wq hr
   obtain ⟨rfl,h3⟩:=(uh H3).rt hr
   have H4:=qz h3
   clear hr h3 H3
   go_wp2_with fail
   refine (uh HLE _).mono ?_
   rintro e wq hr
   obtain ⟨rfl,h3⟩:=(uh H4).rt hr
   have H5:=qz h3
   clear hr h3 H4
   go_wp2_with fail
   refine wp_region_noPanic ?_
   refine wp_region_held_drew (S:=fun x=>x.cell? ⟨wb,12,none⟩=some (.pointer (some ⟨pb,0,none⟩))∧x.cell? ⟨wb,9,none⟩=some (.int .i64 (s.z:Int))) (by kernel_rfl) ⟨(uh H5).c12,(uh H5).st.c9⟩ (fun hHeld=>?_)
   show wpAnyH _ _ _ _ _ _ _ _ wq.drew
   have H0:=qz (uh H5).drew
   generalize wq.drew=x1 at H0 hHeld ⊢
   refine hT 0 30 rfl rfl hHeld nPp (v:=?_) (fun x hSx=>?_) ?_
   rotate_left 1
   ·(obtain ⟨s0,s1⟩:=hSx;go_simp<;>with_reducible rfl)
   simp only [sA,sB]
   refine hT 1 31 rfl rfl hHeld nPp (v:=?_) (fun x hSx=>?_) ?_
   rotate_left 1
   ·(obtain ⟨s0,s1⟩:=hSx;go_simp<;>with_reducible rfl)
   simp only [sA,sB]
   refine hT 2 32 rfl rfl hHeld nPp (v:=?_) (fun x hSx=>?_) ?_
   rotate_left 1
   ·(obtain ⟨s0,s1⟩:=hSx;go_simp<;>with_reducible rfl)
   simp only [sA,sB]
   refine hT 3 33 rfl rfl hHeld nPp (v:=?_) (fun x hSx=>?_) ?_
   rotate_left 1
   ·(obtain ⟨s0,s1⟩:=hSx;go_simp<;>with_reducible rfl)
   simp only [sA,sB]
   refine hT 4 34 rfl rfl hHeld nPp (v:=?_) (fun x hSx=>?_) ?_
   rotate_left 1
   ·(obtain ⟨s0,s1⟩:=hSx;go_simp<;>with_reducible rfl)
   simp only [sA,sB]
   refine hT 6 36 rfl rfl hHeld nPp (v:=?_) (fun x hSx=>?_) ?_
   rotate_left 1
   ·(obtain ⟨s0,s1⟩:=hSx;go_simp<;>with_reducible rfl)
   simp only [sA,sB]
   refine hT 7 37 rfl rfl hHeld nPp (v:=?_) (fun x hSx=>?_) ?_
   rotate_left 1
   ·(obtain ⟨s0,s1⟩:=hSx;go_simp<;>with_reducible rfl)
   simp only [sA,sB]
   refine z0a 5 35 (by kernel_rfl) rfl rfl (by rfl) (by go_simp<;>exact ⟨rfl,rfl⟩) ?_
   refine (uh HNE _).mono ?_
   rintro e wq hr
   obtain ⟨rfl,h3⟩:=(uh H0).rt hr
   have H0:=qz h3
   clear hr h3
   have hHeld:=And.intro (uh H0).c12 (uh H0).st.c9
   refine ⟨_,rfl,hHeld,?_⟩
   simp only [sA,sB]
   refine z0a 8 38 (by kernel_rfl) rfl rfl (by rfl) (by go_simp<;>exact ⟨rfl,rfl⟩) ?_
   refine (uh HV _ (uh H0)).mono ?_
   rintro e wn ⟨he,h3⟩
   obtain rfl:e=.returned (.int .i64 0):=he
   have H6:=qz h3
   clear h3
   refine ⟨_,rfl,⟨(uh H6).c12,(uh H6).st.c9⟩,?_⟩
   simp only [sA,sB]
   refine dN ?_
   go_wp2_with fail
   refine bodyPost_ret (results_none rfl _ _ _) rfl ?_
   exact ⟨rfl,by simpa using uh H6⟩
  ·have t2:¬ ((z0b f:Nat):Int)<14:=by omega
   have e1:l++z2n f n=l++[z1a (z0g n) (z0b f) 6]++[dirA ((f-z0d (z0b f))/16) (z0l (z0b f)-4)]++[revA 1840 ((f-z0d (z0b f))%16) 4]:=by unfold z2n;rw [if_neg h4,if_neg h14];simp
   rw [e1]
   have HV:Hid (∀w2,AD B wb pb gc ov tl s chv tv σ (l++[z1a (z0g n) (z0b f) 6]) W w2→Calls Tryz.prog 148 #[.pointer (some ⟨pb,0,none⟩),.int .i64 (((f-z0d (z0b f))/16:Nat):Int),.int .i64 ((z0l (z0b f)-4:Nat):Int)] w2 fun e w'=>ActE e∧AD B wb pb gc ov tl s chv tv σ (l++[z1a (z0g n) (z0b f) 6]++[dirA ((f-z0d (z0b f))/16) (z0l (z0b f)-4)]) W w'):=qz fun w2 h2=>h2.direct (by rw [len1];exact k1) _ _ (b6 h14).1 (b6 h14).2
   have HW:Hid (∀w2,AD B wb pb gc ov tl s chv tv σ (l++[z1a (z0g n) (z0b f) 6]++[dirA ((f-z0d (z0b f))/16) (z0l (z0b f)-4)]) W w2→Calls Tryz.prog 147 #[.pointer (some ⟨pb,0,none⟩),.int .i64 1840,.int .i64 (((f-z0d (z0b f))%16:Nat):Int),.int .i64 4] w2 fun e w'=>ActE e∧AD B wb pb gc ov tl s chv tv σ (l++[z1a (z0g n) (z0b f) 6]++[dirA ((f-z0d (z0b f))/16) (z0l (z0b f)-4)]++[revA 1840 ((f-z0d (z0b f))%16) 4]) W w'):=qz fun w2 h2=>h2.rev (by rw [len2];exact k2) 1840 _ 4 (by decide) (by omega) (by omega)
   have j8:Hid (((f:Int)-(z0d (z0b f):Int))%4294967296=((f-z0d (z0b f):Nat):Int)):=qz b8
   have j10:=b10 h14
   have j11:=(iw _).trans j10
   have j12:((f-z0d (z0b f):Nat):Int)/16=(((f-z0d (z0b f))/16:Nat):Int):=by omega
   have j13:((f-z0d (z0b f):Nat):Int)%16=(((f-z0d (z0b f))%16:Nat):Int):=by omega
   clear e1 h hk k0 k1 k2 k3 k4 hN hn hf hslot h4 h14 b1 b2 b3 b4 b5 b6 b10 b11
   generalize (f-z0d (z0b f))/16=rq at *
   generalize (f-z0d (z0b f))%16=rr at *
   generalize z0l (z0b f)-4=rn4 at *
   generalize z0l (z0b f)=rn at *
   generalize f-z0d (z0b f)=rs at *
   generalize z0d (z0b f)=le at *
   generalize z0b f=sl at *
   generalize z0g n=st at *
   go_enter Tryz.func115,Tryz.ntmps115
   go_wp2_with fail
   refine (uh HS).mono ?_
   rintro e w1 ⟨rfl,rfl⟩
   go_wp2_with fail
   refine wp_region_noPanic ?_
   refine wp_region_held_drew (S:=fun x=>x.cell? ⟨wb,12,none⟩=some (.pointer (some ⟨pb,0,none⟩))∧x.cell? ⟨wb,9,none⟩=some (.int .i64 (s.z:Int))) (by kernel_rfl) ⟨(uh H1).c12,(uh H1).st.c9⟩ (fun hHeld=>?_)
   show wpAnyH _ _ _ _ _ _ _ _ w1.drew
   have H0:=qz (uh H1).drew
   generalize w1.drew=x1 at H0 hHeld ⊢
   refine hT 0 11 rfl rfl hHeld nPp (v:=?_) (fun x hSx=>?_) ?_
   rotate_left 1
   ·(obtain ⟨s0,s1⟩:=hSx;go_simp<;>with_reducible rfl)
   simp only [sA,sB]
   refine hT 1 12 rfl rfl hHeld nPp (v:=?_) (fun x hSx=>?_) ?_
   rotate_left 1
   ·(obtain ⟨s0,s1⟩:=hSx;go_simp<;>with_reducible rfl)
   simp only [sA,sB]
   refine hT 2 13 rfl rfl hHeld nPp (v:=?_) (fun x hSx=>?_) ?_
   rotate_left 1
   ·(obtain ⟨s0,s1⟩:=hSx;go_simp<;>with_reducible rfl)
   simp only [sA,sB]
   refine hT 3 14 rfl rfl hHeld nPp (v:=?_) (fun x hSx=>?_) ?_
   rotate_left 1
   ·(obtain ⟨s0,s1⟩:=hSx;go_simp<;>with_reducible rfl)
   simp only [sA,sB]
   refine hT 4 15 rfl rfl hHeld nPp (v:=?_) (fun x hSx=>?_) ?_
   rotate_left 1
   ·(obtain ⟨s0,s1⟩:=hSx;go_simp<;>with_reducible rfl)
   simp only [sA,sB]
   refine hT 6 17 rfl rfl hHeld nPp (v:=?_) (fun x hSx=>?_) ?_
   rotate_left 1
   ·(obtain ⟨s0,s1⟩:=hSx;go_simp<;>with_reducible rfl)
   simp only [sA,sB]
   refine z0a 5 16 (by kernel_rfl) rfl rfl (by rfl) (by go_simp<;>exact ⟨rfl,rfl⟩) ?_
   refine (uh HTR _).mono ?_
   rintro e wq hr
   obtain ⟨rfl,h3⟩:=(uh H0).rt hr
   have H0:=qz h3
   clear hr h3
   have hHeld:=And.intro (uh H0).c12 (uh H0).st.c9
   refine ⟨_,rfl,hHeld,?_⟩
   simp only [sA,sB]
   refine z0a 7 18 (by kernel_rfl) rfl rfl (by rfl) (by go_simp<;>exact ⟨rfl,rfl⟩) ?_
   refine (uh HT _ (uh H0)).mono ?_
   rintro e wn ⟨he,h3⟩
   obtain rfl:e=.returned (.int .i64 0):=he
   have H3:=qz h3
   clear h3
   refine ⟨_,rfl,⟨(uh H3).c12,(uh H3).st.c9⟩,?_⟩
   simp only [sA,sB]
   refine dN ?_
   go_wp2_with fail
   refine (uh HR _).mono ?_
   rintro e wq hr
   obtain ⟨rfl,h3⟩:=(uh H3).rt hr
   have H4:=qz h3
   clear hr h3 H3
   go_wp2_with fail
   refine (uh HLE _).mono ?_
   rintro e wq hr
   obtain ⟨rfl,h3⟩:=(uh H4).rt hr
   have H5:=qz h3
   clear hr h3 H4
   have d12:=(uh H5).c12
   go_wp2_with fail
   refine (uh HV _ (uh H5)).mono ?_
   rintro e w6 ⟨rfl,h3⟩
   have e12:=h3.c12
   have HW6:=qz (uh HW _ h3)
   clear h3 H5 d12 HV HW
   go_wp2_with fail
   refine (uh HW6).mono ?_
   rintro e w7 ⟨rfl,h3⟩
   have H7:=qz h3
   clear h3 HW6 e12
   go_wp2_with fail
   go_end0
   exact ⟨rfl,by simpa using uh H7⟩
end
end D
namespace D
open Go.RowKit Rang
attribute [local go_sem ↓] wp_at_zero wp_at_succ
section
variable {B:Nat} {W w w':World} {wb pb gc:Nat} {ov:Value} {tl:List Value} {s s1:LS} {chv tv:Value} {σ:Sta} {l m:List A4}
theorem z3b {s:LS} (h:LOk s):s.matchC<s.chances∧s.longC<s.chances∧384+s.z<s.chances∧396+s.z<s.chances∧408+s.z<s.chances∧420+s.z<s.chances∧432+514≤s.chances∧946+514≤s.chances ∧
  wrap64 (384+(s.z:Int))=((384+s.z:Nat):Int)∧wrap64 (396+(s.z:Int))=((396+s.z:Nat):Int)∧wrap64 (408+(s.z:Int))=((408+s.z:Nat):Int)∧wrap64 (420+(s.z:Int))=((420+s.z:Nat):Int):=by
 have h1:=z2c s
 have h2:=h.z
 have h3:=s.y_lt h
 unfold LS.matchC LS.longC
 refine ⟨by omega,by omega,by omega,by omega,by omega,by omega,by omega,by omega,?_,?_,?_,?_⟩
 all_goals rw [w64 (by omega) (by omega)];omega
theorem y0w (a y n:Nat):(lenA a y n).length≤3:=by unfold lenA;split<;>(try split)<;>simp
theorem y4v {k L a b:Nat} (h:k+31*(L+12)≤70000000000000) (ha:a≤3):k+31*L≤70000000000000∧k+31*(L+1)≤70000000000000∧k+31*(L+2+5)≤70000000000000∧k+31*(L+2+a+5)≤70000000000000:=by omega
theorem z3j (h:AD B wb pb gc ov tl s chv tv σ l W w) (hk:σ.k+31*(l.length+12)≤70000000000000) (f n:Nat) (hn:2≤n∧n≤273) (hf:f<4294967296) (ho:LOk (s.afterP (.mat f n))) :
  Calls Tryz.prog 80 #[.pointer (some ⟨wb,0,none⟩),.int .u32 (f:Int),.int .i64 (n:Int)] w (PD B wb pb gc ov tl (s.afterP (.mat f n)) chv tv σ (l++s.matA f n) W):=by
 obtain ⟨g1,g2,g3,g4,g5,g6,g7,g8,f1,f2,f3,f4⟩:=z3b h.ok
 obtain ⟨k0,k1,k2,k3⟩:=y4v (b:=0) hk (y0w 432 s.y n)
 have i1:=(iw _).trans f1
 have e1:l++s.matA f n=l++[bitA s.matchC 1]++[bitA (384+s.z) 0]++lenA 432 s.y n++z2n f n:=by unfold LS.matA;simp
 rw [e1]
 have HM:=qz fun w2 (h2:AD B wb pb gc ov tl s chv tv σ (l) W w2)=>h2.st.matchC h2.ok
 have HB1:=qz fun w2 (h2:AD B wb pb gc ov tl s chv tv σ (l) W w2)=>(h2.bit k0 s.matchC 1 g1 (Nat.le_refl _):Calls Tryz.prog 112 #[.pointer (some ⟨pb,0,none⟩),.int .i64 ((s.matchC:Nat):Int),.int .i64 1] w2 fun e w'=>ActE e∧AD B wb pb gc ov tl s chv tv σ (l++[bitA s.matchC 1]) W w')
 have HB2:=qz fun w2 (h2:AD B wb pb gc ov tl s chv tv σ (l++[bitA s.matchC 1]) W w2)=>(h2.bit (by rw [len1];exact k1) (384+s.z) 0 g3 (Nat.zero_le _):Calls Tryz.prog 112 #[.pointer (some ⟨pb,0,none⟩),.int .i64 (((384+s.z):Nat):Int),.int .i64 0] w2 fun e w'=>ActE e∧AD B wb pb gc ov tl s chv tv σ (l++[bitA s.matchC 1]++[bitA (384+s.z) 0]) W w')
 have HL:=qz fun w2 (h2:AD B wb pb gc ov tl s chv tv σ (l++[bitA s.matchC 1]++[bitA (384+s.z) 0]) W w2)=>(z1w h2 (by rw [len2];exact k2) 432 n hn g7:Calls Tryz.prog 114 #[.pointer (some ⟨wb,0,none⟩),.int .i64 432,.int .i64 (n:Int)] w2 (PD B wb pb gc ov tl s chv tv σ (l++[bitA s.matchC 1]++[bitA (384+s.z) 0]++lenA 432 s.y n) W))
 have HK:=qz fun w2 (h2:AD B wb pb gc ov tl s chv tv σ (l++[bitA s.matchC 1]++[bitA (384+s.z) 0]++lenA 432 s.y n) W w2)=>z7u h2 (by rw [List.length_append,len2];exact k3) f n hn hf
 have HA:=qz fun w2 (h2:AD B wb pb gc ov tl s chv tv σ (l++[bitA s.matchC 1]++[bitA (384+s.z) 0]++lenA 432 s.y n++z2n f n) W w2)=>h2.st.afterMatch f
 have HO:=qz ho
 have H1:=qz h
 clear e1 h hk k0 k1 k2 k3 g1 g2 g3 g4 g5 g6 g7 g8 f2 f3 f4 hn hf ho
 generalize 384+s.z=rz at *
 go_enter Tryz.func80,Tryz.ntmps80
 go_wp2_with fail
 refine wp_region_noPanic ?_
 refine wp_region_held_drew (S:=fun x=>x.cell? ⟨wb,12,none⟩=some (.pointer (some ⟨pb,0,none⟩))∧x.cell? ⟨wb,9,none⟩=some (.int .i64 (s.z:Int))) (by kernel_rfl) ⟨(uh H1).c12,(uh H1).st.c9⟩ (fun hHeld=>?_)
 show wpAnyH _ _ _ _ _ _ _ _ w.drew
 have H0:=qz (uh H1).drew
 generalize w.drew=x1 at H0 hHeld ⊢
 refine hT 0 6 rfl rfl hHeld nPp (v:=?_) (fun x hSx=>?_) ?_
 rotate_left 1
 ·(obtain ⟨s0,s1⟩:=hSx;go_simp<;>with_reducible rfl)
 simp only [sA,sB]
 refine hT 1 7 rfl rfl hHeld nPp (v:=?_) (fun x hSx=>?_) ?_
 rotate_left 1
 ·(obtain ⟨s0,s1⟩:=hSx;go_simp<;>with_reducible rfl)
 simp only [sA,sB]
 refine hT 2 8 rfl rfl hHeld nPp (v:=?_) (fun x hSx=>?_) ?_
 rotate_left 1
 ·(obtain ⟨s0,s1⟩:=hSx;go_simp<;>with_reducible rfl)
 simp only [sA,sB]
 refine hT 3 9 rfl rfl hHeld nPp (v:=?_) (fun x hSx=>?_) ?_
 rotate_left 1
 ·(obtain ⟨s0,s1⟩:=hSx;go_simp<;>with_reducible rfl)
 simp only [sA,sB]
 refine hT 4 10 rfl rfl hHeld nPp (v:=?_) (fun x hSx=>?_) ?_
 rotate_left 1
 ·(obtain ⟨s0,s1⟩:=hSx;go_simp<;>with_reducible rfl)
 simp only [sA,sB]
 refine hT 5 11 rfl rfl hHeld nPp (v:=?_) (fun x hSx=>?_) ?_
 rotate_left 1
 ·(obtain ⟨s0,s1⟩:=hSx;go_simp<;>with_reducible rfl)
 simp only [sA,sB]
 refine hT 6 12 rfl rfl hHeld nPp (v:=?_) (fun x hSx=>?_) ?_
 rotate_left 1
 ·(obtain ⟨s0,s1⟩:=hSx;go_simp<;>with_reducible rfl)
 simp only [sA,sB]
 refine z0a 7 13 (by kernel_rfl) rfl rfl (by rfl) (by go_simp<;>exact ⟨rfl,rfl⟩) ?_
 refine (uh HM _ (uh H0)).mono ?_
 rintro e wq hr
 obtain ⟨rfl,h3⟩:=(uh H0).rt hr
 have H0:=qz h3
 clear hr h3
 have hHeld:=And.intro (uh H0).c12 (uh H0).st.c9
 refine ⟨_,rfl,hHeld,?_⟩
 simp only [sA,sB]
 refine z0a 8 14 (by kernel_rfl) rfl rfl (by rfl) (by go_simp<;>exact ⟨rfl,rfl⟩) ?_
 refine (uh HB1 _ (uh H0)).mono ?_
 rintro e wn ⟨he,h3⟩
 obtain rfl:e=.returned (.int .i64 0):=he
 have H2:=qz h3
 clear h3
 refine ⟨_,rfl,⟨(uh H2).c12,(uh H2).st.c9⟩,?_⟩
 simp only [sA,sB]
 refine dN ?_
 go_wp2_with fail
 refine wp_region_noPanic ?_
 refine wp_region_held_drew (S:=fun x=>x.cell? ⟨wb,12,none⟩=some (.pointer (some ⟨pb,0,none⟩))∧x.cell? ⟨wb,9,none⟩=some (.int .i64 (s.z:Int))) (by kernel_rfl) ⟨(uh H2).c12,(uh H2).st.c9⟩ (fun hHeld=>?_)
 show wpAnyH _ _ _ _ _ _ _ _ wn.drew
 have H0:=qz (uh H2).drew
 generalize wn.drew=x1 at H0 hHeld ⊢
 refine hT 0 15 rfl rfl hHeld nPp (v:=?_) (fun x hSx=>?_) ?_
 rotate_left 1
 ·(obtain ⟨s0,s1⟩:=hSx;go_simp<;>with_reducible rfl)
 simp only [sA,sB]
 refine hT 1 16 rfl rfl hHeld nPp (v:=?_) (fun x hSx=>?_) ?_
 rotate_left 1
 ·(obtain ⟨s0,s1⟩:=hSx;go_simp<;>with_reducible rfl)
 simp only [sA,sB]
 refine hT 2 17 rfl rfl hHeld nPp (v:=?_) (fun x hSx=>?_) ?_
 rotate_left 1
 ·(obtain ⟨s0,s1⟩:=hSx;go_simp<;>with_reducible rfl)
 simp only [sA,sB]
 refine hT 3 18 rfl rfl hHeld nPp (v:=?_) (fun x hSx=>?_) ?_
 rotate_left 1
 ·(obtain ⟨s0,s1⟩:=hSx;go_simp<;>with_reducible rfl)
 simp only [sA,sB]
 refine hT 4 19 rfl rfl hHeld nPp (v:=?_) (fun x hSx=>?_) ?_
 rotate_left 1
 ·(obtain ⟨s0,s1⟩:=hSx;go_simp<;>with_reducible rfl)
 simp only [sA,sB]
 refine hT 5 20 rfl rfl hHeld nPp (v:=?_) (fun x hSx=>?_) ?_
 rotate_left 1
 ·(obtain ⟨s0,s1⟩:=hSx;go_simp<;>with_reducible rfl)
 simp only [sA,sB]
 refine hT 6 21 rfl rfl hHeld nPp (v:=?_) (fun x hSx=>?_) ?_
 rotate_left 1
 ·(obtain ⟨s0,s1⟩:=hSx;go_simp<;>with_reducible rfl)
 simp only [sA,sB]
 refine hT 7 22 rfl rfl hHeld nPp (v:=?_) (fun x hSx=>?_) ?_
 rotate_left 1
 ·(obtain ⟨s0,s1⟩:=hSx;go_simp<;>with_reducible rfl)
 simp only [sA,sB]
 refine hT 8 23 rfl rfl hHeld nPp (v:=?_) (fun x hSx=>?_) ?_
 rotate_left 1
 ·(obtain ⟨s0,s1⟩:=hSx;go_simp<;>with_reducible rfl)
 simp only [sA,sB]
 refine hT 9 24 rfl rfl hHeld nPp (v:=?_) (fun x hSx=>?_) ?_
 rotate_left 1
 ·(obtain ⟨s0,s1⟩:=hSx;go_simp<;>with_reducible rfl)
 simp only [sA,sB]
 refine z0a 10 25 (by kernel_rfl) rfl rfl (by rfl) (by go_simp<;>exact ⟨rfl,rfl⟩) ?_
 refine (uh HB2 _ (uh H0)).mono ?_
 rintro e wn ⟨he,h3⟩
 obtain rfl:e=.returned (.int .i64 0):=he
 have H3:=qz h3
 clear h3
 refine ⟨_,rfl,⟨(uh H3).c12,(uh H3).st.c9⟩,?_⟩
 simp only [sA,sB]
 refine dN ?_
 go_wp2_with fail
 refine (uh HL _ (uh H3)).mono ?_
 rintro e w4 ⟨rfl,h3⟩
 have H4:=qz h3
 clear h3 H3
 go_wp2_with fail
 refine (uh HK _ (uh H4)).mono ?_
 rintro e w5 ⟨rfl,h3⟩
 have H5:=qz h3
 clear h3 H4
 go_wp2_with fail
 refine (uh HA _ (uh H5)).mono ?_
 rintro e w6 ⟨rfl,h3,h4⟩
 have H6:=qz ((uh H5).setS h3 h4 (uh HO) rfl rfl)
 clear h3 h4 H5
 go_wp2_with fail
 go_end0
 exact ⟨rfl,by simpa [LS.afterP] using uh H6⟩
theorem y4q {k L a:Nat} (h:k+31*(L+15)≤70000000000000) (ha:a≤3):k+31*L≤70000000000000∧k+31*(L+1)≤70000000000000∧k+31*(L+2)≤70000000000000∧k+31*(L+3)≤70000000000000∧k+31*(L+4)≤70000000000000∧k+31*(L+2+a+5)≤70000000000000:=by omega
theorem z6a (h:AD B wb pb gc ov tl s chv tv σ l W w) (hk:σ.k+31*(l.length+5)≤70000000000000) (j:Nat) (hj:1≤j∧j≤3) :
  Calls Tryz.prog 113 #[.pointer (some ⟨wb,0,none⟩),.int .i64 (j:Int)] w (PD B wb pb gc ov tl s chv tv σ (l++(if j=1 then [bitA (408+s.z) 0] else [bitA (408+s.z) 1,bitA (420+s.z) (j-2)])) W):=by
 obtain ⟨g1,g2,g3,g4,g5,g6,g7,g8,f1,f2,f3,f4⟩:=z3b h.ok
 obtain ⟨k0,k1,k2,k3,k4⟩:=y2s hk
 have i3:=(iw _).trans f3
 have i4:=(iw _).trans f4
 have H1:=qz h
 by_cases h1:j=1
 ·subst h1
  rw [if_pos rfl]
  have HB1:=qz fun w2 (h2:AD B wb pb gc ov tl s chv tv σ (l) W w2)=>(h2.bit k0 (408+s.z) 0 g5 (Nat.zero_le _):Calls Tryz.prog 112 #[.pointer (some ⟨pb,0,none⟩),.int .i64 (((408+s.z):Nat):Int),.int .i64 0] w2 fun e w'=>ActE e∧AD B wb pb gc ov tl s chv tv σ (l++[bitA (408+s.z) 0]) W w')
  clear h hk k0 k1 k2 k3 k4 g1 g2 g3 g4 g5 g6 g7 g8 f1 f2 f4 i4 hj
  generalize 408+s.z=rz at *
  go_enter Tryz.func113,Tryz.ntmps113
  go_wp2_with fail
  refine wp_region_noPanic ?_
  refine wp_region_held_drew (S:=fun x=>x.cell? ⟨wb,12,none⟩=some (.pointer (some ⟨pb,0,none⟩))∧x.cell? ⟨wb,9,none⟩=some (.int .i64 (s.z:Int))) (by kernel_rfl) ⟨(uh H1).c12,(uh H1).st.c9⟩ (fun hHeld=>?_)
  show wpAnyH _ _ _ _ _ _ _ _ w.drew
  have H0:=qz (uh H1).drew
  generalize w.drew=x1 at H0 hHeld ⊢
  refine hT 0 6 rfl rfl hHeld nPp (v:=?_) (fun x hSx=>?_) ?_
  rotate_left 1
  ·(obtain ⟨s0,s1⟩:=hSx;go_simp<;>with_reducible rfl)
  simp only [sA,sB]
  refine hT 1 7 rfl rfl hHeld nPp (v:=?_) (fun x hSx=>?_) ?_
  rotate_left 1
  ·(obtain ⟨s0,s1⟩:=hSx;go_simp<;>with_reducible rfl)
  simp only [sA,sB]
  refine hT 2 8 rfl rfl hHeld nPp (v:=?_) (fun x hSx=>?_) ?_
  rotate_left 1
  ·(obtain ⟨s0,s1⟩:=hSx;go_simp<;>with_reducible rfl)
  simp only [sA,sB]
  refine hT 3 9 rfl rfl hHeld nPp (v:=?_) (fun x hSx=>?_) ?_
  rotate_left 1
  ·(obtain ⟨s0,s1⟩:=hSx;go_simp<;>with_reducible rfl)
  simp only [sA,sB]
  refine hT 4 10 rfl rfl hHeld nPp (v:=?_) (fun x hSx=>?_) ?_
  rotate_left 1
  ·(obtain ⟨s0,s1⟩:=hSx;go_simp<;>with_reducible rfl)
  simp only [sA,sB]
  refine hT 5 11 rfl rfl hHeld nPp (v:=?_) (fun x hSx=>?_) ?_
  rotate_left 1
  ·(obtain ⟨s0,s1⟩:=hSx;go_simp<;>with_reducible rfl)
  simp only [sA,sB]
  refine hT 6 12 rfl rfl hHeld nPp (v:=?_) (fun x hSx=>?_) ?_
  rotate_left 1
  ·(obtain ⟨s0,s1⟩:=hSx;go_simp<;>with_reducible rfl)
  simp only [sA,sB]
  refine hT 7 13 rfl rfl hHeld nPp (v:=?_) (fun x hSx=>?_) ?_
  rotate_left 1
  ·(obtain ⟨s0,s1⟩:=hSx;go_simp<;>with_reducible rfl)
  simp only [sA,sB]
  refine hT 8 14 rfl rfl hHeld nPp (v:=?_) (fun x hSx=>?_) ?_
  rotate_left 1
  ·(obtain ⟨s0,s1⟩:=hSx;go_simp<;>with_reducible rfl)
  simp only [sA,sB]
  refine hT 9 15 rfl rfl hHeld nPp (v:=?_) (fun x hSx=>?_) ?_
  rotate_left 1
  ·(obtain ⟨s0,s1⟩:=hSx;go_simp<;>with_reducible rfl)
  simp only [sA,sB]
  refine z0a 10 16 (by kernel_rfl) rfl rfl (by rfl) (by go_simp<;>exact ⟨rfl,rfl⟩) ?_
  refine (uh HB1 _ (uh H0)).mono ?_
  rintro e wn ⟨he,h3⟩
  obtain rfl:e=.returned (.int .i64 0):=he
  have H2:=qz h3
  clear h3
  refine ⟨_,rfl,⟨(uh H2).c12,(uh H2).st.c9⟩,?_⟩
  simp only [sA,sB]
  refine dN ?_
  go_wp2_with fail
  refine bodyPost_ret (results_none rfl _ _ _) rfl ?_
  exact ⟨rfl,uh H2⟩
 ·rw [if_neg h1]
  have t1:¬ (j:Int)=1:=by omega
  have f5:wrap64 ((j:Int)-2)=((j-2:Nat):Int):=by rw [w64 (by omega) (by omega)];omega
  have i5:=(iw _).trans f5
  have e1:l++[bitA (408+s.z) 1,bitA (420+s.z) (j-2)]=l++[bitA (408+s.z) 1]++[bitA (420+s.z) (j-2)]:=by simp
  rw [e1]
  have HB1:=qz fun w2 (h2:AD B wb pb gc ov tl s chv tv σ (l) W w2)=>(h2.bit k0 (408+s.z) 1 g5 (Nat.le_refl _):Calls Tryz.prog 112 #[.pointer (some ⟨pb,0,none⟩),.int .i64 (((408+s.z):Nat):Int),.int .i64 1] w2 fun e w'=>ActE e∧AD B wb pb gc ov tl s chv tv σ (l++[bitA (408+s.z) 1]) W w')
  have HB2:=qz fun w2 (h2:AD B wb pb gc ov tl s chv tv σ (l++[bitA (408+s.z) 1]) W w2)=>h2.bit (by rw [len1];exact k1) (420+s.z) (j-2) g6 (by omega)
  clear h hk k0 k1 k2 k3 k4 g1 g2 g3 g4 g5 g6 g7 g8 f1 f2 hj e1 h1
  generalize 408+s.z=rz at *
  generalize 420+s.z=qzz at *
  generalize j-2=j2 at *
  go_enter Tryz.func113,Tryz.ntmps113
  go_wp2_with fail
  refine wp_region_noPanic ?_
  refine wp_region_held_drew (S:=fun x=>x.cell? ⟨wb,12,none⟩=some (.pointer (some ⟨pb,0,none⟩))∧x.cell? ⟨wb,9,none⟩=some (.int .i64 (s.z:Int))) (by kernel_rfl) ⟨(uh H1).c12,(uh H1).st.c9⟩ (fun hHeld=>?_)
  show wpAnyH _ _ _ _ _ _ _ _ w.drew
  have H0:=qz (uh H1).drew
  generalize w.drew=x1 at H0 hHeld ⊢
  refine hT 0 17 rfl rfl hHeld nPp (v:=?_) (fun x hSx=>?_) ?_
  rotate_left 1
  ·(obtain ⟨s0,s1⟩:=hSx;go_simp<;>with_reducible rfl)
  simp only [sA,sB]
  refine hT 1 18 rfl rfl hHeld nPp (v:=?_) (fun x hSx=>?_) ?_
  rotate_left 1
  ·(obtain ⟨s0,s1⟩:=hSx;go_simp<;>with_reducible rfl)
  simp only [sA,sB]
  refine hT 2 19 rfl rfl hHeld nPp (v:=?_) (fun x hSx=>?_) ?_
  rotate_left 1
  ·(obtain ⟨s0,s1⟩:=hSx;go_simp<;>with_reducible rfl)
  simp only [sA,sB]
  refine hT 3 20 rfl rfl hHeld nPp (v:=?_) (fun x hSx=>?_) ?_
  rotate_left 1
  ·(obtain ⟨s0,s1⟩:=hSx;go_simp<;>with_reducible rfl)
  simp only [sA,sB]
  refine hT 4 21 rfl rfl hHeld nPp (v:=?_) (fun x hSx=>?_) ?_
  rotate_left 1
  ·(obtain ⟨s0,s1⟩:=hSx;go_simp<;>with_reducible rfl)
  simp only [sA,sB]
  refine hT 5 22 rfl rfl hHeld nPp (v:=?_) (fun x hSx=>?_) ?_
  rotate_left 1
  ·(obtain ⟨s0,s1⟩:=hSx;go_simp<;>with_reducible rfl)
  simp only [sA,sB]
  refine hT 6 23 rfl rfl hHeld nPp (v:=?_) (fun x hSx=>?_) ?_
  rotate_left 1
  ·(obtain ⟨s0,s1⟩:=hSx;go_simp<;>with_reducible rfl)
  simp only [sA,sB]
  refine hT 7 24 rfl rfl hHeld nPp (v:=?_) (fun x hSx=>?_) ?_
  rotate_left 1
  ·(obtain ⟨s0,s1⟩:=hSx;go_simp<;>with_reducible rfl)
  simp only [sA,sB]
  refine hT 8 25 rfl rfl hHeld nPp (v:=?_) (fun x hSx=>?_) ?_
  rotate_left 1
  ·(obtain ⟨s0,s1⟩:=hSx;go_simp<;>with_reducible rfl)
  simp only [sA,sB]
  refine hT 9 26 rfl rfl hHeld nPp (v:=?_) (fun x hSx=>?_) ?_
  rotate_left 1
  ·(obtain ⟨s0,s1⟩:=hSx;go_simp<;>with_reducible rfl)
  simp only [sA,sB]
  refine z0a 10 27 (by kernel_rfl) rfl rfl (by rfl) (by go_simp<;>exact ⟨rfl,rfl⟩) ?_
  refine (uh HB1 _ (uh H0)).mono ?_
  rintro e wn ⟨he,h3⟩
  obtain rfl:e=.returned (.int .i64 0):=he
  have H2:=qz h3
  clear h3
  refine ⟨_,rfl,⟨(uh H2).c12,(uh H2).st.c9⟩,?_⟩
  simp only [sA,sB]
  refine dN ?_
  go_wp2_with fail
  refine wp_region_noPanic ?_
  refine wp_region_held_drew (S:=fun x=>x.cell? ⟨wb,12,none⟩=some (.pointer (some ⟨pb,0,none⟩))∧x.cell? ⟨wb,9,none⟩=some (.int .i64 (s.z:Int))) (by kernel_rfl) ⟨(uh H2).c12,(uh H2).st.c9⟩ (fun hHeld=>?_)
  show wpAnyH _ _ _ _ _ _ _ _ wn.drew
  have H0:=qz (uh H2).drew
  generalize wn.drew=x1 at H0 hHeld ⊢
  refine hT 0 28 rfl rfl hHeld nPp (v:=?_) (fun x hSx=>?_) ?_
  rotate_left 1
  ·(obtain ⟨s0,s1⟩:=hSx;go_simp<;>with_reducible rfl)
  simp only [sA,sB]
  refine hT 1 29 rfl rfl hHeld nPp (v:=?_) (fun x hSx=>?_) ?_
  rotate_left 1
  ·(obtain ⟨s0,s1⟩:=hSx;go_simp<;>with_reducible rfl)
  simp only [sA,sB]
  refine hT 2 30 rfl rfl hHeld nPp (v:=?_) (fun x hSx=>?_) ?_
  rotate_left 1
  ·(obtain ⟨s0,s1⟩:=hSx;go_simp<;>with_reducible rfl)
  simp only [sA,sB]
  refine hT 3 31 rfl rfl hHeld nPp (v:=?_) (fun x hSx=>?_) ?_
  rotate_left 1
  ·(obtain ⟨s0,s1⟩:=hSx;go_simp<;>with_reducible rfl)
  simp only [sA,sB]
  refine hT 4 32 rfl rfl hHeld nPp (v:=?_) (fun x hSx=>?_) ?_
  rotate_left 1
  ·(obtain ⟨s0,s1⟩:=hSx;go_simp<;>with_reducible rfl)
  simp only [sA,sB]
  refine hT 5 33 rfl rfl hHeld nPp (v:=?_) (fun x hSx=>?_) ?_
  rotate_left 1
  ·(obtain ⟨s0,s1⟩:=hSx;go_simp<;>with_reducible rfl)
  simp only [sA,sB]
  refine hT 6 34 rfl rfl hHeld nPp (v:=?_) (fun x hSx=>?_) ?_
  rotate_left 1
  ·(obtain ⟨s0,s1⟩:=hSx;go_simp<;>with_reducible rfl)
  simp only [sA,sB]
  refine hT 7 35 rfl rfl hHeld nPp (v:=?_) (fun x hSx=>?_) ?_
  rotate_left 1
  ·(obtain ⟨s0,s1⟩:=hSx;go_simp<;>with_reducible rfl)
  simp only [sA,sB]
  refine hT 8 36 rfl rfl hHeld nPp (v:=?_) (fun x hSx=>?_) ?_
  rotate_left 1
  ·(obtain ⟨s0,s1⟩:=hSx;go_simp<;>with_reducible rfl)
  simp only [sA,sB]
  refine hT 9 37 rfl rfl hHeld nPp (v:=?_) (fun x hSx=>?_) ?_
  rotate_left 1
  ·(obtain ⟨s0,s1⟩:=hSx;go_simp<;>with_reducible rfl)
  simp only [sA,sB]
  refine hT 10 38 rfl rfl hHeld nPp (v:=?_) (fun x hSx=>?_) ?_
  rotate_left 1
  ·(obtain ⟨s0,s1⟩:=hSx;go_simp<;>with_reducible rfl)
  simp only [sA,sB]
  refine hT 11 39 rfl rfl hHeld nPp (v:=?_) (fun x hSx=>?_) ?_
  rotate_left 1
  ·(obtain ⟨s0,s1⟩:=hSx;go_simp<;>with_reducible rfl)
  simp only [sA,sB]
  refine z0a 12 40 (by kernel_rfl) rfl rfl (by rfl) (by go_simp<;>exact ⟨rfl,rfl⟩) ?_
  refine (uh HB2 _ (uh H0)).mono ?_
  rintro e wn ⟨he,h3⟩
  obtain rfl:e=.returned (.int .i64 0):=he
  have H3:=qz h3
  clear h3
  refine ⟨_,rfl,⟨(uh H3).c12,(uh H3).st.c9⟩,?_⟩
  simp only [sA,sB]
  refine dN ?_
  go_wp2_with fail
  go_end0
  exact ⟨rfl,by simpa using uh H3⟩
end
end D
namespace D
open Go.RowKit Rang
attribute [local go_sem ↓] wp_at_zero wp_at_succ
section
variable {B:Nat} {W w w':World} {wb pb gc:Nat} {ov:Value} {tl:List Value} {s s1:LS} {chv tv:Value} {σ:Sta} {l m:List A4}
def Kp (w w':World):Prop:=∀ (k:Nat) (cs:Array Value) (t:TypeId),w.heap[k]?=some (.cells cs t (0,0))→t≠73→t≠115→t≠148→t≠5→w'.heap[k]?=w.heap[k]?
theorem AD.bitK (h:AD B wb pb gc ov tl s chv tv σ l W w) (hk:σ.k+31*l.length≤70000000000000) (i v:Nat) (hi:i<s.chances) (hv:v≤1):Calls Tryz.prog 112 #[.pointer (some ⟨pb,0,none⟩),.int .i64 (i:Int),.int .i64 (v:Int)] w fun e w'=>ActE e∧AD B wb pb gc ov tl s chv tv σ (l++[bitA i v]) W w'∧Kp w w':=by
 obtain ⟨v0,h1,h2,h3⟩:=h
 refine (h1.bit (by omega) i v (z9l hi hv)).mono ?_
 rintro e w' ⟨he,v2,h4,h5,h6⟩
 refine ⟨he,⟨v2,by rw [z0t];exact h4,h2.trans h5,?_⟩,fun k cs t hc a b c d=>?_⟩
 ·rw [z0t,List.length_append]
  omega
 ·refine h5.keep k (z0c hc) (z0e hc h1.st a) (z0e hc h1.enc.1.enc.cells b) (z0e hc h1.enc.1.chs c) (fun e=>?_)
  obtain ⟨cur,hg⟩:=z2h h1.enc.1.enc e
  exact z0e hc hg d rfl
theorem KAt.keep {g node like:Nat} {held:Bool} (h:KAt w g node like held) (hk:Kp w w'):KAt w' g node like held:=by
 unfold KAt
 rw [hk g _ 141 h (by decide) (by decide) (by decide) (by decide)]
 exact h
theorem AD.ch {g:Nat} {cs:Array Value} {t:TypeId} (h:AD B wb pb gc ov tl s chv tv σ l W w) (hc:Ch1 g w w') (hg:w.heap[g]?=some (.cells cs t (0,0))) (a:t≠73) (b:t≠115) (c:t≠148) (d:t≠5) (hW:W.heap.size≤g):AD B wb pb gc ov tl s chv tv σ l W w':=by
 obtain ⟨v,h1,h2,h3⟩:=h
 have n1:wb≠g:=(z0e hg h1.st a).symm
 have n2:pb≠g:=(z0e hg h1.enc.1.enc.cells b).symm
 have n3:gc≠g:=(z0e hg h1.enc.1.chs c).symm
 have n4:∀k,v.ownBlock=some k→k≠g:=fun k e=>by
  obtain ⟨cur,hk⟩:=z2h h1.enc.1.enc e
  exact z0e hk hg (Ne.symm d)
 refine ⟨v,⟨?_,h1.enc.of (hc.keep _ n2) (hc.keep _ n3) (fun k e=>hc.keep k (n4 k e)) (Nat.le_of_eq hc.size.symm),h1.tx.of fun k cur _ hk=>hc.keep k (z0e hk hg (Ne.symm d)),h1.ap,h1.ok,h1.chl,h1.hn,fun k e=>by rw [hc.size];exact h1.tb k e⟩,⟨hc.os.trans h2.os,hc.tape.trans h2.tape,hc.output.trans h2.output,by rw [hc.size];exact h2.size,fun k hk x y z u=>by rw [hc.keep k (by omega)];exact h2.keep k hk x y z u,h2.lies⟩,h3⟩
 unfold SAt
 rw [hc.keep wb n1]
 exact h1.st
theorem AD.grown (h:AD B wb pb gc ov tl s chv tv σ l W w):W.heap.size≤w.heap.size:=by obtain ⟨v,_,h2,_⟩:=h;exact h2.size
def WkIs (B wb pb gc:Nat) (ov:Value) (tl:List Value) (s:LS) (chv tv:Value) (σ:Sta) (l:List A4) (W:World) (v4 v5:Value) (wc:World):Prop :=
 v4=.int .i64 ((s.byteC:Nat):Int)∧∃g,v5=.pointer (some ⟨g,0,none⟩)∧KAt wc g 1 (s.back s.f0) (decide (7≤s.z))∧AD B wb pb gc ov tl s chv tv σ l W wc∧W.heap.size≤g
theorem y3o {g:Nat} (h:AD B wb pb gc ov tl s chv tv σ l W w) (hz:w.heap[g]?=some (.cells #[.int .i64 0,.int .i64 0,.bool false] 141 (0,0))) (hg:W.heap.size≤g) :
  WkIs B wb pb gc ov tl s chv tv σ l W (.int .i64 ((s.byteC:Nat):Int)) (.pointer (some ⟨g,0,none⟩)) (((w.setCell ⟨g,0,none⟩ (.int .i64 1)).setCell ⟨g,1,none⟩ (.int .i64 ((s.back s.f0:Nat):Int))).setCell ⟨g,2,none⟩ (.bool (decide (7≤s.z)))) :=
 ⟨rfl,g,rfl,z5h hz _ _ _,h.ch ((((Ch1.refl g w).set 0 _).set 1 _).set 2 _) hz (by decide) (by decide) (by decide) (by decide) hg,hg⟩
theorem z6r {P:Program} {md:Region.Mode} {ops:Array Oper} {Q:Exit→Act→World→Prop} {S:World→Prop} {o:Oper} {f:FuncId} {args:Array Value} {fuel:Nat} {listed:Array Bool} {l:List Value} {df:List Deferred} {w:World} {K:Act→World→Prop} (i d:Nat)
  (hK:Shut (∀a w,S w→(S w→wpAnyH P md ops Q S fuel (listed.setIfInBounds i true) a w)→K a w)) (hd:o.dst=some d)
  (hw:Region.wanted o (yielded ops l.toArray)=true) (hrun:(execOp (Act.eval ⟨l.toArray,df⟩) o).run P w=.ok (.enter f args) w)
  (h:Calls P f args w fun e w'=>∃v,e=.returned v∧S w'∧wpAnyH P md ops Q S fuel (listed.setIfInBounds i true) ⟨(l.set d v).toArray,df⟩ w') :
  if Region.wanted o (yielded ops (⟨l.toArray,df⟩:Act).tmps)=true then Oper.wp P o ⟨l.toArray,df⟩ w K Q else K ((⟨l.toArray,df⟩:Act).put o.dst undef) w:=by
 rw [if_pos hw]
 unfold Oper.wp
 rw [hrun,Oper.upon_enter]
 refine h.mono ?_
 rintro e w' ⟨v,rfl,hS,h2⟩
 have e:Act.put (⟨l.toArray,df⟩:Act) o.dst v=⟨(l.set d v).toArray,df⟩:=by rw [hd];simp [Act.put]
 show K (Act.put ⟨l.toArray,df⟩ o.dst v) w'
 rw [e]
 exact hK.out _ _ hS (fun _=>h2)
theorem z5k (at_ c:Nat):∀k node like held,(z5j at_ c k node like held).length=k
 | 0,_,_,_=>rfl
 | k+1,_,_,_=>by rw [z5j,List.length_cons,z5k]
def WL (B wb pb gc:Nat) (ov:Value) (tl:List Value) (s:LS) (chv tv:Value) (σ:Sta) (L0:Nat) (TOT:List A4) (W:World) (c g:Nat) (gk:Nat) (v:Value) (ws:World):Prop :=
 ∃ (i node like:Nat) (held:Bool) (l':List A4),gk+i=8∧v=.int .i64 (i:Int)∧KAt ws g node like held∧AD B wb pb gc ov tl s chv tv σ l' W ws∧l'++z5j s.byteC c gk node like held=TOT∧((node+1)*2^gk≤512∧(0<gk→node<256))∧like*2^gk≤65280∧l'.length=L0+i
theorem y3p {node k y:Nat} (h:(node+1)*2^(k+1)≤512) (hy:y<2):(2*node+y+1)*2^k≤512∧(0<k→2*node+y<256):=by
 rw [Nat.pow_succ] at h
 have h4:(2*node+y+1)*2^k≤(2*node+2)*2^k:=Nat.mul_le_mul_right _ (by omega)
 have h5:(2*node+2)*2^k=(node+1)*(2^k*2):=by rw [Nat.mul_comm (2^k) 2,←Nat.mul_assoc];congr 1;omega
 refine ⟨by omega,fun hk=>?_⟩
 obtain ⟨j,rfl⟩:∃j,k=j+1:=⟨k-1,by omega⟩
 have h6:=Nat.two_pow_pos j
 rw [Nat.pow_succ] at h
 have h7:(node+1)*4≤(node+1)*(2^j*2*2):=Nat.mul_le_mul_left _ (by omega)
 omega
theorem y4o (c k:Nat):bits .and .i64 ((c:Int)/2^k) 1=((c/2^k%2:Nat):Int):=by
 rw [z4i]
 have h1:(c:Int)/2^k=((c/2^k:Nat):Int):=by norm_cast
 rw [h1]
 omega
theorem y1u {node like k:Nat} (hN:(node+1)*2^(k+1)≤512∧(0<k+1→node<256)) (hL:like*2^(k+1)≤65280):node<256∧node<65536∧like<65536∧like<16777216∧2*like*2^k≤65280:=by
 have h1:=Nat.two_pow_pos (k+1)
 have h2:like*1≤like*2^(k+1):=Nat.mul_le_mul_left _ h1
 have h3:2*like*2^k=like*2^(k+1):=by rw [Nat.pow_succ,Nat.mul_comm 2 like,Nat.mul_assoc,Nat.mul_comm 2 (2^k)]
 have h4:=hN.2 (by omega)
 exact ⟨h4,by omega,by omega,by omega,by omega⟩
theorem y4j (c k:Nat):∃y,c/2^k%2=y∧y<2∧y≤1∧bits .and .i64 ((c:Int)/2^k) 1=(y:Int):=by
 have h:c/2^k%2<2:=Nat.mod_lt _ (by omega)
 exact ⟨_,rfl,h,by omega,y4o c k⟩
theorem y0e {held:Bool} {like node:Nat} (h:node<256):∃ci,(if held then 256+256*(like/128%2)+node else node)=ci∧ci<768:=⟨_,rfl,by split<;>omega⟩
theorem y4k {c i k:Nat} {y:Int} (h:k+1+i=8) (hb:bits .and .i64 ((c:Int)/2^k) 1=y):bits .and .i64 ((c:Int)/2^min k 64) 1=y:=by rw [show min k 64=k by omega];exact hb
theorem y1v {i k:Nat} (h:k+1+i=8):(i:Int)<8∧wrap64 (7-(i:Int))=(k:Int)∧wrap64 ((i:Int)+1)=((i+1:Nat):Int)∧k+(i+1)=8∧i+1≤8:=by
 refine ⟨by omega,?_,?_,by omega,by omega⟩
 ·rw [w64 (by omega) (by omega)];omega
 ·rw [w64 (by omega) (by omega)];omega
theorem y4i {a ci N:Nat} (h:a+768≤N) (hN:N≤14144) (hc:ci<768):wrap64 ((a:Int)+(ci:Int))=((a+ci:Nat):Int)∧a+ci<N:=by
 refine ⟨?_,by omega⟩
 rw [w64 (by omega) (by omega)];omega
theorem wl_k {k L i:Nat} (h:k+31*(L+12)≤70000000000000) (hi:i+1≤8):k+31*(L+1+i)≤70000000000000:=by omega
theorem z7v (h:AD B wb pb gc ov tl s chv tv σ l W w) (hk:σ.k+31*(l.length+12)≤70000000000000) (c:Nat) (hc:c<256) (hWw:W.heap.size≤w.heap.size) :
  Calls Tryz.prog 81 #[.pointer (some ⟨wb,0,none⟩),.int .u8 (c:Int)] w (PD B wb pb gc ov tl (s.afterP (.byte c)) chv tv σ (l++s.byteA c) W):=by
 obtain ⟨g1,g2,g3,g4,g5,g6,g7,g8,f1,f2,f3,f4⟩:=z3b h.ok
 have HM:=qz fun w2 (h2:AD B wb pb gc ov tl s chv tv σ l W w2)=>h2.st.matchC h2.ok
 have HB1:=qz fun w2 (h2:AD B wb pb gc ov tl s chv tv σ (l) W w2)=>(h2.bit (by omega) s.matchC 0 g1 (Nat.zero_le _):Calls Tryz.prog 112 #[.pointer (some ⟨pb,0,none⟩),.int .i64 ((s.matchC:Nat):Int),.int .i64 0] w2 fun e w'=>ActE e∧AD B wb pb gc ov tl s chv tv σ (l++[bitA s.matchC 0]) W w')
 have HP:=qz fun w2 (h2:AD B wb pb gc ov tl s chv tv σ (l++[bitA s.matchC 0]) W w2)=>h2.st.place h2.ok h2.rd h2.hn
 have HW:=qz fun w2 (h2:AD B wb pb gc ov tl s chv tv σ (l++[bitA s.matchC 0]) W w2)=>h2.st.walk h2.ok h2.rd h2.hn
 have H1:=qz h
 have HWW:=qz hWw
 have hcw:wrap64 (c:Int)=(c:Int):=w64 (by omega) (by omega)
 clear h
 go_enter Tryz.func81,Tryz.ntmps81
 go_wp2_with fail
 refine wp_region_noPanic ?_
 refine wp_region_held_drew (S:=fun x=>x.cell? ⟨wb,12,none⟩=some (.pointer (some ⟨pb,0,none⟩))∧x.cell? ⟨wb,9,none⟩=some (.int .i64 (s.z:Int))) (by kernel_rfl) ⟨(uh H1).c12,(uh H1).st.c9⟩ (fun hHeld=>?_)
 show wpAnyH _ _ _ _ _ _ _ _ w.drew
 have H0:=qz (uh H1).drew
 generalize w.drew=x1 at H0 hHeld ⊢
 refine hT 0 8 rfl rfl hHeld nPp (v:=?_) (fun x hSx=>?_) ?_
 rotate_left 1
 ·(obtain ⟨s0,s1⟩:=hSx;go_simp<;>with_reducible rfl)
 simp only [sA,sB]
 refine hT 1 9 rfl rfl hHeld nPp (v:=?_) (fun x hSx=>?_) ?_
 rotate_left 1
 ·(obtain ⟨s0,s1⟩:=hSx;go_simp<;>with_reducible rfl)
 simp only [sA,sB]
 refine hT 2 10 rfl rfl hHeld nPp (v:=?_) (fun x hSx=>?_) ?_
 rotate_left 1
 ·(obtain ⟨s0,s1⟩:=hSx;go_simp<;>with_reducible rfl)
 simp only [sA,sB]
 refine hT 3 11 rfl rfl hHeld nPp (v:=?_) (fun x hSx=>?_) ?_
 rotate_left 1
 ·(obtain ⟨s0,s1⟩:=hSx;go_simp<;>with_reducible rfl)
 simp only [sA,sB]
 refine hT 4 12 rfl rfl hHeld nPp (v:=?_) (fun x hSx=>?_) ?_
 rotate_left 1
 ·(obtain ⟨s0,s1⟩:=hSx;go_simp<;>with_reducible rfl)
 simp only [sA,sB]
 refine hT 5 13 rfl rfl hHeld nPp (v:=?_) (fun x hSx=>?_) ?_
 rotate_left 1
 ·(obtain ⟨s0,s1⟩:=hSx;go_simp<;>with_reducible rfl)
 simp only [sA,sB]
 refine hT 6 14 rfl rfl hHeld nPp (v:=?_) (fun x hSx=>?_) ?_
 rotate_left 1
 ·(obtain ⟨s0,s1⟩:=hSx;go_simp<;>with_reducible rfl)
 simp only [sA,sB]
 refine z0a 7 15 (by kernel_rfl) rfl rfl (by rfl) (by go_simp<;>exact ⟨rfl,rfl⟩) ?_
 refine (uh HM _ (uh H0)).mono ?_
 rintro e wq hr
 obtain ⟨rfl,h3⟩:=(uh H0).rt hr
 have H0:=qz h3
 clear hr h3
 have hHeld:=And.intro (uh H0).c12 (uh H0).st.c9
 refine ⟨_,rfl,hHeld,?_⟩
 simp only [sA,sB]
 refine z0a 8 16 (by kernel_rfl) rfl rfl (by rfl) (by go_simp<;>exact ⟨rfl,rfl⟩) ?_
 refine (uh HB1 _ (uh H0)).mono ?_
 rintro e wn ⟨he,h3⟩
 obtain rfl:e=.returned (.int .i64 0):=he
 have H2:=qz h3
 clear h3
 refine ⟨_,rfl,⟨(uh H2).c12,(uh H2).st.c9⟩,?_⟩
 simp only [sA,sB]
 refine dN ?_
 go_upto_region 1 with fail
 go_cut [4,5] (fun v4 v5 wc=>WkIs B wb pb gc ov tl s chv tv σ (l++[bitA s.matchC 0]) W v4 v5 wc)
 case first =>
  refine wp_region_noPanic ?_
  refine wp_region_held_drew (S:=fun _=>True) (by kernel_rfl) trivial (fun hHeld=>?_)
  show wpAnyH _ _ _ _ _ _ _ _ wn.drew
  have H3:=qz (uh H2).drew
  generalize wn.drew=x1 at H3 ⊢
  refine hT 0 17 rfl rfl trivial nPp (v:=?_) (fun x hSx=>?_) ?_
  rotate_left 1
  ·(go_simp<;>with_reducible rfl)
  simp only [sA,sB]
  refine hT 1 18 rfl rfl trivial nPp (v:=?_) (fun x hSx=>?_) ?_
  rotate_left 1
  ·(go_simp<;>with_reducible rfl)
  simp only [sA,sB]
  refine hT 2 19 rfl rfl trivial nPp (v:=?_) (fun x hSx=>?_) ?_
  rotate_left 1
  ·(go_simp<;>with_reducible rfl)
  simp only [sA,sB]
  refine hT 4 21 rfl rfl trivial nPp (v:=?_) (fun x hSx=>?_) ?_
  rotate_left 1
  ·(go_simp<;>with_reducible rfl)
  simp only [sA,sB]
  refine hT 5 22 rfl rfl trivial nPp (v:=?_) (fun x hSx=>?_) ?_
  rotate_left 1
  ·(go_simp<;>with_reducible rfl)
  simp only [sA,sB]
  refine hT 6 23 rfl rfl trivial nPp (v:=?_) (fun x hSx=>?_) ?_
  rotate_left 1
  ·(go_simp<;>with_reducible rfl)
  simp only [sA,sB]
  refine z6s (i:=3) (j:=8) (by kernel_rfl) rfl rfl ?_ ?_
  ·intro K hK
   refine z6r 3 20 hK rfl (by rfl) (by go_simp<;>exact ⟨rfl,rfl⟩) ?_
   refine (uh HP _ (uh H3)).mono ?_
   rintro e wq ⟨rfl,q,rfl⟩
   have H4:=qz ((uh H3).drewN q)
   refine ⟨_,rfl,trivial,?_⟩
   simp only [sA,sB]
   generalize x1.drewN q=x2 at H4 ⊢
   refine z6s (i:=7) (j:=8) (by kernel_rfl) rfl rfl ?_ ?_
   ·intro K hK
    refine z6r 7 24 hK rfl (by rfl) (by go_simp<;>exact ⟨rfl,rfl⟩) ?_
    refine (uh HW _ (uh H4)).mono ?_
    rintro e wz ⟨rfl,hb⟩
    have H5:=qz ((uh H4).below hb)
    refine ⟨_,rfl,trivial,?_⟩
    simp only [sA,sB]
    refine hO 8 5 rfl rfl (w':=wz.alloc (.cells #[.int .i64 0,.int .i64 0,.bool false] 141)) (v:=.pointer (some ⟨wz.heap.size,0,none⟩)) (by go_simp) trivial ?_
    simp only [sA,sB]
    have H6:=qz ((uh H5).below (Below.alloc (Below.refl _ _) (Nat.le_refl _) (.cells #[.int .i64 0,.int .i64 0,.bool false] 141)))
    have HZ:Hid ((wz.alloc (.cells #[.int .i64 0,.int .i64 0,.bool false] 141)).heap[wz.heap.size]?=some (.cells #[.int .i64 0,.int .i64 0,.bool false] 141 (0,0))):=qz (heap_alloc_new _ _)
    have HG:=qz (uh H5).grown
    generalize wz.alloc (.cells #[.int .i64 0,.int .i64 0,.bool false] 141)=x4 at H6 HZ ⊢
    generalize wz.heap.size=g at HZ HG ⊢
    refine hT 9 4 rfl rfl trivial nPp (v:=?_) (fun x hSx=>?_) ?_
    rotate_left 1
    ·(go_simp<;>with_reducible rfl)
    simp only [sA,sB]
    obtain ⟨k0,k1,k2,kf⟩:=z0r (uh HZ)
    refine hKk 10 rfl rfl (by go_simp<;>rfl) trivial ?_
    refine dN ?_
    go_wp2_with fail
    go_meet
    exact y3o (uh H6) (uh HZ) (uh HG)
   ·intro K hK
    refine z5u 8 5 hK rfl (by rfl) (w':=x2.alloc (.cells #[.int .i64 0,.int .i64 0,.bool false] 141)) (v:=.pointer (some ⟨x2.heap.size,0,none⟩)) (by go_simp) trivial ?_
    simp only [sA,sB]
    have H5:=qz ((uh H4).below (Below.alloc (Below.refl _ _) (Nat.le_refl _) (.cells #[.int .i64 0,.int .i64 0,.bool false] 141)))
    have HZ:Hid ((x2.alloc (.cells #[.int .i64 0,.int .i64 0,.bool false] 141)).heap[x2.heap.size]?=some (.cells #[.int .i64 0,.int .i64 0,.bool false] 141 (0,0))):=qz (heap_alloc_new _ _)
    have HG:=qz (uh H4).grown
    generalize x2.alloc (.cells #[.int .i64 0,.int .i64 0,.bool false] 141)=x3 at H5 HZ ⊢
    generalize x2.heap.size=g at HZ HG ⊢
    refine z0a 7 24 (by kernel_rfl) rfl rfl (by rfl) (by go_simp<;>exact ⟨rfl,rfl⟩) ?_
    refine (uh HW _ (uh H5)).mono ?_
    rintro e wz ⟨rfl,hb⟩
    have H6:=qz ((uh H5).below hb)
    refine ⟨_,rfl,trivial,?_⟩
    simp only [sA,sB]
    have HZ:Hid (wz.heap[g]?=some (.cells #[.int .i64 0,.int .i64 0,.bool false] 141 (0,0))):=qz (by rw [hb.block g (z0c (uh HZ))];exact uh HZ)
    refine hT 9 4 rfl rfl trivial nPp (v:=?_) (fun x hSx=>?_) ?_
    rotate_left 1
    ·(go_simp<;>with_reducible rfl)
    simp only [sA,sB]
    obtain ⟨k0,k1,k2,kf⟩:=z0r (uh HZ)
    refine hKk 10 rfl rfl (by go_simp<;>rfl) trivial ?_
    refine dN ?_
    go_wp2_with fail
    go_meet
    exact y3o (uh H6) (uh HZ) (uh HG)
  ·intro K hK
   refine z5u 8 5 hK rfl (by rfl) (w':=x1.alloc (.cells #[.int .i64 0,.int .i64 0,.bool false] 141)) (v:=.pointer (some ⟨x1.heap.size,0,none⟩)) (by go_simp) trivial ?_
   simp only [sA,sB]
   have H4:=qz ((uh H3).below (Below.alloc (Below.refl _ _) (Nat.le_refl _) (.cells #[.int .i64 0,.int .i64 0,.bool false] 141)))
   have HZ:Hid ((x1.alloc (.cells #[.int .i64 0,.int .i64 0,.bool false] 141)).heap[x1.heap.size]?=some (.cells #[.int .i64 0,.int .i64 0,.bool false] 141 (0,0))):=qz (heap_alloc_new _ _)
   have HG:=qz (uh H3).grown
   generalize x1.alloc (.cells #[.int .i64 0,.int .i64 0,.bool false] 141)=x2 at H4 HZ ⊢
   generalize x1.heap.size=g at HZ HG ⊢
   refine z0a 3 20 (by kernel_rfl) rfl rfl (by rfl) (by go_simp<;>exact ⟨rfl,rfl⟩) ?_
   refine (uh HP _ (uh H4)).mono ?_
   rintro e wq ⟨rfl,q,rfl⟩
   have H5:=qz ((uh H4).drewN q)
   refine ⟨_,rfl,trivial,?_⟩
   simp only [sA,sB]
   have HZ:Hid ((x2.drewN q).heap[g]?=some (.cells #[.int .i64 0,.int .i64 0,.bool false] 141 (0,0))):=HZ
   generalize x2.drewN q=x3 at H5 HZ ⊢
   refine z0a 7 24 (by kernel_rfl) rfl rfl (by rfl) (by go_simp<;>exact ⟨rfl,rfl⟩) ?_
   refine (uh HW _ (uh H5)).mono ?_
   rintro e wz ⟨rfl,hb⟩
   have H6:=qz ((uh H5).below hb)
   refine ⟨_,rfl,trivial,?_⟩
   simp only [sA,sB]
   have HZ:Hid (wz.heap[g]?=some (.cells #[.int .i64 0,.int .i64 0,.bool false] 141 (0,0))):=qz (by rw [hb.block g (z0c (uh HZ))];exact uh HZ)
   refine hT 9 4 rfl rfl trivial nPp (v:=?_) (fun x hSx=>?_) ?_
   rotate_left 1
   ·(go_simp<;>with_reducible rfl)
   simp only [sA,sB]
   obtain ⟨k0,k1,k2,kf⟩:=z0r (uh HZ)
   refine hKk 10 rfl rfl (by go_simp<;>rfl) trivial ?_
   refine dN ?_
   go_wp2_with fail
   go_meet
   exact y3o (uh H6) (uh HZ) (uh HG)
 case rest =>
  obtain ⟨rfl,g,rfl,hK,hA,hG⟩:=hcut
  have HKK:=qz hK
  have HAA:=qz hA
  have HGG:=qz hG
  clear hK hA hG HM HB1 HP HW H1 H2
  have HWL:Hid (WL B wb pb gc ov tl s chv tv σ (l.length+1) (l++s.byteA c) W c g 8 (.int .i64 0) wc):=qz ⟨0,1,s.back s.f0,decide (7≤s.z),l++[bitA s.matchC 0],by omega,rfl,uh HKK,uh HAA,by unfold LS.byteA;simp,⟨by omega,by omega⟩,by have:=s.back_lt (uh HAA).ok s.f0;omega,by simp⟩
  have HKB:Hid (σ.k+31*(l.length+12)≤70000000000000):=qz hk
  have HCC:=qz hc
  clear hk hc g1 g2 g3 g4 g5 g6 g7 g8 f1 f2 f3 f4 HKK HAA
  go_wp2_with fail
  go_loopg [25] 8 (fun gk v ws=>WL B wb pb gc ov tl s chv tv σ (l.length+1) (l++s.byteA c) W c g gk v ws)
  case atStart=>exact uh HWL
  case round =>
   obtain ⟨i,node,like,held,l',hi,rfl,hK,hA,hT,hN,hLk,hL⟩:=hrel
   clear HWL
   cases gk with
   | zero =>
    obtain rfl:i=8:=by omega
    have HA:=qz (hA.st.afterByte hA.ok.z)
    have HA2:=qz hA
    obtain rfl:l'=l++s.byteA c:=by simpa [z5j] using hT
    clear hK hA hT hN hLk hL
    go_wp2_with fail
    refine (uh HA).mono ?_
    rintro e w8 ⟨rfl,h3,h4⟩
    have H9:=qz ((uh HA2).setS (s':=s.afterP (.byte c)) h3 h4 ((uh HA2).ok.after (b:=[c]) ⟨uh HCC,rfl⟩) rfl rfl)
    clear h3 h4 HA HA2
    go_wp2_with fail
    go_end0
    exact ⟨rfl,uh H9⟩
   | succ k =>
    obtain ⟨t1,f1,f4,hi2,hi3⟩:=y1v hi
    obtain ⟨n1,n2,n3,n4,n5⟩:=y1u hN hLk
    obtain ⟨y,hy,y2,y3,f2⟩:=y4j c k
    obtain ⟨ci,hci,hci2⟩:=y0e (held:=held) (like:=like) n1
    obtain ⟨f5,hbi⟩:=y4i (s.byteC_le hA.ok) (z0x hA.ok) hci2
    have f3:=y4k hi f2
    have i1:=(iw _).trans f1
    have i5:=(iw _).trans f5
    have hT2:l'++bitA (s.byteC+ci) y :: z5j s.byteC c k (2*node+y) (2*like) (held && decide (y=like/128%2))=l++s.byteA c:=by rw [←hci,←hy];exact hT
    have HCH:=qz fun w2 (h2:KAt w2 g node like held)=>z8i g node like held w2 h2 n4 n2
    rw [hci] at HCH
    have HBT:=qz fun w2 (h2:AD B wb pb gc ov tl s chv tv σ l' W w2)=>h2.bitK (by rw [hL];exact wl_k (uh HKB) hi3) (s.byteC+ci) y hbi y3
    have HST:=qz fun w2 (h2:KAt w2 g node like held)=>step_ok g node like y held w2 h2 n4 n2 y2
    have HNX:Hid (∀ws,KAt ws g (2*node+y) (2*like) (held && decide (y=like/128%2))→AD B wb pb gc ov tl s chv tv σ (l'++[bitA (s.byteC+ci) y]) W ws→WL B wb pb gc ov tl s chv tv σ (l.length+1) (l++s.byteA c) W c g k (.int .i64 ((i+1:Nat):Int)) ws):=qz fun ws h1 h2=>⟨i+1,_,_,_,_,hi2,rfl,h1,h2,by rw [←hT2];simp,y3p hN.1 y2,n5,by rw [len1,hL];rfl⟩
    have H0:=qz hA
    have HK0:=qz hK
    have hHM:Hid (k<k+1):=qz (Nat.lt_succ_self k)
    clear hK hA hT hN hLk hL hT2 hci hci2 hy hi y2 y3 n1 n2 n3 n4 n5 hbi hi2 hi3
    generalize s.byteC+ci=bi at *
    go_wp2_with fail
    refine wp_region_noPanic ?_
    refine wp_region_held_drew (S:=fun x=>x.cell? ⟨wb,12,none⟩=some (.pointer (some ⟨pb,0,none⟩))) (by kernel_rfl) (uh H0).c12 (fun hHeld=>?_)
    show wpAnyH _ _ _ _ _ _ _ _ wr.drew
    have H0:=qz (uh H0).drew
    have HK0:Hid (KAt wr.drew g node like held):=HK0
    generalize wr.drew=x1 at H0 HK0 hHeld ⊢
    refine hT 0 34 rfl rfl hHeld nPp (v:=?_) (fun x hSx=>?_) ?_
    rotate_left 1
    ·(skip;go_simp<;>with_reducible rfl)
    simp only [sA,sB]
    refine hT 1 35 rfl rfl hHeld nPp (v:=?_) (fun x hSx=>?_) ?_
    rotate_left 1
    ·(skip;go_simp<;>with_reducible rfl)
    simp only [sA,sB]
    refine hT 2 36 rfl rfl hHeld nPp (v:=?_) (fun x hSx=>?_) ?_
    rotate_left 1
    ·(skip;go_simp<;>with_reducible rfl)
    simp only [sA,sB]
    refine hT 3 37 rfl rfl hHeld nPp (v:=?_) (fun x hSx=>?_) ?_
    rotate_left 1
    ·(skip;go_simp<;>with_reducible rfl)
    simp only [sA,sB]
    refine hT 4 38 rfl rfl hHeld nPp (v:=?_) (fun x hSx=>?_) ?_
    rotate_left 1
    ·(skip;go_simp<;>with_reducible rfl)
    simp only [sA,sB]
    refine hT 7 41 rfl rfl hHeld nPp (v:=?_) (fun x hSx=>?_) ?_
    rotate_left 1
    ·(skip;go_simp<;>with_reducible rfl)
    simp only [sA,sB]
    refine z0a 5 39 (by kernel_rfl) rfl rfl (by rfl) (by go_simp<;>exact ⟨rfl,rfl⟩) ?_
    refine (uh HCH _ (uh HK0)).mono ?_
    rintro e wq ⟨rfl,q,rfl⟩
    have H0:=qz ((uh H0).drewN q)
    have HK0:=qz ((uh HK0).drewN q)
    have hHeld:(x1.drewN q).cell? ⟨wb,12,none⟩=some (.pointer (some ⟨pb,0,none⟩)):=(uh H0).c12
    refine ⟨_,rfl,hHeld,?_⟩
    generalize x1.drewN q=x2 at H0 HK0 hHeld ⊢
    simp only [sA,sB]
    refine hT 6 40 rfl rfl hHeld nPp (v:=?_) (fun x hSx=>?_) ?_
    rotate_left 1
    ·(skip;go_simp<;>with_reducible rfl)
    simp only [sA,sB]
    refine z0a 8 42 (by kernel_rfl) rfl rfl (by rfl) (by go_simp<;>exact ⟨rfl,rfl⟩) ?_
    refine (uh HBT _ (uh H0)).mono ?_
    rintro e wn ⟨he,h3,h4⟩
    obtain rfl:e=.returned (.int .i64 0):=he
    have HK3:=qz ((uh HK0).keep h4)
    have H3:=qz h3
    refine ⟨_,rfl,h3.c12,?_⟩
    clear h3 h4
    simp only [sA,sB]
    refine dN ?_
    go_wp2_with fail
    refine (uh HST _ (uh HK3)).mono ?_
    rintro e w4 ⟨rfl,h3,h4⟩
    have HFIN:=qz (uh HNX _ h3 ((uh H3).ch h4 (uh HK3) (by decide) (by decide) (by decide) (by decide) (uh HGG)))
    clear h3 h4 H3 HK3
    go_wp2_with fail
    go_roundg k
    case rel=>exact uh HFIN
    case measure=>exact uh hHM
end
end D
namespace T6
open Go.RowKit Go.Lib
attribute [local go_sem ↓] wp_at_zero wp_at_succ
theorem z4y (xs ys:List Nat) (a b:Option Addr) (ca cb B B':Nat) (w:World) (h1:z0f B w (.slice a xs.length ca) xs) (h2:z0f B' w (.slice b ys.length cb) ys) (hl:xs.length≤140737488355328) :
  Calls Tryz.prog 108 #[.slice a xs.length ca,.slice b ys.length cb] w fun e w'=>∃n:Nat,e=.returned (.int .i64 (n:Int))∧IsCommon xs ys n∧∃q,w'=w.drewN q:=by
 have H1:=qz h1
 have H2:=qz h2
 clear h1 h2
 obtain ⟨n,hn⟩:∃n,n=xs.length:=⟨_,rfl⟩
 obtain ⟨m,hm⟩:∃m,m=ys.length:=⟨_,rfl⟩
 rw [←hn] at H1 hl ⊢
 rw [←hm] at H2 ⊢
 have HN:=qz hn
 have HM:=qz hm
 clear hn hm
 go_enter Tryz.func108,Tryz.ntmps108
 go_wp2_with fail
 go_loopg [5] n (fun gk d ws=>∃ (k q:Nat),gk=n-k∧k≤n∧k≤m∧Hid (∀i,i<k→xs.getD i 0=ys.getD i 0)∧d=.int .i64 (k:Int)∧ws=w.drewN q)
 case atStart=>exact ⟨0,0,by omega,by omega,by omega,qz fun i h=>by omega,rfl,rfl⟩
 case round =>
  obtain ⟨k,q,rfl,hk,hkm,hgood,rfl,rfl⟩:=hrel
  have HEND:Hid ((k<n→k<m→xs.getD k 0≠ys.getD k 0)→IsCommon xs ys k):=qz fun h=>⟨by rw [←uh HN];exact hk,by rw [←uh HM];exact hkm,uh hgood,by rw [←uh HN,←uh HM];exact h⟩
  by_cases hlt:k<n
  ·have hki:(k:Int)<(n:Int):=by omega
   by_cases hltm:k<m
   ·have hkj:(k:Int)<(m:Int):=by omega
    obtain ⟨a',c',e,_,hs⟩:=uh H1
    injection e with e1 e2 e3
    subst e1 e3
    clear e2
    obtain ⟨b1,off1,rfl,_,hcell1⟩:=hs (by rw [←uh HN];omega)
    obtain ⟨a',c',e,_,hs2⟩:=uh H2
    injection e with e1 e2 e3
    subst e1 e3
    clear e2
    obtain ⟨b2,off2,rfl,_,hcell2⟩:=hs2 (by rw [←uh HM];omega)
    have k1:=hcell1 k (by rw [←uh HN];exact hlt)
    have k2:=hcell2 k (by rw [←uh HM];exact hltm)
    obtain ⟨x,hx⟩:∃x,x=xs.getD k 0:=⟨_,rfl⟩
    obtain ⟨y,hy⟩:∃y,y=ys.getD k 0:=⟨_,rfl⟩
    rw [←hx] at k1 HEND
    rw [←hy] at k2 HEND
    by_cases hxy:x=y
    ·have HG:Hid (∀i,i<k+1→xs.getD i 0=ys.getD i 0):=qz fun i hi=>by
      by_cases e:i=k
      ·rw [e,←hx,←hy];exact hxy
      ·exact uh hgood i (by omega)
     have e1:((x:Int) == (y:Int))=true:=by simp [hxy]
     have e1':(x == y)=true:=by simp [hxy]
     clear hcell1 hcell2 hx hy hgood hs hs2 hxy HEND
     go_wp2_with fail
     go_quiet (fail)
     go_wp2_with fail
     go_roundg (n-(k+1))
     case measure=>omega
     case rel=>exact ⟨k+1,q+nq,rfl,by omega,by omega,HG,by go_num,by first|rfl|(rw [World.drewN_drewN])⟩
    ·have e1:((x:Int) == (y:Int))=false:=by simp;omega
     have e1':(x == y)=false:=by simp [hxy]
     have HE:=qz (uh HEND fun _ _=>hxy)
     clear hcell1 hcell2 hx hy hgood hs hs2 hxy HEND
     go_wp2_with fail
     go_quiet (fail)
     go_wp2_with fail
     go_ret
     exact ⟨k,rfl,uh HE,q+nq,by first|rfl|(rw [World.drewN_drewN])⟩
   ·have hkj:¬ (k:Int)<(m:Int):=by omega
    have HE:=qz (uh HEND fun _ h=>by omega)
    clear HEND hgood
    go_wp2_with fail
    go_quiet (fail)
    go_wp2_with fail
    go_ret
    exact ⟨k,rfl,uh HE,q+nq,by first|rfl|(rw [World.drewN_drewN])⟩
  ·have hki:¬ (k:Int)<(n:Int):=by omega
   have HE:=qz (uh HEND fun h=>by omega)
   clear HEND hgood
   go_wp2_with fail
   go_quiet (fail)
   go_wp2_with fail
   go_ret
   exact ⟨k,rfl,uh HE,q+nq,by first|rfl|(rw [World.drewN_drewN])⟩
theorem z3v (xs ys:List Nat) (v u:Value) (B B':Nat) (w:World) (h1:z0f B w v xs) (h2:z0f B' w u ys) (hl:xs.length≤140737488355328) :
  Calls Tryz.prog 108 #[v,u] w fun e w'=>∃n:Nat,e=.returned (.int .i64 (n:Int))∧IsCommon xs ys n∧∃q,w'=w.drewN q:=by
 obtain ⟨a,ca,rfl,hs1⟩:=id h1
 obtain ⟨b,cb,rfl,hs2⟩:=id h2
 exact z4y xs ys a b ca cb B B' w h1 h2 hl
end T6
namespace D
open Go.RowKit Rang
attribute [local go_sem ↓] wp_at_zero wp_at_succ
theorem z9f (b g off N cap n:Nat) (ta:Option Addr) (tc:Nat) (w:World) (h10:w.cell? ⟨b,10,none⟩=some (.slice ta n tc)) (h13:w.cell? ⟨b,13,none⟩=some (.slice (some ⟨g,off,none⟩) N cap)) (hn:n<N) (hc:N≤cap) (hN:N≤1099511627776) :
  Calls Tryz.prog 107 #[.pointer (some ⟨b,0,none⟩)] w (Rt (.slice (some ⟨g,off+n,none⟩) (min (N-n) 273) (cap-n)) w):=by
 have t1:¬cap=n:=by omega
 have t2:(n:Int)≤(N:Int):=by omega
 have t3:n≤N:=by omega
 unfold Rt
 by_cases hm:N-n≤273
 ·have e1:min (N-n) 273=N-n:=by omega
  have e2:((N-n:Nat):Int)≤273:=by omega
  have e3:min ((N-n:Nat):Int) 273=((N-n:Nat):Int):=by omega
  have e4:N-n≤cap-n:=by omega
  rw [e1]
  go_enter Tryz.func107,Tryz.ntmps107
  go_wp2_with fail
  go_quiet (fail)
  go_wp2_with fail
  go_ret
  exact ⟨rfl,nq,rfl⟩
 ·have e1:min (N-n) 273=273:=by omega
  have e2:¬ ((N-n:Nat):Int)≤273:=by omega
  have e3:min ((N-n:Nat):Int) 273=273:=by omega
  have e4:273≤cap-n:=by omega
  have e5:273≤N-n:=by omega
  have e6:(273:Int)≤((cap-n:Nat):Int):=by omega
  rw [e1]
  go_enter Tryz.func107,Tryz.ntmps107
  go_wp2_with fail
  go_quiet (fail)
  go_wp2_with fail
  go_ret
  exact ⟨rfl,nq,rfl⟩
theorem y4r (f0 f1 f2 f3:Int) (w:World):(Instr.index 45 (.agg #[.int .u32 f0,.int .u32 f1,.int .u32 f2,.int .u32 f3]) (.int .i64 0)).run Tryz.prog w=.ok (.int .u32 f0) w:=by
 simp [Instr.index,run_underlying Tryz.underlying45,go_sem]
theorem y4s (f0 f1 f2 f3:Int) (w:World):(Instr.index 45 (.agg #[.int .u32 f0,.int .u32 f1,.int .u32 f2,.int .u32 f3]) (.int .i64 1)).run Tryz.prog w=.ok (.int .u32 f1) w:=by
 simp [Instr.index,run_underlying Tryz.underlying45,go_sem]
theorem y4t (f0 f1 f2 f3:Int) (w:World):(Instr.index 45 (.agg #[.int .u32 f0,.int .u32 f1,.int .u32 f2,.int .u32 f3]) (.int .i64 2)).run Tryz.prog w=.ok (.int .u32 f2) w:=by
 simp [Instr.index,run_underlying Tryz.underlying45,go_sem]
theorem y4u (f0 f1 f2 f3:Int) (w:World):(Instr.index 45 (.agg #[.int .u32 f0,.int .u32 f1,.int .u32 f2,.int .u32 f3]) (.int .i64 3)).run Tryz.prog w=.ok (.int .u32 f3) w:=by
 simp [Instr.index,run_underlying Tryz.underlying45,go_sem]
def farR (com:Nat→Nat):Nat→Nat × Nat
 | 0=>(0,0)
 | i+1=>if (farR com i).2<com i then (i,com i) else farR com i
structure FarEnv (b g off N cap n W mm:Nat) (ta:Option Addr) (tc:Nat) (fs:List Nat) (com:Nat→Nat) (w:World):Prop where
 sees:∀q i,i<4→Calls Tryz.prog 61 #[.pointer (some ⟨b,0,none⟩),.int .u32 ((fs.getD i 0:Nat):Int)] (w.drewN q) (Rt (.bool (decide (fs.getD i 0<min n W))) (w.drewN q))
 comm:∀q r i,i<4→fs.getD i 0<min n W→Calls Tryz.prog 108 #[.slice (some ⟨g,off+(n-1-fs.getD i 0),none⟩) (N-(n-1-fs.getD i 0)) (cap-(n-1-fs.getD i 0)),.slice (some ⟨g,off+n,none⟩) mm (cap-n)] ((w.drewN q).drewN r) (Rt (.int .i64 ((com i:Nat):Int)) ((w.drewN q).drewN r))
 none:∀i,i<4→¬fs.getD i 0<min n W→com i=0
 small:∀i,i<4→com i≤273
theorem z3s {com:Nat→Nat} {i:Nat} (h:∀k,k<4→com k≤273) (hi:i≤4):(farR com i).2≤273∧(farR com i).1<4:=by
 induction i with
 | zero=>exact ⟨by simp [farR],by simp [farR]⟩
 | succ i ih =>
  have:=ih (by omega)
  rw [farR]
  split
  ·exact ⟨h i (by omega),by show i<4;omega⟩
  ·exact this
theorem z8n (b g off N cap n W mm:Nat) (hmm:mm=min (N-n) 273) (ta:Option Addr) (tc:Nat) (f0 f1 f2 f3:Nat) (com:Nat→Nat) (w:World) (hE:FarEnv b g off N cap n W mm ta tc [f0,f1,f2,f3] com w) (h10:w.cell? ⟨b,10,none⟩=some (.slice ta n tc)) (h13:w.cell? ⟨b,13,none⟩=some (.slice (some ⟨g,off,none⟩) N cap)) (h5:w.cell? ⟨b,5,none⟩=some (.int .u32 (f0:Int))) (h6:w.cell? ⟨b,6,none⟩=some (.int .u32 (f1:Int))) (h7:w.cell? ⟨b,7,none⟩=some (.int .u32 (f2:Int))) (h8:w.cell? ⟨b,8,none⟩=some (.int .u32 (f3:Int))) (hn:n<N) (hc:N≤cap) (hN:N≤1099511627776) :
  Calls Tryz.prog 77 #[.pointer (some ⟨b,0,none⟩)] w (Rt (.tuple #[.int .i64 ((farR com 4).1:Int),.int .i64 ((farR com 4).2:Int)]) w):=by
 have HL:=qz (z9f b g off N cap n ta tc w h10 h13 hn hc hN)
 rw [←hmm] at HL
 clear hmm
 have HE:=qz hE
 have HNN:=qz (And.intro hn (And.intro hc hN))
 clear hE hn hc hN
 unfold Rt
 go_enter Tryz.func77,Tryz.ntmps77
 go_wp2_with fail
 refine (uh HL).mono ?_
 rintro e w1 ⟨rfl,q,rfl⟩
 go_wp2_with fail
 go_loopg [2,3,15] 4 (fun gk v2 v3 v ws=>∃i q,gk+i=4∧v=.int .i64 ((i:Nat):Int)∧v2=.int .i64 ((farR com i).1:Int)∧v3=.int .i64 ((farR com i).2:Int)∧ws=w.drewN q)
 case atStart=>exact ⟨0,q,by omega,rfl,rfl,rfl,rfl⟩
 case round =>
  obtain ⟨i,q,hi,rfl,rfl,rfl,rfl⟩:=hrel
  cases gk with
  | zero =>
   obtain rfl:i=4:=by omega
   go_wp2_with fail
   go_returns
   exact ⟨rfl,q,rfl⟩
  | succ k =>
   have t1:(i:Int)<4:=by omega
   have hi4:i<4:=by omega
   have f1':wrap64 ((i:Int)+1)=((i+1:Nat):Int):=by rw [w64 (by omega) (by omega)];omega
   have HS:=qz ((uh HE).sees q i hi4)
   have hR:=z3s (uh HE).small (Nat.le_of_lt hi4)
   rcases (show i=0∨i=1∨i=2∨i=3 by omega) with rfl|rfl|rfl|rfl
   ·have hix:=y4r (f0:Int) (f1:Int) (f2:Int) (f3:Int) (w.drewN q)
    have HS:Hid (Calls Tryz.prog 61 #[.pointer (some ⟨b,0,none⟩),.int .u32 (f0:Int)] (w.drewN q) (Rt (.bool (decide (f0<min n W))) (w.drewN q))):=HS
    obtain ⟨cm,hcm⟩:∃cm,cm=com 0:=⟨_,rfl⟩
    obtain ⟨R1,hR1⟩:∃R1,R1=(farR com 0).1:=⟨_,rfl⟩
    obtain ⟨R2,hR2⟩:∃R2,R2=(farR com 0).2:=⟨_,rfl⟩
    have HNX:Hid ((R2<cm→farR com (0+1)=(0,cm))∧(¬R2<cm→farR com (0+1)=(R1,R2))):=qz ⟨fun h=>by rw [hcm];rw [farR,if_pos (by rw [←hR2,←hcm];exact h)],fun h=>by rw [farR,if_neg (by rw [←hR2,←hcm];exact h),hR1,hR2]⟩
    rw [←hR1,←hR2]
    clear hR hR1 hR2 hi4
    by_cases hs:f0<min n W
    ·rw [decide_eq_true hs] at HS
     obtain ⟨kk,hkk⟩:∃kk,kk=n-1-f0:=⟨_,rfl⟩
     have HCM:Hid (∀q r,Calls Tryz.prog 108 #[.slice (some ⟨g,off+kk,none⟩) (N-kk) (cap-kk),.slice (some ⟨g,off+n,none⟩) mm (cap-n)] ((w.drewN q).drewN r) (Rt (.int .i64 ((cm:Nat):Int)) ((w.drewN q).drewN r))):=qz fun q r=>by rw [hkk,hcm];exact (uh HE).comm q r 0 (by omega) hs
     obtain ⟨hn,hc,hN⟩:=uh HNN
     have hK:n-1-f0<n:=by omega
     obtain ⟨n1,hn1⟩:∃n1,n1=n-1:=⟨_,rfl⟩
     have g1:wrap64 ((n:Int)-1)=(n1:Int):=by rw [w64 (by omega) (by omega)];omega
     have g2:wrap64 ((n1:Int)-(f0:Int))=(kk:Int):=by rw [w64 (by omega) (by omega)];omega
     have j0:IntKind.i64.wrap (f0:Int)=(f0:Int):=wi64 (by omega) (by omega)
     have j1:=(iw _).trans g1
     have j2:=(iw _).trans g2
     have g3:¬cap=kk:=by omega
     have g4:(kk:Int)≤(N:Int):=by omega
     have g5:kk≤N:=by omega
     clear hn hc hN hs hK hkk hn1
     go_wp2_with fail
     refine (uh HS).mono ?_
     rintro e w2 ⟨rfl,q2,rfl⟩
     rw [World.drewN_drewN]
     have HCM2:=qz (uh HCM (q+q2))
     have k10:(w.drewN (q+q2)).cell? ⟨b,10,none⟩=_:=h10
     have k13:(w.drewN (q+q2)).cell? ⟨b,13,none⟩=_:=h13
     have HEQ:Hid (∃q',w.drewN (q+q2)=w.drewN q'):=qz ⟨_,rfl⟩
     generalize w.drewN (q+q2)=w9 at *
     clear HS HCM
     go_wp2_with fail
     go_quiet (first|(go_at_call 108;refine Calls.quiet_of (uh HCM2 _)))
     by_cases hlt:R2<cm
     ·
      have t9:(R2:Int)<(cm:Int):=by omega
      have HN1:=qz ((uh HNX).1 hlt)
      clear HNX hlt hcm
      go_wp2_with fail
      go_roundg k
      case rel =>
       obtain ⟨q',hq'⟩:=uh HEQ
       exact ⟨0+1,q'+nq,by omega,rfl,by rw [uh HN1];rfl,by rw [uh HN1],by rw [hq',World.drewN_drewN]⟩
      case measure=>omega
     ·
      have t9:¬ (R2:Int)<(cm:Int):=by omega
      have HN1:=qz ((uh HNX).2 hlt)
      clear HNX hlt hcm
      go_wp2_with fail
      go_roundg k
      case rel =>
       obtain ⟨q',hq'⟩:=uh HEQ
       exact ⟨0+1,q'+nq,by omega,rfl,by rw [uh HN1],by rw [uh HN1],by rw [hq',World.drewN_drewN]⟩
      case measure=>omega
    ·rw [decide_eq_false hs] at HS
     have hz:=(uh HE).none 0 (by omega) hs
     have HN1:=qz ((uh HNX).2 (by omega))
     clear HNX hz hs hcm
     go_wp2_with fail
     refine (uh HS).mono ?_
     rintro e w2 ⟨rfl,q2,rfl⟩
     go_wp2_with fail
     go_roundg k
     case rel=>exact ⟨0+1,q+q2,by omega,rfl,by rw [uh HN1],by rw [uh HN1],by first|rfl|exact World.drewN_drewN _ _ _⟩
     case measure=>omega
   ·have hix:=y4s (f0:Int) (f1:Int) (f2:Int) (f3:Int) (w.drewN q)
    have HS:Hid (Calls Tryz.prog 61 #[.pointer (some ⟨b,0,none⟩),.int .u32 (f1:Int)] (w.drewN q) (Rt (.bool (decide (f1<min n W))) (w.drewN q))):=HS
    obtain ⟨cm,hcm⟩:∃cm,cm=com 1:=⟨_,rfl⟩
    obtain ⟨R1,hR1⟩:∃R1,R1=(farR com 1).1:=⟨_,rfl⟩
    obtain ⟨R2,hR2⟩:∃R2,R2=(farR com 1).2:=⟨_,rfl⟩
    have HNX:Hid ((R2<cm→farR com (1+1)=(1,cm))∧(¬R2<cm→farR com (1+1)=(R1,R2))):=qz ⟨fun h=>by rw [hcm];rw [farR,if_pos (by rw [←hR2,←hcm];exact h)],fun h=>by rw [farR,if_neg (by rw [←hR2,←hcm];exact h),hR1,hR2]⟩
    rw [←hR1,←hR2]
    clear hR hR1 hR2 hi4
    by_cases hs:f1<min n W
    ·rw [decide_eq_true hs] at HS
     obtain ⟨kk,hkk⟩:∃kk,kk=n-1-f1:=⟨_,rfl⟩
     have HCM:Hid (∀q r,Calls Tryz.prog 108 #[.slice (some ⟨g,off+kk,none⟩) (N-kk) (cap-kk),.slice (some ⟨g,off+n,none⟩) mm (cap-n)] ((w.drewN q).drewN r) (Rt (.int .i64 ((cm:Nat):Int)) ((w.drewN q).drewN r))):=qz fun q r=>by rw [hkk,hcm];exact (uh HE).comm q r 1 (by omega) hs
     obtain ⟨hn,hc,hN⟩:=uh HNN
     have hK:n-1-f1<n:=by omega
     obtain ⟨n1,hn1⟩:∃n1,n1=n-1:=⟨_,rfl⟩
     have g1:wrap64 ((n:Int)-1)=(n1:Int):=by rw [w64 (by omega) (by omega)];omega
     have g2:wrap64 ((n1:Int)-(f1:Int))=(kk:Int):=by rw [w64 (by omega) (by omega)];omega
     have j0:IntKind.i64.wrap (f1:Int)=(f1:Int):=wi64 (by omega) (by omega)
     have j1:=(iw _).trans g1
     have j2:=(iw _).trans g2
     have g3:¬cap=kk:=by omega
     have g4:(kk:Int)≤(N:Int):=by omega
     have g5:kk≤N:=by omega
     clear hn hc hN hs hK hkk hn1
     go_wp2_with fail
     refine (uh HS).mono ?_
     rintro e w2 ⟨rfl,q2,rfl⟩
     rw [World.drewN_drewN]
     have HCM2:=qz (uh HCM (q+q2))
     have k10:(w.drewN (q+q2)).cell? ⟨b,10,none⟩=_:=h10
     have k13:(w.drewN (q+q2)).cell? ⟨b,13,none⟩=_:=h13
     have HEQ:Hid (∃q',w.drewN (q+q2)=w.drewN q'):=qz ⟨_,rfl⟩
     generalize w.drewN (q+q2)=w9 at *
     clear HS HCM
     go_wp2_with fail
     go_quiet (first|(go_at_call 108;refine Calls.quiet_of (uh HCM2 _)))
     by_cases hlt:R2<cm
     ·
      have t9:(R2:Int)<(cm:Int):=by omega
      have HN1:=qz ((uh HNX).1 hlt)
      clear HNX hlt hcm
      go_wp2_with fail
      go_roundg k
      case rel =>
       obtain ⟨q',hq'⟩:=uh HEQ
       exact ⟨1+1,q'+nq,by omega,rfl,by rw [uh HN1];rfl,by rw [uh HN1],by rw [hq',World.drewN_drewN]⟩
      case measure=>omega
     ·
      have t9:¬ (R2:Int)<(cm:Int):=by omega
      have HN1:=qz ((uh HNX).2 hlt)
      clear HNX hlt hcm
      go_wp2_with fail
      go_roundg k
      case rel =>
       obtain ⟨q',hq'⟩:=uh HEQ
       exact ⟨1+1,q'+nq,by omega,rfl,by rw [uh HN1],by rw [uh HN1],by rw [hq',World.drewN_drewN]⟩
      case measure=>omega
    ·rw [decide_eq_false hs] at HS
     have hz:=(uh HE).none 1 (by omega) hs
     have HN1:=qz ((uh HNX).2 (by omega))
     clear HNX hz hs hcm
     go_wp2_with fail
     refine (uh HS).mono ?_
     rintro e w2 ⟨rfl,q2,rfl⟩
     go_wp2_with fail
     go_roundg k
     case rel=>exact ⟨1+1,q+q2,by omega,rfl,by rw [uh HN1],by rw [uh HN1],by first|rfl|exact World.drewN_drewN _ _ _⟩
     case measure=>omega
   ·have hix:=y4t (f0:Int) (f1:Int) (f2:Int) (f3:Int) (w.drewN q)
    have HS:Hid (Calls Tryz.prog 61 #[.pointer (some ⟨b,0,none⟩),.int .u32 (f2:Int)] (w.drewN q) (Rt (.bool (decide (f2<min n W))) (w.drewN q))):=HS
    obtain ⟨cm,hcm⟩:∃cm,cm=com 2:=⟨_,rfl⟩
    obtain ⟨R1,hR1⟩:∃R1,R1=(farR com 2).1:=⟨_,rfl⟩
    obtain ⟨R2,hR2⟩:∃R2,R2=(farR com 2).2:=⟨_,rfl⟩
    have HNX:Hid ((R2<cm→farR com (2+1)=(2,cm))∧(¬R2<cm→farR com (2+1)=(R1,R2))):=qz ⟨fun h=>by rw [hcm];rw [farR,if_pos (by rw [←hR2,←hcm];exact h)],fun h=>by rw [farR,if_neg (by rw [←hR2,←hcm];exact h),hR1,hR2]⟩
    rw [←hR1,←hR2]
    clear hR hR1 hR2 hi4
    by_cases hs:f2<min n W
    ·rw [decide_eq_true hs] at HS
     obtain ⟨kk,hkk⟩:∃kk,kk=n-1-f2:=⟨_,rfl⟩
     have HCM:Hid (∀q r,Calls Tryz.prog 108 #[.slice (some ⟨g,off+kk,none⟩) (N-kk) (cap-kk),.slice (some ⟨g,off+n,none⟩) mm (cap-n)] ((w.drewN q).drewN r) (Rt (.int .i64 ((cm:Nat):Int)) ((w.drewN q).drewN r))):=qz fun q r=>by rw [hkk,hcm];exact (uh HE).comm q r 2 (by omega) hs
     obtain ⟨hn,hc,hN⟩:=uh HNN
     have hK:n-1-f2<n:=by omega
     obtain ⟨n1,hn1⟩:∃n1,n1=n-1:=⟨_,rfl⟩
     have g1:wrap64 ((n:Int)-1)=(n1:Int):=by rw [w64 (by omega) (by omega)];omega
     have g2:wrap64 ((n1:Int)-(f2:Int))=(kk:Int):=by rw [w64 (by omega) (by omega)];omega
     have j0:IntKind.i64.wrap (f2:Int)=(f2:Int):=wi64 (by omega) (by omega)
     have j1:=(iw _).trans g1
     have j2:=(iw _).trans g2
     have g3:¬cap=kk:=by omega
     have g4:(kk:Int)≤(N:Int):=by omega
     have g5:kk≤N:=by omega
     clear hn hc hN hs hK hkk hn1
     go_wp2_with fail
     refine (uh HS).mono ?_
     rintro e w2 ⟨rfl,q2,rfl⟩
     rw [World.drewN_drewN]
     have HCM2:=qz (uh HCM (q+q2))
     have k10:(w.drewN (q+q2)).cell? ⟨b,10,none⟩=_:=h10
     have k13:(w.drewN (q+q2)).cell? ⟨b,13,none⟩=_:=h13
     have HEQ:Hid (∃q',w.drewN (q+q2)=w.drewN q'):=qz ⟨_,rfl⟩
     generalize w.drewN (q+q2)=w9 at *
     clear HS HCM
     go_wp2_with fail
     go_quiet (first|(go_at_call 108;refine Calls.quiet_of (uh HCM2 _)))
     by_cases hlt:R2<cm
     ·
      have t9:(R2:Int)<(cm:Int):=by omega
      have HN1:=qz ((uh HNX).1 hlt)
      clear HNX hlt hcm
      go_wp2_with fail
      go_roundg k
      case rel =>
       obtain ⟨q',hq'⟩:=uh HEQ
       exact ⟨2+1,q'+nq,by omega,rfl,by rw [uh HN1];rfl,by rw [uh HN1],by rw [hq',World.drewN_drewN]⟩
      case measure=>omega
     ·
      have t9:¬ (R2:Int)<(cm:Int):=by omega
      have HN1:=qz ((uh HNX).2 hlt)
      clear HNX hlt hcm
      go_wp2_with fail
      go_roundg k
      case rel =>
       obtain ⟨q',hq'⟩:=uh HEQ
       exact ⟨2+1,q'+nq,by omega,rfl,by rw [uh HN1],by rw [uh HN1],by rw [hq',World.drewN_drewN]⟩
      case measure=>omega
    ·rw [decide_eq_false hs] at HS
     have hz:=(uh HE).none 2 (by omega) hs
     have HN1:=qz ((uh HNX).2 (by omega))
     clear HNX hz hs hcm
     go_wp2_with fail
     refine (uh HS).mono ?_
     rintro e w2 ⟨rfl,q2,rfl⟩
     go_wp2_with fail
     go_roundg k
     case rel=>exact ⟨2+1,q+q2,by omega,rfl,by rw [uh HN1],by rw [uh HN1],by first|rfl|exact World.drewN_drewN _ _ _⟩
     case measure=>omega
   ·have hix:=y4u (f0:Int) (f1:Int) (f2:Int) (f3:Int) (w.drewN q)
    have HS:Hid (Calls Tryz.prog 61 #[.pointer (some ⟨b,0,none⟩),.int .u32 (f3:Int)] (w.drewN q) (Rt (.bool (decide (f3<min n W))) (w.drewN q))):=HS
    obtain ⟨cm,hcm⟩:∃cm,cm=com 3:=⟨_,rfl⟩
    obtain ⟨R1,hR1⟩:∃R1,R1=(farR com 3).1:=⟨_,rfl⟩
    obtain ⟨R2,hR2⟩:∃R2,R2=(farR com 3).2:=⟨_,rfl⟩
    have HNX:Hid ((R2<cm→farR com (3+1)=(3,cm))∧(¬R2<cm→farR com (3+1)=(R1,R2))):=qz ⟨fun h=>by rw [hcm];rw [farR,if_pos (by rw [←hR2,←hcm];exact h)],fun h=>by rw [farR,if_neg (by rw [←hR2,←hcm];exact h),hR1,hR2]⟩
    rw [←hR1,←hR2]
    clear hR hR1 hR2 hi4
    by_cases hs:f3<min n W
    ·rw [decide_eq_true hs] at HS
     obtain ⟨kk,hkk⟩:∃kk,kk=n-1-f3:=⟨_,rfl⟩
     have HCM:Hid (∀q r,Calls Tryz.prog 108 #[.slice (some ⟨g,off+kk,none⟩) (N-kk) (cap-kk),.slice (some ⟨g,off+n,none⟩) mm (cap-n)] ((w.drewN q).drewN r) (Rt (.int .i64 ((cm:Nat):Int)) ((w.drewN q).drewN r))):=qz fun q r=>by rw [hkk,hcm];exact (uh HE).comm q r 3 (by omega) hs
     obtain ⟨hn,hc,hN⟩:=uh HNN
     have hK:n-1-f3<n:=by omega
     obtain ⟨n1,hn1⟩:∃n1,n1=n-1:=⟨_,rfl⟩
     have g1:wrap64 ((n:Int)-1)=(n1:Int):=by rw [w64 (by omega) (by omega)];omega
     have g2:wrap64 ((n1:Int)-(f3:Int))=(kk:Int):=by rw [w64 (by omega) (by omega)];omega
     have j0:IntKind.i64.wrap (f3:Int)=(f3:Int):=wi64 (by omega) (by omega)
     have j1:=(iw _).trans g1
     have j2:=(iw _).trans g2
     have g3:¬cap=kk:=by omega
     have g4:(kk:Int)≤(N:Int):=by omega
     have g5:kk≤N:=by omega
     clear hn hc hN hs hK hkk hn1
     go_wp2_with fail
     refine (uh HS).mono ?_
     rintro e w2 ⟨rfl,q2,rfl⟩
     rw [World.drewN_drewN]
     have HCM2:=qz (uh HCM (q+q2))
     have k10:(w.drewN (q+q2)).cell? ⟨b,10,none⟩=_:=h10
     have k13:(w.drewN (q+q2)).cell? ⟨b,13,none⟩=_:=h13
     have HEQ:Hid (∃q',w.drewN (q+q2)=w.drewN q'):=qz ⟨_,rfl⟩
     generalize w.drewN (q+q2)=w9 at *
     clear HS HCM
     go_wp2_with fail
     go_quiet (first|(go_at_call 108;refine Calls.quiet_of (uh HCM2 _)))
     by_cases hlt:R2<cm
     ·
      have t9:(R2:Int)<(cm:Int):=by omega
      have HN1:=qz ((uh HNX).1 hlt)
      clear HNX hlt hcm
      go_wp2_with fail
      go_roundg k
      case rel =>
       obtain ⟨q',hq'⟩:=uh HEQ
       exact ⟨3+1,q'+nq,by omega,rfl,by rw [uh HN1];rfl,by rw [uh HN1],by rw [hq',World.drewN_drewN]⟩
      case measure=>omega
     ·
      have t9:¬ (R2:Int)<(cm:Int):=by omega
      have HN1:=qz ((uh HNX).2 hlt)
      clear HNX hlt hcm
      go_wp2_with fail
      go_roundg k
      case rel =>
       obtain ⟨q',hq'⟩:=uh HEQ
       exact ⟨3+1,q'+nq,by omega,rfl,by rw [uh HN1],by rw [uh HN1],by rw [hq',World.drewN_drewN]⟩
      case measure=>omega
    ·rw [decide_eq_false hs] at HS
     have hz:=(uh HE).none 3 (by omega) hs
     have HN1:=qz ((uh HNX).2 (by omega))
     clear HNX hz hs hcm
     go_wp2_with fail
     refine (uh HS).mono ?_
     rintro e w2 ⟨rfl,q2,rfl⟩
     go_wp2_with fail
     go_roundg k
     case rel=>exact ⟨3+1,q+q2,by omega,rfl,by rw [uh HN1],by rw [uh HN1],by first|rfl|exact World.drewN_drewN _ _ _⟩
     case measure=>omega
end D
namespace D
open Go.RowKit Rang
attribute [local go_sem ↓] wp_at_zero wp_at_succ
theorem y2c (V c u:Nat) (hV:V*256+256≤18446744073709551616) (hc:c<256) (hu:u=V*256+c):bits .or .u64 (IntKind.u64.wrap ((V:Int)*256)) (c:Int)=(u:Int):=by
 rw [IntKind.wrap_u64,show ((V:Int)*256)%18446744073709551616=(V:Int)*256 by omega]
 exact T6.y2y V c u hV hc hu
theorem z9j (g off len cap:Nat) (ys:List Nat) (w:World) (hy:ys.length=8) (h8:8≤len) (hc:len≤cap) (hcell:∀j,j<8→w.cell? ⟨g,off+j,none⟩=some (.int .u8 ((ys.getD j 0:Nat):Int))) (hb:∀z∈ys,z<256) :
  Calls Tryz.prog 186 #[.slice (some ⟨g,off,none⟩) len cap] w fun e w'=>e=.returned (.int .u64 (T6.keyOf ys:Int))∧w'=w:=by
 have HC:=qz hcell
 have HB:=qz hb
 have HY:=qz hy
 have t1:¬ (len:Int)<8:=by omega
 have t2:(8:Int)≤(cap:Int):=by omega
 have t3:8≤cap:=by omega
 obtain ⟨K,hK⟩:∃K,K=T6.keyOf ys:=⟨_,rfl⟩
 rw [←hK]
 have HK:=qz hK
 clear hcell hb hy h8 hc hK
 go_enter Tryz.func186,Tryz.ntmps186
 go_wp2_with fail
 go_loopg [4,17] 8 (fun gk v d ws=>∃ (k V:Nat),gk=8-k∧k≤8∧Hid (V=T6.keyOf (ys.take k))∧v=.int .u64 (V:Int)∧d=.int .i64 (k:Int)∧ws=w)
 case atStart=>exact ⟨0,0,by omega,by omega,qz (by simp [T6.keyOf]),rfl,rfl,rfl⟩
 case round =>
  obtain ⟨k,V,rfl,hk,HV,rfl,rfl,rfl⟩:=hrel
  by_cases hlt:k<8
  ·have hki:(k:Int)<8:=by omega
   have k1:=uh HC k hlt
   obtain ⟨x,hx⟩:∃x,x=ys.getD k 0:=⟨_,rfl⟩
   rw [←hx] at k1
   have hx256:x<256:=by
    rw [hx]
    exact uh HB _ (by
     rw [List.getD_eq_getElem?_getD,List.getElem?_eq_getElem (by rw [uh HY];exact hlt)]
     exact List.getElem_mem _)
   have hV:V*256+256≤18446744073709551616:=by
    have h3:V<256^k:=by
     rw [uh HV]
     exact T6.z2y k _ (by rw [List.length_take,uh HY];omega) (fun c hc=>uh HB c (List.mem_of_mem_take hc))
    have h4:256^k≤256^7:=Nat.pow_le_pow_right (by decide) (by omega)
    have h5:256^7=72057594037927936:=by decide
    omega
   have HV':Hid (V*256+x=T6.keyOf (ys.take (k+1))):=qz (by rw [T6.z3u ys k (by rw [uh HY];exact hlt),uh HV,hx])
   obtain ⟨V',hV'⟩:∃V',V'=V*256+x:=⟨_,rfl⟩
   rw [←hV'] at HV'
   have hor:=y2c V x V' hV hx256 hV'
   have hwx:IntKind.u64.wrap (x:Int)=(x:Int):=by rw [IntKind.wrap_u64];omega
   have hwV:IntKind.u64.wrap ((V:Int)*256)=(V:Int)*256:=by rw [IntKind.wrap_u64];omega
   have hor2:=T6.y2y V x V' hV hx256 hV'
   have f1:wrap64 ((k:Int)+1)=((k+1:Nat):Int):=by rw [w64 (by omega) (by omega)];omega
   clear HV hx hV' hV hor2 hwV
   go_wp2_with fail
   go_roundg (8-(k+1))
   case measure=>omega
   case rel=>exact ⟨k+1,V',rfl,by omega,HV',rfl,by go_num,rfl⟩
  ·obtain rfl:k=8:=by omega
   have hVK:V=K:=by rw [uh HV,uh HK,List.take_of_length_le (by rw [uh HY];omega)]
   subst hVK
   go_wp2_with fail
   first
   | (go_ret;exact ⟨rfl,rfl⟩)
   | exact ⟨rfl,rfl⟩
end D
namespace D
open Go.RowKit Rang
attribute [local go_sem ↓] wp_at_zero wp_at_succ
theorem y4d:(Tryz.prog.info? 5).map (·.size)=some 1:=by kernel_rfl
def pad8 (xs:List Nat):List Nat:=(xs++List.replicate 8 0).take 8
theorem z6w (xs:List Nat):(pad8 xs).length=8:=by unfold pad8;simp
theorem z7y (xs:List Nat) (h:xs.length≤8):splice (List.replicate 8 (Value.int .u8 0)) 0 (xs.map bv)=(pad8 xs).map bv:=by
 have e1:(pad8 xs).map bv=xs.map bv++List.replicate (8-xs.length) (Value.int .u8 0):=by
  unfold pad8
  rw [List.take_append,List.take_of_length_le h,List.take_replicate,List.map_append,List.map_replicate,show min (8-xs.length) 8=8-xs.length by omega]
  rfl
 rw [e1]
 unfold splice
 rw [List.drop_replicate,List.length_map,show 8-(0+xs.length)=8-xs.length by omega]
 simp
theorem z7r (a:Option Addr) (cap:Nat) (xs:List Nat) (w:World) (h8:xs.length<8) (hc:xs.length≤cap) (hsrc:0<xs.length→∃ad,a=some ad∧∀j v,(xs.map bv)[j]?=some v→w.cell? (ad.add j)=some v) (hb0:∀z∈xs,z<256) :
  Calls Tryz.prog 186 #[.slice a xs.length cap] w fun e w'=>e=.returned (.int .u64 (T6.keyOf (pad8 xs):Int))∧Below w.heap.size w w':=by
 obtain ⟨ys,hys⟩:∃ys,ys=pad8 xs:=⟨_,rfl⟩
 have hy:ys.length=8:=by rw [hys];exact z6w xs
 have hb:∀z∈ys,z<256:=by
  intro z hz
  rw [hys] at hz
  have:=List.mem_of_mem_take hz
  rw [List.mem_append,List.mem_replicate] at this
  rcases this with h|h
  ·exact hb0 z h
  ·omega
 have HSP:Hid (splice (List.replicate 8 (Value.int .u8 0)) 0 (xs.map bv)=ys.map bv):=qz (by rw [hys];exact z7y xs (by omega))
 rw [←hys]
 have HSRC:=qz hsrc
 have HB:=qz hb
 have HY:=qz hy
 have t1:(xs.length:Int)<8:=by omega
 have HL:Hid (xs.length<8):=qz h8
 obtain ⟨K,hK⟩:∃K,K=T6.keyOf ys:=⟨_,rfl⟩
 rw [←hK]
 have HK:=qz hK
 obtain ⟨w1,hw1⟩:∃w1,w1=w.alloc (.cells (List.replicate 8 (Value.int .u8 0)).toArray 193):=⟨_,rfl⟩
 have HB1:Hid (Below w.heap.size w w1):=qz (by rw [hw1];exact (Below.refl _ _).alloc (Nat.le_refl _) _)
 have HG:Hid (w1.heap[w.heap.size]?=some (.cells (List.replicate 8 (Value.int .u8 0)).toArray 193 (0,0))):=qz (by rw [hw1];exact heap_alloc_new _ _)
 have hw1':w1=w.alloc (.cells #[.int .u8 0,.int .u8 0,.int .u8 0,.int .u8 0,.int .u8 0,.int .u8 0,.int .u8 0,.int .u8 0] 193):=hw1
 have HSR1:Hid (0<xs.length→∃ad,a=some ad∧∀j v,(xs.map bv)[j]?=some v→w1.cell? (ad.add j)=some v):=qz fun h0=>by
  obtain ⟨ad,e,h⟩:=hsrc h0
  exact ⟨ad,e,fun j v hj=>by rw [(uh HB1).cell (z0i (h j v hj))];exact h j v hj⟩
 obtain ⟨bk,hbk⟩:∃bk,bk=w.heap.size:=⟨_,rfl⟩
 have HBK:=qz hbk
 clear hys hb hy hb0 hsrc hw1 hK hc h8 HSRC
 go_enter Tryz.func186,Tryz.ntmps186
 go_upto_region 3 with fail
 rw [←hw1',←hbk]
 rw [←hbk] at HG
 clear hw1' hbk
 go_wp2_with (refine wpList_copy_splice rfl (.tmp 10) (.tmp 11) 32 32 rfl 5 Tryz.underlying32 y4d _ _ _ _ _ _ (by rfl) (by rfl) bk 0 (List.replicate 8 (Value.int .u8 0)) 193 (uh HG) (xs.map bv) (by rw [List.length_map];exact (Nat.min_eq_left (by have:=uh HL;omega)).symm) (fun h0=>⟨rfl,uh HSR1 (by simpa using h0)⟩) (by have:=uh HL;rw [List.length_map,List.length_replicate];omega) (by intro v hv;obtain ⟨y,_,rfl⟩:=List.mem_map.1 hv;rfl) w.heap.size w (uh HB1) (by rw [uh HBK];exact Nat.le_refl _) ?_;intro w2 h2 hb2;have HC0:=qz h2;have HBB:=qz hb2;clear h2 hb2)
 have HC:Hid (∀j,j<8→w2.cell? ⟨bk,0+j,none⟩=some (.int .u8 ((ys.getD j 0:Nat):Int))):=qz fun j hj=>by
  have h:=uh (uh HC0)
  rw [uh HSP] at h
  simp only [World.cell?,h]
  have:=uh HY
  simp [bv,List.getD_eq_getElem?_getD,show j<ys.length by omega]
 have t2:(8:Int)≤8:=by omega
 clear HC0 HSR1 HG HB1
 go_loopg [4,17] 8 (fun gk v d ws=>∃ (k V:Nat),gk=8-k∧k≤8∧Hid (V=T6.keyOf (ys.take k))∧v=.int .u64 (V:Int)∧d=.int .i64 (k:Int)∧ws=w2)
 case atStart=>exact ⟨0,0,by omega,by omega,qz (by simp [T6.keyOf]),rfl,rfl,rfl⟩
 case round =>
  obtain ⟨k,V,rfl,hk,HV,rfl,rfl,rfl⟩:=hrel
  by_cases hlt:k<8
  ·have hki:(k:Int)<8:=by omega
   have k1:=by have h:=uh HC k hlt;rw [Nat.zero_add] at h;exact h
   obtain ⟨x,hx⟩:∃x,x=ys.getD k 0:=⟨_,rfl⟩
   rw [←hx] at k1
   have hx256:x<256:=by
    rw [hx]
    exact uh HB _ (by
     rw [List.getD_eq_getElem?_getD,List.getElem?_eq_getElem (by rw [uh HY];exact hlt)]
     exact List.getElem_mem _)
   have hV:V*256+256≤18446744073709551616:=by
    have h3:V<256^k:=by
     rw [uh HV]
     exact T6.z2y k _ (by rw [List.length_take,uh HY];omega) (fun c hc=>uh HB c (List.mem_of_mem_take hc))
    have h4:256^k≤256^7:=Nat.pow_le_pow_right (by decide) (by omega)
    have h5:256^7=72057594037927936:=by decide
    omega
   have HV':Hid (V*256+x=T6.keyOf (ys.take (k+1))):=qz (by rw [T6.z3u ys k (by rw [uh HY];exact hlt),uh HV,hx])
   obtain ⟨V',hV'⟩:∃V',V'=V*256+x:=⟨_,rfl⟩
   rw [←hV'] at HV'
   have hor:=y2c V x V' hV hx256 hV'
   have hwx:IntKind.u64.wrap (x:Int)=(x:Int):=by rw [IntKind.wrap_u64];omega
   have hwV:IntKind.u64.wrap ((V:Int)*256)=(V:Int)*256:=by rw [IntKind.wrap_u64];omega
   have hor2:=T6.y2y V x V' hV hx256 hV'
   have f1:wrap64 ((k:Int)+1)=((k+1:Nat):Int):=by rw [w64 (by omega) (by omega)];omega
   clear HV hx hV' hV hor2 hwV
   go_wp2_with fail
   go_roundg (8-(k+1))
   case measure=>omega
   case rel=>exact ⟨k+1,V',rfl,by omega,HV',rfl,by go_num,rfl⟩
  ·obtain rfl:k=8:=by omega
   have hVK:V=K:=by rw [uh HV,uh HK,List.take_of_length_le (by rw [uh HY];omega)]
   subst hVK
   go_wp2_with fail
   first
   | (go_ret;exact ⟨rfl,uh HBB⟩)
   | exact ⟨rfl,uh HBB⟩
def BAt (w:World) (g off:Nat) (zs:List Nat):Prop:=∀j,j<zs.length→w.cell? ⟨g,off+j,none⟩=some (.int .u8 ((zs.getD j 0:Nat):Int))
theorem BAt.below {w w':World} {g off:Nat} {zs:List Nat} (h:BAt w g off zs) (hb:Below w.heap.size w w'):BAt w' g off zs:=fun j hj=>by rw [hb.cell (z0i (h j hj))];exact h j hj
theorem BAt.drop {w:World} {g off:Nat} {zs:List Nat} (h:BAt w g off zs) (k:Nat):BAt w g (off+k) (zs.drop k):=fun j hj=>by
 rw [List.length_drop] at hj
 have:=h (k+j) (by omega)
 rw [Nat.add_assoc,this]
 simp [List.getD_eq_getElem?_getD,List.getElem?_drop]
theorem z9k (a:Option Addr) (cap:Nat) (xs:List Nat) (w:World) (hc:xs.length≤cap) (hsrc:0<xs.length→∃g off,a=some ⟨g,off,none⟩∧BAt w g off xs) (hb:∀z∈xs,z<256) :
  Calls Tryz.prog 186 #[.slice a xs.length cap] w fun e w'=>e=.returned (.int .u64 (T6.keyOf (pad8 xs):Int))∧Below w.heap.size w w':=by
 by_cases h8:xs.length<8
 ·refine z7r a cap xs w h8 hc (fun h0=>?_) hb
  obtain ⟨g,off,rfl,h⟩:=hsrc h0
  refine ⟨_,rfl,fun j v hj=>?_⟩
  have hj2:j<xs.length:=by
   have:=(List.getElem?_eq_some_iff.1 hj).1
   simpa using this
  rw [Addr.add_lit,h j hj2,←hj]
  simp [bv,List.getD_eq_getElem?_getD,hj2]
 ·obtain ⟨g,off,rfl,h⟩:=hsrc (by omega)
  have e:pad8 xs=xs.take 8:=by unfold pad8;rw [List.take_append_of_le_length (by omega)]
  rw [e]
  refine (z9j g off xs.length cap (xs.take 8) w (by simp;omega) (by omega) hc (fun j hj=>?_) (fun z hz=>hb z (List.mem_of_mem_take hz))).mono ?_
  ·rw [h j (by omega)]
   simp [List.getD_eq_getElem?_getD,hj]
  ·rintro e w' ⟨rfl,rfl⟩
   exact ⟨rfl,Below.refl _ _⟩
end D
namespace D
open Go.RowKit Rang
attribute [local go_sem ↓] wp_at_zero wp_at_succ
def z1z (zs:List Nat) (k:Nat):Nat:=T6.keyOf (pad8 (zs.drop k))
theorem z9a (xb g off N cap p:Nat) (zs:List Nat) (w:World) (h0:w.cell? ⟨xb,0,none⟩=some (.slice (some ⟨g,off,none⟩) N cap)) (hz:zs.length=N) (hc:N≤cap) (hp:p<N) (hN:N≤1099511627776) (hb:∀z∈zs,z<256) (hA:BAt w g off zs) :
  Calls Tryz.prog 164 #[.pointer (some ⟨xb,0,none⟩),.int .i64 (p:Int)] w fun e w'=>e=.returned (.tuple #[.int .u64 (z1z zs p:Int),.int .u64 (z1z zs (min N (p+8)):Int)])∧Below w.heap.size w w':=by
 obtain ⟨q,hq⟩:∃q,q=min N (p+8):=⟨_,rfl⟩
 rw [←hq]
 have HK1:Hid (∀x,Below w.heap.size w x→Calls Tryz.prog 186 #[.slice (some ⟨g,off+p,none⟩) (N-p) (cap-p)] x fun e w'=>e=.returned (.int .u64 (z1z zs p:Int))∧Below x.heap.size x w'):=qz fun x hx=>by
  have:=z9k (some ⟨g,off+p,none⟩) (cap-p) (zs.drop p) x (by rw [List.length_drop];omega) (fun _=>⟨_,_,rfl,(hA.below hx).drop p⟩) (fun z hz'=>hb z (List.mem_of_mem_drop hz'))
  rw [List.length_drop,hz] at this
  exact this
 have hall:∀ (a:Option Addr) (c:Nat),N-q≤c→(0<N-q→a=some ⟨g,off+q,none⟩)→∀x,Below w.heap.size w x→Calls Tryz.prog 186 #[.slice a (N-q) c] x fun e w'=>e=.returned (.int .u64 (z1z zs q:Int))∧Below x.heap.size x w':=fun a c h1 h2 x hx=>by
  have:=z9k a c (zs.drop q) x (by rw [List.length_drop];omega) (fun h3=>⟨_,_,h2 (by rw [List.length_drop] at h3;omega),(hA.below hx).drop q⟩) (fun z hz'=>hb z (List.mem_of_mem_drop hz'))
  rw [List.length_drop,hz] at this
  exact this
 have HK2n:Hid (∀x,Below w.heap.size w x→Calls Tryz.prog 186 #[.slice (some ⟨g,off+q,none⟩) (N-q) (cap-q)] x fun e w'=>e=.returned (.int .u64 (z1z zs q:Int))∧Below x.heap.size x w'):=qz (hall _ _ (by omega) fun _=>rfl)
 have HK2e:Hid (cap=q→∀x,Below w.heap.size w x→Calls Tryz.prog 186 #[.slice (some ⟨g,off,none⟩) (N-q) (cap-q)] x fun e w'=>e=.returned (.int .u64 (z1z zs q:Int))∧Below x.heap.size x w'):=qz fun he=>hall _ _ (by omega) fun h=>by omega
 obtain ⟨K1,hK1⟩:∃K1,K1=z1z zs p:=⟨_,rfl⟩
 obtain ⟨K2,hK2⟩:∃K2,K2=z1z zs q:=⟨_,rfl⟩
 rw [←hK1] at HK1
 rw [←hK2] at HK2n HK2e
 rw [←hK1,←hK2]
 have HF:Hid (∀x,Below w.heap.size w x→(fun (e:Ending) (w':World)=>e=.returned (.tuple #[.int .u64 (K1:Int),.int .u64 (K2:Int)])∧Below w.heap.size w w') (.returned (.tuple #[.int .u64 (K1:Int),.int .u64 (K2:Int)])) x):=qz fun x hx=>⟨rfl,hx⟩
 generalize (fun (e:Ending) (w':World)=>e=.returned (.tuple #[.int .u64 (K1:Int),.int .u64 (K2:Int)])∧Below w.heap.size w w')=POST at HF ⊢
 have t1:¬cap=p:=by omega
 have t2:(p:Int)≤(N:Int):=by omega
 have t3:p≤N:=by omega
 have m1:min (N:Int) ((p+8:Nat):Int)=(q:Int):=by omega
 have m2:min (N:Int) ((p:Int)+8)=(q:Int):=by omega
 have t4:(q:Int)≤(N:Int):=by omega
 have t5:q≤N:=by omega
 have f1:wrap64 ((p:Int)+8)=((p+8:Nat):Int):=by rw [w64 (by omega) (by omega)];omega
 have i1:=(iw _).trans f1
 clear hz hc hp hN hb hA hall hq hK1 hK2
 by_cases heq:cap=q
 ·subst heq
  have HK2f:Hid (∀x,Below w.heap.size w x→Calls Tryz.prog 186 #[.slice (some ⟨g,off,none⟩) (N-cap) 0] x fun e w'=>e=.returned (.int .u64 (K2:Int))∧Below x.heap.size x w'):=qz fun x hx=>by have h:=uh HK2e rfl x hx;rwa [Nat.sub_self] at h
  clear HK2e HK2n
  go_enter Tryz.func164,Tryz.ntmps164
  go_wp2_with fail
  refine wp_region_noPanic ?_
  refine wp_region_held_drew (S:=fun x=>x.cell? ⟨xb,0,none⟩=some (.slice (some ⟨g,off,none⟩) N cap)) (by kernel_rfl) (show w.drew.cell? _=_ from h0) (fun hHeld=>?_)
  show wpAnyH _ _ _ _ _ _ _ _ w.drew
  have HB0:Hid (Below w.heap.size w w.drew):=qz ⟨rfl,rfl,rfl,Nat.le_refl _,fun _ _=>rfl⟩
  generalize w.drew=x1 at HB0 hHeld ⊢
  refine hT 0 6 rfl rfl hHeld nPp (v:=?_) (fun x hSx=>?_) ?_
  rotate_left 1
  ·(obtain s0:=hSx;go_simp<;>with_reducible rfl)
  simp only [sA,sB]
  refine hT 1 7 rfl rfl hHeld nPp (v:=?_) (fun x hSx=>?_) ?_
  rotate_left 1
  ·(obtain s0:=hSx;go_simp<;>with_reducible rfl)
  simp only [sA,sB]
  refine hT 2 8 rfl rfl hHeld nPp (v:=?_) (fun x hSx=>?_) ?_
  rotate_left 1
  ·(obtain s0:=hSx;go_simp<;>with_reducible rfl)
  simp only [sA,sB]
  refine hT 3 9 rfl rfl hHeld nPp (v:=?_) (fun x hSx=>?_) ?_
  rotate_left 1
  ·(obtain s0:=hSx;go_simp<;>with_reducible rfl)
  simp only [sA,sB]
  refine hT 4 10 rfl rfl hHeld nPp (v:=?_) (fun x hSx=>?_) ?_
  rotate_left 1
  ·(obtain s0:=hSx;go_simp<;>with_reducible rfl)
  simp only [sA,sB]
  refine hT 5 11 rfl rfl hHeld nPp (v:=?_) (fun x hSx=>?_) ?_
  rotate_left 1
  ·(obtain s0:=hSx;go_simp<;>with_reducible rfl)
  simp only [sA,sB]
  refine hT 7 13 rfl rfl hHeld nPp (v:=?_) (fun x hSx=>?_) ?_
  rotate_left 1
  ·(obtain s0:=hSx;go_simp<;>with_reducible rfl)
  simp only [sA,sB]
  refine hT 8 14 rfl rfl hHeld nPp (v:=?_) (fun x hSx=>?_) ?_
  rotate_left 1
  ·(obtain s0:=hSx;go_simp<;>with_reducible rfl)
  simp only [sA,sB]
  refine hT 9 15 rfl rfl hHeld nPp (v:=?_) (fun x hSx=>?_) ?_
  rotate_left 1
  ·(obtain s0:=hSx;go_simp<;>with_reducible rfl)
  simp only [sA,sB]
  refine hT 10 16 rfl rfl hHeld nPp (v:=?_) (fun x hSx=>?_) ?_
  rotate_left 1
  ·(obtain s0:=hSx;go_simp<;>with_reducible rfl)
  simp only [sA,sB]
  refine hT 11 17 rfl rfl hHeld nPp (v:=?_) (fun x hSx=>?_) ?_
  rotate_left 1
  ·(obtain s0:=hSx;go_simp<;>with_reducible rfl)
  simp only [sA,sB]
  refine hT 12 18 rfl rfl hHeld nPp (v:=?_) (fun x hSx=>?_) ?_
  rotate_left 1
  ·(obtain s0:=hSx;go_simp<;>with_reducible rfl)
  simp only [sA,sB]
  refine hT 13 19 rfl rfl hHeld nPp (v:=?_) (fun x hSx=>?_) ?_
  rotate_left 1
  ·(obtain s0:=hSx;go_simp<;>with_reducible rfl)
  simp only [sA,sB]
  refine hT 14 20 rfl rfl hHeld nPp (v:=?_) (fun x hSx=>?_) ?_
  rotate_left 1
  ·(obtain s0:=hSx;go_simp<;>with_reducible rfl)
  simp only [sA,sB]
  refine hT 15 21 rfl rfl hHeld nPp (v:=?_) (fun x hSx=>?_) ?_
  rotate_left 1
  ·(obtain s0:=hSx;go_simp<;>with_reducible rfl)
  simp only [sA,sB]
  refine hT 16 22 rfl rfl hHeld nPp (v:=?_) (fun x hSx=>?_) ?_
  rotate_left 1
  ·(obtain s0:=hSx;go_simp<;>with_reducible rfl)
  simp only [sA,sB]
  refine hT 17 23 rfl rfl hHeld nPp (v:=?_) (fun x hSx=>?_) ?_
  rotate_left 1
  ·(obtain s0:=hSx;go_simp<;>with_reducible rfl)
  simp only [sA,sB]
  refine hT 18 24 rfl rfl hHeld nPp (v:=?_) (fun x hSx=>?_) ?_
  rotate_left 1
  ·(obtain s0:=hSx;go_simp<;>with_reducible rfl)
  simp only [sA,sB]
  refine hT 19 25 rfl rfl hHeld nPp (v:=?_) (fun x hSx=>?_) ?_
  rotate_left 1
  ·(obtain s0:=hSx;go_simp<;>with_reducible rfl)
  simp only [sA,sB]
  refine z0a 6 12 (by kernel_rfl) rfl rfl (by rfl) (by go_simp<;>exact ⟨rfl,rfl⟩) ?_
  refine (uh HK1 _ (uh HB0)).mono ?_
  rintro e y0 ⟨rfl,hb⟩
  have HB1:=qz ((uh HB0).trans (hb.mono (uh HB0).size))
  have hHeld:y0.cell? ⟨xb,0,none⟩=some (.slice (some ⟨g,off,none⟩) N cap):=by rw [hb.cell (z0i hHeld)];exact hHeld
  clear hb
  refine ⟨_,rfl,hHeld,?_⟩
  simp only [sA,sB]
  refine z0a 20 26 (by kernel_rfl) rfl rfl (by rfl) (by go_simp<;>exact ⟨rfl,rfl⟩) ?_
  refine (uh HK2f _ (uh HB1)).mono ?_
  rintro e y1 ⟨rfl,hb⟩
  have HB2:=qz ((uh HB1).trans (hb.mono (uh HB1).size))
  have hHeld:y1.cell? ⟨xb,0,none⟩=some (.slice (some ⟨g,off,none⟩) N cap):=by rw [hb.cell (z0i hHeld)];exact hHeld
  clear hb
  refine ⟨_,rfl,hHeld,?_⟩
  simp only [sA,sB]
  refine hT 21 4 rfl rfl hHeld nPp (v:=?_) (fun x hSx=>?_) ?_
  rotate_left 1
  ·(obtain s0:=hSx;go_simp<;>with_reducible rfl)
  simp only [sA,sB]
  refine hT 22 5 rfl rfl hHeld nPp (v:=?_) (fun x hSx=>?_) ?_
  rotate_left 1
  ·(obtain s0:=hSx;go_simp<;>with_reducible rfl)
  simp only [sA,sB]
  refine dN ?_
  have HFF:=qz (uh HF _ (uh HB2))
  go_wp2_with fail
  first
  | exact uh HFF
  | (go_returns;exact uh HFF)
 ·have tq:¬cap=q:=heq
  clear HK2e
  go_enter Tryz.func164,Tryz.ntmps164
  go_wp2_with fail
  refine wp_region_noPanic ?_
  refine wp_region_held_drew (S:=fun x=>x.cell? ⟨xb,0,none⟩=some (.slice (some ⟨g,off,none⟩) N cap)) (by kernel_rfl) (show w.drew.cell? _=_ from h0) (fun hHeld=>?_)
  show wpAnyH _ _ _ _ _ _ _ _ w.drew
  have HB0:Hid (Below w.heap.size w w.drew):=qz ⟨rfl,rfl,rfl,Nat.le_refl _,fun _ _=>rfl⟩
  generalize w.drew=x1 at HB0 hHeld ⊢
  refine hT 0 6 rfl rfl hHeld nPp (v:=?_) (fun x hSx=>?_) ?_
  rotate_left 1
  ·(obtain s0:=hSx;go_simp<;>with_reducible rfl)
  simp only [sA,sB]
  refine hT 1 7 rfl rfl hHeld nPp (v:=?_) (fun x hSx=>?_) ?_
  rotate_left 1
  ·(obtain s0:=hSx;go_simp<;>with_reducible rfl)
  simp only [sA,sB]
  refine hT 2 8 rfl rfl hHeld nPp (v:=?_) (fun x hSx=>?_) ?_
  rotate_left 1
  ·(obtain s0:=hSx;go_simp<;>with_reducible rfl)
  simp only [sA,sB]
  refine hT 3 9 rfl rfl hHeld nPp (v:=?_) (fun x hSx=>?_) ?_
  rotate_left 1
  ·(obtain s0:=hSx;go_simp<;>with_reducible rfl)
  simp only [sA,sB]
  refine hT 4 10 rfl rfl hHeld nPp (v:=?_) (fun x hSx=>?_) ?_
  rotate_left 1
  ·(obtain s0:=hSx;go_simp<;>with_reducible rfl)
  simp only [sA,sB]
  refine hT 5 11 rfl rfl hHeld nPp (v:=?_) (fun x hSx=>?_) ?_
  rotate_left 1
  ·(obtain s0:=hSx;go_simp<;>with_reducible rfl)
  simp only [sA,sB]
  refine hT 7 13 rfl rfl hHeld nPp (v:=?_) (fun x hSx=>?_) ?_
  rotate_left 1
  ·(obtain s0:=hSx;go_simp<;>with_reducible rfl)
  simp only [sA,sB]
  refine hT 8 14 rfl rfl hHeld nPp (v:=?_) (fun x hSx=>?_) ?_
  rotate_left 1
  ·(obtain s0:=hSx;go_simp<;>with_reducible rfl)
  simp only [sA,sB]
  refine hT 9 15 rfl rfl hHeld nPp (v:=?_) (fun x hSx=>?_) ?_
  rotate_left 1
  ·(obtain s0:=hSx;go_simp<;>with_reducible rfl)
  simp only [sA,sB]
  refine hT 10 16 rfl rfl hHeld nPp (v:=?_) (fun x hSx=>?_) ?_
  rotate_left 1
  ·(obtain s0:=hSx;go_simp<;>with_reducible rfl)
  simp only [sA,sB]
  refine hT 11 17 rfl rfl hHeld nPp (v:=?_) (fun x hSx=>?_) ?_
  rotate_left 1
  ·(obtain s0:=hSx;go_simp<;>with_reducible rfl)
  simp only [sA,sB]
  refine hT 12 18 rfl rfl hHeld nPp (v:=?_) (fun x hSx=>?_) ?_
  rotate_left 1
  ·(obtain s0:=hSx;go_simp<;>with_reducible rfl)
  simp only [sA,sB]
  refine hT 13 19 rfl rfl hHeld nPp (v:=?_) (fun x hSx=>?_) ?_
  rotate_left 1
  ·(obtain s0:=hSx;go_simp<;>with_reducible rfl)
  simp only [sA,sB]
  refine hT 14 20 rfl rfl hHeld nPp (v:=?_) (fun x hSx=>?_) ?_
  rotate_left 1
  ·(obtain s0:=hSx;go_simp<;>with_reducible rfl)
  simp only [sA,sB]
  refine hT 15 21 rfl rfl hHeld nPp (v:=?_) (fun x hSx=>?_) ?_
  rotate_left 1
  ·(obtain s0:=hSx;go_simp<;>with_reducible rfl)
  simp only [sA,sB]
  refine hT 16 22 rfl rfl hHeld nPp (v:=?_) (fun x hSx=>?_) ?_
  rotate_left 1
  ·(obtain s0:=hSx;go_simp<;>with_reducible rfl)
  simp only [sA,sB]
  refine hT 17 23 rfl rfl hHeld nPp (v:=?_) (fun x hSx=>?_) ?_
  rotate_left 1
  ·(obtain s0:=hSx;go_simp<;>with_reducible rfl)
  simp only [sA,sB]
  refine hT 18 24 rfl rfl hHeld nPp (v:=?_) (fun x hSx=>?_) ?_
  rotate_left 1
  ·(obtain s0:=hSx;go_simp<;>with_reducible rfl)
  simp only [sA,sB]
  refine hT 19 25 rfl rfl hHeld nPp (v:=?_) (fun x hSx=>?_) ?_
  rotate_left 1
  ·(obtain s0:=hSx;go_simp<;>with_reducible rfl)
  simp only [sA,sB]
  refine z0a 6 12 (by kernel_rfl) rfl rfl (by rfl) (by go_simp<;>exact ⟨rfl,rfl⟩) ?_
  refine (uh HK1 _ (uh HB0)).mono ?_
  rintro e y0 ⟨rfl,hb⟩
  have HB1:=qz ((uh HB0).trans (hb.mono (uh HB0).size))
  have hHeld:y0.cell? ⟨xb,0,none⟩=some (.slice (some ⟨g,off,none⟩) N cap):=by rw [hb.cell (z0i hHeld)];exact hHeld
  clear hb
  refine ⟨_,rfl,hHeld,?_⟩
  simp only [sA,sB]
  refine z0a 20 26 (by kernel_rfl) rfl rfl (by rfl) (by go_simp<;>exact ⟨rfl,rfl⟩) ?_
  refine (uh HK2n _ (uh HB1)).mono ?_
  rintro e y1 ⟨rfl,hb⟩
  have HB2:=qz ((uh HB1).trans (hb.mono (uh HB1).size))
  have hHeld:y1.cell? ⟨xb,0,none⟩=some (.slice (some ⟨g,off,none⟩) N cap):=by rw [hb.cell (z0i hHeld)];exact hHeld
  clear hb
  refine ⟨_,rfl,hHeld,?_⟩
  simp only [sA,sB]
  refine hT 21 4 rfl rfl hHeld nPp (v:=?_) (fun x hSx=>?_) ?_
  rotate_left 1
  ·(obtain s0:=hSx;go_simp<;>with_reducible rfl)
  simp only [sA,sB]
  refine hT 22 5 rfl rfl hHeld nPp (v:=?_) (fun x hSx=>?_) ?_
  rotate_left 1
  ·(obtain s0:=hSx;go_simp<;>with_reducible rfl)
  simp only [sA,sB]
  refine dN ?_
  have HFF:=qz (uh HF _ (uh HB2))
  go_wp2_with fail
  first
  | exact uh HFF
  | (go_returns;exact uh HFF)
end D
namespace D
open Go.RowKit Rang
attribute [local go_sem ↓] wp_at_zero wp_at_succ
theorem z0z {P:Program} {ops:Array Oper} {o:Oper} {a:Act} {w:World} {K:Act→World→Prop} {Q:Exit→Act→World→Prop} {E:Prop} (f:FuncId) (args:Array Value)
  (hgd:o.guard=none) (hrun:(execOp (Act.eval a) o).run P w=.ok (.enter f args) w)
  (h:Calls P f args w fun e w'=>∃v,e=.returned v∧K (a.put o.dst v) w'):if Region.wanted o (yielded ops a.tmps)=true then Oper.wp P o a w K Q else E:=by
 have hw:Region.wanted o (yielded ops a.tmps)=true:=by simp [Region.wanted,hgd]
 rw [if_pos hw]
 unfold Oper.wp
 rw [hrun,Oper.upon_enter]
 refine h.mono ?_
 rintro e w' ⟨v,rfl,h2⟩
 exact h2
theorem z4k (zs:List Nat) (hb:∀z∈zs,z<256) (k:Nat):z1z zs k<18446744073709551616:=by
 unfold z1z
 have h:=T6.z2y 8 (pad8 (zs.drop k)) (by rw [z6w]) (fun c hc=>by
  unfold pad8 at hc
  rcases List.mem_append.1 (List.mem_of_mem_take hc) with h|h
  ·exact hb c (List.mem_of_mem_drop h)
  ·rw [(List.mem_replicate.1 h).2];omega)
 have e:256^8=18446744073709551616:=by decide
 omega
theorem IxAt.monoM {w:World} {x:IxB} {tv:Value} {W c4 room N F:Nat} {M M':Nat→Nat} (h:IxAt w x tv W c4 room N F M) (hM:∀i,i<4→M i≤M' i):IxAt w x tv W c4 room N F M' :=
 ⟨h.cells,h.size,h.shift,h.last,h.before,fun i hi=>(h.ls i hi).mono (fun _ _=>hM i hi),h.bs,h.lbn,h.xn,h.ln,h.c4,h.room,h.small,h.fits⟩
theorem IxAt.c0 {w:World} {x:IxB} {tv:Value} {W c4 room N F:Nat} {M:Nat→Nat} (h:IxAt w x tv W c4 room N F M):w.cell? ⟨x.xb,0,none⟩=some tv:=by simp only [World.cell?,h.cells];rfl
theorem IxAt.c1 {w:World} {x:IxB} {tv:Value} {W c4 room N F:Nat} {M:Nat→Nat} (h:IxAt w x tv W c4 room N F M):w.cell? ⟨x.xb,1,none⟩=some (.int .i64 (W:Int)):=by simp only [World.cell?,h.cells];rfl
theorem IxAt.c2 {w:World} {x:IxB} {tv:Value} {W c4 room N F:Nat} {M:Nat→Nat} (h:IxAt w x tv W c4 room N F M):w.cell? ⟨x.xb,2,none⟩=some (.slice (some ⟨x.lb,0,none⟩) 4 c4):=by simp only [World.cell?,h.cells];rfl
theorem IxAt.c3 {w:World} {x:IxB} {tv:Value} {W c4 room N F:Nat} {M:Nat→Nat} (h:IxAt w x tv W c4 room N F M):w.cell? ⟨x.xb,3,none⟩=some (.int .i64 (F:Int)):=by simp only [World.cell?,h.cells];rfl
theorem IxAt.fr {w:World} {x:IxB} {tv:Value} {W c4 room N F:Nat} {M:Nat→Nat} (h:IxAt w x tv W c4 room N F M) (j:Nat):w.frozen? ⟨x.xb,j,none⟩=false:=by simp [World.frozen?,h.cells]
theorem BAt.ich {x:IxB} {w w':World} {g off:Nat} {zs:List Nat} (h:BAt w g off zs) (hc:ICh x w w') (hg:¬x.own g):BAt w' g off zs:=fun j hj=>by
 have:=h j hj
 have hl:=z0i this
 rw [←this]
 simp only [World.cell?]
 rw [hc.keep g hl hg]
theorem y2p (x:IxB) (g off cap W c4 room N F T:Nat) (zs:List Nat) (w:World) (h:IxAt w x (.slice (some ⟨g,off,none⟩) N cap) W c4 room N F (fun _=>F)) (hz:zs.length=N) (hc:N≤cap) (hb:∀z∈zs,z<256) (hA:BAt w g off zs) (hg:¬x.own g) (hFT:F≤T) (hT:T≤N) :
  Calls Tryz.prog 141 #[.pointer (some ⟨x.xb,0,none⟩),.int .i64 (T:Int)] w fun e w'=>e=.returned (.tuple #[])∧IxAt w' x (.slice (some ⟨g,off,none⟩) N cap) W c4 room N T (fun _=>T)∧ICh x w w':=by
 have H:=qz h
 have HA:=qz hA
 have HB:=qz hb
 have hN:=h.small
 have HKL:=qz (fun k=>z4k zs hb k)
 have HKEY:Hid (∀ (f:Nat) (ws:World),f<N→IxAt ws x (.slice (some ⟨g,off,none⟩) N cap) W c4 room N f (fun _=>f)→ICh x w ws→Calls Tryz.prog 164 #[.pointer (some ⟨x.xb,0,none⟩),.int .i64 (f:Int)] ws fun e w'=>e=.returned (.tuple #[.int .u64 (z1z zs f:Int),.int .u64 (z1z zs (min N (f+8)):Int)])∧Below ws.heap.size ws w'):=qz (fun f ws hf hi hcg=>z9a x.xb g off N cap f zs ws hi.c0 hz hc hf (by omega) hb (hA.ich hcg hg))
 clear h hA hb hz
 go_enter Tryz.func141,Tryz.ntmps141
 go_wp2_with fail
 go_loopg [4,5,6,20] (T-F) (fun gk a1 a2 a3 a4 ws=>∃f:Nat,gk=T-f∧F≤f∧f≤T∧Hid (IxAt ws x (.slice (some ⟨g,off,none⟩) N cap) W c4 room N f (fun _=>f))∧Hid (ICh x w ws))
 case atStart=>exact ⟨F,rfl,Nat.le_refl _,hFT,H,qz (ICh.refl x w)⟩
 case round =>
  obtain ⟨f,rfl,hf1,hf2,HI,HC⟩:=hrel
  clear H
  have c3:=(uh HI).c3
  by_cases hlt:f<T
  ·have hlti:(f:Int)<(T:Int):=by omega
   have HK:=qz (uh HKEY f wr (by omega) (uh HI) (uh HC))
   have k1:=uh HKL f
   have k2:=uh HKL (min N (f+8))
   generalize z1z zs f=K1 at *
   generalize z1z zs (min N (f+8))=K2 at *
   have hfN:f<N:=by omega
   go_wp2_with fail
   refine (uh HK).mono ?_
   rintro e w2 ⟨rfl,h2⟩
   have HI2:=qz ((uh HI).below h2)
   have HC2:=qz ((uh HC).trans (ICh.of_below h2))
   have d2:=(uh HI2).c2
   clear HK h2 HI HC c3
   go_wp2_with fail
   clear d2
   go_loopg [6,34] 4 (fun gk b c ws=>∃k:Nat,gk=4-k∧k≤4∧c=.int .i64 (k:Int)∧Hid (IxAt ws x (.slice (some ⟨g,off,none⟩) N cap) W c4 room N f (fun j=>if j<k then f+1 else f))∧Hid (ICh x w ws))
   case atStart=>exact ⟨0,by omega,by omega,rfl,qz ((uh HI2).monoM (fun i _=>by simp)),HC2⟩
   case round =>
    obtain ⟨k,rfl,hk,rfl,HJ,HD⟩:=hrel
    clear HI2 HC2
    rename World=>wk
    by_cases hk4:k<4
    ·have hki:(k:Int)<4:=by omega
     have d2:wk.drew.cell? ⟨x.xb,2,none⟩=_:=(uh HJ).c2
     have d3:wk.drew.cell? ⟨x.xb,3,none⟩=_:=(uh HJ).c3
     have HADD:=qz (y3v x _ W c4 room N f k f K1 K2 _ wk.drew ((uh HJ).drewN 1) hk4 hfN (by simp) k1 k2)
     have HMM:Hid (∀i,i<4→updM (fun j=>if j<k then f+1 else f) k (f+1) i≤(fun j=>if j<k+1 then f+1 else f) i):=qz (fun i _=>by
      unfold updM
      simp only
      split
      ·rename_i e;subst e;rw [if_pos (by omega)];exact Nat.le_refl _
      ·split
       ·rw [if_pos (by omega)];exact Nat.le_refl _
       ·split<;>omega)
     go_wp2_with fail
     go_region_law (refine z0z 165 #[.pointer (some ⟨x.lb,k*4,none⟩),.int .u64 (K1:Int),.int .u64 (K2:Int),.int .i64 (f:Int)] rfl (by go_simp) ?_;refine (uh HADD).mono ?_;rintro e w3 ⟨rfl,h3,h4⟩;have HJ3:=qz (h3.monoM (uh HMM));have HD3:=qz (((uh HD).drewN 1).trans h4);clear h3 h4;refine ⟨_,rfl,?_⟩)
     all_goals (
      clear d2 d3
      go_wp2_with fail
      go_roundg (4-(k+1))
      case measure=>omega
      case rel=>exact ⟨k+1,rfl,by omega,by go_num,HJ3,HD3⟩)
    ·obtain rfl:k=4:=by omega
     have HJ4:=qz ((uh HJ).monoM (M':=fun _=>f+1) (fun i hi=>by show (if i<4 then f+1 else f)≤f+1;rw [if_pos hi];exact Nat.le_refl _))
     have d3:=(uh HJ4).c3
     have df:=(uh HJ4).fr 3
     have HE:=qz ((uh HJ4).setF (f+1) (by omega))
     have HG:=qz ((uh HD).set (b:=x.xb) (.inl rfl) 3 (.int .i64 ((f+1:Nat):Int)))
     rw [show ((f+1:Nat):Int)=(f:Int)+1 by omega] at HE HG
     clear HJ HJ4 HD
     go_wp2_with fail
     go_roundg (T-(f+1))
     case measure=>omega
     case rel=>exact ⟨f+1,rfl,by omega,by omega,HE,HG⟩
  ·obtain rfl:f=T:=by omega
   go_wp2_with fail
   go_end0
   exact ⟨rfl,uh HI,uh HC⟩
end D
namespace D
open Go.RowKit Rang
attribute [local go_sem ↓] wp_at_zero wp_at_succ
def MOk (zs:List Nat) (p W m n d:Nat):Prop:=(n=0∧d=0)∨(1≤n∧n≤m∧1≤d∧d≤p∧d≤W∧T6.Eqs (fun i=>zs.getD i 0) p d n)
theorem MOk.of_best {zs:List Nat} {p W m n d:Nat} (h:T6.IsBest (fun i=>zs.getD i 0) p (min p W) m n d):MOk zs p W m n d:=by
 rcases h.one with ⟨h1,h2⟩|⟨h1,h2,h3,h4,_⟩
 ·exact .inl ⟨h1,h2⟩
 ·exact .inr ⟨h1,h.le,h2,by omega,by omega,h4⟩
theorem MOk.le {zs:List Nat} {p W m n d m':Nat} (h:MOk zs p W m n d) (hm:m≤m'):MOk zs p W m' n d:=by
 rcases h with h|⟨h1,h2,h3⟩
 ·exact .inl h
 ·exact .inr ⟨h1,by omega,h3⟩
theorem BAt.u {w:World} {g off:Nat} {zs:List Nat} (h:BAt w g off zs) {c:Nat} (hc:zs.length≤c) {B:Nat} (hB:g<B):T6.z0f B w (.slice (some ⟨g,off,none⟩) zs.length c) zs :=
 ⟨_,c,rfl,hc,fun _=>⟨g,off,rfl,hB,h⟩⟩
theorem BAt.take {w:World} {g off:Nat} {zs:List Nat} (h:BAt w g off zs) (k:Nat):BAt w g off (zs.take k):=fun j hj=>by
 rw [List.length_take] at hj
 rw [h j (by omega)]
 simp [show j<k by omega]
noncomputable def best (zs:List Nat) (p W m:Nat):Nat × Nat :=
 open Classical in if h:∃x:Nat × Nat,T6.IsBest (fun i=>zs.getD i 0) p (min p W) (min m (zs.length-p)) x.1 x.2 then Classical.choose h else (0,0)
theorem z5o {zs:List Nat} {p W m n d:Nat} (h:T6.IsBest (fun i=>zs.getD i 0) p (min p W) (min m (zs.length-p)) n d):n=(best zs p W m).1∧d=(best zs p W m).2:=by
 have hx:∃x:Nat × Nat,T6.IsBest (fun i=>zs.getD i 0) p (min p W) (min m (zs.length-p)) x.1 x.2:=⟨(n,d),h⟩
 have h2:=Classical.choose_spec hx
 have e:best zs p W m=Classical.choose hx:=by unfold best;rw [dif_pos hx]
 rw [e]
 exact h.eq h2
theorem y2i (zs:List Nat) (p W m:Nat):MOk zs p W m (best zs p W m).1 (best zs p W m).2:=by
 by_cases hx:∃x:Nat × Nat,T6.IsBest (fun i=>zs.getD i 0) p (min p W) (min m (zs.length-p)) x.1 x.2
 ·obtain ⟨x,h⟩:=hx
  obtain ⟨h1,h2⟩:=z5o h
  rw [←h1,←h2]
  exact (MOk.of_best h).le (by omega)
 ·unfold best
  rw [dif_neg hx]
  exact .inl ⟨rfl,rfl⟩
theorem z5i (zs:List Nat) (g off cap p W m:Nat) (w:World) (hb:∀z∈zs,z<256) (hA:BAt w g off zs) (hc:zs.length≤cap) (hN:zs.length≤1099511627776) (hN':zs.length<4294967281) (hp:p≤zs.length) (hW:1≤W∧W≤1073741824) (hm:1≤m∧m≤1073741824) (hml:T6.ML w) :
  Calls Tryz.prog 109 #[.slice (some ⟨g,off,none⟩) zs.length cap,.int .i64 (p:Int),.int .i64 (W:Int),.int .i64 (m:Int)] w (Rt (.tuple #[.int .i64 ((best zs p W m).1:Int),.int .i64 ((best zs p W m).2:Int),.int .i64 0]) w):=by
 refine (T6.y0z zs (some ⟨g,off,none⟩) cap (g+1) (p:Int) (W:Int) (m:Int) w (hA.u hc (by omega)) hc hb hN' (by omega) (by omega) hml).mono ?_
 rintro e w' ⟨n,d,x,rfl,hM,q,rfl⟩
 rcases hM with ⟨h,_⟩|⟨_,rfl,n',d',rfl,rfl,h⟩
 ·exact absurd ⟨by omega,by omega,by omega,by omega⟩ h
 ·have h':T6.IsBest (fun i=>zs.getD i 0) p (min p W) (min m (zs.length-p)) n' d':=by simpa using h
  obtain ⟨h1,h2⟩:=z5o h'
  rw [h1,h2]
  exact ⟨rfl,q,rfl⟩
theorem z7z (zs:List Nat) (g off cap P p m:Nat) (w:World) (hA:BAt w g off zs) (hc:zs.length≤cap) (hN:zs.length≤1099511627776) (hP:P≤p) (hp:p+m≤zs.length) :
  Calls Tryz.prog 108 #[.slice (some ⟨g,off+P,none⟩) (zs.length-P) (cap-P),.slice (some ⟨g,off+p,none⟩) m (cap-p)] w fun e w'=>∃n:Nat,e=.returned (.int .i64 (n:Int))∧(n≤m∧T6.Eqs (fun i=>zs.getD i 0) p (p-P) n)∧∃q,w'=w.drewN q:=by
 have l1:(zs.drop P).length=zs.length-P:=by simp
 have l2:((zs.drop p).take m).length=m:=by simp;omega
 have h1:=(hA.drop P).u (c:=cap-P) (by omega) (show g<g+1 by omega)
 have h2:=((hA.drop p).take m).u (c:=cap-p) (by omega) (show g<g+1 by omega)
 rw [l1] at h1
 rw [l2] at h2
 refine (T6.z3v (zs.drop P) ((zs.drop p).take m) _ _ (g+1) (g+1) w h1 h2 (by rw [l1];omega)).mono ?_
 rintro e w' ⟨n,rfl,hn,q,rfl⟩
 refine ⟨n,rfl,⟨by have:=hn.l2;omega,fun i hi=>?_⟩,q,rfl⟩
 have h3:=hn.eq i hi
 have h4:i<m:=by have:=hn.l2;omega
 have e1:(zs.drop P).getD i 0=zs.getD (P+i) 0:=by simp [List.getD_eq_getElem?_getD,List.getElem?_drop]
 have e2:((zs.drop p).take m).getD i 0=zs.getD (p+i) 0:=by simp [List.getD_eq_getElem?_getD,h4]
 rw [e1,e2] at h3
 show zs.getD (p+i) 0=zs.getD (p+i-(p-P)) 0
 rw [show p+i-(p-P)=P+i by omega]
 exact h3.symm
theorem z0p {B:Nat} {w w1:World} (hb:Below B w w1) {p:Addr} {u:Value} (h:w.cell? p=some u) (hp:p.block<B):w1.cell? p=some u:=T6.cell_below hb h hp
end D
namespace D
open Go.RowKit Rang
attribute [local go_sem ↓] wp_at_zero wp_at_succ
theorem y3n (x:IxB) (g off cap W c4 room N i p m:Nat) (zs:List Nat) (w:World) (h:IxAt w x (.slice (some ⟨g,off,none⟩) N cap) W c4 room N p (fun _=>p)) (hz:zs.length=N) (hc:N≤cap) (hb:∀z∈zs,z<256) (hA:BAt w g off zs) (hi:i<4) (hm:2^(i+1)≤m) (hp:p+m≤N) (hW:1≤W) (hW':W≤1073741824) (hml:T6.ML w) :
  Calls Tryz.prog 143 #[.pointer (some ⟨x.xb,0,none⟩),.agg #[.int .i64 ((2^(i+1):Nat):Int),.int .i64 ((64-room:Nat):Int),.slice (some ⟨x.la i,0,none⟩) (2^room) (2^room),.slice (some ⟨x.be i,0,none⟩) N N],.int .i64 (p:Int),.int .i64 (m:Int)] w fun e w'=>∃n d:Nat,e=.returned (.tuple #[.int .i64 (n:Int),.int .i64 (d:Int)])∧MOk zs p W m n d∧Below w.heap.size w w':=by
 obtain ⟨s,hs⟩:∃s,s=2^(i+1):=⟨_,rfl⟩
 obtain ⟨R,hR⟩:∃R,R=2^room:=⟨_,rfl⟩
 obtain ⟨sh,hsh⟩:∃sh,sh=64-room:=⟨_,rfl⟩
 have hs1:2≤s:=by rw [hs,Nat.pow_succ];have:=Nat.two_pow_pos i;omega
 have hs2:s≤16:=by rw [hs];exact z2z hi
 have hsm:s≤m:=by rw [hs];exact hm
 rw [←hs,←hR,←hsh]
 have H:=qz h
 have HA:=qz hA
 have HB:=qz hb
 have HZ:=qz hz
 have HML:=qz hml
 have HR:=qz hR
 have HS:=qz hs
 have HSH:=qz hsh
 have hN:=h.small
 clear h hA hb hz hml hR hs hsh hm
 obtain ⟨b0,hb0⟩:∃b0,b0=w.heap.size:=⟨_,rfl⟩
 obtain ⟨W0,HW0⟩:∃W0,W0=w.alloc (.cells #[.int .i64 (s:Int),.int .i64 (sh:Int),.slice (some ⟨x.la i,0,none⟩) R R,.slice (some ⟨x.be i,0,none⟩) N N] 168):=⟨_,rfl⟩
 have HBL:Hid (Below w.heap.size w W0):=qz (by rw [HW0];exact (Below.refl _ _).alloc (Nat.le_refl _) _)
 have hbox:W0.heap[b0]?=some (.cells #[.int .i64 (s:Int),.int .i64 (sh:Int),.slice (some ⟨x.la i,0,none⟩) R R,.slice (some ⟨x.be i,0,none⟩) N N] 168 (0,0)):=by rw [HW0,hb0];exact heap_alloc_new _ _
 have HI:=qz ((uh H).below (uh HBL))
 have HA0:=qz ((uh HA).below (uh HBL))
 have HML0:=qz ((uh HML).stays (uh HBL))
 have l0:W0.cell? ⟨b0,0,none⟩=some (.int .i64 (s:Int)):=by simp only [World.cell?,hbox];rfl
 have l2:W0.cell? ⟨b0,2,none⟩=some (.slice (some ⟨x.la i,0,none⟩) R R):=by simp only [World.cell?,hbox];rfl
 have HL3:Hid (W0.cell? ⟨b0,3,none⟩=some (.slice (some ⟨x.be i,0,none⟩) N N)):=qz (by simp only [World.cell?,hbox];rfl)
 have HL0:=qz l0
 have HL2:=qz l2
 have HLT:Hid (b0<W0.heap.size):=qz (z0c hbox)
 have HL1:Hid (W0.cell? ⟨b0,1,none⟩=some (.int .i64 (sh:Int))):=qz (by simp only [World.cell?,hbox];rfl)
 have HWB:=qz HW0
 have HB0:=qz hb0
 have c0:W0.drew.cell? ⟨x.xb,0,none⟩=_:=(uh HI).c0
 have c1:W0.drew.cell? ⟨x.xb,1,none⟩=_:=(uh HI).c1
 obtain ⟨mn,hmn⟩:∃mn,mn=min p W:=⟨_,rfl⟩
 obtain ⟨F,hF⟩:∃F,F=p-mn:=⟨_,rfl⟩
 have a1:IntKind.i64.wrap ((p:Int)+(m:Int))=(p:Int)+(m:Int):=wi64 (by omega) (by omega)
 have a2:(0:Int)≤(p:Int)+(m:Int):=by omega
 have a3:((p:Int)+(m:Int)).toNat=p+m:=by omega
 have a4:p+m-p=m:=by omega
 have a5:p+m≤cap:=by omega
 have a6:(p:Int)≤(p:Int)+(m:Int):=by omega
 have a7:¬cap=p:=by omega
 have a8:min (p:Int) (W:Int)=(mn:Int):=by omega
 have a9:IntKind.i64.wrap ((p:Int)-(mn:Int))=(F:Int):=by rw [wi64 (by omega) (by omega)];omega
 have a10:(p:Int)+(m:Int)≤(cap:Int):=by omega
 have a11:p≤p+m:=by omega
 clear hbox H HA HML
 go_enter Tryz.func143,Tryz.ntmps143
 go_upto_region 1 with fail
 rw [←HW0,←hb0]
 have HMN:=qz hmn
 have HF:=qz hF
 clear HW0 hb0 hmn hF
 go_cut [10,11] from 15 to 31 (fun a b wc=>a=.slice (some ⟨g,off+p,none⟩) m (cap-p)∧b=.int .i64 (F:Int)∧∃q,wc=W0.drewN q)
 case first =>
  go_region_law (fail)
  all_goals (
   go_wp2_with fail
   go_meet
   exact ⟨rfl,rfl,1,rfl⟩)
 case rest =>
  obtain ⟨rfl,rfl,q1,hq1⟩:=hcut
  have HI1:Hid (IxAt wc x (.slice (some ⟨g,off,none⟩) N cap) W c4 room N p (fun _=>p)):=qz (by rw [hq1];exact (uh HI).drewN q1)
  have HA1:Hid (BAt wc g off zs):=qz (by rw [hq1];exact uh HA0)
  have HML1:Hid (T6.ML wc):=qz (by rw [hq1];exact (uh HML0).drewN q1)
  have HBL1:Hid (Below w.heap.size w wc):=qz (by rw [hq1];exact z0q (uh HBL) q1)
  have HLT1:Hid (b0<wc.heap.size):=qz (by rw [hq1];exact uh HLT)
  have m0:wc.cell? ⟨b0,0,none⟩=some (.int .i64 (s:Int)):=by rw [hq1];exact uh HL0
  have HM1:Hid (wc.cell? ⟨b0,1,none⟩=some (.int .i64 (sh:Int))):=qz (by rw [hq1];exact uh HL1)
  have HM2:Hid (wc.cell? ⟨b0,2,none⟩=some (.slice (some ⟨x.la i,0,none⟩) R R)):=qz (by rw [hq1];exact uh HL2)
  have HM3:Hid (wc.cell? ⟨b0,3,none⟩=some (.slice (some ⟨x.be i,0,none⟩) N N)):=qz (by rw [hq1];exact uh HL3)
  have HM0:=qz m0
  clear hq1 HI HA0 HML0 HBL HLT HL0 HL1 HL2 HL3 HWB HB0 l0 l2 c0 c1
  obtain ⟨K1,hK1⟩:∃K1,K1=z1z zs p:=⟨_,rfl⟩
  obtain ⟨K2,hK2⟩:∃K2,K2=z1z zs (min N (p+8)):=⟨_,rfl⟩
  have k1:=z4k zs (uh HB) p
  have k2:=z4k zs (uh HB) (min N (p+8))
  have HKEY:=qz (z9a x.xb g off N cap p zs wc.drew (uh HI1).c0 (uh HZ) hc (by omega) (by omega) (uh HB) (uh HA1))
  rw [←hK1] at k1
  rw [←hK2] at k2
  rw [←hK1,←hK2] at HKEY
  obtain ⟨hh,hhh⟩:∃hh,hh=z4h s sh K1 K2:=⟨_,rfl⟩
  have hhR:hh<R:=by
   rw [hhh,uh HR,uh HSH]
   exact z6q _ _ _ _ room (by have:=(uh HI1).room;omega)
  obtain ⟨v,hv,hvp⟩:=((uh HI1).ls i hi).cell (j:=hh) (by rw [←uh HR];exact hhR)
  have HHASH:Hid (∀w2,Below wc.heap.size wc w2→Calls Tryz.prog 167 #[.pointer (some ⟨b0,0,none⟩),.int .u64 (K1:Int),.int .u64 (K2:Int)] w2 fun e w'=>e=.returned (.int .u64 (hh:Int))∧(w'.cell? ⟨b0,2,none⟩=some (.slice (some ⟨x.la i,0,none⟩) R R)∧w'.cell? ⟨x.la i,hh,none⟩=some (.int .i32 (v:Int)))∧Below wc.heap.size wc w'):=qz fun w2 h2=>by
   refine (z8u b0 0 s sh K1 K2 w2 (z0p h2 (uh HM0) (uh HLT1)) (z0p h2 (uh HM1) (uh HLT1)) hs2 (by rw [uh HSH];omega) k1 k2).mono ?_
   rintro e w' ⟨rfl,q,rfl⟩
   exact ⟨by rw [hhh],⟨z0p h2 (uh HM2) (uh HLT1),z0p h2 hv (z0i hv)⟩,z0q h2 q⟩
  have hvp:v≤p:=hvp
  have HV:=qz hv
  have HHR:=qz hhR
  have b1:IntKind.i64.wrap ((s:Int)-1)=(s:Int)-1:=wi64 (by omega) (by omega)
  have b2:IntKind.i64.wrap ((p:Int)-(F:Int))=(mn:Int):=by have:=uh HF;have:=uh HMN;rw [wi64 (by omega) (by omega)];omega
  have b3:IntKind.i64.wrap (v:Int)=(v:Int):=wi64 (by omega) (by omega)
  have b4:IntKind.i64.wrap ((v:Int)-1)=(v:Int)-1:=by rw [IntKind.wrap_i64];omega
  have b5:(hh:Int)<(R:Int):=by omega
  clear hK1 hK2 hhh hv k1 k2 hhR
  go_upto_region 4 with fail
  have d2:wc.drew.cell? ⟨b0,2,none⟩=_:=uh HM2
  clear m0
  go_cut [13] from 38 to 49 (fun a wd=>a=.int .i64 ((v:Int)-1)∧Below wc.heap.size wc wd)
  case first =>
   go_region_law (first
    | (
     refine z0z 164 #[.pointer (some ⟨x.xb,0,none⟩),.int .i64 (p:Int)] rfl (by go_simp) ?_
     refine (uh HKEY).mono ?_
     rintro e w2 ⟨rfl,h2⟩
     have h2':Below wc.heap.size wc w2:=⟨h2.os,h2.tape,h2.output,h2.size,h2.block⟩
     have HB2:=qz h2'
     have e2:=z0p h2' (uh HM2) (uh HLT1)
     clear h2 h2'
     refine ⟨_,rfl,?_⟩)
    | (
     refine z0z 167 #[.pointer (some ⟨b0,0,none⟩),.int .u64 (K1:Int),.int .u64 (K2:Int)] rfl (by go_simp) ?_
     refine (uh HHASH _ (uh HB2)).mono ?_
     rintro e w3 ⟨rfl,⟨f2,f3⟩,h3⟩
     have HB3:=qz h3
     clear h3
     refine ⟨_,rfl,?_⟩))
   all_goals (
    go_wp2_with fail
    go_meet
    exact ⟨rfl,uh HB3⟩)
  case rest =>
   obtain ⟨rfl,hwd⟩:=hcut
   rename World=>wd
   have HI2:=qz ((uh HI1).below hwd)
   have HA2:=qz ((uh HA1).below hwd)
   have HML2:=qz ((uh HML1).stays hwd)
   have HBL2:=qz ((uh HBL1).trans (hwd.mono (uh HBL1).size))
   have HN3:Hid (wd.cell? ⟨b0,3,none⟩=some (.slice (some ⟨x.be i,0,none⟩) N N)):=qz (z0p hwd (uh HM3) (uh HLT1))
   have hmnp:mn≤p:=by have:=uh HMN;omega
   clear HI1 HA1 HML1 HBL1 HM0 HM1 HM2 HM3 HLT1 hwd HKEY HHASH HV HHR HR HS HSH a1 a2 a3 a4 a5 a6 a7 a8 a9 a10 a11 b1 b2 b3 b4 b5 d2
   go_wp2_with fail
   go_loopg [8,9,12,13,14] v (fun gk a8 a9 a12 a13 a14 ws=>∃P1 n dd st q:Nat,gk=P1∧P1≤p∧a13=.int .i64 ((P1:Int)-1)∧a8=.int .i64 (n:Int)∧a9=.int .i64 (dd:Int)∧a12=.int .i64 (st:Int)∧st≤p∧1≤n∧n≤m∧Hid (dd=0∨MOk zs p W m n dd)∧ws=wd.drewN q)
   case atStart=>exact ⟨v,s-1,0,mn,0,rfl,hvp,rfl,by rw [show ((s-1:Nat):Int)=(s:Int)-1 by omega],rfl,rfl,hmnp,by omega,by omega,qz (.inl rfl),rfl⟩
   case round =>
    obtain ⟨P1,n,dd,st,q,rfl,hP,rfl,rfl,rfl,rfl,hst,hn1,hnm,HMM,hws⟩:=hrel
    clear hvp hs1 hs2 hsm hmnp
    have HBW:Hid (Below w.heap.size w wr):=qz (by rw [hws];exact z0q (uh HBL2) q)
    have HEX:Hid (∃q,wr=wd.drewN q):=qz ⟨q,hws⟩
    have HFF:=uh HF
    by_cases hgo:F+1≤gk∧n<m
    ·obtain ⟨P,rfl⟩:∃P,gk=P+1:=⟨gk-1,by omega⟩
     obtain ⟨hFP,hnm2⟩:=hgo
     have g1:(F:Int)≤(P:Int):=by omega
     have g2:(n:Int)<(m:Int):=by omega
     rw [show ((P+1:Nat):Int)-1=(P:Int) by omega]
     have HDQ:Hid (∀q,(wr.drewN q).cell? ⟨x.xb,0,none⟩=some (.slice (some ⟨g,off,none⟩) N cap)∧(wr.drewN q).cell? ⟨x.xb,1,none⟩=some (.int .i64 (W:Int))∧(wr.drewN q).cell? ⟨b0,3,none⟩=some (.slice (some ⟨x.be i,0,none⟩) N N)∧T6.ML (wr.drewN q)∧BAt (wr.drewN q) g off zs):=qz fun q'=>by rw [hws];exact ⟨(uh HI2).c0,(uh HI2).c1,uh HN3,uh HML2,uh HA2⟩
     obtain ⟨v2,hv2,hvP⟩:=((uh HI2).bs i hi).cell (j:=P) (by omega)
     have hvP:v2≤P:=hvP
     have HV2:Hid (∀q,(wr.drewN q).cell? ⟨x.be i,P,none⟩=some (.int .i32 (v2:Int))):=qz fun q'=>by rw [hws];exact hv2
     clear hv2 hws HFF
     obtain ⟨ca,hca⟩:∃ca,ca=zs.getD (P+n) 0:=⟨_,rfl⟩
     obtain ⟨cb,hcb⟩:∃cb,cb=zs.getD (p+n) 0:=⟨_,rfl⟩
     have t1:wr.cell? ⟨g,off+(P+n),none⟩=some (.int .u8 (ca:Int)):=by rw [hca];exact ((uh HDQ) 0).2.2.2.2 (P+n) (by rw [uh HZ];omega)
     have t2:wr.cell? ⟨g,off+p+n,none⟩=some (.int .u8 (cb:Int)):=by rw [hcb,Nat.add_assoc];exact ((uh HDQ) 0).2.2.2.2 (p+n) (by rw [uh HZ];omega)
     have k0:wr.cell? ⟨x.xb,0,none⟩=some (.slice (some ⟨g,off,none⟩) N cap):=((uh HDQ) 0).1
     clear hca hcb
     have i1:IntKind.i64.wrap ((P:Int)+(n:Int))=(P:Int)+(n:Int):=wi64 (by omega) (by omega)
     have i2:(0:Int)≤(P:Int)+(n:Int):=by omega
     have i3:((P:Int)+(n:Int)).toNat=P+n:=by omega
     have i4:(P:Int)+(n:Int)<(N:Int):=by omega
     have i5:P+n<N:=by omega
     go_wp2_with fail
     go_quiet (fail)
     clear i1 i2 i3 i4 i5 g1 g2 t1 t2 k0
     go_upto_if 78 with fail
     have HCO:Hid (∀q',Calls Tryz.prog 108 #[.slice (some ⟨g,off+P,none⟩) (N-P) (cap-P),.slice (some ⟨g,off+p,none⟩) m (cap-p)] (wr.drewN q') fun e w'=>∃n:Nat,e=.returned (.int .i64 (n:Int))∧(n≤m∧T6.Eqs (fun i=>zs.getD i 0) p (p-P) n)∧∃q,w'=(wr.drewN q').drewN q):=qz fun q'=>by
      have:=z7z zs g off cap P p m (wr.drewN q') ((uh HDQ) q').2.2.2.2 (by rw [uh HZ];exact hc) (by rw [uh HZ];omega) (by omega) (by rw [uh HZ];exact hp)
      rw [uh HZ] at this
      exact this
     obtain ⟨D,hD⟩:∃D,D=p-P:=⟨_,rfl⟩
     rw [←hD] at HCO
     have hDW:1≤D∧D≤p∧D≤W:=by have:=uh HF;have:=uh HMN;omega
     have j0:((wr.drewN nq).cell? ⟨x.xb,0,none⟩=some (.slice (some ⟨g,off,none⟩) N cap)):=((uh HDQ) nq).1
     have j1:¬cap=P:=by omega
     have j2:(P:Int)≤(N:Int):=by omega
     have j3:P≤N:=by omega
     have j4:IntKind.i64.wrap ((p:Int)-(P:Int))=(D:Int):=by rw [wi64 (by omega) (by omega)];omega
     clear hD
     go_cut [8,9,12,14] from 78 to 96 (fun a8 a9 a12 a14 wx=>∃n2 d2 q2:Nat,∃s2:Int,a8=.int .i64 (n2:Int)∧a9=.int .i64 (d2:Int)∧a12=.int .i64 s2∧(-(m:Int)≤s2∧s2≤p)∧(1≤n2∧n2≤m)∧Hid (d2=0∨MOk zs p W m n2 d2)∧wx=wr.drewN q2)
     case first =>
      by_cases hab:ca=cb
      ·have e1:((ca:Int) == (cb:Int))=true:=by simp [hab]
       have e2:(ca == cb)=true:=by simp [hab]
       clear hab
       go_wp2_with fail
       refine (uh HCO _).mono ?_
       rintro e w2 ⟨n',rfl,⟨hn',hE⟩,q2,rfl⟩
       rw [World.drewN_drewN]
       have HE:=qz hE
       clear hE j0 HCO
       have j5:IntKind.i64.wrap ((st:Int)-(n':Int))=(st:Int)-(n':Int):=by rw [IntKind.wrap_i64];omega
       by_cases hlt:n<n'
       ·have hlti:(n:Int)<(n':Int):=by omega
        go_wp2_with fail
        go_meet
        exact ⟨n',D,nq+q2,(st:Int)-(n':Int),rfl,rfl,rfl,⟨by omega,by omega⟩,⟨by omega,hn'⟩,qz (.inr (.inr ⟨by omega,hn',hDW.1,hDW.2.1,hDW.2.2,uh HE⟩)),rfl⟩
       ·have hlti:¬ (n:Int)<(n':Int):=by omega
        go_wp2_with fail
        go_meet
        exact ⟨n,dd,nq+q2,(st:Int)-(n':Int),rfl,rfl,rfl,⟨by omega,by omega⟩,⟨hn1,hnm⟩,HMM,rfl⟩
      ·have e1:((ca:Int) == (cb:Int))=false:=by simp;omega
       have e2:(ca == cb)=false:=by simp [hab]
       clear hab
       go_wp2_with fail
       go_meet
       exact ⟨n,dd,nq,st,rfl,rfl,rfl,⟨by omega,by omega⟩,⟨hn1,hnm⟩,HMM,rfl⟩
     case rest =>
      obtain ⟨n2,d2,q2,s2,rfl,rfl,rfl,⟨hs3,hs4⟩,⟨hn3,hn4⟩,HM4,rfl⟩:=hcut
      clear j0 j1 j2 j3 j4 HMM HCO hn1 hnm hnm2
      have e0:(wr.drewN q2).cell? ⟨b0,3,none⟩=some (.slice (some ⟨x.be i,0,none⟩) N N):=((uh HDQ) q2).2.2.1
      have e1:(wr.drewN q2).cell? ⟨x.be i,P,none⟩=some (.int .i32 (v2:Int)):=uh HV2 q2
      have e2:(wr.drewN q2).cell? ⟨x.xb,0,none⟩=some (.slice (some ⟨g,off,none⟩) N cap):=((uh HDQ) q2).1
      have e3:(wr.drewN q2).cell? ⟨x.xb,1,none⟩=some (.int .i64 (W:Int)):=((uh HDQ) q2).2.1
      have HMT:Hid (∀r,Calls Tryz.prog 109 #[.slice (some ⟨g,off,none⟩) N cap,.int .i64 (p:Int),.int .i64 (W:Int),.int .i64 (m:Int)] ((wr.drewN q2).drewN r) (Rt (.tuple #[.int .i64 ((best zs p W m).1:Int),.int .i64 ((best zs p W m).2:Int),.int .i64 0]) ((wr.drewN q2).drewN r))):=qz fun r=>by
       have:=z5i zs g off cap p W m (wr.drewN (q2+r)) (uh HB) ((uh HDQ) _).2.2.2.2 (by rw [uh HZ];exact hc) (by rw [uh HZ];omega) (by rw [uh HZ];omega) (by rw [uh HZ];omega) ⟨hW,hW'⟩ ⟨by omega,by omega⟩ ((uh HDQ) _).2.2.2.1
       rw [uh HZ] at this
       rw [World.drewN_drewN]
       exact this
      have HBO:=qz (y2i zs p W m)
      obtain ⟨bn,hbn⟩:∃bn,bn=(best zs p W m).1:=⟨_,rfl⟩
      obtain ⟨bd,hbd⟩:∃bd,bd=(best zs p W m).2:=⟨_,rfl⟩
      rw [←hbn,←hbd] at HMT HBO
      have HBW3:Hid (Below w.heap.size w (wr.drewN q2)):=qz (z0q (uh HBW) q2)
      have HEX3:Hid (∃q,wr.drewN q2=wd.drewN q):=qz (by obtain ⟨q,hq⟩:=uh HEX;exact ⟨q+q2,by rw [hq,World.drewN_drewN]⟩)
      clear hbn hbd HDQ HV2 HBW HEX hDW
      generalize wr.drewN q2=wy at *
      have i1:IntKind.i64.wrap (s2-1)=s2-1:=by rw [IntKind.wrap_i64];omega
      by_cases hst2:s2-1<0
      ·clear e0 e1
       go_wp2_with fail
       go_quiet (first|(go_at_call 109;refine Calls.quiet_of (uh HMT _)))
       have HBW4:=qz (z0q (uh HBW3) nq)
       clear HMT HBW3 HEX3 HM4 e2 e3
       by_cases hz0:bd=0
       ·have z1:((bd:Int) == 0)=true:=by simp [hz0]
        have z2:(bd:Int)=0:=by omega
        clear hz0
        go_wp2_with fail
        go_returns
        exact ⟨0,0,rfl,.inl ⟨rfl,rfl⟩,uh HBW4⟩
       ·have z1:((bd:Int) == 0)=false:=by simp;omega
        have z2:¬ (bd:Int)=0:=by omega
        clear hz0
        go_wp2_with fail
        go_returns
        exact ⟨bn,bd,rfl,uh HBO,uh HBW4⟩
      ·have i2:IntKind.i64.wrap (v2:Int)=(v2:Int):=wi64 (by omega) (by omega)
       have i3:IntKind.i64.wrap ((v2:Int)-1)=(v2:Int)-1:=by rw [IntKind.wrap_i64];omega
       have i4:(P:Int)<(N:Int):=by omega
       go_wp2_with fail
       go_roundg v2
       case measure=>omega
       case rel =>
        obtain ⟨q,hq⟩:=uh HEX3
        exact ⟨v2,n2,d2,(s2-1).toNat,q,rfl,by omega,rfl,rfl,rfl,by rw [Int.toNat_of_nonneg (by omega)],by omega,hn3,hn4,HM4,hq⟩
    ·clear hws HEX HFF
     have hE:(¬ (F:Int)≤(gk:Int)-1)∨((F:Int)≤(gk:Int)-1∧¬ (n:Int)<(m:Int)):=by omega
     clear hgo
     rcases hE with g1|⟨g1,g2⟩
     all_goals (
      by_cases hz0:dd=0
      ·have z1:((dd:Int) == 0)=true:=by simp [hz0]
       have z2:(dd:Int)=0:=by omega
       clear hz0
       go_wp2_with fail
       go_returns
       exact ⟨0,0,rfl,.inl ⟨rfl,rfl⟩,uh HBW⟩
      ·have z1:((dd:Int) == 0)=false:=by simp;omega
       have z2:¬ (dd:Int)=0:=by omega
       have HMF:=qz ((uh HMM).resolve_left hz0)
       clear hz0
       go_wp2_with fail
       go_returns
       exact ⟨n,dd,rfl,uh HMF,uh HBW⟩)
end D
namespace D
open Go.RowKit
variable {F:Fence} {P:Program}
theorem z2f {W:World} {l:Nat} {o o':Obj} (h:W.heap[l]?=some o):(W.putObj l o').heap[l]?=some o':=World.putObj_heap_same (Array.getElem?_eq_some_iff.1 h).1
theorem y1k {m l:Nat} {r:Loop} {args:Array Value} {W:World} {I' X:World→Prop} (hfn:F.fn r.fn) (hl:W.heap[l]?=some (.loop r)) (hr:r.state=.ready) (hp:r.pending=none) (hs:args.size=r.params.size)
  (h:r.assign.wpIn (F.inRound l) m P (Exit.then (fun a' W'=>W'.heap[l]?=some (.loop r)∧r.body.wpIn (F.inRound l) m P (fun e _ W''=>W''.heap[l]?=some (.loop { r with state:=.busy })∧((e=.normal∧I' (W''.putObj l (.loop r)))∨(e=.ret∧X (W''.putObj l (.loop { r with state:=.done,pending:=some .ret }))))) a' (W'.putObj l (.loop { r with state:=.busy }))) (fun _ _ _=>False))
   { tmps:=(r.params.zip args).foldl (fun t (p,v)=>t.setIfInBounds p v) r.tmps,defers:=[] } W) :
  YieldAt F m P l args W fun e W'=>(e=.returned (.bool true)∧I' W'∧W'.heap[l]?=some (.loop r))∨(e=.returned (.bool false)∧X W'∧W'.heap[l]?=some (.loop { r with state:=.done,pending:=some .ret })):=by
 refine ⟨r.fn,_,r.assign,r.body,run_yield hl hs,roundIn_of_wpIn hfn (wpIn_mono h ?_)⟩
 rintro e a' W' hq
 cases e with
 | normal =>
  obtain ⟨h1,h2⟩:=hq
  refine ⟨_,run_beginRound h1 hr,wpIn_mono h2 ?_⟩
  rintro e a'' W'' ⟨h3,⟨rfl,h4⟩|⟨rfl,h4⟩⟩
  ·have h5:=run_endRound (P:=P) none h3
   have e2:({ { r with state:=.busy } with state:=if (none:Option Code).isNone then .ready else .done,pending:=none }:Loop)=r:=by
    cases r
    simp at hr hp
    subst hr hp
    rfl
   rw [e2] at h5
   exact ⟨_,_,h5,.inl ⟨rfl,h4,z2f h3⟩⟩
  ·have h5:=run_endRound (P:=P) (some .ret) h3
   exact ⟨_,_,h5,.inr ⟨rfl,h4,z2f h3⟩⟩
 | _=>exact hq.elim
theorem z7w {n:Nat} {g:Operand} {ps:Array Tmp} {assign body:Code} {Q:Exit→Act→World→Prop} {a:Act} {w:World} (hro:F.round=none) (h1:1≤n) {gf:Nat} {lb:Array Value} (hg:a.eval g=.func (.func gf) #[] lb) (hFg:F.fn gf)
  (eg:∀args w,(callFunc gf args).run P w=.ok (.enter gf args) w) (encs:Nat→Array Value) (N:Nat) (hps:∀k,(encs k).size=ps.size) (I:Nat→World→Prop) (X:World→Prop) (hI:OwnFrom w.heap.size I) (hX:OwnFrom w.heap.size (fun (_:Unit) W=>X W)) (h0:I 0 w)
  (hseq:∀ (l:Nat) (J:Nat→World→Prop) (Y:World→Prop) (W:World),(∀k W,J k W→I k W)→J 0 W→(∀k W1,k<N→J k W1→YieldAt F (n-1-1) P l (encs k) W1 fun e W'=>(e=.returned (.bool true)∧J (k+1) W')∨(e=.returned (.bool false)∧Y W')) →
   CallsIn F (n-1) P gf (#[.func (.yield l) #[] #[]]++lb) W fun e W'=>(∃v,e=.returned v)∧(J N W'∨Y W'))
  (Ax:Nat→Act→World→Prop) (hAx:∀k a',OwnFrom w.heap.size (fun (_:Unit) W=>Ax k a' W))
  (hassign:∀ (l k:Nat) (W:World) (K:Act→World→Prop),k<N→I k W→(∀a' W',KeepsOthers W W'→I k W'→Ax k a' W'→K a' W') →
   assign.wpIn (F.inRound l) (n-1-1) P (Exit.then K (fun _ _ _=>False)) { tmps:=(ps.zip (encs k)).foldl (fun t (p,v)=>t.setIfInBounds p v) a.tmps,defers:=[] } W)
  (hbody:∀ (l k:Nat) (a':Act) (W:World),k<N→I k W→Ax k a' W→body.wpIn (F.inRound l) (n-1-1) P (fun e _ W''=>KeepsOthers W W''∧((e=.normal∧I (k+1) W'')∨(e=.ret∧X W''))) a' W)
  (hdone:∀ (D:Nat) (W:World),w.heap.size≤D→I N W→W.heap[D]?=some (.deferred (some []))→Q .normal { a with defers:={ target:=.collected D,args:=#[] } :: a.defers } W)
  (hstop:∀ (D:Nat) (W:World),w.heap.size≤D→X W→W.heap[D]?=some (.deferred (some []))→Q .ret { a with defers:={ target:=.collected D,args:=#[] } :: a.defers } W) :
  (Code.rangeFunc g ps assign body).wpIn F n P Q a w:=by
 refine wpIn_rangeFunc fun fn hfn=>?_
 rw [hro]
 obtain ⟨r,hr⟩:∃r:Loop,r={ state:=.ready,pending:=none,fn:=fn,tmps:=a.tmps,params:=ps,assign:=assign,body:=body,defers:=w.heap.size }:=⟨_,rfl⟩
 have hL:((w.alloc (.deferred (some []))).alloc (.loop r)).heap[w.heap.size+1]?=some (.loop r):=by
  have:=World.alloc_heap_new (w.alloc (.deferred (some []))) (.loop r)
  rwa [World.size_alloc] at this
 have hD:((w.alloc (.deferred (some []))).alloc (.loop r)).heap[w.heap.size]?=some (.deferred (some [])):=(Below.heap_alloc _ _ _ (by simp)).trans (World.alloc_heap_new w _)
 have hI1:I 0 ((w.alloc (.deferred (some []))).alloc (.loop r)):=hI.alloc _ (hI.alloc _ h0)
 obtain ⟨W1,hW1⟩:∃W1,W1=(w.alloc (.deferred (some []))).alloc (.loop r):=⟨_,rfl⟩
 rw [←hW1] at hL hD hI1
 refine ⟨w.heap.size+1,[{ target:=.collected w.heap.size,args:=#[] }],W1,{ target:=.fn (.func gf) lb,args:=#[.func (.yield (w.heap.size+1)) #[] #[]] },W1,gf,#[.func (.yield (w.heap.size+1)) #[] #[]]++lb,W1,
  (by rw [hW1,hr];exact run_enterLoop_outer _ _ _ _ _),(by simp only [resolve,hg];simp [go_sem]),(fun f' hf'=>by simp [Target.leads] at hf';subst hf';exact hFg),(by simp [invoke,go_sem,eg]),fun _=>h1,?_⟩
 refine (hseq (w.heap.size+1) (fun k W=>I k W∧W.heap[w.heap.size]?=some (.deferred (some []))∧W.heap[w.heap.size+1]?=some (.loop r)) (fun W=>X W∧W.heap[w.heap.size]?=some (.deferred (some []))∧W.heap[w.heap.size+1]?=some (.loop { r with state:=.done,pending:=some .ret })) _ (fun k W h=>h.1) ⟨hI1,hD,hL⟩ ?_).mono ?_
 ·rintro k W hk ⟨hi,hd,hl⟩
  have hrd:=y1k (F:=F) (P:=P) (m:=n-1-1) (l:=w.heap.size+1) (r:=r) (args:=encs k) (W:=W) (I':=fun W'=>I (k+1) W'∧W'.heap[w.heap.size]?=some (.deferred (some []))) (X:=fun W'=>X W'∧W'.heap[w.heap.size]?=some (.deferred (some []))) (by rw [hr];exact hfn) hl (by rw [hr]) (by rw [hr]) (by rw [hr];exact hps k) (by
   have e1:r.assign=assign:=by rw [hr]
   have e2:r.body=body:=by rw [hr]
   have e3:r.params=ps:=by rw [hr]
   have e4:r.tmps=a.tmps:=by rw [hr]
   have hassign':=hassign
   have hbody':=hbody
   rw [←e1,←e3,←e4] at hassign'
   rw [←e2] at hbody'
   refine hassign' _ k W _ hk hi fun a' W' kp hi' hax=>?_
   have hl':=kp.same (w.heap.size+1) (.loop r) hl rfl
   have hd':=kp.same w.heap.size (.deferred (some [])) hd rfl
   refine ⟨hl',wpIn_mono (hbody' _ k a' _ hk (hI.putObj _ hi' (by omega) hl' rfl) ((hAx k a').putObj (s:=()) _ hax (by omega) hl' rfl)) ?_⟩
   rintro e a'' W'' ⟨kp2,hor⟩
   have hl2:=kp2.same (w.heap.size+1) (.loop { r with state:=.busy }) (z2f hl') rfl
   have hd2:=kp2.same w.heap.size (.deferred (some [])) ((World.putObj_heap_other (by omega)).trans hd') rfl
   refine ⟨hl2,?_⟩
   rcases hor with ⟨rfl,hi2⟩|⟨rfl,hx2⟩
   ·exact .inl ⟨rfl,hI.putObj _ hi2 (by omega) hl2 rfl,(World.putObj_heap_other (by omega)).trans hd2⟩
   ·exact .inr ⟨rfl,hX.putObj (s:=()) _ hx2 (by omega) hl2 rfl,(World.putObj_heap_other (by omega)).trans hd2⟩)
  obtain ⟨f',t',as',b',hy,hR⟩:=hrd
  refine ⟨f',t',as',b',hy,hR.mono ?_⟩
  rintro e W' (⟨x1,⟨x2,x3⟩,x4⟩|⟨x1,⟨x2,x3⟩,x4⟩)
  ·exact .inl ⟨x1,x2,x3,x4⟩
  ·exact .inr ⟨x1,x2,x3,x4⟩
 ·rintro e W2 ⟨⟨v,rfl⟩,⟨hi,hd,hl⟩|⟨hx,hd,hl⟩⟩
  ·have h2:=run_endLoop (P:=P) hl (by rw [hr];simp)
   have e2:r.pending=none:=by rw [hr]
   rw [e2] at h2
   exact ⟨none,_,h2,hdone _ _ (Nat.le_refl _) (hI.putObj _ hi (by omega) hl rfl) ((World.putObj_heap_other (by omega)).trans hd)⟩
  ·have h2:=run_endLoop (P:=P) hl (by simp)
   exact ⟨some .ret,_,h2,wpIn_ret (hstop _ _ (Nat.le_refl _) (hX.putObj (s:=()) _ hx (by omega) hl rfl) ((World.putObj_heap_other (by omega)).trans hd))⟩
end D
namespace D
open Go.RowKit Go.Shelf
attribute [local go_sem] Oper.semAt_some
structure BackR (Bs gr M cap:Nat) (v0 v1 v2 v3:Nat→Value) (W:World):Prop where
 box:W.cell? ⟨Bs,0,none⟩=some (.slice (some ⟨gr,0,none⟩) M cap)
 one:∀j,j<M→W.cell? ⟨gr,j*4,none⟩=some (v0 j)
 two:∀j,j<M→W.cell? ⟨gr,j*4+1,none⟩=some (v1 j)
 thr:∀j,j<M→W.cell? ⟨gr,j*4+2,none⟩=some (v2 j)
 fou:∀j,j<M→W.cell? ⟨gr,j*4+3,none⟩=some (v3 j)
def encB (M:Nat) (v0 v1 v2 v3:Nat→Value) (k:Nat):Array Value:=#[.int .i64 ((M-1-k:Nat):Int),.agg #[v0 (M-1-k),v1 (M-1-k),v2 (M-1-k),v3 (M-1-k)]]
theorem y0i (F:Fence) (m:Nat) (h166:F.fn 166) (hro:F.round=none) (hm:1≤m) (l Bs gr M cap:Nat) (hM:M≤20) (v0 v1 v2 v3:Nat→Value) (J:Nat→World→Prop) (Y:World→Prop) (hJ:∀k W,J k W→BackR Bs gr M cap v0 v1 v2 v3 W)
  (hY:∀k W,k<M→J k W→YieldAt F (m-1) Tryz.prog l (encB M v0 v1 v2 v3 k) W fun e W'=>(e=.returned (.bool true)∧J (k+1) W')∨(e=.returned (.bool false)∧Y W')) (W:World) (h0:J 0 W) :
  CallsIn F m Tryz.prog 166 #[.func (.yield l) #[] #[],.pointer (some ⟨Bs,0,none⟩)] W fun e W'=>(∃v,e=.returned v)∧(J M W'∨Y W'):=by
 have hb0:=(hJ 0 W h0).box
 refine callsIn_of_wp Tryz.func166 rfl h166 ?_ hro
 simp only [Tryz.ntmps166,List.size_toArray,List.length_cons,List.length_nil,Nat.reduceAdd,Nat.reduceSub,Array.replicate_succ,Array.replicate_zero,List.push_toArray,List.append_toArray,List.nil_append,List.cons_append]
 gi_wp2
 gi_loopw [3] (fun i wr=>∃k:Nat,k≤M∧i=.int .i64 ((M:Int)-1-(k:Int))∧J k wr) (fun i _=>(intOf i+1).toNat)
 case atStart=>exact ⟨0,Nat.zero_le _,by simp,h0⟩
 case round =>
  obtain ⟨k,hk,rfl,hJs⟩:=hrel
  by_cases hlt:k<M
  ·obtain ⟨j,hj⟩:∃j:Nat,j=M-1-k:=⟨_,rfl⟩
   have e:(M:Int)-1-(k:Int)=(j:Int):=by omega
   have hR:=hJ k wr hJs
   have c0:=hR.box
   have c1:=hR.one j (by omega)
   have c2:=hR.two j (by omega)
   have c3:=hR.thr j (by omega)
   have c4:=hR.fou j (by omega)
   obtain ⟨fn,tmps,assign,body,hy,hRd⟩:=hY k wr hlt hJs
   unfold encB at hy
   rw [←hj] at hy
   have hjM:(j:Int)<(M:Int):=by omega
   have hj0:(0:Int)≤(j:Int):=by omega
   rw [e]
   have HE:=qz e
   clear hR hj e
   gi_wp2
   refine hRd.mono ?_
   rintro e W3 (⟨rfl,hJ3⟩|⟨rfl,hY3⟩)
   ·gi_wp2
    go_roundw
    case rel=>exact ⟨k+1,by omega,by have:=uh HE;congr 1;omega,hJ3⟩
    case measure=>have:=uh HE;simp [intOf];try omega
   ·gi_wp2
    refine bodyPost_ret (results_none rfl _ _ _) rfl ?_
    exact ⟨⟨_,rfl⟩,.inr hY3⟩
  ·obtain rfl:k=M:=by omega
   have e:(k:Int)-1-(k:Int) = -1:=by omega
   rw [e]
   gi_wp2
   go_end0
   exact ⟨⟨_,rfl⟩,.inl hJs⟩
attribute [local go_sem ↓] wp_at_zero wp_at_succ
theorem y2h (a:Option Addr) (len cap:Nat) (w:World) :
  Calls Tryz.prog 142 #[.slice a len cap] w fun e w'=>e=.returned (.func (.func 166) #[] #[.pointer (some ⟨w.heap.size,0,none⟩)])∧w'=w.alloc (.cells #[.slice a len cap] 162):=by
 go_enter Tryz.func142,Tryz.ntmps142
 go_wp2_with fail
 go_ret
 exact ⟨rfl,rfl⟩
end D
end Go.Proofs.YtoicnlmfgembiaaGreat
