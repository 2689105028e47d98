/- Texts of one proof, one behind the other: X10Bg, X10Rf, X10St, X10Tn, P4, P8, P9, Pa, Qe, Ra, Rb. -/
import Derived.Test.YtljdhaepkhhnlaaGreatVG
import Derived.Lib.SlBytesConst

set_option linter.unusedVariables false
set_option maxRecDepth 100000
set_option maxHeartbeats 24000000
namespace Go.Proofs.YtljdhaepkhhnlaaGreat
namespace X10
open Go.RowKit Suf Go.Sort
attribute [local go_sem ↓] wp_at_zero wp_at_succ
def x7p (H n:Nat) (w:World) (v:Value) (x:World):Prop:=∃tx tb pg rg,v=.pointer (some ⟨tx,0,none⟩)∧H≤tx∧x.heap[tx]?=some (.cells #[.pointer (some ⟨tb,0,none⟩)] 167 (0,0))∧TAt H x tb pg rg n id (fun _=>0) (.slice none 0 0) (.slice none 0 0) [] []∧Below H w x
section
variable {P:Program} {md:Region.Mode} {ops:Array Oper} {Q:Exit→Act→World→Prop} {S:World→Prop}
theorem z3k {o:Oper} {f:FuncId} {args:Array Value} {fuel:Nat} {listed:Array Bool} {l:List Value} {df:List Deferred} {w:World} {K:Act→World→Prop} (i d:Nat)
  (hK:Shut (∀a w,S w→(S w→wpAnyH P md ops Q S fuel (listed.setIfInBounds i true) a w)→K a w)) (hd:o.dst=some d)
  (hw:Region.wanted o (yielded ops l.toArray)=true) (hrun:(execOp (Act.eval ⟨l.toArray,df⟩) o).run P w=.ok (.enter f args) w)
  (h:Calls P f args w fun e w'=>∃v,e=.returned v∧S w'∧wpAnyH P md ops Q S fuel (listed.setIfInBounds i true) ⟨(l.set d v).toArray,df⟩ w') :
  if Region.wanted o (yielded ops (⟨l.toArray,df⟩:Act).tmps)=true then Oper.wp P o ⟨l.toArray,df⟩ w K Q else K ((⟨l.toArray,df⟩:Act).put o.dst undef) w:=by
 rw [if_pos hw]
 unfold Oper.wp
 rw [hrun,Oper.upon_enter]
 refine h.mono ?_
 rintro e w' ⟨v,rfl,hS,h2⟩
 have e:Act.put (⟨l.toArray,df⟩:Act) o.dst v=⟨(l.set d v).toArray,df⟩:=by rw [hd];simp [Act.put]
 show K (Act.put ⟨l.toArray,df⟩ o.dst v) w'
 rw [e]
 exact hK.out _ _ hS (fun _=>h2)
end
structure PS (n:Nat) (w x:World) (A B C D:Option Nat):Prop where
 bel:Below w.heap.size w x
 a:∀g,A=some g→z0a x .i64 3 g n id∧w.heap.size≤g
 b:∀g,B=some g→z0a x .i64 3 g n (fun _=>0)∧w.heap.size≤g
 c:∀g,C=some g→x.heap[g]?=some (.cells #[.pointer none] 167 (0,0))∧w.heap.size≤g
 d:∀g,D=some g→∃pg rg,A=some pg∧B=some rg∧x.heap[g]?=some (.cells #[.slice (some ⟨pg,0,none⟩) n n,.slice (some ⟨rg,0,none⟩) n n,.slice none 0 0,.slice none 0 0] 171 (0,0))∧w.heap.size≤g
 ne:∀g g',A=some g→B=some g'→g≠g'
theorem PS.keep {n:Nat} {w x y:World} {A B C D:Option Nat} (h:PS n w x A B C D) (hb:Below x.heap.size x y):PS n w y A B C D :=
 ⟨h.bel.trans (hb.mono h.bel.size),fun g e=>⟨(h.a g e).1.stays hb (h.a g e).1.lt,(h.a g e).2⟩,fun g e=>⟨(h.b g e).1.stays hb (h.b g e).1.lt,(h.b g e).2⟩,
  fun g e=>⟨by rw [hb.block g (z0d (h.c g e).1)];exact (h.c g e).1,(h.c g e).2⟩,
  fun g e=>by obtain ⟨pg,rg,e1,e2,h1,h2⟩:=h.d g e;exact ⟨pg,rg,e1,e2,by rw [hb.block g (z0d h1)];exact h1,h2⟩,h.ne⟩
theorem PS.rise {n:Nat} {w x y:World} {B C:Option Nat} (h:PS n w x none B C none) (hb:Below x.heap.size x y) (hi:z0a y .i64 3 x.heap.size n id):PS n w y (some x.heap.size) B C none:=by
 have k:=h.keep hb
 exact ⟨k.bel,fun g e=>by injection e with e;subst e;exact ⟨hi,h.bel.size⟩,k.b,k.c,fun g e=>(by cases e),fun g g' e e'=>by injection e with e;subst e;have:=(h.b g' e').1.lt;omega⟩
theorem PS.make {n:Nat} {w x:World} {A C:Option Nat} (h:PS n w x A none C none):PS n w (x.alloc (.cells (z0b .i64 n (fun _=>0)) 3)) A (some x.heap.size) C none:=by
 have k:=h.keep (y:=x.alloc (.cells (z0b .i64 n (fun _=>0)) 3)) ((Below.refl _ _).alloc (Nat.le_refl _) _)
 exact ⟨k.bel,k.a,fun g e=>by injection e with e;subst e;exact ⟨heap_alloc_new _ _,h.bel.size⟩,k.c,fun g e=>(by cases e),fun g g' e e'=>by injection e' with e';subst e';have:=(h.a g e).1.lt;omega⟩
theorem PS.var {n:Nat} {w x:World} {A B D:Option Nat} (h:PS n w x A B none D):PS n w (x.alloc (.cells #[.pointer none] 167)) A B (some x.heap.size) D:=by
 have k:=h.keep (y:=x.alloc (.cells #[.pointer none] 167)) ((Below.refl _ _).alloc (Nat.le_refl _) _)
 exact ⟨k.bel,k.a,k.b,fun g e=>by injection e with e;subst e;exact ⟨heap_alloc_new _ _,h.bel.size⟩,k.d,k.ne⟩
theorem PS.box {n pg rg:Nat} {w x:World} {C:Option Nat} (h:PS n w x (some pg) (some rg) C none):PS n w (x.alloc (.cells #[.slice (some ⟨pg,0,none⟩) n n,.slice (some ⟨rg,0,none⟩) n n,.slice none 0 0,.slice none 0 0] 171)) (some pg) (some rg) C (some x.heap.size):=by
 have k:=h.keep (y:=x.alloc (.cells #[.slice (some ⟨pg,0,none⟩) n n,.slice (some ⟨rg,0,none⟩) n n,.slice none 0 0,.slice none 0 0] 171)) ((Below.refl _ _).alloc (Nat.le_refl _) _)
 exact ⟨k.bel,k.a,k.b,k.c,fun g e=>by injection e with e;subst e;exact ⟨pg,rg,rfl,rfl,heap_alloc_new _ _,h.bel.size⟩,k.ne⟩
theorem PS.cells {n tx:Nat} {w x:World} {A B D:Option Nat} (h:PS n w x A B (some tx) D):x.frozen? ⟨tx,0,none⟩=false∧x.cell? ⟨tx,0,none⟩=some (.pointer none):=by
 have:=(h.c tx rfl).1
 exact ⟨by simp [World.frozen?,this],by simp [World.cell?,this]⟩
theorem PS.done {n pg rg tx tb:Nat} {w x:World} (h:PS n w x (some pg) (some rg) (some tx) (some tb)):x7p w.heap.size n w (.pointer (some ⟨tx,0,none⟩)) (x.setCell ⟨tx,0,none⟩ (.pointer (some ⟨tb,0,none⟩))):=by
 obtain ⟨hx,hH⟩:=h.c tx rfl
 obtain ⟨pg',rg',e1,e2,hd,hd2⟩:=h.d tb rfl
 injection e1 with e1
 injection e2 with e2
 subst e1 e2
 obtain ⟨ha,ha2⟩:=h.a pg rfl
 obtain ⟨hr,hr2⟩:=h.b rg rfl
 have hne:∀k cs t,x.heap[k]?=some (.cells cs t (0,0))→t≠167→k≠tx:=fun k cs t hk ht e=>by
  subst e
  rw [hx] at hk
  injection hk with hk
  injection hk with _ hk
  exact ht hk.symm
 have hk:∀k,k≠tx→(x.setCell ⟨tx,0,none⟩ (.pointer (some ⟨tb,0,none⟩))).heap[k]?=x.heap[k]?:=fun k hk=>heap_setCell_other _ _ _ _ (by exact hk)
 refine ⟨tx,tb,pg,rg,rfl,hH,heap_setCell_same x tx 0 _ _ _ hx,⟨by rw [hk tb (hne _ _ _ hd (by decide))];exact hd,ha.of (hk pg (hne _ _ _ ha (by decide))),hr.of (hk rg (hne _ _ _ hr (by decide))),World.ownsRow_nil _ _ _ _,World.ownsRow_nil _ _ _ _,h.ne pg rg rfl rfl,fun k hk=>(by cases hk),hd2,ha2,hr2⟩,?_⟩
 exact h.bel.setCell hH _
theorem w1n (y z:Nat) (hy:y<16777216) (hz:z<256):bits .or .i64 ((y:Int)*256) (z:Int)=((y*256+z:Nat):Int):=by
 have e:(y:Int)*256=((y*256:Nat):Int):=by omega
 rw [e]
 have h1:(BitVec.ofInt 64 ((y*256:Nat):Int)).toNat=y*256:=ofInt_u64 _ (by omega)
 have h2:(BitVec.ofInt 64 (z:Int)).toNat=z:=ofInt_u64 _ (by omega)
 have h3:y*256 ||| z=y*256+z:=nat_join 8 _ _ (by omega) (by omega)
 show IntKind.i64.wrap ((BitVec.ofInt 64 ((y*256:Nat):Int) ||| BitVec.ofInt 64 (z:Int)).toNat:Int)=_
 rw [BitVec.toNat_or,h1,h2,h3,IntKind.wrap_i64]
 omega
theorem x4v (x i n:Nat) (R:Nat→Nat) (tx ix tb rg:Nat) (w:World) (htx:w.cell? ⟨tx,0,none⟩=some (.pointer (some ⟨tb,0,none⟩))) (hix:w.cell? ⟨ix,0,none⟩=some (.int .i64 (i:Int))) (hT:TbAt w tb rg n R) (hx:x<n) (hi:i<4) (hR:R x<4294967296) :
  Calls Tryz.prog 136 #[.int .i64 (x:Int),.pointer (some ⟨tx,0,none⟩),.pointer (some ⟨ix,0,none⟩)] w fun e w'=>e=.returned (.int .u8 ((dig R i x:Nat):Int))∧∃q,w'=w.drewN q:=by
 have g1:∀q,(w.drewN q).cell? ⟨tb,1,none⟩=some (.slice (some ⟨rg,0,none⟩) n n):=fun q=>hT.c1
 have g2:∀q,(w.drewN q).cell? ⟨rg,x,none⟩=some (.int .i64 (R x:Int)):=fun q=>hT.rk.cell x hx
 have g3:∀q,(w.drewN q).cell? ⟨tx,0,none⟩=some (.pointer (some ⟨tb,0,none⟩)):=fun q=>htx
 have g4:∀q,(w.drewN q).cell? ⟨ix,0,none⟩=some (.int .i64 (i:Int)):=fun q=>hix
 have hxi:(x:Int)<(n:Int):=by omega
 obtain ⟨d,hd⟩:∃d,d=dig R i x:=⟨_,rfl⟩
 rw [←hd]
 unfold dig at hd
 generalize R x=y at *
 clear hT htx hix
 obtain rfl|rfl|rfl|rfl:i=0∨i=1∨i=2∨i=3:=by omega
 ·have hdd:d=y%256:=by rw [hd];simp
  clear hd
  go_enter Tryz.func136,Tryz.ntmps136
  go_upto_region 1 with fail
  go_quiet (fail)
  go_wp2_with fail
  go_ret
  exact ⟨by rw [hdd];simp,_,rfl⟩
 ·have hdd:d=y/256%256:=by rw [hd]
  clear hd
  go_enter Tryz.func136,Tryz.ntmps136
  go_upto_region 1 with fail
  go_quiet (fail)
  go_wp2_with fail
  go_ret
  exact ⟨by rw [hdd];simp,_,rfl⟩
 ·have hdd:d=y/65536%256:=by rw [hd]
  clear hd
  go_enter Tryz.func136,Tryz.ntmps136
  go_upto_region 1 with fail
  go_quiet (fail)
  go_wp2_with fail
  go_ret
  exact ⟨by rw [hdd];simp,_,rfl⟩
 ·have hdd:d=y/16777216%256:=by rw [hd]
  clear hd
  go_enter Tryz.func136,Tryz.ntmps136
  go_upto_region 1 with fail
  go_quiet (fail)
  go_wp2_with fail
  go_ret
  exact ⟨by rw [hdd];simp;omega,_,rfl⟩
theorem x4j (b:List Nat) (a0:Option Addr) (cap:Nat) (w:World) (hc:BytesIn w a0 b) (hb:∀z∈b,z<256) (hn:b.length≤1048576) :
  Calls Tryz.prog 117 #[.slice a0 b.length cap] w fun e w'=>∃tb pg rg p R vo vp G ps,e=.returned (.pointer (some ⟨tb,0,none⟩))∧TAt w.heap.size w' tb pg rg b.length p R vo vp G ps∧Grps b 4 p R G []∧Below w.heap.size w w':=by
 have HC:=qz hc
 have HBB:=qz hb
 obtain ⟨n,hN⟩:∃n,n=b.length:=⟨_,rfl⟩
 have HNN:=qz hN
 rw [←hN] at hn ⊢
 clear hN hc hb
 go_enter Tryz.func117,Tryz.ntmps117
 go_upto_region 1 with fail
 go_cut [3] (fun v3 wc=>x7p w.heap.size n w v3 wc)
 case first =>
  refine wp_region_noPanic ?_
  refine wp_region_held_drew (S:=fun _=>True) (by kernel_rfl) True.intro (fun hHeld=>?_)
  obtain ⟨x1,hx1⟩:∃x1,x1=w.drew:=⟨_,rfl⟩
  show wpAnyH _ _ _ _ _ _ _ _ w.drew
  have HP1:Hid (PS n w x1 none none none none):=qz (by rw [hx1];exact ⟨z0t (Below.refl _ _) 1,fun g e=>(by cases e),fun g e=>(by cases e),fun g e=>(by cases e),fun g e=>(by cases e),fun g g' e=>(by cases e)⟩)
  rw [←hx1]
  clear hx1
  refine hT 0 7 rfl rfl hHeld nPp (v:=?_) (fun x hSx=>?_) ?_
  rotate_left 1
  ·go_simp<;>with_reducible rfl
  simp only [sA,sB]
  refine hT 1 8 rfl rfl hHeld nPp (v:=?_) (fun x hSx=>?_) ?_
  rotate_left 1
  ·go_simp<;>with_reducible rfl
  simp only [sA,sB]
  refine hT 3 10 rfl rfl hHeld nPp (v:=?_) (fun x hSx=>?_) ?_
  rotate_left 1
  ·go_simp<;>with_reducible rfl
  simp only [sA,sB]
  refine hT 4 11 rfl rfl hHeld nPp (v:=?_) (fun x hSx=>?_) ?_
  rotate_left 1
  ·go_simp<;>with_reducible rfl
  simp only [sA,sB]
  refine z5p (i:=2) (j:=5) (k:=8) (by kernel_rfl) rfl rfl rfl (fun K hK=>?_) (fun K hK=>?_) (fun K hK=>?_)
  ·refine z3k 2 9 hK rfl (by rfl) (by go_simp<;>exact ⟨rfl,rfl⟩) ?_
   refine (z2e n _ hn).mono ?_
   rintro e x2 ⟨rfl,hr1,hr2⟩
   refine ⟨_,rfl,True.intro,?_⟩
   simp only [sA,sB]
   have HP2:=qz ((uh HP1).rise hr2 hr1)
   clear hr1 hr2
   obtain ⟨pg,hpg⟩:∃pg,pg=x1.heap.size:=⟨_,rfl⟩
   rw [←hpg] at HP2 ⊢
   clear hpg
   refine z1i (i:=5) (j:=8) (by kernel_rfl) rfl rfl (fun K hK=>?_) (fun K hK=>?_)
   ·refine z0l 5 12 hK rfl (by rfl) (v:=.slice (some ⟨x2.heap.size,0,none⟩) n n) (w':=(x2.alloc (.cells (z0b .i64 n (fun _=>0)) 3))) ?_ True.intro ?_
    ·have hmk:=z0e x2 n (by omega);first|(go_simp;done)|(go_simp<;>first|exact ⟨rfl,rfl⟩|rfl)
    simp only [sA,sB]
    have HP3:=qz (uh HP2).make
    obtain ⟨rg,hrg⟩:∃rg,rg=x2.heap.size:=⟨_,rfl⟩
    obtain ⟨x3,hx3⟩:∃x3,x3=(x2.alloc (.cells (z0b .i64 n (fun _=>0)) 3)):=⟨_,rfl⟩
    rw [←hx3] at HP3 ⊢
    rw [←hrg] at HP3 ⊢
    clear hrg hx3
    refine hT 6 13 rfl rfl hHeld nPp (v:=?_) (fun x hSx=>?_) ?_
    rotate_left 1
    ·go_simp<;>with_reducible rfl
    simp only [sA,sB]
    refine z1i (i:=7) (j:=8) (by kernel_rfl) rfl rfl (fun K hK=>?_) (fun K hK=>?_)
    ·refine z0l 7 14 hK rfl (by rfl) (v:=.pointer (some ⟨x3.heap.size,0,none⟩)) (w':=(x3.alloc (.cells #[.slice (some ⟨pg,0,none⟩) n n,.slice (some ⟨rg,0,none⟩) n n,.slice none 0 0,.slice none 0 0] 171))) ?_ True.intro ?_
     ·have hmk:=z0e x3 n (by omega);first|(go_simp;done)|(go_simp<;>first|exact ⟨rfl,rfl⟩|rfl)
     simp only [sA,sB]
     have HP4:=qz (uh HP3).box
     obtain ⟨tb,htb⟩:∃tb,tb=x3.heap.size:=⟨_,rfl⟩
     obtain ⟨x4,hx4⟩:∃x4,x4=(x3.alloc (.cells #[.slice (some ⟨pg,0,none⟩) n n,.slice (some ⟨rg,0,none⟩) n n,.slice none 0 0,.slice none 0 0] 171)):=⟨_,rfl⟩
     rw [←hx4] at HP4 ⊢
     rw [←htb] at HP4 ⊢
     clear htb hx4
     refine hO 8 3 rfl rfl (v:=.pointer (some ⟨x4.heap.size,0,none⟩)) (w':=(x4.alloc (.cells #[.pointer none] 167))) ?_ True.intro ?_
     ·have hmk:=z0e x4 n (by omega);first|(go_simp;done)|(go_simp<;>first|exact ⟨rfl,rfl⟩|rfl)
     simp only [sA,sB]
     have HP5:=qz (uh HP4).var
     obtain ⟨tx,htx⟩:∃tx,tx=x4.heap.size:=⟨_,rfl⟩
     obtain ⟨x5,hx5⟩:∃x5,x5=(x4.alloc (.cells #[.pointer none] 167)):=⟨_,rfl⟩
     rw [←hx5] at HP5 ⊢
     rw [←htx] at HP5 ⊢
     clear htx hx5
     obtain ⟨fz,fc⟩:=(uh HP5).cells
     refine hKk 9 rfl rfl (w':=x5.setCell ⟨tx,0,none⟩ (.pointer (some ⟨tb,0,none⟩))) ?_ True.intro ?_
     ·go_simp
     refine dN ?_
     go_wp2_with fail
     go_meet
     exact (uh HP5).done
    ·refine z0l 8 3 hK rfl (by rfl) (v:=.pointer (some ⟨x3.heap.size,0,none⟩)) (w':=(x3.alloc (.cells #[.pointer none] 167))) ?_ True.intro ?_
     ·have hmk:=z0e x3 n (by omega);first|(go_simp;done)|(go_simp<;>first|exact ⟨rfl,rfl⟩|rfl)
     simp only [sA,sB]
     have HP4:=qz (uh HP3).var
     obtain ⟨tx,htx⟩:∃tx,tx=x3.heap.size:=⟨_,rfl⟩
     obtain ⟨x4,hx4⟩:∃x4,x4=(x3.alloc (.cells #[.pointer none] 167)):=⟨_,rfl⟩
     rw [←hx4] at HP4 ⊢
     rw [←htx] at HP4 ⊢
     clear htx hx4
     refine hO 7 14 rfl rfl (v:=.pointer (some ⟨x4.heap.size,0,none⟩)) (w':=(x4.alloc (.cells #[.slice (some ⟨pg,0,none⟩) n n,.slice (some ⟨rg,0,none⟩) n n,.slice none 0 0,.slice none 0 0] 171))) ?_ True.intro ?_
     ·have hmk:=z0e x4 n (by omega);first|(go_simp;done)|(go_simp<;>first|exact ⟨rfl,rfl⟩|rfl)
     simp only [sA,sB]
     have HP5:=qz (uh HP4).box
     obtain ⟨tb,htb⟩:∃tb,tb=x4.heap.size:=⟨_,rfl⟩
     obtain ⟨x5,hx5⟩:∃x5,x5=(x4.alloc (.cells #[.slice (some ⟨pg,0,none⟩) n n,.slice (some ⟨rg,0,none⟩) n n,.slice none 0 0,.slice none 0 0] 171)):=⟨_,rfl⟩
     rw [←hx5] at HP5 ⊢
     rw [←htb] at HP5 ⊢
     clear htb hx5
     obtain ⟨fz,fc⟩:=(uh HP5).cells
     refine hKk 9 rfl rfl (w':=x5.setCell ⟨tx,0,none⟩ (.pointer (some ⟨tb,0,none⟩))) ?_ True.intro ?_
     ·go_simp
     refine dN ?_
     go_wp2_with fail
     go_meet
     exact (uh HP5).done
   ·refine z0l 8 3 hK rfl (by rfl) (v:=.pointer (some ⟨x2.heap.size,0,none⟩)) (w':=(x2.alloc (.cells #[.pointer none] 167))) ?_ True.intro ?_
    ·have hmk:=z0e x2 n (by omega);first|(go_simp;done)|(go_simp<;>first|exact ⟨rfl,rfl⟩|rfl)
    simp only [sA,sB]
    have HP3:=qz (uh HP2).var
    obtain ⟨tx,htx⟩:∃tx,tx=x2.heap.size:=⟨_,rfl⟩
    obtain ⟨x3,hx3⟩:∃x3,x3=(x2.alloc (.cells #[.pointer none] 167)):=⟨_,rfl⟩
    rw [←hx3] at HP3 ⊢
    rw [←htx] at HP3 ⊢
    clear htx hx3
    refine hO 5 12 rfl rfl (v:=.slice (some ⟨x3.heap.size,0,none⟩) n n) (w':=(x3.alloc (.cells (z0b .i64 n (fun _=>0)) 3))) ?_ True.intro ?_
    ·have hmk:=z0e x3 n (by omega);first|(go_simp;done)|(go_simp<;>first|exact ⟨rfl,rfl⟩|rfl)
    simp only [sA,sB]
    have HP4:=qz (uh HP3).make
    obtain ⟨rg,hrg⟩:∃rg,rg=x3.heap.size:=⟨_,rfl⟩
    obtain ⟨x4,hx4⟩:∃x4,x4=(x3.alloc (.cells (z0b .i64 n (fun _=>0)) 3)):=⟨_,rfl⟩
    rw [←hx4] at HP4 ⊢
    rw [←hrg] at HP4 ⊢
    clear hrg hx4
    refine hT 6 13 rfl rfl hHeld nPp (v:=?_) (fun x hSx=>?_) ?_
    rotate_left 1
    ·go_simp<;>with_reducible rfl
    simp only [sA,sB]
    refine hO 7 14 rfl rfl (v:=.pointer (some ⟨x4.heap.size,0,none⟩)) (w':=(x4.alloc (.cells #[.slice (some ⟨pg,0,none⟩) n n,.slice (some ⟨rg,0,none⟩) n n,.slice none 0 0,.slice none 0 0] 171))) ?_ True.intro ?_
    ·have hmk:=z0e x4 n (by omega);first|(go_simp;done)|(go_simp<;>first|exact ⟨rfl,rfl⟩|rfl)
    simp only [sA,sB]
    have HP5:=qz (uh HP4).box
    obtain ⟨tb,htb⟩:∃tb,tb=x4.heap.size:=⟨_,rfl⟩
    obtain ⟨x5,hx5⟩:∃x5,x5=(x4.alloc (.cells #[.slice (some ⟨pg,0,none⟩) n n,.slice (some ⟨rg,0,none⟩) n n,.slice none 0 0,.slice none 0 0] 171)):=⟨_,rfl⟩
    rw [←hx5] at HP5 ⊢
    rw [←htb] at HP5 ⊢
    clear htb hx5
    obtain ⟨fz,fc⟩:=(uh HP5).cells
    refine hKk 9 rfl rfl (w':=x5.setCell ⟨tx,0,none⟩ (.pointer (some ⟨tb,0,none⟩))) ?_ True.intro ?_
    ·go_simp
    refine dN ?_
    go_wp2_with fail
    go_meet
    exact (uh HP5).done
  ·refine z0l 5 12 hK rfl (by rfl) (v:=.slice (some ⟨x1.heap.size,0,none⟩) n n) (w':=(x1.alloc (.cells (z0b .i64 n (fun _=>0)) 3))) ?_ True.intro ?_
   ·have hmk:=z0e x1 n (by omega);first|(go_simp;done)|(go_simp<;>first|exact ⟨rfl,rfl⟩|rfl)
   simp only [sA,sB]
   have HP2:=qz (uh HP1).make
   obtain ⟨rg,hrg⟩:∃rg,rg=x1.heap.size:=⟨_,rfl⟩
   obtain ⟨x2,hx2⟩:∃x2,x2=(x1.alloc (.cells (z0b .i64 n (fun _=>0)) 3)):=⟨_,rfl⟩
   rw [←hx2] at HP2 ⊢
   rw [←hrg] at HP2 ⊢
   clear hrg hx2
   refine z1i (i:=2) (j:=8) (by kernel_rfl) rfl rfl (fun K hK=>?_) (fun K hK=>?_)
   ·refine z3k 2 9 hK rfl (by rfl) (by go_simp<;>exact ⟨rfl,rfl⟩) ?_
    refine (z2e n _ hn).mono ?_
    rintro e x3 ⟨rfl,hr1,hr2⟩
    refine ⟨_,rfl,True.intro,?_⟩
    simp only [sA,sB]
    have HP3:=qz ((uh HP2).rise hr2 hr1)
    clear hr1 hr2
    obtain ⟨pg,hpg⟩:∃pg,pg=x2.heap.size:=⟨_,rfl⟩
    rw [←hpg] at HP3 ⊢
    clear hpg
    refine hT 6 13 rfl rfl hHeld nPp (v:=?_) (fun x hSx=>?_) ?_
    rotate_left 1
    ·go_simp<;>with_reducible rfl
    simp only [sA,sB]
    refine z1i (i:=7) (j:=8) (by kernel_rfl) rfl rfl (fun K hK=>?_) (fun K hK=>?_)
    ·refine z0l 7 14 hK rfl (by rfl) (v:=.pointer (some ⟨x3.heap.size,0,none⟩)) (w':=(x3.alloc (.cells #[.slice (some ⟨pg,0,none⟩) n n,.slice (some ⟨rg,0,none⟩) n n,.slice none 0 0,.slice none 0 0] 171))) ?_ True.intro ?_
     ·have hmk:=z0e x3 n (by omega);first|(go_simp;done)|(go_simp<;>first|exact ⟨rfl,rfl⟩|rfl)
     simp only [sA,sB]
     have HP4:=qz (uh HP3).box
     obtain ⟨tb,htb⟩:∃tb,tb=x3.heap.size:=⟨_,rfl⟩
     obtain ⟨x4,hx4⟩:∃x4,x4=(x3.alloc (.cells #[.slice (some ⟨pg,0,none⟩) n n,.slice (some ⟨rg,0,none⟩) n n,.slice none 0 0,.slice none 0 0] 171)):=⟨_,rfl⟩
     rw [←hx4] at HP4 ⊢
     rw [←htb] at HP4 ⊢
     clear htb hx4
     refine hO 8 3 rfl rfl (v:=.pointer (some ⟨x4.heap.size,0,none⟩)) (w':=(x4.alloc (.cells #[.pointer none] 167))) ?_ True.intro ?_
     ·have hmk:=z0e x4 n (by omega);first|(go_simp;done)|(go_simp<;>first|exact ⟨rfl,rfl⟩|rfl)
     simp only [sA,sB]
     have HP5:=qz (uh HP4).var
     obtain ⟨tx,htx⟩:∃tx,tx=x4.heap.size:=⟨_,rfl⟩
     obtain ⟨x5,hx5⟩:∃x5,x5=(x4.alloc (.cells #[.pointer none] 167)):=⟨_,rfl⟩
     rw [←hx5] at HP5 ⊢
     rw [←htx] at HP5 ⊢
     clear htx hx5
     obtain ⟨fz,fc⟩:=(uh HP5).cells
     refine hKk 9 rfl rfl (w':=x5.setCell ⟨tx,0,none⟩ (.pointer (some ⟨tb,0,none⟩))) ?_ True.intro ?_
     ·go_simp
     refine dN ?_
     go_wp2_with fail
     go_meet
     exact (uh HP5).done
    ·refine z0l 8 3 hK rfl (by rfl) (v:=.pointer (some ⟨x3.heap.size,0,none⟩)) (w':=(x3.alloc (.cells #[.pointer none] 167))) ?_ True.intro ?_
     ·have hmk:=z0e x3 n (by omega);first|(go_simp;done)|(go_simp<;>first|exact ⟨rfl,rfl⟩|rfl)
     simp only [sA,sB]
     have HP4:=qz (uh HP3).var
     obtain ⟨tx,htx⟩:∃tx,tx=x3.heap.size:=⟨_,rfl⟩
     obtain ⟨x4,hx4⟩:∃x4,x4=(x3.alloc (.cells #[.pointer none] 167)):=⟨_,rfl⟩
     rw [←hx4] at HP4 ⊢
     rw [←htx] at HP4 ⊢
     clear htx hx4
     refine hO 7 14 rfl rfl (v:=.pointer (some ⟨x4.heap.size,0,none⟩)) (w':=(x4.alloc (.cells #[.slice (some ⟨pg,0,none⟩) n n,.slice (some ⟨rg,0,none⟩) n n,.slice none 0 0,.slice none 0 0] 171))) ?_ True.intro ?_
     ·have hmk:=z0e x4 n (by omega);first|(go_simp;done)|(go_simp<;>first|exact ⟨rfl,rfl⟩|rfl)
     simp only [sA,sB]
     have HP5:=qz (uh HP4).box
     obtain ⟨tb,htb⟩:∃tb,tb=x4.heap.size:=⟨_,rfl⟩
     obtain ⟨x5,hx5⟩:∃x5,x5=(x4.alloc (.cells #[.slice (some ⟨pg,0,none⟩) n n,.slice (some ⟨rg,0,none⟩) n n,.slice none 0 0,.slice none 0 0] 171)):=⟨_,rfl⟩
     rw [←hx5] at HP5 ⊢
     rw [←htb] at HP5 ⊢
     clear htb hx5
     obtain ⟨fz,fc⟩:=(uh HP5).cells
     refine hKk 9 rfl rfl (w':=x5.setCell ⟨tx,0,none⟩ (.pointer (some ⟨tb,0,none⟩))) ?_ True.intro ?_
     ·go_simp
     refine dN ?_
     go_wp2_with fail
     go_meet
     exact (uh HP5).done
   ·refine z0l 8 3 hK rfl (by rfl) (v:=.pointer (some ⟨x2.heap.size,0,none⟩)) (w':=(x2.alloc (.cells #[.pointer none] 167))) ?_ True.intro ?_
    ·have hmk:=z0e x2 n (by omega);first|(go_simp;done)|(go_simp<;>first|exact ⟨rfl,rfl⟩|rfl)
    simp only [sA,sB]
    have HP3:=qz (uh HP2).var
    obtain ⟨tx,htx⟩:∃tx,tx=x2.heap.size:=⟨_,rfl⟩
    obtain ⟨x3,hx3⟩:∃x3,x3=(x2.alloc (.cells #[.pointer none] 167)):=⟨_,rfl⟩
    rw [←hx3] at HP3 ⊢
    rw [←htx] at HP3 ⊢
    clear htx hx3
    refine z1f 2 9 (by kernel_rfl) rfl rfl (by rfl) (by go_simp<;>exact ⟨rfl,rfl⟩) ?_
    refine (z2e n _ hn).mono ?_
    rintro e x4 ⟨rfl,hr1,hr2⟩
    refine ⟨_,rfl,True.intro,?_⟩
    simp only [sA,sB]
    have HP4:=qz ((uh HP3).rise hr2 hr1)
    clear hr1 hr2
    obtain ⟨pg,hpg⟩:∃pg,pg=x3.heap.size:=⟨_,rfl⟩
    rw [←hpg] at HP4 ⊢
    clear hpg
    refine hT 6 13 rfl rfl hHeld nPp (v:=?_) (fun x hSx=>?_) ?_
    rotate_left 1
    ·go_simp<;>with_reducible rfl
    simp only [sA,sB]
    refine hO 7 14 rfl rfl (v:=.pointer (some ⟨x4.heap.size,0,none⟩)) (w':=(x4.alloc (.cells #[.slice (some ⟨pg,0,none⟩) n n,.slice (some ⟨rg,0,none⟩) n n,.slice none 0 0,.slice none 0 0] 171))) ?_ True.intro ?_
    ·have hmk:=z0e x4 n (by omega);first|(go_simp;done)|(go_simp<;>first|exact ⟨rfl,rfl⟩|rfl)
    simp only [sA,sB]
    have HP5:=qz (uh HP4).box
    obtain ⟨tb,htb⟩:∃tb,tb=x4.heap.size:=⟨_,rfl⟩
    obtain ⟨x5,hx5⟩:∃x5,x5=(x4.alloc (.cells #[.slice (some ⟨pg,0,none⟩) n n,.slice (some ⟨rg,0,none⟩) n n,.slice none 0 0,.slice none 0 0] 171)):=⟨_,rfl⟩
    rw [←hx5] at HP5 ⊢
    rw [←htb] at HP5 ⊢
    clear htb hx5
    obtain ⟨fz,fc⟩:=(uh HP5).cells
    refine hKk 9 rfl rfl (w':=x5.setCell ⟨tx,0,none⟩ (.pointer (some ⟨tb,0,none⟩))) ?_ True.intro ?_
    ·go_simp
    refine dN ?_
    go_wp2_with fail
    go_meet
    exact (uh HP5).done
  ·refine z0l 8 3 hK rfl (by rfl) (v:=.pointer (some ⟨x1.heap.size,0,none⟩)) (w':=(x1.alloc (.cells #[.pointer none] 167))) ?_ True.intro ?_
   ·have hmk:=z0e x1 n (by omega);first|(go_simp;done)|(go_simp<;>first|exact ⟨rfl,rfl⟩|rfl)
   simp only [sA,sB]
   have HP2:=qz (uh HP1).var
   obtain ⟨tx,htx⟩:∃tx,tx=x1.heap.size:=⟨_,rfl⟩
   obtain ⟨x2,hx2⟩:∃x2,x2=(x1.alloc (.cells #[.pointer none] 167)):=⟨_,rfl⟩
   rw [←hx2] at HP2 ⊢
   rw [←htx] at HP2 ⊢
   clear htx hx2
   refine z1i (i:=2) (j:=5) (by kernel_rfl) rfl rfl (fun K hK=>?_) (fun K hK=>?_)
   ·refine z3k 2 9 hK rfl (by rfl) (by go_simp<;>exact ⟨rfl,rfl⟩) ?_
    refine (z2e n _ hn).mono ?_
    rintro e x3 ⟨rfl,hr1,hr2⟩
    refine ⟨_,rfl,True.intro,?_⟩
    simp only [sA,sB]
    have HP3:=qz ((uh HP2).rise hr2 hr1)
    clear hr1 hr2
    obtain ⟨pg,hpg⟩:∃pg,pg=x2.heap.size:=⟨_,rfl⟩
    rw [←hpg] at HP3 ⊢
    clear hpg
    refine hO 5 12 rfl rfl (v:=.slice (some ⟨x3.heap.size,0,none⟩) n n) (w':=(x3.alloc (.cells (z0b .i64 n (fun _=>0)) 3))) ?_ True.intro ?_
    ·have hmk:=z0e x3 n (by omega);first|(go_simp;done)|(go_simp<;>first|exact ⟨rfl,rfl⟩|rfl)
    simp only [sA,sB]
    have HP4:=qz (uh HP3).make
    obtain ⟨rg,hrg⟩:∃rg,rg=x3.heap.size:=⟨_,rfl⟩
    obtain ⟨x4,hx4⟩:∃x4,x4=(x3.alloc (.cells (z0b .i64 n (fun _=>0)) 3)):=⟨_,rfl⟩
    rw [←hx4] at HP4 ⊢
    rw [←hrg] at HP4 ⊢
    clear hrg hx4
    refine hT 6 13 rfl rfl hHeld nPp (v:=?_) (fun x hSx=>?_) ?_
    rotate_left 1
    ·go_simp<;>with_reducible rfl
    simp only [sA,sB]
    refine hO 7 14 rfl rfl (v:=.pointer (some ⟨x4.heap.size,0,none⟩)) (w':=(x4.alloc (.cells #[.slice (some ⟨pg,0,none⟩) n n,.slice (some ⟨rg,0,none⟩) n n,.slice none 0 0,.slice none 0 0] 171))) ?_ True.intro ?_
    ·have hmk:=z0e x4 n (by omega);first|(go_simp;done)|(go_simp<;>first|exact ⟨rfl,rfl⟩|rfl)
    simp only [sA,sB]
    have HP5:=qz (uh HP4).box
    obtain ⟨tb,htb⟩:∃tb,tb=x4.heap.size:=⟨_,rfl⟩
    obtain ⟨x5,hx5⟩:∃x5,x5=(x4.alloc (.cells #[.slice (some ⟨pg,0,none⟩) n n,.slice (some ⟨rg,0,none⟩) n n,.slice none 0 0,.slice none 0 0] 171)):=⟨_,rfl⟩
    rw [←hx5] at HP5 ⊢
    rw [←htb] at HP5 ⊢
    clear htb hx5
    obtain ⟨fz,fc⟩:=(uh HP5).cells
    refine hKk 9 rfl rfl (w':=x5.setCell ⟨tx,0,none⟩ (.pointer (some ⟨tb,0,none⟩))) ?_ True.intro ?_
    ·go_simp
    refine dN ?_
    go_wp2_with fail
    go_meet
    exact (uh HP5).done
   ·refine z0l 5 12 hK rfl (by rfl) (v:=.slice (some ⟨x2.heap.size,0,none⟩) n n) (w':=(x2.alloc (.cells (z0b .i64 n (fun _=>0)) 3))) ?_ True.intro ?_
    ·have hmk:=z0e x2 n (by omega);first|(go_simp;done)|(go_simp<;>first|exact ⟨rfl,rfl⟩|rfl)
    simp only [sA,sB]
    have HP3:=qz (uh HP2).make
    obtain ⟨rg,hrg⟩:∃rg,rg=x2.heap.size:=⟨_,rfl⟩
    obtain ⟨x3,hx3⟩:∃x3,x3=(x2.alloc (.cells (z0b .i64 n (fun _=>0)) 3)):=⟨_,rfl⟩
    rw [←hx3] at HP3 ⊢
    rw [←hrg] at HP3 ⊢
    clear hrg hx3
    refine z1f 2 9 (by kernel_rfl) rfl rfl (by rfl) (by go_simp<;>exact ⟨rfl,rfl⟩) ?_
    refine (z2e n _ hn).mono ?_
    rintro e x4 ⟨rfl,hr1,hr2⟩
    refine ⟨_,rfl,True.intro,?_⟩
    simp only [sA,sB]
    have HP4:=qz ((uh HP3).rise hr2 hr1)
    clear hr1 hr2
    obtain ⟨pg,hpg⟩:∃pg,pg=x3.heap.size:=⟨_,rfl⟩
    rw [←hpg] at HP4 ⊢
    clear hpg
    refine hT 6 13 rfl rfl hHeld nPp (v:=?_) (fun x hSx=>?_) ?_
    rotate_left 1
    ·go_simp<;>with_reducible rfl
    simp only [sA,sB]
    refine hO 7 14 rfl rfl (v:=.pointer (some ⟨x4.heap.size,0,none⟩)) (w':=(x4.alloc (.cells #[.slice (some ⟨pg,0,none⟩) n n,.slice (some ⟨rg,0,none⟩) n n,.slice none 0 0,.slice none 0 0] 171))) ?_ True.intro ?_
    ·have hmk:=z0e x4 n (by omega);first|(go_simp;done)|(go_simp<;>first|exact ⟨rfl,rfl⟩|rfl)
    simp only [sA,sB]
    have HP5:=qz (uh HP4).box
    obtain ⟨tb,htb⟩:∃tb,tb=x4.heap.size:=⟨_,rfl⟩
    obtain ⟨x5,hx5⟩:∃x5,x5=(x4.alloc (.cells #[.slice (some ⟨pg,0,none⟩) n n,.slice (some ⟨rg,0,none⟩) n n,.slice none 0 0,.slice none 0 0] 171)):=⟨_,rfl⟩
    rw [←hx5] at HP5 ⊢
    rw [←htb] at HP5 ⊢
    clear htb hx5
    obtain ⟨fz,fc⟩:=(uh HP5).cells
    refine hKk 9 rfl rfl (w':=x5.setCell ⟨tx,0,none⟩ (.pointer (some ⟨tb,0,none⟩))) ?_ True.intro ?_
    ·go_simp
    refine dN ?_
    go_wp2_with fail
    go_meet
    exact (uh HP5).done
 case rest =>
  obtain ⟨tx,tb,pg,rg,rfl,hH,hx,hT,hbl⟩:=hcut
  obtain ⟨H,hHH⟩:∃H,H=w.heap.size:=⟨_,rfl⟩
  have HHH:=qz hHH
  rw [←hHH] at hH hT hbl
  have HX0:=qz hx
  have HT0:Hid (TAt H wc tb pg rg n id (fun i=>if i<0 then key b i 4 else 0) (.slice none 0 0) (.slice none 0 0) [] []):=qz (by
   have e:(fun i=>if i<0 then key b i 4 else 0)=fun _=>0:=by funext i;simp
   rw [e];exact hT)
  have HB0:=qz hbl
  clear hx hT hbl hHH
  go_wp2_with fail
  go_loopg [17] n (fun gk d ws=>∃ (k:Nat),gk=n-k∧k≤n∧d=.int .i64 (k:Int)∧Hid (TAt H ws tb pg rg n id (fun i=>if i<k then key b i 4 else 0) (.slice none 0 0) (.slice none 0 0) [] [])∧Hid (ws.heap[tx]?=some (.cells #[.pointer (some ⟨tb,0,none⟩)] 167 (0,0)))∧Hid (Below H w ws))
  case atStart=>exact ⟨0,by omega,by omega,rfl,HT0,HX0,HB0⟩
  case round =>
   clear HT0 HX0 HB0
   obtain ⟨k,rfl,hk,rfl,HT0,HX0,HB0⟩:=hrel
   rename World=>wk
   by_cases hkl:k<n
   ·have tk:(k:Int)<(n:Int):=by omega
    go_wp2_with fail
    have HT1:Hid (TAt H wk tb pg rg n id (fun i=>if i<k then key b i 4 else if i=k then key b k 0 else 0) (.slice none 0 0) (.slice none 0 0) [] []):=qz (by
     have e:(fun i=>if i<k then key b i 4 else if i=k then key b k 0 else 0)=fun i=>if i<k then key b i 4 else 0:=by funext i;simp [key]
     rw [e];exact uh HT0)
    clear HT0
    go_loopg [20] 4 (fun gk d ws=>∃ (j:Nat),gk=4-j∧j≤4∧d=.int .i64 (j:Int)∧Hid (TAt H ws tb pg rg n id (fun i=>if i<k then key b i 4 else if i=k then key b k j else 0) (.slice none 0 0) (.slice none 0 0) [] [])∧Hid (ws.heap[tx]?=some (.cells #[.pointer (some ⟨tb,0,none⟩)] 167 (0,0)))∧Hid (Below H w ws))
    case atStart=>exact ⟨0,by omega,by omega,rfl,HT1,HX0,HB0⟩
    case round =>
     clear HT1 HX0 HB0
     obtain ⟨j,rfl,hj,rfl,HT1,HX0,HB0⟩:=hrel
     rename World=>wj
     by_cases hjl:j<4
     ·have tj:(j:Int)<4:=by omega
      have c0:wj.cell? ⟨tx,0,none⟩=some (.pointer (some ⟨tb,0,none⟩)):=by simp [World.cell?,uh HX0]
      have c1:=(uh HT1).c1
      have c2:=(uh HT1).rk.cell k hkl
      have c3:=(uh HT1).rk.free k
      rw [if_neg (Nat.lt_irrefl k),if_pos rfl] at c2
      obtain ⟨m,hm⟩:∃m,m=(k+j)%n:=⟨_,rfl⟩
      have hmn:m<n:=by rw [hm];exact Nat.mod_lt _ (by omega)
      have t1:((k:Int)+(j:Int)).tmod (n:Int)=(m:Int):=by rw [hm];exact z7b (k+j) n
      obtain ⟨gB,oB,rfl,c4⟩:=uh HC m (by rw [←uh HNN];exact hmn)
      have c5:wj.cell? ⟨gB,oB+m,none⟩=some (.int .u8 ((b.getD m 0:Nat):Int)):=by rw [(uh HB0).cell (by rw [uh HHH];exact cell_lt c4)];exact c4
      have hz:=uh HBB (b.getD m 0) (getD_mem (by rw [←uh HNN];exact hmn))
      have HKEY:Hid (key b k (j+1)=key b k j*256+b.getD m 0):=qz (by show key b k j*256+tw b k j=_;unfold tw;rw [←uh HNN,hm])
      have hks:=z5c (uh HBB) k j
      have hks2:key b k j<16777216:=Nat.lt_of_lt_of_le hks (by rw [show (16777216:Nat)=256^3 from rfl];exact Nat.pow_le_pow_right (by omega) (by omega))
      generalize b.getD m 0=z at *
      obtain ⟨y,hy⟩:∃y,y=key b k j:=⟨_,rfl⟩
      rw [←hy] at c2 hks2 HKEY
      have hn0:¬ (n:Int)=0:=by omega
      have hn0':((n:Int) == 0)=false:=by simp;omega
      have hmi:(m:Int)<(n:Int):=by omega
      clear hm c4 hks hy
      go_wp2_with fail
      go_region
      rw [w1n y z hks2 hz,←uh HKEY]
      go_wp2_with fail
      go_roundg (4-(j+1))
      case measure=>omega
      case rel =>
       refine ⟨j+1,rfl,by omega,by go_num,qz ?_,qz ?_,qz ?_⟩
       ·have h1:=((uh HT1).drewN 1).setRank k (key b k (j+1))
        have e:(upd (fun i=>if i<k then key b i 4 else if i=k then key b k j else 0) k (key b k (j+1)))=fun i=>if i<k then key b i 4 else if i=k then key b k (j+1) else 0:=by
         funext i
         unfold upd
         by_cases e1:i=k
         ·rw [if_pos e1,if_neg (by omega),if_pos e1]
         ·rw [if_neg e1]
          dsimp only
          rw [if_neg e1,if_neg e1]
        rw [e] at h1
        exact h1
       ·show (wj.setCell ⟨rg,k,none⟩ (.int .i64 ((key b k (j+1):Nat):Int))).heap[tx]?=_
        rw [heap_setCell_other _ _ _ _ ?_]
        ·exact uh HX0
        ·show tx≠rg
         rintro rfl
         have h1:=(uh HT1).rk
         unfold z0a at h1
         rw [uh HX0] at h1
         injection h1 with h1
         injection h1 with _ h1
         cases h1
       ·exact (z0t (uh HB0) 1).setCell (uh HT1).ht.2.2 _
     ·obtain rfl:j=4:=by omega
      go_wp2_with fail
      go_roundg (n-(k+1))
      case measure=>omega
      case rel =>
       refine ⟨k+1,rfl,by omega,by go_num,qz ?_,HX0,HB0⟩
       have e:(fun i=>if i<k then key b i 4 else if i=k then key b k 4 else 0)=fun i=>if i<k+1 then key b i 4 else 0:=by
        funext i
        by_cases e1:i<k
        ·rw [if_pos e1,if_pos (by omega)]
        ·rw [if_neg e1]
         by_cases e2:i=k
         ·rw [if_pos e2,if_pos (by omega),e2]
         ·rw [if_neg e2,if_neg (by omega)]
       rw [←e]
       exact uh HT1
   ·obtain rfl:n=k:=by omega
    have tk:¬ (n:Int)<(n:Int):=by omega
    obtain ⟨F,hF⟩:∃F,F=fun x=>key b x 4:=⟨_,rfl⟩
    have HFF:=qz hF
    have HFS:Hid (∀x,F x<4294967296):=qz fun x=>by rw [hF];exact z5c (uh HBB) x 4
    have HT2:Hid (TAt H wk tb pg rg n (fun r=>(rad F n 0).getD r 0) F (.slice none 0 0) (.slice none 0 0) [] []):=qz (by
     have h1:=uh HT0
     exact ⟨h1.blk,h1.pl.congr (fun i hi=>by simp [rad,List.getD_eq_getElem?_getD,List.getElem?_range hi]),h1.rk.congr (fun i hi=>by rw [if_pos hi,hF]),h1.op,h1.pc,h1.d1,h1.d2,h1.ht⟩)
    clear HT0 hF
    go_wp2_with fail
    go_loopg [50] 4 (fun gk d ws=>∃ (i pi:Nat),gk=4-i∧i≤4∧d=.int .i64 (i:Int)∧Hid (TAt H ws tb pi rg n (fun r=>(rad F n i).getD r 0) F (.slice none 0 0) (.slice none 0 0) [] [])∧Hid (ws.heap[tx]?=some (.cells #[.pointer (some ⟨tb,0,none⟩)] 167 (0,0)))∧Hid (Below H w ws))
    case atStart=>exact ⟨0,pg,rfl,by omega,rfl,HT2,HX0,HB0⟩
    case round =>
     clear HT2 HX0 HB0
     obtain ⟨i,pi,rfl,hi4,rfl,HT2,HX0,HB0⟩:=hrel
     rename World=>wi
     by_cases hil:i<4
     ·have ti:(i:Int)<4:=by omega
      have z0:(wi.alloc (.cells #[.int .i64 0] 3)).cell? ⟨wi.heap.size,0,none⟩=some (.int .i64 0):=by simp only [World.cell?,heap_alloc_new];rfl
      have z2:(wi.alloc (.cells #[.int .i64 0] 3)).frozen? ⟨wi.heap.size,0,none⟩=false:=by simp only [World.frozen?,heap_alloc_new];simp
      go_upto_region 14 with fail
      obtain ⟨ix,hix⟩:∃ix,ix=wi.heap.size:=⟨_,rfl⟩
      obtain ⟨W3,hW3⟩:∃W3,W3=wi.alloc (.cells #[.int .i64 (i:Int)] 3):=⟨_,rfl⟩
      have HT3:Hid (TAt H W3 tb pi rg n (fun r=>(rad F n i).getD r 0) F (.slice none 0 0) (.slice none 0 0) [] []):=qz (by rw [hW3];exact (uh HT2).alloc _)
      have HI3:Hid (W3.cell? ⟨ix,0,none⟩=some (.int .i64 (i:Int))):=qz (by rw [hW3,hix];simp only [World.cell?,heap_alloc_new];rfl)
      have HXB3:Hid (W3.heap[tx]?=some (.cells #[.pointer (some ⟨tb,0,none⟩)] 167 (0,0))):=qz (by rw [hW3,Below.heap_alloc _ _ _ (z0d (uh HX0))];exact uh HX0)
      have HX3:Hid (W3.cell? ⟨tx,0,none⟩=some (.pointer (some ⟨tb,0,none⟩))):=qz (by simp [World.cell?,uh HXB3])
      have HB3:Hid (Below H w W3):=qz (by rw [hW3];exact (uh HB0).alloc (by have:=(uh HB0).size;rw [←uh HHH] at this;exact this) _)
      rw [←hW3,←hix]
      clear hW3 hix z0 z2 HT2 HX0 HB0
      refine wp_region_noPanic ?_
      refine wp_region_held_drew (S:=fun x=>x.cell? ⟨tx,0,none⟩=some (.pointer (some ⟨tb,0,none⟩))) (by kernel_rfl) (uh HX3) (fun hHeld=>?_)
      obtain ⟨x1,hx1⟩:∃x1,x1=W3.drew:=⟨_,rfl⟩
      show wpAnyH _ _ _ _ _ _ _ _ W3.drew
      rw [←hx1] at hHeld ⊢
      have HT4:Hid (TAt H x1 tb pi rg n (fun r=>(rad F n i).getD r 0) F (.slice none 0 0) (.slice none 0 0) [] []):=qz (by rw [hx1];exact (uh HT3).drewN 1)
      have HI4:Hid (x1.cell? ⟨ix,0,none⟩=some (.int .i64 (i:Int))):=qz (by rw [hx1];exact uh HI3)
      have HX4:Hid (x1.heap[tx]?=some (.cells #[.pointer (some ⟨tb,0,none⟩)] 167 (0,0))):=qz (by rw [hx1];exact uh HXB3)
      have HB4:Hid (Below H w x1):=qz (by rw [hx1];exact z0t (uh HB3) 1)
      clear hx1 HT3 HI3 HB3 HX3 HXB3
      refine hT 0 53 rfl rfl hHeld nPp (v:=?_) (fun x hSx=>?_) ?_
      rotate_left 1
      ·have q0:=hSx;clear hSx;go_simp<;>with_reducible rfl
      simp only [sA,sB]
      refine hT 1 54 rfl rfl hHeld nPp (v:=?_) (fun x hSx=>?_) ?_
      rotate_left 1
      ·have q0:=hSx;clear hSx;go_simp<;>with_reducible rfl
      simp only [sA,sB]
      refine hT 2 55 rfl rfl hHeld nPp (v:=?_) (fun x hSx=>?_) ?_
      rotate_left 1
      ·go_simp<;>with_reducible rfl
      simp only [sA,sB]
      refine hT 3 56 rfl rfl hHeld nPp (v:=?_) (fun x hSx=>?_) ?_
      rotate_left 1
      ·go_simp<;>with_reducible rfl
      simp only [sA,sB]
      refine hT 5 58 rfl rfl hHeld nPp (v:=?_) (fun x hSx=>?_) ?_
      rotate_left 1
      ·go_simp<;>with_reducible rfl
      simp only [sA,sB]
      refine hO 4 57 rfl rfl (v:=.slice (some ⟨pi,0,none⟩) n n) (w':=x1) ?_ hHeld ?_
      ·have q0:=(uh HT4).c0;go_simp
      simp only [sA,sB]
      refine z1f 6 59 (by kernel_rfl) rfl rfl (by rfl) (by go_simp<;>exact ⟨rfl,rfl⟩) ?_
      refine (y2a (rad F n i) (dig F i) 136 pi n #[.pointer (some ⟨tx,0,none⟩),.pointer (some ⟨ix,0,none⟩)] x1 (x2p F n i) hn (z8p F n i) (uh HT4).pl ⟨Tryz.call136,fun x W hW hx=>?_,fun x _=>y2v F i x⟩).mono ?_
      ·have hxn:x<n:=List.mem_range.1 ((z4k F n i).mem_iff.1 hx)
       have h1:=x4v x i n F tx ix tb rg W (by rw [hW.cell (cell_lt hHeld)];exact hHeld) (by rw [hW.cell (cell_lt (uh HI4))];exact uh HI4) ⟨by rw [hW.cell (cell_lt (uh HT4).c1)];exact (uh HT4).c1,(uh HT4).rk.stays hW (uh HT4).rk.lt⟩ hxn hil (uh HFS x)
       simpa using h1
      rintro e x2 ⟨g2,rfl,hg2,hi2,hb2⟩
      refine ⟨_,rfl,by rw [hb2.cell (cell_lt hHeld)];exact hHeld,?_⟩
      simp only [sA,sB]
      have hHeld2:x2.cell? ⟨tx,0,none⟩=some (.pointer (some ⟨tb,0,none⟩)):=by rw [hb2.cell (cell_lt hHeld)];exact hHeld
      have hT5:TAt H x2 tb pi rg n (fun r=>(rad F n i).getD r 0) F (.slice none 0 0) (.slice none 0 0) [] []:=(uh HT4).keep fun k hk _=>hb2.block k hk
      have hx5:x2.heap[tx]?=some (.cells #[.pointer (some ⟨tb,0,none⟩)] 167 (0,0)):=by rw [hb2.block tx (z0d (uh HX4))];exact uh HX4
      have hH2:H≤x1.heap.size:=by have:=(uh HB4).size;rw [←uh HHH] at this;exact this
      have hgr:g2≠rg:=by have:=(uh HT4).rk.lt;omega
      have HT6:=qz (hT5.setL hi2 hgr (by omega))
      have htt:tx≠tb:=by rintro rfl;have h1:=hT5.blk;rw [hx5] at h1;injection h1 with h1;injection h1 with _ h1;cases h1
      have HX6:Hid ((x2.setCell ⟨tb,0,none⟩ (.slice (some ⟨g2,0,none⟩) n n)).heap[tx]?=some (.cells #[.pointer (some ⟨tb,0,none⟩)] 167 (0,0))):=qz (by rw [heap_setCell_other _ _ _ _ (by exact htt)];exact hx5)
      have HB6:Hid (Below H w (x2.setCell ⟨tb,0,none⟩ (.slice (some ⟨g2,0,none⟩) n n))):=qz (((uh HB4).trans (hb2.mono hH2)).setCell (uh HT4).ht.1 _)
      have s1:=hT5.c0
      have s2:=hT5.fz 0
      have HHE:Hid ((x2.setCell ⟨tb,0,none⟩ (.slice (some ⟨g2,0,none⟩) n n)).cell? ⟨tx,0,none⟩=some (.pointer (some ⟨tb,0,none⟩))):=qz (by simp [World.cell?,uh HX6])
      clear hi2 hb2 hT5 hx5 hHeld hH2
      have hHeld:=hHeld2
      refine hT 7 60 rfl rfl hHeld nPp (v:=?_) (fun x hSx=>?_) ?_
      rotate_left 1
      ·go_simp<;>with_reducible rfl
      simp only [sA,sB]
      refine hT 8 61 rfl rfl hHeld nPp (v:=?_) (fun x hSx=>?_) ?_
      rotate_left 1
      ·go_simp<;>with_reducible rfl
      simp only [sA,sB]
      refine hKk 9 rfl rfl (w':=x2.setCell ⟨tb,0,none⟩ (.slice (some ⟨g2,0,none⟩) n n)) ?_ (uh HHE) ?_
      ·go_simp
      refine dN ?_
      clear hHeld hHeld2 s1 s2
      go_wp2_with fail
      go_roundg (4-(i+1))
      case measure=>omega
      case rel=>exact ⟨i+1,g2,rfl,by omega,by go_num,qz (uh HT6),HX6,HB6⟩
     ·obtain rfl:i=4:=by omega
      have c0:wi.cell? ⟨tx,0,none⟩=some (.pointer (some ⟨tb,0,none⟩)):=by simp [World.cell?,uh HX0]
      obtain ⟨q1,q2,q3⟩:=y3q (z4k F n 4)
      have HQ1:=qz q1
      have HQ2:=qz q2
      clear q1 q2 q3
      go_wp2_with fail
      have hTT:=uh HT2
      refine (x2d H wi tb pi rg n (fun r=>(rad F n 4).getD r 0) F (.slice none 0 0) (.slice none 0 0) [] [] F 138 #[.pointer (some ⟨tx,0,none⟩)] 0 n hTT ⟨Tryz.call138,fun x W vp2 hx hkp hblk=>?_⟩ (by omega) (by omega) hn (by simp) (uh HQ1) (uh HQ2)).mono ?_
      ·have htt:tx≠tb:=by
        rintro rfl
        have h1:=hTT.blk
        rw [uh HX0] at h1
        injection h1 with h1
        injection h1 with _ h1
        cases h1
       have hno:∀k,k≠tb→¬ (k=tb∨(Value.slice none 0 0).ownBlock=some k):=fun k hk hA=>by
        rcases hA with hA|hA
        ·exact hk hA
        ·cases hA
       have h1:=y9x x n F tx tb rg W (hkp.cell c0 (hno tx htt)) ⟨by simp [World.cell?,hblk],hTT.rk.of (hkp.keep rg hTT.rk.lt (hno rg hTT.tr.symm))⟩ hx
       simpa using h1
      rintro e x3 ⟨ps3,R3,vo3,vp3,rfl,hcut,hrk,hT6,hk6,hv6,hv7⟩
      have hx3:x3.heap[tx]?=some (.cells #[.pointer (some ⟨tb,0,none⟩)] 167 (0,0)):=by
       rw [hk6.keep tx (z0d (uh HX0)) ?_]
       ·exact uh HX0
       ·have hne:∀k cs t,wi.heap[k]?=some (.cells cs t (0,0))→t≠167→tx≠k:=fun k cs t hk ht e=>by
         subst e
         rw [uh HX0] at hk
         injection hk with hk
         injection hk with _ hk
         exact ht hk.symm
        rintro (h|h|h|h)
        ·exact hne _ _ _ hTT.blk (by decide) h
        ·exact hne _ _ _ hTT.rk (by decide) h
        ·cases h
        ·cases h
      have c9:x3.cell? ⟨tx,0,none⟩=some (.pointer (some ⟨tb,0,none⟩)):=by simp [World.cell?,hx3]
      have HB9:Hid (Below H w x3):=qz (hk6.below (uh HB0) (fun k hA=>by
       rcases hA with h|h|h|h
       ·rw [h];exact hTT.ht.1
       ·rw [h];exact hTT.ht.2.2
       ·cases h
       ·cases h) (by have:=(uh HB0).size;rw [←uh HHH] at this;exact this))
      have HT9:=qz hT6
      have HCUT:=qz hcut
      have HRK:=qz hrk
      clear hT6 hk6 hv6 hv7 hcut hrk hx3 c0 hTT
      go_wp2_with fail
      go_ret
      rw [←uh HHH]
      refine ⟨tb,pi,rg,_,R3,vo3,vp3,_,ps3,rfl,uh HT9,?_,uh HB9⟩
      rw [List.nil_append]
      have h1:=uh HCUT
      have h2:=uh HRK
      rw [uh HNN,uh HFF] at h1 h2 ⊢
      exact y7y (uh HBB) h1 h2
end X10
namespace X10
open Go.RowKit Suf Go.Sort
attribute [local go_sem ↓] wp_at_zero wp_at_succ
theorem y6q:∀ (n:Nat) (L:List Nat),L.Nodup→(∀x∈L,x<n)→L.length≤n
 | 0,L,_,h=>by
  cases L with
  | nil=>simp
  | cons x l=>exact absurd (h x (List.mem_cons_self ..)) (by omega)
 | n+1,L,hd,h=>by
  have h1:=y6q n (L.erase n) (hd.erase n) fun x hx=>by
   have h2:=hd.mem_erase_iff.1 hx
   have:=h x h2.2
   have:=h2.1
   omega
  by_cases hm:n∈L
  ·rw [List.length_erase_of_mem hm] at h1
   omega
  ·rw [List.erase_of_not_mem hm] at h1
   omega
theorem z5a {b:List Nat} {h:Nat} {p R:Nat→Nat} {T N:List (Nat × Nat)} (H:Grps b h p R T N):(T++N).length≤b.length:=by
 have:=y6q b.length ((T++N).map (·.1)) (by
  rw [List.nodup_iff_pairwise_ne,List.pairwise_map]
  refine List.Pairwise.imp_of_mem ?_ H.dis
  intro g g' hg hg' hd e
  have h1:=(H.grp g hg).1
  have h2:=(H.grp g' hg').1
  unfold Dis at hd
  omega) (fun x hx=>by
  obtain ⟨g,hg,rfl⟩:=List.mem_map.1 hx
  have h1:=H.grp g hg
  have:=h1.1
  have:=h1.2.1
  omega)
 simpa using this
def y9t (H:Nat) (w:World) (tb pg rg:Nat) (b:List Nat) (h:Nat) (R:Nat→Nat) (e:Ending) (w':World):Prop :=
 ∃p' R' vo' vp' G' ps' pt,e=.returned (.bool pt)∧TAt H w' tb pg rg b.length p' R' vo' vp' G' ps'∧Mid b h R p' R' [] G' pt∧Kp (fun k=>H≤k) w w'
theorem z7m {l:List (Nat × Nat)} {i:Nat} (hi:i<l.length):l.drop i=l.getD i (0,0) :: l.drop (i+1):=by
 rw [List.drop_eq_getElem_cons hi,List.getD_eq_getElem?_getD,List.getElem?_eq_getElem hi]
 rfl
theorem x3h (X:World) (t:TypeId) (u v:Value) (g:Nat) (hg:g=X.heap.size) (hv:v.oneCell'=true):Sem.run Tryz.prog (store ⟨g,0,none⟩ v) (X.alloc (.cells #[u] t))=.ok () (X.alloc (.cells #[v] t)):=by
 subst hg
 have s1:(X.alloc (.cells #[u] t)).cell? ⟨X.heap.size,0,none⟩=some u:=by simp only [World.cell?,heap_alloc_new];rfl
 have s2:(X.alloc (.cells #[u] t)).frozen? ⟨X.heap.size,0,none⟩=false:=by simp only [World.frozen?,heap_alloc_new];simp
 rw [run_store _ _ _ _ _ hv]
 simp only [s1,s2]
 rw [World.setCell_alloc_new]
 rfl
structure RS (tx tb pg pb n q1 q2:Nat) (x:World):Prop where
 t:x.cell? ⟨tx,0,none⟩=some (.pointer (some ⟨tb,0,none⟩))
 p:x.cell? ⟨tb,0,none⟩=some (.slice (some ⟨pg,0,none⟩) n n)
 a:x.cell? ⟨pb,0,none⟩=some (.int .i64 (q1:Int))
 c:x.cell? ⟨pb,1,none⟩=some (.int .i64 (q2:Int))
theorem RS.kp {tx tb pg pb n q1 q2:Nat} {x y:World} (h:RS tx tb pg pb n q1 q2 x) (hk:Kp (fun k=>k=pg) x y) (h1:tx≠pg) (h2:tb≠pg) (h3:pb≠pg):RS tx tb pg pb n q1 q2 y :=
 ⟨hk.cell h.t h1,hk.cell h.p h2,hk.cell h.a h3,hk.cell h.c h3⟩
structure Cap (tx tb h:Nat) (x:World):Prop where
 t:x.heap[tx]?=some (.cells #[.pointer (some ⟨tb,0,none⟩)] 167 (0,0))
 h:x.heap[tx+1]?=some (.cells #[.int .i64 (h:Int)] 3 (0,0))
 f:x.heap[tx+1+1]?=some (.cells #[.func (.func 139) #[] #[.pointer (some ⟨tx+1,0,none⟩),.pointer (some ⟨tx,0,none⟩)]] 95 (0,0))
theorem Cap.c0 {tx tb h:Nat} {x:World} (k:Cap tx tb h x):x.cell? ⟨tx,0,none⟩=some (.pointer (some ⟨tb,0,none⟩)):=by simp [World.cell?,k.t]
theorem Cap.c1 {tx tb h:Nat} {x:World} (k:Cap tx tb h x):x.cell? ⟨tx+1,0,none⟩=some (.int .i64 (h:Int)):=by simp [World.cell?,k.h]
theorem Cap.c2 {tx tb h:Nat} {x:World} (k:Cap tx tb h x):x.cell? ⟨tx+1+1,0,none⟩=some (.func (.func 139) #[] #[.pointer (some ⟨tx+1,0,none⟩),.pointer (some ⟨tx,0,none⟩)]):=by simp [World.cell?,k.f]
theorem Cap.kp {A:Nat→Prop} {tx tb h:Nat} {x y:World} (k:Cap tx tb h x) (hk:Kp A x y) (h0:¬A tx) (h1:¬A (tx+1)) (h2:¬A (tx+1+1)):Cap tx tb h y :=
 ⟨by rw [hk.keep _ (z0d k.t) h0];exact k.t,by rw [hk.keep _ (z0d k.h) h1];exact k.h,by rw [hk.keep _ (z0d k.f) h2];exact k.f⟩
theorem z6i {A:Nat→Prop} {w x:World} {base e size n:Nat} {v:Value} {xs:List Value} (h:w.ownsRow base e size v n xs) (hk:Kp A w x) (hA:∀k,v.ownBlock=some k→¬A k):x.ownsRow base e size v n xs :=
 own_keep h fun g hg=>hk.keep g (h.lt g hg).2 (hA g hg)
theorem x2v (H:Nat) (w:World) (tb pg rg:Nat) (b:List Nat) (h:Nat) (p R:Nat→Nat) (vo vp:Value) (G ps:List (Nat × Nat)) (hT:TAt H w tb pg rg b.length p R vo vp G ps) (hG:Grps b h p R G []) (h0:0<h) (hh:h<b.length) (hn:b.length≤1048576) :
  Calls Tryz.prog 118 #[.pointer (some ⟨tb,0,none⟩),.int .i64 (h:Int)] w fun e w'=>y9t H w tb pg rg b h R e w':=by
 obtain ⟨n,hN⟩:∃n,n=b.length:=⟨_,rfl⟩
 have HGL:=qz (z5a hG)
 have HM0:=qz (Mid.start hG)
 have HNN:=qz hN
 rw [←hN] at hT hh hn
 obtain ⟨va,vc,rfl,_⟩:=z1w hT.op
 obtain ⟨tx,htx⟩:∃tx,tx=w.heap.size:=⟨_,rfl⟩
 obtain ⟨W0,hW0⟩:∃W0,W0=((w.alloc (.cells #[.pointer (some ⟨tb,0,none⟩)] 167)).alloc (.cells #[.int .i64 (h:Int)] 3)).alloc (.cells #[.func (.func 139) #[] #[.pointer (some ⟨w.heap.size+1,0,none⟩),.pointer (some ⟨w.heap.size,0,none⟩)]] 95):=⟨_,rfl⟩
 have hT0:TAt H W0 tb pg rg n p R (.slice va G.length vc) vp G ps:=by rw [hW0];exact ((hT.alloc _).alloc _).alloc _
 obtain ⟨X,hX⟩:∃X,X=(w.alloc (.cells #[.pointer (some ⟨tb,0,none⟩)] 167)).alloc (.cells #[.int .i64 (h:Int)] 3):=⟨_,rfl⟩
 have hXs:X.heap.size=w.heap.size+1+1:=by rw [hX];simp
 have s1:=x3h X 95 .nilFunc (.func (.func 139) #[] #[.pointer (some ⟨w.heap.size+1,0,none⟩),.pointer (some ⟨w.heap.size,0,none⟩)]) (w.heap.size+1+1) hXs.symm rfl
 have hb1:W0.heap[tx]?=some (.cells #[.pointer (some ⟨tb,0,none⟩)] 167 (0,0)):=by
  rw [hW0,htx,Below.heap_alloc _ _ _ (by simp;omega),Below.heap_alloc _ _ _ (by simp)];exact heap_alloc_new _ _
 have hb2:W0.heap[tx+1]?=some (.cells #[.int .i64 (h:Int)] 3 (0,0)):=by
  rw [hW0,htx,Below.heap_alloc _ _ _ (by simp),show w.heap.size+1=(w.alloc (.cells #[.pointer (some ⟨tb,0,none⟩)] 167)).heap.size by simp];exact heap_alloc_new _ _
 have hb3:W0.heap[tx+1+1]?=some (.cells #[.func (.func 139) #[] #[.pointer (some ⟨tx+1,0,none⟩),.pointer (some ⟨tx,0,none⟩)]] 95 (0,0)):=by
  rw [hW0,htx,←hX,←hXs];exact heap_alloc_new _ _
 have hk0:Kp (fun k=>H≤k) w W0:=by rw [hW0];exact (((Kp.refl _ w).alloc _).alloc _).alloc _
 have a1:W0.cell? ⟨tx,0,none⟩=some (.pointer (some ⟨tb,0,none⟩)):=by simp [World.cell?,hb1]
 have a2:=hT0.c2
 have a3:=hT0.fz 2
 have hsz:=hT.ht.1
 have hszt:=z0d hT.blk
 rw [hX] at s1
 rw [hW0,htx] at a1
 rw [hW0] at a2 a3
 have HB:Hid (Cap tx tb h W0):=qz ⟨hb1,hb2,hb3⟩
 have HK0:=qz hk0
 have HT0:=qz hT0
 have HT:=qz hT
 have HTX:=qz htx
 clear hN hb1 hb2 hb3 hk0 hT0 hT hX hXs htx hG
 go_enter Tryz.func118,Tryz.ntmps118
 go_wp2_with fail
 rw [←hW0,←uh HTX]
 obtain ⟨W1,hW1⟩:∃W1,W1=W0.setCell ⟨tb,2,none⟩ (.slice none 0 0):=⟨_,rfl⟩
 have hgt:tb<tx∧pg<tx∧rg<tx:=by rw [uh HTX];exact ⟨z0d (uh HT).blk,(uh HT).pl.lt,(uh HT).rk.lt⟩
 have HVT:Hid (∀k,(Value.slice va G.length vc).ownBlock=some k→k<tx):=qz fun k hk=>by rw [uh HTX];exact ((uh HT).op.lt k hk).2
 have HPT:Hid (∀k,vp.ownBlock=some k→k<tx):=qz fun k hk=>by rw [uh HTX];exact ((uh HT).pc.lt k hk).2
 have HT1:Hid (TAt H W1 tb pg rg n p R (.slice none 0 0) vp [] ps):=qz (by rw [hW1];exact (uh HT0).setO (os':=[]) (World.ownsRow_nil _ _ _ _) (fun k hk=>by cases hk))
 have HB1:Hid (Cap tx tb h W1):=qz (by
  rw [hW1]
  exact ⟨by rw [heap_setCell_other _ _ _ _ (by show tx≠tb;omega)];exact (uh HB).t,by rw [heap_setCell_other _ _ _ _ (by show tx+1≠tb;omega)];exact (uh HB).h,by rw [heap_setCell_other _ _ _ _ (by show tx+1+1≠tb;omega)];exact (uh HB).f⟩)
 have HK1:Hid (Kp (fun k=>H≤k) w W1):=qz (by rw [hW1];exact (uh HK0).set 2 _ (.inl hsz))
 have HO1:Hid (W1.ownsRow H 173 2 (.slice va G.length vc) G.length (gv G)):=qz (by
  rw [hW1]
  exact own_keep (uh HT0).op fun g hg=>heap_setCell_other _ _ _ _ (by show g≠tb;rintro rfl;exact (uh HT0).vo_t.1 hg))
 have hvd:∀k,(Value.slice va G.length vc).ownBlock=some k→vp.ownBlock≠some k:=(uh HT).d2
 have HVD:=qz hvd
 rw [←hW1]
 clear hW0 hW1 s1 a1 a2 a3 HT HT0 HB HK0 hvd
 go_loopg [7,20] G.length (fun gk pv iv' ws=>∃ (i:Nat) (pt:Bool) (p' R':Nat→Nat) (vo' vp':Value) (Nn ps':List (Nat × Nat)),gk=G.length-i∧i≤G.length∧pv=.bool pt∧iv'=.int .i64 (i:Int)∧Hid (TAt H ws tb pg rg n p' R' vo' vp' Nn ps')∧Hid (Mid b h R p' R' (G.drop i) Nn pt)∧Hid (ws.ownsRow H 173 2 (.slice va G.length vc) G.length (gv G))∧Hid (Cap tx tb h ws)∧Hid (Kp (fun k=>H≤k) w ws)∧Hid (∀k,vo'.ownBlock=some k→tx<k)∧Hid (∀k,vp'.ownBlock=some k→vp.ownBlock=some k∨tx<k))
 case atStart=>exact ⟨0,false,p,R,_,vp,[],ps,rfl,by omega,rfl,rfl,HT1,by rw [List.drop_zero];exact HM0,HO1,HB1,HK1,qz fun k hk=>(by cases hk),qz fun k hk=>.inl hk⟩
 case round =>
  clear HT1 HO1 HB1 HK1 HM0
  obtain ⟨i,pt,p',R',vo',vp',Nn,ps',rfl,hi,rfl,rfl,HT1,HM1,HO1,HB1,HK1,HV1,HV2⟩:=hrel
  rename World=>wk
  have hgl:G.length≤1048576:=by have:=uh HGL;rw [List.append_nil,←uh HNN] at this;omega
  by_cases hil:i<G.length
  ·have ti:(i:Int)<(G.length:Int):=by omega
   obtain ⟨a',c',e,hgr⟩:=z1w (uh HO1)
   injection e with e1 e2 e3
   subst e1 e3
   obtain ⟨gO,rfl,hgo2,d1,d2⟩:=hgr i hil
   rw [Nat.mul_comm] at d1 d2
   obtain ⟨q,hq⟩:∃q,q=G.getD i (0,0):=⟨_,rfl⟩
   rw [←hq] at d1 d2
   have hM:=uh HM1
   rw [z7m hil,←hq] at hM
   have hgq:=hM.grps.grp q (by simp)
   have HMEM:Hid (∀r,r<n→p' r<n):=qz (by rw [uh HNN];exact hM.grps.good.mem)
   have HINJ:Hid (∀r s,r<n→s<n→p' r=p' s→r=s):=qz (by rw [uh HNN];exact hM.grps.good.inj)
   have HNL:Hid (Nn.length≤n):=qz (by
    have:=z5a hM.grps
    rw [List.length_append,←uh HNN] at this
    omega)
   rw [←uh HNN] at hgq
   have HM2:=qz hM
   clear hgr hq hM HM1
   obtain ⟨q1,q2⟩:=q
   have hq12:q1<q2:=hgq.1
   have hq2n:q2≤n:=hgq.2.1
   clear hgq
   dsimp only at d1 d2
   have z0:(wk.alloc (.cells #[.int .i64 0,.int .i64 0] 173)).cell? ⟨wk.heap.size,0,none⟩=some (.int .i64 0):=by simp only [World.cell?,heap_alloc_new];rfl
   have z1:(wk.alloc (.cells #[.int .i64 0,.int .i64 0] 173)).cell? ⟨wk.heap.size,1,none⟩=some (.int .i64 0):=by simp only [World.cell?,heap_alloc_new];rfl
   have z2:∀o,(wk.alloc (.cells #[.int .i64 0,.int .i64 0] 173)).frozen? ⟨wk.heap.size,o,none⟩=false:=fun o=>by simp only [World.frozen?,heap_alloc_new];simp
   go_upto_region 8 with fail
   obtain ⟨pb,hpb⟩:∃pb,pb=wk.heap.size:=⟨_,rfl⟩
   obtain ⟨W3,hW3⟩:∃W3,W3=wk.alloc (.cells #[.int .i64 (q1:Int),.int .i64 (q2:Int)] 173):=⟨_,rfl⟩
   have HT3:Hid (TAt H W3 tb pg rg n p' R' vo' vp' Nn ps'):=qz (by rw [hW3];exact (uh HT1).alloc _)
   have hp3:W3.heap[pb]?=some (.cells #[.int .i64 (q1:Int),.int .i64 (q2:Int)] 173 (0,0)):=by rw [hW3,hpb];exact heap_alloc_new _ _
   have HC3:Hid (Cap tx tb h W3):=qz (by rw [hW3];exact (uh HB1).kp ((Kp.refl (fun _=>False) wk).alloc _) id id id)
   have HK3:Hid (Kp (fun k=>H≤k) w W3):=qz (by rw [hW3];exact (uh HK1).alloc _)
   have HO3:Hid (W3.ownsRow H 173 2 (.slice (some ⟨gO,0,none⟩) G.length vc) G.length (gv G)):=qz (by rw [hW3];exact (uh HO1).alloc _)
   have HRS:Hid (RS tx tb pg pb n q1 q2 W3):=qz ⟨(uh HC3).c0,(uh HT3).c0,by simp [World.cell?,hp3],by simp [World.cell?,hp3]⟩
   have hpbt:tx+1+1<pb:=by rw [hpb];exact z0d (uh HB1).f
   have HDD:Hid (tb≠pg∧rg≠pg∧tx+1+1≠pg∧tx+1≠pg∧tx≠pg):=qz ⟨(uh HT1).tp,(uh HT1).d1.symm,by omega,by omega,by omega⟩
   have HPBP:Hid (pb≠pg):=qz (by omega)
   have HPV:Hid ((∀k,vo'.ownBlock=some k→k<pb)∧(∀k,vp'.ownBlock=some k→k<pb)):=qz (by rw [hpb];exact ⟨fun k hk=>((uh HT1).op.lt k hk).2,fun k hk=>((uh HT1).pc.lt k hk).2⟩)
   rw [←hW3,←hpb]
   clear hW3 hpb z0 z1 z2 d1 d2 HT1 HB1 HK1 HO1 hp3 hgo2
   have b1:(q1:Int)≤(q2:Int):=by omega
   have b2:(q2:Int)≤(n:Int):=by omega
   have b3:¬n=q1:=by omega
   have b4:(q1:Int)≤(n:Int):=by omega
   have b5:q1≤q2:=by omega
   have b6:q2≤n:=by omega
   refine wp_region_noPanic ?_
   refine wp_region_held_drew (S:=RS tx tb pg pb n q1 q2) (by kernel_rfl) ⟨(uh HRS).t,(uh HRS).p,(uh HRS).a,(uh HRS).c⟩ (fun hHeld=>?_)
   obtain ⟨x1,hx1⟩:∃x1,x1=W3.drew:=⟨_,rfl⟩
   show wpAnyH _ _ _ _ _ _ _ _ W3.drew
   rw [←hx1] at hHeld ⊢
   have HTX1:Hid (TAt H x1 tb pg rg n p' R' vo' vp' Nn ps'):=qz (by rw [hx1];exact (uh HT3).drewN 1)
   have HCX1:Hid (Cap tx tb h x1):=qz (by rw [hx1];exact ⟨(uh HC3).t,(uh HC3).h,(uh HC3).f⟩)
   have HKX1:Hid (Kp (fun k=>H≤k) w x1):=qz (by rw [hx1];exact (uh HK3).drewN 1)
   have HOX1:Hid (x1.ownsRow H 173 2 (.slice (some ⟨gO,0,none⟩) G.length vc) G.length (gv G)):=qz (by rw [hx1];exact uh HO3)
   clear hx1 HT3 HC3 HK3 HO3 HRS
   refine hT 0 24 rfl rfl hHeld nPp (v:=?_) (fun x hSx=>?_) ?_
   rotate_left 1
   ·have q0:=hSx.t;clear hSx;go_simp<;>with_reducible rfl
   simp only [sA,sB]
   refine hT 1 25 rfl rfl hHeld nPp (v:=?_) (fun x hSx=>?_) ?_
   rotate_left 1
   ·go_simp<;>with_reducible rfl
   simp only [sA,sB]
   refine hT 2 26 rfl rfl hHeld nPp (v:=?_) (fun x hSx=>?_) ?_
   rotate_left 1
   ·go_simp<;>with_reducible rfl
   simp only [sA,sB]
   refine hT 3 27 rfl rfl hHeld nPp (v:=?_) (fun x hSx=>?_) ?_
   rotate_left 1
   ·have q0:=hSx.p;clear hSx;go_simp<;>with_reducible rfl
   simp only [sA,sB]
   refine hT 4 28 rfl rfl hHeld nPp (v:=?_) (fun x hSx=>?_) ?_
   rotate_left 1
   ·go_simp<;>with_reducible rfl
   simp only [sA,sB]
   refine hT 5 29 rfl rfl hHeld nPp (v:=?_) (fun x hSx=>?_) ?_
   rotate_left 1
   ·have q0:=hSx.a;clear hSx;go_simp<;>with_reducible rfl
   simp only [sA,sB]
   refine hT 6 30 rfl rfl hHeld nPp (v:=?_) (fun x hSx=>?_) ?_
   rotate_left 1
   ·go_simp<;>with_reducible rfl
   simp only [sA,sB]
   refine hT 7 31 rfl rfl hHeld nPp (v:=?_) (fun x hSx=>?_) ?_
   rotate_left 1
   ·have q0:=hSx.c;clear hSx;go_simp<;>with_reducible rfl
   simp only [sA,sB]
   refine hT 8 32 rfl rfl hHeld nPp (v:=?_) (fun x hSx=>?_) ?_
   rotate_left 1
   ·go_simp<;>with_reducible rfl
   simp only [sA,sB]
   refine hT 9 33 rfl rfl hHeld nPp (v:=?_) (fun x hSx=>?_) ?_
   rotate_left 1
   ·go_simp<;>with_reducible rfl
   simp only [sA,sB]
   refine z1f 10 34 (by kernel_rfl) rfl rfl (by rfl) (by go_simp<;>exact ⟨rfl,rfl⟩) ?_
   refine (x6t x1 tb pg rg n p' R' q1 q2 h (n-q1) (tx+1+1) (tx+1) tx (uh HTX1).pl ⟨(uh HTX1).c1,(uh HTX1).rk⟩ (uh HCX1).c2 (uh HCX1).c1 (uh HCX1).c0 (uh HDD) hq12 hq2n hh hn (uh HMEM) (uh HINJ)).mono ?_
   rintro e x2 ⟨rfl,p2,hpm,hle2,hpl2,hkp2⟩
   refine ⟨_,rfl,hHeld.kp hkp2 (uh HDD).2.2.2.2 (uh HDD).1 (uh HPBP),?_⟩
   simp only [sA,sB]
   refine dN ?_
   have HS2:=qz (hHeld.kp hkp2 (uh HDD).2.2.2.2 (uh HDD).1 (uh HPBP))
   have HT5:Hid (TAt H x2 tb pg rg n p2 R' vo' vp' Nn ps'):=qz ⟨by rw [hkp2.keep _ (z0d (uh HTX1).blk) (uh HDD).1];exact (uh HTX1).blk,hpl2,(uh HTX1).rk.of (hkp2.keep _ (uh HTX1).rk.lt (uh HDD).2.1),z6i (uh HTX1).op hkp2 (fun k hk e=>(uh HTX1).vo_t.2.1 (by rw [hk,e])),z6i (uh HTX1).pc hkp2 (fun k hk e=>(uh HTX1).vp_t.2.1 (by rw [hk,e])),(uh HTX1).d1,(uh HTX1).d2,(uh HTX1).ht⟩
   have HC5:Hid (Cap tx tb h x2):=qz ((uh HCX1).kp hkp2 (uh HDD).2.2.2.2 (uh HDD).2.2.2.1 (uh HDD).2.2.1)
   have HK5:Hid (Kp (fun k=>H≤k) w x2):=qz ((uh HKX1).trans (hkp2.mono fun k _ e=>by rw [e];exact (uh HTX1).ht.2.1))
   have HO5:Hid (x2.ownsRow H 173 2 (.slice (some ⟨gO,0,none⟩) G.length vc) G.length (gv G)):=qz (z6i (uh HOX1) hkp2 fun k hk e=>own_ne (uh HOX1) (uh HTX1).pl (by decide) (by rw [hk,e]))
   have HSZ5:Hid (x1.heap.size≤x2.heap.size):=qz hkp2.size
   have HPM:=qz hpm
   have HLE:=qz hle2
   clear hHeld hpm hle2 hpl2 hkp2 HTX1 HCX1 HKX1 HOX1
   have y0:=(uh HS2).t
   have y1:=(uh HS2).a
   have y2:=(uh HS2).c
   have y3:=(uh HC5).c2
   go_wp2_with fail
   have hmem2:∀r,r<n→p2 r<n:=fun r hr=>by
    by_cases hs:q1≤r∧r<q2
    ·obtain ⟨s,s1,s2,e⟩:=(uh HPM).seg r hs.1 hs.2
     rw [e]
     exact uh HMEM s (by omega)
    ·rw [(uh HPM).out r hr (by omega)]
     exact uh HMEM r hr
   refine (x2d H x2 tb pg rg n p2 R' vo' vp' Nn ps' (fun x=>R' ((x+h)%n)) 139 #[.pointer (some ⟨tx+1,0,none⟩),.pointer (some ⟨tx,0,none⟩)] q1 q2 (uh HT5) ⟨Tryz.call139,fun x W vp2 hx hkp hblk=>?_⟩ (by omega) hq2n hn (by have:=uh HNL;omega) hmem2 (uh HPM).inj).mono ?_
   ·have n1:∀k cs t,x2.heap[k]?=some (.cells cs t (0,0))→t≠173→k≠tb→¬ (k=tb∨vp'.ownBlock=some k):=fun k cs t hk ht hne hA=>by
     rcases hA with hA|hA
     ·exact hne hA
     ·exact own_ne (uh HT5).pc hk (fun e=>ht e.symm) hA
    have h1:=y0s x h n R' (tx+1) tx tb rg W (hkp.cell (uh HC5).c1 (n1 (tx+1) _ _ (uh HC5).h (by decide) (show tx+1≠tb by omega))) (hkp.cell (uh HC5).c0 (n1 tx _ _ (uh HC5).t (by decide) (show tx≠tb by omega))) ⟨by simp [World.cell?,hblk],(uh HT5).rk.of (hkp.keep rg (uh HT5).rk.lt (n1 _ _ _ (uh HT5).rk (by decide) (uh HT5).tr.symm))⟩ hx hh hn
    simpa using h1
   rintro e x3 ⟨ps3,R3,vo3,vp3,rfl,hcut,hrk,hT6,hk6,hv6,hv7⟩
   have n2:∀k cs t,x2.heap[k]?=some (.cells cs t (0,0))→t≠173→k≠tb→k≠rg→¬ (k=tb∨k=rg∨vo'.ownBlock=some k∨vp'.ownBlock=some k):=fun k cs t hk ht hne hne2 hA=>by
    rcases hA with hA|hA|hA|hA
    ·exact hne hA
    ·exact hne2 hA
    ·exact own_ne (uh HT5).op hk (fun e=>ht e.symm) hA
    ·exact own_ne (uh HT5).pc hk (fun e=>ht e.symm) hA
   have HT6:=qz hT6
   have HC6:Hid (Cap tx tb h x3):=qz ((uh HC5).kp hk6 (n2 _ _ _ (uh HC5).t (by decide) (by omega) (by omega)) (n2 _ _ _ (uh HC5).h (by decide) (by omega) (by omega)) (n2 _ _ _ (uh HC5).f (by decide) (by omega) (by omega)))
   have HK6:Hid (Kp (fun k=>H≤k) w x3):=qz ((uh HK5).trans (hk6.mono fun k _ hA=>by
    rcases hA with hA|hA|hA|hA
    ·rw [hA];exact (uh HT5).ht.1
    ·rw [hA];exact (uh HT5).ht.2.2
    ·exact ((uh HT5).op.lt k hA).1
    ·exact ((uh HT5).pc.lt k hA).1))
   have HO6:Hid (x3.ownsRow H 173 2 (.slice (some ⟨gO,0,none⟩) G.length vc) G.length (gv G)):=qz (z6i (uh HO5) hk6 fun k hk hA=>by
    have hkt:=uh HVT k hk
    rcases hA with hA|hA|hA|hA
    ·exact own_ne (uh HO5) (uh HT5).blk (by decide) (by rw [hk,hA])
    ·exact own_ne (uh HO5) (uh HT5).rk (by decide) (by rw [hk,hA])
    ·have:=uh HV1 k hA;omega
    ·rcases uh HV2 k hA with q|q
     ·exact uh HVD k hk q
     ·omega)
   have hxt:tx<x2.heap.size:=z0d (uh HC5).t
   have HV6:Hid (∀k,vo3.ownBlock=some k→tx<k):=qz fun k hk=>by
    rcases hv6 k hk with q|q
    ·exact uh HV1 k q
    ·omega
   have HV7:Hid (∀k,vp3.ownBlock=some k→vp.ownBlock=some k∨tx<k):=qz fun k hk=>by
    rcases hv7 k hk with q|q
    ·exact uh HV2 k q
    ·exact .inr (by omega)
   have HM6:Hid (Mid b h R p2 R3 (G.drop (i+1)) (Nn++wide ps3) (decide (1<ps3.length) || pt)):=qz (by
    have h1:=uh HPM
    have h2:=uh HLE
    rw [uh HNN] at h1 h2 hcut hrk
    exact (uh HM2).step h1 h2 hcut hrk)
   clear hT6 hk6 hv6 hv7 hcut hrk n2 y0 y1 y2 y3
   by_cases hpt:1<ps3.length
   ·have t1:decide (1<ps3.length)=true:=by simp;omega
    go_wp2_with fail
    go_roundg (G.length-(i+1))
    case measure=>omega
    case rel=>exact ⟨i+1,_,p2,R3,vo3,vp3,Nn++wide ps3,ps3,rfl,by omega,by rw [t1];rfl,by go_num,HT6,HM6,HO6,HC6,HK6,HV6,HV7⟩
   ·have t1:decide (1<ps3.length)=false:=by simp;omega
    go_wp2_with fail
    go_roundg (G.length-(i+1))
    case measure=>omega
    case rel=>exact ⟨i+1,_,p2,R3,vo3,vp3,Nn++wide ps3,ps3,rfl,by omega,by rw [t1];rfl,by go_num,HT6,HM6,HO6,HC6,HK6,HV6,HV7⟩
  ·obtain rfl:i=G.length:=by omega
   have ti:¬ (G.length:Int)<(G.length:Int):=by omega
   go_wp2_with fail
   go_ret
   refine ⟨p',R',vo',vp',Nn,ps',pt,rfl,by rw [←uh HNN];exact uh HT1,?_,uh HK1⟩
   have:=uh HM1
   rw [List.drop_length] at this
   exact this
end X10
namespace X10
open Go.RowKit Suf Go.Sort
attribute [local go_sem ↓] wp_at_zero wp_at_succ
structure RSb (tb pg pb n q1 q2:Nat) (x:World):Prop where
 p:x.cell? ⟨tb,0,none⟩=some (.slice (some ⟨pg,0,none⟩) n n)
 a:x.cell? ⟨pb,0,none⟩=some (.int .i64 (q1:Int))
 c:x.cell? ⟨pb,1,none⟩=some (.int .i64 (q2:Int))
theorem RSb.kp {tb pg pb n q1 q2:Nat} {x y:World} (h:RSb tb pg pb n q1 q2 x) (hk:Kp (fun k=>k=pg) x y) (h2:tb≠pg) (h3:pb≠pg):RSb tb pg pb n q1 q2 y :=
 ⟨hk.cell h.p h2,hk.cell h.a h3,hk.cell h.c h3⟩
theorem x6s (b:List Nat) (a0:Option Addr) (cap:Nat) (w:World) (hc:BytesIn w a0 b) (hb:∀z∈b,z<256) (hn:b.length≤1048576) :
  Calls Tryz.prog 97 #[.slice a0 b.length cap] w fun e w'=>∃g l,e=.returned (.slice (some ⟨g,0,none⟩) b.length b.length)∧w.heap.size≤g∧IsRows b l∧z0a w' .i64 3 g b.length (fun i=>l.getD i 0)∧Below w.heap.size w w':=by
 have HBG:=qz (x4j b a0 cap w hc hb hn)
 obtain ⟨n,hN⟩:∃n,n=b.length:=⟨_,rfl⟩
 have HNN:=qz hN
 rw [←hN] at hn HBG ⊢
 clear hN hc hb
 go_enter Tryz.func97,Tryz.ntmps97
 go_wp2_with fail
 refine (uh HBG).mono ?_
 clear HBG
 rintro e w1 ⟨tb,pg,rg,p,R,vo,vp,G,ps,rfl,hT,hG,hB⟩
 obtain ⟨H,hHH⟩:∃H,H=w.heap.size:=⟨_,rfl⟩
 have HHH:=qz hHH
 rw [←hHH] at hT hB
 have HT0:=qz hT
 have HG0:=qz hG
 have HB0:=qz hB
 clear hT hG hB hHH
 go_wp2_with fail
 go_loopg [4] (n-4) (fun gk d ws=>∃ (h:Nat) (p1 R1:Nat→Nat) (vo1 vp1:Value) (G1 ps1:List (Nat × Nat)),gk=n-h∧4≤h∧h≤2097152∧d=.int .i64 (h:Int)∧Hid (TAt H ws tb pg rg n p1 R1 vo1 vp1 G1 ps1)∧Hid (Grps b h p1 R1 G1 [])∧Hid (Below H w ws))
 case atStart=>exact ⟨4,p,R,vo,vp,G,ps,rfl,by omega,by omega,rfl,HT0,HG0,HB0⟩
 case round =>
  clear HT0 HG0 HB0
  obtain ⟨h,p1,R1,vo1,vp1,G1,ps1,rfl,h4,hh2,rfl,HTR,HG1,HBR⟩:=hrel
  rename World=>wr
  by_cases hlt:h<n
  ·have tl:(h:Int)<(n:Int):=by omega
   have HRF:Hid (Calls Tryz.prog 118 #[.pointer (some ⟨tb,0,none⟩),.int .i64 (h:Int)] wr fun e w'=>y9t H wr tb pg rg b h R1 e w'):=qz (x2v H wr tb pg rg b h p1 R1 vo1 vp1 G1 ps1 (by rw [←uh HNN];exact uh HTR) (uh HG1) (by omega) (by rw [←uh HNN];exact hlt) (by rw [←uh HNN];exact hn))
   go_wp2_with fail
   refine (uh HRF).mono ?_
   clear HRF
   rintro e x1 ⟨p2,R2,vo2,vp2,G2,ps2,pt,rfl,hT2,hM2,hK2⟩
   rw [←uh HNN] at hT2
   have hbs:H≤wr.heap.size:=by have:=(uh HBR).size;rw [←uh HHH] at this;exact this
   have HB2:Hid (Below H w x1):=qz (hK2.below (uh HBR) (fun k hk=>hk) hbs)
   have HT2:=qz hT2
   have HM2:=qz hM2
   clear hT2 hM2 hK2 hbs HTR HG1 HBR
   cases pt with
   | true =>
    go_wp2_with fail
    go_roundg (n-(h*2))
    case measure=>omega
    case rel=>exact ⟨h*2,p2,R2,vo2,vp2,G2,ps2,rfl,by omega,by omega,by go_num,HT2,qz (by have:=(uh HM2).done;rw [show h+h=h*2 by omega] at this;exact this),HB2⟩
   | false =>
    have HFR:Hid (Fin' b p2 R2 G2 []):=qz (Fin'.of (uh HM2).done fun i k hi hk e=>(uh HM2).like (by omega) i k hi hk e)
    clear HM2
    have HTR:=HT2
    have HBR:=HB2
    clear HT2 HB2
    obtain ⟨va,vc,rfl,_⟩:=z1w (uh HTR).op
    have c2:=(uh HTR).c2
    have hgl:G2.length≤1048576:=by
     obtain ⟨h',hg'⟩:=(uh HFR).grps
     have:=z5a hg'
     rw [List.append_nil,←uh HNN] at this
     omega
    go_wp2_with fail
    clear c2
    go_loopg [24] G2.length (fun gk iv' ws=>∃ (i:Nat) (p':Nat→Nat),gk=G2.length-i∧i≤G2.length∧iv'=.int .i64 (i:Int)∧Hid (TAt H ws tb pg rg n p' R2 (.slice va G2.length vc) vp2 G2 ps2)∧Hid (Fin' b p' R2 (G2.drop i) (G2.take i))∧Hid (Below H w ws))
    case atStart=>exact ⟨0,p2,rfl,by omega,rfl,HTR,qz (uh HFR),HBR⟩
    case round =>
     clear HTR HFR HBR
     obtain ⟨i,p',rfl,hi,rfl,HT1,HF1,HB1⟩:=hrel
     rename World=>wk
     by_cases hil:i<G2.length
     ·have ti:(i:Int)<(G2.length:Int):=by omega
      obtain ⟨a',c',e,hgr⟩:=z1w (uh HT1).op
      injection e with e1 e2 e3
      subst e1 e3
      obtain ⟨gO,rfl,hgo2,d1,d2⟩:=hgr i hil
      rw [Nat.mul_comm] at d1 d2
      obtain ⟨q,hq⟩:∃q,q=G2.getD i (0,0):=⟨_,rfl⟩
      rw [←hq] at d1 d2
      have hF:=uh HF1
      rw [z7m hil,←hq] at hF
      obtain ⟨h',hg'⟩:=hF.grps
      have hgq:=hg'.grp q (by simp)
      have HINJ:Hid (∀r s,r<n→s<n→p' r=p' s→r=s):=qz (by rw [uh HNN];exact hg'.good.inj)
      rw [←uh HNN] at hgq
      have HF2:=qz hF
      have HQ:=qz hq
      clear hgr hq hF HF1 hg'
      obtain ⟨q1,q2⟩:=q
      have hq12:q1<q2:=hgq.1
      have hq2n:q2≤n:=hgq.2.1
      clear hgq
      dsimp only at d1 d2
      have z0:(wk.alloc (.cells #[.int .i64 0,.int .i64 0] 173)).cell? ⟨wk.heap.size,0,none⟩=some (.int .i64 0):=by simp only [World.cell?,heap_alloc_new];rfl
      have z1:(wk.alloc (.cells #[.int .i64 0,.int .i64 0] 173)).cell? ⟨wk.heap.size,1,none⟩=some (.int .i64 0):=by simp only [World.cell?,heap_alloc_new];rfl
      have z2:∀o,(wk.alloc (.cells #[.int .i64 0,.int .i64 0] 173)).frozen? ⟨wk.heap.size,o,none⟩=false:=fun o=>by simp only [World.frozen?,heap_alloc_new];simp
      go_upto_region 9 with fail
      obtain ⟨pb,hpb⟩:∃pb,pb=wk.heap.size:=⟨_,rfl⟩
      obtain ⟨W3,hW3⟩:∃W3,W3=wk.alloc (.cells #[.int .i64 (q1:Int),.int .i64 (q2:Int)] 173):=⟨_,rfl⟩
      have HT3:Hid (TAt H W3 tb pg rg n p' R2 (.slice (some ⟨gO,0,none⟩) G2.length vc) vp2 G2 ps2):=qz (by rw [hW3];exact (uh HT1).alloc _)
      have hp3:W3.heap[pb]?=some (.cells #[.int .i64 (q1:Int),.int .i64 (q2:Int)] 173 (0,0)):=by rw [hW3,hpb];exact heap_alloc_new _ _
      have HB3:Hid (Below H w W3):=qz (by rw [hW3];exact (uh HB1).alloc (by have:=(uh HB1).size;rw [←uh HHH] at this;exact this) _)
      have HRS:Hid (RSb tb pg pb n q1 q2 W3):=qz ⟨(uh HT3).c0,by simp [World.cell?,hp3],by simp [World.cell?,hp3]⟩
      have HPBP:Hid (pb≠pg):=qz (by have:=(uh HT1).pl.lt;omega)
      rw [←hW3,←hpb]
      clear hW3 hpb z0 z1 z2 d1 d2 HT1 HB1 hp3 hgo2
      have b1:(q1:Int)≤(q2:Int):=by omega
      have b2:(q2:Int)≤(n:Int):=by omega
      have b3:¬n=q1:=by omega
      have b4:(q1:Int)≤(n:Int):=by omega
      have b5:q1≤q2:=by omega
      have b6:q2≤n:=by omega
      refine wp_region_noPanic ?_
      refine wp_region_held_drew (S:=RSb tb pg pb n q1 q2) (by kernel_rfl) ⟨(uh HRS).p,(uh HRS).a,(uh HRS).c⟩ (fun hHeld=>?_)
      obtain ⟨x1,hx1⟩:∃x1,x1=W3.drew:=⟨_,rfl⟩
      show wpAnyH _ _ _ _ _ _ _ _ W3.drew
      rw [←hx1] at hHeld ⊢
      have HTX1:Hid (TAt H x1 tb pg rg n p' R2 (.slice (some ⟨gO,0,none⟩) G2.length vc) vp2 G2 ps2):=qz (by rw [hx1];exact (uh HT3).drewN 1)
      have HBX1:Hid (Below H w x1):=qz (by rw [hx1];exact z0t (uh HB3) 1)
      clear hx1 HT3 HB3 HRS
      refine hT 0 28 rfl rfl hHeld nPp (v:=?_) (fun x hSx=>?_) ?_
      rotate_left 1
      ·go_simp<;>with_reducible rfl
      simp only [sA,sB]
      refine hT 1 29 rfl rfl hHeld nPp (v:=?_) (fun x hSx=>?_) ?_
      rotate_left 1
      ·go_simp<;>with_reducible rfl
      simp only [sA,sB]
      refine hT 2 30 rfl rfl hHeld nPp (v:=?_) (fun x hSx=>?_) ?_
      rotate_left 1
      ·go_simp<;>with_reducible rfl
      simp only [sA,sB]
      refine hT 3 31 rfl rfl hHeld nPp (v:=?_) (fun x hSx=>?_) ?_
      rotate_left 1
      ·have q0:=hSx.p;clear hSx;go_simp<;>with_reducible rfl
      simp only [sA,sB]
      refine hT 4 32 rfl rfl hHeld nPp (v:=?_) (fun x hSx=>?_) ?_
      rotate_left 1
      ·go_simp<;>with_reducible rfl
      simp only [sA,sB]
      refine hT 5 33 rfl rfl hHeld nPp (v:=?_) (fun x hSx=>?_) ?_
      rotate_left 1
      ·have q0:=hSx.a;clear hSx;go_simp<;>with_reducible rfl
      simp only [sA,sB]
      refine hT 6 34 rfl rfl hHeld nPp (v:=?_) (fun x hSx=>?_) ?_
      rotate_left 1
      ·go_simp<;>with_reducible rfl
      simp only [sA,sB]
      refine hT 7 35 rfl rfl hHeld nPp (v:=?_) (fun x hSx=>?_) ?_
      rotate_left 1
      ·have q0:=hSx.c;clear hSx;go_simp<;>with_reducible rfl
      simp only [sA,sB]
      refine hT 8 36 rfl rfl hHeld nPp (v:=?_) (fun x hSx=>?_) ?_
      rotate_left 1
      ·go_simp<;>with_reducible rfl
      simp only [sA,sB]
      refine z1f 9 37 (by kernel_rfl) rfl rfl (by rfl) (by go_simp<;>exact ⟨rfl,rfl⟩) ?_
      refine (y7d x1 pg n p' q1 q2 (n-q1) (uh HTX1).pl hq12 hq2n hn (uh HINJ)).mono ?_
      rintro e x2 ⟨rfl,p3,hpm,hlt2,hpl2,hkp2⟩
      refine ⟨_,rfl,hHeld.kp hkp2 (uh HTX1).tp (uh HPBP),?_⟩
      simp only [sA,sB]
      refine dN ?_
      have HT5:Hid (TAt H x2 tb pg rg n p3 R2 (.slice (some ⟨gO,0,none⟩) G2.length vc) vp2 G2 ps2):=qz ⟨by rw [hkp2.keep _ (z0d (uh HTX1).blk) (uh HTX1).tp];exact (uh HTX1).blk,hpl2,(uh HTX1).rk.of (hkp2.keep _ (uh HTX1).rk.lt (uh HTX1).d1.symm),z6i (uh HTX1).op hkp2 (fun k hk e=>(uh HTX1).vo_t.2.1 (by rw [hk,e])),z6i (uh HTX1).pc hkp2 (fun k hk e=>(uh HTX1).vp_t.2.1 (by rw [hk,e])),(uh HTX1).d1,(uh HTX1).d2,(uh HTX1).ht⟩
      have HB5:Hid (Below H w x2):=qz (hkp2.below (uh HBX1) (fun k e=>by rw [e];exact (uh HTX1).ht.2.1) (by have:=(uh HBX1).size;rw [←uh HHH] at this;exact this))
      have HF5:Hid (Fin' b p3 R2 (G2.drop (i+1)) (G2.take (i+1))):=qz (by have h1:=hpm;rw [uh HNN] at h1;rw [z2o hil (uh HQ)];exact (uh HF2).step h1 hlt2)
      clear hHeld hpm hlt2 hpl2 hkp2 HTX1 HBX1
      go_wp2_with fail
      go_roundg (G2.length-(i+1))
      case measure=>omega
      case rel=>exact ⟨i+1,p3,rfl,by omega,by go_num,HT5,HF5,HB5⟩
     ·obtain rfl:i=G2.length:=by omega
      have ti:¬ (G2.length:Int)<(G2.length:Int):=by omega
      have c0:=(uh HT1).c0
      go_wp2_with fail
      go_ret
      have hF:=uh HF1
      rw [List.drop_length] at hF
      rw [←uh HHH]
      refine ⟨pg,rfl,(uh HT1).ht.2.1,(List.range n).map p',by rw [uh HNN];exact hF.rows,(uh HT1).pl.congr fun r hr=>?_,uh HB1⟩
      rw [List.getElem?_map,List.getElem?_range hr]
      rfl
  ·have tl:¬ (h:Int)<(n:Int):=by omega
   have HFR:Hid (Fin' b p1 R1 G1 []):=qz (Fin'.of (uh HG1) fun i k hi hk e=>((uh HG1).good.eq i k hi hk e).rot (by rw [←uh HNN];omega))
   clear HG1
   obtain ⟨va,vc,rfl,_⟩:=z1w (uh HTR).op
   have c2:=(uh HTR).c2
   have hgl:G1.length≤1048576:=by
    obtain ⟨h',hg'⟩:=(uh HFR).grps
    have:=z5a hg'
    rw [List.append_nil,←uh HNN] at this
    omega
   go_wp2_with fail
   clear c2
   go_loopg [24] G1.length (fun gk iv' ws=>∃ (i:Nat) (p':Nat→Nat),gk=G1.length-i∧i≤G1.length∧iv'=.int .i64 (i:Int)∧Hid (TAt H ws tb pg rg n p' R1 (.slice va G1.length vc) vp1 G1 ps1)∧Hid (Fin' b p' R1 (G1.drop i) (G1.take i))∧Hid (Below H w ws))
   case atStart=>exact ⟨0,p1,rfl,by omega,rfl,HTR,qz (uh HFR),HBR⟩
   case round =>
    clear HTR HFR HBR
    obtain ⟨i,p',rfl,hi,rfl,HT1,HF1,HB1⟩:=hrel
    rename World=>wk
    by_cases hil:i<G1.length
    ·have ti:(i:Int)<(G1.length:Int):=by omega
     obtain ⟨a',c',e,hgr⟩:=z1w (uh HT1).op
     injection e with e1 e2 e3
     subst e1 e3
     obtain ⟨gO,rfl,hgo2,d1,d2⟩:=hgr i hil
     rw [Nat.mul_comm] at d1 d2
     obtain ⟨q,hq⟩:∃q,q=G1.getD i (0,0):=⟨_,rfl⟩
     rw [←hq] at d1 d2
     have hF:=uh HF1
     rw [z7m hil,←hq] at hF
     obtain ⟨h',hg'⟩:=hF.grps
     have hgq:=hg'.grp q (by simp)
     have HINJ:Hid (∀r s,r<n→s<n→p' r=p' s→r=s):=qz (by rw [uh HNN];exact hg'.good.inj)
     rw [←uh HNN] at hgq
     have HF2:=qz hF
     have HQ:=qz hq
     clear hgr hq hF HF1 hg'
     obtain ⟨q1,q2⟩:=q
     have hq12:q1<q2:=hgq.1
     have hq2n:q2≤n:=hgq.2.1
     clear hgq
     dsimp only at d1 d2
     have z0:(wk.alloc (.cells #[.int .i64 0,.int .i64 0] 173)).cell? ⟨wk.heap.size,0,none⟩=some (.int .i64 0):=by simp only [World.cell?,heap_alloc_new];rfl
     have z1:(wk.alloc (.cells #[.int .i64 0,.int .i64 0] 173)).cell? ⟨wk.heap.size,1,none⟩=some (.int .i64 0):=by simp only [World.cell?,heap_alloc_new];rfl
     have z2:∀o,(wk.alloc (.cells #[.int .i64 0,.int .i64 0] 173)).frozen? ⟨wk.heap.size,o,none⟩=false:=fun o=>by simp only [World.frozen?,heap_alloc_new];simp
     go_upto_region 9 with fail
     obtain ⟨pb,hpb⟩:∃pb,pb=wk.heap.size:=⟨_,rfl⟩
     obtain ⟨W3,hW3⟩:∃W3,W3=wk.alloc (.cells #[.int .i64 (q1:Int),.int .i64 (q2:Int)] 173):=⟨_,rfl⟩
     have HT3:Hid (TAt H W3 tb pg rg n p' R1 (.slice (some ⟨gO,0,none⟩) G1.length vc) vp1 G1 ps1):=qz (by rw [hW3];exact (uh HT1).alloc _)
     have hp3:W3.heap[pb]?=some (.cells #[.int .i64 (q1:Int),.int .i64 (q2:Int)] 173 (0,0)):=by rw [hW3,hpb];exact heap_alloc_new _ _
     have HB3:Hid (Below H w W3):=qz (by rw [hW3];exact (uh HB1).alloc (by have:=(uh HB1).size;rw [←uh HHH] at this;exact this) _)
     have HRS:Hid (RSb tb pg pb n q1 q2 W3):=qz ⟨(uh HT3).c0,by simp [World.cell?,hp3],by simp [World.cell?,hp3]⟩
     have HPBP:Hid (pb≠pg):=qz (by have:=(uh HT1).pl.lt;omega)
     rw [←hW3,←hpb]
     clear hW3 hpb z0 z1 z2 d1 d2 HT1 HB1 hp3 hgo2
     have b1:(q1:Int)≤(q2:Int):=by omega
     have b2:(q2:Int)≤(n:Int):=by omega
     have b3:¬n=q1:=by omega
     have b4:(q1:Int)≤(n:Int):=by omega
     have b5:q1≤q2:=by omega
     have b6:q2≤n:=by omega
     refine wp_region_noPanic ?_
     refine wp_region_held_drew (S:=RSb tb pg pb n q1 q2) (by kernel_rfl) ⟨(uh HRS).p,(uh HRS).a,(uh HRS).c⟩ (fun hHeld=>?_)
     obtain ⟨x1,hx1⟩:∃x1,x1=W3.drew:=⟨_,rfl⟩
     show wpAnyH _ _ _ _ _ _ _ _ W3.drew
     rw [←hx1] at hHeld ⊢
     have HTX1:Hid (TAt H x1 tb pg rg n p' R1 (.slice (some ⟨gO,0,none⟩) G1.length vc) vp1 G1 ps1):=qz (by rw [hx1];exact (uh HT3).drewN 1)
     have HBX1:Hid (Below H w x1):=qz (by rw [hx1];exact z0t (uh HB3) 1)
     clear hx1 HT3 HB3 HRS
     refine hT 0 28 rfl rfl hHeld nPp (v:=?_) (fun x hSx=>?_) ?_
     rotate_left 1
     ·go_simp<;>with_reducible rfl
     simp only [sA,sB]
     refine hT 1 29 rfl rfl hHeld nPp (v:=?_) (fun x hSx=>?_) ?_
     rotate_left 1
     ·go_simp<;>with_reducible rfl
     simp only [sA,sB]
     refine hT 2 30 rfl rfl hHeld nPp (v:=?_) (fun x hSx=>?_) ?_
     rotate_left 1
     ·go_simp<;>with_reducible rfl
     simp only [sA,sB]
     refine hT 3 31 rfl rfl hHeld nPp (v:=?_) (fun x hSx=>?_) ?_
     rotate_left 1
     ·have q0:=hSx.p;clear hSx;go_simp<;>with_reducible rfl
     simp only [sA,sB]
     refine hT 4 32 rfl rfl hHeld nPp (v:=?_) (fun x hSx=>?_) ?_
     rotate_left 1
     ·go_simp<;>with_reducible rfl
     simp only [sA,sB]
     refine hT 5 33 rfl rfl hHeld nPp (v:=?_) (fun x hSx=>?_) ?_
     rotate_left 1
     ·have q0:=hSx.a;clear hSx;go_simp<;>with_reducible rfl
     simp only [sA,sB]
     refine hT 6 34 rfl rfl hHeld nPp (v:=?_) (fun x hSx=>?_) ?_
     rotate_left 1
     ·go_simp<;>with_reducible rfl
     simp only [sA,sB]
     refine hT 7 35 rfl rfl hHeld nPp (v:=?_) (fun x hSx=>?_) ?_
     rotate_left 1
     ·have q0:=hSx.c;clear hSx;go_simp<;>with_reducible rfl
     simp only [sA,sB]
     refine hT 8 36 rfl rfl hHeld nPp (v:=?_) (fun x hSx=>?_) ?_
     rotate_left 1
     ·go_simp<;>with_reducible rfl
     simp only [sA,sB]
     refine z1f 9 37 (by kernel_rfl) rfl rfl (by rfl) (by go_simp<;>exact ⟨rfl,rfl⟩) ?_
     refine (y7d x1 pg n p' q1 q2 (n-q1) (uh HTX1).pl hq12 hq2n hn (uh HINJ)).mono ?_
     rintro e x2 ⟨rfl,p2,hpm,hlt2,hpl2,hkp2⟩
     refine ⟨_,rfl,hHeld.kp hkp2 (uh HTX1).tp (uh HPBP),?_⟩
     simp only [sA,sB]
     refine dN ?_
     have HT5:Hid (TAt H x2 tb pg rg n p2 R1 (.slice (some ⟨gO,0,none⟩) G1.length vc) vp1 G1 ps1):=qz ⟨by rw [hkp2.keep _ (z0d (uh HTX1).blk) (uh HTX1).tp];exact (uh HTX1).blk,hpl2,(uh HTX1).rk.of (hkp2.keep _ (uh HTX1).rk.lt (uh HTX1).d1.symm),z6i (uh HTX1).op hkp2 (fun k hk e=>(uh HTX1).vo_t.2.1 (by rw [hk,e])),z6i (uh HTX1).pc hkp2 (fun k hk e=>(uh HTX1).vp_t.2.1 (by rw [hk,e])),(uh HTX1).d1,(uh HTX1).d2,(uh HTX1).ht⟩
     have HB5:Hid (Below H w x2):=qz (hkp2.below (uh HBX1) (fun k e=>by rw [e];exact (uh HTX1).ht.2.1) (by have:=(uh HBX1).size;rw [←uh HHH] at this;exact this))
     have HF5:Hid (Fin' b p2 R1 (G1.drop (i+1)) (G1.take (i+1))):=qz (by have h1:=hpm;rw [uh HNN] at h1;rw [z2o hil (uh HQ)];exact (uh HF2).step h1 hlt2)
     clear hHeld hpm hlt2 hpl2 hkp2 HTX1 HBX1
     go_wp2_with fail
     go_roundg (G1.length-(i+1))
     case measure=>omega
     case rel=>exact ⟨i+1,p2,rfl,by omega,by go_num,HT5,HF5,HB5⟩
    ·obtain rfl:i=G1.length:=by omega
     have ti:¬ (G1.length:Int)<(G1.length:Int):=by omega
     have c0:=(uh HT1).c0
     go_wp2_with fail
     go_ret
     have hF:=uh HF1
     rw [List.drop_length] at hF
     rw [←uh HHH]
     refine ⟨pg,rfl,(uh HT1).ht.2.1,(List.range n).map p',by rw [uh HNN];exact hF.rows,(uh HT1).pl.congr fun r hr=>?_,uh HB1⟩
     rw [List.getElem?_map,List.getElem?_range hr]
     rfl
end X10
namespace X10
open Go.RowKit Suf
def w0l (b:List Nat) (c:List Nat) (r e:Nat):Prop:=(1048576<b.length∧c=[]∧r=0∧e=3)∨(b.length≤1048576∧e=0∧∃l,IsRows b l∧c=col b l∧r=rowTo l b.length)
theorem x8u {b l:List Nat} (h:IsRows b l):(col b l).length=b.length:=by rw [col,List.length_map,h.len]
def x4e (b:List Nat) (w:World) (e:Ending) (w':World):Prop:=∃v c r er,e=.returned (.tuple #[v,.int .i64 ((r:Nat):Int),.int .i64 ((er:Nat):Int)])∧w0l b c r er∧Row w.heap.size w'.heap.size w' v .u8 5 c∧Below w.heap.size w w'
theorem x6m (a0:Option Addr) (n cap:Nat) (w:World) (hn:1048576<n) :
  Calls Tryz.prog 67 #[.slice a0 n cap] w fun e w'=>e=.returned (.tuple #[.slice none 0 0,.int .i64 3])∧w'=w:=by
 have hd:1048576<(n:Int):=by omega
 have hd2:decide (1048576<(n:Int))=true:=by simp;omega
 go_enter Tryz.func67,Tryz.ntmps67
 go_wp2_with fail
 go_ret2
 exact ⟨rfl,rfl⟩
theorem w1t (b:List Nat) (a0:Option Addr) (cap:Nat) (w:World) (hc:BytesIn w a0 b) (hb:∀z∈b,z<256) (hn:b.length≤1048576) :
  Calls Tryz.prog 67 #[.slice a0 b.length cap] w fun e w'=>∃g l,e=.returned (.tuple #[.slice (some ⟨g,0,none⟩) b.length b.length,.int .i64 0])∧w.heap.size≤g∧IsRows b l∧z0a w' .i64 3 g b.length (fun i=>l.getD i 0)∧Below w.heap.size w w':=by
 have HS:=qz (x6s b a0 cap w hc hb hn)
 generalize b.length=n at *
 have hd:¬1048576<(n:Int):=by omega
 have hd2:decide (1048576<(n:Int))=false:=by simp;omega
 go_enter Tryz.func67,Tryz.ntmps67
 go_wp2_with fail
 refine (uh HS).mono ?_
 rintro e w1 ⟨g,l,rfl,h1,h2,h3,h4⟩
 have H:=qz (And.intro h1 (And.intro h2 (And.intro h3 h4)))
 clear h1 h2 h3 h4
 go_wp2_with fail
 go_ret2
 obtain ⟨h1,h2,h3,h4⟩:=uh H
 exact ⟨g,l,rfl,h1,h2,h3,h4⟩
theorem x7e (a0:Option Addr) (n cap:Nat) (w:World) (hn:1048576<n) :
  Calls Tryz.prog 37 #[.slice a0 n cap] w fun e w'=>e=.returned (.tuple #[.slice none 0 0,.int .i64 0,.int .i64 3])∧w'=w:=by
 have HR:=qz (x6m a0 n cap w hn)
 clear hn
 go_enter Tryz.func37,Tryz.ntmps37
 go_wp2_with fail
 refine (uh HR).mono ?_
 rintro e w' ⟨rfl,rfl⟩
 go_wp2_with fail
 go_ret3
 exact ⟨rfl,rfl⟩
theorem x2m {n:Nat} (h:0<n):prev n 0=n-1:=by unfold prev;rw [Nat.zero_add];exact Nat.mod_eq_of_lt (by omega)
theorem x6f {n i:Nat} (h:i+1<n):prev n (i+1)=i:=by
 unfold prev
 rw [show i+1+n-1=i+n by omega,Nat.add_mod_right]
 exact Nat.mod_eq_of_lt (by omega)
theorem w1v (b:List Nat) (a0:Option Addr) (cap:Nat) (w:World) (hc:BytesIn w a0 b) (hb:∀z∈b,z<256) (hn:b.length≤1048576) :
  Calls Tryz.prog 37 #[.slice a0 b.length cap] w fun e w'=>∃g l,IsRows b l∧e=.returned (.tuple #[.slice (some ⟨g,0,none⟩) b.length b.length,.int .i64 ((rowTo l b.length:Nat):Int),.int .i64 0])∧w.heap.size≤g∧z0a w' .u8 5 g b.length (fun i=>(col b l).getD i 0)∧Below w.heap.size w w':=by
 have HRO:=qz (w1t b a0 cap w hc hb hn)
 have HC:=qz hc
 obtain ⟨n,hN⟩:∃n,n=b.length:=⟨_,rfl⟩
 have HNN:=qz hN
 rw [←hN] at hn HRO ⊢
 clear hN hc
 go_enter Tryz.func37,Tryz.ntmps37
 go_wp2_with fail
 refine (uh HRO).mono ?_
 clear HRO
 rintro e w1 ⟨gl,l,rfl,hgl,hl,hi1,hb1⟩
 have hmk:=z4d w1 n (by omega)
 obtain ⟨G,hG⟩:∃G,G=w1.heap.size:=⟨_,rfl⟩
 have hgG:gl<G∧w.heap.size≤G:=by rw [hG];exact ⟨hi1.lt,hb1.size⟩
 have HI0:Hid (z0a (w1.alloc (.cells (z0b .u8 n (fun _=>0)) 5)) .i64 3 gl n (fun i=>l.getD i 0)):=qz (hi1.alloc _)
 have HB0:Hid (Below w.heap.size w (w1.alloc (.cells (z0b .u8 n (fun _=>0)) 5))):=qz (hb1.alloc hb1.size _)
 have HO0:Hid (∃C,z0a (w1.alloc (.cells (z0b .u8 n (fun _=>0)) 5)) .u8 5 G n C∧∀j,j<0→C j=b.getD (prev n (l.getD j 0)) 0):=qz ⟨fun _=>0,by rw [hG];exact heap_alloc_new _ _,fun j hj=>by omega⟩
 have HLR:=qz hl
 rw [←hG] at hmk
 clear hi1 hb1 hG hl
 go_wp2_with fail
 clear hmk
 go_loopg [3,21] n (fun gk rv d ws=>∃i:Nat,gk=n-i∧i≤n∧rv=.int .i64 ((rowTo l i:Nat):Int)∧d=.int .i64 (i:Int)∧Hid (z0a ws .i64 3 gl n (fun i=>l.getD i 0))∧Hid (Below w.heap.size w ws)∧Hid (∃C,z0a ws .u8 5 G n C∧∀j,j<i→C j=b.getD (prev n (l.getD j 0)) 0))
 case atStart=>exact ⟨0,rfl,by omega,rfl,rfl,HI0,HB0,HO0⟩
 case round =>
  clear HI0 HB0 HO0
  obtain ⟨i,rfl,hin,rfl,rfl,HI0,HB0,HO0⟩:=hrel
  rename World=>wi
  by_cases hil:i<n
  ·have ti:(i:Int)<(n:Int):=by omega
   obtain ⟨C,hC1,hC2⟩:=uh HO0
   have c1:=(uh HI0).cell i hil
   have c2:=hC1.cell i hil
   have c3:=hC1.free i
   have hxn:l.getD i 0<n:=by rw [uh HNN];exact (uh HLR).lt (getD_mem (by rw [(uh HLR).len,←uh HNN];exact hil))
   have HRT:Hid (rowTo l (i+1)=if l.getD i 0=0 then i else rowTo l i):=qz rfl
   have HLE:=qz (y7b l i)
   have HC1:=qz hC1
   have HC2:=qz hC2
   have HXE:Hid (l.getD i 0=l.getD i 0):=qz rfl
   obtain ⟨x,hx⟩:∃x,x=l.getD i 0:=⟨_,rfl⟩
   rw [←hx] at c1 hxn HRT
   have HX:=qz hx
   clear hC1 hC2 hx HXE
   have hpv:prev n x<n:=y5j hxn
   obtain ⟨gB,oB,rfl,d1⟩:=uh HC (prev n x) (by rw [←uh HNN];exact hpv)
   have d2:wi.cell? ⟨gB,oB+prev n x,none⟩=some (.int .u8 ((b.getD (prev n x) 0:Nat):Int)):=by rw [(uh HB0).cell (cell_lt d1)];exact d1
   obtain ⟨z,hz⟩:∃z,z=b.getD (prev n x) 0:=⟨_,rfl⟩
   rw [←hz] at d2
   have HZ:=qz hz
   clear d1 hz
   have HNX:Hid (∃C,z0a (wi.setCell ⟨G,i,none⟩ (.int .u8 ((z:Nat):Int))) .u8 5 G n C∧∀j,j<i+1→C j=b.getD (prev n (l.getD j 0)) 0):=qz ⟨_,(uh HC1).set i z,fun j hj=>by
    unfold upd
    by_cases e:j=i
    ·rw [if_pos e,e,uh HZ,uh HX]
    ·rw [if_neg e];exact uh HC2 j (by omega)⟩
   have HIX:Hid (z0a (wi.setCell ⟨G,i,none⟩ (.int .u8 ((z:Nat):Int))) .i64 3 gl n (fun i=>l.getD i 0)):=qz ((uh HI0).other _ _ (by show gl≠G;omega))
   have HBX:Hid (Below w.heap.size w (wi.setCell ⟨G,i,none⟩ (.int .u8 ((z:Nat):Int)))):=qz ((uh HB0).setCell (by show w.heap.size≤G;omega) _)
   clear HI0 HB0 HO0 HC1 HC2
   cases x with
   | zero =>
    rw [if_pos rfl] at HRT
    rw [x2m (by omega)] at d2 hpv
    obtain ⟨m,rfl⟩:∃m,n=m+1:=⟨n-1,by omega⟩
    rw [show m+1-1=m by omega] at d2
    have f5:IntKind.i64.wrap (m:Int)=(m:Int):=by rw [IntKind.wrap_i64];omega
    have f6:(m:Int)<(m:Int)+1:=by omega
    go_wp2_with fail
    go_roundg (m+1-(i+1))
    case measure=>omega
    case rel=>exact ⟨i+1,rfl,by omega,by rw [uh HRT],by go_num,HIX,HBX,HNX⟩
   | succ x =>
    rw [if_neg (by omega)] at HRT
    rw [x6f hxn] at d2
    have f1:((x:Int)+1 == 0)=false:=by simp;omega
    have f2:¬ (x:Int)+1=0:=by omega
    have f5:IntKind.i64.wrap (x:Int)=(x:Int):=by rw [IntKind.wrap_i64];omega
    have f6:(x:Int)<(n:Int):=by omega
    go_wp2_with fail
    go_roundg (n-(i+1))
    case measure=>omega
    case rel=>exact ⟨i+1,rfl,by omega,by rw [uh HRT],by go_num,HIX,HBX,HNX⟩
  ·obtain rfl:i=n:=by omega
   have ti:¬ (i:Int)<(i:Int):=by omega
   go_wp2_with fail
   go_ret3
   obtain ⟨C,hC1,hC2⟩:=uh HO0
   refine ⟨G,l,uh HLR,rfl,hgG.2,hC1.congr fun j hj=>?_,uh HB0⟩
   rw [hC2 j hj]
   generalize hq:b.getD (prev i (l.getD j 0)) 0=q
   unfold col
   rw [←uh HNN,List.getElem?_map,List.getElem?_eq_getElem (show j<l.length by rw [(uh HLR).len,←uh HNN];exact hj)]
   rw [getD_get! (show j<l.length by rw [(uh HLR).len,←uh HNN];exact hj)] at hq
   exact hq.symm
theorem turn_told (b:List Nat) (a0:Option Addr) (cap:Nat) (w:World) (hc:BytesIn w a0 b) (hb:∀z∈b,z<256) :
  Calls Tryz.prog 37 #[.slice a0 b.length cap] w fun e w'=>x4e b w e w':=by
 by_cases h:1048576<b.length
 ·refine (x7e a0 b.length cap w h).mono ?_
  rintro e w' ⟨rfl,rfl⟩
  exact ⟨_,[],0,3,rfl,.inl ⟨h,rfl,rfl,rfl⟩,Row.nil _ _ _ _ _,Below.refl _ _⟩
 ·refine (w1v b a0 cap w hc hb (by omega)).mono ?_
  rintro e w' ⟨g,l,h1,rfl,h2,h3,h4⟩
  exact ⟨_,col b l,rowTo l b.length,0,rfl,.inr ⟨by omega,rfl,l,h1,rfl,rfl⟩,z7a (x8u h1) h3 h2,h4⟩
end X10
section
open Go.RowKit B4 B4.Mth Infl R11.Runs
attribute [local go_sem ↓] wp_at_zero wp_at_succ
structure BlkMade (sum row:Nat) (piece col ls:List Nat):Prop where
 turn:∃l,X10.Suf.IsRows (z0p piece) l∧col=X10.Suf.col (z0p piece) l∧l.getD row 0=0
 row:row<(z0p piece).length
 lens:LenOk ((z0o col).length+2) ls
def blkB (sum row:Nat) (col ls:List Nat):List Bool :=
 Bz.nbH 0x314159265359 48++(Bz.nbH sum 32++(false :: (Bz.nbH row 24++(Bz.usedB (inB (z0o col))++y5t ls (symG (z0o col).length (z0n col) 0)))))
theorem y6u {piece:List Nat} (h:piece≠[]):1≤(z0p piece).length:=by
 cases piece with
 | nil=>exact absurd rfl h
 | cons c r =>
  rw [Bz.pack_cost _ _ (Nat.le_refl _),Bz.costG,Bz.runOn_new]
  have:Bz.ownC 1=1:=rfl
  omega
theorem y9e {b l:List Nat} (hl:X10.Suf.IsRows b l) (hb:1≤b.length):X10.rowTo l b.length<b.length∧l.getD (X10.rowTo l b.length) 0=0:=by
 obtain ⟨r,h1,h2,h3⟩:=X10.Suf.row_of hl (by omega)
 have hll:=hl.len
 have:X10.rowTo l b.length=r:=X10.rowTo_is h2 (fun q hq hq0=>h3 q (by omega) hq0) b.length (by omega) h1
 rw [this]
 exact ⟨h1,h2⟩
theorem x0d {w w':World} {pb:Nat} {v v':Value} {ua:Option Addr} {us:List Nat} (h:R11.BytesIn w ua us) (h0:1≤us.length) (hb:∀g off,ua=some ⟨g,off,none⟩→Beside pb v g) (hc:B4.Chg pb v w v' w'):R11.BytesIn w' ua us∧∀g off,ua=some ⟨g,off,none⟩→Beside pb v' g:=by
 obtain ⟨g0,off0,e0,c0⟩:=h 0 (by omega)
 have hg:=R11.cell_lt c0
 obtain ⟨k1,k2⟩:=(hb g0 off0 e0).chg hg hc
 refine ⟨fun j hj=>?_,fun g off e=>?_⟩
 ·obtain ⟨g,off,e,c⟩:=h j hj
  rw [e0] at e
  cases e
  refine ⟨g0,off0,e0,?_⟩
  rw [←c]
  simp only [World.cell?,k2]
 ·rw [e0] at e
  cases e
  exact k1
theorem x5j {w w':World} {pb:Nat} {v v':Value} {ua:Option Addr} {us:List Int} (h:R11.IntsIn w ua us) (h0:1≤us.length) (hb:∀g off,ua=some ⟨g,off,none⟩→Beside pb v g) (hc:B4.Chg pb v w v' w'):R11.IntsIn w' ua us∧∀g off,ua=some ⟨g,off,none⟩→Beside pb v' g:=by
 obtain ⟨g0,off0,e0,c0⟩:=h 0 (by omega)
 have hg:=R11.cell_lt c0
 obtain ⟨k1,k2⟩:=(hb g0 off0 e0).chg hg hc
 refine ⟨fun j hj=>?_,fun g off e=>?_⟩
 ·obtain ⟨g,off,e,c⟩:=h j hj
  rw [e0] at e
  cases e
  refine ⟨g0,off0,e0,?_⟩
  rw [←c]
  simp only [World.cell?,k2]
 ·rw [e0] at e
  cases e
  exact k1
theorem y6t (p:Nat→Bool):∀k,(Bz.ownsB p k).length≤16*k
 | 0=>by simp [Bz.ownsB]
 | k+1=>by
  have:=y6t p k
  rw [Bz.ownsB,List.length_append]
  split
  ·have:(Bz.ownB p (15-k)).length=16:=by simp [Bz.ownB]
   omega
  ·simp;omega
theorem y4n (p:Nat→Bool):(Bz.usedB p).length≤272:=by
 have:=y6t p 16
 have h2:(Bz.groupsB p).length=16:=by simp [Bz.groupsB]
 unfold Bz.usedB
 rw [List.length_append]
 omega
theorem y5k (pb sum:Nat) (v:Value) (piece:List Nat) (pa:Option Addr) (pc:Nat) (L:List Bool) (w:World) (h:WS w pb v L) (hs:R11.BytesIn w pa piece) (hcap:piece.length≤pc) (hps:∀z∈piece,z<256) (hne:piece≠[]) (hn:piece.length≤1048576) (hpk:(z0p piece).length≤900000) (hpz:∀z∈z0p piece,z<256) (hsum:sum<4294967296) (hL:L.length≤600000000000000) :
  Calls Tryz.prog 16 #[putV pb,.slice pa piece.length pc,.int .u32 (sum:Int)] w fun e w'=>e=.returned (.tuple #[])∧∃v' row col ls,BlkMade sum row piece col ls∧WS w' pb v' (L++blkB sum row col ls)∧B4.Chg pb v w v' w':=by
 have HC1:=qz (R11.ppack_ok piece pa pc w hs hn hcap)
 have hpne:1≤(z0p piece).length:=y6u hne
 have HW0:=qz h
 have HLL:=qz hL
 have HPZ:=qz hpz
 obtain ⟨b,hb⟩:∃b,b=z0p piece:=⟨_,rfl⟩
 rw [←hb] at HC1 hpk HPZ hpne
 have HBP:=qz hb
 obtain ⟨N,hN⟩:∃N,N=piece.length:=⟨_,rfl⟩
 rw [←hN] at HC1 ⊢
 clear h hs hps hn hpz hL hb hN hcap hne
 unfold putV
 go_enter Tryz.func16,Tryz.ntmps16
 go_wp2_with fail
 refine (uh HC1).mono ?_
 rintro e w1 ⟨bv',rfl,hst⟩
 have hown:=y5s hst
 obtain ⟨ba,bc,hbv,hbin⟩:=RowB.bytesIn (show RowB w.heap.size w1 bv' b from hown)
 subst hbv
 have HC2:=qz (X10.turn_told b ba bc w1 hbin (uh HPZ))
 have HB1:=qz hst.bel
 clear hst hown hbin HC1
 go_wp2_with fail
 refine (uh HC2).mono ?_
 rintro e w2 ⟨cv,c,r,er,rfl,hti,hrow,hb2⟩
 rcases hti with ⟨hbig,_⟩|⟨_,rfl,l,hrows,hcol,hr⟩
 ·omega
 have hcl:c.length=b.length:=by rw [hcol,X10.Suf.col,List.length_map,hrows.len]
 have hcz:∀z∈c,z<256:=fun z hz=>uh HPZ z ((X10.Suf.col_perm hrows).mem_iff.1 (by rw [←hcol];exact hz))
 obtain ⟨ca,cc,hcv,hcin⟩:=z3n hrow
 subst hcv
 have hr0:r<b.length∧l.getD r 0=0:=by rw [hr];exact y9e hrows hpne
 have HB2:=qz ((uh HB1).trans (hb2.mono (uh HB1).size))
 have HC3:=qz (R11.pfront_ok c ca cc w2 hcin hcz (by omega))
 have HTR:Hid (∃l,X10.Suf.IsRows (z0p piece) l∧c=X10.Suf.col (z0p piece) l∧l.getD r 0=0):=qz ⟨l,by rw [←uh HBP];exact hrows,by rw [←uh HBP];exact hcol,hr0.2⟩
 have HRL:Hid (r<(z0p piece).length):=qz (by rw [←uh HBP];exact hr0.1)
 have hrlt:r<900000:=by omega
 have HCL:=qz hcl
 have hcn:c.length≤900000:=by omega
 have hcne:c≠[]:=fun e=>by rw [e] at hcl;simp at hcl;omega
 have HCZ:=qz hcz
 have hup:=R11.used_pos hcz hcne
 have hul:=R11.Runs.used_len c
 have hsf:=R11.sym_front hcz hcne
 clear hrows hcol hr hcl hcz hrow hcin hb2 hr0 HB1 HC2 hpk hpne
 go_wp2_with fail
 refine (uh HC3).mono ?_
 rintro e w3 ⟨uv,g,rfl,hurow,hgw,hint,hb3⟩
 obtain ⟨ua,uc,huv,huin⟩:=z3n hurow
 subst huv
 have HB3:=qz ((uh HB2).trans (hb3.mono (uh HB2).size))
 have hpin:R11.IntsIn w3 (some ⟨g,0,none⟩) (R11.placesI c):=fun j hj=>by
  rw [R11.placesI_len] at hj
  refine ⟨g,0,rfl,?_⟩
  rw [Nat.zero_add,z0a.cell hint j hj]
  unfold R11.placesI
  have hfl:(z0n c).length=c.length:=by unfold z0n;exact z1u _ _
  rw [List.getD_eq_getElem?_getD,List.getD_eq_getElem?_getD,List.getElem?_map,List.getElem?_eq_getElem (by omega)]
  rfl
 have HC4:=R11.psymbols_ok (R11.placesI c) (some ⟨g,0,none⟩) c.length ((z0o c).length:Nat) w3 hpin (by rw [R11.placesI_len];omega)
 rw [R11.placesI_len,hsf] at HC4
 have HC4:=qz HC4
 have hub:R11.Row w2.heap.size g w3 (.slice ua (z0o c).length uc) .u8 5 (z0o c):=hurow
 have HUB:=qz hub
 have HUI:=qz huin
 have hgs:g<w3.heap.size:=z0a.lt hint
 have HW3:=qz ((uh HW0).below (uh HB3))
 obtain ⟨U,hU⟩:∃U,U=(z0o c).length:=⟨_,rfl⟩
 have HU:=qz hU
 have hU1:1≤U∧U≤256:=by omega
 rw [←hU] at HC4 HUB ⊢
 clear hurow hint hb3 huin hpin hub hsf hU hup hul HC3
 go_wp2_with fail
 refine (uh HC4).mono ?_
 rintro e w4 ⟨sv,rfl,hst4⟩
 have hown4:=hst4.own
 rw [List.length_map] at hown4
 obtain ⟨sa,sc,hsv,_,hsin⟩:=y1m rfl hown4
 rw [List.length_map] at hsv
 obtain ⟨rr,hr1,hr2,hr3⟩:=Bz.symG_last U hU1.1 (z0n c) 0 (fun p hp=>by rw [uh HU];exact z4f c (z0o c) (R11.all_used (uh HCZ)) p hp)
 have hfl:(z0n c).length=c.length:=by unfold z0n;exact z1u _ _
 have HSL:Hid ((symG U (z0n c) 0).length≤900001∧1≤(symG U (z0n c) 0).length):=qz (by rw [hr1,List.length_append,List.length_singleton];omega)
 have HSZ:Hid (∀z∈symG U (z0n c) 0,z<U+2):=qz fun z hz=>by
  rw [hr1] at hz
  rcases List.mem_append.1 hz with hz|hz
  ·have:=hr2 z hz;omega
  ·simp at hz;omega
 have hsb:∀g off,sa=some ⟨g,off,none⟩→Beside pb v g:=fun g off e=>by
  refine z2z (uh HW0) ?_
  have hvb:sv.ownBlock=some g:=by
   obtain ⟨g0,off0,e0,_⟩:=hsin 0 (by rw [List.length_map];exact (uh HSL).2)
   rw [e] at e0
   cases e0
   rcases hown4.2 with ⟨e1,_⟩|⟨g1,cap,cur,e1,_⟩
   ·rw [e1] at hsv
    injection hsv with e2
    rw [e] at e2;cases e2
   ·rw [e1] at hsv ⊢
    injection hsv with e2
    rw [e] at e2
    injection e2 with e2
    injection e2 with e2
    rw [e2];rfl
  have:=(hown4.lt g hvb).1
  have:=(uh HB3).size
  omega
 have hub:∀g off,ua=some ⟨g,off,none⟩→Beside pb v g:=fun gg off e=>by
  obtain ⟨a,cap,e1,hcell⟩:=uh HUB
  injection e1 with e1 _ _
  obtain ⟨g2,cs,e2,hlo,_⟩:=hcell (by rw [←uh HU];omega)
  refine z2z (uh HW0) ?_
  rw [←e1,e] at e2
  cases e2
  have:=(uh HB2).size
  omega
 have hui4:R11.BytesIn w4 ua (z0o c):=(uh HUI).stays hst4.bel
 have HB4:=qz ((uh HB3).trans (hst4.bel.mono (uh HB3).size))
 have HW4:=qz ((uh HW0).below (uh HB4))
 subst hsv
 obtain ⟨ss,hss⟩:∃ss,ss=symG U (z0n c) 0:=⟨_,rfl⟩
 rw [←hss] at HSL HSZ hsin ⊢
 have HSS:=qz hss
 have HSIN:=qz hsin
 have HSB:=qz hsb
 have HUIN:=qz hui4
 have HUBE:=qz hub
 have hLL:=uh HLL
 have HP1:=qz (z2g (n:=48) (V:=54156738319193) (uh HW4) (by decide) (by decide) (by omega))
 clear hst4 hown4 hsin hr1 hr2 hr3 hsb hub hui4 HUB HUI HC4 hss HW3
 go_wp2_with fail
 refine (uh HP1).mono ?_
 rintro e w5 ⟨rfl,v5,hws5,hch5⟩
 have HC5:=qz hch5
 have HP2:=qz (z2g (n:=32) (V:=sum) hws5 (by decide) hsum (by rw [List.length_append,Bz.nbH_len];omega))
 have fw1:IntKind.u64.wrap (sum:Int)=(sum:Int):=by rw [IntKind.wrap_u64];omega
 clear hws5 hch5 HP1
 go_wp2_with fail
 refine (uh HP2).mono ?_
 rintro e w6 ⟨rfl,v6,hws6,hch6⟩
 have HC6:=qz ((uh HC5).trans hch6)
 have HP3:=qz (z2g (n:=1) (V:=0) hws6 (by decide) (by decide) (by simp only [List.length_append,Bz.nbH_len];omega))
 clear hws6 hch6 HP2 HC5 fw1
 go_wp2_with fail
 refine (uh HP3).mono ?_
 rintro e w7 ⟨rfl,v7,hws7,hch7⟩
 have HC7:=qz ((uh HC6).trans hch7)
 have HP4:=qz (z2g (n:=24) (V:=r) hws7 (by decide) (by omega) (by simp only [List.length_append,Bz.nbH_len];omega))
 have fw2:IntKind.u64.wrap (r:Int)=(r:Int):=by rw [IntKind.wrap_u64];omega
 clear hws7 hch7 HP3 HC6
 go_wp2_with fail
 refine (uh HP4).mono ?_
 rintro e w8 ⟨rfl,v8,hws8,hch8⟩
 have HC8:=qz ((uh HC7).trans hch8)
 have hul1:1≤(z0o c).length:=by rw [←uh HU];omega
 obtain ⟨hu8,hub8⟩:=x0d (uh HUIN) hul1 (uh HUBE) (uh HC8)
 have HP5:=y8z pb v8 (z0o c) ua uc _ w8 hws8 hu8 hub8 (fun z hz=>(z5f.1 hz).1) (by rw [←uh HU];omega) (by simp only [List.length_append,Bz.nbH_len];omega)
 rw [←uh HU] at HP5
 unfold putV at HP5
 have HP5:=qz HP5
 clear hws8 hch8 HP4 HC7 fw2 hu8 hub8
 go_wp2_with fail
 refine (uh HP5).mono ?_
 rintro e w9 ⟨rfl,v9,hws9,hch9⟩
 have HC9:=qz ((uh HC8).trans hch9)
 have hsl:=uh HSL
 obtain ⟨hs9,hsb9⟩:=x5j (uh HSIN) (by rw [List.length_map];exact hsl.2) (uh HSB) (uh HC9)
 have hub2:=y4n (inB (z0o c))
 have HP6:=y1t pb (U+2) v9 ss sa sc _ w9 hws9 hs9 hsb9 (by omega) (uh HSZ) (by omega) (by simp only [List.length_append,Bz.nbH_len];omega)
 unfold putV at HP6
 have HP6:=qz HP6
 have fw3:IntKind.i64.wrap ((U:Int)+2)=((U+2:Nat):Int):=by rw [IntKind.wrap_i64];omega
 clear hws9 hch9 HP5 HC8 hs9 hsb9 hub2 hsl
 go_wp2_with fail
 refine (uh HP6).mono ?_
 rintro e w10 ⟨rfl,v10,ls,hok,hws,hch⟩
 have HC10:=qz ((uh HC9).trans hch)
 have HWS:=qz hws
 have HOK:=qz hok
 clear hws hch hok HP6 HC9
 go_wp2_with fail
 go_end0
 refine ⟨rfl,v10,r,c,ls,⟨uh HTR,uh HRL,by rw [←uh HU];exact uh HOK⟩,?_,(z3a (uh HB4)).trans (uh HC10)⟩
 have hw:=uh HWS
 unfold blkB
 rw [←uh HU,←uh HSS]
 simpa [List.append_assoc,Bz.nbH] using hw
end
section
open Go.RowKit B4 B4.Mth Infl R11.Runs
theorem LenOk.good {K:Nat} {ls:List Nat} (h:LenOk K ls):B4.Good ls:=⟨fun l hl=>by have:=h.lt l hl;omega,by rw [h.full];exact Nat.le_refl _⟩
theorem x3y {K:Nat} {ls:List Nat} (h:LenOk K ls) {I:In} {x q:Nat} (hx:x<K) (hl:Bz.Lies I q (wbH ls x)):word gg ls I q=.ok x (q+(wbH ls x).length):=by
 have hlen:(wbH ls x).length=Canon.ln ls x:=by unfold wbH;exact Bz.nbH_len _ _
 have hln:=h.lt _ (Bz.getD_mem' (l:=ls) (r:=x) (by rw [h.len];exact hx))
 have hln2:1≤Canon.ln ls x∧Canon.ln ls x≤17:=hln
 obtain ⟨h1,h2⟩:=hl
 rw [hlen] at h1 h2
 have hget:=z3o.word h.good (m:=I.m-q) (f:=fun i=>I.f (q+i)) (i:=x) (by rw [h.len];exact hx) (by omega) (by omega) (fun j hj=>by
  show I.f (q+j)=_
  rw [h2 j hj]
  unfold wbH Bz.nbH
  simp [List.getD_eq_getElem?_getD,hj])
 have:=w0y h.good hget
 unfold word
 rw [this,hlen]
theorem w0g (c:List Nat):z0o c=(List.range 256).filter (inB (z0o c)):=by
 unfold z0o
 refine List.filter_congr fun x hx=>?_
 rw [List.mem_range] at hx
 unfold inB
 rw [Bool.eq_iff_iff,decide_eq_true_eq,decide_eq_true_eq,List.mem_filter,List.mem_range,decide_eq_true_eq]
 exact ⟨fun h=>⟨hx,h⟩,fun h=>h.2⟩
def y0v (sum row:Nat) (col ls:List Nat):List Bool:=Bz.nbH sum 32++(false :: (Bz.nbH row 24++(Bz.usedB (inB (z0o col))++y5t ls (symG (z0o col).length (z0n col) 0))))
theorem w0r {row level f:Nat} {piece col ls:List Nat} (h:BlkMade (crcH piece) row piece col ls) (hz:∀z∈z0p piece,z<256) (hne:1≤(z0p piece).length) (hm:(z0p piece).length≤100000*level) (hlv:level≤9) (hsum:crcH piece<4294967296) (hf:2000000≤f) :
  Bz.Blk.Ok gg ceP crcH f level ⟨y0v (crcH piece) row col ls,crcH piece,piece⟩:=by
 refine ⟨hsum,fun I most out q hmost hlies=>?_⟩
 obtain ⟨l,hrows,hcol,hr0⟩:=h.turn
 have hrow:=h.row
 have hcl:col.length=(z0p piece).length:=by rw [hcol,X10.Suf.col,List.length_map,hrows.len]
 have hcz:∀z∈col,z<256:=fun z hz'=>hz z ((X10.Suf.col_perm hrows).mem_iff.1 (by rw [←hcol];exact hz'))
 have hcne:col≠[]:=fun e=>by rw [e] at hcl;simp at hcl;omega
 have hup:=R11.used_pos hcz hcne
 have hul:=R11.Runs.used_len col
 obtain ⟨rr,k1,k2,k3⟩:=Bz.symG_last (z0o col).length hup (z0n col) 0 (fun p hp=>z4f col (z0o col) (R11.all_used hcz) p hp)
 have hfl:(z0n col).length=col.length:=by unfold z0n;exact z1u _ _
 have ht:=Bz.tellB_ok crcH level piece l row ((most:Int)-(out.length:Int)) hz hrows hrow hr0 hm (by omega) (by have:out.length+piece.length≤most:=hmost;omega)
 rw [←hcol,k1] at ht
 have hune:z0o col≠[]:=fun e=>by rw [e] at hup;simp at hup
 have hb:y0v (crcH piece) row col ls=Bz.blockB (wbH ls) (crcH piece) row (inB (z0o col)) ((rr.length+1+49)/50) ls (rr++[(z0o col).length+1]):=by
  unfold y0v y5t Bz.blockB
  rw [k1,List.length_append,List.length_singleton]
 have hlies2:Bz.Lies I q (y0v (crcH piece) row col ls):=hlies
 rw [hb] at hlies2
 have:=Bz.blockR_ok gg ceP crcH f level most out (wbH ls) (crcH piece) row (inB (z0o col)) ls rr piece q (z0o col) (w0g col) hsum (by omega) hune h.lens.len (fun z hz'=>by have:=h.lens.lt z hz';omega) (by unfold ceP;rw [if_pos h.lens.full]) k2 (by omega) (by omega) (by omega) (fun x hx q' hq'=>x3y h.lens (by omega) hq') ht hlies2
 show _=Res.ok (crcH piece,out++piece) (q+(y0v (crcH piece) row col ls).length)
 rw [hb]
 exact this
end
section
open Go.RowKit B4 B4.Mth Infl R11.Runs
attribute [local go_sem ↓] wp_at_zero wp_at_succ
theorem y5g {c n:Nat} (hc:c<256) (hn:n≤259):∀z∈piece c n,z<256:=by
 intro z hz
 unfold piece at hz
 split at hz
 ·rw [List.mem_replicate] at hz;omega
 ·rw [List.mem_append,List.mem_replicate,List.mem_singleton] at hz;omega
theorem z8i:∀ (k:Nat) (b:List Nat),b.length≤k→(∀z∈b,z<256)→∀z∈z0p b,z<256
 | 0,b,h,_=>by
  obtain rfl:b=[]:=List.eq_nil_of_length_eq_zero (by omega)
  intro z hz;simp [z0p,z6s] at hz
 | k+1,[],_,_=>by intro z hz;simp [z0p,z6s] at hz
 | k+1,c :: l,h,hs=>by
  have h1:=z4p c 258 l
  intro z hz
  rw [z3c,List.mem_append] at hz
  rcases hz with hz|hz
  ·exact y5g (hs c (List.mem_cons_self ..)) (by omega) z hz
  ·exact z8i k (l.drop (lead c 258 l)) (by simp at h ⊢;omega) (fun z hz=>hs z (List.mem_cons_of_mem _ (List.mem_of_mem_drop hz))) z hz
theorem x8v {l:List Nat} (h:∀z∈l,z<256):crcH l<4294967296:=by
 unfold crcH S3.sum32
 have hr:4294967295 ^^^ 0<4294967296:=by decide
 have:=S3.crc_lt (f:=S3.hstep S3.ph) (B:=4294967296) (k:=32) rfl (fun r _=>S3.hstep_lt (p:=S3.ph) (by decide)) l (fun z hz=>by have:=h z hz;show z*16777216<4294967296;omega) _ hr
 exact Nat.xor_lt_two_pow (n:=32) (by decide) this
theorem x2e {B:Nat} {w:World} {pv v:Value} {p:List Nat} (h:z3p B w pv v p) (hz:∀z∈p,z<256) (hn:p.length≤1048576) :
  Calls Tryz.prog 15 #[.int .u32 0,v] w fun e w'=>e=.returned (.int .u32 ((crcH p:Nat):Int))∧Below w.heap.size w w':=by
 obtain ⟨m,c,h1,h2,h3,h4,h5,h6⟩:=h
 subst h1
 refine S3.high_walk 0 _ p w (by decide) ⟨_,c,rfl,fun _=>⟨_,rfl,fun j u hj=>?_⟩⟩ hz (by omega)
 rw [List.getElem?_map] at hj
 rcases Nat.lt_or_ge j p.length with hjl|hjl
 ·rw [List.getElem?_eq_getElem hjl] at hj
  simp only [Option.map_some,Option.some.injEq] at hj
  have e:(⟨m,0,none⟩:Addr).add j=⟨m,j,none⟩:=by by_cases hq:j=0<;>simp [Addr.add,hq]
  rw [e,h6 j hjl,←hj,List.getD_eq_getElem?_getD,List.getElem?_eq_getElem hjl]
  rfl
 ·rw [List.getElem?_eq_none hjl] at hj;cases hj
theorem WS.gr {w w':World} {pb B:Nat} {v sv sv':Value} {L:List Bool} (h:WS w pb v L) (hg:Gr w w' sv sv') (hlo:∀b,sv.ownBlock=some b→B≤b) (hB:pb<B) (hd:∀b,v.ownBlock=some b→sv.ownBlock≠some b):WS w' pb v L:=by
 obtain ⟨m,f,h1,h2⟩:=h
 exact ⟨m,f,h1.keep (hg.block _ h1.lt (fun e=>by have:=hlo _ e;omega)) (fun b e=>hg.block b (h1.row.lt b e).2 (hd b e)),h2⟩
theorem y8t:ofBytes true [66,90,104]=Bz.nbH 0x425a68 24:=by decide
theorem y8h (d:Nat) (hd:d<256):ofBytes true [d]=Bz.nbH d 8:=by
 unfold ofBytes Bz.nbH
 refine List.map_congr_left fun i hi=>?_
 have hi8:i<8:=by simpa using hi
 unfold z2h rk
 rw [if_pos rfl,show i/8=0 by omega,show i%8=i by omega]
 rfl
theorem x6b (m:Nat) (L:List Bool) (h:m=(L.length+7)/8):pk true m L=Bz.packH L:=by
 unfold pk Bz.packH
 rw [h]
 refine List.map_congr_left fun i _=>?_
 apply Nat.eq_of_testBit_eq
 intro r
 rw [z0s]
 by_cases hr:r<8
 ·rw [decide_eq_true hr,Bool.true_and,y7q _ 8 r hr]
  unfold rk
  rw [if_pos rfl]
 ·rw [decide_eq_false hr,Bool.false_and,y5y _ 8 r (by omega)]
end
section
open Go.RowKit B4 B4.Mth Infl R11.Runs
attribute [local go_sem ↓] wp_at_zero wp_at_succ
structure Packed (level:Nat) (b:List Nat) (bs:List Bz.Blk):Prop where
 text:Bz.textB bs=b
 ok:∀k∈bs,Bz.Blk.Ok gg ceP crcH 1000000000 level k
 len:bs.length≤b.length
 bits:(Bz.blksB bs).length≤20000000*bs.length
theorem y6j {K:Nat} {ls:List Nat} (h:LenOk K ls):∀ (ss:List Nat),(∀x∈ss,x<K)→(ss.flatMap (wbH ls)).length≤17*ss.length
 | [],_=>by simp
 | x :: r,hx=>by
  have h1:=y6j h r (fun z hz=>hx z (List.mem_cons_of_mem _ hz))
  have h2:=h.lt _ (Bz.getD_mem' (l:=ls) (r:=x) (by rw [h.len];exact hx x (List.mem_cons_self ..)))
  have h3:(wbH ls x).length=Canon.ln ls x:=Bz.nbH_len _ _
  have h4:Canon.ln ls x≤17:=h2.2
  rw [List.flatMap_cons,List.length_append,List.length_cons,h3]
  omega
theorem x4k {row:Nat} {piece col ls:List Nat} (h:BlkMade (crcH piece) row piece col ls) (hz:∀z∈z0p piece,z<256) (hne:1≤(z0p piece).length) (hm:(z0p piece).length≤900000):(y0v (crcH piece) row col ls).length≤16000000:=by
 obtain ⟨l,hrows,hcol,hr0⟩:=h.turn
 have hcl:col.length=(z0p piece).length:=by rw [hcol,X10.Suf.col,List.length_map,hrows.len]
 have hcz:∀z∈col,z<256:=fun z hz'=>hz z ((X10.Suf.col_perm hrows).mem_iff.1 (by rw [←hcol];exact hz'))
 have hcne:col≠[]:=fun e=>by rw [e] at hcl;simp at hcl;omega
 have hup:=R11.used_pos hcz hcne
 have hul:=R11.Runs.used_len col
 obtain ⟨rr,k1,k2,k3⟩:=Bz.symG_last (z0o col).length hup (z0n col) 0 (fun p hp=>z4f col (z0o col) (R11.all_used hcz) p hp)
 have hfl:(z0n col).length=col.length:=by unfold z0n;exact z1u _ _
 have hfs:=y6j h.lens (symG (z0o col).length (z0n col) 0) (fun x hx=>by
  rw [k1] at hx
  rcases List.mem_append.1 hx with hx|hx
  ·have:=k2 x hx;omega
  ·simp at hx;omega)
 have hsl:(symG (z0o col).length (z0n col) 0).length≤900001:=by rw [k1,List.length_append,List.length_singleton];omega
 have hub:=y4n (inB (z0o col))
 have htf:=y0m h.lens (by omega)
 unfold y0v y5t
 simp only [List.length_append,List.length_cons,Bz.nbH_len,List.length_replicate]
 omega
theorem z6g:∀ (l:List (List Nat)) (p:List Nat),p∈l→p.length≤l.flatten.length
 | [],p,h=>by cases h
 | x :: r,p,h=>by
  rw [List.flatten_cons,List.length_append]
  rcases List.mem_cons.1 h with rfl|h
  ·omega
  ·have:=z6g r p h;omega
theorem z7h:∀ (bs:List Bz.Blk) (k:Bz.Blk),Bz.blksB (bs++[k])=Bz.blksB bs++(Bz.nbH 0x314159265359 48++k.bits)
 | [],k=>by simp [Bz.blksB]
 | a :: r,k=>by rw [List.cons_append,Bz.blksB,Bz.blksB,z7h r k];simp
theorem y4h:∀ (bs:List Bz.Blk),Bz.textB bs=(bs.map Bz.Blk.piece).flatten
 | []=>rfl
 | a :: r=>by rw [Bz.textB,y4h r];rfl
theorem x1k (b:List Nat) (a0:Option Addr) (cap level:Nat) (w:World) (hc:R11.BytesIn w a0 b) (hcap:b.length≤cap) (hbz:∀z∈b,z<256) (hn:b.length≤1048576) (hlv:1≤level∧level≤9) :
  Calls Tryz.prog 6 #[.slice a0 b.length cap,.int .i64 (level:Int)] w fun e w'=>∃g bs,e=.returned (.tuple #[.slice (some ⟨g,0,none⟩) (Bz.packH (Bz.streamB level bs)).length (Bz.packH (Bz.streamB level bs)).length,.int .i64 0])∧w.heap.size≤g∧w'.heap[g]?=some (.cells ((Bz.packH (Bz.streamB level bs)).map bv).toArray 5 (0,0))∧Packed level b bs∧Below w.heap.size w w':=by
 have HC1:=qz (x0b b a0 cap level w hc hcap hn hlv)
 have HBZ:=qz hbz
 have hall:=Bz.pieces_all (100000*level-19) (by omega) b.length b (Nat.le_refl _)
 obtain ⟨ps,hps⟩:∃ps,ps=Bz.piecesF (100000*level-19) b:=⟨_,rfl⟩
 rw [←hps] at HC1 hall
 have HALL:=qz hall
 obtain ⟨N,hN⟩:∃N,N=b.length:=⟨_,rfl⟩
 have HN:=qz hN
 rw [←hN] at HC1 hn ⊢
 clear hc hcap hbz hps hN hall
 go_enter Tryz.func6,Tryz.ntmps6
 go_wp2_with fail
 refine (uh HC1).mono ?_
 rintro e w1 ⟨pv,rfl,hpcs,hb1⟩
 have hpcs0:=hpcs
 obtain ⟨vs,hvl,hvo,hvp⟩:=hpcs0
 have hpvform:∃pa pcap,pv=.slice pa ps.length pcap:=by
  rcases hvo.2 with ⟨e1,e2⟩|⟨g,cp,cur,e1,_⟩
  ·exact ⟨none,0,by rw [e1,←hvl,e2]⟩
  ·exact ⟨_,_,by rw [e1,hvl]⟩
 obtain ⟨pa,pcap,hpv⟩:=hpvform
 have HPCS:=qz hpcs
 have HB1:=qz hb1
 subst hpv
 clear hpcs hb1 hvo hvp hvl HC1
 go_wp2_with fail
 refine (x9i true w1).mono ?_
 rintro e w2 ⟨rfl,hw2⟩
 obtain ⟨pb,hpb⟩:∃pb,pb=w1.heap.size:=⟨_,rfl⟩
 have hwok:=w1m true w1
 rw [←hw2,←hpb] at hwok
 have hsz2:w2.heap.size=pb+1:=by rw [hw2,hpb];simp
 have hb2:Below w1.heap.size w1 w2:=by rw [hw2];exact (Below.refl _ _).alloc (Nat.le_refl _) _
 have HWK:=qz hwok
 have HB2:=qz hb2
 have HSZ2:=qz hsz2
 rw [←hpb]
 have HPB:=qz hpb
 have hcv:=Lib.run_convert_bytes_const (P:=Tryz.prog) w2 22 5 #[.int .u8 66,.int .u8 90,.int .u8 104] 3 3 Tryz.underlying22 Tryz.underlying5
 clear hwok hb2 hpb hsz2 hw2
 obtain ⟨o3,ho3⟩:∃o3:Obj,o3=.cells #[.int .u8 66,.int .u8 90,.int .u8 104] 5 (3,4):=⟨_,rfl⟩
 have hb3:Below w2.heap.size w2 (w2.alloc o3):=(Below.refl _ _).alloc (Nat.le_refl _) _
 have hw3:WOk (w2.alloc o3) pb true (.slice none 0 0) 0 [] 0:=(uh HWK).keep (hb3.block _ (uh HWK).lt) (fun g e=>by cases e)
 have HP1:=z8n pb 0 true (.slice none 0 0) [] ⟨w2.heap.size,0,none⟩ 3 [66,90,104] (w2.alloc o3) hw3 (by simp) (fun j u hj=>by
  have e:(⟨w2.heap.size,0,none⟩:Addr).add j=⟨w2.heap.size,j,none⟩:=by by_cases hq:j=0<;>simp [Addr.add,hq]
  rw [e]
  simp only [World.cell?,ho3,heap_alloc_new]
  simpa [bv] using hj) (by simp)
 rw [ho3] at HP1
 have HP1:=qz HP1
 have HB3:Hid (Below w1.heap.size w1 (w2.alloc (.cells #[.int .u8 66,.int .u8 90,.int .u8 104] 5 (3,4)))):=qz (by rw [←ho3];exact (uh HB2).trans (hb3.mono (uh HB2).size))
 clear hw3 hb3 ho3
 go_wp2_with fail
 refine (uh HP1).mono ?_
 rintro e w4 ⟨rfl,v4,hwk4,hch4⟩
 have HCW4:=qz hch4
 have HWK4:=qz hwk4
 have hlv9:level≤9:=hlv.2
 have fwl:IntKind.u8.wrap (level:Int)=(level:Int):=by rw [IntKind.wrap_u8];omega
 have fwl2:IntKind.u8.wrap (48+(level:Int))=((48+level:Nat):Int):=by rw [IntKind.wrap_u8];omega
 obtain ⟨D,hD⟩:∃D,D=48+level:=⟨_,rfl⟩
 rw [←hD] at fwl2
 have hD2:D<256:=by omega
 obtain ⟨o5,ho5⟩:∃o5:Obj,o5=.cells #[.int .u8 (D:Int)] 5:=⟨_,rfl⟩
 have hb5:Below w4.heap.size w4 (w4.alloc o5):=(Below.refl _ _).alloc (Nat.le_refl _) _
 have hw5:WOk (w4.alloc o5) pb true v4 (0+[66,90,104].length) ([]++ofBytes true [66,90,104]) 0:=hwk4.keep (hb5.block _ hwk4.lt) (fun g e=>hb5.block g (hwk4.row.lt g e).2)
 have HP2:=z8n pb _ true v4 _ ⟨w4.heap.size,0,none⟩ 1 [D] (w4.alloc o5) hw5 (by simpa using hD2) (fun j u hj=>by
  have e:(⟨w4.heap.size,0,none⟩:Addr).add j=⟨w4.heap.size,j,none⟩:=by by_cases hq:j=0<;>simp [Addr.add,hq]
  rw [e]
  simp only [World.cell?,ho5,heap_alloc_new]
  simpa [bv] using hj) (by simp)
 rw [ho5] at HP2
 have HP2:=qz HP2
 have HCB5:Hid (B4.Chg pb v4 w4 v4 (w4.alloc (.cells #[.int .u8 (D:Int)] 5))):=qz (by rw [←ho5];exact z3a hb5)
 have HD:=qz hD
 clear hwk4 hch4 HP1 hD hw5 hb5 ho5 hcv
 go_wp2_with fail
 refine (uh HP2).mono ?_
 rintro e w6 ⟨rfl,v6,hwk6,hch6⟩
 obtain ⟨L0,hL0⟩:∃L0,L0=[]++ofBytes true [66,90,104]++ofBytes true [D]:=⟨_,rfl⟩
 rw [←hL0] at hwk6
 have hL0':L0=Bz.nbH 0x425a68 24++Bz.nbH (48+level) 8:=by rw [hL0,y8t,y8h D hD2,uh HD,List.nil_append]
 have HL0:=qz hL0'
 have HWS6:Hid (WS w6 pb v6 L0):=qz ⟨_,0,hwk6,by omega⟩
 have HC6:=qz ((uh HCW4).trans ((uh HCB5).trans hch6))
 have hsz6:pb<w6.heap.size:=hwk6.lt
 clear hwk6 hch6 HP2 hL0 hL0' HCB5 HCW4 HWK4 HWK fwl fwl2
 have HPL:Hid (ps.length≤b.length):=qz (by
  have h1:=(uh HALL).1
  have h2:∀ (l:List (List Nat)),(∀p∈l,p≠[])→l.length≤l.flatten.length:=fun l=>by
   induction l with
   | nil=>intro _;simp
   | cons x r ih =>
    intro h
    have h4:=ih (fun p hp=>h p (List.mem_cons_of_mem _ hp))
    have hx:=h x (List.mem_cons_self ..)
    have h5:1≤x.length:=by cases x with|nil=>exact absurd rfl hx|cons=>simp
    rw [List.flatten_cons,List.length_append,List.length_cons];omega
  have h3:=h2 ps (fun p hp=>((uh HALL).2 p hp).1)
  rw [h1] at h3
  exact h3)
 have hpl:ps.length≤1048576:=by have:=uh HPL;have:=uh HN;omega
 have HB6:Hid (Below w1.heap.size w1 w6):=qz (by
  have h3:=uh HB3
  have hc:=uh HC6
  have hpb':=uh HPB
  exact h3.trans ⟨hc.os,hc.tape,hc.output,hc.size,fun k hk=>hc.keep k (by have:=h3.size;omega) (by omega) (fun e=>by cases e)⟩)
 go_wp2_with fail
 go_loopg [9,35] ps.length (fun gk sv d ws=>∃ (i:Nat) (v:Value) (bs:List Bz.Blk),gk=ps.length-i∧i≤ps.length∧d=.int .i64 (i:Int)∧Hid (bs.map Bz.Blk.piece=ps.take i)∧Hid (∀k∈bs,Bz.Blk.Ok gg ceP crcH 1000000000 level k)∧Hid ((Bz.blksB bs).length≤20000000*i)∧Hid (WS ws pb v (L0++Bz.blksB bs))∧Hid (RowU w6.heap.size ws sv (bs.map Bz.Blk.sum))∧Hid (∀b,v.ownBlock=some b→sv.ownBlock≠some b)∧Hid (w6.heap.size≤ws.heap.size)∧Hid (Below w1.heap.size w1 ws))
 case atStart=>exact ⟨0,v6,[],by omega,by omega,rfl,qz (by simp),qz (by simp),qz (by simp [Bz.blksB]),qz (by simpa [Bz.blksB] using uh HWS6),qz (World.ownsRow_nil _ _ _ _),qz (fun b _ e=>by cases e),qz (Nat.le_refl _),HB6⟩
 case round =>
  clear HWS6 HB6
  obtain ⟨i,v,bs,rfl,hi,rfl,HPM,HOK,HLN,HW,HU,HDJ,HSZ,HB⟩:=hrel
  rename World=>ws
  by_cases hlt:i<ps.length
  ·have tl:(i:Int)<(ps.length:Int):=by omega
   have hpcs:=(uh HPCS).below (uh HB)
   obtain ⟨vs',hvl,hvo,hvp⟩:=hpcs
   obtain ⟨pvv,hv1,hv2⟩:=hvp i hlt
   have hv2':=hv2
   obtain ⟨mb,mc,e1,e2,e3,e4,e5,e6⟩:=hv2'
   obtain ⟨gp,hgp,hcellp⟩:∃gp,pa=some ⟨gp,0,none⟩∧ws.cell? ⟨gp,i,none⟩=some pvv:=by
    rcases hvo.2 with ⟨e7,e8⟩|⟨g,cp,cur,e7,_⟩
    ·rw [hvl] at e8;omega
    ·injection e7 with e7 _ _
     refine ⟨g,e7,?_⟩
     have:=hvo.cells (by rw [e7];rfl) i pvv hv1
     have e9:(⟨g,0,none⟩:Addr).add i=⟨g,i,none⟩:=by by_cases hq:i=0<;>simp [Addr.add,hq]
     rw [e9] at this
     exact this
   subst hgp
   have hmem:ps.getD i []∈ps:=by rw [List.getD_eq_getElem?_getD,List.getElem?_eq_getElem hlt];exact List.getElem_mem hlt
   have htk:ps.take (i+1)=ps.take i++[ps.getD i []]:=by
    rw [List.take_add_one,List.getElem?_eq_getElem hlt,List.getD_eq_getElem?_getD,List.getElem?_eq_getElem hlt];rfl
   obtain ⟨p,hp⟩:∃p,p=ps.getD i []:=⟨_,rfl⟩
   rw [←hp] at hmem htk hv2 e1 e2 e6
   obtain ⟨q1,q2,q3⟩:=(uh HALL).2 p hmem
   have hpz:∀z∈p,z<256:=fun z hz=>uh HBZ z (q3 z hz)
   have hpn:p.length≤1048576:=by
    have h2:=z6g ps p hmem
    rw [(uh HALL).1] at h2
    have:=uh HN
    omega
   have hpk:(z0p p).length≤900000:=by omega
   have hpkz:=z8i p.length p (Nat.le_refl _) hpz
   have hcl:=x8v hpz
   have HCRC:=qz (x2e hv2 hpz hpn)
   have HPBK:Hid (∀ (w2':World) (v2':Value) (L':List Bool),Below ws.heap.size ws w2'→WS w2' pb v2' L'→L'.length≤600000000000000→_):=qz fun w2' v2' L' (k1:Below ws.heap.size ws w2') (k2:WS w2' pb v2' L') (k3:L'.length≤600000000000000)=>y5k pb (crcH p) v2' p (some ⟨mb,0,none⟩) mc L' w2' k2 (fun j hj=>⟨mb,0,rfl,by rw [Nat.zero_add,k1.cell (by exact e4)];exact e6 j hj⟩) e2 hpz q1 hpn hpk hpkz hcl k3
   have HPP:Hid (z0p p |>.length |> fun n=>1≤n∧n≤100000*level):=qz ⟨y6u q1,by omega⟩
   have HPZ:=qz hpkz
   have HTK:=qz htk
   have hln:(L0++Bz.blksB bs).length≤600000000000000:=by
    have:=uh HLN
    have hl0:L0.length=32:=by rw [uh HL0,List.length_append,Bz.nbH_len,Bz.nbH_len]
    rw [List.length_append]
    have:20000000*i≤20000000*1048576:=Nat.mul_le_mul (Nat.le_refl _) (by omega)
    omega
   subst e1
   unfold putV at HPBK
   obtain ⟨S,hS⟩:∃S,S=crcH p:=⟨_,rfl⟩
   rw [←hS] at HCRC hcl
   have HS:=qz hS
   clear hvo hvp hv1 hv2 e2 e3 e4 e5 e6 hmem htk hp q1 q2 q3 hpz hpn hpk hpkz hS hvl
   go_wp2_with fail
   refine (uh HCRC).mono ?_
   rintro e w7 ⟨rfl,hb7⟩
   have HW7:=qz ((uh HW).below hb7)
   have HU7:Hid (RowU w6.heap.size w7 u9 (bs.map Bz.Blk.sum)):=qz (R11.own_keep (uh HU) fun g e=>hb7.block g (World.ownsRow.lt (uh HU) g e).2)
   have HPB7:=uh HPBK w7 v _ hb7 (uh HW7) hln
   rw [←uh HS] at HPB7
   have HPB7:=qz HPB7
   have HB7:=qz hb7
   clear hb7 HCRC HPBK
   go_wp2_with fail
   refine (uh HPB7).mono ?_
   rintro e w8 ⟨rfl,v8,row,col,ls,hmade,hws8,hch8⟩
   have hdj:=uh HDJ
   have hu7lt:∀b,u9.ownBlock=some b→b<w7.heap.size∧w6.heap.size≤b:=fun b e=>⟨(World.ownsRow.lt (uh HU7) b e).2,(World.ownsRow.lt (uh HU7) b e).1⟩
   have hU8:RowU w6.heap.size w8 u9 (bs.map Bz.Blk.sum):=R11.own_keep (uh HU7) fun g e=>hch8.keep g (hu7lt g e).1 (by have:=(hu7lt g e).2;omega) (fun e2=>hdj g e2 e)
   have hdj8:∀b,v8.ownBlock=some b→u9.ownBlock≠some b:=fun b e e2=>by
    rcases hch8.lies with c1|⟨g,c1,c2⟩
    ·rw [c1] at e;exact hdj b e e2
    ·rw [e] at c1;have:=Option.some.inj c1;have:=(hu7lt b e2).1;omega
   have hpbw:=uh HPB
   have hB8:Below w1.heap.size w1 w8:=by
    have h7:=(uh HB).trans ((uh HB7).mono (uh HB).size)
    exact h7.trans ⟨hch8.os,hch8.tape,hch8.output,hch8.size,fun k hk=>hch8.keep k (by have:=h7.size;omega) (by omega) (fun e=>by have:=((uh HW7).lt.2 k e).1;omega)⟩
   have hS8:w6.heap.size≤w8.heap.size:=Nat.le_trans (uh HSZ) (Nat.le_trans (uh HB7).size hch8.size)
   have HMD:=qz hmade
   have HWS8:=qz hws8
   have HU8:=qz hU8
   have HDJ8:=qz hdj8
   have HB8:=qz hB8
   have hbl:(bs.map Bz.Blk.sum).length=i:=by
    have:=congrArg List.length (uh HPM)
    rw [List.length_map,List.length_take] at this
    rw [List.length_map];omega
   have hlen8:((bs.map Bz.Blk.sum).length+1)*8≤140737488355328:=by omega
   have HBL:=qz hbl
   clear hmade hws8 hch8 hdj hu7lt hU8 hdj8 hB8 HPB7 HW7 HU7 HW HU HDJ HB HB7 hpbw hbl
   go_wp2_with (at_builtin;go_must (refine y2m (ws:=w8) (B:=w6.heap.size) rfl _ _ rfl _ (bs.map Bz.Blk.sum) S (by rfl) (by rfl) (uh HU8) hS8 hlen8 ?_;intro v9 w9 h9 k9;have HU9:=qz h9;have HG9:=qz k9;clear h9 k9))
   go_roundg (ps.length-(i+1))
   case measure=>omega
   case rel =>
    have hg:=uh HG9
    have hlo:=RowU.lo (uh HU8)
    have hpp:=uh HPP
    have hmd:=uh HMD
    have hs:=uh HS
    rw [hs] at hmd
    have hbdl:=x4k hmd (uh HPZ) hpp.1 (by omega)
    have hpbw:=uh HPB
    refine ⟨i+1,v8,bs++[⟨y0v S row col ls,S,p⟩],rfl,by omega,by go_num,qz (by rw [List.map_append,uh HPM,uh HTK];rfl),qz fun k hk=>?_,qz ?_,qz ?_,qz (by rw [List.map_append];exact uh HU9),qz fun b e e2=>?_,qz (Nat.le_trans hS8 hg.size),qz ?_⟩
    ·rcases List.mem_append.1 hk with hk|hk
     ·exact uh HOK k hk
     ·rw [List.mem_singleton] at hk
      rw [hk,hs]
      exact w0r hmd (uh HPZ) hpp.1 hpp.2 (by omega) (by rw [←hs];exact hcl) (by omega)
    ·rw [z7h,List.length_append,List.length_append,Bz.nbH_len]
     have:=uh HLN
     rw [hs]
     show _+(48+(y0v (crcH p) row col ls).length)≤_
     omega
    ·have h8:=(uh HWS8).gr hg hlo (by omega) (uh HDJ8)
     rw [z7h,←List.append_assoc]
     exact h8
    ·rcases hg.lies b e2 with e3|e3
     ·exact uh HDJ8 b e e3
     ·have:=((uh HWS8).lt.2 b e).2;omega
    ·have h8:=uh HB8
     exact h8.trans ⟨hg.os,hg.tape,hg.output,hg.size,fun k hk=>hg.block k (by have:=h8.size;omega) (fun e=>by have:=hlo k e;omega)⟩
  ·obtain rfl:i=ps.length:=by omega
   have tl:¬ (ps.length:Int)<(ps.length:Int):=by omega
   have hpm:=uh HPM
   rw [List.take_of_length_le (Nat.le_refl _)] at hpm
   have hbl:bs.length=ps.length:=by have:=congrArg List.length hpm;simpa using this
   have hl0:L0.length=32:=by rw [uh HL0,List.length_append,Bz.nbH_len,Bz.nbH_len]
   have hbits:=uh HLN
   have hmul:20000000*ps.length≤20000000*1048576:=Nat.mul_le_mul (Nat.le_refl _) hpl
   have HP1:=qz (z2g (n:=48) (V:=25779555029136) (uh HW) (by decide) (by decide) (by rw [List.length_append];omega))
   have HPK:Hid (Packed level b bs):=qz ⟨by rw [y4h,hpm];exact (uh HALL).1,uh HOK,by rw [hbl];exact uh HPL,by rw [hbl];exact hbits⟩
   have hsz:∀z∈bs.map Bz.Blk.sum,z<4294967296:=fun z hz=>by
    obtain ⟨k,hk,rfl⟩:=List.mem_map.1 hz
    exact (uh HOK k hk).sum
   have HSZZ:=qz hsz
   have hsl:(bs.map Bz.Blk.sum).length≤1048576:=by rw [List.length_map];omega
   have HBB:Hid ((Bz.blksB bs).length≤20000000*1048576):=qz (by omega)
   clear hpm hbl hbits hmul hsz
   go_wp2_with fail
   refine (uh HP1).mono ?_
   rintro e w7 ⟨rfl,v7,hws7,hch7⟩
   have hulo:∀b,u9.ownBlock=some b→b<ws.heap.size∧w6.heap.size≤b:=fun b e=>⟨(World.ownsRow.lt (uh HU) b e).2,(World.ownsRow.lt (uh HU) b e).1⟩
   have hU7:RowU w6.heap.size w7 u9 (bs.map Bz.Blk.sum):=R11.own_keep (uh HU) fun g e=>hch7.keep g (hulo g e).1 (by have:=(hulo g e).2;omega) (fun e2=>uh HDJ g e2 e)
   obtain ⟨sa,sc,hsv,hsin⟩:=RowU.u32In hU7
   have HC8:=x2o (bs.map Bz.Blk.sum) sa sc w7 hsin (uh HSZZ) (by omega)
   rw [List.length_map] at HC8 hsv
   have HC8:=qz HC8
   subst hsv
   have hsum:=Bz.sumF_lt (uh HSZZ)
   obtain ⟨Z,hZ⟩:∃Z,Z=Bz.sumF (bs.map Bz.Blk.sum):=⟨_,rfl⟩
   rw [←hZ] at HC8 hsum
   have HZ:=qz hZ
   have fwz:IntKind.u64.wrap (Z:Int)=(Z:Int):=by rw [IntKind.wrap_u64];omega
   have HP2:=qz (z2g (n:=32) (V:=Z) hws7 (by decide) hsum (by simp only [List.length_append,Bz.nbH_len];have:=uh HBB;omega))
   have HCH7:=qz hch7
   clear hws7 hch7 hU7 hsin hZ HP1 hulo
   go_wp2_with fail
   refine (uh HC8).mono ?_
   rintro e w7' ⟨rfl,hw7⟩
   subst hw7
   go_wp2_with fail
   refine (uh HP2).mono ?_
   rintro e w8 ⟨rfl,v8,hws8,hch8⟩
   obtain ⟨m8,f8,hwok8,hf8⟩:=hws8
   have hstr:L0++Bz.blksB bs++Bz.nbH 25779555029136 48++Bz.nbH Z 32=Bz.streamB level bs:=by
    rw [uh HL0,uh HZ]
    unfold Bz.streamB
    simp only [List.append_assoc]
   rw [hstr] at hwok8
   have hm8:m8=((Bz.streamB level bs).length+7)/8:=by have:=hwok8.len;omega
   have hsl8:(Bz.streamB level bs).length≤30000000000000:=by
    rw [←hstr]
    simp only [List.length_append,Bz.nbH_len]
    have:=uh HBB
    omega
   have HBY:=qz (x4n pb m8 f8 true v8 (Bz.streamB level bs) w8 hwok8 (by omega))
   have hpk:=x6b m8 (Bz.streamB level bs) hm8
   have hpl8:(Bz.packH (Bz.streamB level bs)).length=m8:=by rw [Bz.packH_len];exact hm8.symm
   have hpbw:=uh HPB
   have hB8:Below w1.heap.size w1 w8:=by
    have h0:=uh HB
    have hc:=(uh HCH7).trans hch8
    exact h0.trans ⟨hc.os,hc.tape,hc.output,hc.size,fun k hk=>hc.keep k (by have:=h0.size;omega) (by omega) (fun e=>by have:=((uh HW).lt.2 k e).1;omega)⟩
   have HB8:=qz hB8
   have HPK2:=qz hpk
   have HPL8:=qz hpl8
   clear hwok8 hch8 hstr hm8 hsl8 hpk hpl8 hpbw hB8 HP2 HC8 fwz
   go_wp2_with fail
   refine (uh HBY).mono ?_
   rintro e w9 ⟨rfl,hh9,hb9⟩
   have HH9:=qz hh9
   have HB9:=qz hb9
   clear hh9 hb9 HBY
   go_wp2_with fail
   go_ret2
   have h1:=uh HB1
   have h8:=uh HB8
   have h9:=uh HB9
   have h18:=h1.trans (h8.mono h1.size)
   refine ⟨w8.heap.size,bs,by rw [uh HPL8];rfl,h18.size,?_,uh HPK,h18.trans (h9.mono h18.size)⟩
   rw [uh HH9,uh HPK2]
end
section
open Go.RowKit B4 B4.Mth Infl R11.Runs
attribute [local go_sem ↓] wp_at_zero wp_at_succ
theorem y7r {ops:Array Oper} {rest:List Oper} {o:Oper} {a:Act} {Q:Exit→Act→World→Prop} {B B':Nat} {ws:World} (hgd:o.guard=none) (s x:Operand)
  (ho:o.op=.call { callee:=.builtin .append,args:=#[s,x],argTypes:=#[22,22] }) (va pv:Value) (xs ys:List Nat) (hs:a.eval s=va) (hx:a.eval x=pv)
  (hA:RowB B ws va xs) (hP:RowB B' ws pv ys) (hB:B≤ws.heap.size) (hlen:xs.length+ys.length≤140737488355328)
  (h:∀v' w',RowB B w' v' (xs++ys)→Gr ws w' va v'→wpList Tryz.prog ops Q rest (a.put o.dst v') w'):wpList Tryz.prog ops Q (o :: rest) a ws:=by
 obtain ⟨i0,hi,hz0,hz1,hz2⟩:=info_parts inf5
 rcases hP.2 with ⟨e1,e2⟩|⟨g,cap,cur,e1,_⟩
 ·have hy:ys=[]:=List.eq_nil_of_length_eq_zero e2
  subst hy
  rw [e1] at hx
  exact wpList_append_own_none hgd s x 22 ho B 5 i0 1 Tryz.underlying22 hi va xs.length (xs.map bv) hs hA hx (h va ws (by simpa using hA) ⟨rfl,rfl,rfl,Nat.le_refl _,fun _ _ _=>rfl,fun b e=>.inl e⟩)
 ·rw [e1] at hx
  refine wpList_append_own_at ws hgd s x 22 ho B 5 i0 (.int .u8 0) 1 1 Tryz.underlying22 hi hz0 hz1 hz2 rfl (by decide) va xs.length (xs.map bv) hs hA ⟨g,0,none⟩ ys.length cap (ys.map bv) hx (by rw [List.length_map];omega) (World.ownsRow.cells hP (by rw [e1];rfl)) (by intro u hu;obtain ⟨z,_,rfl⟩:=List.mem_map.1 hu;rfl) (by unfold maxLen;omega) (by omega) hB ?_
  intro v' w' h2 h3 _ h5
  refine h v' w' (by unfold RowB;rw [List.length_append,List.map_append];exact h2) ⟨h3.os,h3.tape,h3.output,h3.size,fun k hk hne=>h3.block k hk (fun e=>hne e.symm),fun b e=>?_⟩
  rcases h5 with h5|h5
  ·exact .inl (by rw [←h5,e])
  ·rw [e] at h5;have:=Option.some.inj h5;exact .inr (by omega)
theorem z5o {f level most kk p q:Nat} {sums out x:List Nat} {I:In} (h:Bz.blocksR gg ceP crcH f level most kk sums out I p=.ok x q) :
  ∃k',kk=k'+1∧∃m o,Bz.getH 48 I p=.ok m o∧((m=0x314159265359∧∃r o2,Bz.blockR gg ceP crcH f level most out I o=.ok r o2∧Bz.blocksR gg ceP crcH f level most k' (sums++[r.1]) r.2 I o2=.ok x q)∨(m=0x177245385090∧∃s o2,Bz.getH 32 I o=.ok s o2∧s=Bz.sumF sums∧q=(o2+7)/8*8∧x=out)):=by
 cases kk with
 | zero=>rw [Bz.blocksR] at h;cases h
 | succ k' =>
  refine ⟨k',rfl,?_⟩
  rw [Bz.blocksR] at h
  obtain ⟨m,o,h1,h2⟩:=z0r h
  refine ⟨m,o,h1,?_⟩
  by_cases e:m=0x314159265359
  ·rw [if_pos e] at h2
   obtain ⟨r,o2,h3,h4⟩:=z0r h2
   exact .inl ⟨e,r,o2,h3,h4⟩
  ·rw [if_neg e] at h2
   by_cases e2:m=0x177245385090
   ·rw [if_pos e2] at h2
    obtain ⟨s,o2,h3,h4⟩:=z0r h2
    by_cases e3:s=Bz.sumF sums
    ·rw [if_neg (by simpa using e3)] at h4
     obtain ⟨u,o3,h5,h6⟩:=z0r h4
     injection h6 with e4 e5
     have h7:o3=(o2+7)/8*8:=by
      unfold align at h5
      injection h5 with _ e6
      exact e6.symm
     exact .inr ⟨e2,s,o2,h3,e3,by omega,e4.symm⟩
    ·rw [if_pos e3] at h4;cases h4
   ·rw [if_neg e2] at h2;cases h2
theorem z4c {f level most:Nat} {I:In}:∀ (kk p q:Nat) (sums out x:List Nat),Bz.blocksR gg ceP crcH f level most kk sums out I p=.ok x q→∃r,x=out++r
 | 0,p,q,sums,out,x,h=>by rw [Bz.blocksR] at h;cases h
 | kk+1,p,q,sums,out,x,h=>by
  obtain ⟨k',e,m,o,h1,h2⟩:=z5o h
  injection e with e
  subst e
  rcases h2 with ⟨_,r,o2,h3,h4⟩|⟨_,s,o2,_,_,_,h5⟩
  ·obtain ⟨piece,h6,_⟩:=Bz.blockR_inv gg ceP crcH h3
   obtain ⟨t,h7⟩:=z4c kk o2 q _ _ x h4
   exact ⟨piece++t,by rw [h7,h6,List.append_assoc]⟩
  ·exact ⟨[],by rw [h5];simp⟩
theorem z8v {f most k p q:Nat} {out x:List Nat} {I:In} (h:Bz.streamsR gg ceP crcH f most k out I p=.ok x q) :
  ∃k',k=k'+1∧∃o1 d o2 o q2,Bz.getH 24 I p=.ok 0x425a68 o1∧Bz.getH 8 I o1=.ok d o2∧(49≤d∧d≤57)∧Bz.blocksR gg ceP crcH f (d-48) most f [] out I o2=.ok o q2∧((I.m≤q2∧x=o)∨(¬I.m≤q2∧Bz.streamsR gg ceP crcH f most k' o I q2=.ok x q)):=by
 cases k with
 | zero=>rw [Bz.streamsR] at h;cases h
 | succ k' =>
  refine ⟨k',rfl,?_⟩
  rw [Bz.streamsR] at h
  obtain ⟨o,q2,h1,h2⟩:=z0r h
  unfold Bz.streamR at h1
  obtain ⟨m,o1,h3,h4⟩:=z0r h1
  by_cases e:m=0x425a68
  ·subst e
   rw [if_neg (by simp)] at h4
   obtain ⟨d,o2,h5,h6⟩:=z0r h4
   by_cases e2:d<49∨57<d
   ·rw [if_pos e2] at h6;cases h6
   ·rw [if_neg e2] at h6
    refine ⟨o1,d,o2,o,q2,h3,h5,by omega,h6,?_⟩
    by_cases e3:I.m≤q2
    ·rw [if_pos e3] at h2
     injection h2 with e4 _
     exact .inl ⟨e3,e4.symm⟩
    ·rw [if_neg e3] at h2
     exact .inr ⟨e3,h2⟩
  ·rw [if_pos e] at h4;cases h4
theorem z8w {f most:Nat} {I:In}:∀ (k p q:Nat) (out x:List Nat),Bz.streamsR gg ceP crcH f most k out I p=.ok x q→∃r,x=out++r
 | 0,p,q,out,x,h=>by rw [Bz.streamsR] at h;cases h
 | k+1,p,q,out,x,h=>by
  obtain ⟨k',e,o1,d,o2,o,q2,_,_,_,h4,h5⟩:=z8v h
  injection e with e
  subst e
  obtain ⟨r,h6⟩:=z4c f o2 q2 [] out o h4
  rcases h5 with ⟨_,h7⟩|⟨_,h7⟩
  ·exact ⟨r,by rw [h7,h6]⟩
  ·obtain ⟨t,h8⟩:=z8w k q2 q o x h7
   exact ⟨r++t,by rw [h8,h6,List.append_assoc]⟩
theorem x2u (zs text:List Nat) (v:Value) (most f k q:Nat) (w:World) (hr:B4.Reads w v zs) (hz:zs.length≤10000000000000) (hzs:∀z∈zs,z<256) (hm:most≤268435456) (hf:f≤1000000000) (hts:∀z∈text,z<256) (htn:text.length≤most) (ht:Bz.streamsR gg ceP crcH f most k [] (Bz.bytesH zs) 0=.ok text q) :
  Calls Tryz.prog 12 #[v,.int .i64 (most:Int)] w fun e w'=>∃tv,e=.returned (.tuple #[tv,.int .i64 0])∧RowB w.heap.size w' tv text∧Below w.heap.size w w':=by
 have d1:decide ((most:Int)<0)=false:=by simp
 have d2:decide (268435456<(most:Int))=false:=by simp;omega
 have HC1:=qz (y3f v zs true w hr (by omega) hzs)
 have HT:=qz ht
 have HTS:=qz hts
 clear hr ht hts hzs
 go_enter Tryz.func12,Tryz.ntmps12
 go_wp2_with fail
 go_step3
 go_wp2_with fail
 refine (uh HC1).mono ?_
 rintro e w1 ⟨rp,rfl,hrp0,hrd,hb1⟩
 obtain ⟨g,hg⟩:∃g,g=w.heap.size:=⟨_,rfl⟩
 rw [←hg] at hrd
 have HR1:Hid (RB w1 rp g zs 0):=qz hrd
 have hrpl:rp<w1.heap.size:=hrd.lt
 have hgl:g<w1.heap.size:=z0d hrd.row
 have HB1:=qz hb1
 have HG:=qz hg
 obtain ⟨B,hB⟩:∃B,B=w1.heap.size:=⟨_,rfl⟩
 rw [←hB] at hrpl hgl
 have HBW:=qz hB
 have HRP0:Hid (w.heap.size≤rp):=qz hrp0
 clear hrd hb1 hg hB HC1 hrp0
 go_wp2_with fail
 go_step3
 go_wp2_with fail
 go_loopg [7,8] (k+1) (fun gk tv fv ws=>∃ (fst:Bool) (p1 k1:Nat) (out:List Nat),gk=k1+1∧fv=.bool fst∧p1%8=0∧p1≤8*zs.length∧Hid (RowB B ws tv out)∧Hid (RB ws rp g zs p1)∧Hid (Only rp w1 ws)∧Hid ((fst=false∧8*zs.length≤p1∧text=out)∨((fst=true∨¬8*zs.length≤p1)∧Bz.streamsR gg ceP crcH f most k1 out (Bz.bytesH zs) p1=.ok text q)))
 case atStart=>exact ⟨true,0,k,[],by omega,rfl,by omega,by omega,qz (RowB.nil _ _),HR1,qz (Only.refl _ _),qz (.inr ⟨.inl rfl,uh HT⟩)⟩
 case round =>
  clear HR1 HT
  obtain ⟨fst,p1,k1,out,hgk,rfl,hp8,hple,HW,HR,HO,HI⟩:=hrel
  rename World=>ws
  have hBW:=uh HBW
  have hBs:B≤ws.heap.size:=by rw [hBW];exact (uh HO).size
  have HBW2:=qz hBW
  clear hBW
  rcases uh HI with ⟨hf0,hend,hto⟩|⟨hgo,hst⟩
  ·subst hf0
   have HTO:=qz hto
   have HC:=qz (x1d rp g p1 true zs ws (uh HR) (by omega))
   have fz:¬ (0:Int)<8*(zs.length:Int)-(p1:Int):=by omega
   have fz2:decide ((0:Int)<8*(zs.length:Int)-(p1:Int))=false:=decide_eq_false fz
   clear hto hend
   go_wp2_with fail
   refine (uh HC).mono ?_
   rintro e w2 ⟨rfl,n,rfl⟩
   go_wp2_with fail
   (try rw [Exit.noGoto_ret])
   go_ret2
   have hown:RowB B (ws.drewN n) u7 out:=uh HW
   have hwB:w.heap.size≤B:=by have:=(uh HB1).size;have:=uh HBW2;omega
   refine ⟨_,rfl,by rw [uh HTO];exact z6z hwB hown,?_⟩
   have ho:=uh HO
   have hb:=uh HB1
   have hr0:=uh HRP0
   have h3:Below w.heap.size w ws:=hb.trans (ho.below hr0 hb.size)
   exact ⟨h3.os,h3.tape,h3.output,h3.size,h3.block⟩
  ·obtain ⟨k2,hk2,o1,d,o2,o,q2,h1,h2,h3,h4,h5⟩:=z8v hst
   obtain ⟨rest,hrest⟩:∃r,text=o++r:=by
    rcases h5 with ⟨_,h7⟩|⟨_,h7⟩
    ·exact ⟨[],by rw [h7];simp⟩
    ·exact z8w _ _ _ _ _ h7
   have HLV:Hid (∀w2,RB w2 rp g zs p1→g<w2.heap.size→_):=qz fun w2 (r1:RB w2 rp g zs p1) (r2:g<w2.heap.size)=>y3x rp g p1 o1 d o2 zs w2 r1 r2 (by omega) hp8 h1 h2 h3
   have HBL:=qz h4
   have H5:=qz h5
   have HRE:=qz hrest
   have HK2:=qz hk2
   have HGK:=qz hgk
   have hd9:=h3
   have hgo2:=hgo
   have hrl:ws.heap.size=ws.heap.size:=rfl
   clear hst h1 h2 h3 h4 h5 hrest hk2 hgk hrl HI
   cases fst
   case false =>
    have hnl:¬8*zs.length≤p1:=by rcases hgo2 with c|c;cases c;exact c
    have HC:=qz (x1d rp g p1 true zs ws (uh HR) (by omega))
    have fz:(0:Int)<8*(zs.length:Int)-(p1:Int):=by omega
    have fz3:(p1:Int)<8*(zs.length:Int):=by omega
    clear hgo hgo2 hnl
    go_wp2_with fail
    refine (uh HC).mono ?_
    rintro e w2 ⟨rfl,n,rfl⟩
    have hR2:RB (ws.drewN n) rp g zs p1:=(uh HR).drewN n
    have hO2:Only rp w1 (ws.drewN n):=(uh HO).trans (Only.drewN _ _ _)
    have hW2:RowB B (ws.drewN n) u7 out:=uh HW
    have hB2:B≤(ws.drewN n).heap.size:=hBs
    clear HR HO HW hBs HC fz
    obtain ⟨ws2,hw2⟩:∃ws2,ws2=ws.drewN n:=⟨_,rfl⟩
    rw [←hw2] at hR2 hO2 hW2 hB2 ⊢
    have HR:=qz hR2
    have HO:=qz hO2
    have HW:=qz hW2
    clear hR2 hO2 hW2 hw2
    go_wp2_with fail
    as_aux_lemma =>
    refine (uh HLV ws2 (uh HR) (by omega)).mono ?_
    rintro e w3 ⟨rfl,hr3,ho3⟩
    have HR3:=qz hr3
    have HO3:=qz ((uh HO).trans ho3)
    have HW3:=qz (RowB.only (uh HW) ho3 hrpl)
    have hB3:B≤w3.heap.size:=Nat.le_trans hB2 ho3.size
    obtain ⟨L,hL⟩:∃L,L=d-48:=⟨_,rfl⟩
    have hL9:1≤L∧L≤9:=by omega
    rw [←hL] at HBL ⊢
    clear hr3 ho3 HR HO HW hB2 hL hd9 HLV
    go_wp2_with fail
    go_loopg [7,11] f (fun gk tv bv' wk=>∃ (p2:Nat) (sums out2:List Nat),Hid (RowB B wk tv out2)∧Hid (RowU B wk bv' sums)∧Hid (∀b b',Value.ownBlock tv=some b→Value.ownBlock bv'=some b'→b≠b')∧Hid (∀z∈sums,z<4294967296)∧Hid (sums.length+gk=f)∧Hid (RB wk rp g zs p2)∧Hid (Only rp w1 wk)∧Hid (B≤wk.heap.size)∧Hid (Bz.blocksR gg ceP crcH f L most gk sums out2 (Bz.bytesH zs) p2=.ok o q2))
    case atStart=>exact ⟨o2,[],out,HW3,qz (World.ownsRow_nil _ _ _ _),qz (fun b b' _ e=>by cases e),qz (by simp),qz (by simp),HR3,HO3,qz hB3,HBL⟩
    case round =>
     clear HW3 HR3 HO3 HBL hB3
     obtain ⟨p2,sums,out2,HW,HU,HDB,HSZ,HSL,HR,HO,HBS,HI⟩:=hrel
     rename World=>wk
     obtain ⟨gk',hgk2,m,o3,hm,hcase⟩:=z5o (uh HI)
     subst hgk2
     have HMK:=qz (z8r rp g p2 m o3 zs wk (uh HR) (by omega) hm (by rcases hcase with ⟨c,_⟩|⟨c,_⟩;exact .inl c;exact .inr c))
     have hsl:=uh HSL
     rcases hcase with ⟨hmm,r,o4,hblk,hnext⟩|⟨hmm,s,o4,hs32,hsum,hq2,ho2⟩
     ·subst hmm
      obtain ⟨piece,hr2,hbis⟩:=Bz.blockR_inv gg ceP crcH hblk
      obtain ⟨rest2,hrest2⟩:=z4c _ _ _ _ _ _ hnext
      have htx:text=out2++(piece++(rest2++rest)):=by rw [uh HRE,hrest2,hr2];simp
      have hpl:out2.length+piece.length≤most:=by
       have:=congrArg List.length htx
       simp only [List.length_append] at this
       omega
      have hps:∀z∈piece,z<256:=fun z hz=>uh HTS z (by rw [htx];simp [hz])
      have HBK:Hid (∀w4,RB w4 rp g zs o3→rp<w4.heap.size→g<w4.heap.size→_):=qz fun w4 (r1:RB w4 rp g zs o3) (r2:rp<w4.heap.size) (r3:g<w4.heap.size)=>z6m rp g o3 f L r.1 o4 ((most:Int)-(out2.length:Int)) piece zs w4 r1 r2 r3 (by omega) hL9 (by omega) hps (by omega) hbis
      rw [hr2] at hnext
      have HNX:=qz hnext
      obtain ⟨sm,hsm⟩:∃sm,sm=r.1:=⟨_,rfl⟩
      rw [←hsm] at HBK HNX
      obtain ⟨ta,tc,htv⟩:=RowB.len (uh HW)
      subst htv
      clear hblk hnext hbis hr2 hrest2 htx hps hsm hm HI
      go_wp2_with fail
      refine (uh HMK).mono ?_
      rintro e w4 ⟨rfl,hr4,ho4⟩
      have HR4:=qz hr4
      have HO4:=qz ((uh HO).trans ho4)
      have HW4:=qz (RowB.only (uh HW) ho4 hrpl)
      have HU4:=qz (RowU.only (uh HU) ho4 hrpl)
      have hB4:B≤w4.heap.size:=Nat.le_trans (uh HBS) ho4.size
      have fw:IntKind.i64.wrap ((most:Int)-(out2.length:Int))=(most:Int)-(out2.length:Int):=by rw [IntKind.wrap_i64];omega
      clear hr4 ho4 HR HO HW HU HBS HMK
      go_wp2_with fail
      refine (uh HBK w4 (uh HR4) (by omega) (by omega)).mono ?_
      rintro e w5 ⟨pv,⟨rfl,hr5,ho5⟩,hprow,hsm32⟩
      have HR5:=qz hr5
      have HO5:=qz ((uh HO4).trans ho5)
      have HW5:=qz (RowB.only (uh HW4) ho5 hrpl)
      have HU5:=qz (RowU.only (uh HU4) ho5 hrpl)
      have HP5:=qz hprow
      have hB5:B≤w5.heap.size:=Nat.le_trans hB4 ho5.size
      have HS32:=qz hsm32
      clear hr5 ho5 HR4 HO4 HW4 HU4 hB4 HBK hprow hsm32
      go_wp2_with (first|(at_builtin;refine y2m (ws:=w6) rfl _ _ rfl _ sums sm (by rfl) (by rfl) (uh HU6) hB6 (by omega) ?_;intro v7 w7 h7 k7;have HU7:=qz h7;have HG7:=qz k7;clear h7 k7)|(at_builtin;refine y7r rfl _ _ rfl _ _ out2 piece (by rfl) (by rfl) (uh HW5) (uh HP5) hB5 (by omega) ?_;intro v6 w6 h6 k6;have HW6:=qz h6;have HG6:=qz k6;have HU6:Hid (RowU B w6 u11 sums):=qz (R11.own_keep (uh HU5) fun b e=>k6.block b (World.ownsRow.lt (uh HU5) b e).2 (fun e2=>uh HDB b b e2 e rfl));have hB6:B≤w6.heap.size:=Nat.le_trans hB5 k6.size;clear h6 k6))
      go_roundg gk'
      case measure=>omega
      case rel =>
       have k6:=uh HG6
       have k7:=uh HG7
       have hlo5:=RowB.lo (uh HW5)
       have hlo6:=RowU.lo (uh HU6)
       have hlt5:∀b,u11.ownBlock=some b→b<w5.heap.size:=fun b e=>(World.ownsRow.lt (uh HU5) b e).2
       have hne67:∀b,v6.ownBlock=some b→u11.ownBlock≠some b:=fun b e e2=>by
        rcases k6.lies b e with e3|e3
        ·exact uh HDB b b e3 e2 rfl
        ·have:=hlt5 b e2;omega
       refine ⟨o4,sums++[sm],out2++piece,qz (R11.own_keep (uh HW6) fun b e=>k7.block b (World.ownsRow.lt (uh HW6) b e).2 (hne67 b e)),HU7,qz fun b b' e e'=>?_,qz fun z hz=>?_,qz (by simp;omega),qz (((uh HR5).gr k6 hlo5 hrpl hgl).gr k7 hlo6 hrpl hgl),qz (Only.gr (Only.gr (uh HO5) k6 hlo5 (by rw [uh HBW2];exact Nat.le_refl _)) k7 hlo6 (by rw [uh HBW2];exact Nat.le_refl _)),qz (Nat.le_trans hB6 k7.size),HNX⟩
       ·rcases k7.lies b' e' with e3|e3
        ·intro e4;subst e4;exact hne67 b e e3
        ·have:=(World.ownsRow.lt (uh HW6) b e).2;omega
       ·rcases List.mem_append.1 hz with hz|hz
        ·exact uh HSZ z hz
        ·simp at hz;rw [hz];exact uh HS32
     ·subst hmm ho2
      have HEND:Hid (∀w4 bw,RB w4 rp g zs o3→RowU B w4 bw sums→_):=qz fun w4 bw (r1:RB w4 rp g zs o3) (r2:RowU B w4 bw sums)=>y0g rp g o3 o4 q2 s B zs sums bw w4 r1 (by omega) r2 hrpl (uh HSZ) (by omega) hs32 hsum hq2
      have HQ2:Hid (q2%8=0):=qz (by omega)
      clear hs32 hsum hq2 hm HI
      go_wp2_with fail
      refine (uh HMK).mono ?_
      rintro e w4 ⟨rfl,hr4,ho4⟩
      have HR4:=qz hr4
      have HO4:=qz ((uh HO).trans ho4)
      have HW4:=qz (RowB.only (uh HW) ho4 hrpl)
      have HU4:=qz (RowU.only (uh HU) ho4 hrpl)
      clear hr4 ho4 HR HO HW HU HMK
      go_wp2_with fail
      refine (uh HEND w4 _ (uh HR4) (uh HU4)).mono ?_
      rintro e w5 ⟨rfl,hr5,ho5⟩
      have HR5:=qz hr5
      have HO5:=qz ((uh HO4).trans ho5)
      have HW5:=qz (RowB.only (uh HW4) ho5 hrpl)
      clear hr5 ho5 HR4 HO4 HW4 HU4 HEND
      go_wp2_with fail
      go_roundg (k2+1)
      case measure=>have:=uh HK2;have:=uh HGK;omega
      case rel =>
       refine ⟨false,q2,k2,o,rfl,rfl,uh HQ2,(uh HR5).le,HW5,HR5,HO5,qz ?_⟩
       rcases uh H5 with ⟨c1,c2⟩|⟨c1,c2⟩
       ·exact .inl ⟨rfl,c1,c2⟩
       ·exact .inr ⟨.inr c1,c2⟩
   case true =>
    obtain ⟨ws2,hw2⟩:∃ws2,ws2=ws:=⟨_,rfl⟩
    rw [←hw2] at HR HO HW hBs ⊢
    have hB2:=hBs
    clear hw2 hgo hgo2 hBs
    go_wp2_with fail
    as_aux_lemma =>
    refine (uh HLV ws2 (uh HR) (by omega)).mono ?_
    rintro e w3 ⟨rfl,hr3,ho3⟩
    have HR3:=qz hr3
    have HO3:=qz ((uh HO).trans ho3)
    have HW3:=qz (RowB.only (uh HW) ho3 hrpl)
    have hB3:B≤w3.heap.size:=Nat.le_trans hB2 ho3.size
    obtain ⟨L,hL⟩:∃L,L=d-48:=⟨_,rfl⟩
    have hL9:1≤L∧L≤9:=by omega
    rw [←hL] at HBL ⊢
    clear hr3 ho3 HR HO HW hB2 hL hd9 HLV
    go_wp2_with fail
    go_loopg [7,11] f (fun gk tv bv' wk=>∃ (p2:Nat) (sums out2:List Nat),Hid (RowB B wk tv out2)∧Hid (RowU B wk bv' sums)∧Hid (∀b b',Value.ownBlock tv=some b→Value.ownBlock bv'=some b'→b≠b')∧Hid (∀z∈sums,z<4294967296)∧Hid (sums.length+gk=f)∧Hid (RB wk rp g zs p2)∧Hid (Only rp w1 wk)∧Hid (B≤wk.heap.size)∧Hid (Bz.blocksR gg ceP crcH f L most gk sums out2 (Bz.bytesH zs) p2=.ok o q2))
    case atStart=>exact ⟨o2,[],out,HW3,qz (World.ownsRow_nil _ _ _ _),qz (fun b b' _ e=>by cases e),qz (by simp),qz (by simp),HR3,HO3,qz hB3,HBL⟩
    case round =>
     clear HW3 HR3 HO3 HBL hB3
     obtain ⟨p2,sums,out2,HW,HU,HDB,HSZ,HSL,HR,HO,HBS,HI⟩:=hrel
     rename World=>wk
     obtain ⟨gk',hgk2,m,o3,hm,hcase⟩:=z5o (uh HI)
     subst hgk2
     have HMK:=qz (z8r rp g p2 m o3 zs wk (uh HR) (by omega) hm (by rcases hcase with ⟨c,_⟩|⟨c,_⟩;exact .inl c;exact .inr c))
     have hsl:=uh HSL
     rcases hcase with ⟨hmm,r,o4,hblk,hnext⟩|⟨hmm,s,o4,hs32,hsum,hq2,ho2⟩
     ·subst hmm
      obtain ⟨piece,hr2,hbis⟩:=Bz.blockR_inv gg ceP crcH hblk
      obtain ⟨rest2,hrest2⟩:=z4c _ _ _ _ _ _ hnext
      have htx:text=out2++(piece++(rest2++rest)):=by rw [uh HRE,hrest2,hr2];simp
      have hpl:out2.length+piece.length≤most:=by
       have:=congrArg List.length htx
       simp only [List.length_append] at this
       omega
      have hps:∀z∈piece,z<256:=fun z hz=>uh HTS z (by rw [htx];simp [hz])
      have HBK:Hid (∀w4,RB w4 rp g zs o3→rp<w4.heap.size→g<w4.heap.size→_):=qz fun w4 (r1:RB w4 rp g zs o3) (r2:rp<w4.heap.size) (r3:g<w4.heap.size)=>z6m rp g o3 f L r.1 o4 ((most:Int)-(out2.length:Int)) piece zs w4 r1 r2 r3 (by omega) hL9 (by omega) hps (by omega) hbis
      rw [hr2] at hnext
      have HNX:=qz hnext
      obtain ⟨sm,hsm⟩:∃sm,sm=r.1:=⟨_,rfl⟩
      rw [←hsm] at HBK HNX
      obtain ⟨ta,tc,htv⟩:=RowB.len (uh HW)
      subst htv
      clear hblk hnext hbis hr2 hrest2 htx hps hsm hm HI
      go_wp2_with fail
      refine (uh HMK).mono ?_
      rintro e w4 ⟨rfl,hr4,ho4⟩
      have HR4:=qz hr4
      have HO4:=qz ((uh HO).trans ho4)
      have HW4:=qz (RowB.only (uh HW) ho4 hrpl)
      have HU4:=qz (RowU.only (uh HU) ho4 hrpl)
      have hB4:B≤w4.heap.size:=Nat.le_trans (uh HBS) ho4.size
      have fw:IntKind.i64.wrap ((most:Int)-(out2.length:Int))=(most:Int)-(out2.length:Int):=by rw [IntKind.wrap_i64];omega
      clear hr4 ho4 HR HO HW HU HBS HMK
      go_wp2_with fail
      refine (uh HBK w4 (uh HR4) (by omega) (by omega)).mono ?_
      rintro e w5 ⟨pv,⟨rfl,hr5,ho5⟩,hprow,hsm32⟩
      have HR5:=qz hr5
      have HO5:=qz ((uh HO4).trans ho5)
      have HW5:=qz (RowB.only (uh HW4) ho5 hrpl)
      have HU5:=qz (RowU.only (uh HU4) ho5 hrpl)
      have HP5:=qz hprow
      have hB5:B≤w5.heap.size:=Nat.le_trans hB4 ho5.size
      have HS32:=qz hsm32
      clear hr5 ho5 HR4 HO4 HW4 HU4 hB4 HBK hprow hsm32
      go_wp2_with (first|(at_builtin;refine y2m (ws:=w6) rfl _ _ rfl _ sums sm (by rfl) (by rfl) (uh HU6) hB6 (by omega) ?_;intro v7 w7 h7 k7;have HU7:=qz h7;have HG7:=qz k7;clear h7 k7)|(at_builtin;refine y7r rfl _ _ rfl _ _ out2 piece (by rfl) (by rfl) (uh HW5) (uh HP5) hB5 (by omega) ?_;intro v6 w6 h6 k6;have HW6:=qz h6;have HG6:=qz k6;have HU6:Hid (RowU B w6 u11 sums):=qz (R11.own_keep (uh HU5) fun b e=>k6.block b (World.ownsRow.lt (uh HU5) b e).2 (fun e2=>uh HDB b b e2 e rfl));have hB6:B≤w6.heap.size:=Nat.le_trans hB5 k6.size;clear h6 k6))
      go_roundg gk'
      case measure=>omega
      case rel =>
       have k6:=uh HG6
       have k7:=uh HG7
       have hlo5:=RowB.lo (uh HW5)
       have hlo6:=RowU.lo (uh HU6)
       have hlt5:∀b,u11.ownBlock=some b→b<w5.heap.size:=fun b e=>(World.ownsRow.lt (uh HU5) b e).2
       have hne67:∀b,v6.ownBlock=some b→u11.ownBlock≠some b:=fun b e e2=>by
        rcases k6.lies b e with e3|e3
        ·exact uh HDB b b e3 e2 rfl
        ·have:=hlt5 b e2;omega
       refine ⟨o4,sums++[sm],out2++piece,qz (R11.own_keep (uh HW6) fun b e=>k7.block b (World.ownsRow.lt (uh HW6) b e).2 (hne67 b e)),HU7,qz fun b b' e e'=>?_,qz fun z hz=>?_,qz (by simp;omega),qz (((uh HR5).gr k6 hlo5 hrpl hgl).gr k7 hlo6 hrpl hgl),qz (Only.gr (Only.gr (uh HO5) k6 hlo5 (by rw [uh HBW2];exact Nat.le_refl _)) k7 hlo6 (by rw [uh HBW2];exact Nat.le_refl _)),qz (Nat.le_trans hB6 k7.size),HNX⟩
       ·rcases k7.lies b' e' with e3|e3
        ·intro e4;subst e4;exact hne67 b e e3
        ·have:=(World.ownsRow.lt (uh HW6) b e).2;omega
       ·rcases List.mem_append.1 hz with hz|hz
        ·exact uh HSZ z hz
        ·simp at hz;rw [hz];exact uh HS32
     ·subst hmm ho2
      have HEND:Hid (∀w4 bw,RB w4 rp g zs o3→RowU B w4 bw sums→_):=qz fun w4 bw (r1:RB w4 rp g zs o3) (r2:RowU B w4 bw sums)=>y0g rp g o3 o4 q2 s B zs sums bw w4 r1 (by omega) r2 hrpl (uh HSZ) (by omega) hs32 hsum hq2
      have HQ2:Hid (q2%8=0):=qz (by omega)
      clear hs32 hsum hq2 hm HI
      go_wp2_with fail
      refine (uh HMK).mono ?_
      rintro e w4 ⟨rfl,hr4,ho4⟩
      have HR4:=qz hr4
      have HO4:=qz ((uh HO).trans ho4)
      have HW4:=qz (RowB.only (uh HW) ho4 hrpl)
      have HU4:=qz (RowU.only (uh HU) ho4 hrpl)
      clear hr4 ho4 HR HO HW HU HMK
      go_wp2_with fail
      refine (uh HEND w4 _ (uh HR4) (uh HU4)).mono ?_
      rintro e w5 ⟨rfl,hr5,ho5⟩
      have HR5:=qz hr5
      have HO5:=qz ((uh HO4).trans ho5)
      have HW5:=qz (RowB.only (uh HW4) ho5 hrpl)
      clear hr5 ho5 HR4 HO4 HW4 HU4 HEND
      go_wp2_with fail
      go_roundg (k2+1)
      case measure=>have:=uh HK2;have:=uh HGK;omega
      case rel =>
       refine ⟨false,q2,k2,o,rfl,rfl,uh HQ2,(uh HR5).le,HW5,HR5,HO5,qz ?_⟩
       rcases uh H5 with ⟨c1,c2⟩|⟨c1,c2⟩
       ·exact .inl ⟨rfl,c1,c2⟩
       ·exact .inr ⟨.inr c1,c2⟩
end
section
open Go.RowKit B4 B4.Mth Infl R11.Runs
def z9f (level:Nat) (bs:List Bz.Blk):List Nat:=Bz.packH (Bz.streamB level bs)
theorem z8g (level:Nat) (bs:List Bz.Blk):(z9f level bs).length=((Bz.streamB level bs).length+7)/8:=Bz.packH_len _
theorem y0l (level:Nat) (bs:List Bz.Blk):(Bz.streamB level bs).length=(Bz.blksB bs).length+112:=by
 unfold Bz.streamB
 simp only [List.length_append,Bz.nbH_len]
 omega
theorem y3l {level:Nat} {b:List Nat} {bs:List Bz.Blk} (h:Packed level b bs) (hlv:1≤level∧level≤9) (hn:b.length≤1048576) :
  ∃q,Bz.streamsR gg ceP crcH 1000000000 b.length 1 [] (Bz.bytesH (z9f level bs)) 0=.ok b q:=by
 have hl:=Bz.packH_lies [] [] (Bz.streamB level bs)
 rw [List.nil_append,List.append_nil] at hl
 have:=h.len
 have hpl:=z8g level bs
 have hh:=Bz.streams_last gg ceP crcH 1000000000 level b.length bs [] 0 0 hlv h.ok (by omega) (by rw [h.text];simp) hl (by
  show 8*(z9f level bs).length≤_
  omega)
 rw [h.text,List.nil_append] at hh
 exact ⟨_,hh⟩
theorem z8h (level:Nat) (bs:List Bz.Blk):∀z∈z9f level bs,z<256:=Bz.packH_small _
theorem y0b {level:Nat} {b:List Nat} {bs:List Bz.Blk} (h:Packed level b bs) (hn:b.length≤1048576):14≤(z9f level bs).length∧(z9f level bs).length≤2700000000000:=by
 have h1:=z8g level bs
 have h2:=y0l level bs
 have h3:=h.bits
 have h4:=h.len
 have:20000000*bs.length≤20000000*1048576:=Nat.mul_le_mul (Nat.le_refl _) (by omega)
 omega
theorem y3z {w:World} {g B:Nat} {zs:List Nat} (h:w.heap[g]?=some (.cells (zs.map bv).toArray 5 (0,0))) (hB:B≤g) (hn:zs.length≤100000000000000):RowB B w (.slice (some ⟨g,0,none⟩) zs.length zs.length) zs:=by
 exact ⟨by simp,.inr ⟨g,zs.length,_,rfl,hB,h,Nat.le_refl _,by unfold maxLen;omega,by simp,by rw [Nat.mul_one];exact List.take_of_length_le (by simp)⟩⟩
end
section
open Go.RowKit B4 B4.Mth Infl R11.Runs
attribute [local go_sem ↓] wp_at_zero wp_at_succ
theorem x8g {w:World} {a:Option Addr} {c:Nat} {zs:List Nat} (h:R11.SrcB w a c zs):R11.BytesIn w a zs:=fun j hj=>by
 rcases h with ⟨_,_,rfl⟩|⟨ad,rfl,hc⟩
 ·simp at hj
 ·have h0:=hc 0 (R11.bv (zs.getD 0 0)) (by simp [List.getD_eq_getElem?_getD,show 0<zs.length by omega])
  obtain ⟨b,off,sp⟩:=ad
  have hsp:sp=none:=by simpa [Addr.add] using World.cell?_spot h0
  subst hsp
  refine ⟨b,off,rfl,?_⟩
  have e:(⟨b,off,none⟩:Addr).add j=⟨b,off+j,none⟩:=by by_cases hq:j=0<;>simp [Addr.add,hq]
  have:=hc j (R11.bv (zs.getD j 0)) (by simp [List.getD_eq_getElem?_getD,hj])
  rw [e] at this
  exact this
theorem x8c (lv:Int):∃L:Nat,1≤L∧L≤9∧1+Int.tmod lv 9%9=(L:Int) ∧ -9<Int.tmod lv 9∧Int.tmod lv 9<9:=by
 have h1 : -9<Int.tmod lv 9:=by have:=Int.lt_tmod_of_pos lv (b:=9) (by decide);omega
 have h2:Int.tmod lv 9<9:=Int.tmod_lt_of_pos lv (by decide)
 refine ⟨(1+Int.tmod lv 9%9).toNat,by omega,by omega,by omega,h1,h2⟩
theorem z5k {w:World} {B:Nat} {v:Value} {xs:List Nat} (h:RowB B w v xs):B4.Reads w v xs:=by
 rcases h.2 with ⟨e1,e2⟩|⟨g,cap,cur,e1,_⟩
 ·exact ⟨none,0,by rw [e1,e2],fun h0=>by omega⟩
 ·exact ⟨_,cap,e1,fun _=>⟨_,rfl,World.ownsRow.cells h (by rw [e1];rfl)⟩⟩
theorem x3e {w:World} {a:Option Addr} {c:Nat} {zs:List Nat} (h:R11.SrcB w a c zs):R11.Reads w (.slice a zs.length c) zs:=by
 rcases h with ⟨rfl,rfl,rfl⟩|⟨ad,rfl,hc⟩
 ·exact ⟨none,0,rfl,fun h0=>by simp at h0⟩
 ·exact ⟨_,c,rfl,fun _=>⟨ad,rfl,hc⟩⟩
end
end Go.Proofs.YtljdhaepkhhnlaaGreat
