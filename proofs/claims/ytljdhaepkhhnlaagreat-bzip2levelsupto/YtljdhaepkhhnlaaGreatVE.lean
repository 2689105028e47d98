/- Texts of one proof, one behind the other: Qc, Qd, P6, P7, B4WriteMath, B4WrTwo, P0, L5Kit, L5Range, L5Merge, L5Best, L5Rounds, L5App, L5Aid, L5Pack, L5AidTwo, L5MAt. -/
import Derived.Test.YtljdhaepkhhnlaaGreatVD
import Derived.Lib.SliceRun
import Derived.RangeFuncNested
import Derived.RangeFuncBound
import Derived.RangeFuncCalls
import Derived.RangeFuncLeaves
import Derived.Shelf.Abstract
import Derived.Shelf.RegionOpen
import Derived.OwnWalkIn
import Derived.TacticsInMore
import Derived.LoopNIn
import Derived.LoopIn

set_option linter.unusedVariables false
set_option maxRecDepth 100000
set_option maxHeartbeats 24000000
namespace Go.Proofs.YtljdhaepkhhnlaaGreat
section
open Go.RowKit B4 B4.Mth Infl R11.Runs Bz
attribute [local go_sem ↓] wp_at_zero wp_at_succ
def uv (z:Nat):Value:=.int .u32 (z:Int)
theorem w2i:(Tryz.prog.info? 42).map (fun i=>(i.zero,i.size,i.bytes))=some (some (.int .u32 0),1,4):=by kernel_rfl
def RowU (B:Nat) (w:World) (v:Value) (xs:List Nat):Prop:=w.ownsRow B 42 1 v xs.length (xs.map uv)
theorem y2m {ops:Array Oper} {rest:List Oper} {o:Oper} {a:Act} {Q:Exit→Act→World→Prop} {B:Nat} {ws:World} (hgd:o.guard=none) (s x:Operand)
  (ho:o.op=.call { callee:=.builtin .append,args:=#[s,x],argTypes:=#[41,41] }) (va:Value) (xs:List Nat) (X:Nat) (hs:a.eval s=va) (hx:a.eval x=.slice (some ⟨ws.heap.size,0,none⟩) 1 1)
  (hA:RowU B ws va xs) (hB:B≤ws.heap.size) (hlen:(xs.length+1)*8≤140737488355328)
  (h:∀v' w',RowU B w' v' (xs++[X])→Gr ws w' va v'→wpList Tryz.prog ops Q rest (a.put o.dst v') w'):wpList Tryz.prog ops Q (o :: rest) a (ws.alloc (.cells #[uv X] 42)):=by
 obtain ⟨i0,hi,hz0,hz1,hz2⟩:=info_parts w2i
 refine wpList_append_own_at (ws.alloc (.cells #[uv X] 42)) hgd s x 41 ho B 42 i0 (.int .u32 0) 1 4 Tryz.underlying41 hi hz0 hz1 hz2 rfl (by decide) va xs.length (xs.map uv) hs (World.ownsRow.alloc hA _) ⟨ws.heap.size,0,none⟩ 1 1 [uv X] hx rfl ?_ (by intro u hu;rw [List.mem_singleton] at hu;subst hu;rfl) (by unfold maxLen;omega) (by omega) (by simp;omega) ?_
 ·intro j u hj
  cases j with
  | zero =>
   have e:(⟨ws.heap.size,0,none⟩:Addr).add 0=⟨ws.heap.size,0,none⟩:=by simp [Addr.add]
   rw [e]
   simp only [World.cell?,heap_alloc_new]
   simpa using hj
  | succ j=>simp at hj
 ·intro v' w' h2 h3 _ h5
  refine h v' w' (by unfold RowU;rw [List.length_append,List.map_append];exact h2) ⟨h3.os,h3.tape,h3.output,by have:=h3.size;simp at this;omega,fun k hk hne=>?_,fun b e=>?_⟩
  ·rw [h3.block k (by simp;omega) (fun e=>hne e.symm),Below.heap_alloc _ _ _ hk]
  ·rcases h5 with h5|h5
   ·exact .inl (by rw [←h5,e])
   ·rw [e] at h5;have:=Option.some.inj h5;simp at this;exact .inr (by omega)
theorem x6u (l:List Nat) (i:Nat) (h:i<l.length):sumF (l.take (i+1))=rot1 (sumF (l.take i)) ^^^ l.getD i 0:=by
 unfold sumF
 rw [List.take_add_one,List.foldl_append,List.getElem?_eq_getElem h,List.getD_eq_getElem?_getD,List.getElem?_eq_getElem h]
 rfl
def w0m (w:World) (a0:Option Addr) (l:List Nat):Prop:=∀j,j<l.length→∃g off,a0=some ⟨g,off,none⟩∧w.cell? ⟨g,off+j,none⟩=some (.int .u32 ((l.getD j 0:Nat):Int))
theorem x2o (l:List Nat) (a0:Option Addr) (cap:Nat) (w:World) (hc:w0m w a0 l) (hb:∀z∈l,z<4294967296) (hn:l.length≤140737488355328) :
  Calls Tryz.prog 18 #[.slice a0 l.length cap] w fun e w'=>e=.returned (.int .u32 ((sumF l:Nat):Int))∧w'=w:=by
 have HC:=qz hc
 have HBB:=qz hb
 obtain ⟨n,hN⟩:∃n,n=l.length:=⟨_,rfl⟩
 have HN:=qz hN
 rw [←hN] at hn ⊢
 clear hN hc hb
 go_enter Tryz.func18,Tryz.ntmps18
 go_wp2_with fail
 go_loopg [3,8] n (fun gk sv d ws=>∃ (i:Nat),gk=n-i∧i≤n∧sv=.int .u32 ((sumF (l.take i):Nat):Int)∧d=.int .i64 (i:Int)∧ws=w)
 case atStart=>exact ⟨0,by omega,by omega,rfl,rfl,rfl⟩
 case round =>
  obtain ⟨i,rfl,hi,rfl,rfl,rfl⟩:=hrel
  by_cases hlt:i<n
  ·have tl:(i:Int)<(n:Int):=by omega
   have hil:i<l.length:=by rw [←uh HN];exact hlt
   obtain ⟨g,off,rfl,c1⟩:=uh HC i hil
   have hx:=uh HBB _ (R11.getD_mem hil)
   have hs:sumF (l.take i)<4294967296:=sumF_lt (fun z hz=>uh HBB z (List.mem_of_mem_take hz))
   have HST:=qz (x6u l i hil)
   obtain ⟨x,hxx⟩:∃x,x=l.getD i 0:=⟨_,rfl⟩
   obtain ⟨s,hss⟩:∃s,s=sumF (l.take i):=⟨_,rfl⟩
   rw [←hxx] at c1 hx HST
   rw [←hss] at hs HST ⊢
   clear hxx hss
   obtain ⟨a,ha⟩:∃a,a=s*2%4294967296:=⟨_,rfl⟩
   obtain ⟨b,hb⟩:∃b,b=s/2147483648:=⟨_,rfl⟩
   have hal:a<4294967296:=by omega
   have hbl:b<4294967296:=by omega
   have f1:(s:Int)*2%4294967296=(a:Int):=by omega
   have f2:(s:Int)/2147483648=(b:Int):=by omega
   have f3:=u32_or_nat a b hal hbl
   have hr:a ||| b=rot1 s:=by rw [ha,hb];rfl
   rw [hr] at f3
   have f4:=u32_xor_nat (rot1 s) x (x2x hs) hx
   rw [←uh HST] at f4
   have hql:=sumF_lt (l:=l.take (i+1)) (fun z hz=>uh HBB z (List.mem_of_mem_take hz))
   generalize rot1 s=r at f3 f4
   obtain ⟨q,hq⟩:∃q,q=sumF (l.take (i+1)):=⟨_,rfl⟩
   rw [←hq] at f4 hql
   have HQ:=qz hq
   clear hq ha hb hr HST
   go_wp2_with fail
   go_roundg (n-(i+1))
   case measure=>omega
   case rel=>exact ⟨i+1,rfl,by omega,by rw [←uh HQ],by go_num,rfl⟩
  ·obtain rfl:n=i:=by omega
   have tl:¬ (n:Int)<(n:Int):=by omega
   have HT:Hid (l.take n=l):=qz (by rw [uh HN];exact List.take_length)
   go_wp2_with fail
   go_ret
   refine ⟨?_,rfl⟩
   show Ending.returned (Value.int .u32 ((sumF (l.take n):Nat):Int))=_
   rw [uh HT]
theorem RowU.u32In {w:World} {B:Nat} {v:Value} {xs:List Nat} (h:RowU B w v xs):∃a c,v=.slice a xs.length c∧w0m w a xs:=by
 rcases h.2 with ⟨e1,e2⟩|⟨g,cap,cur,e1,hb,hh,hl,_,_,ht⟩
 ·exact ⟨none,0,by rw [e1,e2],fun j hj=>by omega⟩
 ·refine ⟨_,_,e1,fun j hj=>⟨g,0,rfl,?_⟩⟩
  have h2:(cur.toList.take (xs.length*1))[j]?=some (uv (xs.getD j 0)):=by rw [ht];simp [List.getD_eq_getElem?_getD,hj]
  rw [List.getElem?_take,if_pos (by omega)] at h2
  simp only [World.cell?,hh,Nat.zero_add]
  simpa [uv] using h2
theorem RowU.only {w w':World} {B rp:Nat} {va:Value} {xs:List Nat} (h:RowU B w va xs) (hk:Only rp w w') (hB:rp<B):RowU B w' va xs:=R11.own_keep h fun g e=>hk.keep g (World.ownsRow.lt h g e).2 (by have:=(World.ownsRow.lt h g e).1;omega)
theorem RowU.lo {w:World} {B:Nat} {va:Value} {xs:List Nat} (h:RowU B w va xs):∀g,va.ownBlock=some g→B≤g:=fun g e=>(World.ownsRow.lt h g e).1
theorem y0g (rp g p o q sum B:Nat) (zs sums:List Nat) (bv':Value) (w:World) (h:RB w rp g zs p) (hz:zs.length≤10000000000000) (hrow:RowU B w bv' sums) (hB:rp<B) (hs:∀z∈sums,z<4294967296) (hn:sums.length≤1000000000) (hg:getH 32 (bytesH zs) p=.ok sum o) (he:sum=sumF sums) (hq:q=(o+7)/8*8) :
  Calls Tryz.prog 33 #[.pointer (some ⟨rp,0,none⟩),bv'] w fun e w'=>e=.returned (.int .i64 0)∧RB w' rp g zs q∧Only rp w w':=by
 have HC1:=qz (z3t h hz (by decide:(32:Nat)≤64) hg)
 have hsl:=getH_lt hg
 have HROW:=qz hrow
 have HS:=qz hs
 have HQ:=qz hq
 have HE:=qz he
 have hsl2:sum<4294967296:=hsl
 clear h hrow hs hg hq he hsl
 go_enter Tryz.func33,Tryz.ntmps33
 go_wp2_with fail
 refine (uh HC1).mono ?_
 rintro e w1 ⟨rfl,hr1,ho1,_⟩
 have hrow1:=RowU.only (uh HROW) ho1 hB
 obtain ⟨a,c,hv,hin⟩:=RowU.u32In hrow1
 subst hv
 have HR1:=qz hr1
 have HO1:=qz ho1
 have HC2:=qz (x2o sums a c w1 hin (uh HS) (by omega))
 rw [←uh HE] at HC2
 clear hr1 ho1 hrow1 hin HC1
 have fw2:IntKind.u32.wrap (sum:Int)=(sum:Int):=by rw [IntKind.wrap_u32];omega
 go_wp2_with fail
 refine (uh HC2).mono ?_
 rintro e w2 ⟨rfl,hw2⟩
 subst hw2
 have f9:((sum:Int) != (sum:Int))=false:=by simp
 have HC3:=qz (x2q rp g o true zs w2 (uh HR1) (by omega))
 go_wp2_with fail
 refine (uh HC3).mono ?_
 rintro e w3 ⟨rfl,hr3,k1,k2,k3,k4,k5⟩
 have HR3:=qz hr3
 have HO3:Hid (Only rp w2 w3):=qz ⟨k2,k3,k4,by omega,fun x _ hne=>k5 x hne⟩
 clear hr3 k1 k2 k3 k4 k5
 go_wp2_with fail
 go_ret
 exact ⟨rfl,by rw [uh HQ];exact uh HR3,(uh HO1).trans (uh HO3)⟩
end
section
open Go.RowKit B4 B4.Mth Infl R11.Runs Bz
attribute [local go_sem ↓] wp_at_zero wp_at_succ
theorem x3v (f:Nat→Bool) (a:Nat):∀b,Bz.vf f (a+b)=Bz.vf f a*2^b+Bz.vf (fun i=>f (a+i)) b
 | 0=>by simp [Bz.vf]
 | b+1=>by
  rw [←Nat.add_assoc,Bz.vf,x3v f a b,Bz.vf,Nat.pow_succ]
  have:Bz.vf f a*(2^b*2)=2*(Bz.vf f a*2^b):=by rw [Nat.mul_comm (2^b) 2,Nat.mul_left_comm]
  omega
theorem y2j {zs:List Nat} (hs:∀z∈zs,z<256) (k:Nat):Bz.vf (fun i=>(bytesH zs).f (8*k+i)) 8=zs.getD k 0:=by
 have hz:zs.getD k 0<256:=by
  rw [List.getD_eq_getElem?_getD]
  rcases Nat.lt_or_ge k zs.length with h|h
  ·rw [List.getElem?_eq_getElem h];exact hs _ (List.getElem_mem h)
  ·rw [List.getElem?_eq_none h];simp
 refine Bz.vf_test 8 _ _ hz fun i hi=>?_
 show (zs.getD ((8*k+i)/8) 0).testBit (7-(8*k+i)%8)=_
 rw [show (8*k+i)/8=k by omega,show (8*k+i)%8=i by omega]
theorem x5q {zs:List Nat} {p o:Nat} (hs:∀z∈zs,z<256) (h8:p%8=0) (h:getH 24 (bytesH zs) p=.ok 0x425a68 o):(zs.drop (p/8)).take 3=[66,90,104]∧p/8+3≤zs.length∧o=p+24:=by
 obtain ⟨h1,h2,h3⟩:=z4z h
 have hm:(bytesH zs).m=8*zs.length:=rfl
 rw [hm] at h1
 have hp:p=8*(p/8):=by omega
 generalize p/8=k at *
 subst hp
 have e1:=x3v (fun i=>(bytesH zs).f (8*k+i)) 16 8
 have e2:=x3v (fun i=>(bytesH zs).f (8*k+i)) 8 8
 have b0:=y2j hs k
 have b1:=y2j hs (k+1)
 have b2:=y2j hs (k+2)
 have c1:(fun i=>(bytesH zs).f (8*k+(8+i)))=fun i=>(bytesH zs).f (8*(k+1)+i):=funext fun i=>by rw [show 8*k+(8+i)=8*(k+1)+i by omega]
 have c2:(fun i=>(bytesH zs).f (8*k+(16+i)))=fun i=>(bytesH zs).f (8*(k+2)+i):=funext fun i=>by rw [show 8*k+(16+i)=8*(k+2)+i by omega]
 rw [c2,b2] at e1
 rw [c1,b1,b0] at e2
 have m0:=hs _ (R11.getD_mem (l:=zs) (r:=k) (by omega))
 have m1:=hs _ (R11.getD_mem (l:=zs) (r:=k+1) (by omega))
 have m2:=hs _ (R11.getD_mem (l:=zs) (r:=k+2) (by omega))
 have e3:Bz.vf (fun i=>(bytesH zs).f (8*k+i)) 24=Bz.vf (fun i=>(bytesH zs).f (8*k+i)) (16+8):=rfl
 have e4:Bz.vf (fun i=>(bytesH zs).f (8*k+i)) 16=Bz.vf (fun i=>(bytesH zs).f (8*k+i)) (8+8):=rfl
 rw [e3,e1,e4,e2] at h2
 have r0:zs.getD k 0=66:=by omega
 have r1:zs.getD (k+1) 0=90:=by omega
 have r2:zs.getD (k+2) 0=104:=by omega
 refine ⟨?_,by omega,h3⟩
 have g0:k<zs.length:=by omega
 have g1:k+1<zs.length:=by omega
 have g2:k+1+1<zs.length:=by omega
 have q0:zs[k]=66:=by rw [List.getD_eq_getElem?_getD,List.getElem?_eq_getElem g0] at r0;exact r0
 have q1:zs[k+1]=90:=by rw [List.getD_eq_getElem?_getD,List.getElem?_eq_getElem g1] at r1;exact r1
 have q2:zs[k+1+1]=104:=by rw [List.getD_eq_getElem?_getD,List.getElem?_eq_getElem g2] at r2;exact r2
 rw [List.drop_eq_getElem_cons g0,List.drop_eq_getElem_cons g1,List.drop_eq_getElem_cons g2]
 simp only [List.take_succ_cons,List.take_zero,q0,q1,q2]
theorem x4u {zs:List Nat} {p o d:Nat} (hs:∀z∈zs,z<256) (h8:p%8=0) (h:getH 8 (bytesH zs) p=.ok d o):(zs.drop (p/8)).take 1=[d]∧p/8+1≤zs.length∧o=p+8:=by
 obtain ⟨h1,h2,h3⟩:=z4z h
 have hm:(bytesH zs).m=8*zs.length:=rfl
 rw [hm] at h1
 have hp:p=8*(p/8):=by omega
 generalize p/8=k at *
 subst hp
 rw [y2j hs k] at h2
 have g0:k<zs.length:=by omega
 refine ⟨?_,by omega,h3⟩
 rw [List.getD_eq_getElem?_getD,List.getElem?_eq_getElem g0] at h2
 rw [List.drop_eq_getElem_cons g0]
 simp only [List.take_succ_cons,List.take_zero]
 rw [h2]
 rfl
theorem z9w (n:Int) (w:World):Calls Tryz.prog 26 #[.int .i64 n] w fun e w'=>e=.returned (.bool (decide (1≤n∧n≤9)))∧w'=w:=by
 by_cases h1:1≤n
 ·by_cases h2:n≤9
  ·have d1:decide (1≤n)=true:=by simp [h1]
   have d2:decide (n≤9)=true:=by simp [h2]
   have d3:decide (1≤n∧n≤9)=true:=by simp [h1,h2]
   rw [d3]
   go_enter Tryz.func26,Tryz.ntmps26
   go_wp2_with fail
   go_ret
   exact ⟨rfl,rfl⟩
  ·have d1:decide (1≤n)=true:=by simp [h1]
   have d2:decide (n≤9)=false:=by simp;omega
   have d3:decide (1≤n∧n≤9)=false:=by simp;omega
   rw [d3]
   go_enter Tryz.func26,Tryz.ntmps26
   go_wp2_with fail
   go_ret
   exact ⟨rfl,rfl⟩
 ·have d1:decide (1≤n)=false:=by simp;omega
  have d3:decide (1≤n∧n≤9)=false:=by simp;omega
  rw [d3]
  go_enter Tryz.func26,Tryz.ntmps26
  go_wp2_with fail
  go_ret
  exact ⟨rfl,rfl⟩
theorem y3x (rp g p o d q:Nat) (zs:List Nat) (w:World) (h:RB w rp g zs p) (hgw:g<w.heap.size) (hz:zs.length≤10000000000000) (h8:p%8=0) (hm:getH 24 (bytesH zs) p=.ok 0x425a68 o) (hd:getH 8 (bytesH zs) o=.ok d q) (hd9:49≤d∧d≤57) :
  Calls Tryz.prog 31 #[.pointer (some ⟨rp,0,none⟩)] w fun e w'=>RdTo rp g zs w q (.int .i64 ((d-48:Nat):Int)) e w':=by
 obtain ⟨m1,m2,m3⟩:=x5q h.small h8 hm
 obtain ⟨k1,k2,k3⟩:=x4u h.small (by omega) hd
 have HC1:=y3v rp g p true zs 3 w h (by omega) (by omega) h8 (by simpa using m2) hgw
 have e3:(3:Int).toNat=3:=rfl
 rw [e3,m1] at HC1
 have HC1:=qz HC1
 have HC2:Hid (∀w1,RB w1 rp g zs o→g<w1.heap.size→Calls Tryz.prog 58 #[.pointer (some ⟨rp,0,none⟩),.int .i64 1] w1 fun e w'=>e=.returned (.tuple #[.slice (some ⟨w1.heap.size,0,none⟩) 1 1,.int .i64 0])∧w'.heap[w1.heap.size]?=some (.cells (([d]:List Nat).map bv).toArray 5 (0,0))∧RB w' rp g zs q∧Only rp w1 w'):=qz fun w1 r1 r2=>by
  have:=y3v rp g o true zs 1 w1 r1 (by omega) (by omega) (by omega) (by simpa using k2) r2
  have e1:(1:Int).toNat=1:=rfl
  rw [e1,k1] at this
  rw [k3]
  exact this
 have HM3:Hid (p+8*3=o):=qz (by omega)
 have HRP:=qz h.lt
 have HGW:=qz hgw
 clear h m1 m2 m3 k1 k2 k3 hm hd e3 hgw
 go_enter Tryz.func31,Tryz.ntmps31
 go_wp2_with fail
 refine (uh HC1).mono ?_
 rintro e w1 ⟨rfl,hh1,hr1,ho1⟩
 rw [uh HM3] at hr1
 have hcv:(convert 22 9 (.slice (some ⟨w.heap.size,0,none⟩) 3 3)).run Tryz.prog w1=.ok (.string ⟨#[66,90,104]⟩) w1:=x4r w1 w.heap.size 3 [66,90,104] (by simp) hh1
 have HR1:=qz hr1
 have HO1:=qz ho1
 clear hr1 ho1 hh1
 go_wp2_with fail
 refine (uh HC2 w1 (uh HR1) (Nat.lt_of_lt_of_le (uh HGW) (uh HO1).size)).mono ?_
 rintro e w2 ⟨rfl,hh2,hr2,ho2⟩
 have c1:w2.cell? ⟨w1.heap.size,0,none⟩=some (.int .u8 (d:Int)):=by
  simp only [World.cell?,hh2]
  rfl
 have HR2:=qz hr2
 have HO2:=qz ((uh HO1).trans ho2)
 have fw:IntKind.i64.wrap (d:Int)=(d:Int):=by rw [IntKind.wrap_i64];omega
 have fw2:IntKind.i64.wrap ((d:Int)-48)=((d-48:Nat):Int):=by rw [IntKind.wrap_i64];omega
 have HL:=qz (z9w ((d-48:Nat):Int) w2)
 have dl:decide (1≤((d-48:Nat):Int)∧((d-48:Nat):Int)≤9)=true:=by simp;omega
 rw [dl] at HL
 clear hh2 hr2 ho2 dl
 obtain ⟨L,hL⟩:∃L:Int,L=((d-48:Nat):Int):=⟨_,rfl⟩
 rw [←hL] at fw2 HL
 have HLL:=qz hL
 clear hL
 go_wp2_with fail
 refine (uh HL).mono ?_
 rintro e w3 ⟨rfl,hw3⟩
 subst hw3
 go_wp2_with fail
 go_ret2
 exact ⟨by rw [←uh HLL];rfl,uh HR2,uh HO2⟩
end
section
open Go.RowKit B4 B4.Mth Infl R11.Runs
attribute [local go_sem ↓] wp_at_zero wp_at_succ
theorem x4q (b:List Nat) (ad:Addr) (cap:Nat) (w:World) (hs:∀ (j:Nat) u,(b.map R11.bv)[j]?=some u→w.cell? (ad.add j)=some u) (hn:b.length≤1048576) :
  Calls Tryz.prog 28 #[.slice (some ad) b.length cap] w fun e w'=>∃v,e=.returned v∧R11.StB w w' v b:=by
 have HS:=qz hs
 obtain ⟨N,hN⟩:∃N,N=b.length:=⟨_,rfl⟩
 have HN:=qz hN
 rw [←hN] at hn ⊢
 have hnil:(binOp .eql 22 (.slice (some ad) N cap) (.slice none 0 0)).run Tryz.prog w=.ok (.bool false) w:=Lib.run_eql_slice_nil w 22 5 (some ad) N cap 0 0 Tryz.underlying22
 clear hs hN
 go_enter Tryz.func28,Tryz.ntmps28
 go_wp2_with (at_builtin;refine R11.wp_catB rfl _ _ rfl b _ _ _ (by rfl) (by rfl) (uh HN).symm (.inr ⟨_,rfl,uh HS⟩) (by rw [←uh HN];exact hn) ?_;intro v1 w1 h1;have HV1:=qz h1;clear h1)
 go_ret
 exact ⟨_,rfl,uh HV1⟩
end
section
open Go.RowKit B4 B4.Mth Infl R11.Runs
attribute [local go_sem ↓] wp_at_zero wp_at_succ
theorem w2h:(Tryz.prog.info? 22).map (fun i=>(i.zero,i.size,i.bytes))=some (some (.slice none 0 0),1,24):=by kernel_rfl
theorem x7l {ops:Array Oper} {rest:List Oper} {o:Oper} {a:Act} {Q:Exit→Act→World→Prop} {B:Nat} {ws:World} (hgd:o.guard=none) (s x:Operand)
  (ho:o.op=.call { callee:=.builtin .append,args:=#[s,x],argTypes:=#[28,28] }) (va:Value) (xs:List Value) (pa:Option Addr) (pn pc:Nat) (hs:a.eval s=va) (hx:a.eval x=.slice (some ⟨ws.heap.size,0,none⟩) 1 1)
  (hA:ws.ownsRow B 22 1 va xs.length xs) (hB:B≤ws.heap.size) (hlen:(xs.length+1)*24≤140737488355328)
  (h:∀v' w',w'.ownsRow B 22 1 v' (xs.length+1) (xs++[.slice pa pn pc])→Gr ws w' va v'→wpList Tryz.prog ops Q rest (a.put o.dst v') w'):wpList Tryz.prog ops Q (o :: rest) a (ws.alloc (.cells #[.slice pa pn pc] 22)):=by
 obtain ⟨i0,hi,hz0,hz1,hz2⟩:=info_parts w2h
 refine wpList_append_own_at (ws.alloc (.cells #[.slice pa pn pc] 22)) hgd s x 28 ho B 22 i0 (.slice none 0 0) 1 24 Tryz.underlying28 hi hz0 hz1 hz2 rfl (by decide) va xs.length xs hs (World.ownsRow.alloc hA _) ⟨ws.heap.size,0,none⟩ 1 1 [.slice pa pn pc] hx rfl ?_ (by intro u hu;rw [List.mem_singleton] at hu;subst hu;rfl) (by unfold maxLen;omega) (by omega) (by simp;omega) ?_
 ·intro j u hj
  cases j with
  | zero =>
   have e:(⟨ws.heap.size,0,none⟩:Addr).add 0=⟨ws.heap.size,0,none⟩:=by simp [Addr.add]
   rw [e]
   simp only [World.cell?,heap_alloc_new]
   simpa using hj
  | succ j=>simp at hj
 ·intro v' w' h2 h3 _ h5
  refine h v' w' h2 ⟨h3.os,h3.tape,h3.output,by have:=h3.size;simp at this;omega,fun k hk hne=>?_,fun b e=>?_⟩
  ·rw [h3.block k (by simp;omega) (fun e=>hne e.symm),Below.heap_alloc _ _ _ hk]
  ·rcases h5 with h5|h5
   ·exact .inl (by rw [←h5,e])
   ·rw [e] at h5;have:=Option.some.inj h5;simp at this;exact .inr (by omega)
theorem y8e (ss:List Nat) (a0:Option Addr) (cap n:Nat) (hn:n≤ss.length) (hc:ss.length≤cap) :
  ∃a1,(∀w',(Instr.slice 22 (.slice a0 ss.length cap) (some (.int .i64 (n:Int))) none none).run Tryz.prog w'=.ok (.slice a1 (ss.length-n) (cap-n)) w')∧∀W,R11.BytesIn W a0 ss→R11.BytesIn W a1 (ss.drop n):=by
 refine ⟨if cap=n then a0 else a0.map (·.add (n*1)),fun w'=>?_,fun W h j hj=>?_⟩
 ·obtain ⟨i0,hi,hz0,hz1,hz2⟩:=info_parts inf5
  rw [run_slice_l w' 22 a0 ss.length cap Tryz.underlying22 .i64 (n:Int) (by omega) (by omega)]
  simp [sizeOf,typeInfo,sliced,Result.andThen,show Tryz.prog.elem 22=5 from by kernel_rfl,hi,hz1]
 ·rw [List.length_drop] at hj
  obtain ⟨g,off,rfl,hcell⟩:=h (n+j) (by omega)
  rw [if_neg (by omega)]
  refine ⟨g,off+n,?_,?_⟩
  ·by_cases hn0:n=0<;>simp [Addr.add,hn0]
  ·rw [show off+n+j=off+(n+j) by omega,hcell]
   congr 2
   rw [List.getD_eq_getElem?_getD,List.getD_eq_getElem?_getD,List.getElem?_drop]
def z3p (B:Nat) (w:World) (pv:Value) (v:Value) (p:List Nat):Prop:=∃m c,v=.slice (some ⟨m,0,none⟩) p.length c∧p.length≤c∧B≤m∧m<w.heap.size∧pv.ownBlock≠some m∧∀j,j<p.length→w.cell? ⟨m,j,none⟩=some (.int .u8 ((p.getD j 0:Nat):Int))
def z4u (B:Nat) (w:World) (pv:Value) (ps:List (List Nat)):Prop:=∃vs:List Value,vs.length=ps.length∧w.ownsRow B 22 1 pv vs.length vs∧∀i,i<ps.length→∃v,vs[i]?=some v∧z3p B w pv v (ps.getD i [])
theorem z3p.keep {B:Nat} {w w':World} {pv pv' v:Value} {p:List Nat} (h:z3p B w pv v p) (hs:w.heap.size≤w'.heap.size) (hk:∀m,B≤m→m<w.heap.size→pv.ownBlock≠some m→w'.heap[m]?=w.heap[m]?∧pv'.ownBlock≠some m):z3p B w' pv' v p:=by
 obtain ⟨m,c,h1,h2,h3,h4,h5,h6⟩:=h
 obtain ⟨k1,k2⟩:=hk m h3 h4 h5
 refine ⟨m,c,h1,h2,h3,by omega,k2,fun j hj=>?_⟩
 rw [←h6 j hj]
 simp only [World.cell?,k1]
theorem z4u.below {B:Nat} {w w':World} {pv:Value} {ps:List (List Nat)} (h:z4u B w pv ps) (hb:Below w.heap.size w w'):z4u B w' pv ps:=by
 obtain ⟨vs,h1,h2,h3⟩:=h
 refine ⟨vs,h1,R11.own_keep h2 fun g e=>hb.block g (h2.lt g e).2,fun i hi=>?_⟩
 obtain ⟨v,k1,k2⟩:=h3 i hi
 exact ⟨v,k1,k2.keep hb.size fun m _ hm hne=>⟨hb.block m hm,hne⟩⟩
theorem x0b (b:List Nat) (a0:Option Addr) (cap level:Nat) (w:World) (hc:R11.BytesIn w a0 b) (hcap:b.length≤cap) (hn:b.length≤1048576) (hlv:1≤level∧level≤9) :
  Calls Tryz.prog 8 #[.slice a0 b.length cap,.int .i64 (level:Int)] w fun e w'=>∃pv,e=.returned (.tuple #[pv,.int .i64 0])∧z4u w.heap.size w' pv (Bz.piecesF (100000*level-19) b)∧Below w.heap.size w w':=by
 have HC:=qz hc
 obtain ⟨m,hm⟩:∃m,m=100000*level-19:=⟨_,rfl⟩
 have hm2:1≤m∧m≤1000000:=by omega
 have fwm:IntKind.i64.wrap ((level:Int)*100000)=(level:Int)*100000:=by rw [IntKind.wrap_i64];omega
 have fwm2:IntKind.i64.wrap ((level:Int)*100000-19)=(m:Int):=by rw [IntKind.wrap_i64];omega
 rw [←hm]
 have HL:=qz (z9w (level:Int) w)
 have dl:decide (1≤(level:Int)∧(level:Int)≤9)=true:=by simp;omega
 rw [dl] at HL
 have hbig:¬ (268435456:Int)<(b.length:Int):=by omega
 have hbig2:decide ((268435456:Int)<(b.length:Int))=false:=by simp;omega
 have HHM:=qz hm
 clear hc dl hm
 obtain ⟨N0,hN0⟩:∃N0,N0=b.length:=⟨_,rfl⟩
 rw [←hN0] at hcap hn hbig hbig2 ⊢
 have HN0:=qz hN0
 clear hN0
 go_enter Tryz.func8,Tryz.ntmps8
 go_wp2_with fail
 refine (uh HL).mono ?_
 rintro e w' ⟨rfl,hw1⟩
 rw [hw1]
 clear hw1
 go_wp2_with fail
 go_loopg [0,6] (N0+1) (fun gk bv' pv ws=>∃ (i:Nat) (a:Option Addr) (c:Nat) (rest:List Nat) (ps:List (List Nat)),gk=N0+1-i∧i+rest.length=N0∧rest.length≤c∧bv'=.slice a rest.length c∧Hid (ps.length≤i)∧Hid (R11.BytesIn w a rest)∧Hid (z4u w.heap.size ws pv ps)∧Hid (Below w.heap.size w ws)∧Hid (ps++Bz.piecesF m rest=Bz.piecesF m b))
 case atStart =>
  exact ⟨0,a0,cap,b,[],by omega,by rw [←uh HN0];omega,by rw [←uh HN0];exact hcap,by rw [←uh HN0],qz (by simp),HC,qz ⟨[],rfl,World.ownsRow_nil _ _ _ _,fun i hi=>by simp at hi⟩,qz (Below.refl _ _),qz (by simp)⟩
 case round =>
  obtain ⟨i,a,c,rest,ps,rfl,hir,hrc,rfl,HPL,HIN0,HPS,HB,HT⟩:=hrel
  rename World=>ws
  have HIN:Hid (R11.BytesIn ws a rest):=qz ((uh HIN0).stays (uh HB))
  by_cases hpos:1≤rest.length
  ·have tpos:(0:Int)<(rest.length:Int):=by omega
   have hne:rest≠[]:=fun e=>by rw [e] at hpos;simp at hpos
   have HPC:=qz (z9g rest a c m ws (uh HIN) (by omega) hm2.2)
   have hcut1:1≤Bz.cutG m 0 0 rest:=by cases rest with|nil=>exact absurd rfl hne|cons x r=>exact Bz.cut_pos hm2.1
   have hcut2:=Bz.cut_le rest m 0 0
   have hpf:=Bz.piecesF_cons m hm2.1 rest hne
   have ht:=uh HT
   rw [hpf] at ht
   have HT2:=qz ht
   obtain ⟨K,hK⟩:∃K,K=Bz.cutG m 0 0 rest:=⟨_,rfl⟩
   rw [←hK] at HPC hcut1 hcut2 HT2
   clear hpf ht hne hK
   go_wp2_with fail
   refine (uh HPC).mono ?_
   rintro e w2 ⟨rfl,q,rfl⟩
   obtain ⟨a1,hsl,hrest⟩:=y8e rest a c K hcut2 hrc
   obtain ⟨g,off,rfl,c0⟩:=uh HIN 0 (by omega)
   have htl:(rest.take K).length=K:=by rw [List.length_take];omega
   have HCL:=x4q (rest.take K) ⟨g,off,none⟩ c (ws.drewN q) (fun j u hj=>by
    rw [List.getElem?_map,List.getElem?_take] at hj
    by_cases hjk:j<K
    ·rw [if_pos hjk,List.getElem?_eq_getElem (by omega)] at hj
     simp only [Option.map_some,Option.some.injEq] at hj
     obtain ⟨g',off',e',c'⟩:=uh HIN j (by omega)
     cases e'
     have e:(⟨g,off,none⟩:Addr).add j=⟨g,off+j,none⟩:=by by_cases hq:j=0<;>simp [Addr.add,hq]
     rw [e,←hj]
     rw [List.getD_eq_getElem?_getD,List.getElem?_eq_getElem (by omega)] at c'
     exact c'
    ·rw [if_neg hjk] at hj;cases hj) (by rw [htl];omega)
   rw [htl] at HCL
   have HCL:=qz HCL
   have HSL:=qz hsl
   have HRS:=qz hrest
   have tK1:(K:Int)≤(c:Int):=by omega
   clear hsl hrest HPC c0
   go_wp2_with fail
   refine (uh HCL).mono ?_
   rintro e w3 ⟨cv,rfl,hst⟩
   have hrow:RowB (ws.drewN q).heap.size w3 cv (rest.take K):=y5s hst
   obtain ⟨pa,pc,hcv,hcell⟩:=RowB.cellAt hrow
   rw [htl] at hcv hcell
   obtain ⟨mb,hmb,hm1,hm3,hm4,_⟩:=hcell 0 (by omega)
   have hpc:K≤pc:=by
    rcases hrow.2 with ⟨e1,e2⟩|⟨g1,cap1,cur,e1,_,_,hl,_⟩
    ·rw [htl] at e2;omega
    ·rw [e1] at hcv;injection hcv with _ _ e3;rw [htl] at hl;omega
   have hb3:Below ws.heap.size ws w3:=⟨hst.bel.os,hst.bel.tape,hst.bel.output,hst.bel.size,hst.bel.block⟩
   have hws:(ws.drewN q).heap.size=ws.heap.size:=rfl
   rw [hws] at hm1
   have hps:=uh HPS
   have hps3:=hps.below hb3
   obtain ⟨vs,hv1,hv2,hv3⟩:=hps3
   have hold:∀b,u6.ownBlock=some b→b<ws.heap.size:=fun b e=>by
    obtain ⟨vs',_,k2,_⟩:=hps
    exact (k2.lt b e).2
   have hpiece:z3p w.heap.size w3 u6 cv (rest.take K):=⟨mb,pc,by rw [hcv,hmb,htl],by rw [htl];exact hpc,by have:=(uh HB).size;omega,hm3,fun e=>by have:=hold mb e;omega,fun j hj=>by
    rw [htl] at hj
    obtain ⟨m',e',_,_,_,hc'⟩:=hcell j hj
    rw [hmb] at e'
    cases e'
    exact hc' w3 rfl⟩
   have HPI:=qz hpiece
   have HV2:=qz hv2
   have HV3:=qz hv3
   have HB3:=qz hb3
   have hvl:vs.length≤1048576:=by rw [hv1];have:=uh HPL;omega
   have HV1:=qz hv1
   have hBs:w.heap.size≤w3.heap.size:=Nat.le_trans (uh HB).size hb3.size
   subst hcv hmb
   clear hst hrow hcell hm4 hm3 hm1 hws hps hold hpiece hv1 hv2 hv3 HCL htl
   have hsl:=fun w'=>uh HSL w'
   go_wp2_with (at_builtin;go_must (refine x7l (ws:=w3) rfl _ _ rfl _ vs (some ⟨mb,0,none⟩) K pc (by rfl) (by rfl) (uh HV2) hBs (by omega) ?_;intro v4 w4 h4 k4;have HV4:=qz h4;have HG4:=qz k4;clear h4 k4))
   go_roundg (N0+1-(i+K))
   case measure=>omega
   case rel =>
    have hg4:=uh HG4
    have hdl:(rest.drop K).length=rest.length-K:=by simp
    have hb34:Below w.heap.size w w4:=by
     have h1:=(uh HB).trans ((uh HB3).mono (uh HB).size)
     exact h1.trans ⟨hg4.os,hg4.tape,hg4.output,hg4.size,fun k hk=>hg4.block k (by omega) (fun e=>by have:=((uh HV2).lt k e).1;omega)⟩
    have hl4:∀b,v4.ownBlock=some b→u6.ownBlock=some b∨w3.heap.size≤b:=hg4.lies
    have hkeep:∀v p,z3p w.heap.size w3 u6 v p→z3p w.heap.size w4 v4 v p:=fun v p h=>h.keep hg4.size fun m' _ hm' hne=>⟨hg4.block m' hm' hne,fun e=>by
     rcases hl4 m' e with e|e
     ·exact hne e
     ·omega⟩
    have hv1:=uh HV1
    refine ⟨i+K,a1,c-K,rest.drop K,ps++[rest.take K],rfl,by rw [hdl];omega,by rw [hdl];omega,by rw [hdl],qz (by have:=uh HPL;simp;omega),qz (uh HRS w (uh HIN0)),qz ⟨vs++[.slice (some ⟨mb,0,none⟩) K pc],by simp [hv1],by rw [List.length_append];exact uh HV4,fun k hk=>?_⟩,qz hb34,qz (by rw [List.append_assoc];exact uh HT2)⟩
    by_cases hkp:k<ps.length
    ·obtain ⟨vv,k1,k2⟩:=uh HV3 k hkp
     refine ⟨vv,by rw [List.getElem?_append_left (by omega)];exact k1,?_⟩
     rw [show (ps++[rest.take K]).getD k []=ps.getD k [] by rw [List.getD_eq_getElem?_getD,List.getD_eq_getElem?_getD,List.getElem?_append_left hkp]]
     exact hkeep _ _ k2
    ·have hkk:k=ps.length:=by simp at hk;omega
     refine ⟨.slice (some ⟨mb,0,none⟩) K pc,by rw [List.getElem?_append_right (by omega),hv1,hkk];simp,?_⟩
     rw [show (ps++[rest.take K]).getD k []=rest.take K by rw [hkk];simp [List.getD_eq_getElem?_getD]]
     exact hkeep _ _ (uh HPI)
  ·have hr0:rest=[]:=List.eq_nil_of_length_eq_zero (by omega)
   have tpos:¬ (0:Int)<(rest.length:Int):=by omega
   have ht:=uh HT
   rw [hr0,Bz.piecesF_nil,List.append_nil] at ht
   have HTF:=qz ht
   clear ht hr0
   go_wp2_with fail
   go_ret2
   exact ⟨_,rfl,by rw [←uh HTF];exact uh HPS,uh HB⟩
end
namespace B4.Mth
def ofBytes (high:Bool) (zs:List Nat):List Bool:=(List.range (8*zs.length)).map (z2h high zs)
theorem z9e (high:Bool) (zs:List Nat):(ofBytes high zs).length=8*zs.length:=by simp [ofBytes]
theorem y3j (high:Bool) (zs:List Nat) (i:Nat) (h:i<8*zs.length):(ofBytes high zs).getD i false=z2h high zs i:=by
 simp [ofBytes,h]
theorem z8c (high:Bool) (L:List Bool) (m:Nat) (zs:List Nat) (hL:L.length=8*m) (hz:∀z∈zs,z<256) (i:Nat) (hi:i<zs.length) :
  z2u high (L++ofBytes high zs) (m+i)=zs.getD i 0:=by
 apply Nat.eq_of_testBit_eq
 intro r
 rw [z0s]
 have hzi:zs.getD i 0<256:=hz _ (by rw [List.getD_eq_getElem?_getD,List.getElem?_eq_getElem hi];exact List.getElem_mem _)
 by_cases h8:r<8
 ·have h1:=z5v (high:=high) h8
  have e:(L++ofBytes high zs).getD (8*(m+i)+rk high 8 r) false=z2h high zs (8*i+rk high 8 r):=by
   rw [List.getD_eq_getElem?_getD,List.getElem?_append_right (by omega),show 8*(m+i)+rk high 8 r-L.length=8*i+rk high 8 r by omega,←List.getD_eq_getElem?_getD]
   exact y3j _ _ _ (by omega)
  rw [e]
  unfold z2h
  rw [show (8*i+rk high 8 r)/8=i by omega,show (8*i+rk high 8 r)%8=rk high 8 r by omega,y9d h8]
  simp [h8]
 ·have:(zs.getD i 0).testBit r=false:=Nat.testBit_lt_two_pow (Nat.lt_of_lt_of_le hzi (by
   have:2^8≤2^r:=Nat.pow_le_pow_right (by decide) (by omega)
   omega))
  simp [h8] at this ⊢
  exact this
theorem z8d (high:Bool) (L M:List Bool) (i:Nat) (h:8*i+8≤L.length):z2u high (L++M) i=z2u high L i:=by
 apply Nat.eq_of_testBit_eq
 intro r
 rw [z0s,z0s]
 by_cases h8:r<8
 ·have:=z5v (high:=high) h8
  simp only [List.getD_eq_getElem?_getD]
  rw [List.getElem?_append_left (by omega)]
 ·simp [h8]
theorem z8k (high:Bool) (L:List Bool) (m:Nat) (zs:List Nat) (hL:L.length=8*m) (hz:∀z∈zs,z<256) :
  pk high (m+zs.length) (L++ofBytes high zs)=pk high m L++zs:=by
 apply List.ext_getElem?
 intro i
 by_cases h:i<m
 ·rw [z8l _ _ _ _ (by omega),List.getElem?_append_left (by rw [z0z];exact h),z8l _ _ _ _ h,z8d _ _ _ _ (by omega)]
 ·by_cases h2:i<m+zs.length
  ·obtain ⟨j,rfl⟩:∃j,i=m+j:=⟨i-m,by omega⟩
   rw [z8l _ _ _ _ h2,z8c high L m zs hL hz j (by omega),List.getElem?_append_right (by rw [z0z];omega),z0z,show m+j-m=j by omega,List.getElem?_eq_getElem (by omega)]
   simp [show j<zs.length by omega]
  ·rw [List.getElem?_eq_none (by rw [z0z];omega),List.getElem?_eq_none (by rw [List.length_append,z0z];omega)]
end B4.Mth
namespace B4
open Go.RowKit Mth
theorem own_keep {w w':World} {base e size n:Nat} {v:Value} {xs:List Value} (h:w.ownsRow base e size v n xs) (h2:∀g,v.ownBlock=some g→w'.heap[g]?=w.heap[g]?):w'.ownsRow base e size v n xs:=by
 obtain ⟨hl,hr⟩:=h
 refine ⟨hl,?_⟩
 rcases hr with e|⟨g,cap,cur,e,hb,hh,r⟩
 ·exact .inl e
 ·exact .inr ⟨g,cap,cur,e,hb,by rw [h2 g (by rw [e];rfl)];exact hh,r⟩
theorem WOk.growBytes {wr w1:World} {pb:Nat} {high:Bool} {v v':Value} {m:Nat} {L:List Bool} {zs:List Nat} (h:WOk wr pb high v m L 0) (hz:∀z∈zs,z<256)
  (hown:w1.ownsRow (pb+1) 5 1 v' (m+zs.length) ((pk high m L).map bv++zs.map bv)) (hg:wr.grownBy w1 v.ownBlock) (hat:v'.ownBlock=v.ownBlock∨v'.ownBlock=some wr.heap.size) :
  WOk (w1.setCell ⟨pb,2,none⟩ v') pb high v' (m+zs.length) (L++ofBytes high zs) 0∧Chg pb v wr v' (w1.setCell ⟨pb,2,none⟩ v'):=by
 have hlt:=h.lt
 have hll:=h.len
 have hvb:v.ownBlock≠some pb:=fun e=>by have:=(h.row.lt pb e).1;omega
 have hbk:w1.heap[pb]?=some (.cells #[.bool true,.bool high,v,.int .i64 0] 68 (0,0)):=by
  rw [hg.block pb hlt (fun e=>hvb e.symm)];exact h.blk
 refine ⟨⟨?_,?_,by rw [List.length_append,z9e];omega⟩,⟨hg.os,hg.tape,hg.output,by simpa using hg.size,fun k hk hne hv=>?_,?_⟩⟩
 ·rw [heap_setCell_same _ pb 2 _ _ _ hbk];simp
 ·rw [z8k high L m zs (by omega) hz,List.map_append]
  exact own_keep hown (fun g e=>heap_setCell_other _ _ _ _ (by show g≠pb;have:=(hown.lt g e).1;omega))
 ·rw [heap_setCell_other _ _ _ _ (by exact hne),hg.block k hk (fun e=>hv e.symm)]
 ·rcases hat with e|e
  ·exact .inl e
  ·exact .inr ⟨_,e,Nat.le_refl _⟩
theorem WOk.grownAt {wr w1:World} {pb:Nat} {high:Bool} {v:Value} {m:Nat} {L:List Bool} {f:Nat} (h:WOk wr pb high v m L f) (hg:wr.grownBy w1 v.ownBlock) :
  w1.cell? ⟨pb,2,none⟩=some v∧w1.frozen? ⟨pb,2,none⟩=false:=by
 have hvb:v.ownBlock≠some pb:=fun e=>by have:=(h.row.lt pb e).1;omega
 have hbk:w1.heap[pb]?=some (.cells #[.bool true,.bool high,v,.int .i64 (f:Int)] 68 (0,0)):=by
  rw [hg.block pb h.lt (fun e=>hvb e.symm)];exact h.blk
 simp [World.cell?,World.frozen?,hbk]
theorem x5z {w:World} {base e size n:Nat} {v:Value} {xs:List Value} (h:w.ownsRow base e size v n xs):∃a l c,v=.slice a l c:=by
 rcases h.2 with ⟨e,_⟩|⟨g,c,_,e,_⟩
 ·exact ⟨_,_,_,e⟩
 ·exact ⟨_,_,_,e⟩
theorem z8n (pb m:Nat) (high:Bool) (v0:Value) (L:List Bool) (ad:Addr) (c:Nat) (zs:List Nat) (w:World) (hw:WOk w pb high v0 m L 0) (hz:∀z∈zs,z<256)
  (hc:∀ (j:Nat) u,(zs.map bv)[j]?=some u→w.cell? (ad.add j)=some u) (hb:m+zs.length≤140737488355328) :
  Calls Tryz.prog 14 #[.pointer (some ⟨pb,0,none⟩),.slice (some ad) zs.length c] w fun e w'=>e=.returned (.int .i64 0)∧∃v',WOk w' pb high v' (m+zs.length) (L++ofBytes high zs) 0∧Chg pb v0 w v' w':=by
 obtain ⟨i0,hi,hz0,hz1,hz2⟩:=info_parts info5
 have c0:=hw.c0
 have c2:=hw.c2
 have c3:=hw.c3
 have hlt:=hw.lt
 have H:=qz hw
 have HC:=qz hc
 have HZ:=qz hz
 clear hw hc hz
 go_enter Tryz.func14,Tryz.ntmps14
 go_wp2_with (first
  | (go_at_call 35;refine (y0x _ _ (by assumption)).mono ?_;rintro e w' ⟨rfl,rfl⟩)
  | (at_builtin;go_must (refine wpList_append_own_at _ rfl (.tmp 17) (.tmp 18) 22 rfl (pb+1) 5 i0 (.int .u8 0) 1 1 Tryz.underlying22 hi hz0 hz1 hz2 rfl (by decide) v0 m _ (by rfl) (uh H).row ad zs.length c (zs.map bv) (by rfl) (by simp) (uh HC) (by intro u hu;simp at hu;obtain ⟨z,_,rfl⟩:=hu;rfl) (by unfold maxLen;omega) (by omega) (by omega) ?_;intro v' w1 hown hgrow _ hat;obtain ⟨va,vn,vc,rfl⟩:=x5z hown;obtain ⟨d2,e2⟩:=(uh H).grownAt hgrow;have HG:=qz ((uh H).growBytes (uh HZ) hown hgrow hat);clear hown hgrow hat)))
 go_ret
 exact ⟨rfl,_,uh HG⟩
end B4
section
open Go.RowKit B4 B4.Mth Infl R11.Runs
attribute [local go_sem ↓] wp_at_zero wp_at_succ
def WS (w:World) (pb:Nat) (v:Value) (L:List Bool):Prop:=∃m f,WOk w pb true v m L f∧f≤7
def putV (pb:Nat):Value:=.func (.func 17) #[.pointer (some ⟨pb,0,none⟩)] #[]
theorem x8r (v n:Nat):bitsOf true v n=Bz.nbH v n:=by
 unfold bitsOf Bz.nbH
 refine List.map_congr_left fun i hi=>?_
 unfold rk
 rw [if_pos rfl]
theorem z2g {pb V n:Nat} {v:Value} {L:List Bool} {w:World} (h:WS w pb v L) (hn:n≤64) (hV:V<2^n) (hl:L.length≤900000000000000) :
  Calls Tryz.prog 17 #[.pointer (some ⟨pb,0,none⟩),.int .u64 (V:Int),.int .i64 (n:Int)] w fun e w'=>e=.returned (.int .i64 0)∧∃v',WS w' pb v' (L++Bz.nbH V n)∧B4.Chg pb v w v' w':=by
 obtain ⟨m,f,h1,h2⟩:=h
 refine (w1r pb m f true v L (V:Int) (n:Int) w h1 h2 (by omega) (by omega) (by omega) (by simpa using hV) (by simp;omega)).mono ?_
 rintro e w' ⟨rfl,v',m',f',k1,k2,k3⟩
 refine ⟨rfl,v',⟨m',f',?_,k2⟩,k3⟩
 simp only [Int.toNat_natCast] at k1
 rw [x8r] at k1
 exact k1
theorem WS.below {w w':World} {pb:Nat} {v:Value} {L:List Bool} (h:WS w pb v L) (hb:Below w.heap.size w w'):WS w' pb v L:=by
 obtain ⟨m,f,h1,h2⟩:=h
 exact ⟨m,f,h1.keep (hb.block _ h1.lt) (fun g e=>hb.block g (h1.row.lt g e).2),h2⟩
theorem z3a {w w':World} {pb:Nat} {v:Value} (hb:Below w.heap.size w w'):B4.Chg pb v w v w':=⟨hb.os,hb.tape,hb.output,hb.size,fun k hk _ _=>hb.block k hk,.inl rfl⟩
def Beside (pb:Nat) (v:Value) (g:Nat):Prop:=g≠pb∧v.ownBlock≠some g
theorem Beside.chg {pb g:Nat} {v v':Value} {w w':World} (h:Beside pb v g) (hg:g<w.heap.size) (hc:B4.Chg pb v w v' w'):Beside pb v' g∧w'.heap[g]?=w.heap[g]?:=by
 refine ⟨⟨h.1,fun e=>?_⟩,hc.keep g hg h.1 h.2⟩
 rcases hc.lies with e1|⟨b,e1,e2⟩
 ·exact h.2 (e1▸e)
 ·rw [e] at e1;have:=Option.some.inj e1;omega
theorem y1s (pb gl:Nat) (v:Value) (l:List Nat) (L:List Bool) (w:World) (h:WS w pb v L) (hr:Nums w gl l) (hb:Beside pb v gl) (hl0:1≤l.length∧l.length≤300) (hl:∀z∈l,1≤z∧z≤20) (hL:L.length≤800000000000000) :
  Calls Tryz.prog 77 #[putV pb,.slice (some ⟨gl,0,none⟩) l.length l.length] w fun e w'=>e=.returned (.tuple #[])∧∃v',WS w' pb v' (L++Bz.tableF l)∧B4.Chg pb v w v' w':=by
 have c0:=z0a.cell hr 0 (by omega)
 have hz0:=hl _ (Bz.getD_mem' (l:=l) (r:=0) (by omega))
 obtain ⟨z0,hz⟩:∃z0,z0=l.getD 0 0:=⟨_,rfl⟩
 rw [←hz] at c0 hz0
 have fw:IntKind.u64.wrap (z0:Int)=(z0:Int):=by rw [IntKind.wrap_u64];omega
 have HP:=qz (z2g (n:=5) (V:=z0) h (by decide) (by omega) (by omega))
 have HR:=qz hr
 have HBE:=qz hb
 have HL:=qz hl
 have HZ:=qz hz
 have HLL:=qz hL
 obtain ⟨N,hN⟩:∃N,N=l.length:=⟨_,rfl⟩
 have HN:=qz hN
 rw [←hN] at hl0 ⊢
 clear h hr hb hl hz hL hN
 have tl0:(0:Int)<(N:Int):=by omega
 unfold putV
 go_enter Tryz.func77,Tryz.ntmps77
 go_wp2_with fail
 refine (uh HP).mono ?_
 rintro e w1 ⟨rfl,v1,hws,hchg⟩
 have HW1:=qz hws
 have HC1:=qz hchg
 clear hws hchg HP
 go_wp2_with fail
 go_loopg [4,16] N (fun gk aw d ws=>∃ (i a1:Nat) (v2:Value) (L2:List Bool),gk=N-i∧i≤N∧1≤a1∧a1≤20∧aw=.int .i64 (a1:Int)∧d=.int .i64 (i:Int)∧Hid (L2.length≤L.length+5+60*i)∧Hid (WS ws pb v2 L2)∧Hid (B4.Chg pb v w v2 ws)∧Hid (L2++Bz.tabB a1 (l.drop i)=L++Bz.tableF l))
 case atStart=>exact ⟨0,z0,v1,L++Bz.nbH z0 5,by omega,by omega,hz0.1,hz0.2,rfl,rfl,qz (by simp [Bz.nbH_len]),HW1,HC1,qz (by rw [List.drop_zero,List.append_assoc,uh HZ];rfl)⟩
 case round =>
  clear HW1 HC1
  obtain ⟨i,a1,v2,L2,rfl,hi,ha1,ha2,rfl,rfl,HLN,HW,HC,HT⟩:=hrel
  rename World=>ws
  by_cases hlt:i<N
  ·have tl:(i:Int)<(N:Int):=by omega
   have hil:i<l.length:=by rw [←uh HN];exact hlt
   have hgl:gl<w.heap.size:=z0a.lt (uh HR)
   have hch:=uh HC
   have hnm:Nums ws gl l:=by unfold Nums z0a;rw [((uh HBE).chg hgl hch).2];exact uh HR
   have c1:=z0a.cell hnm i hil
   have hzi:=uh HL _ (Bz.getD_mem' (l:=l) hil)
   have hdrop:l.drop i=l.getD i 0 :: l.drop (i+1):=by rw [List.drop_eq_getElem_cons hil,List.getD_eq_getElem?_getD,List.getElem?_eq_getElem hil];rfl
   obtain ⟨b,hbb⟩:∃b,b=l.getD i 0:=⟨_,rfl⟩
   rw [←hbb] at c1 hzi hdrop
   have ht:=uh HT
   rw [hdrop,Bz.tabB] at ht
   have HT2:=qz ht
   have hLL:=uh HLL
   have hLN:=uh HLN
   clear hbb hdrop ht hnm hch HT
   go_wp2_with fail
   go_loopg [4] (b-a1) (fun gk aw wk=>∃ (a2:Nat) (v3:Value) (L3:List Bool),gk=b-a2∧1≤a2∧a2≤20∧(a2=a1∨a2≤b)∧aw=.int .i64 (a2:Int)∧Hid (L3.length+2*a1=L2.length+2*a2)∧Hid (WS wk pb v3 L3)∧Hid (B4.Chg pb v w v3 wk)∧Hid (L3++(Bz.stepB a2 b++false :: Bz.tabB b (l.drop (i+1)))=L++Bz.tableF l))
   case atStart=>exact ⟨a1,v2,L2,rfl,ha1,ha2,.inl rfl,rfl,qz rfl,HW,HC,HT2⟩
   case round =>
    clear HW HC HT2
    obtain ⟨a2,v3,L3,rfl,hb1,hb2,hb3,rfl,HLM,HW,HC,HT⟩:=hrel
    rename World=>wk
    have hLM:=uh HLM
    by_cases hab:a2<b
    ·have tab:(a2:Int)<(b:Int):=by omega
     have HP:=qz (z2g (n:=2) (V:=2) (uh HW) (by decide) (by decide) (by omega))
     go_wp2_with fail
     refine (uh HP).mono ?_
     rintro e w5 ⟨rfl,v5,hws,hchg⟩
     have HW5:=qz hws
     have HC5:=qz ((uh HC).trans hchg)
     clear hws hchg HP
     go_wp2_with fail
     go_roundg (b-(a2+1))
     case measure=>omega
     case rel=>exact ⟨a2+1,v5,L3++Bz.nbH 2 2,rfl,by omega,by omega,.inr (by omega),by go_num,qz (by simp [Bz.nbH_len];omega),HW5,HC5,qz (by have:=uh HT;rw [Bz.stepB_up hab] at this;rw [←this];simp [Bz.nbH,List.range_succ];decide)⟩
    ·have tab:¬ (a2:Int)<(b:Int):=by omega
     go_wp2_with fail
     go_loopg [4] (a2-b) (fun gk aw wk=>∃ (a3:Nat) (v3:Value) (L4:List Bool),gk=a3-b∧1≤a3∧a3≤a2∧b≤a3∧aw=.int .i64 (a3:Int)∧Hid (L4.length+2*a3=L3.length+2*a2)∧Hid (WS wk pb v3 L4)∧Hid (B4.Chg pb v w v3 wk)∧Hid (L4++(Bz.stepB a3 b++false :: Bz.tabB b (l.drop (i+1)))=L++Bz.tableF l))
     case atStart=>exact ⟨a2,v3,L3,rfl,hb1,by omega,by omega,rfl,qz rfl,HW,HC,HT⟩
     case round =>
      clear HW HC HT
      obtain ⟨a3,v4,L4,rfl,hc1,hc2,hc3,rfl,HLM4,HW,HC,HT⟩:=hrel
      rename World=>wj
      have hLM4:=uh HLM4
      by_cases hab2:b<a3
      ·have tab2:(b:Int)<(a3:Int):=by omega
       have HP:=qz (z2g (n:=2) (V:=3) (uh HW) (by decide) (by decide) (by omega))
       go_wp2_with fail
       refine (uh HP).mono ?_
       rintro e w5 ⟨rfl,v5,hws,hchg⟩
       have HW5:=qz hws
       have HC5:=qz ((uh HC).trans hchg)
       clear hws hchg HP
       go_wp2_with fail
       go_roundg (a3-1-b)
       case measure=>omega
       case rel=>exact ⟨a3-1,v5,L4++Bz.nbH 3 2,rfl,by omega,by omega,by omega,by go_num,qz (by simp [Bz.nbH_len];omega),HW5,HC5,qz (by have:=uh HT;rw [Bz.stepB_down hab2] at this;rw [←this];simp [Bz.nbH,List.range_succ];decide)⟩
      ·have tab2:¬ (b:Int)<(a3:Int):=by omega
       obtain rfl:b=a3:=by omega
       have HP:=qz (z2g (n:=1) (V:=0) (uh HW) (by decide) (by decide) (by omega))
       go_wp2_with fail
       refine (uh HP).mono ?_
       rintro e w5 ⟨rfl,v5,hws,hchg⟩
       have HW5:=qz hws
       have HC5:=qz ((uh HC).trans hchg)
       clear hws hchg HP
       go_wp2_with fail
       go_roundg (N-(i+1))
       case measure=>omega
       case rel=>exact ⟨i+1,b,v5,L4++Bz.nbH 0 1,rfl,by omega,by omega,by omega,rfl,by go_num,qz (by simp [Bz.nbH_len];omega),HW5,HC5,qz (by have:=uh HT;rw [Bz.stepB_self] at this;rw [←this];simp [Bz.nbH])⟩
  ·obtain rfl:N=i:=by omega
   have tl:¬ (N:Int)<(N:Int):=by omega
   have ht:=uh HT
   rw [List.drop_eq_nil_of_le (by rw [←uh HN];exact Nat.le_refl _),Bz.tabB,List.append_nil] at ht
   go_wp2_with fail
   go_end0
   exact ⟨rfl,v2,by rw [←ht];exact uh HW,uh HC⟩
end
namespace L5
open Go.RowKit
theorem qz {p:Prop} (h:p):Hid p:=h
theorem uh {p:Prop} (h:Hid p):p:=h
theorem cell_lt {w:World} {p:Addr} {u:Value} (h:w.cell? p=some u):p.block<w.heap.size:=by
 rcases Nat.lt_or_ge p.block w.heap.size with h'|h'
 ·exact h'
 ·simp [World.cell?,Array.getElem?_eq_none h'] at h
theorem z0c {w w1:World} (hb:Below w.heap.size w w1) {p:Addr} {u:Value} (h:w.cell? p=some u):w1.cell? p=some u:=by
 rw [hb.cell (cell_lt h)];exact h
theorem z0d {w:World} {k:Nat} {o:Obj} (h:w.heap[k]?=some o):k<w.heap.size:=by
 rcases Nat.lt_or_ge k w.heap.size with h'|h'
 ·exact h'
 ·rw [Array.getElem?_eq_none h'] at h;cases h
def z0q (w:World) (v:Value) (zs:List Int):Prop :=
 ∃a cap,v=.slice a zs.length cap∧(0<zs.length→∃b off,a=some ⟨b,off,none⟩∧∀j,j<zs.length→w.cell? ⟨b,off+j,none⟩=some (.int .i64 (zs.getD j 0)))
def upd (T:Nat→Nat) (j y:Nat):Nat→Nat:=fun i=>if i=j then y else T i
def z0b (k:IntKind) (n:Nat) (C:Nat→Nat):Array Value:=((List.range n).map fun i=>Value.int k (C i:Int)).toArray
theorem z1k {k:IntKind} {n:Nat} {C C':Nat→Nat} (h:∀i,i<n→C i=C' i):z0b k n C=z0b k n C':=by
 unfold z0b
 congr 1
 refine List.map_congr_left fun i hi=>?_
 simp at hi
 rw [h i hi]
def z0a (w:World) (k:IntKind) (t:TypeId) (g n:Nat) (C:Nat→Nat):Prop:=w.heap[g]?=some (.cells (z0b k n C) t (0,0))
section
variable {w w':World} {k:IntKind} {t:TypeId} {g n B:Nat} {C C':Nat→Nat}
theorem z0a.cell (h:z0a w k t g n C) (i:Nat) (hi:i<n):w.cell? ⟨g,i,none⟩=some (.int k (C i:Int)):=by
 simp only [World.cell?,show w.heap[g]?=_ from h]
 simp only [z0b,List.getElem?_toArray,List.getElem?_map]
 rw [List.getElem?_range hi]
 simp
theorem z0a.free (h:z0a w k t g n C) (i:Nat):w.frozen? ⟨g,i,none⟩=false:=by
 simp [World.frozen?,show w.heap[g]?=_ from h]
theorem z0a.lt (h:z0a w k t g n C):g<w.heap.size:=z0d h
theorem z0a.set (h:z0a w k t g n C) (i x:Nat):z0a (w.setCell ⟨g,i,none⟩ (.int k (x:Int))) k t g n (upd C i x):=by
 unfold z0a
 rw [heap_setCell_same w g i _ t (.int k (x:Int)) h]
 congr 2
 apply Array.ext (by simp [z0b])
 intro j j1 j2
 have hj:j<n:=by simpa [z0b] using j2
 rw [Array.getElem_setIfInBounds (by simpa [z0b] using hj)]
 simp only [z0b,upd,List.getElem_toArray,List.getElem_map,List.getElem_range]
 by_cases e:i=j
 ·subst e;simp
 ·rw [if_neg e,if_neg (by omega)]
theorem z0a.stays (h:z0a w k t g n C) (hb:Below B w w') (hg:g<B):z0a w' k t g n C:=by
 unfold z0a
 rw [hb.block g hg]
 exact h
theorem z0a.congr (h:z0a w k t g n C) (hc:∀i,i<n→C i=C' i):z0a w k t g n C':=by
 unfold z0a
 rw [←z1k hc]
 exact h
theorem z0a.other (h:z0a w k t g n C) (a:Addr) (v:Value) (hg:g≠a.block):z0a (w.setCell a v) k t g n C:=by
 unfold z0a
 rw [heap_setCell_other _ _ _ _ hg]
 exact h
theorem z0a.alloc (h:z0a w k t g n C) (o:Obj):z0a (w.alloc o) k t g n C:=by
 unfold z0a
 rw [Below.heap_alloc _ _ _ h.lt]
 exact h
end
theorem info3':(Tryz.prog.info? 3).map (fun i=>(i.zero,i.size,i.bytes))=some (some (.int .i64 0),1,8):=by kernel_rfl
theorem z0e (w:World) (n:Nat) (hn:n≤65536):(Instr.makeSlice 49 (.int .i64 (n:Int)) (.int .i64 (n:Int))).run Tryz.prog w=.ok (.slice (some ⟨w.heap.size,0,none⟩) n n) (w.alloc (.cells (z0b .i64 n (fun _=>0)) 3)):=by
 obtain ⟨i0,hi,hz0,hz1,hz2⟩:=info_parts info3'
 have:=run_make (P:=Tryz.prog) w 49 3 i0 (.int .i64 0) Tryz.underlying49 hi hz0 .i64 .i64 (n:Int) (n:Int) (by omega) (by omega) (by rw [hz2];omega) (by omega)
 rw [hz1] at this
 rw [this]
 congr 3
 apply Array.ext (by simp [madeCells,z0b])
 intro k k1 k2
 simp [z0b,madeCells,Value.cells,Nat.mod_one]
def RowI (w:World) (g n:Nat):Prop:=∃cur:Array Value,w.heap[g]?=some (.cells cur 3 (0,0))∧n≤cur.size
def iv (z:Int):Value:=.int .i64 z
theorem own_keep {w w':World} {base e size n:Nat} {v:Value} {xs:List Value} (h:w.ownsRow base e size v n xs) (h2:∀g,v.ownBlock=some g→w'.heap[g]?=w.heap[g]?):w'.ownsRow base e size v n xs:=by
 obtain ⟨hl,hr⟩:=h
 refine ⟨hl,?_⟩
 rcases hr with e|⟨g,cap,cur,e,hb,hh,r⟩
 ·exact .inl e
 ·exact .inr ⟨g,cap,cur,e,hb,by rw [h2 g (by rw [e];rfl)];exact hh,r⟩
section
variable {ws:World} {v10:Value} {ss:List Int}
theorem y3n {base n:Nat} {xs:List Value} (h:ws.ownsRow base 3 1 v10 n xs):∃a c,v10=.slice a n c:=by
 rcases h.2 with ⟨e,rfl⟩|⟨g,cap,_,e,_⟩
 ·exact ⟨none,0,e⟩
 ·exact ⟨_,cap,e⟩
end
end L5
namespace L5
open Go.RowKit
variable {F:Fence} {P:Program}
theorem z8o {W:World} {l:Nat} {o o':Obj} (h:W.heap[l]?=some o):(W.putObj l o').heap[l]?=some o':=World.putObj_heap_same (Array.getElem?_eq_some_iff.1 h).1
theorem x6l {m l:Nat} {r:Loop} {args:Array Value} {W:World} {I':World→Prop} (hfn:F.fn r.fn) (hl:W.heap[l]?=some (.loop r)) (hr:r.state=.ready) (hp:r.pending=none) (hs:args.size=r.params.size)
  (h:r.assign.wpIn (F.inRound l) m P (Exit.then (fun a' W'=>W'.heap[l]?=some (.loop r)∧r.body.wpIn (F.inRound l) m P (fun e _ W''=>e=.normal∧W''.heap[l]?=some (.loop { r with state:=.busy })∧I' (W''.putObj l (.loop r))) a' (W'.putObj l (.loop { r with state:=.busy }))) (fun _ _ _=>False))
   { tmps:=(r.params.zip args).foldl (fun t (p,v)=>t.setIfInBounds p v) r.tmps,defers:=[] } W) :
  YieldAt F m P l args W fun e W'=>e=.returned (.bool true)∧I' W'∧W'.heap[l]?=some (.loop r):=by
 refine ⟨r.fn,_,r.assign,r.body,run_yield hl hs,roundIn_of_wpIn hfn (wpIn_mono h ?_)⟩
 rintro e a' W' hq
 cases e with
 | normal =>
  obtain ⟨h1,h2⟩:=hq
  refine ⟨_,run_beginRound h1 hr,wpIn_mono h2 ?_⟩
  rintro e a'' W'' ⟨rfl,h3,h4⟩
  have h5:=run_endRound (P:=P) none h3
  have e2:({ { r with state:=.busy } with state:=if (none:Option Code).isNone then .ready else .done,pending:=none }:Loop)=r:=by
   cases r
   simp at hr hp
   subst hr hp
   rfl
  rw [e2] at h5
  exact ⟨_,_,h5,rfl,h4,z8o h3⟩
 | _=>exact hq.elim
theorem x2r {n:Nat} {g:Operand} {ps:Array Tmp} {assign body:Code} {Q:Exit→Act→World→Prop} {a:Act} {w:World} (hro:F.round=none) (h1:1≤n) {gf:Nat} {lb:Array Value} (hg:a.eval g=.func (.func gf) #[] lb) (hFg:F.fn gf)
  (eg:∀args w,(callFunc gf args).run P w=.ok (.enter gf args) w) (encs:Nat→Array Value) (N:Nat) (hps:∀k,(encs k).size=ps.size) (I:Nat→World→Prop) (hI:OwnFrom w.heap.size I) (h0:I 0 w)
  (hseq:∀ (l:Nat) (J:Nat→World→Prop) (W:World),(∀k W,J k W→I k W)→J 0 W→(∀k W1,k<N→J k W1→YieldAt F (n-1-1) P l (encs k) W1 fun e W'=>e=.returned (.bool true)∧J (k+1) W') →
   CallsIn F (n-1) P gf (#[.func (.yield l) #[] #[]]++lb) W fun e W'=>(∃v,e=.returned v)∧J N W')
  (Ax:Nat→Act→World→Prop) (hAx:∀k a',OwnFrom w.heap.size (fun (_:Unit) W=>Ax k a' W))
  (hassign:∀ (l k:Nat) (W:World) (K:Act→World→Prop),k<N→I k W→(∀a' W',KeepsOthers W W'→I k W'→Ax k a' W'→K a' W') →
   assign.wpIn (F.inRound l) (n-1-1) P (Exit.then K (fun _ _ _=>False)) { tmps:=(ps.zip (encs k)).foldl (fun t (p,v)=>t.setIfInBounds p v) a.tmps,defers:=[] } W)
  (hbody:∀ (l k:Nat) (a':Act) (W:World),k<N→I k W→Ax k a' W→body.wpIn (F.inRound l) (n-1-1) P (fun e _ W''=>e=.normal∧KeepsOthers W W''∧I (k+1) W'') a' W)
  (hdone:∀ (D:Nat) (W:World),w.heap.size≤D→I N W→W.heap[D]?=some (.deferred (some []))→Q .normal { a with defers:={ target:=.collected D,args:=#[] } :: a.defers } W) :
  (Code.rangeFunc g ps assign body).wpIn F n P Q a w:=by
 refine wpIn_rangeFunc fun fn hfn=>?_
 rw [hro]
 obtain ⟨r,hr⟩:∃r:Loop,r={ state:=.ready,pending:=none,fn:=fn,tmps:=a.tmps,params:=ps,assign:=assign,body:=body,defers:=w.heap.size }:=⟨_,rfl⟩
 have hL:((w.alloc (.deferred (some []))).alloc (.loop r)).heap[w.heap.size+1]?=some (.loop r):=by
  have:=World.alloc_heap_new (w.alloc (.deferred (some []))) (.loop r)
  rwa [World.size_alloc] at this
 have hD:((w.alloc (.deferred (some []))).alloc (.loop r)).heap[w.heap.size]?=some (.deferred (some [])):=(Below.heap_alloc _ _ _ (by simp)).trans (World.alloc_heap_new w _)
 have hI1:I 0 ((w.alloc (.deferred (some []))).alloc (.loop r)):=hI.alloc _ (hI.alloc _ h0)
 obtain ⟨W1,hW1⟩:∃W1,W1=(w.alloc (.deferred (some []))).alloc (.loop r):=⟨_,rfl⟩
 rw [←hW1] at hL hD hI1
 refine ⟨w.heap.size+1,[{ target:=.collected w.heap.size,args:=#[] }],W1,{ target:=.fn (.func gf) lb,args:=#[.func (.yield (w.heap.size+1)) #[] #[]] },W1,gf,#[.func (.yield (w.heap.size+1)) #[] #[]]++lb,W1,
  (by rw [hW1,hr];exact run_enterLoop_outer _ _ _ _ _),(by simp only [resolve,hg];simp [go_sem]),(fun f' hf'=>by simp [Target.leads] at hf';subst hf';exact hFg),(by simp [invoke,go_sem,eg]),fun _=>h1,?_⟩
 refine (hseq (w.heap.size+1) (fun k W=>I k W∧W.heap[w.heap.size]?=some (.deferred (some []))∧W.heap[w.heap.size+1]?=some (.loop r)) _ (fun k W h=>h.1) ⟨hI1,hD,hL⟩ ?_).mono ?_
 ·rintro k W hk ⟨hi,hd,hl⟩
  have hrd:=x6l (F:=F) (P:=P) (m:=n-1-1) (l:=w.heap.size+1) (r:=r) (args:=encs k) (W:=W) (I':=fun W'=>I (k+1) W'∧W'.heap[w.heap.size]?=some (.deferred (some []))) (by rw [hr];exact hfn) hl (by rw [hr]) (by rw [hr]) (by rw [hr];exact hps k) (by
   have e1:r.assign=assign:=by rw [hr]
   have e2:r.body=body:=by rw [hr]
   have e3:r.params=ps:=by rw [hr]
   have e4:r.tmps=a.tmps:=by rw [hr]
   have hassign':=hassign
   have hbody':=hbody
   rw [←e1,←e3,←e4] at hassign'
   rw [←e2] at hbody'
   refine hassign' _ k W _ hk hi fun a' W' kp hi' hax=>?_
   have hl':=kp.same (w.heap.size+1) (.loop r) hl rfl
   have hd':=kp.same w.heap.size (.deferred (some [])) hd rfl
   refine ⟨hl',wpIn_mono (hbody' _ k a' _ hk (hI.putObj _ hi' (by omega) hl' rfl) ((hAx k a').putObj (s:=()) _ hax (by omega) hl' rfl)) ?_⟩
   rintro e a'' W'' ⟨rfl,kp2,hi2⟩
   have hl2:=kp2.same (w.heap.size+1) (.loop { r with state:=.busy }) (z8o hl') rfl
   have hd2:=kp2.same w.heap.size (.deferred (some [])) ((World.putObj_heap_other (by omega)).trans hd') rfl
   exact ⟨rfl,hl2,hI.putObj _ hi2 (by omega) hl2 rfl,(World.putObj_heap_other (by omega)).trans hd2⟩)
  obtain ⟨f',t',as',b',hy,hR⟩:=hrd
  exact ⟨f',t',as',b',hy,hR.mono fun e W' ⟨x1,⟨x2,x3⟩,x4⟩=>⟨x1,x2,x3,x4⟩⟩
 ·rintro e W2 ⟨⟨v,rfl⟩,hi,hd,hl⟩
  have h2:=run_endLoop (P:=P) hl (by rw [hr];simp)
  have e2:r.pending=none:=by rw [hr]
  rw [e2] at h2
  exact ⟨none,_,h2,hdone _ _ (Nat.le_refl _) (hI.putObj _ hi (by omega) hl rfl) ((World.putObj_heap_other (by omega)).trans hd)⟩
end L5
namespace L5.Merge
abbrev Coin:=Nat × List Nat
def pack:List Coin→List Coin
 | a :: b :: r=>(a.1+b.1,a.2++b.2) :: pack r
 | _=>[]
def mrg:List Coin→List Coin→List Coin
 | [],ps=>ps
 | bs,[]=>bs
 | b :: bs,p :: ps=>if p.1<b.1 then p :: mrg (b :: bs) ps else b :: mrg bs (p :: ps)
termination_by a b=>a.length+b.length
def rounds (base:List Coin):Nat→List Coin
 | 0=>base
 | k+1=>mrg base (pack (rounds base k))
def z1p (l:List Coin):Nat:=(l.map Prod.fst).sum
def pre (l:List Coin) (m:Nat):Nat:=z1p (l.take m)
def Sorted (l:List Coin):Prop:=l.Pairwise fun a b=>a.1≤b.1
theorem x4a:z1p []=0:=rfl
theorem z3e (a:Coin) (l:List Coin):z1p (a :: l)=a.1+z1p l:=by simp [z1p]
theorem y4q (a b:List Coin):z1p (a++b)=z1p a+z1p b:=by simp [z1p]
theorem z1b (l:List Coin):pre l 0=0:=by simp [pre,z1p]
theorem z1a (a:Coin) (l:List Coin) (m:Nat):pre (a :: l) (m+1)=a.1+pre l m:=by simp [pre,z1p]
theorem pre_nil (m:Nat):pre [] m=0:=by simp [pre,z1p]
theorem y6y (l:List Coin):∀{a b:Nat},a≤b→pre l a≤pre l b:=by
 induction l with
 | nil=>intro a b _;simp [pre_nil]
 | cons x r ih =>
  intro a b h
  rcases a with _|a
  ·rw [z1b];omega
  ·rcases b with _|b
   ·omega
   ·rw [z1a,z1a]
    have:=ih (show a≤b by omega)
    omega
theorem y1r {x:Coin} {l:List Coin} (hs:Sorted (x :: l)):∀{m:Nat},m<l.length+1→pre (x :: l) m+x.1≤pre (x :: l) (m+1):=by
 induction l generalizing x with
 | nil=>intro m h;obtain rfl:m=0:=by simp at h;omega
        rw [z1b,z1a,z1b];omega
 | cons y r ih =>
  intro m h
  rcases m with _|m
  ·rw [z1b,z1a,z1b];omega
  ·rw [z1a,z1a]
   have hs':Sorted (y :: r):=(List.pairwise_cons.1 hs).2
   have hxy:x.1≤y.1:=(List.pairwise_cons.1 hs).1 y (by simp)
   have:=ih hs' (m:=m) (by simp at h ⊢;omega)
   omega
theorem z1m (ps:List Coin):mrg [] ps=ps:=by unfold mrg;rfl
theorem z0y (bs:List Coin):mrg bs []=bs:=by
 cases bs<;>simp [mrg]
theorem z2k:∀ (a b:List Coin),(mrg a b).length=a.length+b.length
 | [],ps=>by rw [z1m];simp
 | b :: bs,[]=>by rw [z0y];simp
 | b :: bs,p :: ps=>by
  rw [mrg]
  split
  ·rw [List.length_cons,z2k (b :: bs) ps];simp only [List.length_cons];omega
  ·rw [List.length_cons,z2k bs (p :: ps)];simp only [List.length_cons];omega
termination_by a b=>a.length+b.length
theorem z8a:∀ (A B:List Coin),Sorted A→Sorted B→∀a b,a≤A.length→b≤B.length→pre (mrg A B) (a+b)≤pre A a+pre B b
 | [],B,_,_,a,b,ha,_=>by
  obtain rfl:a=0:=by simpa using ha
  rw [z1m,pre_nil,Nat.zero_add,Nat.zero_add];exact Nat.le_refl _
 | x :: A,[],_,_,a,b,_,hb=>by
  obtain rfl:b=0:=by simpa using hb
  rw [z0y,pre_nil,Nat.add_zero,Nat.add_zero];exact Nat.le_refl _
 | x :: A,y :: B,hA,hB,a,b,ha,hb=>by
  have hA':Sorted A:=(List.pairwise_cons.1 hA).2
  have hB':Sorted B:=(List.pairwise_cons.1 hB).2
  rw [mrg]
  split
  ·rename_i hlt
   rcases b with _|b
   ·rcases a with _|a
    ·rw [Nat.add_zero,z1b];omega
    ·have ih:=z8a (x :: A) B hA hB' a 0 (by omega) (by omega)
     have st:=y1r hA (m:=a) (by simp at ha ⊢;omega)
     rw [Nat.add_zero,z1a,z1b]
     rw [Nat.add_zero,z1b] at ih
     omega
   ·have ih:=z8a (x :: A) B hA hB' a b ha (by simp at hb;omega)
    rw [←Nat.add_assoc,z1a,z1a]
    omega
  ·rename_i hge
   rcases a with _|a
   ·rcases b with _|b
    ·rw [Nat.add_zero,z1b];omega
    ·have ih:=z8a A (y :: B) hA' hB 0 b (by omega) (by omega)
     have st:=y1r hB (m:=b) (by simp at hb ⊢;omega)
     rw [Nat.zero_add,z1a,z1b]
     rw [Nat.zero_add,z1b] at ih
     omega
   ·have ih:=z8a A (y :: B) hA' hB a b (by simp at ha;omega) hb
    rw [show a+1+b=(a+b)+1 by omega,z1a,z1a]
    omega
termination_by A B=>A.length+B.length
theorem z3m:∀l:List Coin,(pack l).length=l.length/2
 | []=>by simp [pack]
 | [_]=>by simp [pack]
 | a :: b :: r=>by rw [pack,List.length_cons,z3m r];simp only [List.length_cons];omega
theorem y6v:∀ (l:List Coin) (p:Nat),2*p≤l.length→pre (pack l) p=pre l (2*p)
 | _,0,_=>by rw [z1b,Nat.mul_zero,z1b]
 | [],p+1,h=>by simp at h
 | [_],p+1,h=>by simp at h;omega
 | a :: b :: r,p+1,h=>by
  rw [pack,z1a,show 2*(p+1)=(2*p+1)+1 by omega,z1a,z1a,y6v r p (by simp at h;omega)]
  omega
theorem z7z {x:Coin}:∀ (A B:List Coin),x∈mrg A B→x∈A∨x∈B
 | [],B,h=>by rw [z1m] at h;exact .inr h
 | a :: A,[],h=>by rw [z0y] at h;exact .inl h
 | a :: A,b :: B,h=>by
  rw [mrg] at h
  split at h
  ·rcases List.mem_cons.1 h with rfl|h
   ·exact .inr (by simp)
   ·rcases z7z (a :: A) B h with h|h
    ·exact .inl h
    ·exact .inr (List.mem_cons_of_mem _ h)
  ·rcases List.mem_cons.1 h with rfl|h
   ·exact .inl (by simp)
   ·rcases z7z A (b :: B) h with h|h
    ·exact .inl (List.mem_cons_of_mem _ h)
    ·exact .inr h
termination_by A B=>A.length+B.length
theorem z5t:∀ (A B:List Coin),Sorted A→Sorted B→Sorted (mrg A B)
 | [],B,_,h=>by rw [z1m];exact h
 | a :: A,[],h,_=>by rw [z0y];exact h
 | a :: A,b :: B,hA,hB=>by
  have hA':=List.pairwise_cons.1 hA
  have hB':=List.pairwise_cons.1 hB
  rw [mrg]
  split
  ·rename_i hlt
   refine List.pairwise_cons.2 ⟨fun x hx=>?_,z5t (a :: A) B hA hB'.2⟩
   rcases z7z _ _ hx with h|h
   ·rcases List.mem_cons.1 h with rfl|h
    ·omega
    ·have:=hA'.1 x h;omega
   ·exact hB'.1 x h
  ·rename_i hge
   refine List.pairwise_cons.2 ⟨fun x hx=>?_,z5t A (b :: B) hA'.2 hB⟩
   rcases z7z _ _ hx with h|h
   ·exact hA'.1 x h
   ·rcases List.mem_cons.1 h with rfl|h
    ·omega
    ·have:=hB'.1 x h;omega
termination_by A B=>A.length+B.length
theorem x2b {m:Nat}:∀ (l:List Coin),(∀x∈l,m≤x.1)→∀x∈pack l,m+m≤x.1
 | [],_,x,h=>by simp [pack] at h
 | [_],_,x,h=>by simp [pack] at h
 | a :: b :: r,hl,x,h=>by
  rw [pack] at h
  rcases List.mem_cons.1 h with rfl|h
  ·have h1:=hl a (by simp)
   have h2:=hl b (by simp)
   show m+m≤a.1+b.1
   omega
  ·exact x2b r (fun y hy=>hl y (by simp [hy])) x h
theorem z4s:∀ (l:List Coin),Sorted l→Sorted (pack l)
 | [],_=>by simp [pack,Sorted]
 | [_],_=>by simp [pack,Sorted]
 | a :: b :: r,h=>by
  rw [pack]
  have h1:=List.pairwise_cons.1 h
  have h2:=List.pairwise_cons.1 h1.2
  refine List.pairwise_cons.2 ⟨fun x hx=>?_,z4s r h2.2⟩
  have h3:=x2b (m:=b.1) r (fun y hy=>h2.1 y hy) x hx
  have h4:=h1.1 b (by simp)
  show a.1+b.1≤x.1
  omega
theorem z5j {base:List Coin} (h:Sorted base):∀k,Sorted (rounds base k)
 | 0=>h
 | k+1=>z5t _ _ h (z4s _ (z5j h k))
/-! ### No choice of y4t is z1p less -/
def wide (c:Nat→Nat):Nat→Nat
 | 0=>c 0
 | k+1=>wide c k+c (k+1)*2^(k+1)
def x2n (base:List Coin) (c:Nat→Nat):Nat→Nat
 | 0=>pre base (c 0)
 | k+1=>x2n base c k+pre base (c (k+1))
theorem y5z (base:List Coin) (c:Nat→Nat) (hc:∀j,c j≤base.length):∀k,wide c k<((rounds base k).length+1)*2^k
 | 0=>by have:=hc 0;simp [wide,rounds];omega
 | k+1=>by
  have ih:=y5z base c hc k
  have h1:=hc (k+1)
  rw [wide,rounds,z2k,z3m,Nat.pow_succ]
  generalize (rounds base k).length=n at ih ⊢
  have h2:(n+1)*2^k≤(n/2+1)*(2^k*2):=by
   rw [show (n/2+1)*(2^k*2)=(2*(n/2)+2)*2^k by rw [Nat.mul_comm (2^k) 2,←Nat.mul_assoc];congr 1;omega]
   exact Nat.mul_le_mul_right _ (by omega)
  have h3:c (k+1)*(2^k*2)≤base.length*(2^k*2):=Nat.mul_le_mul_right _ h1
  rw [show (base.length+n/2+1)*(2^k*2)=base.length*(2^k*2)+(n/2+1)*(2^k*2) by rw [←Nat.add_mul,Nat.add_assoc]]
  omega
theorem best {base:List Coin} (hs:Sorted base) (c:Nat→Nat) (hc:∀j,c j≤base.length):∀k m,m*2^k≤wide c k→pre (rounds base k) m≤x2n base c k
 | 0,m,h=>by
  simp only [wide,Nat.pow_zero,Nat.mul_one] at h
  exact y6y _ h
 | k+1,m,h=>by
  have hw:=y5z base c hc k
  have hp:0<2^k:=Nat.two_pow_pos _
  obtain ⟨p,hpd⟩:∃p,p=wide c k/(2^k*2):=⟨_,rfl⟩
  have hd:=Nat.div_add_mod (wide c k) (2^k*2)
  have hr:=Nat.mod_lt (wide c k) (show 0<2^k*2 by omega)
  rw [←hpd] at hd
  have h1:(2*p)*2^k≤wide c k:=by
   rw [show 2*p*2^k=2^k*2*p by rw [Nat.mul_comm 2 p,Nat.mul_assoc,Nat.mul_comm p,Nat.mul_comm 2]]
   omega
  have h2:2*p≤(rounds base k).length:=by
   have:2*p*2^k<((rounds base k).length+1)*2^k:=Nat.lt_of_le_of_lt h1 hw
   have:=Nat.lt_of_mul_lt_mul_right this
   omega
  have h3:m≤c (k+1)+p:=by
   rw [wide,Nat.pow_succ] at h
   have h4:m*(2^k*2)<(c (k+1)+p+1)*(2^k*2):=by
    rw [show (c (k+1)+p+1)*(2^k*2)=c (k+1)*(2^k*2)+2^k*2*p+2^k*2 by rw [Nat.add_mul,Nat.add_mul,Nat.one_mul,Nat.mul_comm p]]
    omega
   have:=Nat.lt_of_mul_lt_mul_right h4
   omega
  have ih:=best hs c hc k (2*p) h1
  rw [←y6v _ p h2] at ih
  have hm:=z8a base (pack (rounds base k)) hs (z4s _ (z5j hs k)) (c (k+1)) p (hc _) (by rw [z3m];omega)
  have hmo:=y6y (mrg base (pack (rounds base k))) h3
  rw [rounds,x2n]
  omega
/-! ### What is chosen -/
def syms (l:List Coin):List Nat:=l.flatMap Prod.snd
theorem z8y (a b:List Coin):syms (a++b)=syms a++syms b:=by simp [syms]
theorem z4a (a:Coin) (l:List Coin):syms (a :: l)=a.2++syms l:=by simp [syms]
theorem z8j:∀ (l:List Coin) (p:Nat),2*p≤l.length→syms ((pack l).take p)=syms (l.take (2*p))
 | _,0,_=>by simp [syms]
 | [],p+1,h=>by simp at h
 | [_],p+1,h=>by simp at h;omega
 | a :: b :: r,p+1,h=>by
  rw [pack,List.take_succ_cons,show 2*(p+1)=(2*p+1)+1 by omega,List.take_succ_cons,List.take_succ_cons,z4a,z4a,z4a,z8j r p (by simp at h;omega),List.append_assoc]
theorem y1j:∀ (A B:List Coin) (m:Nat),m≤A.length+B.length→∃a b,a+b=m∧a≤A.length∧b≤B.length∧((mrg A B).take m).Perm (A.take a++B.take b)
 | A,B,0,_=>⟨0,0,rfl,by omega,by omega,by simp⟩
 | [],B,m+1,h=>⟨0,m+1,by omega,by omega,by simpa using h,by rw [z1m];simp⟩
 | x :: A,[],m+1,h=>⟨m+1,0,by omega,by simpa using h,by omega,by rw [z0y];simp⟩
 | x :: A,y :: B,m+1,h=>by
  rw [mrg]
  split
  ·obtain ⟨a,b,h1,h2,h3,h4⟩:=y1j (x :: A) B m (by simp at h ⊢;omega)
   refine ⟨a,b+1,by omega,h2,by simpa using h3,?_⟩
   rw [List.take_succ_cons,List.take_succ_cons]
   exact (h4.cons y).trans List.perm_middle.symm
  ·obtain ⟨a,b,h1,h2,h3,h4⟩:=y1j A (y :: B) m (by simp at h ⊢;omega)
   refine ⟨a+1,b,by omega,by simpa using h2,h3,?_⟩
   rw [List.take_succ_cons,List.take_succ_cons,List.cons_append]
   exact h4.cons x
termination_by A B=>A.length+B.length
def chosen (base:List Coin) (c:Nat→Nat):Nat→List Nat
 | 0=>syms (base.take (c 0))
 | k+1=>chosen base c k++syms (base.take (c (k+1)))
theorem z6a {base:List Coin} {c d:Nat→Nat}:∀k,(∀j,j≤k→c j=d j)→chosen base c k=chosen base d k
 | 0,h=>by rw [chosen,chosen,h 0 (Nat.le_refl _)]
 | k+1,h=>by rw [chosen,chosen,z6a k (fun j hj=>h j (by omega)),h (k+1) (Nat.le_refl _)]
theorem y0q {c d:Nat→Nat}:∀k,(∀j,j≤k→c j=d j)→wide c k=wide d k
 | 0,h=>by rw [wide,wide,h 0 (Nat.le_refl _)]
 | k+1,h=>by rw [wide,wide,y0q k (fun j hj=>h j (by omega)),h (k+1) (Nat.le_refl _)]
theorem pieces (base:List Coin):∀k m,m≤(rounds base k).length→∃c:Nat→Nat,(∀j,c j≤base.length)∧wide c k=m*2^k∧(syms ((rounds base k).take m)).Perm (chosen base c k)
 | 0,m,h=>⟨fun j=>if j=0 then m else 0,fun j=>by
   by_cases e:j=0
   ·simp only [if_pos e];exact h
   ·simp only [if_neg e];omega,by simp [wide],by simp [chosen,rounds]⟩
 | k+1,m,h=>by
  rw [rounds] at h ⊢
  rw [z2k] at h
  obtain ⟨a,b,h1,h2,h3,h4⟩:=y1j base (pack (rounds base k)) m h
  rw [z3m] at h3
  obtain ⟨c,c1,c2,c3⟩:=pieces base k (2*b) (by omega)
  refine ⟨fun j=>if j=k+1 then a else c j,fun j=>?_,?_,?_⟩
  ·by_cases e:j=k+1
   ·simp only [if_pos e];exact h2
   ·simp only [if_neg e];exact c1 j
  ·rw [wide,y0q (d:=c) k (fun j hj=>if_neg (by omega)),c2,if_pos rfl,←h1,Nat.pow_succ,Nat.add_mul,Nat.add_comm (a*_)]
   congr 1
   rw [Nat.mul_comm 2 b,Nat.mul_assoc,Nat.mul_comm 2]
  ·rw [chosen,z6a (d:=c) k (fun j hj=>if_neg (by omega)),if_pos rfl]
   have hp:(syms ((mrg base (pack (rounds base k))).take m)).Perm (syms (base.take a++(pack (rounds base k)).take b)):=List.Perm.flatMap_right _ h4
   rw [z8y,z8j _ b (by omega)] at hp
   exact hp.trans (List.perm_append_comm.trans (c3.append_right _))
/-! ### Worth by symbols -/
def Fair (w:Nat→Nat) (l:List Coin):Prop:=∀x∈l,x.1=(x.2.map w).sum
theorem y8j {w:Nat→Nat} {l:List Coin} (h:Fair w l):z1p l=((syms l).map w).sum:=by
 induction l with
 | nil=>rfl
 | cons x r ih =>
  rw [z3e,z4a,List.map_append,List.sum_append,←ih (fun y hy=>h y (by simp [hy])),h x (by simp)]
theorem y2x {w:Nat→Nat}:∀{l:List Coin},Fair w l→Fair w (pack l)
 | [],_=>by simp [pack,Fair]
 | [_],_=>by simp [pack,Fair]
 | a :: b :: r,h=>by
  rw [pack]
  intro x hx
  rcases List.mem_cons.1 hx with rfl|hx
  ·show a.1+b.1=((a.2++b.2).map w).sum
   rw [h a (by simp),h b (by simp),List.map_append,List.sum_append]
  ·exact y2x (l:=r) (fun y hy=>h y (by simp [hy])) x hx
theorem z7o {w:Nat→Nat} {base:List Coin} (h:Fair w base):∀k,Fair w (rounds base k)
 | 0=>h
 | k+1=>fun x hx=>by
  rcases z7z _ _ hx with hx|hx
  ·exact h x hx
  ·exact y2x (z7o h k) x hx
theorem x4x {w:Nat→Nat} {l:List Coin} (h:Fair w l) (m:Nat):pre l m=((syms (l.take m)).map w).sum :=
 y8j (fun x hx=>h x (List.mem_of_mem_take hx))
end L5.Merge
namespace L5.Merge
def lsum (f:Nat→Nat) (L:List Nat):Nat:=(L.map f).sum
theorem y6o (f:Nat→Nat):lsum f []=0:=rfl
theorem z0x (f:Nat→Nat) (x:Nat) (L:List Nat):lsum f (x :: L)=f x+lsum f L:=by simp [lsum]
theorem z6w (f g:Nat→Nat) (L:List Nat):lsum (fun i=>f i+g i) L=lsum f L+lsum g L:=by
 induction L with
 | nil=>rfl
 | cons x r ih=>rw [z0x,z0x,z0x,ih];omega
theorem y1e {f g:Nat→Nat} {L:List Nat} (h:∀i∈L,f i≤g i):lsum f L≤lsum g L:=by
 induction L with
 | nil=>exact Nat.le_refl _
 | cons x r ih =>
  have h1:=h x (by simp)
  have h2:=ih (fun i hi=>h i (by simp [hi]))
  rw [z0x,z0x];omega
theorem z1o {f g:Nat→Nat} {L:List Nat} (h:∀i∈L,f i=g i):lsum f L=lsum g L :=
 Nat.le_antisymm (y1e fun i hi=>Nat.le_of_eq (h i hi)) (y1e fun i hi=>Nat.le_of_eq (h i hi).symm)
theorem z2j (c:Nat) (L:List Nat):lsum (fun _=>c) L=L.length*c:=by
 induction L with
 | nil=>simp [lsum]
 | cons x r ih=>rw [z0x,ih,List.length_cons,Nat.add_mul];omega
theorem y3e (L:List Nat):lsum (fun _=>0) L=0:=by rw [z2j];omega
def jsum (f:Nat→Nat):Nat→Nat
 | 0=>f 0
 | k+1=>jsum f k+f (k+1)
theorem z5q {f g:Nat→Nat}:∀k,(∀j,j≤k→f j=g j)→jsum f k=jsum g k
 | 0,h=>h 0 (Nat.le_refl _)
 | k+1,h=>by rw [jsum,jsum,z5q k (fun j hj=>h j (by omega)),h (k+1) (Nat.le_refl _)]
theorem x0z {f g:Nat→Nat}:∀k,(∀j,j≤k→f j≤g j)→jsum f k≤jsum g k
 | 0,h=>h 0 (Nat.le_refl _)
 | k+1,h=>Nat.add_le_add (x0z k (fun j hj=>h j (by omega))) (h (k+1) (Nat.le_refl _))
theorem z5b (g:Nat→Nat→Nat) (L:List Nat):∀k,jsum (fun j=>lsum (fun i=>g i j) L) k=lsum (fun i=>jsum (g i) k) L
 | 0=>rfl
 | k+1=>by
  rw [jsum,z5b g L k]
  show _=lsum (fun i=>jsum (g i) k+g i (k+1)) L
  rw [z6w]
theorem z9b (c:Nat→Nat):∀k,wide c k=jsum (fun j=>c j*2^j) k
 | 0=>by simp [wide,jsum]
 | k+1=>by rw [wide,jsum,z9b c k]
theorem y0e (base:List Coin) (c:Nat→Nat):∀k,x2n base c k=jsum (fun j=>pre base (c j)) k
 | 0=>rfl
 | k+1=>by rw [x2n,jsum,y0e base c k]
def z0h (w:Nat→Nat) (order:List Nat):List Coin:=order.map fun i=>(w i,[i])
theorem z2x (w:Nat→Nat) (order:List Nat):syms (z0h w order)=order:=by
 induction order with
 | nil=>rfl
 | cons x r ih=>rw [z0h,List.map_cons,z4a];show [x]++syms (z0h w r)=_;rw [ih];rfl
theorem z2y (w:Nat→Nat) (order:List Nat) (m:Nat):(z0h w order).take m=z0h w (order.take m):=by simp [z0h]
theorem z3h (w:Nat→Nat) (order:List Nat):(z0h w order).length=order.length:=by simp [z0h]
theorem y9w (w:Nat→Nat) (order:List Nat):Fair w (z0h w order):=fun x hx=>by
 obtain ⟨i,_,rfl⟩:=List.mem_map.1 hx
 simp
theorem z7k {order:List Nat} (hd:order.Nodup) (w:Nat→Nat):∀ (s:List Nat),(∀i∈s,i∈order)→(s.map w).sum=lsum (fun i=>s.count i*w i) order
 | [],_=>by simp [y3e]
 | x :: s,h=>by
  have ih:=z7k hd w s (fun i hi=>h i (by simp [hi]))
  have hx:=h x (by simp)
  rw [List.map_cons,List.sum_cons,ih]
  have e:lsum (fun i=>(x :: s).count i*w i) order=lsum (fun i=>(if x=i then w i else 0)+s.count i*w i) order:=z1o fun i _=>by
   rw [List.count_cons]
   by_cases e:x=i
   ·subst e;simp [Nat.add_mul];omega
   ·simp [e]
  rw [e,z6w]
  congr 1
  clear e ih h
  induction order with
  | nil=>simp at hx
  | cons y r ih2 =>
   rw [z0x]
   have hd':=List.nodup_cons.1 hd
   by_cases e:x=y
   ·subst e
    rw [if_pos rfl,z1o (g:=fun _=>0) (fun i hi=>if_neg (fun e:x=i=>hd'.1 (by rw [e];exact hi))),y3e];omega
   ·rw [if_neg e,←ih2 hd'.2 (by simpa [e] using hx)];omega
theorem z9r {w:Nat→Nat} {order:List Nat} {c:Nat→Nat}:∀k i,i∈chosen (z0h w order) c k→i∈order
 | 0,i,h=>by rw [chosen,z2y,z2x] at h;exact List.mem_of_mem_take h
 | k+1,i,h=>by
  rw [chosen] at h
  rcases List.mem_append.1 h with h|h
  ·exact z9r k i h
  ·rw [z2y,z2x] at h;exact List.mem_of_mem_take h
theorem z6b {w:Nat→Nat} {order:List Nat} (c:Nat→Nat) (i:Nat):∀k,(chosen (z0h w order) c k).count i=jsum (fun j=>(order.take (c j)).count i) k
 | 0=>by rw [chosen,z2y,z2x];rfl
 | k+1=>by rw [chosen,List.count_append,z6b c i k,z2y,z2x];rfl
theorem z5w {order:List Nat} (hd:order.Nodup) (m i:Nat):(order.take m).count i≤1 :=
 List.nodup_iff_count.1 ((List.take_sublist m order).nodup hd) i
theorem powers (q:Nat→Nat) (hq:∀j,q j≤1):∀k,jsum (fun j=>q j*2^j) k+2^(k+1-jsum q k)≤2^(k+1)∧jsum q k≤k+1
 | 0=>by
  have h0:=hq 0
  simp only [jsum]
  have:q 0=0∨q 0=1:=by omega
  rcases this with e|e<;>rw [e]<;>simp
 | k+1=>by
  obtain ⟨ih,ih2⟩:=powers q hq k
  have h0:=hq (k+1)
  simp only [jsum]
  have:q (k+1)=0∨q (k+1)=1:=by omega
  have hp:2^(k+1+1)=2*2^(k+1):=by rw [Nat.pow_succ];omega
  rcases this with e|e
  ·rw [e]
   refine ⟨?_,by omega⟩
   simp only [Nat.zero_mul,Nat.add_zero]
   rw [hp,show k+1+1-jsum q k=(k+1-jsum q k)+1 by omega,Nat.pow_succ]
   omega
  ·rw [e]
   refine ⟨?_,by omega⟩
   rw [hp,Nat.one_mul,show k+1+1-(jsum q k+1)=k+1-jsum q k by omega]
   omega
/-! ### The lengths -/
def out (w:Nat→Nat) (order:List Nat) (M:Nat) (i:Nat):Nat:=(syms ((rounds (z0h w order) (M-1)).take (2*order.length-2))).count i
theorem enough (w:Nat→Nat) (order:List Nat) (M:Nat) (hM:1≤M) (hn:order.length≤2^M):2*order.length-2≤(rounds (z0h w order) (M-1)).length:=by
 obtain ⟨k,rfl⟩:∃k,M=k+1:=⟨M-1,by omega⟩
 have h:=y5z (z0h w order) (fun _=>order.length) (fun _=>by rw [z3h];exact Nat.le_refl _) k
 have e:∀k,wide (fun _=>order.length) k+order.length=order.length*2^(k+1):=by
  intro k
  induction k with
  | zero=>simp [wide];omega
  | succ k ih=>rw [wide,Nat.pow_succ 2 (k+1),←Nat.mul_assoc];omega
 have e1:=e k
 rw [Nat.add_sub_cancel]
 have hp:2^(k+1)=2*2^k:=by rw [Nat.pow_succ];omega
 by_cases h1:order.length≤1
 ·omega
 ·have h2:(2*order.length-2)*2^k<((rounds (z0h w order) k).length+1)*2^k:=by
   refine Nat.lt_of_le_of_lt ?_ h
   rw [Nat.sub_mul]
   rw [hp] at e1 hn
   rw [show order.length*(2*2^k)=2*order.length*2^k by rw [Nat.mul_comm 2 order.length,Nat.mul_assoc]] at e1
   omega
  have:=Nat.lt_of_mul_lt_mul_right h2
  omega
section
variable {w:Nat→Nat} {order:List Nat} {M:Nat}
theorem z5u (hM:1≤M) (hn:order.length≤2^M):∃c:Nat→Nat,(∀j,c j≤order.length)∧wide c (M-1)=(2*order.length-2)*2^(M-1)∧(∀i,out w order M i=jsum (fun j=>(order.take (c j)).count i) (M-1)) ∧
  (∀i∈syms ((rounds (z0h w order) (M-1)).take (2*order.length-2)),i∈order):=by
 obtain ⟨c,c1,c2,c3⟩:=pieces (z0h w order) (M-1) (2*order.length-2) (enough w order M hM hn)
 rw [z3h] at c1
 exact ⟨c,c1,c2,fun i=>by rw [out,c3.count_eq,z6b],fun i hi=>z9r _ i (c3.mem_iff.1 hi)⟩
theorem y6s (hd:order.Nodup) (hM:1≤M) (hn:order.length≤2^M) (i:Nat):out w order M i≤M:=by
 obtain ⟨c,_,_,c3,_⟩:=z5u (w:=w) hM hn
 rw [c3]
 have:=(powers _ (fun j=>z5w hd (c j) i) (M-1)).2
 omega
theorem y3m (hd:order.Nodup) (hM:1≤M) (hn:order.length≤2^M) (h2:2≤order.length):lsum (fun i=>2^(M-out w order M i)) order≤2^M:=by
 obtain ⟨c,c1,c2,c3,_⟩:=z5u (w:=w) hM hn
 have e1:wide c (M-1)=lsum (fun i=>jsum (fun j=>(order.take (c j)).count i*2^j) (M-1)) order:=by
  rw [z9b,←z5b]
  refine z5q _ (fun j _=>?_)
  have:=z7k hd (fun _=>2^j) (order.take (c j)) (fun i hi=>List.mem_of_mem_take hi)
  rw [←this]
  have hl:(order.take (c j)).length=c j:=by rw [List.length_take];have:=c1 j;omega
  have:=z2j (2^j) (order.take (c j))
  rw [hl] at this
  exact this.symm
 have e2:lsum (fun i=>jsum (fun j=>(order.take (c j)).count i*2^j) (M-1)+2^(M-out w order M i)) order≤lsum (fun _=>2^M) order:=y1e fun i _=>by
  have:=(powers _ (fun j=>z5w hd (c j) i) (M-1)).1
  rw [show M-1+1=M by omega] at this
  rw [c3]
  exact this
 rw [z6w,←e1,c2,z2j] at e2
 obtain ⟨k,rfl⟩:∃k,M=k+1:=⟨M-1,by omega⟩
 rw [Nat.add_sub_cancel] at e2
 have hp:2^(k+1)=2*2^k:=by rw [Nat.pow_succ];omega
 rw [Nat.sub_mul,hp,show order.length*(2*2^k)=2*order.length*2^k by rw [Nat.mul_comm 2 order.length,Nat.mul_assoc]] at e2
 have h3:2*2^k≤2*order.length*2^k:=Nat.mul_le_mul_right _ (by omega)
 rw [hp]
 omega
theorem x5x (hd:order.Nodup) (hM:1≤M) (hn:order.length≤2^M):lsum (fun i=>out w order M i*w i) order=pre (rounds (z0h w order) (M-1)) (2*order.length-2):=by
 obtain ⟨c,_,_,_,c4⟩:=z5u (w:=w) hM hn
 rw [x4x (z7o (y9w w order) _),z7k hd w _ c4]
 rfl
/-! ### No others cost less -/
theorem x6e {x:Coin} {l:List Coin} (hs:Sorted (x :: l)) {m:Nat} (h:m≤l.length):pre (x :: l) m≤pre l m:=by
 rcases m with _|m
 ·rw [z1b,z1b];exact Nat.le_refl _
 ·rw [z1a]
  have hl:Sorted l:=(List.pairwise_cons.1 hs).2
  cases l with
  | nil=>simp at h
  | cons y r =>
   have h1:=(List.pairwise_cons.1 hs).1 y (by simp)
   have h2:=y1r hl (m:=m) (by simp at h ⊢;omega)
   omega
theorem x9r {l s:List Coin} (h:s.Sublist l):Sorted l→pre l s.length≤z1p s:=by
 induction h with
 | slnil=>intro _;simp [z1b,x4a]
 | cons x h ih =>
  intro hs
  have:=ih (List.pairwise_cons.1 hs).2
  exact Nat.le_trans (x6e hs h.length_le) this
 | cons_cons x h ih =>
  intro hs
  have:=ih (List.pairwise_cons.1 hs).2
  rw [List.length_cons,z1a,z3e]
  omega
theorem y9o (l:Nat):∀k,l≤k+1→jsum (fun j=>(if k+1-j≤l then 1 else 0)*2^j) k+2^(k+1-l)=2^(k+1):=by
 have gen:∀K k,k≤K→l≤K+1→jsum (fun j=>(if K+1-j≤l then 1 else 0)*2^j) k+(if K+1-k≤l then 2^(K+1-l) else 2^(k+1))=2^(k+1):=by
  intro K k
  induction k with
  | zero =>
   intro _ hl
   simp only [jsum]
   by_cases e:K+1-0≤l
   ·rw [if_pos e,if_pos e,show K+1-l=0 by omega]
   ·rw [if_neg e,if_neg e]
  | succ k ih =>
   intro hk hl
   have ih':=ih (by omega) hl
   have hp:2^(k+1+1)=2*2^(k+1):=by rw [Nat.pow_succ];omega
   rw [jsum]
   by_cases e:K+1-(k+1)≤l
   ·rw [if_pos e,if_pos e,Nat.one_mul,hp]
    by_cases e2:K+1-k≤l
    ·rw [if_pos e2] at ih';omega
    ·rw [if_neg e2] at ih'
     rw [show K+1-l=k+1 by omega]
     omega
   ·rw [if_neg e,if_neg e,Nat.zero_mul,hp]
    rw [if_neg (by omega)] at ih'
    omega
 intro k hl
 have:=gen k k (Nat.le_refl _) hl
 by_cases e:k+1-k≤l
 ·rw [if_pos e] at this;exact this
 ·rw [if_neg e] at this
  obtain rfl:l=0:=by omega
  exact this
theorem x3o (l:Nat):∀k,l≤k+1→jsum (fun j=>if k+1-j≤l then 1 else 0) k=l:=by
 have gen:∀K k,k≤K→jsum (fun j=>if K+1-j≤l then 1 else 0) k=k+1-(K+1-l):=by
  intro K k
  induction k with
  | zero =>
   intro _
   simp only [jsum]
   by_cases e:K+1-0≤l
   ·rw [if_pos e];omega
   ·rw [if_neg e];omega
  | succ k ih =>
   intro hk
   rw [jsum,ih (by omega)]
   by_cases e:K+1-(k+1)≤l
   ·rw [if_pos e];omega
   ·rw [if_neg e];omega
 intro k hl
 rw [gen k k (Nat.le_refl _)];omega
theorem x5p (f:Nat→Nat) (c:Nat) (L:List Nat):lsum (fun i=>f i*c) L=lsum f L*c:=by
 induction L with
 | nil=>simp [y6o]
 | cons x r ih=>rw [z0x,z0x,ih,Nat.add_mul]
theorem y6m (f:Nat→Nat) (c:Nat):∀k,jsum (fun j=>f j*c) k=jsum f k*c
 | 0=>rfl
 | k+1=>by rw [jsum,jsum,y6m f c k,Nat.add_mul]
theorem z7p (p:Nat→Bool) (w:Nat→Nat) (L:List Nat):((L.filter p).map w).sum=lsum (fun i=>(if p i=true then 1 else 0)*w i) L:=by
 induction L with
 | nil=>rfl
 | cons x r ih =>
  rw [z0x]
  by_cases e:p x=true
  ·rw [List.filter_cons_of_pos e,List.map_cons,List.sum_cons,ih,if_pos e];omega
  ·rw [List.filter_cons_of_neg e,ih,if_neg e];omega
theorem y8x (hs:Sorted (z0h w order)) (hM:1≤M) (l:Nat→Nat) (hl:∀i∈order,l i≤M) (hk:lsum (fun i=>2^(M-l i)) order≤2^M) :
  pre (rounds (z0h w order) (M-1)) (2*order.length-2)≤lsum (fun i=>l i*w i) order:=by
 obtain ⟨k,rfl⟩:∃k,M=k+1:=⟨M-1,by omega⟩
 rw [Nat.add_sub_cancel]
 have hc:∀j,(order.filter (fun i=>decide (k+1-j≤l i))).length≤(z0h w order).length:=fun j=>by rw [z3h];exact List.length_filter_le _ _
 have hwide:wide (fun j=>(order.filter (fun i=>decide (k+1-j≤l i))).length) k=lsum (fun i=>jsum (fun j=>(if k+1-j≤l i then 1 else 0)*2^j) k) order:=by
  rw [z9b,←z5b]
  refine z5q _ (fun j _=>?_)
  have:=z7p (fun i=>decide (k+1-j≤l i)) (fun _=>2^j) order
  simp only [decide_eq_true_eq] at this
  rw [←this]
  have h3:=z2j (2^j) (order.filter (fun i=>decide (k+1-j≤l i)))
  exact h3.symm
 have hw2:(2*order.length-2)*2^k≤wide (fun j=>(order.filter (fun i=>decide (k+1-j≤l i))).length) k:=by
  have e:lsum (fun i=>jsum (fun j=>(if k+1-j≤l i then 1 else 0)*2^j) k+2^(k+1-l i)) order=lsum (fun _=>2^(k+1)) order:=z1o fun i hi=>y9o (l i) k (hl i hi)
  rw [z6w,←hwide,z2j] at e
  have hp:2^(k+1)=2*2^k:=by rw [Nat.pow_succ];omega
  rw [hp,show order.length*(2*2^k)=2*order.length*2^k by rw [Nat.mul_comm 2 order.length,Nat.mul_assoc]] at e
  rw [hp] at hk
  rw [Nat.sub_mul]
  omega
 refine Nat.le_trans (best hs _ hc k _ hw2) ?_
 rw [y0e]
 have e:lsum (fun i=>l i*w i) order=jsum (fun j=>lsum (fun i=>(if k+1-j≤l i then 1 else 0)*w i) order) k:=by
  rw [z5b]
  refine z1o fun i hi=>?_
  rw [y6m,x3o (l i) k (hl i hi)]
 rw [e]
 refine x0z _ (fun j _=>?_)
 have hf:=z7p (fun i=>decide (k+1-j≤l i)) w order
 simp only [decide_eq_true_eq] at hf
 rw [←hf]
 have hsub:(z0h w (order.filter (fun i=>decide (k+1-j≤l i)))).Sublist (z0h w order):=(List.filter_sublist).map _
 have:=x9r hsub hs
 rw [z3h] at this
 refine Nat.le_trans this (Nat.le_of_eq ?_)
 simp [z1p,z0h,List.map_map,Function.comp_def]
/-! ### They are full -/
theorem z4q {f g:Nat→Nat} {i:Nat}:∀{L:List Nat},L.Nodup→i∈L→lsum (fun x=>if x=i then g x else f x) L+f i=lsum f L+g i
 | [],_,h=>by simp at h
 | y :: r,hd,h=>by
  have hd':=List.nodup_cons.1 hd
  rw [z0x,z0x]
  by_cases e:y=i
  ·subst e
   rw [if_pos rfl,z1o (f:=fun x=>if x=y then g x else f x) (g:=f) (fun x hx=>if_neg (fun e:x=y=>hd'.1 (by rw [←e];exact hx)))]
   omega
  ·rw [if_neg e]
   have:=z4q (f:=f) (g:=g) hd'.2 (show i∈r by rcases List.mem_cons.1 h with h|h;exact absurd h.symm e;exact h)
   omega
theorem y3d {f:Nat→Nat} (hf:∀x,1≤f x) {i:Nat}:∀{L:List Nat},i∈L→f i+(L.length-1)≤lsum f L
 | [],h=>by simp at h
 | y :: r,h=>by
  rw [z0x,List.length_cons,Nat.add_sub_cancel]
  have hr:r.length≤lsum f r:=by
   have:=y1e (L:=r) (f:=fun _=>1) (g:=f) (fun x _=>hf x)
   rw [z2j] at this
   omega
  rcases List.mem_cons.1 h with rfl|h
  ·omega
  ·have:=y3d hf h
   have h1:=hf y
   have h3:0<r.length:=List.length_pos_of_mem h
   omega
theorem greatest (f:Nat→Nat):∀{L:List Nat},L≠[]→∃i,i∈L∧∀x∈L,f x≤f i
 | [],h=>absurd rfl h
 | [y],_=>⟨y,by simp,fun x hx=>by simp at hx;subst hx;exact Nat.le_refl _⟩
 | y :: z :: r,_=>by
  obtain ⟨i,h1,h2⟩:=greatest f (L:=z :: r) (by simp)
  by_cases e:f y≤f i
  ·exact ⟨i,List.mem_cons_of_mem _ h1,fun x hx=>by rcases List.mem_cons.1 hx with rfl|hx;exact e;exact h2 x hx⟩
  ·exact ⟨y,by simp,fun x hx=>by rcases List.mem_cons.1 hx with rfl|hx;exact Nat.le_refl _;have:=h2 x hx;omega⟩
theorem y6n {f:Nat→Nat} {d:Nat}:∀{L:List Nat},(∀x∈L,d∣f x)→d∣lsum f L
 | [],_=>by rw [y6o];exact Nat.dvd_zero d
 | y :: r,h=>by rw [z0x];exact Nat.dvd_add (h y (by simp)) (y6n fun x hx=>h x (by simp [hx]))
theorem x1w (hd:order.Nodup) (hM:1≤M) (hn:order.length≤2^M) (h2:2≤order.length) {i:Nat} (hi:i∈order):1≤out w order M i:=by
 have hk:=y3m (w:=w) hd hM hn h2
 rcases Nat.eq_zero_or_pos (out w order M i) with e|e
 ·have:=y3d (f:=fun i=>2^(M-out w order M i)) (fun x=>Nat.two_pow_pos _) hi
  simp only [e,Nat.sub_zero] at this
  omega
 ·exact e
theorem x5y (hs:Sorted (z0h w order)) (hd:order.Nodup) (hw:∀i∈order,0<w i) (hM:1≤M) (hn:order.length≤2^M) (h2:2≤order.length):lsum (fun i=>2^(M-out w order M i)) order=2^M:=by
 have hk:=y3m (w:=w) hd hM hn h2
 rcases Nat.lt_or_ge (lsum (fun i=>2^(M-out w order M i)) order) (2^M) with hlt|hge
 ·exfalso
  obtain ⟨i,hi,hmax⟩:=greatest (out w order M) (L:=order) (by intro e;rw [e] at h2;simp at h2)
  have hp:=x1w (w:=w) hd hM hn h2 hi
  have hle:=y6s (w:=w) hd hM hn i
  obtain ⟨T,hT⟩:∃T,T=out w order M i:=⟨_,rfl⟩
  -- all are multiples of the least one
  have hdv:2^(M-T)∣lsum (fun i=>2^(M-out w order M i)) order:=y6n fun x hx=>Nat.pow_dvd_pow 2 (by have:=hmax x hx;omega)
  have hdv2:2^(M-T)∣2^M:=Nat.pow_dvd_pow 2 (by omega)
  have hroom:lsum (fun i=>2^(M-out w order M i)) order+2^(M-T)≤2^M:=by
   obtain ⟨a,ha⟩:=hdv
   obtain ⟨b,hb⟩:=hdv2
   rw [ha,hb] at hlt ⊢
   have hab:a<b:=Nat.lt_of_mul_lt_mul_left hlt
   have:=Nat.mul_le_mul_left (2^(M-T)) (show a+1≤b from hab)
   rw [Nat.mul_add,Nat.mul_one] at this
   exact this
  -- a shorter word there
  have hch:=z4q (f:=fun x=>2^(M-out w order M x)) (g:=fun x=>2^(M-(out w order M x-1))) hd hi
  have hk2:lsum (fun x=>2^(M-(if x=i then out w order M x-1 else out w order M x))) order≤2^M:=by
   have e:lsum (fun x=>2^(M-(if x=i then out w order M x-1 else out w order M x))) order=lsum (fun x=>if x=i then 2^(M-(out w order M x-1)) else 2^(M-out w order M x)) order:=z1o fun x _=>by
    by_cases e:x=i
    ·rw [if_pos e,if_pos e]
    ·rw [if_neg e,if_neg e]
   rw [e]
   simp only [←hT] at hch hp hle
   have hpw:2^(M-(T-1))=2*2^(M-T):=by rw [show M-(T-1)=(M-T)+1 by omega,Nat.pow_succ];omega
   rw [hpw] at hch
   omega
  have hco:=y8x hs hM (fun x=>if x=i then out w order M x-1 else out w order M x) (fun x hx=>by
   have:=y6s (w:=w) hd hM hn x
   by_cases e:x=i
   ·simp only [if_pos e];omega
   ·simp only [if_neg e];exact this) hk2
  rw [←x5x hd hM hn] at hco
  have hch2:=z4q (f:=fun x=>out w order M x*w x) (g:=fun x=>(out w order M x-1)*w x) hd hi
  have e2:lsum (fun x=>(if x=i then out w order M x-1 else out w order M x)*w x) order=lsum (fun x=>if x=i then (out w order M x-1)*w x else out w order M x*w x) order:=z1o fun x _=>by
   by_cases e:x=i
   ·rw [if_pos e,if_pos e]
   ·rw [if_neg e,if_neg e]
  rw [e2] at hco
  have hwi:=hw i hi
  have hmul:out w order M i*w i=(out w order M i-1)*w i+w i:=by
   have:out w order M i=(out w order M i-1)+1:=by omega
   rw [this,Nat.add_mul,Nat.one_mul,Nat.add_sub_cancel]
  omega
 ·omega
theorem y8q {l:Nat→Nat} {L:List Nat} (hl:∀i∈L,l i≤M) (d:Nat):lsum (fun i=>2^(M+d-l i)) L=lsum (fun i=>2^(M-l i)) L*2^d:=by
 rw [←x5p]
 refine z1o fun i hi=>?_
 have:=hl i hi
 rw [←Nat.pow_add]
 congr 1
 omega
end
end L5.Merge
namespace L5.Merge
def goes (A B:List Nat) (s:Nat × Nat):Bool:=decide (s.2=B.length) || (decide (s.1<A.length) && decide (A.getD s.1 0≤B.getD s.2 0))
def st (A B:List Nat):Nat→Nat × Nat
 | 0=>(0,0)
 | m+1=>if goes A B (st A B m)=true then ((st A B m).1+1,(st A B m).2) else ((st A B m).1,(st A B m).2+1)
def item (A B:List Nat) (m:Nat):Nat:=if goes A B (st A B m)=true then A.getD (st A B m).1 0 else B.getD (st A B m).2 0
def mgd (A B:List Nat):List Nat:=(List.range (A.length+B.length)).map (item A B)
def ahd (A B:List Nat):List Nat:=(List.range (A.length+B.length+1)).map fun m=>(st A B m).1
theorem z2r {A B:List Nat} {i j:Nat}:goes A B (i,j)=true↔j=B.length∨i<A.length∧A.getD i 0≤B.getD j 0:=by
 simp [goes]
theorem x3f (A B:List Nat):∀m,m≤A.length+B.length→(st A B m).1+(st A B m).2=m∧(st A B m).1≤A.length∧(st A B m).2≤B.length
 | 0,_=>by simp [st]
 | m+1,h=>by
  obtain ⟨h1,h2,h3⟩:=x3f A B m (by omega)
  obtain ⟨⟨i,j⟩,hs⟩:∃s,st A B m=s:=⟨_,rfl⟩
  rw [hs] at h1 h2 h3
  simp only at h1 h2 h3
  rw [st,hs]
  by_cases hg:goes A B (i,j)=true
  ·rw [if_pos hg]
   rw [z2r] at hg
   simp only
   omega
  ·rw [if_neg hg]
   rw [z2r] at hg
   simp only
   omega
theorem z4h (A B:List Nat):(mgd A B).length=A.length+B.length:=by simp [mgd]
theorem z4b (A B:List Nat):(ahd A B).length=A.length+B.length+1:=by simp [ahd]
theorem x8n (A B:List Nat) (m:Nat) (h:m≤A.length+B.length):(ahd A B).getD m 0=(st A B m).1:=by
 simp [ahd,List.getD_eq_getElem?_getD,List.getElem?_range (show m<A.length+B.length+1 by omega)]
def fs (l:List Coin):List Nat:=l.map Prod.fst
theorem z0m (l:List Coin):(fs l).length=l.length:=by simp [fs]
theorem z9v (l:List Coin) (i:Nat) (h:i<l.length):(fs l).getD i 0=(l[i]).1:=by simp [fs,h]
theorem y1i (A B:List Coin):∀m,m≤A.length+B.length→∃P,mrg A B=P++mrg (A.drop (st (fs A) (fs B) m).1) (B.drop (st (fs A) (fs B) m).2)∧P.length=m ∧
  P.Perm (A.take (st (fs A) (fs B) m).1++B.take (st (fs A) (fs B) m).2)∧fs P=(List.range m).map (item (fs A) (fs B))
 | 0,_=>⟨[],by simp [st],rfl,by simp [st],rfl⟩
 | m+1,h=>by
  obtain ⟨P,h1,h2,h3,h4⟩:=y1i A B m (by omega)
  have hok:=x3f (fs A) (fs B) m (by rw [z0m,z0m];omega)
  rw [z0m,z0m] at hok
  have hit:item (fs A) (fs B) m=if goes (fs A) (fs B) (st (fs A) (fs B) m)=true then (fs A).getD (st (fs A) (fs B) m).1 0 else (fs B).getD (st (fs A) (fs B) m).2 0:=rfl
  obtain ⟨⟨i,j⟩,hs⟩:∃s,st (fs A) (fs B) m=s:=⟨_,rfl⟩
  rw [hs] at h1 h3 hok hit
  simp only at h1 h3 hok hit
  rw [st,hs]
  by_cases hg:goes (fs A) (fs B) (i,j)=true
  ·rw [if_pos hg]
   rw [if_pos hg] at hit
   rw [z2r,z0m,z0m] at hg
   have hi:i<A.length:=by omega
   simp only
   refine ⟨P++[A[i]],?_,by simp [h2],?_,?_⟩
   ·rw [h1,List.append_assoc]
    congr 1
    rw [List.drop_eq_getElem_cons hi]
    by_cases hj:j=B.length
    ·rw [hj,List.drop_length,z0y,z0y];rfl
    ·have hj':j<B.length:=by omega
     have hle:(A[i]).1≤(B[j]).1:=by
      have:=(hg.resolve_left hj).2
      rwa [z9v A i hi,z9v B j hj'] at this
     rw [List.drop_eq_getElem_cons hj']
     rw [mrg,if_neg (by omega)]
     rfl
   ·rw [show A.take (i+1)=A.take i++[A[i]] from (List.take_append_getElem hi).symm]
    refine (h3.append_right _).trans ?_
    rw [List.append_assoc,List.append_assoc]
    exact List.Perm.append_left _ List.perm_append_comm
   ·rw [List.range_succ,List.map_append,←h4]
    have e:fs (P++[A[i]])=fs P++[(A[i]).1]:=by simp [fs]
    rw [e,List.map_cons,List.map_nil,hit,z9v A i hi]
  ·rw [if_neg hg]
   rw [if_neg hg] at hit
   rw [z2r,z0m,z0m] at hg
   have hj:j<B.length:=by omega
   simp only
   refine ⟨P++[B[j]],?_,by simp [h2],?_,?_⟩
   ·rw [h1,List.append_assoc]
    congr 1
    rw [List.drop_eq_getElem_cons hj]
    by_cases hi:i=A.length
    ·rw [hi,List.drop_length,z1m,z1m];rfl
    ·have hi':i<A.length:=by omega
     have hlt:(B[j]).1<(A[i]).1:=by
      refine Nat.lt_of_not_le fun hc=>hg (.inr ⟨hi',?_⟩)
      rw [z9v A i hi',z9v B j hj]
      exact hc
     rw [List.drop_eq_getElem_cons hi']
     rw [mrg,if_pos hlt]
     rfl
   ·rw [show B.take (j+1)=B.take j++[B[j]] from (List.take_append_getElem hj).symm]
    refine (h3.append_right _).trans ?_
    rw [List.append_assoc]
   ·rw [List.range_succ,List.map_append,←h4]
    have e:fs (P++[B[j]])=fs P++[(B[j]).1]:=by simp [fs]
    rw [e,List.map_cons,List.map_nil,hit,z9v B j hj]
theorem x8d (A B:List Coin):fs (mrg A B)=mgd (fs A) (fs B):=by
 obtain ⟨P,h1,h2,h3,h4⟩:=y1i A B (A.length+B.length) (Nat.le_refl _)
 have hl:=congrArg List.length h1
 rw [z2k,List.length_append,h2] at hl
 have h0:mrg (A.drop (st (fs A) (fs B) (A.length+B.length)).1) (B.drop (st (fs A) (fs B) (A.length+B.length)).2)=[]:=List.length_eq_zero_iff.1 (by omega)
 rw [h1,h0,List.append_nil,h4]
 unfold mgd
 rw [z0m,z0m]
theorem z4r (A B:List Coin) (m:Nat) (h:m≤A.length+B.length):((mrg A B).take m).Perm (A.take (st (fs A) (fs B) m).1++B.take (st (fs A) (fs B) m).2):=by
 obtain ⟨P,h1,h2,h3,h4⟩:=y1i A B m h
 rw [h1,List.take_append_of_le_length (by omega),List.take_of_length_le (by omega)]
 exact h3
def z6t (zs:List Nat):List Nat:=(List.range (zs.length/2)).map fun i=>zs.getD (2*i) 0+zs.getD (2*i+1) 0
theorem z3w (zs:List Nat):(z6t zs).length=zs.length/2:=by simp [z6t]
theorem x2a:∀l:List Coin,fs (pack l)=z6t (fs l)
 | []=>rfl
 | [x]=>by simp [pack,z6t,fs]
 | a :: b :: r=>by
  rw [pack]
  show (a.1+b.1) :: fs (pack r)=_
  rw [x2a r]
  unfold z6t
  rw [show (fs (a :: b :: r)).length/2=(fs r).length/2+1 by simp [fs];omega,List.range_succ_eq_map,List.map_cons,List.map_map]
  congr 1
def bk (wl:List Nat):Nat→List Nat
 | 0=>[]
 | k+1=>z6t (mgd wl (bk wl k))
def wr (wl:List Nat) (k:Nat):List Nat:=mgd wl (bk wl k)
def y4t (base:List Coin):Nat→List Coin
 | 0=>[]
 | k+1=>pack (rounds base k)
theorem z4m (base:List Coin) (k:Nat):rounds base k=mrg base (y4t base k):=by
 cases k with
 | zero=>exact (z0y base).symm
 | succ k=>rfl
theorem y4r (base:List Coin):∀k,fs (y4t base k)=bk (fs base) k∧fs (rounds base k)=wr (fs base) k
 | 0=>⟨rfl,by rw [z4m,x8d];rfl⟩
 | k+1=>by
  have h:=y4r base k
  have h1:fs (y4t base (k+1))=bk (fs base) (k+1):=by
   show fs (pack (rounds base k))=z6t (mgd (fs base) (bk (fs base) k))
   rw [x2a,h.2]
   rfl
  exact ⟨h1,by rw [z4m,x8d,h1];rfl⟩
theorem z2p (wl:List Nat) (k:Nat):(wr wl k).length=wl.length+(bk wl k).length:=z4h _ _
theorem z4v (wl:List Nat):∀k,(bk wl k).length≤wl.length
 | 0=>by simp [bk]
 | k+1=>by
  have:=z4v wl k
  show (z6t (mgd wl (bk wl k))).length≤_
  rw [z3w,z4h]
  omega
theorem z4o (wl:List Nat) (k:Nat):(bk wl (k+1)).length=(wr wl k).length/2:=z3w _
/-! ### What is taken -/
def alone (wl:List Nat) (k t:Nat):Nat:=(st wl (bk wl k) t).1
theorem y6b (wl:List Nat) (k t:Nat) (h:t≤(wr wl k).length):alone wl k t≤wl.length∧alone wl k t≤t∧t-alone wl k t≤(bk wl k).length:=by
 have:=x3f wl (bk wl k) t (by rw [←z2p];exact h)
 unfold alone
 omega
theorem z9m (wl:List Nat) (k t:Nat) (h:t≤(wr wl (k+1)).length):2*(t-alone wl (k+1) t)≤(wr wl k).length:=by
 have:=(y6b wl (k+1) t h).2.2
 rw [z4o] at this
 omega
def cnt (order wl:List Nat):Nat→Nat→Nat→Nat
 | 0,t,i=>(order.take (alone wl 0 t)).count i
 | k+1,t,i=>(order.take (alone wl (k+1) t)).count i+cnt order wl k (2*(t-alone wl (k+1) t)) i
theorem y4f {a b:List Coin} (h:a.Perm b):(syms a).Perm (syms b):=List.Perm.flatMap_right _ h
theorem x7u (w:Nat→Nat) (order:List Nat) (i:Nat):∀k t,t≤(wr (fs (z0h w order)) k).length→cnt order (fs (z0h w order)) k t i=(syms ((rounds (z0h w order) k).take t)).count i
 | 0,t,h=>by
  have h2:=z4r (z0h w order) [] t (by rw [z2p,z0m] at h;exact h)
  rw [z4m]
  show _=(syms ((mrg (z0h w order) []).take t)).count i
  rw [(y4f h2).count_eq]
  simp only [List.take_nil,List.append_nil,z2y,z2x]
  rfl
 | k+1,t,h=>by
  have hl:(bk (fs (z0h w order)) (k+1)).length=(y4t (z0h w order) (k+1)).length:=by rw [←(y4r (z0h w order) (k+1)).1,z0m]
  have h2:=z4r (z0h w order) (y4t (z0h w order) (k+1)) t (by rw [z2p,z0m,hl] at h;exact h)
  have hst:=x3f (fs (z0h w order)) (bk (fs (z0h w order)) (k+1)) t (by rw [←z2p];exact h)
  rw [(y4r (z0h w order) (k+1)).1] at h2
  rw [z4m,(y4f h2).count_eq,z8y,List.count_append,z2y,z2x]
  have hb:2*(st (fs (z0h w order)) (bk (fs (z0h w order)) (k+1)) t).2≤(rounds (z0h w order) k).length:=by
   have h3:=hst.2.2
   rw [z4o,←(y4r (z0h w order) k).2,z0m] at h3
   omega
  show (order.take (alone _ (k+1) t)).count i+cnt order _ k (2*(t-alone _ (k+1) t)) i=_+(syms ((pack (rounds (z0h w order) k)).take _)).count i
  rw [z8j _ _ hb,x7u w order i k _ (z9m _ k t h)]
  have e:t-alone (fs (z0h w order)) (k+1) t=(st (fs (z0h w order)) (bk (fs (z0h w order)) (k+1)) t).2:=by unfold alone;omega
  rw [e]
  rfl
/-! ### What y4t may be z1p -/
theorem y9r {a b:List Coin} (h:a.Perm b):z1p a=z1p b:=(h.map Prod.fst).sum_nat
theorem y0r:∀l:List Coin,z1p (pack l)≤z1p l
 | []=>by simp [pack,z1p]
 | [_]=>by simp [pack,z1p]
 | a :: b :: r=>by
  have:=y0r r
  rw [pack,z3e,z3e,z3e]
  simp only
  omega
theorem x3z (A B:List Coin):z1p (mrg A B)=z1p A+z1p B:=by
 have h:=z4r A B (A.length+B.length) (Nat.le_refl _)
 have hst:=x3f (fs A) (fs B) (A.length+B.length) (by rw [z0m,z0m];omega)
 rw [z0m,z0m] at hst
 rw [List.take_of_length_le (by rw [z2k];omega),List.take_of_length_le (by omega),List.take_of_length_le (by omega)] at h
 rw [y9r h,y4q]
theorem z6p (base:List Coin):∀k,z1p (rounds base k)≤(k+1)*z1p base
 | 0=>by simp [rounds]
 | k+1=>by
  have h1:=z6p base k
  have h2:=y0r (rounds base k)
  rw [rounds,x3z,show (k+1+1)*z1p base=(k+1)*z1p base+z1p base by rw [Nat.add_mul,Nat.one_mul]]
  omega
theorem z9x:∀{l:List Nat} {x:Nat},x∈l→x≤l.sum
 | y :: r,x,h=>by
  rw [List.sum_cons]
  rcases List.mem_cons.1 h with rfl|h
  ·omega
  ·have:=z9x h;omega
theorem w2v (base:List Coin) (k:Nat):∀x∈wr (fs base) k,x≤(k+1)*z1p base:=fun x hx=>by
 rw [←(y4r base k).2] at hx
 exact Nat.le_trans (z9x hx) (z6p base k)
end L5.Merge
namespace L5
open Go.RowKit
theorem below_drewN {B:Nat} {a w:World} (h:Below B a w) (n:Nat):Below B a (w.drewN n):=⟨h.os,h.tape,h.output,h.size,h.block⟩
theorem z8e {w:World} {base n:Nat} {v:Value} {zs:List Int} (h:w.ownsRow base 3 1 v n (zs.map iv)) (hn:n=zs.length):z0q w v zs:=by
 subst hn
 rcases h.2 with ⟨e,e'⟩|⟨g,cap,cur,e,_,hh,_,_,_,ht⟩
 ·exact ⟨none,0,by rw [e,e'],fun h0=>by omega⟩
 ·refine ⟨_,cap,e,fun h0=>⟨g,0,rfl,fun j hj=>?_⟩⟩
  have h2:(cur.toList.take (zs.length*1))[j]?=some (iv zs[j]):=by rw [ht];simp [hj]
  rw [List.getElem?_take,if_pos (by omega)] at h2
  simp only [World.cell?,hh,Nat.zero_add]
  simpa [iv,hj] using h2
end L5
namespace L5
open Go.RowKit
section
variable {P:Program} {md:Region.Mode} {ops:Array Oper} {Q:Exit→Act→World→Prop} {S S':World→Prop}
theorem z7t {oi:Oper} {v:Value} {fuel:Nat} {listed:Array Bool} {l:List Value} {df:List Deferred} {w:World} (i d:Nat) (hi:ops[i]?=some oi) (hd:oi.dst=some d)
  (hs:Region.noSelect ops=true) (hf:Region.free md ops listed i=true) (hr:(Region.ready md ops listed).contains i=true)
  (hw:Region.wanted oi (yielded ops l.toArray)=true) (hS:S w) (hQ:∀c a w,¬Q (.panic c) a w)
  (hy:∀x,S x→(execOp (Act.eval ⟨l.toArray,df⟩) oi).run P x=.ok (.value v) x)
  (h:wpAnyH P md ops Q S fuel (listed.setIfInBounds i true) ⟨(l.set d v).toArray,df⟩ w):wpAnyH P md ops Q S (fuel+1) listed ⟨l.toArray,df⟩ w:=by
 refine wpAnyH_take (i:=i) (v:=v) hi hs hf hr (fun c a w h=>absurd h (hQ _ _ _)) (Or.inl ⟨hw,hy⟩) hS ?_
 have e:Act.put (⟨l.toArray,df⟩:Act) oi.dst v=⟨(l.set d v).toArray,df⟩:=by rw [hd];simp [Act.put]
 rw [e]
 exact h
theorem hT {oi:Oper} {v:Value} {fuel:Nat} {listed:Array Bool} {l:List Value} {df:List Deferred} {w:World} (i d:Nat) (hi:ops[i]?=some oi) (hd:oi.dst=some d) (hS:S w) (hQ:∀c a w,¬Q (.panic c) a w) (hy:∀x,S x→(execOp (Act.eval ⟨l.toArray,df⟩) oi).run P x=.ok (.value v) x) (h:wpAnyH P md ops Q S fuel (listed.setIfInBounds i true) ⟨(l.set d v).toArray,df⟩ w) (hs:Region.noSelect ops=true:=by kernel_rfl) (hf:Region.free md ops listed i=true:=by kernel_rfl) (hr:(Region.ready md ops listed).contains i=true:=by kernel_rfl) (hw:Region.wanted oi (yielded ops l.toArray)=true:=by rfl):wpAnyH P md ops Q S (fuel+1) listed ⟨l.toArray,df⟩ w:=z7t i d hi hd hs hf hr hw hS hQ hy h
theorem z1f {o:Oper} {f:FuncId} {args:Array Value} {fuel:Nat} {listed:Array Bool} {l:List Value} {df:List Deferred} {w:World} (i d:Nat) (hr:Region.ready md ops listed=[i]) (hi:ops[i]?=some o) (hd:o.dst=some d)
  (hw:Region.wanted o (yielded ops l.toArray)=true) (hrun:(execOp (Act.eval ⟨l.toArray,df⟩) o).run P w=.ok (.enter f args) w)
  (h:Calls P f args w fun e w'=>∃v,e=.returned v∧S w'∧wpAnyH P md ops Q S fuel (listed.setIfInBounds i true) ⟨(l.set d v).toArray,df⟩ w'):wpAnyH P md ops Q S (fuel+1) listed ⟨l.toArray,df⟩ w:=by
 refine wpAnyH_ready hr (by simp) (AllReadyH.cons hi (fun K hK=>?_) AllReadyH.nil)
 rw [if_pos hw]
 unfold Oper.wp
 rw [hrun,Oper.upon_enter]
 refine h.mono ?_
 rintro e w' ⟨v,rfl,hS,h2⟩
 have e:Act.put (⟨l.toArray,df⟩:Act) o.dst v=⟨(l.set d v).toArray,df⟩:=by rw [hd];simp [Act.put]
 show K (Act.put ⟨l.toArray,df⟩ o.dst v) w'
 rw [e]
 exact hK.out _ _ hS (fun _=>h2)
end
theorem z1y {P:Program} {id:Nat} {Q:Exit→Act→World→Prop} {a:Act} {w:World} {l:List Oper} (n:Nat) (hm:P.follows .mixedOrders=true) (hB:Region.lexTailB .any l.toArray n=true)
  (h:wpStill P l.toArray w.drew (fun a'=>wpList P l.toArray Q (l.drop n) a' w.drew) (l.take n) a):(Code.region id l.toArray true).wp P Q a w:=wp_region_still_tail n hm hB h
theorem nPp {Q:Exit→Act→World→Prop} (c:List PanicEntry) (a:Act) (w:World):¬NoPanic Q (.panic c) a w:=fun h=>h
end L5
namespace L5
open Go.RowKit
attribute [local go_sem ↓] wp_at_zero wp_at_succ
def ints (l:List Nat):List Int:=l.map (fun (n:Nat)=>(n:Int))
theorem z1l (l:List Nat):(ints l).length=l.length:=by simp [ints]
theorem z3l (l:List Nat) (i:Nat) (h:i<l.length):(ints l).getD i 0=(l.getD i 0:Nat):=by simp [ints,h]
theorem z0a.reads {w:World} {g n:Nat} {C:Nat→Nat} (h:z0a w .i64 3 g n C) {l:List Nat} (hn:l.length=n) (hc:∀i,i<n→C i=l.getD i 0):z0q w (.slice (some ⟨g,0,none⟩) n n) (ints l):=by
 subst hn
 refine ⟨_,l.length,by rw [z1l],fun _=>⟨g,0,rfl,fun j hj=>?_⟩⟩
 rw [z1l] at hj
 rw [Nat.zero_add,h.cell j hj,hc j hj,z3l l j hj]
theorem x9m (zs:List Nat) (v:Value) (w:World) (hr:z0q w v (ints zs)) (hl:zs.length≤131072) (hb:∀x∈zs,x≤1152921504606846976) :
  Calls Tryz.prog 151 #[v] w fun e w'=>∃v',e=.returned v'∧z0q w' v' (ints (Merge.z6t zs))∧Below w.heap.size w w':=by
 obtain ⟨a,cap,rfl,hsp⟩:=hr
 rw [z1l] at hsp ⊢
 have hgb:∀i,zs.getD i 0≤1152921504606846976:=fun i=>by
  by_cases h:i<zs.length
  ·rw [List.getD_eq_getElem?_getD,List.getElem?_eq_getElem h];exact hb _ (List.getElem_mem h)
  ·rw [List.getD_eq_getElem?_getD,List.getElem?_eq_none (by omega)];simp
 have HSP:Hid (0<zs.length→∃b off,a=some ⟨b,off,none⟩∧∀j,j<zs.length→w.cell? ⟨b,off+j,none⟩=some (.int .i64 (zs.getD j 0:Nat))):=qz fun h0=>by
  obtain ⟨b,off,h1,h2⟩:=hsp h0
  exact ⟨b,off,h1,fun j hj=>by rw [h2 j hj,z3l zs j hj]⟩
 have HGB:=qz hgb
 clear hsp hgb hb
 obtain ⟨m,hm⟩:∃m,m=zs.length:=⟨_,rfl⟩
 rw [←hm] at HSP hl ⊢
 have HM:=qz hm
 clear hm
 obtain ⟨n,hn⟩:∃n,n=m/2:=⟨_,rfl⟩
 have hn1:2*n≤m:=by omega
 have hn2:n≤65536:=by omega
 have hdiv:Int.tdiv (m:Int) 2=(n:Int):=by rw [hn];rfl
 have HN:=qz hn
 clear hn
 have hmk:=z0e w n hn2
 have hz:z0a (w.alloc (.cells (z0b .i64 n fun _=>0) 3)) .i64 3 w.heap.size n (fun _=>0):=heap_alloc_new _ _
 have hb0:Below w.heap.size w (w.alloc (.cells (z0b .i64 n fun _=>0) 3)):=(Below.refl _ _).alloc (Nat.le_refl _) _
 obtain ⟨W1,hW1⟩:∃W1,W1=w.alloc (.cells (z0b .i64 n fun _=>0) 3):=⟨_,rfl⟩
 rw [←hW1] at hmk hz hb0
 obtain ⟨g,hg⟩:∃g,g=w.heap.size:=⟨_,rfl⟩
 rw [←hg] at hmk hz
 have HG:=qz hg
 have HZ:=qz hz
 have HB0:=qz hb0
 clear hW1 hz hb0 hg
 go_enter Tryz.func151,Tryz.ntmps151
 go_wp2_with fail
 go_loopg [11] n (fun gk d ws=>∃ (k:Nat) (C:Nat→Nat),gk=n-k∧k≤n∧d=.int .i64 (k:Int)∧z0a ws .i64 3 g n C∧(∀i,i<k→C i=zs.getD (2*i) 0+zs.getD (2*i+1) 0)∧Below w.heap.size w ws)
 case atStart=>exact ⟨0,_,by omega,by omega,rfl,uh HZ,fun i h=>by omega,uh HB0⟩
 case round =>
  obtain ⟨k,C,rfl,hk,rfl,hat,hC,hbel⟩:=hrel
  clear hmk HZ HB0
  by_cases hlt:k<n
  ·obtain ⟨b,off,rfl,hcell⟩:=uh HSP (by omega)
   obtain ⟨q,hq⟩:∃q:Nat,q=2*k:=⟨_,rfl⟩
   obtain ⟨p,hp⟩:∃p:Nat,p=q+1:=⟨_,rfl⟩
   have k1:=z0c hbel (hcell q (by omega))
   have k2:=z0c hbel (hcell p (by omega))
   have b1:=uh HGB q
   have b2:=uh HGB p
   have k3:=hat.cell k hlt
   have k4:=hat.free k
   have HAT:=qz (hat.set k (zs.getD q 0+zs.getD p 0))
   have HC:Hid (∀i,i<k+1→upd C k (zs.getD q 0+zs.getD p 0) i=zs.getD (2*i) 0+zs.getD (2*i+1) 0):=qz fun i hi=>by
    unfold upd
    by_cases e:i=k
    ·rw [if_pos e,e,hp,hq]
    ·rw [if_neg e];exact hC i (by omega)
   have HBEL:Hid (∀x:Value,Below w.heap.size w (wr.drew.setCell ⟨g,k,none⟩ x)):=qz fun x=>hbel.trans (((Below.refl _ _).drew).setCell (by show w.heap.size≤g;exact Nat.le_of_eq (uh HG).symm) x)
   have hqi:2*(k:Int)=(q:Int):=by omega
   have hki:(k:Int)<(n:Int):=by omega
   have hqm:(q:Int)<(m:Int):=by omega
   have hqm1:(p:Int)<(m:Int):=by omega
   have hqp:(q:Int)+1=(p:Int):=by omega
   obtain ⟨x,hx⟩:∃x,x=zs.getD q 0:=⟨_,rfl⟩
   obtain ⟨y,hy⟩:∃y,y=zs.getD p 0:=⟨_,rfl⟩
   rw [←hx] at k1 b1 HAT HC
   rw [←hy] at k2 b2 HAT HC
   have hw1:IntKind.i64.wrap (q:Int)=(q:Int):=IntWalk.i64_in _ (by omega)
   have hw2:IntKind.i64.wrap (p:Int)=(p:Int):=IntWalk.i64_in _ (by omega)
   have hw3:IntKind.i64.wrap ((x:Int)+(y:Int))=(x:Int)+(y:Int):=IntWalk.i64_in _ (by omega)
   clear hcell hat hC hbel hq hp hx hy
   go_wp2_with fail
   refine z1y 15 (by kernel_rfl) (by kernel_rfl) ?_
   simp only [List.take_succ_cons,List.take_zero,List.drop_succ_cons,List.drop_zero]
   repeat still_step
   try refine wpStill_nil ?_
   go_wp2_with fail
   go_roundg (n-(k+1))
   case measure=>omega
   case rel=>exact ⟨k+1,_,rfl,by omega,by go_num,uh HAT,uh HC,uh HBEL _⟩
  ·obtain rfl:k=n:=by omega
   have HR:Hid (z0q wr (.slice (some ⟨g,0,none⟩) k k) (ints (Merge.z6t zs))):=qz (hat.reads (by rw [Merge.z3w,uh HN,uh HM]) (fun i hi=>by
    rw [hC i hi]
    unfold Merge.z6t
    rw [show ∀ (u:List Nat),u.getD i 0=u[i]?.getD 0 from fun u=>List.getD_eq_getElem?_getD,List.getElem?_map,List.getElem?_range (by rw [←uh HM,←uh HN];exact hi)]
    rfl))
   have HB:=qz hbel
   clear hat hC hbel
   go_wp2_with fail
   go_ret
   exact ⟨_,rfl,uh HR,uh HB⟩
end L5
namespace L5
open Go.RowKit
section
variable {P:Program} {md:Region.Mode} {ops:Array Oper} {Q:Exit→Act→World→Prop} {S:World→Prop}
theorem z0l {o:Oper} {v:Value} {fuel:Nat} {listed:Array Bool} {l:List Value} {df:List Deferred} {w w':World} {K:Act→World→Prop} (i d:Nat)
  (hK:Shut (∀a w,S w→(S w→wpAnyH P md ops Q S fuel (listed.setIfInBounds i true) a w)→K a w)) (hd:o.dst=some d)
  (hw:Region.wanted o (yielded ops l.toArray)=true) (hrun:(execOp (Act.eval ⟨l.toArray,df⟩) o).run P w=.ok (.value v) w') (hS:S w')
  (h:wpAnyH P md ops Q S fuel (listed.setIfInBounds i true) ⟨(l.set d v).toArray,df⟩ w') :
  if Region.wanted o (yielded ops (⟨l.toArray,df⟩:Act).tmps)=true then Oper.wp P o ⟨l.toArray,df⟩ w K Q else K ((⟨l.toArray,df⟩:Act).put o.dst undef) w:=by
 rw [if_pos hw]
 unfold Oper.wp
 rw [hrun,Oper.upon_value]
 have e:Act.put (⟨l.toArray,df⟩:Act) o.dst v=⟨(l.set d v).toArray,df⟩:=by rw [hd];simp [Act.put]
 rw [e]
 exact hK.out _ _ hS (fun _=>h)
theorem z1i {fuel:Nat} {listed:Array Bool} {a:Act} {w:World} {i j:Nat} {o1 o2:Oper} (hr:Region.ready md ops listed=[i,j]) (h1:ops[i]?=some o1) (h2:ops[j]?=some o2)
  (k1:∀K:Act→World→Prop,Shut (∀a w,S w→(S w→wpAnyH P md ops Q S fuel (listed.setIfInBounds i true) a w)→K a w)→if Region.wanted o1 (yielded ops a.tmps)=true then Oper.wp P o1 a w K Q else K (a.put o1.dst undef) w)
  (k2:∀K:Act→World→Prop,Shut (∀a w,S w→(S w→wpAnyH P md ops Q S fuel (listed.setIfInBounds j true) a w)→K a w)→if Region.wanted o2 (yielded ops a.tmps)=true then Oper.wp P o2 a w K Q else K (a.put o2.dst undef) w) :
  wpAnyH P md ops Q S (fuel+1) listed a w:=wpAnyH_ready hr (by simp) (AllReadyH.cons h1 k1 (AllReadyH.cons h2 k2 AllReadyH.nil))
theorem z5p {fuel:Nat} {listed:Array Bool} {a:Act} {w:World} {i j k:Nat} {o1 o2 o3:Oper} (hr:Region.ready md ops listed=[i,j,k]) (h1:ops[i]?=some o1) (h2:ops[j]?=some o2) (h3:ops[k]?=some o3)
  (k1:∀K:Act→World→Prop,Shut (∀a w,S w→(S w→wpAnyH P md ops Q S fuel (listed.setIfInBounds i true) a w)→K a w)→if Region.wanted o1 (yielded ops a.tmps)=true then Oper.wp P o1 a w K Q else K (a.put o1.dst undef) w)
  (k2:∀K:Act→World→Prop,Shut (∀a w,S w→(S w→wpAnyH P md ops Q S fuel (listed.setIfInBounds j true) a w)→K a w)→if Region.wanted o2 (yielded ops a.tmps)=true then Oper.wp P o2 a w K Q else K (a.put o2.dst undef) w)
  (k3:∀K:Act→World→Prop,Shut (∀a w,S w→(S w→wpAnyH P md ops Q S fuel (listed.setIfInBounds k true) a w)→K a w)→if Region.wanted o3 (yielded ops a.tmps)=true then Oper.wp P o3 a w K Q else K (a.put o3.dst undef) w) :
  wpAnyH P md ops Q S (fuel+1) listed a w:=wpAnyH_ready hr (by simp) (AllReadyH.cons h1 k1 (AllReadyH.cons h2 k2 (AllReadyH.cons h3 k3 AllReadyH.nil)))
theorem y0y {o:Oper} {v:Value} {fuel:Nat} {listed:Array Bool} {l:List Value} {df:List Deferred} {w w':World} (i d:Nat) (hr:Region.ready md ops listed=[i]) (hi:ops[i]?=some o) (hd:o.dst=some d)
  (hw:Region.wanted o (yielded ops l.toArray)=true) (hrun:(execOp (Act.eval ⟨l.toArray,df⟩) o).run P w=.ok (.value v) w') (hS:S w')
  (h:wpAnyH P md ops Q S fuel (listed.setIfInBounds i true) ⟨(l.set d v).toArray,df⟩ w'):wpAnyH P md ops Q S (fuel+1) listed ⟨l.toArray,df⟩ w :=
 wpAnyH_ready hr (by simp) (AllReadyH.cons hi (fun K hK=>z0l i d hK hd hw hrun hS h) AllReadyH.nil)
theorem z7s {o:Oper} {fuel:Nat} {listed:Array Bool} {a:Act} {w w':World} (i:Nat) (hr:Region.ready md ops listed=[i]) (hi:ops[i]?=some o) (hd:o.dst=none)
  (hw:Region.wanted o (yielded ops a.tmps)=true) (hrun:(execOp (Act.eval a) o).run P w=.ok .skip w') (hS:S w')
  (h:wpAnyH P md ops Q S fuel (listed.setIfInBounds i true) a w'):wpAnyH P md ops Q S (fuel+1) listed a w:=by
 refine wpAnyH_ready hr (by simp) (AllReadyH.cons hi (fun K hK=>?_) AllReadyH.nil)
 rw [if_pos hw]
 unfold Oper.wp
 rw [hrun,Oper.upon_skip]
 have e:Act.put a o.dst undef=a:=by rw [hd];rfl
 rw [e]
 exact hK.out _ _ hS (fun _=>h)
theorem hO {o:Oper} {v:Value} {fuel:Nat} {listed:Array Bool} {l:List Value} {df:List Deferred} {w w':World} (i d:Nat) (hi:ops[i]?=some o) (hd:o.dst=some d) (hrun:(execOp (Act.eval ⟨l.toArray,df⟩) o).run P w=.ok (.value v) w') (hS:S w') (h:wpAnyH P md ops Q S fuel (listed.setIfInBounds i true) ⟨(l.set d v).toArray,df⟩ w') (hr:Region.ready md ops listed=[i]:=by kernel_rfl) (hw:Region.wanted o (yielded ops l.toArray)=true:=by rfl):wpAnyH P md ops Q S (fuel+1) listed ⟨l.toArray,df⟩ w:=y0y i d hr hi hd hw hrun hS h
theorem hKk {o:Oper} {fuel:Nat} {listed:Array Bool} {a:Act} {w w':World} (i:Nat) (hi:ops[i]?=some o) (hd:o.dst=none) (hrun:(execOp (Act.eval a) o).run P w=.ok .skip w') (hS:S w') (h:wpAnyH P md ops Q S fuel (listed.setIfInBounds i true) a w') (hr:Region.ready md ops listed=[i]:=by kernel_rfl) (hw:Region.wanted o (yielded ops a.tmps)=true:=by rfl):wpAnyH P md ops Q S (fuel+1) listed a w:=z7s i hr hi hd hw hrun hS h
theorem z0u {o:Oper} {fuel:Nat} {listed:Array Bool} {l:List Value} {df:List Deferred} {w:World} (i d:Nat) (s x:Operand) (hr:Region.ready md ops listed=[i]) (hi:ops[i]?=some o) (hd:o.dst=some d)
  (hw:Region.wanted o (yielded ops l.toArray)=true) (ho:o.op=.call { callee:=.builtin .append,args:=#[s,x],argTypes:=#[49,49] }) (hP:P=Tryz.prog)
  (base:Nat) (v:Value) (n:Nat) (xs:List Value) (hs:Act.eval ⟨l.toArray,df⟩ s=v) (hown:w.ownsRow base 3 1 v n xs) (ad:Addr) (z:Int) (hx:Act.eval ⟨l.toArray,df⟩ x=.slice (some ad) 1 1)
  (hnew:w.cell? ad=some (.int .i64 z)) (hb:n+1≤1000000000) (hbase:base≤w.heap.size) (H:Nat) (hH:w.heap.size=H) (hS:∀w',w.grownBy w' v.ownBlock→S w')
  (h:∀g cap w',w'.ownsRow base 3 1 (.slice (some ⟨g,0,none⟩) (n+1) cap) (n+1) (xs++[iv z])→w.grownBy w' v.ownBlock→(v.ownBlock=some g∨g=H)→g<w'.heap.size →
   wpAnyH P md ops Q S fuel (listed.setIfInBounds i true) ⟨(l.set d (.slice (some ⟨g,0,none⟩) (n+1) cap)).toArray,df⟩ w'):wpAnyH P md ops Q S (fuel+1) listed ⟨l.toArray,df⟩ w:=by
 subst hP
 obtain ⟨i0,hii,hz0,hz1,hz2⟩:=info_parts info3'
 refine wpAnyH_ready hr (by simp) (AllReadyH.cons hi (fun K hK=>?_) AllReadyH.nil)
 rw [if_pos hw]
 refine wp_append_lies w s x 49 ho base 3 i0 _ 1 8 Tryz.underlying49 hii hz0 hz1 hz2 rfl (by decide) v n xs hs hown ad 1 1 [iv z] hx rfl (fun j u hj=>?_) (by intro u hu;simp at hu;subst hu;rfl) (by omega) (by unfold maxLen;omega) (by omega) hbase H hH (fun g cap w' h1 h2 h3 h4=>?_)
 ·match j,hj with
  | 0,hj=>simp [iv] at hj;subst hj;simpa [Addr.add] using hnew
 ·have e:Act.put (⟨l.toArray,df⟩:Act) o.dst (.slice (some ⟨g,0,none⟩) (n+1) cap)=⟨(l.set d (.slice (some ⟨g,0,none⟩) (n+1) cap)).toArray,df⟩:=by rw [hd];simp [Act.put]
  rw [e]
  exact hK.out _ _ (hS w' h2) (fun _=>h g cap w' h1 h2 h3 h4)
end
end L5
namespace L5
open Go.RowKit
def two:Array Value:=#[.slice none 0 0,.slice none 0 0]
structure MAt (A B:List Nat) (w ws:World) (bx:Nat) (vi va:Value) (mi ma:Nat):Prop where
 box:ws.heap[bx]?=some (.cells #[vi,va] 200 (0,0))
 res:ws.heap[w.heap.size]?=some (.cells two 200 (0,0))
 oi:ws.ownsRow (w.heap.size+1) 3 1 vi mi ((ints ((Merge.mgd A B).take mi)).map iv)
 oa:ws.ownsRow (w.heap.size+1) 3 1 va ma ((ints ((Merge.ahd A B).take ma)).map iv)
 d1:∀g,vi.ownBlock=some g→va.ownBlock≠some g
 d2:vi.ownBlock≠some bx
 d3:va.ownBlock≠some bx
 lo:w.heap.size<bx
 bel:Below w.heap.size w ws
section
variable {A B:List Nat} {w ws w1:World} {bx:Nat} {vi va:Value} {mi ma:Nat}
theorem MAt.drew (h:MAt A B w ws bx vi va mi ma):MAt A B w ws.drew bx vi va mi ma:=⟨h.box,h.res,h.oi.drew,h.oa.drew,h.d1,h.d2,h.d3,h.lo,h.bel.trans (Below.refl _ _).drew⟩
theorem MAt.drewN (h:MAt A B w ws bx vi va mi ma) (q:Nat):MAt A B w (ws.drewN q) bx vi va mi ma:=⟨h.box,h.res,own_keep h.oi (fun _ _=>rfl),own_keep h.oa (fun _ _=>rfl),h.d1,h.d2,h.d3,h.lo,below_drewN h.bel q⟩
theorem MAt.c0 (h:MAt A B w ws bx vi va mi ma):ws.cell? ⟨bx,0,none⟩=some vi:=by simp [World.cell?,h.box]
theorem MAt.c1 (h:MAt A B w ws bx vi va mi ma):ws.cell? ⟨bx,1,none⟩=some va:=by simp [World.cell?,h.box]
theorem MAt.lt (h:MAt A B w ws bx vi va mi ma):bx<ws.heap.size:=z0d h.box
theorem z2o {l:List Nat} {n x:Nat} (h:l[n]?=some x):l.take (n+1)=l.take n++[x]:=by
 obtain ⟨h1,h2⟩:=List.getElem?_eq_some_iff.1 h
 rw [←h2]
 exact (List.take_append_getElem h1).symm
theorem MAt.app0 (h:MAt A B w ws bx vi va mi ma) {x g cap:Nat} (hx:(Merge.mgd A B)[mi]?=some x) (o:Obj)
  (hown:w1.ownsRow (w.heap.size+1) 3 1 (.slice (some ⟨g,0,none⟩) (mi+1) cap) (mi+1) ((ints ((Merge.mgd A B).take mi)).map iv++[iv (x:Int)])) (hg:(ws.alloc o).grownBy w1 vi.ownBlock) (hat:vi.ownBlock=some g∨g=ws.heap.size+1) :
  MAt A B w (w1.setCell ⟨bx,0,none⟩ (.slice (some ⟨g,0,none⟩) (mi+1) cap)) bx (.slice (some ⟨g,0,none⟩) (mi+1) cap) va (mi+1) ma:=by
 have hbx:=h.lt
 have hsz:=h.bel.size
 have hlo:=h.lo
 have kp:∀k,k<ws.heap.size→vi.ownBlock≠some k→w1.heap[k]?=ws.heap[k]?:=fun k hk hne=>by
  rw [hg.block k (by simp;omega) (fun e=>hne e.symm),Below.heap_alloc _ _ _ hk]
 have hgb:g≠bx:=by
  rcases hat with e|e
  ·intro c;rw [c] at e;exact h.d2 e
  ·omega
 have hb1:w1.heap[bx]?=some (.cells #[vi,va] 200 (0,0)):=by rw [kp bx hbx h.d2];exact h.box
 have hva:∀k,va.ownBlock=some k→w1.heap[k]?=ws.heap[k]?:=fun k e=>kp k (h.oa.lt k e).2 (fun c=>h.d1 k c e)
 refine ⟨?_,?_,?_,?_,?_,?_,h.d3,hlo,?_⟩
 ·rw [heap_setCell_same w1 bx 0 _ 200 _ hb1];rfl
 ·rw [heap_setCell_other _ _ _ _ (by show w.heap.size≠bx;omega),kp _ (by omega) (fun e=>by have:=(h.oi.lt _ e).1;omega)]
  exact h.res
 ·rw [z2o hx]
  have hown':w1.ownsRow (w.heap.size+1) 3 1 (.slice (some ⟨g,0,none⟩) (mi+1) cap) (mi+1) ((ints ((Merge.mgd A B).take mi++[x])).map iv):=by simpa [ints] using hown
  exact own_keep hown' (fun k e=>heap_setCell_other _ _ _ _ (by show k≠bx;injection e with e;rw [←e];exact hgb))
 ·refine own_keep h.oa (fun k e=>?_)
  rw [heap_setCell_other _ _ _ _ (by show k≠bx;intro c;rw [c] at e;exact h.d3 e)]
  exact hva k e
 ·intro k e c
  injection e with e
  subst e
  rcases hat with e|e
  ·exact h.d1 _ e c
  ·have:g<ws.heap.size:=(h.oa.lt _ c).2
   omega
 ·intro e;injection e with e;exact hgb e
 ·exact h.bel.trans ⟨hg.os,hg.tape,hg.output,by have:=hg.size;simp at this ⊢;omega,fun k hk=>by
   rw [heap_setCell_other _ _ _ _ (by show k≠bx;omega),kp k (by omega) (fun e=>by have:=(h.oi.lt _ e).1;omega)]⟩
theorem MAt.app1 (h:MAt A B w ws bx vi va mi ma) {x g cap:Nat} (hx:(Merge.ahd A B)[ma]?=some x) (o:Obj)
  (hown:w1.ownsRow (w.heap.size+1) 3 1 (.slice (some ⟨g,0,none⟩) (ma+1) cap) (ma+1) ((ints ((Merge.ahd A B).take ma)).map iv++[iv (x:Int)])) (hg:(ws.alloc o).grownBy w1 va.ownBlock) (hat:va.ownBlock=some g∨g=ws.heap.size+1) :
  MAt A B w (w1.setCell ⟨bx,1,none⟩ (.slice (some ⟨g,0,none⟩) (ma+1) cap)) bx vi (.slice (some ⟨g,0,none⟩) (ma+1) cap) mi (ma+1):=by
 have hbx:=h.lt
 have hsz:=h.bel.size
 have hlo:=h.lo
 have kp:∀k,k<ws.heap.size→va.ownBlock≠some k→w1.heap[k]?=ws.heap[k]?:=fun k hk hne=>by
  rw [hg.block k (by simp;omega) (fun e=>hne e.symm),Below.heap_alloc _ _ _ hk]
 have hgb:g≠bx:=by
  rcases hat with e|e
  ·intro c;rw [c] at e;exact h.d3 e
  ·omega
 have hb1:w1.heap[bx]?=some (.cells #[vi,va] 200 (0,0)):=by rw [kp bx hbx h.d3];exact h.box
 have hvi:∀k,vi.ownBlock=some k→w1.heap[k]?=ws.heap[k]?:=fun k e=>kp k (h.oi.lt k e).2 (fun c=>h.d1 k e c)
 refine ⟨?_,?_,?_,?_,?_,h.d2,?_,hlo,?_⟩
 ·rw [heap_setCell_same w1 bx 1 _ 200 _ hb1];rfl
 ·rw [heap_setCell_other _ _ _ _ (by show w.heap.size≠bx;omega),kp _ (by omega) (fun e=>by have:=(h.oa.lt _ e).1;omega)]
  exact h.res
 ·refine own_keep h.oi (fun k e=>?_)
  rw [heap_setCell_other _ _ _ _ (by show k≠bx;intro c;rw [c] at e;exact h.d2 e)]
  exact hvi k e
 ·rw [z2o hx]
  have hown':w1.ownsRow (w.heap.size+1) 3 1 (.slice (some ⟨g,0,none⟩) (ma+1) cap) (ma+1) ((ints ((Merge.ahd A B).take ma++[x])).map iv):=by simpa [ints] using hown
  exact own_keep hown' (fun k e=>heap_setCell_other _ _ _ _ (by show k≠bx;injection e with e;rw [←e];exact hgb))
 ·intro k e c
  injection c with c
  subst c
  rcases hat with c|c
  ·exact h.d1 _ e c
  ·have:g<ws.heap.size:=(h.oi.lt _ e).2
   omega
 ·intro e;injection e with e;exact hgb e
 ·exact h.bel.trans ⟨hg.os,hg.tape,hg.output,by have:=hg.size;simp at this ⊢;omega,fun k hk=>by
   rw [heap_setCell_other _ _ _ _ (by show k≠bx;omega),kp k (by omega) (fun e=>by have:=(h.oa.lt _ e).1;omega)]⟩
end
structure Got (w x:World) (room:Nat) (oi oa ob:Option Nat):Prop where
 res:x.heap[w.heap.size]?=some (.cells two 200 (0,0))
 bel:Below w.heap.size w x
 i:∀g,oi=some g→w.heap.size<g∧x.heap[g]?=some (.cells (z0b .i64 room fun _=>0) 3 (0,0))
 a:∀g,oa=some g→w.heap.size<g∧x.heap[g]?=some (.cells (z0b .i64 (room+1) fun _=>0) 3 (0,0))
 b:∀g,ob=some g→w.heap.size<g∧x.heap[g]?=some (.cells two 200 (0,0))
 ia:∀g,oi=some g→oa≠some g
 ib:∀g,oi=some g→ob≠some g
 ab:∀g,oa=some g→ob≠some g
section
variable {w x:World} {room:Nat} {oi oa ob:Option Nat}
theorem Got.start (w:World) (room:Nat):Got w (w.alloc (.cells two 200)).drew room none none none :=
 ⟨heap_alloc_new _ _,((Below.refl _ _).alloc (Nat.le_refl _) _).trans (Below.refl _ _).drew,fun g h=>(by cases h),fun g h=>(by cases h),fun g h=>(by cases h),fun g h=>(by cases h),fun g h=>(by cases h),fun g h=>(by cases h)⟩
theorem Got.size (h:Got w x room oi oa ob):w.heap.size<x.heap.size:=z0d h.res
theorem Got.keep (h:Got w x room oi oa ob) (o:Obj):Got w (x.alloc o) room oi oa ob :=
 ⟨by rw [Below.heap_alloc _ _ _ h.size];exact h.res,h.bel.trans ((Below.refl _ _).alloc h.bel.size _),fun g e=>⟨(h.i g e).1,by rw [Below.heap_alloc _ _ _ (z0d (h.i g e).2)];exact (h.i g e).2⟩,
  fun g e=>⟨(h.a g e).1,by rw [Below.heap_alloc _ _ _ (z0d (h.a g e).2)];exact (h.a g e).2⟩,fun g e=>⟨(h.b g e).1,by rw [Below.heap_alloc _ _ _ (z0d (h.b g e).2)];exact (h.b g e).2⟩,h.ia,h.ib,h.ab⟩
theorem Got.makeI (h:Got w x room none oa ob):Got w (x.alloc (.cells (z0b .i64 room fun _=>0) 3)) room (some x.heap.size) oa ob :=
 have k:=h.keep (.cells (z0b .i64 room fun _=>0) 3)
 ⟨k.res,k.bel,fun g e=>by injection e with e;subst e;exact ⟨h.size,heap_alloc_new _ _⟩,k.a,k.b,fun g e c=>by injection e with e;subst e;have:=z0d (h.a _ c).2;omega,fun g e c=>by injection e with e;subst e;have:=z0d (h.b _ c).2;omega,h.ab⟩
theorem Got.makeA (h:Got w x room oi none ob):Got w (x.alloc (.cells (z0b .i64 (room+1) fun _=>0) 3)) room oi (some x.heap.size) ob :=
 have k:=h.keep (.cells (z0b .i64 (room+1) fun _=>0) 3)
 ⟨k.res,k.bel,k.i,fun g e=>by injection e with e;subst e;exact ⟨h.size,heap_alloc_new _ _⟩,k.b,fun g e c=>by injection c with c;subst c;have:=z0d (h.i _ e).2;omega,h.ib,fun g e c=>by injection e with e;subst e;have:=z0d (h.b _ c).2;omega⟩
theorem Got.makeB (h:Got w x room oi oa none):Got w (x.alloc (.cells two 200)) room oi oa (some x.heap.size) :=
 have k:=h.keep (.cells two 200)
 ⟨k.res,k.bel,k.i,k.a,fun g e=>by injection e with e;subst e;exact ⟨h.size,heap_alloc_new _ _⟩,h.ia,fun g e c=>by injection c with c;subst c;have:=z0d (h.i _ e).2;omega,fun g e c=>by injection c with c;subst c;have:=z0d (h.a _ e).2;omega⟩
theorem z6j {x:World} {base g n room:Nat} {xs:List Value} (hb:base≤g) (h:x.heap[g]?=some (.cells (z0b .i64 room fun _=>0) 3 (0,0))) (hn:n≤room) (hr:room≤maxLen) (hx:xs=List.replicate n (iv 0)):x.ownsRow base 3 1 (.slice (some ⟨g,0,none⟩) n room) n xs:=by
 subst hx
 refine ⟨by simp,.inr ⟨g,room,_,rfl,hb,h,hn,hr,by simp [z0b],?_⟩⟩
 apply List.ext_getElem
 ·simp [z0b];omega
 ·intro j h1 h2
  simp [z0b,iv]
theorem Got.done {A B:List Nat} {gi ga bx:Nat} (h:Got w x room (some gi) (some ga) (some bx)) (hroom:room=A.length+B.length) (hs:room≤1000000) :
  MAt A B w ((x.setCell ⟨bx,0,none⟩ (.slice (some ⟨gi,0,none⟩) 0 room)).setCell ⟨bx,1,none⟩ (.slice (some ⟨ga,0,none⟩) 1 (room+1))) bx (.slice (some ⟨gi,0,none⟩) 0 room) (.slice (some ⟨ga,0,none⟩) 1 (room+1)) 0 1:=by
 obtain ⟨i1,i2⟩:=h.i gi rfl
 obtain ⟨a1,a2⟩:=h.a ga rfl
 obtain ⟨b1,b2⟩:=h.b bx rfl
 have nib:gi≠bx:=fun e=>h.ib gi rfl (by rw [e])
 have nab:ga≠bx:=fun e=>h.ab ga rfl (by rw [e])
 have nia:gi≠ga:=fun e=>h.ia gi rfl (by rw [e])
 have kp:∀k v v',k≠bx→((x.setCell ⟨bx,0,none⟩ v).setCell ⟨bx,1,none⟩ v').heap[k]?=x.heap[k]?:=fun k v v' hk=>by
  rw [heap_setCell_other _ _ _ _ (by exact hk),heap_setCell_other _ _ _ _ (by exact hk)]
 refine ⟨?_,?_,?_,?_,?_,?_,?_,b1,?_⟩
 ·rw [heap_setCell_same _ bx 1 _ 200 _ (heap_setCell_same x bx 0 _ 200 _ b2)];rfl
 ·rw [kp _ _ _ (by omega)];exact h.res
 ·exact z6j (by omega) (by rw [kp _ _ _ nib];exact i2) (by omega) (by unfold maxLen;omega) (by simp [ints])
 ·refine z6j (by omega) (by rw [kp _ _ _ nab];exact a2) (by omega) (by unfold maxLen;omega) ?_
  have:(Merge.ahd A B).take 1=[0]:=by
   unfold Merge.ahd
   rw [show A.length+B.length+1=(A.length+B.length)+1 from rfl,List.range_succ_eq_map]
   rfl
  rw [this]
  rfl
 ·intro g e c;injection e with e;injection c with c;subst e;exact nia c.symm
 ·intro e;injection e with e;exact nib e
 ·intro e;injection e with e;exact nab e
 ·exact h.bel.trans (((Below.refl _ _).setCell (by show w.heap.size≤bx;omega) _).setCell (by show w.heap.size≤bx;omega) _)
end
theorem MAt.grownI {A B:List Nat} {w ws w1:World} {bx:Nat} {vi va:Value} {mi ma:Nat} (h:MAt A B w ws bx vi va mi ma) {o:Obj} (hg:(ws.alloc o).grownBy w1 vi.ownBlock):w1.cell? ⟨bx,0,none⟩=some vi∧w1.frozen? ⟨bx,0,none⟩=false∧Below w.heap.size w w1:=by
 have hbx:=h.lt
 have hsz:=h.bel.size
 have kp:∀k,k<ws.heap.size→vi.ownBlock≠some k→w1.heap[k]?=ws.heap[k]?:=fun k hk hne=>by
  rw [hg.block k (by simp;omega) (fun e=>hne e.symm),Below.heap_alloc _ _ _ hk]
 have hb1:w1.heap[bx]?=some (.cells #[vi,va] 200 (0,0)):=by rw [kp bx hbx h.d2];exact h.box
 exact ⟨by simp [World.cell?,hb1],by simp [World.frozen?,hb1],h.bel.trans ⟨hg.os,hg.tape,hg.output,by have:=hg.size;simp at this;omega,fun k hk=>kp k (by omega) (fun e=>by have:=(h.oi.lt _ e).1;omega)⟩⟩
theorem MAt.grownA {A B:List Nat} {w ws w1:World} {bx:Nat} {vi va:Value} {mi ma:Nat} (h:MAt A B w ws bx vi va mi ma) {o:Obj} (hg:(ws.alloc o).grownBy w1 va.ownBlock):w1.cell? ⟨bx,1,none⟩=some va∧w1.frozen? ⟨bx,1,none⟩=false∧Below w.heap.size w w1:=by
 have hbx:=h.lt
 have hsz:=h.bel.size
 have kp:∀k,k<ws.heap.size→va.ownBlock≠some k→w1.heap[k]?=ws.heap[k]?:=fun k hk hne=>by
  rw [hg.block k (by simp;omega) (fun e=>hne e.symm),Below.heap_alloc _ _ _ hk]
 have hb1:w1.heap[bx]?=some (.cells #[vi,va] 200 (0,0)):=by rw [kp bx hbx h.d3];exact h.box
 exact ⟨by simp [World.cell?,hb1],by simp [World.frozen?,hb1],h.bel.trans ⟨hg.os,hg.tape,hg.output,by have:=hg.size;simp at this;omega,fun k hk=>kp k (by omega) (fun e=>by have:=(h.oa.lt _ e).1;omega)⟩⟩
theorem z3v (w:World) (z:Int):(w.alloc (.cells #[.int .i64 z] 3)).cell? ⟨w.heap.size,0,none⟩=some (.int .i64 z):=by
 simp only [World.cell?,heap_alloc_new];rfl
theorem z6x (w:World) (z:Int):∀ (j:Nat) (u:Value),[iv z][j]?=some u→(w.alloc (.cells #[.int .i64 z] 3)).cell? ((⟨w.heap.size,0,none⟩:Addr).add j)=some u:=by
 intro j u hj
 match j,hj with
 | 0,hj=>simp [iv] at hj;subst hj;simp [Addr.add]
end L5
end Go.Proofs.YtljdhaepkhhnlaaGreat
