/- Texts of one proof, one behind the other: P2, P3, R11Bk, X10Hd, X10Gp, X10Gq, X10Ky, X10Ta, X10Shelf, X10So, X10Pt, X10Cl, X10Sf. -/
import Derived.Test.YtljdhaepkhhnlaaGreatVF
import Derived.Shelf.Sort.Plain
import Derived.Ground.SlgcProg
import Derived.Ground.SlsfProg
import Derived.Shelf.SlSortCmp.Whole1
import Derived.RegionTactic
import Derived.ChangeAlike

set_option linter.unusedVariables false
set_option maxRecDepth 100000
set_option maxHeartbeats 24000000
namespace Go.Proofs.YtljdhaepkhhnlaaGreat
section
open Go.RowKit B4 B4.Mth Infl R11.Runs
attribute [local go_sem ↓] wp_at_zero wp_at_succ
def wbH (ls:List Nat) (x:Nat):List Bool:=Bz.nbH (Canon.wd ls x) (Canon.ln ls x)
def y5t (ls ss:List Nat):List Bool:=Bz.nbH 2 3++((Bz.nbH ((ss.length+49)/50) 15++List.replicate ((ss.length+49)/50) false)++(Bz.tableF ls++(Bz.tableF ls++ss.flatMap (wbH ls))))
theorem WS.lt {w:World} {pb:Nat} {v:Value} {L:List Bool} (h:WS w pb v L):pb<w.heap.size∧∀b,v.ownBlock=some b→pb<b∧b<w.heap.size:=by
 obtain ⟨m,f,h1,_⟩:=h
 exact ⟨h1.lt,fun b e=>by have:=h1.row.lt b e;omega⟩
theorem z2z {w:World} {pb g:Nat} {v:Value} {L:List Bool} (h:WS w pb v L) (hg:w.heap.size≤g):Beside pb v g :=
 ⟨by have:=h.lt.1;omega,fun e=>by have:=(h.lt.2 g e).2;omega⟩
theorem x3g (a b:Nat) (ha:a≤20) (hb:b≤20):(Bz.stepB a b).length≤40:=by
 unfold Bz.stepB
 split
 ·have:((List.replicate (b-a) [true,false]).flatten).length=(b-a)*2:=by simp
  omega
 ·have:((List.replicate (a-b) [true,true]).flatten).length=(a-b)*2:=by simp
  omega
theorem y7h:∀ (l:List Nat) (a:Nat),a≤20→(∀z∈l,z≤20)→(Bz.tabB a l).length≤41*l.length
 | [],a,_,_=>by simp [Bz.tabB]
 | b :: l,a,ha,h=>by
  have hb:=h b (List.mem_cons_self ..)
  have:=y7h l b hb (fun z hz=>h z (List.mem_cons_of_mem _ hz))
  have:=x3g a b ha hb
  rw [Bz.tabB,List.length_append,List.length_cons,List.length_cons]
  omega
theorem y0m {K:Nat} {ls:List Nat} (h:LenOk K ls) (hK:1≤K∧K≤300):(Bz.tableF ls).length≤12305:=by
 have h1:=h.len
 have h2:=h.lt _ (Bz.getD_mem' (l:=ls) (r:=0) (by omega))
 have:=y7h ls (ls.getD 0 0) (by omega) (fun z hz=>by have:=h.lt z hz;omega)
 unfold Bz.tableF
 rw [List.length_append,Bz.nbH_len]
 omega
theorem x9n (a:Option Addr) (n c i:Nat) (hi:i<2) (w:World):(Instr.index 116 (.agg #[.slice a n c,.slice a n c]) (.int .i64 (i:Int))).run Tryz.prog w=.ok (.slice a n c) w:=by
 have hz:(Go.sizeOf 49).run Tryz.prog w=.ok 1 w:=Tryz.sizeOf49 w
 rcases (by omega:i=0∨i=1) with rfl|rfl
 ·simp [Instr.index,run_underlying Tryz.underlying116,asIntOf,go_sem,hz]
 ·simp [Instr.index,run_underlying Tryz.underlying116,asIntOf,go_sem,hz]
theorem y1t (pb K:Nat) (v:Value) (ss:List Nat) (sa:Option Addr) (sc:Nat) (L:List Bool) (w:World) (h:WS w pb v L) (hs:R11.IntsIn w sa (ss.map fun x:Nat=>(x:Int))) (hbe:∀g off,sa=some ⟨g,off,none⟩→Beside pb v g) (hK:3≤K∧K≤300) (hss:∀z∈ss,z<K) (hn:ss.length≤1600000) (hL:L.length≤700000000000000) :
  Calls Tryz.prog 42 #[putV pb,.slice sa ss.length sc,.int .i64 (K:Int)] w fun e w'=>e=.returned (.tuple #[])∧∃v' ls,LenOk K ls∧WS w' pb v' (L++y5t ls ss)∧B4.Chg pb v w v' w':=by
 have HC1:=qz (z9d ss K sa sc w hs hK hss (by omega))
 have HW0:=qz h
 have HS:=qz hs
 have HBE:=qz hbe
 have HSS:=qz hss
 have HK:=qz hK
 have hK3:K≤300:=hK.2
 have HLL:=qz hL
 obtain ⟨N,hN⟩:∃N,N=ss.length:=⟨_,rfl⟩
 have HN:=qz hN
 rw [←hN] at hn ⊢
 clear h hs hbe hss hK hL hN
 unfold putV
 go_enter Tryz.func42,Tryz.ntmps42
 go_wp2_with fail
 rw [uh HN]
 refine (uh HC1).mono ?_
 rintro e w1 ⟨gl,ls,rfl,hgl,hnum,hok,hb1⟩
 have HNUM:=qz hnum
 have HOK:=qz hok
 have HB1:=qz hb1
 have HGL:=qz hgl
 rw [←uh HN]
 clear hnum hok hb1 hgl HC1
 obtain ⟨o1,ho1⟩:∃o1:Obj,o1=.cells #[Value.slice (some ⟨gl,0,none⟩) K K,Value.slice (some ⟨gl,0,none⟩) K K] 116:=⟨_,rfl⟩
 obtain ⟨T,hT⟩:∃T,T=w1.heap.size:=⟨_,rfl⟩
 have hb2:Below w.heap.size w (w1.alloc o1):=(uh HB1).alloc (uh HB1).size _
 have HW2:Hid (WS (w1.alloc o1) pb v L):=qz ((uh HW0).below hb2)
 have HNUM2:Hid (Nums (w1.alloc o1) gl ls):=qz (z0a.alloc (uh HNUM) _)
 have HT2:Hid (VRow (w1.alloc o1) 116 T 2 (fun _=>.slice (some ⟨gl,0,none⟩) K K)):=qz (by rw [hT,ho1];exact heap_alloc_new _ _)
 have HBG:Hid (Beside pb v gl):=qz (z2z (uh HW0) (uh HGL))
 have HBT:Hid (Beside pb v T):=qz (z2z (uh HW0) (by rw [hT];exact (uh HB1).size))
 have HS2:Hid (R11.IntsIn (w1.alloc o1) sa (ss.map fun x:Nat=>(x:Int))):=qz fun j hj=>by
  obtain ⟨g,off,e1,e2⟩:=uh HS j hj
  exact ⟨g,off,e1,by rw [hb2.cell (R11.cell_lt e2)];exact e2⟩
 have HCW:Hid (B4.Chg pb v w v (w1.alloc o1)):=qz (z3a hb2)
 obtain ⟨w2,hw2⟩:∃w2,w2=w1.alloc o1:=⟨_,rfl⟩
 rw [←hw2] at HW2 HNUM2 HT2 HS2 HCW
 rw [ho1] at hw2
 have HWW:=qz hw2
 have HTW:=qz hT
 have HP1:=qz (z2g (n:=3) (V:=2) (uh HW2) (by decide) (by decide) (by have:=uh HLL;omega))
 clear hw2 hT ho1 hb2 HS HNUM HB1 HW0 HW2
 go_wp2_with fail
 rw [←uh HWW,←uh HTW]
 refine (uh HP1).mono ?_
 rintro e w3 ⟨rfl,v3,hws3,hch3⟩
 obtain ⟨S,hS⟩:∃S,S=(N+49)/50:=⟨_,rfl⟩
 have hSn:S≤32001:=by omega
 have fw1:IntKind.i64.wrap ((N:Int)+50)=(N:Int)+50:=by rw [IntKind.wrap_i64];omega
 have HE:Hid (((N:Int)+50-1)/50=(S:Int)):=qz (by omega)
 have HSS2:Hid (S=(ss.length+49)/50):=qz (by rw [hS,uh HN])
 have HP2:=qz (z2g (n:=15) (V:=S) hws3 (by decide) (by omega) (by rw [List.length_append,Bz.nbH_len];have:=uh HLL;omega))
 have HC3:=qz hch3
 clear hws3 hch3 HP1 hS HWW
 go_wp2_with fail
 rw [uh HE]
 refine (uh HP2).mono ?_
 rintro e w4 ⟨rfl,v4,hws4,hch4⟩
 have HW4:=qz hws4
 have HC4:=qz ((uh HC3).trans hch4)
 clear hws4 hch4 HP2 HC3 fw1
 go_wp2_with fail
 go_loopg [36] S (fun gk d ws=>∃ (i:Nat) (v5:Value),gk=S-i∧i≤S∧d=.int .i64 (i:Int)∧Hid (WS ws pb v5 (L++Bz.nbH 2 3++Bz.nbH S 15++List.replicate i false))∧Hid (B4.Chg pb v w2 v5 ws))
 case atStart=>exact ⟨0,v4,by omega,by omega,rfl,qz (by simpa using uh HW4),HC4⟩
 case round =>
  clear HW4 HC4
  obtain ⟨i,v5,rfl,hi,rfl,HW,HC⟩:=hrel
  rename World=>ws
  have hlen:(L++Bz.nbH 2 3++Bz.nbH S 15++List.replicate i false).length≤800000000000000:=by
   simp only [List.length_append,Bz.nbH_len,List.length_replicate];have:=uh HLL;omega
  by_cases hlt:i<S
  ·have tl:(i:Int)<(S:Int):=by omega
   have HP:=qz (z2g (n:=1) (V:=0) (uh HW) (by decide) (by decide) (by omega))
   go_wp2_with fail
   refine (uh HP).mono ?_
   rintro e w5 ⟨rfl,v6,hws,hchg⟩
   have HW5:=qz hws
   have HC5:=qz ((uh HC).trans hchg)
   clear hws hchg HP
   go_wp2_with fail
   go_roundg (S-(i+1))
   case measure=>omega
   case rel=>exact ⟨i+1,v6,rfl,by omega,by go_num,qz (by have:=uh HW5;rw [List.append_assoc] at this;rw [List.replicate_succ'];exact this),HC5⟩
  ·obtain rfl:S=i:=by omega
   have tl:¬ (S:Int)<(S:Int):=by omega
   have hvr:VRow ws 116 T 2 (fun _=>.slice (some ⟨gl,0,none⟩) K K):=(uh HT2).of ((uh HBT).chg (uh HT2).lt (uh HC)).2
   have t0:=hvr.cell 0 (by omega)
   have t1:=hvr.cell 1 (by omega)
   have HVR:=qz hvr
   clear hvr
   obtain ⟨B0,hB0⟩:∃B0,B0=L++Bz.nbH 2 3++Bz.nbH S 15++List.replicate S false:=⟨_,rfl⟩
   rw [←hB0] at HW hlen
   have HB0:=qz hB0
   have hlenB:B0.length≤700000000100000:=by rw [hB0];simp only [List.length_append,Bz.nbH_len,List.length_replicate];have:=uh HLL;omega
   have htf:=y0m (uh HOK) (by have:=uh HK;omega)
   have hlsl:=(uh HOK).len
   have HLSL:=qz hlsl
   clear hB0 hlen hlsl
   go_wp2_with fail
   go_loopg [42] 2 (fun gk d wk=>∃ (i:Nat) (v6:Value),gk=2-i∧i≤2∧d=.int .i64 (i:Int)∧Hid (WS wk pb v6 (B0++(List.replicate i (Bz.tableF ls)).flatten))∧Hid (B4.Chg pb v w2 v6 wk))
   case atStart=>exact ⟨0,v5,by omega,by omega,rfl,qz (by simpa using uh HW),HC⟩
   case round =>
    clear HW HC
    obtain ⟨i,v6,rfl,hi2,rfl,HW,HC⟩:=hrel
    rename World=>wk
    have hnm:Nums wk gl ls:=by unfold Nums z0a;rw [((uh HBG).chg (z0a.lt (uh HNUM2)) (uh HC)).2];exact uh HNUM2
    have hbg:=((uh HBG).chg (z0a.lt (uh HNUM2)) (uh HC)).1
    have hlen2:(B0++(List.replicate i (Bz.tableF ls)).flatten).length≤750000000000000:=by
     rw [List.length_append,List.length_flatten,List.map_replicate,List.sum_replicate_nat]
     have:i*(Bz.tableF ls).length≤2*12305:=Nat.mul_le_mul (by omega) htf
     omega
    by_cases hlt2:i<2
    ·have HP:=y1s pb gl v6 ls _ wk (uh HW) hnm hbg (by have:=uh HLSL;have:=uh HK;omega) (fun z hz=>by have:=(uh HOK).lt z hz;omega) (by omega)
     rw [uh HLSL] at HP
     have HP:=qz HP
     unfold putV at HP
     clear hnm hbg
     have tl2:(i:Int)<2:=by omega
     have hix:=x9n (some ⟨gl,0,none⟩) K K i hlt2 wk
     go_wp2_with fail
     refine (uh HP).mono ?_
     rintro e w5 ⟨rfl,v7,hws,hchg⟩
     have HW5:=qz hws
     have HC5:=qz ((uh HC).trans hchg)
     clear hws hchg HP hix
     go_wp2_with fail
     go_roundg (2-(i+1))
     case measure=>omega
     case rel=>exact ⟨i+1,v7,rfl,by omega,by go_num,qz (by have:=uh HW5;rw [List.append_assoc] at this;rw [List.replicate_succ',List.flatten_append];simpa using this),HC5⟩
    ·obtain rfl:i=2:=by omega
     have HP:=x8e (M:=17) hnm (by have:=uh HLSL;have:=uh HK;omega) (fun z hz=>((uh HOK).lt z hz).2) (by omega) (uh HOK).full
     rw [uh HLSL] at HP
     have HP:=qz HP
     go_wp2_with fail
     refine (uh HP).mono ?_
     rintro e w6 ⟨cp,rfl,hcode,hb6⟩
     have HW6:=qz ((uh HW).below hb6)
     have HC6:=qz ((uh HC).trans (z3a (pb:=pb) (v:=v6) hb6))
     have HCO:=qz hcode
     have hsz6:=hb6.size
     have HV6:Hid (∀b,v6.ownBlock=some b→b<wk.heap.size):=qz fun b e=>((uh HW).lt.2 b e).2
     have hpbk:pb<wk.heap.size:=(uh HW).lt.1
     clear hcode hb6 HP hnm hbg
     obtain ⟨B1,hB1⟩:∃B1,B1=B0++(List.replicate 2 (Bz.tableF ls)).flatten:=⟨_,rfl⟩
     rw [←hB1] at HW6 hlen2
     have HB1:=qz hB1
     obtain ⟨A,hA⟩:∃A,A=wk.heap.size:=⟨_,rfl⟩
     rw [←hA] at HCO hsz6 HV6 hpbk
     have hgood:B4.Good ls:=by
      obtain ⟨_,_,_,_,_,_,_,_,_,_,_,hc⟩:=uh HCO
      exact hc.good
     have HGD:=qz hgood
     clear hB1 hA hgood
     go_wp2_with fail
     go_loopg [56] N (fun gk d wj=>∃ (j:Nat) (v7:Value),gk=N-j∧j≤N∧d=.int .i64 (j:Int)∧Hid (WS wj pb v7 (B1++(ss.take j).flatMap (wbH ls)))∧Hid (((ss.take j).flatMap (wbH ls)).length≤20*j)∧Hid (B4.Chg pb v6 w6 v7 wj))
     case atStart=>exact ⟨0,v6,by omega,by omega,rfl,qz (by simpa using uh HW6),qz (by simp),qz (B4.Chg.refl _ _ _)⟩
     case round =>
      clear HW6
      obtain ⟨j,v7,rfl,hj,rfl,HW,HFL,HC7⟩:=hrel
      rename World=>wj
      by_cases hlt3:j<N
      ·have tl3:(j:Int)<(N:Int):=by omega
       have hjs:j<ss.length:=by rw [←uh HN];exact hlt3
       obtain ⟨gs,off,e0,cs⟩:=uh HS2 j (by simpa using hjs)
       have hcs:=((uh HBE) gs off e0).chg (R11.cell_lt cs) ((uh HC6).trans (uh HC7))
       subst e0
       have hget:(ss.map fun x:Nat=>(x:Int)).getD j 0=((ss.getD j 0:Nat):Int):=by simp [List.getD_eq_getElem?_getD,hjs]
       rw [hget] at cs
       have hsk:=uh HSS _ (Bz.getD_mem' hjs)
       have cs2:wj.cell? ⟨gs,off+j,none⟩=some (.int .i64 ((ss.getD j 0:Nat):Int)):=by
        rw [←cs]
        simp only [World.cell?,hcs.2]
       have htk:ss.take (j+1)=ss.take j++[ss.getD j 0]:=by
        rw [List.take_add_one,List.getElem?_eq_getElem hjs,List.getD_eq_getElem?_getD,List.getElem?_eq_getElem hjs];rfl
       generalize ss.getD j 0=s at *
       have hls:=uh HLSL
       have hln:=(uh HOK).lt _ (Bz.getD_mem' (l:=ls) (r:=s) (by omega))
       have hco:B4.Code ls wj cp A w6.heap.size:=(uh HCO).keep fun k h1 h2=>(uh HC7).keep k h2 (by omega) (fun e=>by have:=uh HV6 k e;omega)
       have hln2:1≤Canon.ln ls s∧Canon.ln ls s≤17:=hln
       have hwl:=Canon.y2k ((uh HGD).has (by omega:s<ls.length) (by omega)) (uh HGD).sum
       have HWD:=qz (z5y ls cp A w6.heap.size s wj hco (by omega) (by omega))
       have HTK:=qz htk
       have HWB:Hid (wbH ls s=Bz.nbH (Canon.wd ls s) (Canon.ln ls s)):=qz rfl
       have hpow:2^Canon.ln ls s≤2^17:=Nat.pow_le_pow_right (by decide) hln2.2
       have hfl:=uh HFL
       generalize Canon.wd ls s=wd at *
       generalize Canon.ln ls s=ln at *
       have hwd:wd<131072:=by omega
       have fwd:IntKind.u64.wrap (wd:Int)=(wd:Int):=by rw [IntKind.wrap_u64];omega
       have HWL:=qz hwl
       clear htk hget cs hcs hco hln hls hwl hpow
       go_wp2_with fail
       refine (uh HWD).mono ?_
       rintro e w8 ⟨rfl,hb8⟩
       have HW8:=qz ((uh HW).below hb8)
       have HC8:=qz ((uh HC7).trans (z3a (pb:=pb) (v:=v7) hb8))
       have HP:=qz (z2g (n:=ln) (V:=wd) (uh HW8) (by omega) (uh HWL) (by rw [List.length_append];omega))
       clear hb8 HWD
       go_wp2_with fail
       refine (uh HP).mono ?_
       rintro e w9 ⟨rfl,v9,hws,hchg⟩
       have HW9:=qz hws
       have HC9:=qz ((uh HC8).trans hchg)
       clear hws hchg HP
       go_wp2_with fail
       go_roundg (N-(j+1))
       case measure=>omega
       case rel =>
        have he:(ss.take (j+1)).flatMap (wbH ls)=(ss.take j).flatMap (wbH ls)++Bz.nbH wd ln:=by rw [uh HTK,List.flatMap_append,List.flatMap_singleton,uh HWB]
        exact ⟨j+1,v9,rfl,by omega,by go_num,qz (by rw [he,←List.append_assoc];exact uh HW9),qz (by rw [he,List.length_append,Bz.nbH_len];omega),HC9⟩
      ·obtain rfl:N=j:=by omega
       have tl3:¬ (N:Int)<(N:Int):=by omega
       have htk:ss.take N=ss:=List.take_of_length_le (by rw [←uh HN];exact Nat.le_refl _)
       go_wp2_with fail
       go_end0
       refine ⟨rfl,v7,ls,uh HOK,?_,(uh HCW).trans ((uh HC6).trans (uh HC7))⟩
       have hw:=uh HW
       rw [htk,uh HB1,uh HB0,uh HSS2] at hw
       have he:L++Bz.nbH 2 3++Bz.nbH ((ss.length+49)/50) 15++List.replicate ((ss.length+49)/50) false++(List.replicate 2 (Bz.tableF ls)).flatten++ss.flatMap (wbH ls)=L++y5t ls ss:=by
        unfold y5t
        simp [List.replicate_succ]
       rw [he] at hw
       exact hw
end
section
open Go.RowKit B4 B4.Mth Infl R11.Runs
attribute [local go_sem ↓] wp_at_zero wp_at_succ
theorem y7q (f:Nat→Bool) (n r:Nat) (hr:r<n):(Bz.vf f n).testBit r=f (n-1-r):=by
 have:=Bz.test_vf f n (n-1-r) (by omega)
 rw [show n-1-(n-1-r)=r by omega] at this
 exact this
theorem y5y (f:Nat→Bool) (n r:Nat) (hr:n≤r):(Bz.vf f n).testBit r=false :=
 Nat.testBit_lt_two_pow (Nat.lt_of_lt_of_le (Bz.vf_lt f n) (Nat.pow_le_pow_right (by decide) hr))
theorem x8j {f f':Nat→Bool} {k:Nat} (hk:k<16) (h:∀i,i<16→f' i=(f i || decide (i=k))):Bz.vf f' 16=Bz.vf f 16 ||| 2^(15-k):=by
 apply Nat.eq_of_testBit_eq
 intro r
 rw [Nat.testBit_or,Nat.testBit_two_pow]
 by_cases hr:r<16
 ·rw [y7q f' 16 r hr,y7q f 16 r hr,h _ (by omega)]
  congr 1
  by_cases e:15-k=r
  ·rw [decide_eq_true (show 16-1-r=k by omega),decide_eq_true e]
  ·rw [decide_eq_false (show ¬16-1-r=k by omega),decide_eq_false e]
 ·rw [y5y f' 16 r (by omega),y5y f 16 r (by omega),decide_eq_false (show ¬15-k=r by omega)]
  rfl
theorem x7j:Bz.vf (fun _=>false) 16=0:=by decide
theorem w1l (f:Nat→Bool):Bz.nbH (Bz.vf f 16) 16=(List.range 16).map f:=by
 unfold Bz.nbH
 refine List.map_congr_left fun i hi=>?_
 rw [List.mem_range] at hi
 exact Bz.test_vf f 16 i hi
def inB (l:List Nat) (c:Nat):Bool:=decide (c∈l)
theorem y0z (l:List Nat) (x c:Nat):inB (l++[x]) c=(inB l c || decide (c=x)):=by
 unfold inB
 by_cases h1:c∈l<;>by_cases h2:c=x<;>simp [h1,h2]
theorem x5f (l:List Nat) (x i:Nat):Bz.hasG (inB (l++[x])) i=(Bz.hasG (inB l) i || decide (i=x/16)):=by
 unfold Bz.hasG
 rw [Bool.eq_iff_iff]
 simp only [List.any_eq_true,Bool.or_eq_true,List.mem_range,y0z,decide_eq_true_eq]
 constructor
 ·rintro ⟨j,hj,h|h⟩
  ·exact .inl ⟨j,hj,h⟩
  ·exact .inr (by omega)
 ·rintro (⟨j,hj,h⟩|h)
  ·exact ⟨j,hj,.inl h⟩
  ·exact ⟨x%16,by omega,.inr (by omega)⟩
def grpV (l:List Nat) (i:Nat):Nat:=Bz.vf (fun j=>inB l (16*i+j)) 16
def y2u (l:List Nat):Nat:=Bz.vf (Bz.hasG (inB l)) 16
theorem x0q (l:List Nat) (i:Nat):grpV l i<65536:=Bz.vf_lt _ 16
theorem y6g (l:List Nat):y2u l<65536:=Bz.vf_lt _ 16
theorem y8g (l:List Nat) (x:Nat) (hx:x<256):y2u (l++[x])=y2u l ||| 2^(15-x/16) :=
 x8j (by omega) fun i _=>x5f l x i
theorem x0r (l:List Nat) (x i:Nat) (hx:x<256):grpV (l++[x]) i=if i=x/16 then grpV l i ||| 2^(15-x%16) else grpV l i:=by
 by_cases e:i=x/16
 ·rw [if_pos e]
  refine x8j (by omega) fun j hj=>?_
  rw [y0z]
  congr 1
  by_cases e2:j=x%16
  ·rw [decide_eq_true e2,decide_eq_true (by omega)]
  ·rw [decide_eq_false e2,decide_eq_false (by omega)]
 ·rw [if_neg e]
  refine Bz.vf_congr 16 fun j hj=>?_
  rw [y0z,decide_eq_false (by omega),Bool.or_false]
theorem y3a (l:List Nat) (i:Nat):grpV l i=0↔Bz.hasG (inB l) i=false:=by
 constructor
 ·intro h
  unfold Bz.hasG
  rw [List.any_eq_false]
  intro j hj
  rw [List.mem_range] at hj
  have:=y7q (fun j=>inB l (16*i+j)) 16 (15-j) (by omega)
  unfold grpV at h
  rw [h,Nat.zero_testBit,show 16-1-(15-j)=j by omega] at this
  rw [←this]
  decide
 ·intro h
  unfold Bz.hasG at h
  rw [List.any_eq_false] at h
  have e:grpV l i=Bz.vf (fun _=>false) 16:=Bz.vf_congr 16 fun j hj=>by
   have:=h j (List.mem_range.2 hj)
   simpa using this
  rw [e,x7j]
theorem w1o (a k:Nat) (ha:a<65536) (hk:k≤15):bits .or .u64 (a:Int) (IntKind.u64.wrap (2^k))=((a ||| 2^k:Nat):Int):=by
 have h1:2^k≤2^15:=Nat.pow_le_pow_right (by decide) hk
 have e:IntKind.u64.wrap (2^k)=((2^k:Nat):Int):=by
  rw [IntKind.wrap_u64]
  have:(2:Int)^k=((2^k:Nat):Int):=by rw [Int.natCast_pow];rfl
  rw [this]
  generalize 2^k=y at h1
  omega
 rw [e]
 exact u64_or_nat a (2^k) (by omega) (by omega)
theorem w2g (C:Nat→Nat) (i:Nat) (hi:i<16) (w:World):(Instr.index 115 (.agg #[.int .u64 ((C 0:Nat):Int),.int .u64 ((C 1:Nat):Int),.int .u64 ((C 2:Nat):Int),.int .u64 ((C 3:Nat):Int),.int .u64 ((C 4:Nat):Int),.int .u64 ((C 5:Nat):Int),.int .u64 ((C 6:Nat):Int),.int .u64 ((C 7:Nat):Int),.int .u64 ((C 8:Nat):Int),.int .u64 ((C 9:Nat):Int),.int .u64 ((C 10:Nat):Int),.int .u64 ((C 11:Nat):Int),.int .u64 ((C 12:Nat):Int),.int .u64 ((C 13:Nat):Int),.int .u64 ((C 14:Nat):Int),.int .u64 ((C 15:Nat):Int)]) (.int .i64 (i:Int))).run Tryz.prog w=.ok (.int .u64 ((C i:Nat):Int)) w:=by
 have hz:(Go.sizeOf 46).run Tryz.prog w=.ok 1 w:=Tryz.sizeOf46 w
 have h2:(#[.int .u64 ((C 0:Nat):Int),.int .u64 ((C 1:Nat):Int),.int .u64 ((C 2:Nat):Int),.int .u64 ((C 3:Nat):Int),.int .u64 ((C 4:Nat):Int),.int .u64 ((C 5:Nat):Int),.int .u64 ((C 6:Nat):Int),.int .u64 ((C 7:Nat):Int),.int .u64 ((C 8:Nat):Int),.int .u64 ((C 9:Nat):Int),.int .u64 ((C 10:Nat):Int),.int .u64 ((C 11:Nat):Int),.int .u64 ((C 12:Nat):Int),.int .u64 ((C 13:Nat):Int),.int .u64 ((C 14:Nat):Int),.int .u64 ((C 15:Nat):Int)]:Array Value)[i]?=some (.int .u64 ((C i:Nat):Int)):=by
  rcases (by omega:i=0∨i=1∨i=2∨i=3∨i=4∨i=5∨i=6∨i=7∨i=8∨i=9∨i=10∨i=11∨i=12∨i=13∨i=14∨i=15) with rfl|rfl|rfl|rfl|rfl|rfl|rfl|rfl|rfl|rfl|rfl|rfl|rfl|rfl|rfl|rfl<;>rfl
 generalize (#[.int .u64 ((C 0:Nat):Int),.int .u64 ((C 1:Nat):Int),.int .u64 ((C 2:Nat):Int),.int .u64 ((C 3:Nat):Int),.int .u64 ((C 4:Nat):Int),.int .u64 ((C 5:Nat):Int),.int .u64 ((C 6:Nat):Int),.int .u64 ((C 7:Nat):Int),.int .u64 ((C 8:Nat):Int),.int .u64 ((C 9:Nat):Int),.int .u64 ((C 10:Nat):Int),.int .u64 ((C 11:Nat):Int),.int .u64 ((C 12:Nat):Int),.int .u64 ((C 13:Nat):Int),.int .u64 ((C 14:Nat):Int),.int .u64 ((C 15:Nat):Int)]:Array Value)=arr at h2 ⊢
 simp [Instr.index,run_underlying Tryz.underlying115,asIntOf,hi,go_sem,hz,h2]
theorem x1z (p:Nat→Bool) (i:Nat) (hi:i<16):Bz.ownsB p (16-i)=(if Bz.hasG p i=true then Bz.ownB p i else [])++Bz.ownsB p (16-(i+1)):=by
 obtain ⟨k,hk⟩:∃k,16-i=k+1:=⟨15-i,by omega⟩
 rw [hk,Bz.ownsB,show 15-k=i by omega,show 16-(i+1)=k by omega]
theorem y8z (pb:Nat) (v:Value) (us:List Nat) (ua:Option Addr) (uc:Nat) (L:List Bool) (w:World) (h:WS w pb v L) (hs:R11.BytesIn w ua us) (hbe:∀g off,ua=some ⟨g,off,none⟩→Beside pb v g) (hus:∀z∈us,z<256) (hn:us.length≤256) (hL:L.length≤700000000000000) :
  Calls Tryz.prog 41 #[putV pb,.slice ua us.length uc] w fun e w'=>e=.returned (.tuple #[])∧∃v',WS w' pb v' (L++Bz.usedB (inB us))∧B4.Chg pb v w v' w':=by
 have HW0:=qz h
 have HS:=qz hs
 have HBE:=qz hbe
 have HUS:=qz hus
 have HLL:=qz hL
 obtain ⟨N,hN⟩:∃N,N=us.length:=⟨_,rfl⟩
 have HN:=qz hN
 rw [←hN] at hn ⊢
 clear h hs hbe hus hL hN
 unfold putV
 obtain ⟨o1,ho1⟩:∃o1:Obj,o1=.cells #[.int .u64 0,.int .u64 0,.int .u64 0,.int .u64 0,.int .u64 0,.int .u64 0,.int .u64 0,.int .u64 0,.int .u64 0,.int .u64 0,.int .u64 0,.int .u64 0,.int .u64 0,.int .u64 0,.int .u64 0,.int .u64 0] 115:=⟨_,rfl⟩
 obtain ⟨A,hA⟩:∃A,A=w.heap.size:=⟨_,rfl⟩
 have hb1:Below w.heap.size w (w.alloc o1):=(Below.refl _ _).alloc (Nat.le_refl _) _
 have HW1:Hid (WS (w.alloc o1) pb v L):=qz ((uh HW0).below hb1)
 have HG1:Hid (z0a (w.alloc o1) .u64 115 A 16 (grpV [])):=qz (by
  refine z0a.congr (C:=fun _=>0) ?_ (fun i _=>((y3a [] i).2 (by unfold Bz.hasG inB;simp)).symm)
  rw [hA,ho1]
  exact heap_alloc_new _ _)
 have HBA:Hid (Beside pb v A):=qz (z2z (uh HW0) (by omega))
 have HB1:Hid (Below A w (w.alloc o1)):=qz (by rw [hA];exact hb1)
 obtain ⟨w1,hw1⟩:∃w1,w1=w.alloc o1:=⟨_,rfl⟩
 rw [←hw1] at HW1 HG1 HB1
 rw [ho1] at hw1
 have HWW:=qz hw1
 have HAW:=qz hA
 clear hw1 hA ho1 hb1
 go_enter Tryz.func41,Tryz.ntmps41
 go_wp2_with fail
 rw [←uh HAW,←uh HWW]
 clear HWW
 go_loopg [5,14] N (fun gk cm d ws=>∃ (i:Nat),gk=N-i∧i≤N∧cm=.int .u64 ((y2u (us.take i):Nat):Int)∧d=.int .i64 (i:Int)∧Hid (z0a ws .u64 115 A 16 (grpV (us.take i)))∧Hid (Below A w ws)∧Hid (WS ws pb v L))
 case atStart=>exact ⟨0,by omega,by omega,by rw [List.take_zero];rfl,rfl,HG1,HB1,HW1⟩
 case round =>
  clear HG1 HB1 HW1
  obtain ⟨i,rfl,hi,rfl,rfl,HG,HB,HW⟩:=hrel
  rename World=>ws
  by_cases hlt:i<N
  ·have tl:(i:Int)<(N:Int):=by omega
   have hiu:i<us.length:=by rw [←uh HN];exact hlt
   obtain ⟨gu,off,rfl,cs⟩:=uh HS i hiu
   have hgu:gu<w.heap.size:=R11.cell_lt cs
   have cs2:ws.cell? ⟨gu,off+i,none⟩=some (.int .u8 ((us.getD i 0:Nat):Int)):=by
    rw [(uh HB).cell (by show gu<A;have:=uh HAW;omega)];exact cs
   have hx:=uh HUS _ (Bz.getD_mem' hiu)
   have htk:us.take (i+1)=us.take i++[us.getD i 0]:=by
    rw [List.take_add_one,List.getElem?_eq_getElem hiu,List.getD_eq_getElem?_getD,List.getElem?_eq_getElem hiu];rfl
   generalize us.getD i 0=c at *
   have HTK:=qz htk
   have e1:=(uh HG).cell (c/16) (by omega)
   have e2:=(uh HG).free (c/16)
   clear cs htk hgu
   go_wp2_with fail
   go_roundg (N-(i+1))
   case measure=>omega
   case rel =>
    have o1:=w1o (y2u (us.take i)) (15-c/16) (y6g _) (by omega)
    have o2:=w1o (grpV (us.take i) (c/16)) (15-c%16) (x0q _ _) (by omega)
    rw [o2]
    refine ⟨i+1,rfl,by omega,by rw [uh HTK,y8g _ _ hx,←o1],by go_num,qz (((uh HG).set (c/16) _).congr fun j hj=>?_),qz ((uh HB).setCell (Nat.le_refl _) _),qz ?_⟩
    ·rw [uh HTK,x0r _ _ _ hx]
     unfold upd
     by_cases e:j=c/16
     ·rw [if_pos e,if_pos e,e]
     ·rw [if_neg e,if_neg e]
    ·obtain ⟨m,f,h1,h2⟩:=uh HW
     have hba:=uh HBA
     exact ⟨m,f,h1.keep (heap_setCell_other _ _ _ _ (by show pb≠A;exact fun e=>hba.1 e.symm)) (fun b e=>heap_setCell_other _ _ _ _ (by show b≠A;intro e2;subst e2;exact hba.2 e)),h2⟩
  ·obtain rfl:N=i:=by omega
   have tl:¬ (N:Int)<(N:Int):=by omega
   have htk:us.take N=us:=List.take_of_length_le (by rw [←uh HN];exact Nat.le_refl _)
   rw [htk] at HG
   rw [htk]
   have hcl:=y6g us
   have HP:=qz (z2g (n:=16) (V:=y2u us) (uh HW) (by decide) hcl (by have:=uh HLL;omega))
   have HCV:Hid (Bz.nbH (y2u us) 16=Bz.groupsB (inB us)):=qz (w1l _)
   have HGA:Hid (A<ws.heap.size):=qz (z0a.lt (uh HG))
   have HCW:Hid (B4.Chg pb v w v ws):=qz (z3a (by have:=uh HB;rw [uh HAW] at this;exact this))
   generalize y2u us=cv at *
   clear hcl htk
   go_wp2_with fail
   refine (uh HP).mono ?_
   rintro e w2 ⟨rfl,v2,hws,hchg⟩
   have hg2:=((uh HBA).chg (uh HGA) hchg).2
   have hG2:z0a w2 .u64 115 A 16 (grpV us):=by unfold z0a;rw [hg2];exact uh HG
   have HW2:=qz hws
   have HC2:=qz ((uh HCW).trans hchg)
   rw [uh HCV] at HW2
   have hgl:=x0q us
   have HGZ:=qz (y3a us)
   have HGV:Hid (∀i,Bz.nbH (grpV us i) 16=Bz.ownB (inB us) i):=qz fun i=>w1l _
   generalize grpV us=C at *
   have k0:=hG2.cell 0 (by decide)
   have k1:=hG2.cell 1 (by decide)
   have k2:=hG2.cell 2 (by decide)
   have k3:=hG2.cell 3 (by decide)
   have k4:=hG2.cell 4 (by decide)
   have k5:=hG2.cell 5 (by decide)
   have k6:=hG2.cell 6 (by decide)
   have k7:=hG2.cell 7 (by decide)
   have k8:=hG2.cell 8 (by decide)
   have k9:=hG2.cell 9 (by decide)
   have k10:=hG2.cell 10 (by decide)
   have k11:=hG2.cell 11 (by decide)
   have k12:=hG2.cell 12 (by decide)
   have k13:=hG2.cell 13 (by decide)
   have k14:=hG2.cell 14 (by decide)
   have k15:=hG2.cell 15 (by decide)
   clear hws hchg HP hg2 hG2 HG
   go_wp2_with fail
   go_loopg [40] 16 (fun gk d wk=>∃ (i:Nat) (v3:Value) (L3:List Bool),gk=16-i∧i≤16∧d=.int .i64 (i:Int)∧Hid (L3.length≤L.length+16+16*i)∧Hid (WS wk pb v3 L3)∧Hid (B4.Chg pb v w v3 wk)∧Hid (L3++Bz.ownsB (inB us) (16-i)=L++Bz.usedB (inB us)))
   case atStart=>exact ⟨0,v2,L++Bz.groupsB (inB us),by omega,by omega,rfl,qz (by simp [Bz.groupsB]),HW2,HC2,qz (by rw [List.append_assoc];rfl)⟩
   case round =>
    clear HW2 HC2
    obtain ⟨i,v3,L3,rfl,hi,rfl,HLN,HW,HC,HT⟩:=hrel
    rename World=>wk
    by_cases hlt:i<16
    ·have tl:(i:Int)<16:=by omega
     have hix:=w2g C i hlt wk
     have hst:=uh HT
     rw [x1z _ i hlt] at hst
     have hcl:=hgl i
     have hgz:=uh HGZ i
     by_cases hz:C i=0
     ·have f1:(((C i:Nat):Int) != 0)=false:=by rw [hz];rfl
      rw [if_neg (by rw [hgz.1 hz];decide)] at hst
      have HST:=qz hst
      clear hst hgz
      go_wp2_with fail
      go_roundg (16-(i+1))
      case measure=>omega
      case rel=>exact ⟨i+1,v3,L3,rfl,by omega,by go_num,qz (by have:=uh HLN;omega),HW,HC,HST⟩
     ·have f1:(((C i:Nat):Int) != 0)=true:=by rw [bne_iff_ne];omega
      rw [if_pos (by cases hb:Bz.hasG (inB us) i with|true=>rfl|false=>exact absurd (hgz.2 hb) hz),←uh HGV i,←List.append_assoc] at hst
      have HST:=qz hst
      have HP:=qz (z2g (n:=16) (V:=C i) (uh HW) (by decide) hcl (by have:=uh HLN;have:=uh HLL;omega))
      clear hst hgz
      generalize C i=y at *
      go_wp2_with fail
      refine (uh HP).mono ?_
      rintro e w5 ⟨rfl,v5,hws,hchg⟩
      have HW5:=qz hws
      have HC5:=qz ((uh HC).trans hchg)
      clear hws hchg HP
      go_wp2_with fail
      go_roundg (16-(i+1))
      case measure=>omega
      case rel=>exact ⟨i+1,v5,L3++Bz.nbH y 16,rfl,by omega,by go_num,qz (by have:=uh HLN;rw [List.length_append,Bz.nbH_len];omega),HW5,HC5,HST⟩
    ·obtain rfl:i=16:=by omega
     have ht:=uh HT
     rw [Nat.sub_self,Bz.ownsB,List.append_nil] at ht
     go_wp2_with fail
     go_end0
     exact ⟨rfl,v3,by rw [←ht];exact uh HW,uh HC⟩
end
namespace R11
open Go.RowKit Runs
def placesI (b:List Nat):List Int:=(z0n b).map fun k:Nat=>(k:Int)
theorem placesI_len (b:List Nat):(placesI b).length=b.length:=by unfold placesI z0n;rw [List.length_map,z1u]
theorem all_used {b:List Nat} (hb:∀z∈b,z<256):∀z∈b,z∈z0o b:=fun z hz=>z5f.2 ⟨hb z hz,hz⟩
theorem used_pos {b:List Nat} (hb:∀z∈b,z<256) (hne:b≠[]):1≤(z0o b).length:=by
 cases b with
 | nil=>exact absurd rfl hne
 | cons c r=>exact List.length_pos_of_mem (all_used hb c (List.mem_cons_self ..))
theorem sym_front {b:List Nat} (hb:∀z∈b,z<256) (hne:b≠[]):z6o (placesI b) ((z0o b).length:Nat)=((symG (z0o b).length (z0n b) 0).map (fun d:Nat=>(d:Int)),0):=by
 have h1:=used_pos hb hne
 have h2:=used_len b
 unfold z6o
 rw [if_neg (by omega)]
 have:=y2d (z0o b).length (z0n b) 0 [] (z4f b (z0o b) (all_used hb))
 rw [List.nil_append] at this
 exact this
end R11
namespace X10
open Go.RowKit Suf
theorem x0v:(Tryz.prog.info? 173).map (fun i=>(i.zero,i.size,i.bytes))=some (some (.agg #[.int .i64 0,.int .i64 0]),2,16):=by kernel_rfl
section
variable {P:Program} {md:Region.Mode} {ops:Array Oper} {Q:Exit→Act→World→Prop} {S S':World→Prop}
theorem z7t {oi:Oper} {v:Value} {fuel:Nat} {listed:Array Bool} {l:List Value} {df:List Deferred} {w:World} (i d:Nat) (hi:ops[i]?=some oi) (hd:oi.dst=some d)
  (hs:Region.noSelect ops=true) (hf:Region.free md ops listed i=true) (hr:(Region.ready md ops listed).contains i=true)
  (hw:Region.wanted oi (yielded ops l.toArray)=true) (hS:S w) (hQ:∀c a w,¬Q (.panic c) a w)
  (hy:∀x,S x→(execOp (Act.eval ⟨l.toArray,df⟩) oi).run P x=.ok (.value v) x)
  (h:wpAnyH P md ops Q S fuel (listed.setIfInBounds i true) ⟨(l.set d v).toArray,df⟩ w):wpAnyH P md ops Q S (fuel+1) listed ⟨l.toArray,df⟩ w:=by
 refine wpAnyH_take (i:=i) (v:=v) hi hs hf hr (fun c a w h=>absurd h (hQ _ _ _)) (Or.inl ⟨hw,hy⟩) hS ?_
 have e:Act.put (⟨l.toArray,df⟩:Act) oi.dst v=⟨(l.set d v).toArray,df⟩:=by rw [hd];simp [Act.put]
 rw [e]
 exact h
theorem hT {oi:Oper} {v:Value} {fuel:Nat} {listed:Array Bool} {l:List Value} {df:List Deferred} {w:World} (i d:Nat) (hi:ops[i]?=some oi) (hd:oi.dst=some d) (hS:S w) (hQ:∀c a w,¬Q (.panic c) a w) (hy:∀x,S x→(execOp (Act.eval ⟨l.toArray,df⟩) oi).run P x=.ok (.value v) x) (h:wpAnyH P md ops Q S fuel (listed.setIfInBounds i true) ⟨(l.set d v).toArray,df⟩ w) (hs:Region.noSelect ops=true:=by kernel_rfl) (hf:Region.free md ops listed i=true:=by kernel_rfl) (hr:(Region.ready md ops listed).contains i=true:=by kernel_rfl) (hw:Region.wanted oi (yielded ops l.toArray)=true:=by rfl):wpAnyH P md ops Q S (fuel+1) listed ⟨l.toArray,df⟩ w:=z7t i d hi hd hs hf hr hw hS hQ hy h
theorem z1f {o:Oper} {f:FuncId} {args:Array Value} {fuel:Nat} {listed:Array Bool} {l:List Value} {df:List Deferred} {w:World} (i d:Nat) (hr:Region.ready md ops listed=[i]) (hi:ops[i]?=some o) (hd:o.dst=some d)
  (hw:Region.wanted o (yielded ops l.toArray)=true) (hrun:(execOp (Act.eval ⟨l.toArray,df⟩) o).run P w=.ok (.enter f args) w)
  (h:Calls P f args w fun e w'=>∃v,e=.returned v∧S w'∧wpAnyH P md ops Q S fuel (listed.setIfInBounds i true) ⟨(l.set d v).toArray,df⟩ w'):wpAnyH P md ops Q S (fuel+1) listed ⟨l.toArray,df⟩ w:=by
 refine wpAnyH_ready hr (by simp) (AllReadyH.cons hi (fun K hK=>?_) AllReadyH.nil)
 rw [if_pos hw]
 unfold Oper.wp
 rw [hrun,Oper.upon_enter]
 refine h.mono ?_
 rintro e w' ⟨v,rfl,hS,h2⟩
 have e:Act.put (⟨l.toArray,df⟩:Act) o.dst v=⟨(l.set d v).toArray,df⟩:=by rw [hd];simp [Act.put]
 show K (Act.put ⟨l.toArray,df⟩ o.dst v) w'
 rw [e]
 exact hK.out _ _ hS (fun _=>h2)
end
theorem nPp {Q:Exit→Act→World→Prop} (c:List PanicEntry) (a:Act) (w:World):¬NoPanic Q (.panic c) a w:=fun h=>h
section
variable {P:Program} {md:Region.Mode} {ops:Array Oper} {Q:Exit→Act→World→Prop} {S:World→Prop}
theorem z0l {o:Oper} {v:Value} {fuel:Nat} {listed:Array Bool} {l:List Value} {df:List Deferred} {w w':World} {K:Act→World→Prop} (i d:Nat)
  (hK:Shut (∀a w,S w→(S w→wpAnyH P md ops Q S fuel (listed.setIfInBounds i true) a w)→K a w)) (hd:o.dst=some d)
  (hw:Region.wanted o (yielded ops l.toArray)=true) (hrun:(execOp (Act.eval ⟨l.toArray,df⟩) o).run P w=.ok (.value v) w') (hS:S w')
  (h:wpAnyH P md ops Q S fuel (listed.setIfInBounds i true) ⟨(l.set d v).toArray,df⟩ w') :
  if Region.wanted o (yielded ops (⟨l.toArray,df⟩:Act).tmps)=true then Oper.wp P o ⟨l.toArray,df⟩ w K Q else K ((⟨l.toArray,df⟩:Act).put o.dst undef) w:=by
 rw [if_pos hw]
 unfold Oper.wp
 rw [hrun,Oper.upon_value]
 have e:Act.put (⟨l.toArray,df⟩:Act) o.dst v=⟨(l.set d v).toArray,df⟩:=by rw [hd];simp [Act.put]
 rw [e]
 exact hK.out _ _ hS (fun _=>h)
theorem z1i {fuel:Nat} {listed:Array Bool} {a:Act} {w:World} {i j:Nat} {o1 o2:Oper} (hr:Region.ready md ops listed=[i,j]) (h1:ops[i]?=some o1) (h2:ops[j]?=some o2)
  (k1:∀K:Act→World→Prop,Shut (∀a w,S w→(S w→wpAnyH P md ops Q S fuel (listed.setIfInBounds i true) a w)→K a w)→if Region.wanted o1 (yielded ops a.tmps)=true then Oper.wp P o1 a w K Q else K (a.put o1.dst undef) w)
  (k2:∀K:Act→World→Prop,Shut (∀a w,S w→(S w→wpAnyH P md ops Q S fuel (listed.setIfInBounds j true) a w)→K a w)→if Region.wanted o2 (yielded ops a.tmps)=true then Oper.wp P o2 a w K Q else K (a.put o2.dst undef) w) :
  wpAnyH P md ops Q S (fuel+1) listed a w:=wpAnyH_ready hr (by simp) (AllReadyH.cons h1 k1 (AllReadyH.cons h2 k2 AllReadyH.nil))
theorem z5p {fuel:Nat} {listed:Array Bool} {a:Act} {w:World} {i j k:Nat} {o1 o2 o3:Oper} (hr:Region.ready md ops listed=[i,j,k]) (h1:ops[i]?=some o1) (h2:ops[j]?=some o2) (h3:ops[k]?=some o3)
  (k1:∀K:Act→World→Prop,Shut (∀a w,S w→(S w→wpAnyH P md ops Q S fuel (listed.setIfInBounds i true) a w)→K a w)→if Region.wanted o1 (yielded ops a.tmps)=true then Oper.wp P o1 a w K Q else K (a.put o1.dst undef) w)
  (k2:∀K:Act→World→Prop,Shut (∀a w,S w→(S w→wpAnyH P md ops Q S fuel (listed.setIfInBounds j true) a w)→K a w)→if Region.wanted o2 (yielded ops a.tmps)=true then Oper.wp P o2 a w K Q else K (a.put o2.dst undef) w)
  (k3:∀K:Act→World→Prop,Shut (∀a w,S w→(S w→wpAnyH P md ops Q S fuel (listed.setIfInBounds k true) a w)→K a w)→if Region.wanted o3 (yielded ops a.tmps)=true then Oper.wp P o3 a w K Q else K (a.put o3.dst undef) w) :
  wpAnyH P md ops Q S (fuel+1) listed a w:=wpAnyH_ready hr (by simp) (AllReadyH.cons h1 k1 (AllReadyH.cons h2 k2 (AllReadyH.cons h3 k3 AllReadyH.nil)))
theorem y0y {o:Oper} {v:Value} {fuel:Nat} {listed:Array Bool} {l:List Value} {df:List Deferred} {w w':World} (i d:Nat) (hr:Region.ready md ops listed=[i]) (hi:ops[i]?=some o) (hd:o.dst=some d)
  (hw:Region.wanted o (yielded ops l.toArray)=true) (hrun:(execOp (Act.eval ⟨l.toArray,df⟩) o).run P w=.ok (.value v) w') (hS:S w')
  (h:wpAnyH P md ops Q S fuel (listed.setIfInBounds i true) ⟨(l.set d v).toArray,df⟩ w'):wpAnyH P md ops Q S (fuel+1) listed ⟨l.toArray,df⟩ w :=
 wpAnyH_ready hr (by simp) (AllReadyH.cons hi (fun K hK=>z0l i d hK hd hw hrun hS h) AllReadyH.nil)
theorem z7s {o:Oper} {fuel:Nat} {listed:Array Bool} {a:Act} {w w':World} (i:Nat) (hr:Region.ready md ops listed=[i]) (hi:ops[i]?=some o) (hd:o.dst=none)
  (hw:Region.wanted o (yielded ops a.tmps)=true) (hrun:(execOp (Act.eval a) o).run P w=.ok .skip w') (hS:S w')
  (h:wpAnyH P md ops Q S fuel (listed.setIfInBounds i true) a w'):wpAnyH P md ops Q S (fuel+1) listed a w:=by
 refine wpAnyH_ready hr (by simp) (AllReadyH.cons hi (fun K hK=>?_) AllReadyH.nil)
 rw [if_pos hw]
 unfold Oper.wp
 rw [hrun,Oper.upon_skip]
 have e:Act.put a o.dst undef=a:=by rw [hd];rfl
 rw [e]
 exact hK.out _ _ hS (fun _=>h)
theorem hO {o:Oper} {v:Value} {fuel:Nat} {listed:Array Bool} {l:List Value} {df:List Deferred} {w w':World} (i d:Nat) (hi:ops[i]?=some o) (hd:o.dst=some d) (hrun:(execOp (Act.eval ⟨l.toArray,df⟩) o).run P w=.ok (.value v) w') (hS:S w') (h:wpAnyH P md ops Q S fuel (listed.setIfInBounds i true) ⟨(l.set d v).toArray,df⟩ w') (hr:Region.ready md ops listed=[i]:=by kernel_rfl) (hw:Region.wanted o (yielded ops l.toArray)=true:=by rfl):wpAnyH P md ops Q S (fuel+1) listed ⟨l.toArray,df⟩ w:=y0y i d hr hi hd hw hrun hS h
theorem hKk {o:Oper} {fuel:Nat} {listed:Array Bool} {a:Act} {w w':World} (i:Nat) (hi:ops[i]?=some o) (hd:o.dst=none) (hrun:(execOp (Act.eval a) o).run P w=.ok .skip w') (hS:S w') (h:wpAnyH P md ops Q S fuel (listed.setIfInBounds i true) a w') (hr:Region.ready md ops listed=[i]:=by kernel_rfl) (hw:Region.wanted o (yielded ops a.tmps)=true:=by rfl):wpAnyH P md ops Q S (fuel+1) listed a w:=z7s i hr hi hd hw hrun hS h
theorem z0u {o:Oper} {fuel:Nat} {listed:Array Bool} {l:List Value} {df:List Deferred} {w:World} (i d:Nat) (s x:Operand) (hr:Region.ready md ops listed=[i]) (hi:ops[i]?=some o) (hd:o.dst=some d)
  (hw:Region.wanted o (yielded ops l.toArray)=true) (ho:o.op=.call { callee:=.builtin .append,args:=#[s,x],argTypes:=#[169,169] }) (hP:P=Tryz.prog)
  (base:Nat) (v:Value) (n:Nat) (xs:List Value) (hs:Act.eval ⟨l.toArray,df⟩ s=v) (hown:w.ownsRow base 173 2 v n xs) (ad:Addr) (z1 z2:Int) (hx:Act.eval ⟨l.toArray,df⟩ x=.slice (some ad) 1 1)
  (hnew:∀ (j:Nat) u,[iv z1,iv z2][j]?=some u→w.cell? (ad.add j)=some u) (hb:n+1≤1000000000) (hbase:base≤w.heap.size) (H:Nat) (hH:w.heap.size=H) (hS:∀w',w.grownBy w' v.ownBlock→S w')
  (h:∀g cap w',w'.ownsRow base 173 2 (.slice (some ⟨g,0,none⟩) (n+1) cap) (n+1) (xs++[iv z1,iv z2])→w.grownBy w' v.ownBlock→(v.ownBlock=some g∨g=H)→g<w'.heap.size →
   wpAnyH P md ops Q S fuel (listed.setIfInBounds i true) ⟨(l.set d (.slice (some ⟨g,0,none⟩) (n+1) cap)).toArray,df⟩ w'):wpAnyH P md ops Q S (fuel+1) listed ⟨l.toArray,df⟩ w:=by
 subst hP
 obtain ⟨i0,hii,hz0,hz1,hz2⟩:=info_parts x0v
 refine wpAnyH_ready hr (by simp) (AllReadyH.cons hi (fun K hK=>?_) AllReadyH.nil)
 rw [if_pos hw]
 refine wp_append_lies w s x 169 ho base 173 i0 _ 2 16 Tryz.underlying169 hii hz0 hz1 hz2 rfl (by decide) v n xs hs hown ad 1 1 [iv z1,iv z2] hx rfl hnew (by intro u hu;simp at hu;rcases hu with rfl|rfl<;>rfl) (by omega) (by unfold maxLen;omega) (by omega) hbase H hH (fun g cap w' h1 h2 h3 h4=>?_)
 have e:Act.put (⟨l.toArray,df⟩:Act) o.dst (.slice (some ⟨g,0,none⟩) (n+1) cap)=⟨(l.set d (.slice (some ⟨g,0,none⟩) (n+1) cap)).toArray,df⟩:=by rw [hd];simp [Act.put]
 rw [e]
 exact hK.out _ _ (hS w' h2) (fun _=>h g cap w' h1 h2 h3 h4)
end
end X10
namespace X10.Suf
def LtR (b:List Nat) (i k:Nat):Prop:=∃m,(∀m',m'<m→tw b i m'=tw b k m')∧tw b i m<tw b k m
def EqTo (b:List Nat) (h i k:Nat):Prop:=∀m,m<h→tw b i m=tw b k m
theorem z4n (b:List Nat) (i h m:Nat):tw b ((i+h)%b.length) m=tw b i (h+m):=by
 unfold tw
 rw [Nat.mod_add_mod,Nat.add_assoc]
theorem LtR.shift {b:List Nat} {h i k:Nat} (he:EqTo b h i k) (hl:LtR b ((i+h)%b.length) ((k+h)%b.length)):LtR b i k:=by
 obtain ⟨m,h1,h2⟩:=hl
 rw [z4n,z4n] at h2
 refine ⟨h+m,fun m' hm'=>?_,h2⟩
 rcases Nat.lt_or_ge m' h with hlt|hge
 ·exact he m' hlt
 ·have:=h1 (m'-h) (by omega)
  rw [z4n,z4n,show h+(m'-h)=m' by omega] at this
  exact this
theorem EqTo.add {b:List Nat} {h h' i k:Nat} (he:EqTo b h i k) (hl:EqTo b h' ((i+h)%b.length) ((k+h)%b.length)):EqTo b (h+h') i k:=by
 intro m hm
 rcases Nat.lt_or_ge m h with hlt|hge
 ·exact he m hlt
 ·have:=hl (m-h) (by omega)
  rw [z4n,z4n,show h+(m-h)=m by omega] at this
  exact this
theorem LtR.ahead {b:List Nat} {i k:Nat} (h:LtR b i k) (hb:0<b.length):Ahead b i k:=by
 obtain ⟨m,h1,h2⟩:=h
 refine x4f ?_ h1 h2
 rcases Nat.lt_or_ge m b.length with hlt|hge
 ·exact hlt
 ·exfalso
  have hm:m%b.length<b.length:=Nat.mod_lt _ hb
  have:=h1 (m%b.length) (by omega)
  rw [y7k,y7k] at this
  omega
theorem EqTo.rot {b:List Nat} {h i k:Nat} (he:EqTo b h i k) (hn:b.length≤h):rot b i=rot b k:=x6k fun m hm=>he m (by omega)
structure Good (b:List Nat) (h:Nat) (p R:Nat→Nat):Prop where
 mem:∀r,r<b.length→p r<b.length
 inj:∀r s,r<b.length→s<b.length→p r=p s→r=s
 onto:∀i,i<b.length→∃r,r<b.length∧p r=i
 lt:∀i k,i<b.length→k<b.length→R i<R k→LtR b i k
 eq:∀i k,i<b.length→k<b.length→R i=R k→EqTo b h i k
 sorted:∀r s,r<s→s<b.length→R (p r)≤R (p s)
 fst:∀r,r<b.length→R (p r)≤r∧R (p (R (p r)))=R (p r)
def x8l (n:Nat) (p R:Nat→Nat) (g:Nat × Nat):Prop:=g.1<g.2∧g.2≤n∧∀r,g.1≤r→r<g.2→R (p r)=g.1
def Dis (g g':Nat × Nat):Prop:=g.2≤g'.1∨g'.2≤g.1
theorem Dis.symm {g g':Nat × Nat} (h:Dis g g'):Dis g' g:=by unfold Dis at *;omega
structure Grps (b:List Nat) (h:Nat) (p R:Nat→Nat) (T N:List (Nat × Nat)):Prop where
 good:Good b h p R
 grp:∀g,g∈T++N→x8l b.length p R g
 dis:(T++N).Pairwise Dis
 cov:∀r s,r<s→s<b.length→R (p r)=R (p s)→∃g,g∈T++N∧g.1≤r∧s<g.2
structure Perm (n:Nat) (p p':Nat→Nat) (a c:Nat):Prop where
 out:∀r,r<n→(r<a∨c≤r)→p' r=p r
 seg:∀r,a≤r→r<c→∃s,a≤s∧s<c∧p' r=p s
 back:∀r,a≤r→r<c→∃s,a≤s∧s<c∧p r=p' s
 inj:∀r s,r<n→s<n→p' r=p' s→r=s
theorem Grps.same_rank {b:List Nat} {h:Nat} {p p' R:Nat→Nat} {g:Nat × Nat} (hg:x8l b.length p R g) (hp:Perm b.length p p' g.1 g.2) (r:Nat) (hr:r<b.length):R (p' r)=R (p r):=by
 by_cases h1:g.1≤r∧r<g.2
 ·obtain ⟨s,s1,s2,e⟩:=hp.seg r h1.1 h1.2
  rw [e,hg.2.2 s s1 s2,hg.2.2 r h1.1 h1.2]
 ·rw [hp.out r hr (by omega)]
theorem Grps.perm {b:List Nat} {h:Nat} {p p' R:Nat→Nat} {T N:List (Nat × Nat)} {g:Nat × Nat} (H:Grps b h p R T N) (hg:x8l b.length p R g) (hp:Perm b.length p p' g.1 g.2):Grps b h p' R T N:=by
 have e:=Grps.same_rank (h:=h) hg hp
 refine ⟨⟨?_,hp.inj,?_,H.good.lt,H.good.eq,?_,?_⟩,?_,H.dis,?_⟩
 ·intro r hr
  by_cases h1:g.1≤r∧r<g.2
  ·obtain ⟨s,s1,s2,e⟩:=hp.seg r h1.1 h1.2
   rw [e]
   exact H.good.mem s (by have:=hg.2.1;omega)
  ·rw [hp.out r hr (by omega)]
   exact H.good.mem r hr
 ·intro i hi
  obtain ⟨r,hr,rfl⟩:=H.good.onto i hi
  by_cases h1:g.1≤r∧r<g.2
  ·obtain ⟨s,s1,s2,e⟩:=hp.back r h1.1 h1.2
   exact ⟨s,by have:=hg.2.1;omega,e.symm⟩
  ·exact ⟨r,hr,hp.out r hr (by omega)⟩
 ·intro r s hrs hs
  rw [e r (by omega),e s hs]
  exact H.good.sorted r s hrs hs
 ·intro r hr
  have h1:=H.good.fst r hr
  rw [e r hr,e (R (p r)) (by omega)]
  exact h1
 ·intro q hq
  have h1:=H.grp q hq
  refine ⟨h1.1,h1.2.1,fun r h2 h3=>?_⟩
  rw [e r (by have:=h1.2.1;omega)]
  exact h1.2.2 r h2 h3
 ·intro r s hrs hs he
  rw [e r (by omega),e s hs] at he
  exact H.cov r s hrs hs he
structure Cut (f p:Nat→Nat) (a c:Nat) (ps:List (Nat × Nat)):Prop where
 cov:∀r,a≤r→r<c→∃q,q∈ps∧q.1≤r∧r<q.2
 rng:∀q,q∈ps→a≤q.1∧q.1<q.2∧q.2≤c
 con:∀q,q∈ps→∀r,q.1≤r→r<q.2→f (p r)=f (p q.1)
 dif:∀q,q∈ps→a<q.1→f (p (q.1-1))≠f (p q.1)
 dis:ps.Pairwise fun q q'=>q.2≤q'.1
structure CutTo (f p:Nat→Nat) (a cur row:Nat) (ps:List (Nat × Nat)):Prop where
 cut:Cut f p a cur ps
 le:a≤cur∧cur<row
 con:∀r,cur≤r→r<row→f (p r)=f (p cur)
 dif:a<cur→f (p (cur-1))≠f (p cur)
theorem CutTo.start (f p:Nat→Nat) (a:Nat):CutTo f p a a (a+1) [] :=
 ⟨⟨fun r h1 h2=>by omega,fun q hq=>by simp at hq,fun q hq=>by simp at hq,fun q hq=>by simp at hq,List.Pairwise.nil⟩,by omega,fun r h1 h2=>by rw [show r=a by omega],fun h=>by omega⟩
theorem CutTo.push {f p:Nat→Nat} {a cur row:Nat} {ps:List (Nat × Nat)} (h:CutTo f p a cur row ps):Cut f p a row (ps++[(cur,row)]):=by
 have hle:=h.le
 refine ⟨fun r h1 h2=>?_,fun q hq=>?_,fun q hq=>?_,fun q hq=>?_,?_⟩
 ·rcases Nat.lt_or_ge r cur with h3|h3
  ·obtain ⟨q,hq,h4⟩:=h.cut.cov r h1 h3
   exact ⟨q,List.mem_append_left _ hq,h4⟩
  ·exact ⟨(cur,row),by simp,h3,h2⟩
 ·rcases List.mem_append.1 hq with hq|hq
  ·have:=h.cut.rng q hq
   omega
  ·simp at hq
   subst hq
   dsimp only
   omega
 ·rcases List.mem_append.1 hq with hq|hq
  ·exact h.cut.con q hq
  ·simp at hq
   subst hq
   exact h.con
 ·rcases List.mem_append.1 hq with hq|hq
  ·exact h.cut.dif q hq
  ·simp at hq
   subst hq
   exact h.dif
 ·rw [List.pairwise_append]
  refine ⟨h.cut.dis,by simp,fun q hq q' hq'=>?_⟩
  simp at hq'
  subst hq'
  exact (h.cut.rng q hq).2.2
theorem CutTo.next {f p:Nat→Nat} {a cur row:Nat} {ps:List (Nat × Nat)} (h:CutTo f p a cur row ps) (hd:f (p (row-1))≠f (p row)):CutTo f p a row (row+1) (ps++[(cur,row)]) :=
 ⟨h.push,by have:=h.le;omega,fun r h1 h2=>by rw [show r=row by omega],fun _=>hd⟩
theorem CutTo.keep {f p:Nat→Nat} {a cur row:Nat} {ps:List (Nat × Nat)} (h:CutTo f p a cur row ps) (hd:f (p (row-1))=f (p row)):CutTo f p a cur (row+1) ps:=by
 refine ⟨h.cut,by have:=h.le;omega,fun r h1 h2=>?_,h.dif⟩
 rcases Nat.lt_or_ge r row with h3|h3
 ·exact h.con r h1 h3
 ·obtain rfl:r=row:=by omega
  rw [←hd]
  exact h.con (r-1) (by have:=h.le;omega) (by have:=h.le;omega)
theorem Cut.lt {f p:Nat→Nat} {a c:Nat} {ps:List (Nat × Nat)} (h:Cut f p a c ps) (hs:∀r s,a≤r→r<s→s<c→f (p r)≤f (p s)) {q q':Nat × Nat} (hq:q∈ps) (hq':q'∈ps) {r s:Nat} (hr:q.1≤r∧r<q.2) (hs':q'.1≤s∧s<q'.2) (hlt:q.1<q'.1):f (p r)<f (p s):=by
 rw [h.con q hq r hr.1 hr.2,h.con q' hq' s hs'.1 hs'.2]
 have h1:=h.rng q hq
 have h2:=h.rng q' hq'
 have h3:=h.dif q' hq' (by omega)
 have h4:f (p (q'.1-1))≤f (p q'.1):=hs _ _ (by omega) (by omega) (by omega)
 have h5:f (p q.1)≤f (p (q'.1-1)):=by
  rcases Nat.lt_or_ge q.1 (q'.1-1) with h6|h6
  ·exact hs _ _ (by omega) h6 (by omega)
  ·rw [show q.1=q'.1-1 by omega]
   exact Nat.le_refl _
 omega
theorem Cut.same {f p:Nat→Nat} {a c:Nat} {ps:List (Nat × Nat)} (h:Cut f p a c ps) {q q':Nat × Nat} (hq:q∈ps) (hq':q'∈ps) {r s:Nat} (hr:q.1≤r∧r<q.2) (hs':q'.1≤s∧s<q'.2) (he:q.1=q'.1):f (p r)=f (p s):=by
 rw [h.con q hq r hr.1 hr.2,h.con q' hq' s hs'.1 hs'.2,he]
theorem Cut.one {f p:Nat→Nat} {a c:Nat} {ps:List (Nat × Nat)} (h:Cut f p a c ps) {q q':Nat × Nat} (hq:q∈ps) (hq':q'∈ps) (he:q.1=q'.1):q=q':=by
 have key:∀ (l:List (Nat × Nat)),l.Pairwise (fun q q'=>q.2≤q'.1)→(∀x∈l,x.1<x.2)→q∈l→q'∈l→q=q':=by
  intro l
  induction l with
  | nil=>intro _ _ h;simp at h
  | cons x l ih =>
   intro hp hx h1 h2
   rw [List.pairwise_cons] at hp
   rw [List.mem_cons] at h1 h2
   rcases h1 with rfl|h1<;>rcases h2 with rfl|h2
   ·rfl
   ·have:=hp.1 _ h2
    have:=hx q (List.mem_cons_self ..)
    omega
   ·have:=hp.1 _ h1
    have:=hx q' (List.mem_cons_self ..)
    omega
   ·exact ih hp.2 (fun y hy=>hx y (List.mem_cons_of_mem _ hy)) h1 h2
 exact key ps h.dis (fun x hx=>(h.rng x hx).2.1) hq hq'
structure Ranked (n:Nat) (p R R':Nat→Nat) (a c:Nat) (ps:List (Nat × Nat)):Prop where
 new:∀q,q∈ps→∀r,q.1≤r→r<q.2→R' (p r)=q.1
 old:∀x,x<n→(∀r,a≤r→r<c→p r≠x)→R' x=R x
def wide (ps:List (Nat × Nat)):List (Nat × Nat):=ps.filter fun q=>decide (1<q.2-q.1)
theorem z2i {ps:List (Nat × Nat)} {q:Nat × Nat}:q∈wide ps↔q∈ps∧1<q.2-q.1:=by
 unfold wide
 rw [List.mem_filter,decide_eq_true_iff]
end X10.Suf
namespace X10.Suf
theorem Grps.dis_of {b:List Nat} {h:Nat} {p R:Nat→Nat} {T N:List (Nat × Nat)} {g g':Nat × Nat} (H:Grps b h p R (g :: T) N) (hg':g'∈T++N):Dis g g':=by
 have:=H.dis
 rw [List.cons_append,List.pairwise_cons] at this
 exact this.1 g' hg'
theorem Grps.beside {b:List Nat} {h:Nat} {p R:Nat→Nat} {T N:List (Nat × Nat)} {g:Nat × Nat} (H:Grps b h p R (g :: T) N) (s:Nat) (hs:s<b.length):(s<g.1→R (p s)<g.1)∧(g.2≤s→g.2≤R (p s)):=by
 have hg:=H.grp g (by simp)
 constructor
 ·intro h1
  have:=(H.good.fst s hs).1
  omega
 ·intro h1
  have h2:g.1≤R (p s):=by
   have:=H.good.sorted g.1 s (by have:=hg.1;omega) hs
   rw [hg.2.2 g.1 (Nat.le_refl _) hg.1] at this
   exact this
  rcases Nat.lt_or_ge (R (p s)) g.2 with h3|h3
  ·exfalso
   have h4:=hg.2.2 (R (p s)) h2 h3
   rw [(H.good.fst s hs).2] at h4
   obtain ⟨g',hg',h5,h6⟩:=H.cov g.1 s (by have:=hg.1;omega) hs (by rw [h4];exact hg.2.2 g.1 (Nat.le_refl _) hg.1)
   rw [List.cons_append,List.mem_cons] at hg'
   rcases hg' with rfl|hg'
   ·omega
   ·have:=H.dis_of hg'
    unfold Dis at this
    have:=hg.1
    omega
  ·exact h3
theorem Grps.part {b:List Nat} {h:Nat} {p R R' f:Nat→Nat} {T N ps:List (Nat × Nat)} {g:Nat × Nat} (H:Grps b h p R (g :: T) N) (hs:∀r s,g.1≤r→r<s→s<g.2→f (p r)≤f (p s))
  (hf:∀r s,g.1≤r→r<g.2→g.1≤s→s<g.2→f (p r)<f (p s)→LtR b (p r) (p s)) (hc:Cut f p g.1 g.2 ps) (hr:Ranked b.length p R R' g.1 g.2 ps):Grps b h p R' T (N++wide ps):=by
 have hg:=H.grp g (by simp)
 have hg2:=hg.2.1
 have G:=H.good
 have hin:∀r,g.1≤r→r<g.2→∃q,q∈ps∧(q.1≤r∧r<q.2)∧R' (p r)=q.1∧g.1≤q.1∧q.2≤g.2:=fun r h1 h2=>by
  obtain ⟨q,hq,h3,h4⟩:=hc.cov r h1 h2
  have:=hc.rng q hq
  exact ⟨q,hq,⟨h3,h4⟩,hr.new q hq r h3 h4,by omega,by omega⟩
 have hout:∀r,r<b.length→(r<g.1∨g.2≤r)→R' (p r)=R (p r):=fun r h1 h2=>hr.old (p r) (G.mem r h1) fun r' h3 h4 e=>by
  have:=G.inj r' r (by omega) h1 e
  omega
 have hbs:=H.beside
 have hgd:Good b h p R':=by
  refine ⟨G.mem,G.inj,G.onto,?_,?_,?_,?_⟩
  ·intro i k hi hk hlt
   obtain ⟨r,hr1,rfl⟩:=G.onto i hi
   obtain ⟨s,hs1,rfl⟩:=G.onto k hk
   by_cases c1:g.1≤r∧r<g.2<;>by_cases c2:g.1≤s∧s<g.2
   ·obtain ⟨q,hq,hqr,e1,_,_⟩:=hin r c1.1 c1.2
    obtain ⟨q',hq',hqs,e2,_,_⟩:=hin s c2.1 c2.2
    rw [e1,e2] at hlt
    exact hf r s c1.1 c1.2 c2.1 c2.2 (hc.lt hs hq hq' hqr hqs hlt)
   ·obtain ⟨q,hq,hqr,e1,h1,h2⟩:=hin r c1.1 c1.2
    rw [e1,hout s hs1 (by omega)] at hlt
    have h3:=hbs s hs1
    refine G.lt _ _ hi hk ?_
    rw [hg.2.2 r c1.1 c1.2]
    omega
   ·obtain ⟨q,hq,hqr,e1,h1,h2⟩:=hin s c2.1 c2.2
    rw [e1,hout r hr1 (by omega)] at hlt
    have h3:=hbs r hr1
    refine G.lt _ _ hi hk ?_
    rw [hg.2.2 s c2.1 c2.2]
    omega
   ·rw [hout r hr1 (by omega),hout s hs1 (by omega)] at hlt
    exact G.lt _ _ hi hk hlt
  ·intro i k hi hk he
   obtain ⟨r,hr1,rfl⟩:=G.onto i hi
   obtain ⟨s,hs1,rfl⟩:=G.onto k hk
   refine G.eq _ _ hi hk ?_
   by_cases c1:g.1≤r∧r<g.2<;>by_cases c2:g.1≤s∧s<g.2
   ·rw [hg.2.2 r c1.1 c1.2,hg.2.2 s c2.1 c2.2]
   ·obtain ⟨q,hq,hqr,e1,h1,h2⟩:=hin r c1.1 c1.2
    rw [e1,hout s hs1 (by omega)] at he
    have h3:=hbs s hs1
    omega
   ·obtain ⟨q,hq,hqr,e1,h1,h2⟩:=hin s c2.1 c2.2
    rw [e1,hout r hr1 (by omega)] at he
    have h3:=hbs r hr1
    omega
   ·rw [hout r hr1 (by omega),hout s hs1 (by omega)] at he
    exact he
  ·intro r s hrs hs1
   have hr1:r<b.length:=by omega
   by_cases c1:g.1≤r∧r<g.2<;>by_cases c2:g.1≤s∧s<g.2
   ·obtain ⟨q,hq,hqr,e1,_,_⟩:=hin r c1.1 c1.2
    obtain ⟨q',hq',hqs,e2,_,_⟩:=hin s c2.1 c2.2
    rw [e1,e2]
    rcases Nat.lt_or_ge q'.1 q.1 with h1|h1
    ·have:=hc.lt hs hq' hq hqs hqr h1
     have:=hs r s c1.1 hrs c2.2
     omega
    ·exact h1
   ·obtain ⟨q,hq,hqr,e1,h1,h2⟩:=hin r c1.1 c1.2
    rw [e1,hout s hs1 (by omega)]
    have h3:=hbs s hs1
    omega
   ·obtain ⟨q,hq,hqr,e1,h1,h2⟩:=hin s c2.1 c2.2
    rw [e1,hout r hr1 (by omega)]
    have h3:=hbs r hr1
    omega
   ·rw [hout r hr1 (by omega),hout s hs1 (by omega)]
    exact G.sorted r s hrs hs1
  ·intro r hr1
   by_cases c1:g.1≤r∧r<g.2
   ·obtain ⟨q,hq,hqr,e1,h1,h2⟩:=hin r c1.1 c1.2
    rw [e1]
    exact ⟨hqr.1,hr.new q hq q.1 (Nat.le_refl _) (hc.rng q hq).2.1⟩
   ·have h3:=hbs r hr1
    have h4:=G.fst r hr1
    rw [hout r hr1 (by omega),hout (R (p r)) (by omega) (by omega)]
    exact h4
 refine ⟨hgd,?_,?_,?_⟩
 ·intro g' hg'
  rw [←List.append_assoc,List.mem_append] at hg'
  rcases hg' with hg'|hg'
  ·have h1:=H.grp g' (by rw [List.cons_append];exact List.mem_cons_of_mem _ hg')
   have h2:=H.dis_of hg'
   unfold Dis at h2
   refine ⟨h1.1,h1.2.1,fun r h3 h4=>?_⟩
   rw [hout r (by have:=h1.2.1;omega) (by omega)]
   exact h1.2.2 r h3 h4
  ·have h1:=hc.rng g' (z2i.1 hg').1
   exact ⟨h1.2.1,by omega,hr.new g' (z2i.1 hg').1⟩
 ·rw [←List.append_assoc,List.pairwise_append]
  have h1:=H.dis
  rw [List.cons_append,List.pairwise_cons] at h1
  refine ⟨h1.2,(hc.dis.imp fun h=>.inl h).filter _,fun g' hg' q hq=>?_⟩
  have h2:=h1.1 g' hg'
  have h3:=hc.rng q (z2i.1 hq).1
  unfold Dis at *
  omega
 ·intro r s hrs hs1 he
  have hr1:r<b.length:=by omega
  by_cases c1:g.1≤r∧r<g.2<;>by_cases c2:g.1≤s∧s<g.2
  ·obtain ⟨q,hq,hqr,e1,_,_⟩:=hin r c1.1 c1.2
   obtain ⟨q',hq',hqs,e2,_,_⟩:=hin s c2.1 c2.2
   rw [e1,e2] at he
   have:=hc.one hq hq' he
   subst this
   exact ⟨q,by simp [z2i,hq];omega,hqr.1,hqs.2⟩
  ·obtain ⟨q,hq,hqr,e1,h1,h2⟩:=hin r c1.1 c1.2
   rw [e1,hout s hs1 (by omega)] at he
   have h3:=hbs s hs1
   omega
  ·obtain ⟨q,hq,hqr,e1,h1,h2⟩:=hin s c2.1 c2.2
   rw [e1,hout r hr1 (by omega)] at he
   have h3:=hbs r hr1
   omega
  ·rw [hout r hr1 (by omega),hout s hs1 (by omega)] at he
   obtain ⟨g',hg',h1,h2⟩:=H.cov r s hrs hs1 he
   rw [List.cons_append,List.mem_cons] at hg'
   rcases hg' with rfl|hg'
   ·omega
   ·exact ⟨g',by rw [←List.append_assoc];exact List.mem_append_left _ hg',h1,h2⟩
structure Mid (b:List Nat) (h:Nat) (R0 p R:Nat→Nat) (T N:List (Nat × Nat)) (parted:Bool):Prop where
 grps:Grps b h p R T N
 new:∀g,g∈N→∀r s,g.1≤r→r<g.2→g.1≤s→s<g.2→EqTo b (h+h) (p r) (p s)
 same:parted=false→(∀i,i<b.length→R i=R0 i)∧∀g,g∈N→∀r s,g.1≤r→r<g.2→g.1≤s→s<g.2→R0 ((p r+h)%b.length)=R0 ((p s+h)%b.length)
theorem Mid.step {b:List Nat} {h:Nat} {R0 p p' R R':Nat→Nat} {T N ps:List (Nat × Nat)} {g:Nat × Nat} {parted:Bool} (H:Mid b h R0 p R (g :: T) N parted) (hp:Perm b.length p p' g.1 g.2)
  (hs:∀r s,g.1≤r→r<s→s<g.2→R ((p' r+h)%b.length)≤R ((p' s+h)%b.length)) (hc:Cut (fun x=>R ((x+h)%b.length)) p' g.1 g.2 ps) (hr:Ranked b.length p' R R' g.1 g.2 ps):Mid b h R0 p' R' T (N++wide ps) (decide (1<ps.length) || parted):=by
 have hg:=H.grps.grp g (by simp)
 have hg1:=hg.1
 have hg2:=hg.2.1
 have H':=H.grps.perm hg hp
 have hg':=H'.grp g (by simp)
 have hb:0<b.length:=by omega
 have hm:∀x,x%b.length<b.length:=fun x=>Nat.mod_lt _ hb
 have hN:∀g',g'∈N→∀r,g'.1≤r→r<g'.2→p' r=p r:=fun g' hg' r h1 h2=>by
  have h3:=H.grps.dis_of (List.mem_append_right T hg')
  have h4:=(H.grps.grp g' (by simp [hg'])).2.1
  unfold Dis at h3
  exact hp.out r (by omega) (by omega)
 have hq:∀q,q∈ps→∀r s,q.1≤r→r<q.2→q.1≤s→s<q.2→R ((p' r+h)%b.length)=R ((p' s+h)%b.length):=fun q hq r s h1 h2 h3 h4=>hc.same hq hq ⟨h1,h2⟩ ⟨h3,h4⟩ rfl
 refine ⟨H'.part hs ?_ hc hr,?_,?_⟩
 ·intro r s h1 h2 h3 h4 hlt
  exact LtR.shift (H'.good.eq _ _ (H'.good.mem r (by omega)) (H'.good.mem s (by omega)) (by rw [hg'.2.2 r h1 h2,hg'.2.2 s h3 h4])) (H'.good.lt _ _ (hm _) (hm _) hlt)
 ·intro q hq1 r s h1 h2 h3 h4
  rcases List.mem_append.1 hq1 with hq1|hq1
  ·rw [hN q hq1 r h1 h2,hN q hq1 s h3 h4]
   exact H.new q hq1 r s h1 h2 h3 h4
  ·have hq2:=(z2i.1 hq1).1
   have hrg:=hc.rng q hq2
   exact (H'.good.eq _ _ (H'.good.mem r (by omega)) (H'.good.mem s (by omega)) (by rw [hg'.2.2 r (by omega) (by omega),hg'.2.2 s (by omega) (by omega)])).add (H'.good.eq _ _ (hm _) (hm _) (hq q hq2 r s h1 h2 h3 h4))
 ·intro hpt
  rw [Bool.or_eq_false_iff,decide_eq_false_iff_not] at hpt
  obtain ⟨e1,e2⟩:=H.same hpt.2
  have hR:∀i,i<b.length→R' i=R i:=by
   obtain ⟨q,hq1,hq2,hq3⟩:=hc.cov g.1 (Nat.le_refl _) hg1
   have hrg:=hc.rng q hq1
   have hall:∀r,g.1≤r→r<g.2→R' (p' r)=g.1:=fun r h1 h2=>by
    obtain ⟨q',hq1',hq2',hq3'⟩:=hc.cov r h1 h2
    have:q'=q:=by
     match ps,hpt.1,hq1,hq1' with
     | [x],_,hx,hx'=>simp at hx hx';rw [hx,hx']
     | x :: y :: l,hlen,_,_=>exact absurd (by simp) hlen
    subst this
    rw [hr.new q' hq1' r hq2' hq3']
    omega
   intro i hi
   obtain ⟨r,hr1,rfl⟩:=H'.good.onto i hi
   by_cases c:g.1≤r∧r<g.2
   ·rw [hall r c.1 c.2,hg'.2.2 r c.1 c.2]
   ·refine hr.old _ hi fun r' h1 h2 e=>?_
    have:=H'.good.inj r' r (by omega) hr1 e
    omega
  refine ⟨fun i hi=>by rw [hR i hi,e1 i hi],fun q hq1 r s h1 h2 h3 h4=>?_⟩
  rcases List.mem_append.1 hq1 with hq1|hq1
  ·rw [hN q hq1 r h1 h2,hN q hq1 s h3 h4]
   exact e2 q hq1 r s h1 h2 h3 h4
  ·rw [←e1 _ (hm _),←e1 _ (hm _)]
   exact hq q (z2i.1 hq1).1 r s h1 h2 h3 h4
theorem Mid.start {b:List Nat} {h:Nat} {p R:Nat→Nat} {T:List (Nat × Nat)} (H:Grps b h p R T []):Mid b h R p R T [] false :=
 ⟨H,fun g hg=>by simp at hg,fun _=>⟨fun _ _=>rfl,fun g hg=>by simp at hg⟩⟩
theorem Good.more {b:List Nat} {h h':Nat} {p R:Nat→Nat} (G:Good b h p R) (he:∀i k,i<b.length→k<b.length→R i=R k→EqTo b h' i k):Good b h' p R:=⟨G.mem,G.inj,G.onto,G.lt,he,G.sorted,G.fst⟩
theorem Mid.pair {b:List Nat} {h:Nat} {R0 p R:Nat→Nat} {N:List (Nat × Nat)} {parted:Bool} (H:Mid b h R0 p R [] N parted) (i k:Nat) (hi:i<b.length) (hk:k<b.length) (he:R i=R k):i=k∨∃g,g∈N∧∃r s,g.1≤r∧r<g.2∧g.1≤s∧s<g.2∧p r=i∧p s=k:=by
 obtain ⟨r,hr1,rfl⟩:=H.grps.good.onto i hi
 obtain ⟨s,hs1,rfl⟩:=H.grps.good.onto k hk
 rcases Nat.lt_trichotomy r s with h1|h1|h1
 ·obtain ⟨g,hg,h2,h3⟩:=H.grps.cov r s h1 hs1 he
  exact .inr ⟨g,by simpa using hg,r,s,h2,by omega,by omega,h3,rfl,rfl⟩
 ·subst h1;exact .inl rfl
 ·obtain ⟨g,hg,h2,h3⟩:=H.grps.cov s r h1 hr1 he.symm
  exact .inr ⟨g,by simpa using hg,r,s,by omega,h3,h2,by omega,rfl,rfl⟩
theorem Mid.done {b:List Nat} {h:Nat} {R0 p R:Nat→Nat} {N:List (Nat × Nat)} {parted:Bool} (H:Mid b h R0 p R [] N parted):Grps b (h+h) p R N []:=by
 refine ⟨H.grps.good.more fun i k hi hk he=>?_,fun g hg=>H.grps.grp g (by simpa using hg),by simpa using H.grps.dis,fun r s h1 h2 h3=>by simpa using H.grps.cov r s h1 h2 h3⟩
 rcases H.pair i k hi hk he with rfl|⟨g,hg,r,s,h1,h2,h3,h4,rfl,rfl⟩
 ·exact fun m _=>rfl
 ·exact H.new g hg r s h1 h2 h3 h4
theorem Mid.like {b:List Nat} {h:Nat} {R0 p R:Nat→Nat} {N:List (Nat × Nat)} (H:Mid b h R0 p R [] N false) (hh:0<h) (i k:Nat) (hi:i<b.length) (hk:k<b.length) (he:R i=R k):rot b i=rot b k:=by
 have hb:0<b.length:=by omega
 have hm:∀x,x%b.length<b.length:=fun x=>Nat.mod_lt _ hb
 obtain ⟨e1,e2⟩:=H.same rfl
 have key:∀j i k,i<b.length→k<b.length→R i=R k→EqTo b (j*h) i k:=by
  intro j
  induction j with
  | zero=>intro i k _ _ _ m hm;omega
  | succ j ih =>
   intro i k hi hk he
   rw [Nat.add_mul,Nat.one_mul,Nat.add_comm]
   refine (H.grps.good.eq i k hi hk he).add (ih _ _ (hm _) (hm _) ?_)
   rcases H.pair i k hi hk he with rfl|⟨g,hg,r,s,h1,h2,h3,h4,rfl,rfl⟩
   ·rfl
   ·rw [e1 _ (hm _),e1 _ (hm _)]
    exact e2 g hg r s h1 h2 h3 h4
 exact (key b.length i k hi hk he).rot (Nat.le_mul_of_pos_right _ hh)
structure Fin' (b:List Nat) (p R:Nat→Nat) (T N:List (Nat × Nat)):Prop where
 grps:∃h,Grps b h p R T N
 like:∀i k,i<b.length→k<b.length→R i=R k→rot b i=rot b k
 asc:∀g,g∈N→∀r s,g.1≤r→r<s→s<g.2→p r<p s
theorem Fin'.step {b:List Nat} {p p' R:Nat→Nat} {T N:List (Nat × Nat)} {g:Nat × Nat} (H:Fin' b p R (g :: T) N) (hp:Perm b.length p p' g.1 g.2) (ha:∀r s,g.1≤r→r<s→s<g.2→p' r<p' s):Fin' b p' R T (N++[g]):=by
 obtain ⟨h,H1⟩:=H.grps
 have hg:=H1.grp g (by simp)
 have H2:=H1.perm hg hp
 have hN:∀g',g'∈N→∀r,g'.1≤r→r<g'.2→p' r=p r:=fun g' hg' r h1 h2=>by
  have h3:=H1.dis_of (List.mem_append_right T hg')
  have h4:=(H1.grp g' (by simp [hg'])).2.1
  unfold Dis at h3
  exact hp.out r (by omega) (by omega)
 have hpm:(T++(N++[g])).Perm ((g :: T)++N):=by
  rw [←List.append_assoc,List.cons_append]
  exact List.perm_append_singleton g (T++N)
 refine ⟨⟨h,H2.good,fun g' hg'=>H2.grp g' (hpm.mem_iff.1 hg'),(hpm.pairwise_iff (fun h=>Dis.symm h)).2 H2.dis,fun r s h1 h2 h3=>?_⟩,H.like,fun g' hg' r s h1 h2 h3=>?_⟩
 ·obtain ⟨q,hq,h4⟩:=H2.cov r s h1 h2 h3
  exact ⟨q,hpm.mem_iff.2 hq,h4⟩
 ·rcases List.mem_append.1 hg' with hg'|hg'
  ·rw [hN g' hg' r h1 (by omega),hN g' hg' s (by omega) h3]
   exact H.asc g' hg' r s h1 h2 h3
  ·simp at hg'
   subst hg'
   exact ha r s h1 h2 h3
theorem Fin'.rows {b:List Nat} {p R:Nat→Nat} {N:List (Nat × Nat)} (H:Fin' b p R [] N):IsRows b ((List.range b.length).map p):=by
 obtain ⟨h,H1⟩:=H.grps
 have G:=H1.good
 have hpw:((List.range b.length).map p).Pairwise (Ahead b):=by
  rw [List.pairwise_map]
  refine List.Pairwise.imp_of_mem ?_ (List.pairwise_lt_range (n:=b.length))
  intro r s hr hs hrs
  have hr:=List.mem_range.1 hr
  have hs:=List.mem_range.1 hs
  rcases Nat.lt_or_ge (R (p r)) (R (p s)) with h1|h1
  ·exact (G.lt _ _ (G.mem r hr) (G.mem s hs) h1).ahead (by omega)
  ·have h2:=G.sorted r s hrs hs
   have h3:R (p r)=R (p s):=by omega
   obtain ⟨g,hg,h4,h5⟩:=H1.cov r s hrs hs h3
   have e:=H.like _ _ (G.mem r hr) (G.mem s hs) h3
   exact ⟨by rw [e];exact List.le_refl _,fun _=>H.asc g (by simpa using hg) r s h4 hrs h5⟩
 refine ⟨?_,hpw⟩
 rw [List.perm_ext_iff_of_nodup]
 ·intro i
  rw [List.mem_map,List.mem_range]
  constructor
  ·rintro ⟨r,hr,rfl⟩
   exact G.mem r (List.mem_range.1 hr)
  ·intro hi
   obtain ⟨r,hr,e⟩:=G.onto i hi
   exact ⟨r,List.mem_range.2 hr,e⟩
 ·rw [List.nodup_iff_pairwise_ne]
  refine hpw.imp ?_
  rintro i k hik rfl
  exact y2n hik
 ·exact List.nodup_range
theorem Grps.begin {b:List Nat} {h:Nat} {p R R' f:Nat→Nat} {ps:List (Nat × Nat)} (hmem:∀r,r<b.length→p r<b.length) (hinj:∀r s,r<b.length→s<b.length→p r=p s→r=s) (honto:∀i,i<b.length→∃r,r<b.length∧p r=i)
  (hs:∀r s,r<s→s<b.length→f (p r)≤f (p s)) (hlt:∀i k,i<b.length→k<b.length→f i<f k→LtR b i k) (heq:∀i k,i<b.length→k<b.length→f i=f k→EqTo b h i k) (hc:Cut f p 0 b.length ps) (hr:Ranked b.length p R R' 0 b.length ps):Grps b h p R' (wide ps) []:=by
 have hin:∀r,r<b.length→∃q,q∈ps∧(q.1≤r∧r<q.2)∧R' (p r)=q.1:=fun r h2=>by
  obtain ⟨q,hq,h3,h4⟩:=hc.cov r (Nat.zero_le _) h2
  exact ⟨q,hq,⟨h3,h4⟩,hr.new q hq r h3 h4⟩
 have hs':∀r s,0≤r→r<s→s<b.length→f (p r)≤f (p s):=fun r s _ h1 h2=>hs r s h1 h2
 refine ⟨⟨hmem,hinj,honto,?_,?_,?_,?_⟩,?_,?_,?_⟩
 ·intro i k hi hk h1
  obtain ⟨r,hr1,rfl⟩:=honto i hi
  obtain ⟨s,hs1,rfl⟩:=honto k hk
  obtain ⟨q,hq,hqr,e1⟩:=hin r hr1
  obtain ⟨q',hq',hqs,e2⟩:=hin s hs1
  rw [e1,e2] at h1
  exact hlt _ _ hi hk (hc.lt hs' hq hq' hqr hqs h1)
 ·intro i k hi hk h1
  obtain ⟨r,hr1,rfl⟩:=honto i hi
  obtain ⟨s,hs1,rfl⟩:=honto k hk
  obtain ⟨q,hq,hqr,e1⟩:=hin r hr1
  obtain ⟨q',hq',hqs,e2⟩:=hin s hs1
  rw [e1,e2] at h1
  exact heq _ _ hi hk (hc.same hq hq' hqr hqs h1)
 ·intro r s hrs hs1
  obtain ⟨q,hq,hqr,e1⟩:=hin r (by omega)
  obtain ⟨q',hq',hqs,e2⟩:=hin s hs1
  rw [e1,e2]
  rcases Nat.lt_or_ge q'.1 q.1 with h1|h1
  ·have:=hc.lt hs' hq' hq hqs hqr h1
   have:=hs r s hrs hs1
   omega
  ·exact h1
 ·intro r hr1
  obtain ⟨q,hq,hqr,e1⟩:=hin r hr1
  rw [e1]
  exact ⟨hqr.1,hr.new q hq q.1 (Nat.le_refl _) (hc.rng q hq).2.1⟩
 ·intro q hq
  rw [List.append_nil] at hq
  have h1:=hc.rng q (z2i.1 hq).1
  exact ⟨h1.2.1,h1.2.2,hr.new q (z2i.1 hq).1⟩
 ·rw [List.append_nil]
  exact (hc.dis.imp fun h=>.inl h).filter _
 ·intro r s hrs hs1 he
  obtain ⟨q,hq,hqr,e1⟩:=hin r (by omega)
  obtain ⟨q',hq',hqs,e2⟩:=hin s hs1
  rw [e1,e2] at he
  have:=hc.one hq hq' he
  subst this
  exact ⟨q,by simp [z2i,hq];omega,hqr.1,hqs.2⟩
theorem Fin'.of {b:List Nat} {h:Nat} {p R:Nat→Nat} {T:List (Nat × Nat)} (H:Grps b h p R T []) (hl:∀i k,i<b.length→k<b.length→R i=R k→rot b i=rot b k):Fin' b p R T []:=⟨⟨h,H⟩,hl,fun g hg=>by simp at hg⟩
end X10.Suf
namespace X10.Suf
def key (b:List Nat) (i:Nat):Nat→Nat
 | 0=>0
 | j+1=>key b i j*256+tw b i j
theorem z5l {b:List Nat} (hb:∀z∈b,z<256) (i m:Nat):tw b i m<256:=by
 unfold tw
 rcases Nat.lt_or_ge ((i+m)%b.length) b.length with h|h
 ·exact hb _ (getD_mem h)
 ·rw [List.getD_eq_getElem?_getD,List.getElem?_eq_none h]
  exact Nat.zero_lt_succ _
theorem x1a {b:List Nat} (hb:∀z∈b,z<256) (i k:Nat):∀j,key b i j=key b k j→EqTo b j i k
 | 0,_=>fun m hm=>by omega
 | j+1,h=>by
  have h1:=z5l hb i j
  have h2:=z5l hb k j
  unfold key at h
  have h3:=x1a hb i k j (by omega)
  intro m hm
  rcases Nat.lt_or_ge m j with h4|h4
  ·exact h3 m h4
  ·rw [show m=j by omega]
   omega
theorem x7y {b:List Nat} (hb:∀z∈b,z<256) (i k:Nat):∀j,key b i j<key b k j→LtR b i k
 | 0,h=>by unfold key at h;omega
 | j+1,h=>by
  have h1:=z5l hb i j
  have h2:=z5l hb k j
  unfold key at h
  rcases Nat.lt_or_ge (key b i j) (key b k j) with h3|h3
  ·exact x7y hb i k j h3
  ·exact ⟨j,x1a hb i k j (by omega),by omega⟩
theorem z5c {b:List Nat} (hb:∀z∈b,z<256) (i:Nat):∀j,key b i j<256^j
 | 0=>by unfold key;exact Nat.zero_lt_succ _
 | j+1=>by
  have h1:=z5l hb i j
  have h2:=z5c hb i j
  unfold key
  rw [Nat.pow_succ]
  omega
def dig (F:Nat→Nat) (i x:Nat):Nat:=F x/256^i%256
theorem y2v (F:Nat→Nat) (i x:Nat):dig F i x<256:=Nat.mod_lt _ (by omega)
def rad (F:Nat→Nat) (n:Nat):Nat→List Nat
 | 0=>List.range n
 | i+1=>bys (dig F i) (rad F n i) 256
theorem z8p (F:Nat→Nat) (n:Nat):∀i,(rad F n i).Nodup
 | 0=>List.nodup_range
 | i+1=>y2p _ (z8p F n i) _
theorem z4k (F:Nat→Nat) (n:Nat):∀i,(rad F n i).Perm (List.range n)
 | 0=>List.Perm.refl _
 | i+1=>(y6e _ (z8p F n i) fun x _=>y2v F i x).trans (z4k F n i)
theorem x2p (F:Nat→Nat) (n i:Nat):(rad F n i).length=n:=by rw [(z4k F n i).length_eq,List.length_range]
theorem y0f (F:Nat→Nat) (n:Nat):∀i,(rad F n i).Pairwise fun x y=>F x%256^i≤F y%256^i
 | 0=>by
  refine List.Pairwise.imp ?_ (List.pairwise_lt_range (n:=n))
  intro x y _
  rw [Nat.pow_zero,Nat.mod_one,Nat.mod_one]
  exact Nat.le_refl _
 | i+1=>by
  refine (z9p (dig F i) (y0f F n i) 256).imp ?_
  intro x y h
  unfold dig at h
  rw [Nat.pow_succ,Nat.mod_mul,Nat.mod_mul]
  have hx:F x%256^i<256^i:=Nat.mod_lt _ (Nat.pow_pos (by omega))
  rcases h with h|⟨h1,h2⟩
  ·have:=Nat.mul_le_mul_left (256^i) (show F x/256^i%256+1≤F y/256^i%256 by omega)
   rw [Nat.mul_add,Nat.mul_one] at this
   omega
  ·rw [h1]
   omega
theorem x9s {F:Nat→Nat} {n:Nat} (hF:∀x,x<n→F x<4294967296):∀r s,r<s→s<n→F ((rad F n 4).getD r 0)≤F ((rad F n 4).getD s 0):=by
 intro r s hrs hs
 have hl:=x2p F n 4
 have hp:=List.pairwise_iff_getElem.1 (y0f F n 4) r s (by omega) (by omega) hrs
 have e:∀q (hq:q<n),(rad F n 4).getD q 0=(rad F n 4)[q]'(by omega):=fun q hq=>by simp [List.getD_eq_getElem?_getD,List.getElem?_eq_getElem (show q<(rad F n 4).length by omega)]
 have hm:∀q (hq:q<n),(rad F n 4)[q]'(by omega)<n:=fun q hq=>List.mem_range.1 ((z4k F n 4).mem_iff.1 (List.getElem_mem _))
 rw [e r (by omega),e s hs]
 have h1:=hF _ (hm r (by omega))
 have h2:=hF _ (hm s hs)
 rw [Nat.mod_eq_of_lt (by omega),Nat.mod_eq_of_lt (by omega)] at hp
 exact hp
theorem y3q {L:List Nat} {n:Nat} (h:L.Perm (List.range n)):(∀r,r<n→L.getD r 0<n)∧(∀r s,r<n→s<n→L.getD r 0=L.getD s 0→r=s)∧∀i,i<n→∃r,r<n∧L.getD r 0=i:=by
 have hl:L.length=n:=by rw [h.length_eq,List.length_range]
 have hd:L.Nodup:=h.nodup_iff.2 List.nodup_range
 have e:∀q (hq:q<n),L.getD q 0=L[q]'(by omega):=fun q hq=>by simp [List.getD_eq_getElem?_getD,List.getElem?_eq_getElem (show q<L.length by omega)]
 refine ⟨fun r hr=>?_,fun r s hr hs he=>?_,fun i hi=>?_⟩
 ·exact List.mem_range.1 (h.mem_iff.1 (getD_mem (by omega)))
 ·rw [e r hr,e s hs] at he
  rcases Nat.lt_trichotomy r s with h1|h1|h1
  ·exact absurd he (List.pairwise_iff_getElem.1 (List.nodup_iff_pairwise_ne.1 hd) r s (by omega) (by omega) h1)
  ·exact h1
  ·exact absurd he.symm (List.pairwise_iff_getElem.1 (List.nodup_iff_pairwise_ne.1 hd) s r (by omega) (by omega) h1)
 ·obtain ⟨r,hr,e'⟩:=List.getElem_of_mem (h.mem_iff.2 (List.mem_range.2 hi))
  exact ⟨r,by omega,by rw [e r (by omega),e']⟩
theorem y7y {b:List Nat} (hb:∀z∈b,z<256) {R R':Nat→Nat} {ps:List (Nat × Nat)} (hc:Cut (fun x=>key b x 4) (fun r=>(rad (fun x=>key b x 4) b.length 4).getD r 0) 0 b.length ps) (hr:Ranked b.length (fun r=>(rad (fun x=>key b x 4) b.length 4).getD r 0) R R' 0 b.length ps) :
  Grps b 4 (fun r=>(rad (fun x=>key b x 4) b.length 4).getD r 0) R' (wide ps) []:=by
 obtain ⟨h1,h2,h3⟩:=y3q (z4k (fun x=>key b x 4) b.length 4)
 exact Grps.begin h1 h2 h3 (x9s fun x _=>z5c hb x 4) (fun i k _ _ h=>x7y hb i k 4 h) (fun i k _ _ h=>x1a hb i k 4 h) hc hr
end X10.Suf
namespace X10
open Go.RowKit Suf
structure Kp (A:Nat→Prop) (w x:World):Prop where
 os:x.os=w.os
 tape:x.tape=w.tape
 output:x.output=w.output
 size:w.heap.size≤x.heap.size
 keep:∀k,k<w.heap.size→¬A k→x.heap[k]?=w.heap[k]?
section
variable {A A':Nat→Prop} {w x y:World}
theorem Kp.refl (A:Nat→Prop) (w:World):Kp A w w:=⟨rfl,rfl,rfl,Nat.le_refl _,fun _ _ _=>rfl⟩
theorem Kp.trans (h:Kp A w x) (k:Kp A x y):Kp A w y :=
 ⟨k.os.trans h.os,k.tape.trans h.tape,k.output.trans h.output,Nat.le_trans h.size k.size,fun j hj hA=>by rw [k.keep j (by have:=h.size;omega) hA,h.keep j hj hA]⟩
theorem Kp.mono (h:Kp A w x) (hA:∀k,k<w.heap.size→A k→A' k):Kp A' w x:=⟨h.os,h.tape,h.output,h.size,fun j hj hn=>h.keep j hj fun a=>hn (hA j hj a)⟩
theorem Kp.alloc (h:Kp A w x) (o:Obj):Kp A w (x.alloc o) :=
 ⟨h.os,h.tape,h.output,by have:=h.size;simp;omega,fun j hj hA=>by rw [Below.heap_alloc _ _ _ (by have:=h.size;omega)];exact h.keep j hj hA⟩
theorem Kp.set (h:Kp A w x) {g:Nat} (i:Nat) (v:Value) (hg:A g∨w.heap.size≤g):Kp A w (x.setCell ⟨g,i,none⟩ v) :=
 ⟨h.os,h.tape,h.output,by simpa using h.size,fun j hj hA=>by
  rw [heap_setCell_other _ _ _ _ (by show j≠g;rintro rfl;rcases hg with hg|hg;exact hA hg;omega)]
  exact h.keep j hj hA⟩
theorem Kp.drewN (h:Kp A w x) (q:Nat):Kp A w (x.drewN q):=⟨h.os,h.tape,h.output,h.size,h.keep⟩
theorem Kp.grown (h:Kp A w x) {r:Option Nat} (hg:x.grownBy y r) (hr:∀k,r=some k→A k∨w.heap.size≤k):Kp A w y :=
 ⟨hg.os.trans h.os,hg.tape.trans h.tape,hg.output.trans h.output,Nat.le_trans h.size hg.size,fun j hj hA=>by
  rw [hg.block j (by have:=h.size;omega) (fun e=>by rcases hr j e.symm with q|q;exact hA q;omega)]
  exact h.keep j hj hA⟩
theorem Kp.below (h:Kp A w x) {B:Nat} {w0:World} (hb:Below B w0 w) (hA:∀k,A k→B≤k) (hB:B≤w.heap.size):Below B w0 x :=
 ⟨h.os.trans hb.os,h.tape.trans hb.tape,h.output.trans hb.output,Nat.le_trans hb.size h.size,fun k hk=>by rw [h.keep k (by omega) (fun a=>by have:=hA k a;omega)];exact hb.block k hk⟩
theorem Kp.cell (h:Kp A w x) {a:Addr} {v:Value} (hc:w.cell? a=some v) (hA:¬A a.block):x.cell? a=some v:=by
 rw [World.cell?_of_block (h.keep a.block (cell_lt hc) hA)];exact hc
end
def gv (l:List (Nat × Nat)):List Value:=l.flatMap fun g=>[iv (g.1:Int),iv (g.2:Int)]
theorem y3b (a b:List (Nat × Nat)):gv (a++b)=gv a++gv b:=by simp [gv]
theorem w0z:∀ (l:List (Nat × Nat)) (k:Nat),k<l.length→(gv l)[2*k]?=some (iv ((l.getD k (0,0)).1:Int))∧(gv l)[2*k+1]?=some (iv ((l.getD k (0,0)).2:Int))
 | [],k,h=>by simp at h
 | g :: l,0,_=>⟨rfl,rfl⟩
 | g :: l,k+1,h=>by
  have:=w0z l k (by simpa using h)
  simp only [gv,List.flatMap_cons] at this ⊢
  rw [show 2*(k+1)=2*k+1+1 by omega]
  simpa using this
structure TAt (H:Nat) (w:World) (tb pg rg n:Nat) (p R:Nat→Nat) (vo vp:Value) (os ps:List (Nat × Nat)):Prop where
 blk:w.heap[tb]?=some (.cells #[.slice (some ⟨pg,0,none⟩) n n,.slice (some ⟨rg,0,none⟩) n n,vo,vp] 171 (0,0))
 pl:z0a w .i64 3 pg n p
 rk:z0a w .i64 3 rg n R
 op:w.ownsRow H 173 2 vo os.length (gv os)
 pc:w.ownsRow H 173 2 vp ps.length (gv ps)
 d1:pg≠rg
 d2:∀k,vo.ownBlock=some k→vp.ownBlock≠some k
 ht:H≤tb∧H≤pg∧H≤rg
theorem x6a {w:World} {base e size n:Nat} {v:Value} {xs:List Value} (h:w.ownsRow base e size v n xs) {k:Nat} (hk:v.ownBlock=some k):∃cs,w.heap[k]?=some (.cells cs e (0,0)):=by
 rcases h.2 with ⟨e1,_⟩|⟨g,cap,cur,e1,_,hh,_⟩
 ·rw [e1] at hk;cases hk
 ·rw [e1] at hk
  injection hk with hk
  subst hk
  exact ⟨cur,hh⟩
section
variable {H:Nat} {w x:World} {tb pg rg n:Nat} {p R:Nat→Nat} {vo vp:Value} {os ps:List (Nat × Nat)}
theorem TAt.tp (h:TAt H w tb pg rg n p R vo vp os ps):tb≠pg:=by
 rintro rfl
 have h1:=h.blk
 have h2:=h.pl
 unfold z0a at h2
 rw [h1] at h2
 injection h2 with h2
 injection h2 with h2 h3
 cases h3
theorem TAt.tr (h:TAt H w tb pg rg n p R vo vp os ps):tb≠rg:=by
 rintro rfl
 have h1:=h.blk
 have h2:=h.rk
 unfold z0a at h2
 rw [h1] at h2
 injection h2 with h2
 injection h2 with h2 h3
 cases h3
theorem own_ne {w:World} {base e size n:Nat} {v:Value} {xs:List Value} (h:w.ownsRow base e size v n xs) {k e':Nat} {cs:Array Value} (hk:w.heap[k]?=some (.cells cs e' (0,0))) (he:e≠e'):v.ownBlock≠some k:=by
 intro q
 obtain ⟨cs',h1⟩:=x6a h q
 rw [hk] at h1
 injection h1 with h1
 injection h1 with h1 h2
 exact he h2.symm
theorem TAt.vo_t (h:TAt H w tb pg rg n p R vo vp os ps):vo.ownBlock≠some tb∧vo.ownBlock≠some pg∧vo.ownBlock≠some rg:=⟨own_ne h.op h.blk (by decide),own_ne h.op h.pl (by decide),own_ne h.op h.rk (by decide)⟩
theorem TAt.vp_t (h:TAt H w tb pg rg n p R vo vp os ps):vp.ownBlock≠some tb∧vp.ownBlock≠some pg∧vp.ownBlock≠some rg:=⟨own_ne h.pc h.blk (by decide),own_ne h.pc h.pl (by decide),own_ne h.pc h.rk (by decide)⟩
theorem TAt.keep (h:TAt H w tb pg rg n p R vo vp os ps) (hk:∀k,k<w.heap.size→(k=tb∨k=pg∨k=rg∨vo.ownBlock=some k∨vp.ownBlock=some k)→x.heap[k]?=w.heap[k]?):TAt H x tb pg rg n p R vo vp os ps :=
 ⟨by rw [hk tb (z0d h.blk) (.inl rfl)];exact h.blk,h.pl.of (hk pg h.pl.lt (.inr (.inl rfl))),h.rk.of (hk rg h.rk.lt (.inr (.inr (.inl rfl)))),
  own_keep h.op fun g hg=>hk g (h.op.lt g hg).2 (.inr (.inr (.inr (.inl hg)))),own_keep h.pc fun g hg=>hk g (h.pc.lt g hg).2 (.inr (.inr (.inr (.inr hg)))),h.d1,h.d2,h.ht⟩
theorem TAt.alloc (h:TAt H w tb pg rg n p R vo vp os ps) (o:Obj):TAt H (w.alloc o) tb pg rg n p R vo vp os ps:=h.keep fun k hk _=>Below.heap_alloc _ _ _ hk
theorem TAt.drewN (h:TAt H w tb pg rg n p R vo vp os ps) (q:Nat):TAt H (w.drewN q) tb pg rg n p R vo vp os ps:=h.keep fun _ _ _=>rfl
theorem TAt.c0 (h:TAt H w tb pg rg n p R vo vp os ps):w.cell? ⟨tb,0,none⟩=some (.slice (some ⟨pg,0,none⟩) n n):=by simp [World.cell?,h.blk]
theorem TAt.c1 (h:TAt H w tb pg rg n p R vo vp os ps):w.cell? ⟨tb,1,none⟩=some (.slice (some ⟨rg,0,none⟩) n n):=by simp [World.cell?,h.blk]
theorem TAt.c2 (h:TAt H w tb pg rg n p R vo vp os ps):w.cell? ⟨tb,2,none⟩=some vo:=by simp [World.cell?,h.blk]
theorem TAt.c3 (h:TAt H w tb pg rg n p R vo vp os ps):w.cell? ⟨tb,3,none⟩=some vp:=by simp [World.cell?,h.blk]
theorem TAt.fz (h:TAt H w tb pg rg n p R vo vp os ps) (i:Nat):w.frozen? ⟨tb,i,none⟩=false:=by simp [World.frozen?,h.blk]
theorem TAt.setRank (h:TAt H w tb pg rg n p R vo vp os ps) (i y:Nat):TAt H (w.setCell ⟨rg,i,none⟩ (.int .i64 (y:Int))) tb pg rg n p (upd R i y) vo vp os ps:=by
 have hk:∀k,k≠rg→(w.setCell ⟨rg,i,none⟩ (.int .i64 (y:Int))).heap[k]?=w.heap[k]?:=fun k hk=>heap_setCell_other _ _ _ _ (by exact hk)
 exact ⟨by rw [hk tb h.tr];exact h.blk,h.pl.of (hk pg h.d1),h.rk.set i y,own_keep h.op fun g hg=>hk g fun e=>h.vo_t.2.2 (by rw [hg,e]),own_keep h.pc fun g hg=>hk g fun e=>h.vp_t.2.2 (by rw [hg,e]),h.d1,h.d2,h.ht⟩
theorem TAt.setP (h:TAt H w tb pg rg n p R vo vp os ps) {v':Value} {ps':List (Nat × Nat)} (hown:w.ownsRow H 173 2 v' ps'.length (gv ps')) (hd:∀k,vo.ownBlock=some k→v'.ownBlock≠some k):TAt H (w.setCell ⟨tb,3,none⟩ v') tb pg rg n p R vo v' os ps':=by
 have hk:∀k,k≠tb→(w.setCell ⟨tb,3,none⟩ v').heap[k]?=w.heap[k]?:=fun k hk=>heap_setCell_other _ _ _ _ (by exact hk)
 exact ⟨heap_setCell_same w tb 3 _ _ _ h.blk,h.pl.of (hk pg h.tp.symm),h.rk.of (hk rg h.tr.symm),own_keep h.op fun g hg=>hk g fun e=>h.vo_t.1 (by rw [hg,e]),own_keep hown fun g hg=>hk g fun e=>own_ne hown h.blk (by decide) (by rw [hg,e]),h.d1,hd,h.ht⟩
theorem TAt.setO (h:TAt H w tb pg rg n p R vo vp os ps) {v':Value} {os':List (Nat × Nat)} (hown:w.ownsRow H 173 2 v' os'.length (gv os')) (hd:∀k,v'.ownBlock=some k→vp.ownBlock≠some k):TAt H (w.setCell ⟨tb,2,none⟩ v') tb pg rg n p R v' vp os' ps:=by
 have hk:∀k,k≠tb→(w.setCell ⟨tb,2,none⟩ v').heap[k]?=w.heap[k]?:=fun k hk=>heap_setCell_other _ _ _ _ (by exact hk)
 exact ⟨heap_setCell_same w tb 2 _ _ _ h.blk,h.pl.of (hk pg h.tp.symm),h.rk.of (hk rg h.tr.symm),own_keep hown fun g hg=>hk g fun e=>own_ne hown h.blk (by decide) (by rw [hg,e]),own_keep h.pc fun g hg=>hk g fun e=>h.vp_t.1 (by rw [hg,e]),h.d1,hd,h.ht⟩
theorem TAt.setL (h:TAt H w tb pg rg n p R vo vp os ps) {pg':Nat} {p':Nat→Nat} (hpl:z0a w .i64 3 pg' n p') (hd:pg'≠rg) (hH:H≤pg'):TAt H (w.setCell ⟨tb,0,none⟩ (.slice (some ⟨pg',0,none⟩) n n)) tb pg' rg n p' R vo vp os ps:=by
 have hk:∀k,k≠tb→(w.setCell ⟨tb,0,none⟩ (.slice (some ⟨pg',0,none⟩) n n)).heap[k]?=w.heap[k]?:=fun k hk=>heap_setCell_other _ _ _ _ (by exact hk)
 refine ⟨heap_setCell_same w tb 0 _ _ _ h.blk,hpl.of (hk pg' ?_),h.rk.of (hk rg h.tr.symm),own_keep h.op fun g hg=>hk g fun e=>h.vo_t.1 (by rw [hg,e]),own_keep h.pc fun g hg=>hk g fun e=>h.vp_t.1 (by rw [hg,e]),hd,h.d2,h.ht.1,hH,h.ht.2.2⟩
 rintro rfl
 have h1:=h.blk
 have h2:=hpl
 unfold z0a at h2
 rw [h1] at h2
 injection h2 with h2
 injection h2 with h2 h3
 cases h3
theorem TAt.pushP (h:TAt H w tb pg rg n p R vo vp os ps) {a c g' cap':Nat} {x2:World} {O:Obj} (h1:x2.ownsRow H 173 2 (.slice (some ⟨g',0,none⟩) (ps.length+1) cap') (ps.length+1) (gv ps++[iv (a:Int),iv (c:Int)])) (h2:(w.alloc O).grownBy x2 vp.ownBlock) (h3:vp.ownBlock=some g'∨g'=w.heap.size+1) :
  TAt H (x2.setCell ⟨tb,3,none⟩ (.slice (some ⟨g',0,none⟩) (ps.length+1) cap')) tb pg rg n p R vo (.slice (some ⟨g',0,none⟩) (ps.length+1) cap') os (ps++[(a,c)]):=by
 have hk:∀k,k<w.heap.size→vp.ownBlock≠some k→x2.heap[k]?=w.heap[k]?:=fun k hk hr=>by
  rw [h2.block k (by simp;omega) (fun e=>hr e.symm)];exact Below.heap_alloc _ _ _ hk
 have hv:=h.vp_t
 have hown:x2.ownsRow H 173 2 (.slice (some ⟨g',0,none⟩) (ps.length+1) cap') (ps++[(a,c)]).length (gv (ps++[(a,c)])):=by
  rw [y3b,List.length_append];exact h1
 have hd:∀k,vo.ownBlock=some k→g'≠k:=fun k hk e=>by
  subst e
  rcases h3 with h3|h3
  ·exact h.d2 _ hk h3
  ·have:=(h.op.lt _ hk).2;omega
 have hb:x2.heap[tb]?=some (.cells #[.slice (some ⟨pg,0,none⟩) n n,.slice (some ⟨rg,0,none⟩) n n,vo,vp] 171 (0,0)):=by rw [hk tb (z0d h.blk) hv.1];exact h.blk
 have hk2:∀k,k≠tb→(x2.setCell ⟨tb,3,none⟩ (.slice (some ⟨g',0,none⟩) (ps.length+1) cap')).heap[k]?=x2.heap[k]?:=fun k hk=>heap_setCell_other _ _ _ _ (by exact hk)
 refine ⟨heap_setCell_same x2 tb 3 _ _ _ hb,h.pl.of ?_,h.rk.of ?_,own_keep h.op fun g hg=>?_,own_keep hown fun g hg=>hk2 g fun e=>own_ne hown hb (by decide) (by rw [hg,e]),h.d1,fun k hk=>?_,h.ht⟩
 ·rw [hk2 pg h.tp.symm,hk pg h.pl.lt hv.2.1]
 ·rw [hk2 rg h.tr.symm,hk rg h.rk.lt hv.2.2]
 ·rw [hk2 g fun e=>h.vo_t.1 (by rw [hg,e]),hk g (h.op.lt g hg).2 (h.d2 g hg)]
 ·intro e
  simp [Value.ownBlock] at e
  exact hd k hk e
theorem TAt.pushO (h:TAt H w tb pg rg n p R vo vp os ps) {a c g' cap':Nat} {x2:World} {O:Obj} (h1:x2.ownsRow H 173 2 (.slice (some ⟨g',0,none⟩) (os.length+1) cap') (os.length+1) (gv os++[iv (a:Int),iv (c:Int)])) (h2:(w.alloc O).grownBy x2 vo.ownBlock) (h3:vo.ownBlock=some g'∨g'=w.heap.size+1) :
  TAt H (x2.setCell ⟨tb,2,none⟩ (.slice (some ⟨g',0,none⟩) (os.length+1) cap')) tb pg rg n p R (.slice (some ⟨g',0,none⟩) (os.length+1) cap') vp (os++[(a,c)]) ps:=by
 have hk:∀k,k<w.heap.size→vo.ownBlock≠some k→x2.heap[k]?=w.heap[k]?:=fun k hk hr=>by
  rw [h2.block k (by simp;omega) (fun e=>hr e.symm)];exact Below.heap_alloc _ _ _ hk
 have hv:=h.vo_t
 have hown:x2.ownsRow H 173 2 (.slice (some ⟨g',0,none⟩) (os.length+1) cap') (os++[(a,c)]).length (gv (os++[(a,c)])):=by
  rw [y3b,List.length_append];exact h1
 have hd:∀k,vp.ownBlock=some k→g'≠k:=fun k hk e=>by
  subst e
  rcases h3 with h3|h3
  ·exact h.d2 _ h3 hk
  ·have:=(h.pc.lt _ hk).2;omega
 have hb:x2.heap[tb]?=some (.cells #[.slice (some ⟨pg,0,none⟩) n n,.slice (some ⟨rg,0,none⟩) n n,vo,vp] 171 (0,0)):=by rw [hk tb (z0d h.blk) hv.1];exact h.blk
 have hk2:∀k,k≠tb→(x2.setCell ⟨tb,2,none⟩ (.slice (some ⟨g',0,none⟩) (os.length+1) cap')).heap[k]?=x2.heap[k]?:=fun k hk=>heap_setCell_other _ _ _ _ (by exact hk)
 refine ⟨heap_setCell_same x2 tb 2 _ _ _ hb,h.pl.of ?_,h.rk.of ?_,own_keep hown fun g hg=>hk2 g fun e=>own_ne hown hb (by decide) (by rw [hg,e]),own_keep h.pc fun g hg=>?_,h.d1,fun k hk e=>?_,h.ht⟩
 ·rw [hk2 pg h.tp.symm,hk pg h.pl.lt hv.2.1]
 ·rw [hk2 rg h.tr.symm,hk rg h.rk.lt hv.2.2]
 ·rw [hk2 g fun e=>h.vp_t.1 (by rw [hg,e]),hk g (h.pc.lt g hg).2 (fun e=>h.d2 g e hg)]
 ·simp [Value.ownBlock] at hk
  exact hd k e hk
end
theorem z1w {w:World} {base:Nat} {v:Value} {l:List (Nat × Nat)} (h:w.ownsRow base 173 2 v l.length (gv l)):∃a c,v=.slice a l.length c∧∀k,k<l.length→∃g,a=some ⟨g,0,none⟩∧v.ownBlock=some g∧w.cell? ⟨g,2*k,none⟩=some (.int .i64 ((l.getD k (0,0)).1:Int))∧w.cell? ⟨g,2*k+1,none⟩=some (.int .i64 ((l.getD k (0,0)).2:Int)):=by
 rcases h.2 with ⟨e1,e2⟩|⟨g,cap,cur,e1,hb,hg,hn,_,hs,ht⟩
 ·exact ⟨none,0,by rw [e1,e2],fun k hk=>by omega⟩
 ·refine ⟨_,cap,e1,fun k hk=>⟨g,rfl,by rw [e1];rfl,?_⟩⟩
  obtain ⟨h1,h2⟩:=w0z l k hk
  rw [←ht,List.getElem?_take,if_pos (by omega)] at h1 h2
  constructor
  ·simp only [World.cell?,hg];simpa [iv] using h1
  ·simp only [World.cell?,hg];simpa [iv] using h2
theorem x1y {w:World} {base n:Nat} {a:Option Addr} {c:Nat} {xs:List Value} (h:w.ownsRow base 173 2 (.slice a n c) n xs):w.ownsRow base 173 2 (.slice a 0 c) 0 []:=by
 rcases h.2 with ⟨e1,e2⟩|⟨g,cap,cur,e1,hb,hg,hn,hm,hs,ht⟩
 ·injection e1 with e1 e3 e4
  subst e1 e4
  exact World.ownsRow_nil _ _ _ _
 ·injection e1 with e1 e3 e4
  subst e1 e4
  exact ⟨by simp,.inr ⟨g,c,cur,rfl,hb,hg,Nat.zero_le _,hm,hs,by simp⟩⟩
end X10
end Go.Proofs.YtljdhaepkhhnlaaGreat
section
namespace Go.Proofs
open Go.Shelf
def Tryz.lays189_ren:Go.Shelf.Ren:=⟨fun|189=>119|125=>144|257=>143|128=>163|129=>164|294=>154|295=>155|296=>156|297=>157|298=>158|299=>159|216=>160|300=>161|301=>162|328=>175|329=>176|330=>177|331=>178|332=>179|215=>153|343=>191|n=>n,fun|28=>49|3=>3|46=>71|0=>0|51=>42|53=>46|4=>4|183=>206|182=>205|131=>210|5=>5|9=>9|218=>221|222=>225|228=>234|229=>235|n=>n,fun|n=>n⟩
theorem Tryz.lays189:Go.Proofs.Lays.n189 Tryz.prog Tryz.lays189_ren:={
 mixed:=by kernel_rfl
 f125:=Tryz.func144.trans (congrArg some (by kernel_rfl))
 f128:=Tryz.func163.trans (congrArg some (by kernel_rfl))
 f129:=Tryz.func164.trans (congrArg some (by kernel_rfl))
 f189:=Tryz.func119.trans (congrArg some (by kernel_rfl))
 f215:=Tryz.func153.trans (congrArg some (by kernel_rfl))
 f216:=Tryz.func160.trans (congrArg some (by kernel_rfl))
 f257:=Tryz.func143.trans (congrArg some (by kernel_rfl))
 f294:=Tryz.func154.trans (congrArg some (by kernel_rfl))
 f295:=Tryz.func155.trans (congrArg some (by kernel_rfl))
 f296:=Tryz.func156.trans (congrArg some (by kernel_rfl))
 f297:=Tryz.func157.trans (congrArg some (by kernel_rfl))
 f298:=Tryz.func158.trans (congrArg some (by kernel_rfl))
 f299:=Tryz.func159.trans (congrArg some (by kernel_rfl))
 f300:=Tryz.func161.trans (congrArg some (by kernel_rfl))
 f301:=Tryz.func162.trans (congrArg some (by kernel_rfl))
 f328:=Tryz.func175.trans (congrArg some (by kernel_rfl))
 f329:=Tryz.func176.trans (congrArg some (by kernel_rfl))
 f330:=Tryz.func177.trans (congrArg some (by kernel_rfl))
 f331:=Tryz.func178.trans (congrArg some (by kernel_rfl))
 f332:=Tryz.func179.trans (congrArg some (by kernel_rfl))
 f343:=Tryz.func191.trans (congrArg some (by kernel_rfl))
 t0:=Tryz.underlying0
 a0:=Tryz.isAgg0
 z0:=Tryz.sizeOf0
 v0:=Tryz.zeroValue0
 t3:=Tryz.underlying3
 a3:=Tryz.isAgg3
 z3:=Tryz.sizeOf3
 v3:=Tryz.zeroValue3
 t4:=Tryz.underlying4
 a4:=Tryz.isAgg4
 z4:=Tryz.sizeOf4
 v4:=Tryz.zeroValue4
 t5:=Tryz.underlying5
 a5:=Tryz.isAgg5
 z5:=Tryz.sizeOf5
 v5:=Tryz.zeroValue5
 t9:=Tryz.underlying9
 a9:=Tryz.isAgg9
 z9:=Tryz.sizeOf9
 v9:=Tryz.zeroValue9
 t28:=Tryz.underlying49
 a28:=Tryz.isAgg49
 z28:=Tryz.sizeOf49
 v28:=Tryz.zeroValue49
 t46:=Tryz.underlying71
 a46:=Tryz.isAgg71
 z46:=Tryz.sizeOf71
 v46:=Tryz.zeroValue71
 t51:=Tryz.underlying42
 a51:=Tryz.isAgg42
 z51:=Tryz.sizeOf42
 v51:=Tryz.zeroValue42
 t53:=Tryz.underlying46
 a53:=Tryz.isAgg46
 z53:=Tryz.sizeOf46
 v53:=Tryz.zeroValue46
 t131:=Tryz.underlying210
 a131:=Tryz.isAgg210
 z131:=Tryz.sizeOf210
 v131:=Tryz.zeroValue210
 t182:=Tryz.underlying205
 a182:=Tryz.isAgg205
 z182:=Tryz.sizeOf205
 v182:=Tryz.zeroValue205
 t183:=Tryz.underlying206
 a183:=Tryz.isAgg206
 z183:=Tryz.sizeOf206
 v183:=Tryz.zeroValue206
 t218:=Tryz.underlying221
 a218:=Tryz.isAgg221
 z218:=Tryz.sizeOf221
 v218:=Tryz.zeroValue221
 t222:=Tryz.underlying225
 a222:=Tryz.isAgg225
 z222:=Tryz.sizeOf225
 v222:=Tryz.zeroValue225
 t228:=Tryz.underlying234
 a228:=Tryz.isAgg234
 z228:=Tryz.sizeOf234
 v228:=Tryz.zeroValue234
 t229:=Tryz.underlying235
 a229:=Tryz.isAgg235
 z229:=Tryz.sizeOf235
 v229:=Tryz.zeroValue235 }
open Go.Sort Go.RowKit in
theorem Tryz.slices_Sort_int (blk off cap:Nat) (zs:List Int) (w:World) (hH:Holds (Value.int .i64) w blk off zs.toArray) (hblk:blk<w.heap.size) (hsz:zs.length<4611686018427387904) :
  Calls Tryz.prog 119 #[.slice (some ⟨blk,off,none⟩) zs.length cap] w fun e w' =>
   e=.returned (.tuple #[])∧∃n os,w'=grow (putRow (Value.int .i64) (Sort.ahead w n) blk off (zs.mergeSort fun x y=>decide (x≤y)).toArray) os:=Any.slices_Sort_int Tryz.lays189 blk off cap zs w hH hblk hsz
def Tryz.laysSlC25_f32_ren:Go.Shelf.Ren:=⟨fun|5=>142|7=>153|n=>n,fun|22=>3|3=>3|4=>4|n=>n,fun|n=>n⟩
theorem Tryz.laysSlC25_f32:Go.Proofs.SlLaysC2.n5 Tryz.prog Tryz.laysSlC25_f32_ren:={
 mixed:=by kernel_rfl
 f5:=⟨Tryz.f142.name,by decide,Tryz.func142.trans (congrArg some (by kernel_rfl))⟩
 f7:=⟨Tryz.f153.name,by decide,Tryz.func153.trans (congrArg some (by kernel_rfl))⟩
 t3:=Tryz.underlying3
 a3:=Tryz.isAgg3
 z3:=Tryz.sizeOf3
 v3:=Tryz.zeroValue3
 t4:=Tryz.underlying4
 a4:=Tryz.isAgg4
 z4:=Tryz.sizeOf4
 v4:=Tryz.zeroValue4
 t22:=Tryz.underlying3
 a22:=Tryz.isAgg3
 z22:=Tryz.sizeOf3
 v22:=Tryz.zeroValue3 }
def Tryz.laysSlF6_f30_ren:Go.Shelf.Ren:=⟨fun|6=>140|15=>144|14=>152|28=>163|29=>164|20=>167|21=>168|22=>169|23=>170|24=>171|25=>172|26=>173|27=>174|46=>188|47=>176|48=>177|49=>189|50=>190|57=>195|n=>n,fun|22=>49|24=>3|25=>190|3=>3|39=>71|0=>0|53=>42|55=>46|4=>4|46=>206|45=>205|50=>210|5=>5|9=>9|66=>221|70=>225|76=>234|77=>235|n=>n,fun|n=>n⟩
theorem Tryz.laysSlF6_f30:Go.Proofs.SlLaysF.n6 Tryz.prog Tryz.laysSlF6_f30_ren:={
 mixed:=by kernel_rfl
 f6:=⟨Tryz.f140.name,by decide,Tryz.func140.trans (congrArg some (by kernel_rfl))⟩
 f14:=⟨Tryz.f152.name,by decide,Tryz.func152.trans (congrArg some (by kernel_rfl))⟩
 f15:=Tryz.func144.trans (congrArg some (by kernel_rfl))
 f20:=⟨Tryz.f167.name,by decide,Tryz.func167.trans (congrArg some (by kernel_rfl))⟩
 f21:=⟨Tryz.f168.name,by decide,Tryz.func168.trans (congrArg some (by kernel_rfl))⟩
 f22:=⟨Tryz.f169.name,by decide,Tryz.func169.trans (congrArg some (by kernel_rfl))⟩
 f23:=⟨Tryz.f170.name,by decide,Tryz.func170.trans (congrArg some (by kernel_rfl))⟩
 f24:=⟨Tryz.f171.name,by decide,Tryz.func171.trans (congrArg some (by kernel_rfl))⟩
 f25:=⟨Tryz.f172.name,by decide,Tryz.func172.trans (congrArg some (by kernel_rfl))⟩
 f26:=⟨Tryz.f173.name,by decide,Tryz.func173.trans (congrArg some (by kernel_rfl))⟩
 f27:=⟨Tryz.f174.name,by decide,Tryz.func174.trans (congrArg some (by kernel_rfl))⟩
 f28:=Tryz.func163.trans (congrArg some (by kernel_rfl))
 f29:=Tryz.func164.trans (congrArg some (by kernel_rfl))
 f46:=⟨Tryz.f188.name,by decide,Tryz.func188.trans (congrArg some (by kernel_rfl))⟩
 f47:=Tryz.func176.trans (congrArg some (by kernel_rfl))
 f48:=Tryz.func177.trans (congrArg some (by kernel_rfl))
 f49:=⟨Tryz.f189.name,by decide,Tryz.func189.trans (congrArg some (by kernel_rfl))⟩
 f50:=⟨Tryz.f190.name,by decide,Tryz.func190.trans (congrArg some (by kernel_rfl))⟩
 f57:=⟨Tryz.f195.name,by decide,Tryz.func195.trans (congrArg some (by kernel_rfl))⟩
 t0:=Tryz.underlying0
 a0:=Tryz.isAgg0
 z0:=Tryz.sizeOf0
 v0:=Tryz.zeroValue0
 t3:=Tryz.underlying3
 a3:=Tryz.isAgg3
 z3:=Tryz.sizeOf3
 v3:=Tryz.zeroValue3
 t4:=Tryz.underlying4
 a4:=Tryz.isAgg4
 z4:=Tryz.sizeOf4
 v4:=Tryz.zeroValue4
 t5:=Tryz.underlying5
 a5:=Tryz.isAgg5
 z5:=Tryz.sizeOf5
 v5:=Tryz.zeroValue5
 t9:=Tryz.underlying9
 a9:=Tryz.isAgg9
 z9:=Tryz.sizeOf9
 v9:=Tryz.zeroValue9
 t22:=Tryz.underlying49
 a22:=Tryz.isAgg49
 z22:=Tryz.sizeOf49
 v22:=Tryz.zeroValue49
 a24:=Tryz.isAgg3
 z24:=Tryz.sizeOf3
 t25:=Tryz.underlying190
 a25:=Tryz.isAgg190
 z25:=Tryz.sizeOf190
 v25:=Tryz.zeroValue190
 t39:=Tryz.underlying71
 a39:=Tryz.isAgg71
 z39:=Tryz.sizeOf71
 v39:=Tryz.zeroValue71
 t45:=Tryz.underlying205
 a45:=Tryz.isAgg205
 z45:=Tryz.sizeOf205
 v45:=Tryz.zeroValue205
 t46:=Tryz.underlying206
 a46:=Tryz.isAgg206
 z46:=Tryz.sizeOf206
 v46:=Tryz.zeroValue206
 t50:=Tryz.underlying210
 a50:=Tryz.isAgg210
 z50:=Tryz.sizeOf210
 v50:=Tryz.zeroValue210
 t53:=Tryz.underlying42
 a53:=Tryz.isAgg42
 z53:=Tryz.sizeOf42
 v53:=Tryz.zeroValue42
 t55:=Tryz.underlying46
 a55:=Tryz.isAgg46
 z55:=Tryz.sizeOf46
 v55:=Tryz.zeroValue46
 t66:=Tryz.underlying221
 a66:=Tryz.isAgg221
 z66:=Tryz.sizeOf221
 v66:=Tryz.zeroValue221
 t70:=Tryz.underlying225
 a70:=Tryz.isAgg225
 z70:=Tryz.sizeOf225
 v70:=Tryz.zeroValue225
 t76:=Tryz.underlying234
 a76:=Tryz.isAgg234
 z76:=Tryz.sizeOf234
 v76:=Tryz.zeroValue234
 t77:=Tryz.underlying235
 a77:=Tryz.isAgg235
 z77:=Tryz.sizeOf235
 v77:=Tryz.zeroValue235 }
open Go.RowKit Go.Lib Go.Sort in
theorem Tryz.slices_SortFunc {α:Type} [Inhabited α] (enc:α→Value) (h1:OneCell enc) (cf:α→α→Int) (hO:SWO (ltOf cf)) (g:Nat) (cb:Array Value) (blk off cap:Nat) (d:Array α) (w:World) (eg:∀args w,(callFunc g args).run Tryz.prog w=.ok (.enter g args) w) (hcmp:CmpLays1 Tryz.prog g cb enc cf blk off d.size w) (hH:Holds enc w blk off d) (hblk:blk<w.heap.size) (hsz:d.size<4611686018427387904) :
  Calls Tryz.prog 140 #[.slice (some ⟨blk,off,none⟩) d.size cap,.func (.func g) #[] cb] w fun e w' =>
   e=.returned (.tuple #[])∧∃d' n os,PermIn 0 d.size d d'∧SortedIn (ltOf cf) 0 d.size d'∧w'=sortWorld enc w blk off n d' os:=Any.slices_SortFunc Tryz.laysSlF6_f30 enc h1 cf hO g cb blk off cap d w eg hcmp hH hblk hsz
end Go.Proofs
end
namespace Go.Proofs.YtljdhaepkhhnlaaGreat
namespace X10
open Go.RowKit Suf Go.Sort
theorem getD_get! {l:List Nat} {r:Nat} (h:r<l.length):l.getD r 0=l[r]:=by simp [List.getD_eq_getElem?_getD,List.getElem?_eq_getElem h]
def segP (p:Nat→Nat) (a c:Nat) (l:List Nat):Nat→Nat:=fun r=>if a≤r∧r<c then l.getD (r-a) 0 else p r
def seg (p:Nat→Nat) (a c:Nat):List Nat:=(List.range (c-a)).map fun j=>p (a+j)
theorem y5q {p:Nat→Nat} {a c x:Nat}:x∈seg p a c↔∃s,a≤s∧s<c∧p s=x:=by
 unfold seg
 rw [List.mem_map]
 constructor
 ·rintro ⟨j,hj,rfl⟩
  have:=List.mem_range.1 hj
  exact ⟨a+j,by omega,by omega,rfl⟩
 ·rintro ⟨s,h1,h2,rfl⟩
  exact ⟨s-a,List.mem_range.2 (by omega),by rw [show a+(s-a)=s by omega]⟩
theorem y4b {p:Nat→Nat} {a c n:Nat} (hc:c≤n) (hinj:∀r s,r<n→s<n→p r=p s→r=s):(seg p a c).Nodup:=by
 unfold seg
 rw [List.nodup_iff_pairwise_ne,List.pairwise_map]
 refine List.Pairwise.imp_of_mem ?_ (List.nodup_range (n:=c-a))
 intro x y hx hy hne e
 have hx:=List.mem_range.1 hx
 have hy:=List.mem_range.1 hy
 have:=hinj _ _ (by omega) (by omega) e
 omega
theorem y6w {n a c:Nat} {p:Nat→Nat} {l:List Nat} (hac:a≤c) (hc:c≤n) (hinj:∀r s,r<n→s<n→p r=p s→r=s) (hl:l.Perm (seg p a c)):Perm n p (segP p a c l) a c:=by
 have hlen:l.length=c-a:=by rw [hl.length_eq];simp [seg]
 have hnd:l.Nodup:=hl.nodup_iff.2 (y4b hc hinj)
 have hin:∀r,a≤r→r<c→∃s,a≤s∧s<c∧segP p a c l r=p s:=fun r h1 h2=>by
  have hm:l.getD (r-a) 0∈l:=getD_mem (by omega)
  obtain ⟨s,h3,h4,h5⟩:=y5q.1 (hl.mem_iff.1 hm)
  exact ⟨s,h3,h4,by unfold segP;rw [if_pos ⟨h1,h2⟩,h5]⟩
 have hout:∀r,r<n→(r<a∨c≤r)→segP p a c l r=p r:=fun r hr h=>by unfold segP;rw [if_neg (by omega)]
 refine ⟨hout,hin,fun r h1 h2=>?_,fun r s hr hs e=>?_⟩
 ·obtain ⟨j,hj,e⟩:=List.getElem_of_mem (hl.mem_iff.2 (y5q.2 ⟨r,h1,h2,rfl⟩))
  refine ⟨a+j,by omega,by omega,?_⟩
  unfold segP
  rw [if_pos (by omega),show a+j-a=j by omega,getD_get! hj,e]
 ·by_cases c1:a≤r∧r<c<;>by_cases c2:a≤s∧s<c
  ·unfold segP at e
   rw [if_pos c1,if_pos c2,getD_get! (by omega),getD_get! (by omega)] at e
   rcases Nat.lt_trichotomy (r-a) (s-a) with h|h|h
   ·exact absurd e (List.pairwise_iff_getElem.1 (List.nodup_iff_pairwise_ne.1 hnd) _ _ (by omega) (by omega) h)
   ·omega
   ·exact absurd e.symm (List.pairwise_iff_getElem.1 (List.nodup_iff_pairwise_ne.1 hnd) _ _ (by omega) (by omega) h)
  ·obtain ⟨s',h1,h2,e2⟩:=hin r c1.1 c1.2
   rw [e2,hout s hs (by omega)] at e
   have:=hinj _ _ (by omega) hs e
   omega
  ·obtain ⟨s',h1,h2,e2⟩:=hin s c2.1 c2.2
   rw [e2,hout r hr (by omega)] at e
   have:=hinj _ _ hr (by omega) e
   omega
  ·rw [hout r hr (by omega),hout s hs (by omega)] at e
   exact hinj _ _ hr hs e
theorem z7r {α:Type} [Inhabited α] (enc:α→Value) (val:α→Nat) (w:World) (pg n a c m:Nat) (p:Nat→Nat) (d:Array α) (os:Array Obj) (h:z0a w .i64 3 pg n p) (henc:∀j,j<d.size→enc d[j]! = .int .i64 (val d[j]! : Int)) (hsz:d.size=c-a) (hac:a≤c) (hc:c≤n) :
  z0a (grow (putRow enc (Sort.ahead w m) pg a d) os) .i64 3 pg n (segP p a c (d.toList.map val))∧Kp (fun k=>k=pg) w (grow (putRow enc (Sort.ahead w m) pg a d) os):=by
 have hb:∀k,k<w.heap.size→(grow (putRow enc (Sort.ahead w m) pg a d) os).heap[k]?=(w.heap.modify pg (onCells (putCells enc a d)))[k]?:=fun k hk=>by
  show ((w.heap.modify pg (onCells (putCells enc a d)))++os)[k]?=_
  rw [Array.getElem?_append_left (by simpa using hk)]
 constructor
 ·unfold z0a
  rw [hb pg h.lt,Array.getElem?_modify,if_pos rfl,show w.heap[pg]?=_ from h]
  simp only [Option.map_some,onCells]
  congr 2
  apply Array.ext (by simp [putCells,z0b])
  intro j h1 h2
  have hj:j<n:=by simpa [z0b] using h2
  simp only [putCells,Array.getElem_mapIdx]
  simp only [z0b,List.getElem_toArray,List.getElem_map,List.getElem_range,segP]
  by_cases hr:a≤j∧j<c
  ·rw [if_pos (by omega),if_pos hr,henc _ (by omega)]
   congr 2
   rw [List.getD_eq_getElem?_getD,List.getElem?_map,Array.getElem?_toList,Array.getElem?_eq_getElem (show j-a<d.size by omega),getElem!_pos d (j-a) (by omega)]
   rfl
  ·rw [if_neg (by omega),if_neg hr]
 ·refine ⟨rfl,rfl,rfl,?_,fun k hk hne=>?_⟩
  ·show w.heap.size≤((w.heap.modify pg (onCells (putCells enc a d)))++os).size
   simp
  ·rw [hb k hk,Array.getElem?_modify,if_neg (fun e=>hne e.symm)]
end X10
namespace X10
open Go.RowKit Suf
attribute [local go_sem ↓] wp_at_zero wp_at_succ
structure NumFn (w:World) (tb pg rg n:Nat) (vo vp:Value) (fn:Nat) (cb:Array Value) (f:Nat→Nat):Prop where
 enter:∀ (args:Array Value) (x:World),Sem.run Tryz.prog (callFunc fn args) x=.ok (.enter fn args) x
 call:∀ (x:Nat) (W:World) (vp':Value),x<n→Kp (fun k=>k=tb∨vp.ownBlock=some k) w W→W.heap[tb]?=some (.cells #[.slice (some ⟨pg,0,none⟩) n n,.slice (some ⟨rg,0,none⟩) n n,vo,vp'] 171 (0,0)) →
  Calls Tryz.prog fn (#[.int .i64 (x:Int)]++cb) W fun e W'=>e=.returned (.int .i64 (f x:Int))∧∃q,W'=W.drewN q
def w0j (H:Nat) (w:World) (tb pg rg n:Nat) (p R:Nat→Nat) (vo vp:Value) (os:List (Nat × Nat)) (f:Nat→Nat) (a c:Nat) (e:Ending) (w':World):Prop :=
 ∃ps R' vo' vp',e=.returned (.bool (decide (1<ps.length)))∧Cut f p a c ps∧Ranked n p R R' a c ps∧TAt H w' tb pg rg n p R' vo' vp' (os++wide ps) ps ∧
  Kp (fun k=>k=tb∨k=rg∨vo.ownBlock=some k∨vp.ownBlock=some k) w w'∧(∀k,vo'.ownBlock=some k→vo.ownBlock=some k∨w.heap.size≤k)∧(∀k,vp'.ownBlock=some k→vp.ownBlock=some k∨w.heap.size≤k)
theorem z6y (w:World) (x y:Value) (t:TypeId):∀ (j:Nat) u,[x,y][j]?=some u→(w.alloc (.cells #[x,y] t)).cell? ((⟨w.heap.size,0,none⟩:Addr).add j)=some u:=by
 intro j u hj
 rw [Addr.add_mid,Nat.zero_add]
 simp only [World.cell?,heap_alloc_new]
 match j,hj with
 | 0,hj=>simpa using hj
 | 1,hj=>simpa using hj
theorem z0w {w x2:World} {O:Obj} {r:Option Nat} (h:(w.alloc O).grownBy x2 r) {k:Nat} (hk:k<w.heap.size) (hr:r≠some k):x2.heap[k]?=w.heap[k]?:=by
 rw [h.block k (by simp;omega) (fun e=>hr e.symm)];exact Below.heap_alloc _ _ _ hk
theorem x2s {n:Nat} {p R Ri:Nat→Nat} {a c q1 q2 i:Nat} {f:Nat→Nat} {D ps:List (Nat × Nat)} (h:Ranked n p R Ri a c (D++[(q1,q1+i)])) (hinj:∀r s,r<n→s<n→p r=p s→r=s) (hc:c≤n) (hq:a≤q1∧q1+i<c) (hD:∀q,q∈D→q.2≤q1):Ranked n p R (upd Ri (p (q1+i)) q1) a c (D++[(q1,q1+(i+1))]):=by
 constructor
 ·intro q hq1 r h1 h2
  unfold upd
  rcases List.mem_append.1 hq1 with hq1|hq1
  ·have:=hD q hq1
   rw [if_neg (fun e=>by have:=hinj _ _ (by omega) (by omega) e;omega)]
   exact h.new q (List.mem_append_left _ hq1) r h1 h2
  ·simp at hq1
   subst hq1
   dsimp only at h1 h2 ⊢
   by_cases e:r=q1+i
   ·rw [e,if_pos rfl]
   ·rw [if_neg (fun e'=>e (hinj _ _ (by omega) (by omega) e'))]
    exact h.new (q1,q1+i) (by simp) r h1 (by dsimp only;omega)
 ·intro x hx hn
  unfold upd
  rw [if_neg (fun e=>hn (q1+i) (by omega) (by omega) e.symm)]
  exact h.old x hx hn
theorem z2o {l:List (Nat × Nat)} {k:Nat} (hk:k<l.length) {q:Nat × Nat} (hq:q=l.getD k (0,0)):l.take (k+1)=l.take k++[q]:=by
 rw [List.take_add_one,List.getElem?_eq_getElem hk,hq,List.getD_eq_getElem?_getD,List.getElem?_eq_getElem hk]
 rfl
theorem x3x (l:List (Nat × Nat)) (q:Nat × Nat):wide (l++[q])=if 1<q.2-q.1 then wide l++[q] else wide l:=by
 unfold wide
 rw [List.filter_append]
 by_cases h:1<q.2-q.1
 ·rw [if_pos h,List.filter_cons,if_pos (by simpa using h),List.filter_nil]
 ·rw [if_neg h,List.filter_cons,if_neg (by simpa using h),List.filter_nil,List.append_nil]
theorem w0h (l:List (Nat × Nat)):(wide l).length≤l.length:=List.length_filter_le _ _
theorem y9m {f p:Nat→Nat} {a c:Nat} {ps:List (Nat × Nat)} (h:Cut f p a c ps) {k:Nat} (hk:k<ps.length) {q:Nat × Nat} (hq:q=ps.getD k (0,0)):∀q',q'∈ps.take k→q'.2≤q.1:=by
 intro q' hq'
 have h1:=h.dis
 rw [←List.take_append_drop k ps,List.pairwise_append] at h1
 refine h1.2.2 q' hq' q ?_
 rw [hq,List.drop_eq_getElem_cons hk,List.getD_eq_getElem?_getD,List.getElem?_eq_getElem hk]
 exact List.mem_cons_self ..
theorem x2d (H:Nat) (w:World) (tb pg rg n:Nat) (p R:Nat→Nat) (vo vp:Value) (os ps0:List (Nat × Nat)) (f:Nat→Nat) (fn:Nat) (cb:Array Value) (a c:Nat) (hT:TAt H w tb pg rg n p R vo vp os ps0) (hF:NumFn w tb pg rg n vo vp fn cb f) (hac:a≤c) (hc:c≤n) (hn:n≤1048576) (hos:os.length≤1048576)
  (hmem:∀r,r<n→p r<n) (hinj:∀r s,r<n→s<n→p r=p s→r=s) :
  Calls Tryz.prog 137 #[.pointer (some ⟨tb,0,none⟩),.agg #[.int .i64 (a:Int),.int .i64 (c:Int)],.func (.func fn) #[] cb] w fun e w'=>w0j H w tb pg rg n p R vo vp os f a c e w':=by
 have hE:=hF.enter
 have HF:=qz hF
 have HT:=qz hT
 obtain ⟨va,vc,rfl,_⟩:=z1w hT.pc
 obtain ⟨gb,hgb⟩:∃gb,gb=w.heap.size:=⟨_,rfl⟩
 obtain ⟨W0,hW0⟩:∃W0,W0=w.alloc (.cells #[.int .i64 (a:Int),.int .i64 (c:Int)] 173):=⟨_,rfl⟩
 have hT0:TAt H W0 tb pg rg n p R vo (.slice va ps0.length vc) os ps0:=by rw [hW0];exact hT.alloc _
 have hg0:W0.heap[gb]?=some (.cells #[.int .i64 (a:Int),.int .i64 (c:Int)] 173 (0,0)):=by rw [hW0,hgb];exact heap_alloc_new _ _
 have hgt:tb<gb:=by rw [hgb];exact z0d hT.blk
 have hgv:∀k,(Value.slice va ps0.length vc).ownBlock=some k→k<gb:=fun k hk=>by rw [hgb];exact (hT.pc.lt k hk).2
 have hgo:∀k,vo.ownBlock=some k→k<gb:=fun k hk=>by rw [hgb];exact (hT.op.lt k hk).2
 obtain ⟨W1,hW1⟩:∃W1,W1=W0.setCell ⟨tb,3,none⟩ (.slice va 0 vc):=⟨_,rfl⟩
 have hT1:TAt H W1 tb pg rg n p R vo (.slice va 0 vc) os []:=by rw [hW1];exact hT0.setP (ps':=[]) (x1y hT0.pc) fun k h1 h2=>hT0.d2 k h1 (by cases va<;>exact h2)
 have hg1:W1.heap[gb]?=some (.cells #[.int .i64 (a:Int),.int .i64 (c:Int)] 173 (0,0)):=by rw [hW1,heap_setCell_other _ _ _ _ (by show gb≠tb;omega)];exact hg0
 have hk1:Kp (fun k=>k=tb∨(Value.slice va ps0.length vc).ownBlock=some k) w W1:=by
  rw [hW1,hW0]
  exact ((Kp.refl _ w).alloc _).set 3 _ (.inl (.inl rfl))
 have q1:=hT0.c3
 have q2:=hT0.fz 3
 have q3:W1.cell? ⟨gb,0,none⟩=some (.int .i64 (a:Int)):=by simp [World.cell?,hg1]
 have hsz0:W0.heap.size=gb+1:=by rw [hW0,hgb];simp
 rw [hW0] at q1 q2
 rw [hW1,hW0,hgb] at q3
 have HT1:=qz hT1
 have HG1:=qz hg1
 have HK1:=qz hk1
 have HM:=qz hmem
 have HJ:=qz hinj
 have HGB:=qz hgb
 have HGV:=qz hgv
 have HGO:=qz hgo
 clear hF hT0 hT hT1 hg0 hg1 hk1 hgb hgv hgo hmem hinj
 go_enter Tryz.func137,Tryz.ntmps137
 go_wp2_with fail
 rw [←hW0,←hW1,←uh HGB]
 rw [←hW0,←hW1,←uh HGB] at q3
 clear q1 q2 q3 hW0 hW1
 obtain ⟨ob,hob⟩:∃ob,ob=(Value.slice va ps0.length vc).ownBlock:=⟨_,rfl⟩
 have HOB0:Hid (∀k,(Value.slice va 0 vc).ownBlock=some k→ob=some k∨w.heap.size≤k):=qz fun k hk=>.inl (by rw [hob];cases va<;>exact hk)
 have HOBG0:Hid (∀k,(Value.slice va 0 vc).ownBlock=some k→k≠gb):=qz fun k hk=>by have:=uh HGV k (by cases va<;>exact hk);omega
 rw [←hob] at HK1 HGV
 have HFC:=(uh HF).call
 rw [←hob] at HFC
 have HFC:=qz HFC
 have HOB:=qz hob
 clear hob
 go_loopg [7,8] (c+1-(a+1)) (fun gk cv rv ws=>∃ (cur row:Nat) (ps:List (Nat × Nat)) (vp':Value),gk=c+1-row∧row≤c+1∧cur<row∧cv=.int .i64 (cur:Int)∧rv=.int .i64 (row:Int)∧Hid (ps.length+a+1≤row)∧Hid ((row≤c∧CutTo f p a cur row ps)∨(row=c+1∧Cut f p a c ps))∧Hid (TAt H ws tb pg rg n p R vo vp' os ps)∧Hid (ws.heap[gb]?=some (.cells #[.int .i64 (a:Int),.int .i64 (c:Int)] 173 (0,0)))∧Hid (Kp (fun k=>k=tb∨ob=some k) w ws)∧Hid (∀k,vp'.ownBlock=some k→ob=some k∨w.heap.size≤k)∧Hid (∀k,vp'.ownBlock=some k→k≠gb))
 case atStart =>
  refine ⟨a,a+1,[],.slice va 0 vc,rfl,by omega,by omega,rfl,rfl,qz (by simp),qz ?_,HT1,HG1,HK1,HOB0,HOBG0⟩
  by_cases h:a<c
  ·exact .inl ⟨by omega,CutTo.start f p a⟩
  ·exact .inr ⟨by omega,⟨fun r h1 h2=>by omega,fun q hq=>by simp at hq,fun q hq=>by simp at hq,fun q hq=>by simp at hq,List.Pairwise.nil⟩⟩
 case round =>
  clear HT1 HG1 HK1 HOB0 HOBG0
  obtain ⟨cur,row,ps,vp',rfl,hrow,hcr,rfl,rfl,HPL,HC,HT1,HG1,HK1,HOB1,HOBG⟩:=hrel
  rename World=>wr
  have g0:∀q,(wr.drewN q).cell? ⟨gb,0,none⟩=some (.int .i64 (a:Int)):=fun q=>by show wr.cell? _=_;simp [World.cell?,uh HG1]
  have g1:∀q,(wr.drewN q).cell? ⟨gb,1,none⟩=some (.int .i64 (c:Int)):=fun q=>by show wr.cell? _=_;simp [World.cell?,uh HG1]
  have k1:wr.cell? ⟨gb,1,none⟩=some (.int .i64 (c:Int)):=g1 0
  obtain ⟨r1,rfl⟩:∃r1,row=r1+1:=⟨row-1,by omega⟩
  by_cases hlt:r1+1≤c
  ·have tl:(r1:Int)+1≤(c:Int):=by omega
   by_cases heq:r1+1=c
   ·subst heq
    go_upto_region 6 with fail
    go_quiet (fail)
    obtain ⟨wx,hwx⟩:∃wx,wx=wr.drewN nq:=⟨_,rfl⟩
    have HTX:Hid (TAt H wx tb pg rg n p R vo vp' os ps):=qz (by rw [hwx];exact (uh HT1).drewN nq)
    have HKX:Hid (Kp (fun k=>k=tb∨ob=some k) w wx):=qz (by rw [hwx];exact (uh HK1).drewN nq)
    have HGX:Hid (wx.heap[gb]?=some (.cells #[.int .i64 (a:Int),.int .i64 ((r1+1:Nat):Int)] 173 (0,0))):=qz (by rw [hwx];exact uh HG1)
    rw [←hwx]
    clear hwx HT1 HK1 HG1
    have z3:=(uh HTX).c3
    obtain ⟨i0,hii,hz0,hz1,hz2⟩:=info_parts x0v
    have HPO:=qz ((uh HTX).alloc (.cells #[.int .i64 (cur:Int),.int .i64 ((r1:Int)+1)] 173)).pc
    have HNW:=qz (z6y wx (iv (cur:Int)) (iv ((r1:Int)+1)) 173)
    have hbs:H≤(wx.alloc (.cells #[.int .i64 (cur:Int),.int .i64 ((r1:Int)+1)] 173)).heap.size:=by
     have:=(uh HTX).ht.1
     have:=z0d (uh HTX).blk
     simp
     omega
    have hpl2:ps.length+1≤1048576:=by have:=uh HPL;omega
    have HWS:Hid (wx.heap.size+1=(wx.alloc (.cells #[.int .i64 (cur:Int),.int .i64 ((r1:Int)+1)] 173)).heap.size):=qz (by simp)
    go_wp2_with (at_builtin;go_must (refine wpList_append_lies _ rfl _ _ 169 rfl H 173 i0 _ 2 16 Tryz.underlying169 hii hz0 hz1 hz2 rfl (by decide) vp' ps.length (gv ps) (by rfl) (uh HPO) ⟨wx.heap.size,0,none⟩ 1 1 [iv (cur:Int),iv ((r1:Int)+1)] (by rfl) rfl (uh HNW) (by intro u hu;simp at hu;rcases hu with rfl|rfl<;>rfl) (by omega) (by unfold maxLen;omega) (by omega) hbs (wx.heap.size+1) (uh HWS).symm ?_;intro g' cap' x2 h1 h2 h3 h4;have s1:x2.cell? ⟨tb,3,none⟩=some vp':=(World.cell?_of_block (z0w h2 (z0d (uh HTX).blk) (uh HTX).vp_t.1)).trans (uh HTX).c3;have s2:x2.frozen? ⟨tb,3,none⟩=false:=(World.frozen?_of_block (z0w h2 (z0d (uh HTX).blk) (uh HTX).vp_t.1)).trans ((uh HTX).fz 3);have H1:=qz h1;have H2:=qz h2;have H3:=qz h3;clear h1 h2 h3 h4))
    go_roundg (r1+1+1-(r1+1+1))
    case measure=>omega
    case rel =>
     have hT3:=(uh HTX).pushP (a:=cur) (c:=r1+1) (by have:=uh H1;rw [show ((r1:Int)+1)=((r1+1:Nat):Int) by omega] at this;exact this) (uh H2) (uh H3)
     have hgw:gb<wx.heap.size:=z0d (uh HGX)
     have hvb:∀k,vp'.ownBlock=some k→ob=some k∨w.heap.size≤k:=uh HOB1
     refine ⟨r1+1,r1+1+1,ps++[(cur,r1+1)],_,rfl,by omega,by omega,by go_num,by go_num,qz (by rw [List.length_append];have:=uh HPL;simp;omega),qz ?_,qz hT3,qz ?_,qz ?_,qz fun k hk=>?_,qz fun k hk=>?_⟩
     ·rcases uh HC with ⟨_,h⟩|⟨h,_⟩
      ·exact .inr ⟨by omega,h.push⟩
      ·omega
     ·rw [heap_setCell_other _ _ _ _ (by show gb≠tb;omega),z0w (uh H2) hgw ?_]
      ·exact uh HGX
      ·intro e
       exact uh HOBG gb e rfl
     ·refine Kp.set ?_ 3 _ (.inl (.inl rfl))
      exact ((uh HKX).alloc _).grown (uh H2) fun k hk=>by
       rcases hvb k hk with q|q
       ·exact .inl (.inr q)
       ·exact .inr q
     ·simp [Value.ownBlock] at hk
      subst hk
      rcases uh H3 with q|q
      ·exact hvb _ q
      ·right;have:=(uh HKX).size;omega
     ·simp [Value.ownBlock] at hk
      subst hk
      rcases uh H3 with q|q
      ·exact uh HOBG _ q
      ·omega
   ·have e1:((r1:Int)+1 == (c:Int))=false:=by rw [beq_eq_false_iff_ne];omega
    have e2:¬ (r1:Int)+1=(c:Int):=by omega
    have p0:∀q,(wr.drewN q).cell? ⟨tb,0,none⟩=some (.slice (some ⟨pg,0,none⟩) n n):=fun q=>(uh HT1).c0
    have p1:∀q,(wr.drewN q).cell? ⟨pg,r1,none⟩=some (.int .i64 ((p r1:Nat):Int)):=fun q=>(uh HT1).pl.cell r1 (by omega)
    have p2:∀q,(wr.drewN q).cell? ⟨pg,r1+1,none⟩=some (.int .i64 ((p (r1+1):Nat):Int)):=fun q=>(uh HT1).pl.cell (r1+1) (by omega)
    have hm1:=uh HM r1 (by omega)
    have hm2:=uh HM (r1+1) (by omega)
    have HC1:Hid (∀q,Calls Tryz.prog fn (#[.int .i64 ((p r1:Nat):Int)]++cb) (wr.drewN q) fun e W'=>e=.returned (.int .i64 (f (p r1):Int))∧∃q',W'=(wr.drewN q).drewN q'):=qz fun q=>uh HFC _ _ vp' hm1 ((uh HK1).drewN q) (uh HT1).blk
    have HC2:Hid (∀q,Calls Tryz.prog fn (#[.int .i64 ((p (r1+1):Nat):Int)]++cb) (wr.drewN q) fun e W'=>e=.returned (.int .i64 (f (p (r1+1)):Int))∧∃q',W'=(wr.drewN q).drewN q'):=qz fun q=>uh HFC _ _ vp' hm2 ((uh HK1).drewN q) (uh HT1).blk
    have hr2:(r1:Int)<(n:Int):=by omega
    have hr3:(r1:Int)+1<(n:Int):=by omega
    obtain ⟨x1,hx1⟩:∃x1,x1=p r1:=⟨_,rfl⟩
    obtain ⟨x2,hx2⟩:∃x2,x2=p (r1+1):=⟨_,rfl⟩
    obtain ⟨y1,hy1⟩:∃y1,y1=f x1:=⟨_,rfl⟩
    obtain ⟨y2,hy2⟩:∃y2,y2=f x2:=⟨_,rfl⟩
    rw [←hx1] at p1 HC1
    rw [←hx2] at p2 HC2
    rw [←hy1] at HC1
    rw [←hy2] at HC2
    have HY1:Hid (y1=f (p r1)):=qz (by rw [hy1,hx1])
    have HY2:Hid (y2=f (p (r1+1))):=qz (by rw [hy2,hx2])
    clear hx1 hx2 hy1 hy2 hm1 hm2
    have hwr:IntKind.i64.wrap (r1:Int)=(r1:Int):=by rw [IntKind.wrap_i64];omega
    go_upto_region 6 with fail
    go_quiet (first|exact Calls.quiet_of (uh HC1 _)|exact Calls.quiet_of (uh HC2 _))
    by_cases hyy:y1=y2
    ·have t1:((y1:Int) != (y2:Int))=false:=by simp;omega
     have t2:(y1:Int)=(y2:Int):=by omega
     go_wp2_with fail
     go_roundg (c+1-(r1+1+1))
     case measure=>omega
     case rel =>
      refine ⟨cur,r1+1+1,ps,vp',rfl,by omega,by omega,rfl,by go_num,qz (by have:=uh HPL;omega),qz ?_,qz ((uh HT1).drewN nq),qz (uh HG1),qz ((uh HK1).drewN nq),HOB1,HOBG⟩
      rcases uh HC with ⟨_,h⟩|⟨h,_⟩
      ·exact .inl ⟨by omega,h.keep (by rw [show r1+1-1=r1 by omega,←uh HY1,←uh HY2,hyy])⟩
      ·omega
    ·have t1:((y1:Int) != (y2:Int))=true:=by simp;omega
     have t2:¬ (y1:Int)=(y2:Int):=by omega
     obtain ⟨wx,hwx⟩:∃wx,wx=wr.drewN nq:=⟨_,rfl⟩
     have HTX:Hid (TAt H wx tb pg rg n p R vo vp' os ps):=qz (by rw [hwx];exact (uh HT1).drewN nq)
     have HKX:Hid (Kp (fun k=>k=tb∨ob=some k) w wx):=qz (by rw [hwx];exact (uh HK1).drewN nq)
     have HGX:Hid (wx.heap[gb]?=some (.cells #[.int .i64 (a:Int),.int .i64 (c:Int)] 173 (0,0))):=qz (by rw [hwx];exact uh HG1)
     rw [←hwx]
     clear hwx HT1 HK1 HG1
     have z3:=(uh HTX).c3
     obtain ⟨i0,hii,hz0,hz1,hz2⟩:=info_parts x0v
     have HPO:=qz ((uh HTX).alloc (.cells #[.int .i64 (cur:Int),.int .i64 ((r1:Int)+1)] 173)).pc
     have HNW:=qz (z6y wx (iv (cur:Int)) (iv ((r1:Int)+1)) 173)
     have hbs:H≤(wx.alloc (.cells #[.int .i64 (cur:Int),.int .i64 ((r1:Int)+1)] 173)).heap.size:=by
      have:=(uh HTX).ht.1
      have:=z0d (uh HTX).blk
      simp
      omega
     have hpl2:ps.length+1≤1048576:=by have:=uh HPL;omega
     have HWS:Hid (wx.heap.size+1=(wx.alloc (.cells #[.int .i64 (cur:Int),.int .i64 ((r1:Int)+1)] 173)).heap.size):=qz (by simp)
     go_wp2_with (at_builtin;go_must (refine wpList_append_lies _ rfl _ _ 169 rfl H 173 i0 _ 2 16 Tryz.underlying169 hii hz0 hz1 hz2 rfl (by decide) vp' ps.length (gv ps) (by rfl) (uh HPO) ⟨wx.heap.size,0,none⟩ 1 1 [iv (cur:Int),iv ((r1:Int)+1)] (by rfl) rfl (uh HNW) (by intro u hu;simp at hu;rcases hu with rfl|rfl<;>rfl) (by omega) (by unfold maxLen;omega) (by omega) hbs (wx.heap.size+1) (uh HWS).symm ?_;intro g' cap' x2 h1 h2 h3 h4;have s1:x2.cell? ⟨tb,3,none⟩=some vp':=(World.cell?_of_block (z0w h2 (z0d (uh HTX).blk) (uh HTX).vp_t.1)).trans (uh HTX).c3;have s2:x2.frozen? ⟨tb,3,none⟩=false:=(World.frozen?_of_block (z0w h2 (z0d (uh HTX).blk) (uh HTX).vp_t.1)).trans ((uh HTX).fz 3);have H1:=qz h1;have H2:=qz h2;have H3:=qz h3;clear h1 h2 h3 h4))
     go_roundg (c+1-(r1+1+1))
     case measure=>omega
     case rel =>
      have hT3:=(uh HTX).pushP (a:=cur) (c:=r1+1) (by have:=uh H1;rw [show ((r1:Int)+1)=((r1+1:Nat):Int) by omega] at this;exact this) (uh H2) (uh H3)
      have hgw:gb<wx.heap.size:=z0d (uh HGX)
      have hvb:∀k,vp'.ownBlock=some k→ob=some k∨w.heap.size≤k:=uh HOB1
      refine ⟨r1+1,r1+1+1,ps++[(cur,r1+1)],_,rfl,by omega,by omega,by go_num,by go_num,qz (by rw [List.length_append];have:=uh HPL;simp;omega),qz ?_,qz hT3,qz ?_,qz ?_,qz fun k hk=>?_,qz fun k hk=>?_⟩
      ·rcases uh HC with ⟨_,h⟩|⟨h,_⟩
       ·exact .inl ⟨by omega,h.next (by rw [show r1+1-1=r1 by omega,←uh HY1,←uh HY2];exact hyy)⟩
       ·omega
      ·rw [heap_setCell_other _ _ _ _ (by show gb≠tb;omega),z0w (uh H2) hgw ?_]
       ·exact uh HGX
       ·intro e
        exact uh HOBG gb e rfl
      ·refine Kp.set ?_ 3 _ (.inl (.inl rfl))
       exact ((uh HKX).alloc _).grown (uh H2) fun k hk=>by
        rcases hvb k hk with q|q
        ·exact .inl (.inr q)
        ·exact .inr q
      ·simp [Value.ownBlock] at hk
       subst hk
       rcases uh H3 with q|q
       ·exact hvb _ q
       ·right;have:=(uh HKX).size;omega
      ·simp [Value.ownBlock] at hk
       subst hk
       rcases uh H3 with q|q
       ·exact uh HOBG _ q
       ·omega
  ·have tl:¬ (r1:Int)+1≤(c:Int):=by omega
   obtain ⟨xa,xc,rfl,_⟩:=z1w (uh HT1).pc
   have z3:=(uh HT1).c3
   have HCUT:Hid (Cut f p a c ps):=qz (by rcases uh HC with ⟨h,_⟩|⟨_,h⟩;omega;exact h)
   have hpsl:ps.length≤1048576:=by have:=uh HPL;omega
   go_wp2_with fail
   clear z3 tl
   go_loopg [76] ps.length (fun gk kv ws=>∃ (k:Nat) (Rk:Nat→Nat) (vo':Value),gk=ps.length-k∧k≤ps.length∧kv=.int .i64 (k:Int)∧Hid (TAt H ws tb pg rg n p Rk vo' (.slice xa ps.length xc) (os++wide (ps.take k)) ps)∧Hid (Ranked n p R Rk a c (ps.take k))∧Hid (Kp (fun k=>k=tb∨k=rg∨vo.ownBlock=some k∨ob=some k) w ws)∧Hid (∀k,vo'.ownBlock=some k→vo.ownBlock=some k∨w.heap.size≤k))
   case atStart =>
    refine ⟨0,R,vo,rfl,by omega,rfl,qz ?_,qz ⟨fun q hq=>by simp at hq,fun x _ _=>rfl⟩,qz ((uh HK1).mono fun k _ h=>?_),qz fun k hk=>.inl hk⟩
    ·rw [List.take_zero,show wide []=[] from rfl,List.append_nil];exact uh HT1
    ·rcases h with h|h
     ·exact .inl h
     ·exact .inr (.inr (.inr h))
   case round =>
    clear HT1 HG1 HK1 g0 g1 k1
    obtain ⟨k,Rk,vo',rfl,hk,rfl,HT2,HRK,HK2,HVO⟩:=hrel
    rename World=>wk
    by_cases hkl:k<ps.length
    ·have tk:(k:Int)<(ps.length:Int):=by omega
     obtain ⟨_,_,e,hgr⟩:=z1w (uh HT2).pc
     injection e with e1 e2 e3
     subst e1 e3
     obtain ⟨g,rfl,hgo2,d1,d2⟩:=hgr k hkl
     rw [Nat.mul_comm] at d1 d2
     obtain ⟨q,hq⟩:∃q,q=ps.getD k (0,0):=⟨_,rfl⟩
     rw [←hq] at d1 d2
     have HQ:=qz hq
     have hrg:=(uh HCUT).rng q (by rw [hq,List.getD_eq_getElem?_getD,List.getElem?_eq_getElem hkl];exact List.getElem_mem _)
     clear hq hgr
     obtain ⟨q1,q2⟩:=q
     dsimp only at hrg d1 d2
     have z0:(wk.alloc (.cells #[.int .i64 0,.int .i64 0] 173)).cell? ⟨wk.heap.size,0,none⟩=some (.int .i64 0):=by simp only [World.cell?,heap_alloc_new];rfl
     have z1:(wk.alloc (.cells #[.int .i64 0,.int .i64 0] 173)).cell? ⟨wk.heap.size,1,none⟩=some (.int .i64 0):=by simp only [World.cell?,heap_alloc_new];rfl
     have z2:∀o,(wk.alloc (.cells #[.int .i64 0,.int .i64 0] 173)).frozen? ⟨wk.heap.size,o,none⟩=false:=fun o=>by simp only [World.frozen?,heap_alloc_new];simp
     go_upto_region 12 with fail
     obtain ⟨pb,hpb⟩:∃pb,pb=wk.heap.size:=⟨_,rfl⟩
     obtain ⟨W3,hW3⟩:∃W3,W3=wk.alloc (.cells #[.int .i64 (q1:Int),.int .i64 (q2:Int)] 173):=⟨_,rfl⟩
     have HT3:Hid (TAt H W3 tb pg rg n p Rk vo' (.slice (some ⟨g,0,none⟩) ps.length xc) (os++wide (ps.take k)) ps):=qz (by rw [hW3];exact (uh HT2).alloc _)
     have HP3:Hid (W3.heap[pb]?=some (.cells #[.int .i64 (q1:Int),.int .i64 (q2:Int)] 173 (0,0))):=qz (by rw [hW3,hpb];exact heap_alloc_new _ _)
     have HK3:Hid (Kp (fun k=>k=tb∨k=rg∨vo.ownBlock=some k∨ob=some k) w W3):=qz (by rw [hW3];exact (uh HK2).alloc _)
     have hpbr:rg<pb∧tb<pb∧pg<pb:=by rw [hpb];exact ⟨(uh HT2).rk.lt,z0d (uh HT2).blk,(uh HT2).pl.lt⟩
     have HPV:Hid (∀k,vo'.ownBlock=some k→k<pb):=qz fun k hk=>by rw [hpb];exact ((uh HT2).op.lt k hk).2
     have HPP:Hid (g<pb):=qz (by rw [hpb];exact ((uh HT2).pc.lt g rfl).2)
     have hpw:w.heap.size≤pb:=by rw [hpb];exact (uh HK2).size
     have HRI:Hid (Ranked n p R Rk a c (ps.take k++[(q1,q1+0)])):=qz ⟨fun q hq r h1 h2=>by
      rcases List.mem_append.1 hq with hq|hq
      ·exact (uh HRK).new q hq r h1 h2
      ·simp at hq;subst hq;dsimp only at h1 h2;omega,(uh HRK).old⟩
     rw [←hW3,←hpb]
     clear hW3 hpb z0 z1 z2 d1 d2 HT2 HK2 HRK hgo2
     have t0:∀q,(W3.drewN q).cell? ⟨tb,0,none⟩=some (.slice (some ⟨pg,0,none⟩) n n):=fun q=>(uh HT3).c0
     have t1:∀q,(W3.drewN q).cell? ⟨pb,0,none⟩=some (.int .i64 (q1:Int)):=fun q=>by show W3.cell? _=_;simp [World.cell?,uh HP3]
     have t2:∀q,(W3.drewN q).cell? ⟨pb,1,none⟩=some (.int .i64 (q2:Int)):=fun q=>by show W3.cell? _=_;simp [World.cell?,uh HP3]
     have b1:(q1:Int)≤(q2:Int):=by omega
     have b2:(q2:Int)≤(n:Int):=by omega
     have b3:¬n=q1:=by omega
     have b4:(q1:Int)≤(n:Int):=by omega
     have b5:q1≤q2:=by omega
     have b6:q2≤n:=by omega
     go_quiet (fail)
     go_wp2_with fail
     clear t0 t1 t2
     obtain ⟨m,hm⟩:∃m,m=q2-q1:=⟨_,rfl⟩
     rw [←hm]
     go_loopg [90] m (fun gk iv' ws=>∃ (i:Nat) (Ri:Nat→Nat),gk=m-i∧i≤m∧iv'=.int .i64 (i:Int)∧Hid (TAt H ws tb pg rg n p Ri vo' (.slice (some ⟨g,0,none⟩) ps.length xc) (os++wide (ps.take k)) ps)∧Hid (ws.heap[pb]?=some (.cells #[.int .i64 (q1:Int),.int .i64 (q2:Int)] 173 (0,0)))∧Hid (Kp (fun k=>k=tb∨k=rg∨vo.ownBlock=some k∨ob=some k) w ws)∧Hid (Ranked n p R Ri a c (ps.take k++[(q1,q1+i)])))
     case atStart=>exact ⟨0,Rk,rfl,by omega,rfl,qz ((uh HT3).drewN nq),HP3,qz ((uh HK3).drewN nq),HRI⟩
     case round =>
      clear HT3 HP3 HK3 HRI
      obtain ⟨i,Ri,rfl,him,rfl,HT3,HP3,HK3,HRI⟩:=hrel
      rename World=>wi
      by_cases hil:i<m
      ·have ti:(i:Int)<(m:Int):=by omega
       have d1:=(uh HT3).pl.cell (q1+i) (by omega)
       have hx:=uh HM (q1+i) (by omega)
       have t1:wi.cell? ⟨tb,1,none⟩=some (.slice (some ⟨rg,0,none⟩) n n):=(uh HT3).c1
       have t2:wi.cell? ⟨pb,0,none⟩=some (.int .i64 (q1:Int)):=by simp [World.cell?,uh HP3]
       obtain ⟨x,hxe⟩:∃x,x=p (q1+i):=⟨_,rfl⟩
       rw [←hxe] at d1 hx
       have HXE:=qz hxe
       clear hxe
       have t3:wi.cell? ⟨rg,x,none⟩=some (.int .i64 ((Ri x:Nat):Int)):=(uh HT3).rk.cell x hx
       have t4:wi.frozen? ⟨rg,x,none⟩=false:=(uh HT3).rk.free x
       have hxi:(x:Int)<(n:Int):=by omega
       go_wp2_with fail
       go_region
       go_wp2_with fail
       go_roundg (m-(i+1))
       case measure=>omega
       case rel =>
        refine ⟨i+1,upd Ri x q1,rfl,by omega,by go_num,qz (((uh HT3).drewN 1).setRank x q1),qz ?_,qz (((uh HK3).drewN 1).set x _ (.inl (.inr (.inl rfl)))),qz ?_⟩
        ·show (wi.setCell ⟨rg,x,none⟩ (.int .i64 (q1:Int))).heap[pb]?=_
         rw [heap_setCell_other _ _ _ _ (by show pb≠rg;omega)]
         exact uh HP3
        ·rw [uh HXE]
         exact x2s (f:=f) (q2:=q2) (ps:=ps) (uh HRI) (uh HJ) hc (by omega) (y9m (uh HCUT) hkl (uh HQ))
      ·obtain rfl:i=m:=by omega
       have ti:¬ (i:Int)<(i:Int):=by omega
       have t1:wi.cell? ⟨pb,0,none⟩=some (.int .i64 (q1:Int)):=by simp [World.cell?,uh HP3]
       have t2:wi.cell? ⟨pb,1,none⟩=some (.int .i64 (q2:Int)):=by simp [World.cell?,uh HP3]
       have HRN:Hid (Ranked n p R Ri a c (ps.take (k+1))):=qz (by
        have h:=uh HRI
        rw [z2o hkl (uh HQ)]
        rw [show q1+i=q2 by omega] at h
        exact h)
       have HWD:=qz (x3x (ps.take k) (q1,q2))
       rw [←z2o hkl (uh HQ)] at HWD
       by_cases hwd:1<q2-q1
       ·have w1:1<(q2:Int)-(q1:Int):=by omega
        rw [if_pos hwd] at HWD
        go_upto_region 18 with fail
        obtain ⟨L,hL⟩:∃L,L=os++wide (ps.take k):=⟨_,rfl⟩
        have hLl:L.length+1≤1000000000:=by rw [hL,List.length_append];have h1:=w0h (ps.take k);rw [List.length_take] at h1;omega
        rw [←hL] at HT3
        have HLL:=qz hL
        clear hL
        refine wp_region_noPanic ?_
        refine wp_region_held_drew (S:=fun x=>x.heap[pb]?=some (.cells #[.int .i64 (q1:Int),.int .i64 (q2:Int)] 173 (0,0))) (by kernel_rfl) (uh HP3) (fun hHeld=>?_)
        obtain ⟨x1,hx1⟩:∃x1,x1=wi.drew:=⟨_,rfl⟩
        have HTX:Hid (TAt H x1 tb pg rg n p Ri vo' (.slice (some ⟨g,0,none⟩) ps.length xc) L ps):=qz (by rw [hx1];exact (uh HT3).drewN 1)
        have HKX:Hid (Kp (fun k=>k=tb∨k=rg∨vo.ownBlock=some k∨ob=some k) w x1):=qz (by rw [hx1];exact (uh HK3).drewN 1)
        have HPV2:Hid (vo'.ownBlock≠some pb):=qz fun e=>by have:=uh HPV pb e;omega
        show wpAnyH _ _ _ _ _ _ _ _ wi.drew
        rw [←hx1] at hHeld ⊢
        have HBS:Hid (H≤(x1.alloc (.cells #[.int .i64 (q1:Int),.int .i64 (q2:Int)] 173)).heap.size):=qz (by have:=(uh HTX).ht.1;have:=z0d (uh HTX).blk;simp;omega)
        clear hx1 HT3 HK3 HP3 t1 t2
        refine hT 0 109 rfl rfl hHeld nPp (v:=?_) (fun x hSx=>?_) ?_
        rotate_left 1
        ·go_simp<;>with_reducible rfl
        simp only [sA,sB]
        refine hT 1 110 rfl rfl hHeld nPp (v:=?_) (fun x hSx=>?_) ?_
        rotate_left 1
        ·go_simp<;>with_reducible rfl
        simp only [sA,sB]
        refine hT 2 111 rfl rfl hHeld nPp (v:=?_) (fun x hSx=>?_) ?_
        rotate_left 1
        ·go_simp<;>with_reducible rfl
        simp only [sA,sB]
        refine hT 3 112 rfl rfl hHeld nPp (v:=?_) (fun x hSx=>?_) ?_
        rotate_left 1
        ·go_simp<;>with_reducible rfl
        simp only [sA,sB]
        refine hT 5 114 rfl rfl hHeld nPp (v:=?_) (fun x hSx=>?_) ?_
        rotate_left 1
        ·(have s0:x.cell? ⟨pb,0,none⟩=some (.int .i64 (q1:Int)):=by simp [World.cell?,hSx]);(have s1:x.cell? ⟨pb,1,none⟩=some (.int .i64 (q2:Int)):=by simp [World.cell?,hSx]);clear hSx;go_simp<;>with_reducible rfl
        simp only [sA,sB]
        refine z1i (i:=4) (j:=6) (by kernel_rfl) rfl rfl (fun K hK=>?_) (fun K hK=>?_)
        ·refine z0l 4 113 hK rfl (by rfl) (v:=vo') (w':=x1) ?_ hHeld ?_
         ·have q0:=(uh HTX).c2;go_simp
         simp only [sA,sB]
         refine hO 6 115 rfl rfl (v:=.slice (some ⟨x1.heap.size,0,none⟩) 1 1) (w':=(x1.alloc (.cells #[.int .i64 (q1:Int),.int .i64 (q2:Int)] 173))) ?_ (by rw [Below.heap_alloc _ _ _ (z0d hHeld)];exact hHeld) ?_
         ·go_simp<;>exact ⟨rfl,rfl⟩
         simp only [sA,sB]
         refine z0u 7 116 (.tmp 113) (.tmp 115) (by kernel_rfl) rfl rfl (by rfl) rfl rfl H vo' L.length (gv L) (by rfl) ((uh HTX).alloc _).op ⟨x1.heap.size,0,none⟩ (q1:Int) (q2:Int) (by rfl) (z6y x1 _ _ 173) (by omega) (uh HBS) (x1.heap.size+1) (by simp) (fun x' hg'=>by rw [z0w hg' (z0d hHeld) (uh HPV2)];exact hHeld) ?_
         intro g' cap' x2 h1 h2 h3 h4
         simp only [sA,sB]
         have e2:x2.heap[pb]?=some (.cells #[.int .i64 (q1:Int),.int .i64 (q2:Int)] 173 (0,0)):=by rw [z0w h2 (z0d hHeld) (uh HPV2)];exact hHeld
         have hgb2:=z0w h2 (z0d (uh HTX).blk) (uh HTX).vo_t.1
         have s1:x2.cell? ⟨tb,2,none⟩=some vo':=(World.cell?_of_block hgb2).trans (uh HTX).c2
         have s2:x2.frozen? ⟨tb,2,none⟩=false:=(World.frozen?_of_block hgb2).trans ((uh HTX).fz 2)
         have hT4:=(uh HTX).pushO h1 h2 h3
         have hK4:Kp (fun k=>k=tb∨k=rg∨vo.ownBlock=some k∨ob=some k) w (x2.setCell ⟨tb,2,none⟩ (.slice (some ⟨g',0,none⟩) (L.length+1) cap')):=(((uh HKX).alloc _).grown h2 (fun k hk=>by rcases uh HVO k hk with q|q;exact .inl (.inr (.inr (.inl q)));exact .inr q)).set 2 _ (.inl (.inl rfl))
         have HT4:=qz hT4
         have HK4:=qz hK4
         have H3:=qz h3
         have HSX:Hid (w.heap.size≤x1.heap.size):=qz (uh HKX).size
         clear h1 h2 h3 h4 hgb2 hT4 hK4 hHeld
         have hHeld:=e2
         refine hT 8 117 rfl rfl hHeld nPp (v:=?_) (fun x hSx=>?_) ?_
         rotate_left 1
         ·go_simp<;>with_reducible rfl
         simp only [sA,sB]
         refine hT 9 118 rfl rfl hHeld nPp (v:=?_) (fun x hSx=>?_) ?_
         rotate_left 1
         ·go_simp<;>with_reducible rfl
         simp only [sA,sB]
         refine hKk 10 rfl rfl (w':=x2.setCell ⟨tb,2,none⟩ (.slice (some ⟨g',0,none⟩) (L.length+1) cap')) ?_ ?_ ?_
         ·go_simp
         ·rw [heap_setCell_other _ _ _ _ (by show pb≠tb;omega)];exact e2
         refine dN ?_
         clear hHeld e2 s1 s2
         obtain ⟨x3,hx3⟩:∃x3,x3=x2.setCell ⟨tb,2,none⟩ (.slice (some ⟨g',0,none⟩) (L.length+1) cap'):=⟨_,rfl⟩
         rw [←hx3] at HT4 HK4 ⊢
         clear hx3
         go_wp2_with fail
         go_roundg (ps.length-(k+1))
         case measure=>omega
         case rel =>
          refine ⟨k+1,Ri,_,rfl,by omega,by go_num,qz (by rw [uh HWD,←List.append_assoc,←uh HLL];exact uh HT4),HRN,HK4,qz fun k' hk'=>?_⟩
          simp [Value.ownBlock] at hk'
          subst hk'
          rcases uh H3 with q|q
          ·exact uh HVO _ q
          ·right;have:=uh HSX;omega
        ·refine z0l 6 115 hK rfl (by rfl) (v:=.slice (some ⟨x1.heap.size,0,none⟩) 1 1) (w':=(x1.alloc (.cells #[.int .i64 (q1:Int),.int .i64 (q2:Int)] 173))) ?_ (by rw [Below.heap_alloc _ _ _ (z0d hHeld)];exact hHeld) ?_
         ·go_simp<;>exact ⟨rfl,rfl⟩
         simp only [sA,sB]
         refine hO 4 113 rfl rfl (v:=vo') (w':=(x1.alloc (.cells #[.int .i64 (q1:Int),.int .i64 (q2:Int)] 173))) ?_ (by rw [Below.heap_alloc _ _ _ (z0d hHeld)];exact hHeld) ?_
         ·have q0:=((uh HTX).alloc (.cells #[.int .i64 (q1:Int),.int .i64 (q2:Int)] 173)).c2;go_simp
         simp only [sA,sB]
         refine z0u 7 116 (.tmp 113) (.tmp 115) (by kernel_rfl) rfl rfl (by rfl) rfl rfl H vo' L.length (gv L) (by rfl) ((uh HTX).alloc _).op ⟨x1.heap.size,0,none⟩ (q1:Int) (q2:Int) (by rfl) (z6y x1 _ _ 173) (by omega) (uh HBS) (x1.heap.size+1) (by simp) (fun x' hg'=>by rw [z0w hg' (z0d hHeld) (uh HPV2)];exact hHeld) ?_
         intro g' cap' x2 h1 h2 h3 h4
         simp only [sA,sB]
         have e2:x2.heap[pb]?=some (.cells #[.int .i64 (q1:Int),.int .i64 (q2:Int)] 173 (0,0)):=by rw [z0w h2 (z0d hHeld) (uh HPV2)];exact hHeld
         have hgb2:=z0w h2 (z0d (uh HTX).blk) (uh HTX).vo_t.1
         have s1:x2.cell? ⟨tb,2,none⟩=some vo':=(World.cell?_of_block hgb2).trans (uh HTX).c2
         have s2:x2.frozen? ⟨tb,2,none⟩=false:=(World.frozen?_of_block hgb2).trans ((uh HTX).fz 2)
         have hT4:=(uh HTX).pushO h1 h2 h3
         have hK4:Kp (fun k=>k=tb∨k=rg∨vo.ownBlock=some k∨ob=some k) w (x2.setCell ⟨tb,2,none⟩ (.slice (some ⟨g',0,none⟩) (L.length+1) cap')):=(((uh HKX).alloc _).grown h2 (fun k hk=>by rcases uh HVO k hk with q|q;exact .inl (.inr (.inr (.inl q)));exact .inr q)).set 2 _ (.inl (.inl rfl))
         have HT4:=qz hT4
         have HK4:=qz hK4
         have H3:=qz h3
         have HSX:Hid (w.heap.size≤x1.heap.size):=qz (uh HKX).size
         clear h1 h2 h3 h4 hgb2 hT4 hK4 hHeld
         have hHeld:=e2
         refine hT 8 117 rfl rfl hHeld nPp (v:=?_) (fun x hSx=>?_) ?_
         rotate_left 1
         ·go_simp<;>with_reducible rfl
         simp only [sA,sB]
         refine hT 9 118 rfl rfl hHeld nPp (v:=?_) (fun x hSx=>?_) ?_
         rotate_left 1
         ·go_simp<;>with_reducible rfl
         simp only [sA,sB]
         refine hKk 10 rfl rfl (w':=x2.setCell ⟨tb,2,none⟩ (.slice (some ⟨g',0,none⟩) (L.length+1) cap')) ?_ ?_ ?_
         ·go_simp
         ·rw [heap_setCell_other _ _ _ _ (by show pb≠tb;omega)];exact e2
         refine dN ?_
         clear hHeld e2 s1 s2
         obtain ⟨x3,hx3⟩:∃x3,x3=x2.setCell ⟨tb,2,none⟩ (.slice (some ⟨g',0,none⟩) (L.length+1) cap'):=⟨_,rfl⟩
         rw [←hx3] at HT4 HK4 ⊢
         clear hx3
         go_wp2_with fail
         go_roundg (ps.length-(k+1))
         case measure=>omega
         case rel =>
          refine ⟨k+1,Ri,_,rfl,by omega,by go_num,qz (by rw [uh HWD,←List.append_assoc,←uh HLL];exact uh HT4),HRN,HK4,qz fun k' hk'=>?_⟩
          simp [Value.ownBlock] at hk'
          subst hk'
          rcases uh H3 with q|q
          ·exact uh HVO _ q
          ·right;have:=uh HSX;omega
       ·have w1:¬1<(q2:Int)-(q1:Int):=by omega
        rw [if_neg hwd] at HWD
        go_wp2_with fail
        go_roundg (ps.length-(k+1))
        case measure=>omega
        case rel=>exact ⟨k+1,Ri,vo',rfl,by omega,by go_num,qz (by rw [uh HWD];exact uh HT3),HRN,HK3,HVO⟩
    ·obtain rfl:k=ps.length:=by omega
     have tk:¬ (ps.length:Int)<(ps.length:Int):=by omega
     have z3:=(uh HT2).c3
     go_wp2_with fail
     go_ret
     refine ⟨ps,Rk,vo',.slice xa ps.length xc,?_,uh HCUT,?_,?_,?_,uh HVO,?_⟩
     ·show Ending.returned (.bool (decide (1<(ps.length:Int))))=_
      rw [show decide (1<(ps.length:Int))=decide (1<ps.length) from decide_eq_decide.2 (by omega)]
     ·rw [List.take_length] at HRK;exact uh HRK
     ·rw [List.take_length] at HT2;exact uh HT2
     ·rw [←uh HOB];exact uh HK2
     ·rw [←uh HOB];exact uh HOB1
end X10
namespace X10
open Go.RowKit Suf Go.Sort
structure TbAt (w:World) (tb rg n:Nat) (R:Nat→Nat):Prop where
 c1:w.cell? ⟨tb,1,none⟩=some (.slice (some ⟨rg,0,none⟩) n n)
 rk:z0a w .i64 3 rg n R
theorem y9x (x n:Nat) (R:Nat→Nat) (tx tb rg:Nat) (w:World) (htx:w.cell? ⟨tx,0,none⟩=some (.pointer (some ⟨tb,0,none⟩))) (hT:TbAt w tb rg n R) (hx:x<n) :
  Calls Tryz.prog 138 #[.int .i64 (x:Int),.pointer (some ⟨tx,0,none⟩)] w fun e w'=>e=.returned (.int .i64 (R x:Int))∧∃q,w'=w.drewN q:=by
 have c1:=hT.c1
 have c2:=hT.rk.cell x hx
 have hxi:(x:Int)<(n:Int):=by omega
 generalize R x=y at *
 clear hT
 go_enter Tryz.func138,Tryz.ntmps138
 go_wp2_with fail
 go_ret
 exact ⟨rfl,0,rfl⟩
theorem y0s (x h n:Nat) (R:Nat→Nat) (ax tx tb rg:Nat) (w:World) (hax:w.cell? ⟨ax,0,none⟩=some (.int .i64 (h:Int))) (htx:w.cell? ⟨tx,0,none⟩=some (.pointer (some ⟨tb,0,none⟩))) (hT:TbAt w tb rg n R) (hx:x<n) (hh:h<n) (hn:n≤1048576) :
  Calls Tryz.prog 139 #[.int .i64 (x:Int),.pointer (some ⟨ax,0,none⟩),.pointer (some ⟨tx,0,none⟩)] w fun e w'=>e=.returned (.int .i64 (R ((x+h)%n):Int))∧∃q,w'=w.drewN q:=by
 have c1:=hT.c1
 by_cases hg:n≤x+h
 ·have e1:(x+h)%n=x+h-n:=by rw [Nat.mod_eq_sub_mod hg,Nat.mod_eq_of_lt (by omega)]
  obtain ⟨z,hz⟩:∃z,x+h=z+n:=⟨x+h-n,by omega⟩
  have e2:(x+h)%n=z:=by omega
  have c2:=hT.rk.cell z (by omega)
  rw [e2]
  generalize R z=y at *
  have hz':(x:Int)+(h:Int)=(z:Int)+(n:Int):=by omega
  have f1:(n:Int)≤(x:Int)+(h:Int):=by omega
  have f2:(n:Int)≤(z:Int)+(n:Int):=by omega
  have f3:(z:Int)<(n:Int):=by omega
  have f4:((z:Int)+(n:Int)-(n:Int))=(z:Int):=by omega
  have f5:IntKind.i64.wrap (z:Int)=(z:Int):=by rw [IntKind.wrap_i64];omega
  have f6:IntKind.i64.wrap ((z:Int)+(n:Int))=(z:Int)+(n:Int):=by rw [IntKind.wrap_i64];omega
  clear hT e1 e2
  go_enter Tryz.func139,Tryz.ntmps139
  go_wp2_with fail
  go_ret
  exact ⟨rfl,0,rfl⟩
 ·have e2:(x+h)%n=x+h:=Nat.mod_eq_of_lt (by omega)
  have c2:=hT.rk.cell (x+h) (by omega)
  rw [e2]
  obtain ⟨z,hz⟩:∃z,x+h=z:=⟨_,rfl⟩
  rw [hz] at c2 ⊢
  generalize R z=y at *
  have hz':(x:Int)+(h:Int)=(z:Int):=by omega
  have f1:¬ (n:Int)≤(z:Int):=by omega
  have f3:(z:Int)<(n:Int):=by omega
  have f5:IntKind.i64.wrap (z:Int)=(z:Int):=by rw [IntKind.wrap_i64];omega
  clear hT e2
  go_enter Tryz.func139,Tryz.ntmps139
  go_wp2_with fail
  go_ret
  exact ⟨rfl,0,rfl⟩
theorem TbAt.drewN {w:World} {tb rg n:Nat} {R:Nat→Nat} (h:TbAt w tb rg n R) (q:Nat):TbAt (w.drewN q) tb rg n R:=⟨h.c1,h.rk⟩
theorem y9c (x y h n:Nat) (R:Nat→Nat) (rx ax tx tb rg:Nat) (w:World) (hrx:w.cell? ⟨rx,0,none⟩=some (.func (.func 139) #[] #[.pointer (some ⟨ax,0,none⟩),.pointer (some ⟨tx,0,none⟩)])) (hax:w.cell? ⟨ax,0,none⟩=some (.int .i64 (h:Int))) (htx:w.cell? ⟨tx,0,none⟩=some (.pointer (some ⟨tb,0,none⟩))) (hT:TbAt w tb rg n R) (hx:x<n) (hy:y<n) (hh:h<n) (hn:n≤1048576) :
  Calls Tryz.prog 141 #[.int .i64 (x:Int),.int .i64 (y:Int),.pointer (some ⟨rx,0,none⟩)] w fun e w'=>e=.returned (.int .i64 (Lib.compareInt (R ((x+h)%n):Int) (R ((y+h)%n):Int)))∧∃q,w'=w.drewN q:=by
 have H1:Hid (∀q,Calls Tryz.prog 139 #[.int .i64 (x:Int),.pointer (some ⟨ax,0,none⟩),.pointer (some ⟨tx,0,none⟩)] (w.drewN q) fun e w'=>e=.returned (.int .i64 (R ((x+h)%n):Int))∧∃q',w'=(w.drewN q).drewN q'):=qz fun q=>y0s x h n R ax tx tb rg (w.drewN q) hax htx (hT.drewN q) hx hh hn
 have H2:Hid (∀q,Calls Tryz.prog 139 #[.int .i64 (y:Int),.pointer (some ⟨ax,0,none⟩),.pointer (some ⟨tx,0,none⟩)] (w.drewN q) fun e w'=>e=.returned (.int .i64 (R ((y+h)%n):Int))∧∃q',w'=(w.drewN q).drewN q'):=qz fun q=>y0s y h n R ax tx tb rg (w.drewN q) hax htx (hT.drewN q) hy hh hn
 generalize R ((x+h)%n)=u at *
 generalize R ((y+h)%n)=v at *
 have H3:Hid (∀q,Calls Tryz.prog 142 #[.int .i64 (u:Int),.int .i64 (v:Int)] (w.drewN q) fun e w'=>e=.returned (.int .i64 (Lib.compareInt (u:Int) (v:Int)))∧w'=w.drewN q):=qz fun q=>Tryz.cmp_Compare_int _ _ _
 have g1:∀q,(w.drewN q).cell? ⟨rx,0,none⟩=some (.func (.func 139) #[] #[.pointer (some ⟨ax,0,none⟩),.pointer (some ⟨tx,0,none⟩)]):=fun q=>hrx
 clear hrx hax htx hT
 go_enter Tryz.func141,Tryz.ntmps141
 go_upto_region 1 with fail
 go_quiet (first|(go_at_call 142;exact Calls.quiet_of_same (uh H3 _))|(go_at_call_of 139 (Value.int .i64 (x:Int));exact Calls.quiet_of (uh H1 _))|(go_at_call_of 139 (Value.int .i64 (y:Int));exact Calls.quiet_of (uh H2 _)))
 go_wp2_with fail
 go_ret
 exact ⟨rfl,_,rfl⟩
end X10
namespace X10
open Go.RowKit Suf Go.Sort
theorem x7t (a b:Nat):decide (Lib.compareInt (a:Int) (b:Int)<0)=decide (a<b):=by
 unfold Lib.compareInt
 by_cases h:a<b
 ·have h':(a:Int)<(b:Int):=by omega
  simp [h,h']
 ·have h':¬ (a:Int)<(b:Int):=by omega
  by_cases h2:(b:Int)<(a:Int)
  ·simp [h,h',h2]
  ·simp [h,h',h2]
theorem x9b {α:Type} (k:α→Nat):SWO (ltOf fun x y:α=>Lib.compareInt (k x:Int) (k y:Int)):=by
 have e:∀x y,ltOf (fun x y:α=>Lib.compareInt (k x:Int) (k y:Int)) x y=decide (k x<k y):=fun x y=>x7t _ _
 refine ⟨fun x=>?_,fun x y z=>?_,fun x y z=>?_⟩
 ·rw [e];simp
 ·rw [e,e,e];simp;omega
 ·rw [e,e,e];simp;omega
theorem z8s (p:Nat→Nat) (a c:Nat):(seg p a c).length=c-a:=by simp [seg]
theorem x2z (p:Nat→Nat) (a c j:Nat) (hj:j<c-a):(seg p a c).getD j 0=p (a+j):=by
 unfold seg
 rw [List.getD_eq_getElem?_getD,List.getElem?_map,List.getElem?_range hj]
 rfl
def x7r (w:World) (pg n:Nat) (p:Nat→Nat) (a c:Nat) (le:Nat→Nat→Prop) (e:Ending) (w':World):Prop :=
 e=.returned (.tuple #[])∧∃p',Perm n p p' a c∧(∀r s,a≤r→r<s→s<c→le (p' r) (p' s))∧z0a w' .i64 3 pg n p'∧Kp (fun k=>k=pg) w w'
def fin (n:Nat) (hn:0<n) (x:Nat):Fin n:=⟨x%n,Nat.mod_lt _ hn⟩
theorem x6t (w:World) (tb pg rg n:Nat) (p R:Nat→Nat) (a c h cap rx ax tx:Nat) (hpl:z0a w .i64 3 pg n p) (hT:TbAt w tb rg n R) (hrx:w.cell? ⟨rx,0,none⟩=some (.func (.func 139) #[] #[.pointer (some ⟨ax,0,none⟩),.pointer (some ⟨tx,0,none⟩)])) (hax:w.cell? ⟨ax,0,none⟩=some (.int .i64 (h:Int))) (htx:w.cell? ⟨tx,0,none⟩=some (.pointer (some ⟨tb,0,none⟩)))
  (hd:tb≠pg∧rg≠pg∧rx≠pg∧ax≠pg∧tx≠pg) (hac:a<c) (hc:c≤n) (hh:h<n) (hn:n≤1048576) (hmem:∀r,r<n→p r<n) (hinj:∀r s,r<n→s<n→p r=p s→r=s) :
  Calls Tryz.prog 140 #[.slice (some ⟨pg,a,none⟩) (c-a) cap,.func (.func 141) #[] #[.pointer (some ⟨rx,0,none⟩)]] w fun e w'=>x7r w pg n p a c (fun x y=>R ((x+h)%n)≤R ((y+h)%n)) e w':=by
 have hn0:0<n:=by omega
 letI:Inhabited (Fin n):=⟨⟨0,hn0⟩⟩
 have hd1:(((seg p a c).map (fin n hn0)).toArray).size=c-a:=by simp [z8s]
 have hfin:∀j,j<c-a→(((seg p a c).map (fin n hn0)).toArray)[j]! = fin n hn0 (p (a+j)):=fun j hj=>by
  rw [getElem!_pos _ j (by rw [hd1];exact hj)]
  have:=x2z p a c j hj
  rw [getD_get! (by rw [z8s];exact hj)] at this
  simp only [List.getElem_toArray,List.getElem_map,this]
 have key:=Tryz.slices_SortFunc (α:=Fin n) (fun x=>Value.int .i64 ((x.val:Nat):Int)) (fun _=>rfl) (fun x y=>Lib.compareInt (R ((x.val+h)%n):Int) (R ((y.val+h)%n):Int)) (x9b fun x:Fin n=>R ((x.val+h)%n)) 141 #[.pointer (some ⟨rx,0,none⟩)] pg a cap ((seg p a c).map (fin n hn0)).toArray w Tryz.call141 ?_ ?_ hpl.lt (by rw [hd1];omega)
 ·rw [hd1] at key
  refine key.mono ?_
  rintro e w' ⟨rfl,d',m,os,hp,hs,rfl⟩
  have hsz:d'.size=c-a:=by rw [hp.1,hd1]
  have hg:=z7r (fun x:Fin n=>Value.int .i64 ((x.val:Nat):Int)) (fun x=>x.val) w pg n a c m p d' os hpl (fun _ _=>rfl) hsz (by omega) hc
  have hperm:(d'.toList.map fun x=>x.val).Perm (seg p a c):=by
   have h1:=hp.2.2
   have e1:d'.extract 0 (c-a)=d':=by rw [←hsz];simp
   have e2:(((seg p a c).map (fin n hn0)).toArray).extract 0 (c-a)=((seg p a c).map (fin n hn0)).toArray:=by
    apply Array.ext_getElem?
    intro i
    rw [Array.getElem?_extract]
    by_cases hi:i<c-a
    ·rw [if_pos (by rw [hd1];omega),Nat.zero_add]
    ·rw [if_neg (by rw [hd1];omega),Array.getElem?_eq_none (by rw [hd1];omega)]
   rw [e1,e2] at h1
   have h2:=h1.map fun x:Fin n=>x.val
   refine h2.trans ?_
   have e3:(((seg p a c).map (fin n hn0)).toArray.toList.map fun x=>x.val)=seg p a c:=by
    rw [List.toList_toArray,List.map_map]
    refine (List.map_congr_left (g:=id) fun x hx=>?_).trans (List.map_id _)
    obtain ⟨s,h3,h4,rfl⟩:=y5q.1 hx
    exact Nat.mod_eq_of_lt (hmem s (by omega))
   rw [e3]
  refine ⟨rfl,_,y6w (by omega) hc hinj hperm,fun r s h1 h2 h3=>?_,hg.1,hg.2⟩
  have hv:∀r,a≤r→r<c→segP p a c (d'.toList.map fun x=>x.val) r=(d'[r-a]!).val:=fun r h1 h2=>by
   unfold segP
   rw [if_pos ⟨h1,h2⟩,List.getD_eq_getElem?_getD,List.getElem?_map,Array.getElem?_toList,Array.getElem?_eq_getElem (show r-a<d'.size by omega),getElem!_pos d' (r-a) (by omega)]
   rfl
  have h4:=hs (r-a) (s-a) (Nat.zero_le _) (by omega) (by omega)
  rw [hv r h1 (by omega),hv s (by omega) h3]
  unfold ltOf at h4
  rw [x7t] at h4
  simpa using h4
 ·intro m os dk hsz x y
  rw [hd1] at hsz
  have hg:=z7r (fun x:Fin n=>Value.int .i64 ((x.val:Nat):Int)) (fun x=>x.val) w pg n a c m p dk os hpl (fun _ _=>rfl) hsz (by omega) hc
  have hk:∀{ad:Addr} {v:Value},w.cell? ad=some v→ad.block≠pg→(sortWorld (fun x:Fin n=>Value.int .i64 ((x.val:Nat):Int)) w pg a m dk os).cell? ad=some v:=fun hcell hne=>hg.2.cell hcell hne
  have h1:=y9c x.val y.val h n R rx ax tx tb rg (sortWorld (fun x:Fin n=>Value.int .i64 ((x.val:Nat):Int)) w pg a m dk os) (hk hrx hd.2.2.1) (hk hax hd.2.2.2.1) (hk htx hd.2.2.2.2) ⟨hk hT.c1 hd.1,hT.rk.of (hg.2.keep rg hT.rk.lt hd.2.1)⟩ x.isLt y.isLt hh hn
  refine Calls.mono (by simpa using h1) ?_
  rintro e w' ⟨he,q,hq⟩
  exact ⟨he,q,#[],by rw [hq,grow_empty]⟩
 ·intro j hj
  rw [hd1] at hj
  rw [hfin j hj]
  have h1:=hpl.cell (a+j) (by omega)
  refine ⟨?_,hpl.free _⟩
  rw [h1]
  show _=some (Value.int .i64 ((p (a+j)%n:Nat):Int))
  rw [Nat.mod_eq_of_lt (hmem (a+j) (by omega))]
theorem y7d (w:World) (pg n:Nat) (p:Nat→Nat) (a c cap:Nat) (hpl:z0a w .i64 3 pg n p) (hac:a<c) (hc:c≤n) (hn:n≤1048576) (hinj:∀r s,r<n→s<n→p r=p s→r=s) :
  Calls Tryz.prog 119 #[.slice (some ⟨pg,a,none⟩) (c-a) cap] w fun e w'=>x7r w pg n p a c (fun x y=>x<y) e w':=by
 have hd1:((seg p a c).map fun x:Nat=>(x:Int)).length=c-a:=by simp [z8s]
 have key:=Tryz.slices_Sort_int pg a cap ((seg p a c).map fun x:Nat=>(x:Int)) w ?_ hpl.lt (by rw [hd1];omega)
 ·rw [hd1] at key
  refine key.mono ?_
  rintro e w' ⟨rfl,m,os,rfl⟩
  obtain ⟨l,hl⟩:∃l,l=((seg p a c).map fun x:Nat=>(x:Int)).mergeSort fun x y=>decide (x≤y):=⟨_,rfl⟩
  have hp:l.Perm ((seg p a c).map fun x:Nat=>(x:Int)):=by rw [hl];exact List.mergeSort_perm _ _
  have hso:l.Pairwise fun x y=>decide (x≤y)=true:=by
   rw [hl]
   exact List.pairwise_mergeSort (fun x y z h1 h2=>by simp at *;omega) (fun x y=>by simp;omega) _
  rw [←hl]
  have hsz:l.toArray.size=c-a:=by rw [List.size_toArray,hp.length_eq,hd1]
  have hpos:∀x∈l,0≤x:=fun x hx=>by
   obtain ⟨y,_,rfl⟩:=List.mem_map.1 (hp.mem_iff.1 hx)
   omega
  have hg:=z7r (Value.int .i64) Int.toNat w pg n a c m p l.toArray os hpl (fun j hj=>by
   rw [getElem!_pos _ j hj]
   have:=hpos _ (List.getElem_mem (l:=l) (by simpa using hj))
   simp only [List.getElem_toArray]
   congr 1
   omega) hsz (by omega) hc
  have hperm:(l.toArray.toList.map Int.toNat).Perm (seg p a c):=by
   rw [List.toList_toArray]
   have h2:=hp.map Int.toNat
   rw [List.map_map] at h2
   refine h2.trans ?_
   have:(Int.toNat∘fun x:Nat=>(x:Int))=id:=by funext x;simp
   rw [this,List.map_id]
  have hnd:=hperm.nodup_iff.2 (y4b hc hinj)
  refine ⟨rfl,_,y6w (by omega) hc hinj hperm,fun r s h1 h2 h3=>?_,hg.1,hg.2⟩
  have hll:(l.toArray.toList.map Int.toNat).length=c-a:=by rw [hperm.length_eq,z8s]
  unfold segP
  rw [if_pos ⟨h1,by omega⟩,if_pos ⟨by omega,h3⟩,getD_get! (by omega),getD_get! (by omega)]
  have h4:=List.pairwise_iff_getElem.1 hso (r-a) (s-a) (by have:=hp.length_eq;rw [hd1] at this;omega) (by have:=hp.length_eq;rw [hd1] at this;omega) (by omega)
  have h5:=List.pairwise_iff_getElem.1 (List.nodup_iff_pairwise_ne.1 hnd) (r-a) (s-a) (by omega) (by omega) (by omega)
  simp only [List.getElem_map] at h5 ⊢
  simp at h4
  omega
 ·intro j hj
  rw [List.size_toArray,hd1] at hj
  have h1:=hpl.cell (a+j) (by omega)
  refine ⟨?_,hpl.free _⟩
  rw [h1,getElem!_pos _ j (by rw [List.size_toArray,hd1];exact hj)]
  have:=x2z p a c j hj
  rw [getD_get! (by rw [z8s];exact hj)] at this
  simp only [List.getElem_toArray,List.getElem_map,this]
end X10
end Go.Proofs.YtljdhaepkhhnlaaGreat
