/- Texts of one proof, one behind the other: Rc, Rd, Re, Rf, Rg, Rh, Ri, Wh, Rj, Na, Nb, Nc, Nd, Ap, Cp. -/
import Derived.Test.YtoicnlmfgembiaaGreatMC
import Derived.ArgAppend
import Derived.Deep.Upon

set_option linter.unusedVariables false
set_option maxRecDepth 100000
set_option maxHeartbeats 24000000
namespace Go.Proofs.YtoicnlmfgembiaaGreat
namespace D
open Go.RowKit Go.Shelf
theorem z0y (w:World) (o:Obj) (i:Nat):(w.alloc o).heap[i]?=if i=w.heap.size then some o else w.heap[i]?:=by
 by_cases e:i=w.heap.size
 ·rw [if_pos e,e];exact heap_alloc_new _ _
 ·rw [if_neg e]
  rcases Nat.lt_or_ge i w.heap.size with h|h
  ·exact Below.heap_alloc _ _ _ h
  ·rw [Array.getElem?_eq_none (by simp;omega),Array.getElem?_eq_none h]
theorem z3k {fn:Func} {a b:Tmp} (h:fn.results=#[.cell a 3,.cell b 3]) (tmps:Array Value) (w:World) (ad bd:Addr) (ha:tmps.getD a undef=.pointer (some ad)) (hb:tmps.getD b undef=.pointer (some bd)) (x y:Int) (hx:w.cell? ad=some (.int .i64 x)) (hy:w.cell? bd=some (.int .i64 y)) :
  (results fn tmps).run Tryz.prog w=.ok (.tuple #[.int .i64 x,.int .i64 y]) w:=by
 simp only [results,h]
 simp only [List.mapM_toArray,List.mapM_cons,List.mapM_nil]
 simp only [ha,hb]
 go_simp
structure MB (H b6 xb lb c4 p Mk n d:Nat) (W:World):Prop where
 h0:W.heap[H]?=some (.cells #[.pointer (some ⟨xb,0,none⟩)] 71 (0,0))
 h1:W.heap[H+1]?=some (.cells #[.int .i64 (p:Int)] 3 (0,0))
 h2:W.heap[H+2]?=some (.cells #[.int .i64 (n:Int)] 3 (0,0))
 h3:W.heap[H+3]?=some (.cells #[.int .i64 (d:Int)] 3 (0,0))
 h6:W.heap[b6]?=some (.cells #[.int .i64 (Mk:Int)] 3 (0,0))
 h7:W.heap[b6+1]?=some (.cells #[.slice (some ⟨lb,0,none⟩) 4 c4] 162 (0,0))
 le:H+4≤b6
structure KP (H b6:Nat) (W1 W:World):Prop where
 os:W.os=W1.os
 tape:W.tape=W1.tape
 output:W.output=W1.output
 size:b6+2≤W.heap.size
 kp:∀x:Nat,x<b6→(x<H∨H+4≤x)→W.heap[x]?=W1.heap[x]?
theorem z3e {W W':World} {row:Option Nat} {c:Nat} (hs:c≤W.heap.size) (hg:W.grownBy W' row) (hr:∀r,row=some r→c≤r):∀x,x<c→W'.heap[x]?=W.heap[x]?:=fun x hx=>hg.block x (by omega) (fun e=>by have:=hr x e.symm;omega)
theorem MB.keep {H b6 xb lb c4 p Mk n d:Nat} {W W':World} (h:MB H b6 xb lb c4 p Mk n d W) (hk:∀x,x<b6+2→W'.heap[x]?=W.heap[x]?):MB H b6 xb lb c4 p Mk n d W':=by
 have hl:=h.le
 exact ⟨by rw [hk _ (by omega)];exact h.h0,by rw [hk _ (by omega)];exact h.h1,by rw [hk _ (by omega)];exact h.h2,by rw [hk _ (by omega)];exact h.h3,by rw [hk _ (by omega)];exact h.h6,by rw [hk _ (by omega)];exact h.h7,hl⟩
theorem KP.keep {H b6:Nat} {W1 W W':World} (h:KP H b6 W1 W) (ho:W'.os=W.os) (ht:W'.tape=W.tape) (hu:W'.output=W.output) (hs:W.heap.size≤W'.heap.size) (hk:∀x,x<b6→(x<H∨H+4≤x)→W'.heap[x]?=W.heap[x]?):KP H b6 W1 W' :=
 ⟨ho.trans h.os,ht.trans h.tape,hu.trans h.output,by have:=h.size;omega,fun x hx hd=>by rw [hk x hx hd];exact h.kp x hx hd⟩
theorem KP.two {H b6:Nat} {W1 W:World} (h:KP H b6 W1 W) (n d:Int):KP H b6 W1 ((W.setCell ⟨H+2,0,none⟩ (.int .i64 n)).setCell ⟨H+3,0,none⟩ (.int .i64 d)) :=
 h.keep rfl rfl rfl (by simp) (fun x hx hd=>by rw [heap_setCell_other _ _ _ _ (by show x≠H+3;omega),heap_setCell_other _ _ _ _ (by show x≠H+2;omega)])
theorem z1x {H:Nat} {W:World} {x y:Value} (h2:W.heap[H+2]?=some (.cells #[x] 3 (0,0))) (h3:W.heap[H+3]?=some (.cells #[y] 3 (0,0))) (n d:Value) :
  ((W.setCell ⟨H+2,0,none⟩ n).setCell ⟨H+3,0,none⟩ d).heap[H+2]?=some (.cells #[n] 3 (0,0))∧((W.setCell ⟨H+2,0,none⟩ n).setCell ⟨H+3,0,none⟩ d).heap[H+3]?=some (.cells #[d] 3 (0,0))∧∀k,k≠H+2→k≠H+3→((W.setCell ⟨H+2,0,none⟩ n).setCell ⟨H+3,0,none⟩ d).heap[k]?=W.heap[k]?:=by
 refine ⟨?_,?_,fun k e1 e2=>by rw [heap_setCell_other _ _ _ _ (by exact e2),heap_setCell_other _ _ _ _ (by exact e1)]⟩
 ·rw [heap_setCell_other _ _ _ _ (by show H+2≠H+3;omega),heap_setCell_same W (H+2) 0 _ 3 _ h2];rfl
 ·rw [heap_setCell_same _ (H+3) 0 #[y] 3 _ (by rw [heap_setCell_other _ _ _ _ (by show H+3≠H+2;omega)];exact h3)];rfl
theorem z4z {x:IxB} {tv:Value} {W c4 room N p H b6 n d D:Nat} {M:Nat→Nat} {w W1 Wz:World} (hx:IxAt W1 x tv W c4 room N p M) (hk:ICh x w W1) (hH:H=w.heap.size) (hb:H+4≤b6) (hown:∀k,x.own k∨k=x.lb→k<H)
  (hkp:KP H b6 W1 Wz) (h2:Wz.heap[H+2]?=some (.cells #[.int .i64 (n:Int)] 3 (0,0))) (h3:Wz.heap[H+3]?=some (.cells #[.int .i64 (d:Int)] 3 (0,0))) (hD:Wz.heap[D]?=some (.deferred (some []))) (hDb:b6+2≤D) :
  Wz.heap[D]?=some (.deferred (some []))∧((Wz.putObj D (.deferred none)).cell? ⟨H+2,0,none⟩=some (.int .i64 (n:Int))∧(Wz.putObj D (.deferred none)).cell? ⟨H+3,0,none⟩=some (.int .i64 (d:Int)))∧IxAt (Wz.putObj D (.deferred none)) x tv W c4 room N p M∧ICh x w (Wz.putObj D (.deferred none)):=by
 have hg:=grownBy_putObj' Wz D (.deferred none)
 have kk:∀x,x<b6+2→(Wz.putObj D (.deferred none)).heap[x]?=Wz.heap[x]?:=z3e hkp.size hg (fun r e=>by injection e with e;omega)
 have k1:∀x,x<b6→(x<H∨H+4≤x)→(Wz.putObj D (.deferred none)).heap[x]?=W1.heap[x]?:=fun x hx hd=>by rw [kk x (by omega),hkp.kp x hx hd]
 refine ⟨hD,⟨?_,?_⟩,hx.keep (fun k hk=>k1 k (by have:=hown k hk;omega) (.inl (hown k hk))),⟨?_,?_,?_,?_,fun k hk' hn=>?_⟩⟩
 ·rw [World.cell?_of_block (kk (H+2) (by omega))];simp [World.cell?,h2]
 ·rw [World.cell?_of_block (kk (H+3) (by omega))];simp [World.cell?,h3]
 ·rw [hg.os,hkp.os];exact hk.os
 ·rw [hg.tape,hkp.tape];exact hk.tape
 ·rw [hg.output,hkp.output];exact hk.output
 ·have:=hg.size;have:=hkp.size;omega
 ·rw [k1 k (by omega) (.inl (by omega))];exact hk.keep k hk' hn
def MIs (zs:List Nat) (H b6 xb lb c4 p m0:Nat) (W1:World) (k:Nat) (W:World):Prop:=(∃Mk,Mk≤m0∧MB H b6 xb lb c4 p Mk 0 0 W)∧KP H b6 W1 W
def MXs (zs:List Nat) (H b6 p V m0:Nat) (W1:World) (W:World):Prop:=∃n d:Nat,W.heap[H+2]?=some (.cells #[.int .i64 (n:Int)] 3 (0,0))∧W.heap[H+3]?=some (.cells #[.int .i64 (d:Int)] 3 (0,0))∧MOk zs p V m0 n d∧KP H b6 W1 W
attribute [local go_sem ↓] wp_at_zero wp_at_succ
attribute [local go_sem] Oper.semAt_some
theorem z8y (x:IxB) (g off cap W c4 room N F p:Nat) (zs:List Nat) (w:World) (h:IxAt w x (.slice (some ⟨g,off,none⟩) N cap) W c4 room N F (fun _=>F)) (hz:zs.length=N) (hc:N≤cap) (hb:∀z∈zs,z<256) (hA:BAt w g off zs) (hg:¬x.own g) (hg0:¬x.own 0) (hgl:g<w.heap.size) (hF:F≤p) (hp:p<N) (hW:1≤W) (hW':W≤1073741824) (hml:T6.ML w) :
  Calls Tryz.prog 111 #[.pointer (some ⟨x.xb,0,none⟩),.int .i64 (p:Int)] w fun e w'=>∃n d:Nat,e=.returned (.tuple #[.int .i64 (n:Int),.int .i64 (d:Int)])∧MOk zs p W (min 273 (N-p)) n d∧IxAt w' x (.slice (some ⟨g,off,none⟩) N cap) W c4 room N p (fun _=>p)∧ICh x w w':=by
 obtain ⟨H,hH⟩:∃H,H=w.heap.size:=⟨_,rfl⟩
 have HHW:=qz hH
 have HOW:Hid (∀k,x.own k∨k=x.lb→k<H):=qz fun k hk=>by rw [hH];exact h.own_lt k hk
 have hgH:g<H:=by rw [hH];exact hgl
 have HX:=qz h
 have HA:=qz hA
 have HB:=qz hb
 have HZ:=qz hz
 have HML:=qz hml
 have HG:=qz hg
 have HG0:=qz hg0
 have hN:=h.small
 obtain ⟨m0,hm0⟩:∃m0,m0=min 273 (N-p):=⟨_,rfl⟩
 rw [←hm0]
 have HM0:=qz hm0
 have m2:=T6.z1i (A:=(273:Int)) (B:=(N:Int)-(p:Int)) (a:=273) (b:=N-p) rfl (by omega) hm0
 have hwL:IntKind.i64.wrap ((N:Int)-(p:Int))=(N:Int)-(p:Int):=wi64 (by omega) (by omega)
 have hpm:p+m0≤N:=by omega
 clear hm0
 obtain ⟨W4,hW4⟩:∃W4,W4=(((w.alloc (.cells #[.pointer (some ⟨x.xb,0,none⟩)] 71)).alloc (.cells #[.int .i64 (p:Int)] 3)).alloc (.cells #[.int .i64 0] 3)).alloc (.cells #[.int .i64 0] 3):=⟨_,rfl⟩
 have HA4:Hid (W4.heap[H]?=some (.cells #[.pointer (some ⟨x.xb,0,none⟩)] 71 (0,0))∧W4.heap[H+1]?=some (.cells #[.int .i64 (p:Int)] 3 (0,0))∧W4.heap[H+2]?=some (.cells #[.int .i64 ((0:Nat):Int)] 3 (0,0))∧W4.heap[H+3]?=some (.cells #[.int .i64 ((0:Nat):Int)] 3 (0,0))):=qz (by
  rw [hW4,hH]
  refine ⟨?_,?_,?_,?_⟩<;>simp only [z0y,World.size_alloc]<;>(repeat (first|rw [if_pos (by omega)]|rw [if_neg (by omega)]))<;>rfl)
 have HBL:Hid (Below H w W4):=qz (by
  rw [hW4]
  exact ((((Below.refl _ _).alloc (by omega) _).alloc (by simp;omega) _).alloc (by simp;omega) _).alloc (by simp;omega) _)
 have HS4:Hid (W4.heap.size=H+4):=qz (by rw [hW4,hH];simp)
 have c0:W4.cell? ⟨H,0,none⟩=some (.pointer (some ⟨x.xb,0,none⟩)):=by simp [World.cell?,(uh HA4).1]
 have c1:W4.cell? ⟨H+1,0,none⟩=some (.int .i64 (p:Int)):=by simp [World.cell?,(uh HA4).2.1]
 have hbl4:Below w.heap.size w W4:=by rw [←hH];exact uh HBL
 have HFC:=qz (y2p x g off cap W c4 room N F p zs W4 (h.below hbl4) hz hc hb (hA.below hbl4) hg hF (by omega))
 clear h hb hml hA hz hg hg0 hH hgl hbl4
 refine (callsIn_wide (n:=4)).1 (callsIn_of_wp_marks Tryz.func111 rfl trivial (wpIn_wide.2 ?_) rfl)
 simp only [Tryz.ntmps111,List.size_toArray,List.length_cons,List.length_nil,Nat.reduceAdd,Nat.reduceSub,Array.replicate_succ,Array.replicate_zero,List.push_toArray,List.append_toArray,List.nil_append,List.cons_append]
 go_upto_region 1 with fail
 have e3:w.heap.size+1+1+1=H+3:=by rw [uh HHW]
 have e2:w.heap.size+1+1=H+2:=by rw [uh HHW]
 have e1:w.heap.size+1=H+1:=by rw [uh HHW]
 have e0:w.heap.size=H:=(uh HHW).symm
 rw [e3,e2,e1,e0,←hW4]
 clear hW4 e0 e1 e2 e3
 go_wp2_with fail
 refine (uh HFC).mono ?_
 rintro e W1 ⟨rfl,hx1,hk1⟩
 obtain ⟨b6,hb6⟩:∃b6,b6=W1.heap.size:=⟨_,rfl⟩
 have hHb:H+4≤b6:=by have:=hk1.size;rw [uh HS4] at this;omega
 have hno:∀k,H≤k→¬x.own k:=fun k hk ho=>by have:=uh HOW k (.inl ho);omega
 have HA1:Hid (W1.heap[H]?=some (.cells #[.pointer (some ⟨x.xb,0,none⟩)] 71 (0,0))∧W1.heap[H+1]?=some (.cells #[.int .i64 (p:Int)] 3 (0,0))∧W1.heap[H+2]?=some (.cells #[.int .i64 ((0:Nat):Int)] 3 (0,0))∧W1.heap[H+3]?=some (.cells #[.int .i64 ((0:Nat):Int)] 3 (0,0))):=qz (by
  have h:=uh HA4
  have hs:=uh HS4
  refine ⟨?_,?_,?_,?_⟩
  ·rw [hk1.keep _ (by omega) (hno _ (by omega))];exact h.1
  ·rw [hk1.keep _ (by omega) (hno _ (by omega))];exact h.2.1
  ·rw [hk1.keep _ (by omega) (hno _ (by omega))];exact h.2.2.1
  ·rw [hk1.keep _ (by omega) (hno _ (by omega))];exact h.2.2.2)
 have hbl4:Below w.heap.size w W4:=by rw [←uh HHW];exact uh HBL
 have HKW1:Hid (ICh x w W1):=qz ((ICh.of_below hbl4).trans hk1)
 have HAW1:Hid (BAt W1 g off zs):=qz (((uh HA).below hbl4).ich hk1 (uh HG))
 have HMW1:Hid (T6.ML W1):=qz (by
  obtain ⟨mm,hmm⟩:=(uh HML).stays hbl4
  exact ⟨mm,by rw [World.cell?_of_block (hk1.keep 0 (z0i hmm) (uh HG0))];exact hmm⟩)
 have HX1:=qz hx1
 have HSW1:Hid (W1.heap.size=b6):=qz hb6.symm
 have d0:W1.cell? ⟨H,0,none⟩=some (.pointer (some ⟨x.xb,0,none⟩)):=by simp [World.cell?,(uh HA1).1]
 have d1:W1.cell? ⟨H+1,0,none⟩=some (.int .i64 (p:Int)):=by simp [World.cell?,(uh HA1).2.1]
 have d2:W1.cell? ⟨x.xb,0,none⟩=some (.slice (some ⟨g,off,none⟩) N cap):=hx1.c0
 have HAL:Hid ((W1.alloc (.cells #[.int .i64 (m0:Int)] 3)).drew.heap[b6]?=some (.cells #[.int .i64 (m0:Int)] 3 (0,0))∧(W1.alloc (.cells #[.int .i64 (m0:Int)] 3)).drew.heap.size=b6+1∧Below b6 W1 (W1.alloc (.cells #[.int .i64 (m0:Int)] 3)).drew):=qz (by
  refine ⟨by rw [hb6];exact heap_alloc_new _ _,by simp [←hb6],((Below.refl b6 W1).alloc (by omega) _).drew⟩)
 have q1:(W1.alloc (.cells #[.int .i64 0] 3)).cell? ⟨b6,0,none⟩=some (.int .i64 0):=by rw [hb6];simp only [World.cell?];rw [heap_alloc_new];rfl
 have q2:(W1.alloc (.cells #[.int .i64 0] 3)).frozen? ⟨b6,0,none⟩=false:=by rw [hb6];simp only [World.frozen?];rw [heap_alloc_new];simp
 have q3:W1.heap.size=b6:=hb6.symm
 have ba:Below b6 W1 (W1.alloc (.cells #[.int .i64 0] 3)):=(Below.refl b6 W1).alloc (by omega) _
 have d3:(W1.alloc (.cells #[.int .i64 0] 3)).cell? ⟨H,0,none⟩=some (.pointer (some ⟨x.xb,0,none⟩)):=z0p ba d0 (by show H<b6;omega)
 have d4:(W1.alloc (.cells #[.int .i64 0] 3)).cell? ⟨H+1,0,none⟩=some (.int .i64 (p:Int)):=z0p ba d1 (by show H+1<b6;omega)
 have d5:(W1.alloc (.cells #[.int .i64 0] 3)).cell? ⟨x.xb,0,none⟩=some (.slice (some ⟨g,off,none⟩) N cap):=z0p ba d2 (by have:=uh HOW x.xb (.inl (.inl rfl));show x.xb<b6;omega)
 clear ba
 clear hb6 hx1 hk1 c0 c1 HA4 HBL HS4 HFC HX hno hbl4 HA HML HG HG0
 go_upto_region 2 with fail
 go_cut [6] from 12 to 19 (fun a wc=>a=.pointer (some ⟨b6,0,none⟩)∧wc.heap[b6]?=some (.cells #[.int .i64 (m0:Int)] 3 (0,0))∧wc.heap.size=b6+1∧Below b6 W1 wc)
 case first =>
  refine wp_region_noPanic ?_
  go_region_law (fail)
  all_goals (
   refine NoPanic.normal ?_
   go_wp2_with fail
   go_meet
   exact ⟨rfl,uh HAL⟩)
 case rest =>
  obtain ⟨rfl,hm6,hsz,hbw⟩:=hcut
  have hr6:∀k,k<b6→wc.heap[k]?=W1.heap[k]?:=hbw.block
  have c0:wc.cell? ⟨H,0,none⟩=some (.pointer (some ⟨x.xb,0,none⟩)):=z0p hbw d0 (by show H<b6;omega)
  have c2:wc.cell? ⟨x.xb,2,none⟩=some (.slice (some ⟨x.lb,0,none⟩) 4 c4):=z0p hbw (uh HX1).c2 (by have:=uh HOW x.xb (.inl (.inl rfl));show x.xb<b6;omega)
  have HR6:=qz hr6
  have HM6:=qz hm6
  have HSZ:=qz hsz
  have HFR:=qz (And.intro hbw.os (And.intro hbw.tape hbw.output))
  clear hr6 hm6 hsz hbw d0 d1 d2 d3 d4 d5 q1 q2 q3 HAL m2 hwL
  go_wp2_with fail
  refine (y2h _ _ _ _).mono ?_
  rintro e W5 ⟨rfl,hW5⟩
  rw [uh HSZ]
  have HMB0:Hid (MB H b6 x.xb x.lb c4 p m0 0 0 W5):=qz (by
   have k3:∀y,y<b6+1→W5.heap[y]?=wc.heap[y]?:=fun y hy=>by rw [hW5,z0y,if_neg (by rw [uh HSZ];omega)]
   have k2:∀y,y<b6→W5.heap[y]?=W1.heap[y]?:=fun y hy=>by rw [k3 y (by omega),uh HR6 y hy]
   have h:=uh HA1
   refine ⟨by rw [k2 _ (by omega)];exact h.1,by rw [k2 _ (by omega)];exact h.2.1,by rw [k2 _ (by omega)];exact h.2.2.1,by rw [k2 _ (by omega)];exact h.2.2.2,by rw [k3 _ (by omega)];exact uh HM6,?_,hHb⟩
   rw [hW5,z0y,if_pos (by rw [uh HSZ])])
  have HKP0:Hid (KP H b6 W1 W5):=qz (by
   refine ⟨by rw [hW5];exact (uh HFR).1,by rw [hW5];exact (uh HFR).2.1,by rw [hW5];exact (uh HFR).2.2,by rw [hW5,World.size_alloc,uh HSZ];omega,fun y hy _=>by rw [hW5,z0y,if_neg (by rw [uh HSZ];omega),uh HR6 y hy]⟩)
  have HS5:Hid (W5.heap.size=b6+2):=qz (by rw [hW5,World.size_alloc,uh HSZ])
  clear hW5 c0 c2 HR6 HM6 HSZ HFR HA1
  go_wp2_with fail
  rw [show b6+1=b6+1 from rfl]
  refine (wpIn_wide (n:=4)).1 ?_
  have hm1:Tryz.prog.follows .mixedOrders=true:=by kernel_rfl
  refine z7w (F:=Fence.wide) rfl (by omega) (gf:=166) (lb:=#[.pointer (some ⟨b6+1,0,none⟩)]) rfl trivial (enters_of Tryz.func166 (by kernel_rfl) rfl)
   (encB 4 (fun j=>.int .i64 ((2^(j+1):Nat):Int)) (fun _=>.int .i64 ((64-room:Nat):Int)) (fun j=>.slice (some ⟨x.la j,0,none⟩) (2^room) (2^room)) (fun j=>.slice (some ⟨x.be j,0,none⟩) N N)) 4 (fun _=>rfl)
   (fun k W=>MIs zs H b6 x.xb x.lb c4 p m0 W1 k W)
   (fun Wx=>MXs zs H b6 p W m0 W1 Wx)
   (fun k W W' row h hg hr=>by
    have kk:=z3e h.2.size hg (fun r e=>by have:=(hr r e).1;rw [uh HS5] at this;exact this)
    obtain ⟨⟨Mk,hM,hmb⟩,hkp⟩:=h
    exact ⟨⟨Mk,hM,hmb.keep kk⟩,hkp.keep hg.os hg.tape hg.output hg.size (fun x hx _=>kk x (by omega))⟩)
   (fun _ W W' row h hg hr=>by
    obtain ⟨n,d,h2,h3,hb,hk⟩:=h
    have kk:=z3e hk.size hg (fun r e=>by have:=(hr r e).1;rw [uh HS5] at this;exact this)
    exact ⟨n,d,by rw [kk _ (by omega)];exact h2,by rw [kk _ (by omega)];exact h3,hb,hk.keep hg.os hg.tape hg.output hg.size (fun x hx _=>kk x (by omega))⟩)
   ⟨⟨m0,Nat.le_refl _,uh HMB0⟩,uh HKP0⟩
   (fun l J Y W hJ h0 hY=>y0i Fence.wide (4-1) trivial rfl (by omega) l (b6+1) x.lb 4 c4 (by omega) _ _ _ _ J Y (fun k W h=>by
    obtain ⟨⟨Mk,hM,hmb⟩,hkp⟩:=hJ k W h
    have kg:∀i,W.cell? ⟨x.lb,i,none⟩=W1.cell? ⟨x.lb,i,none⟩:=fun i=>World.cell?_of_block (hkp.kp x.lb (by have:=uh HOW x.lb (.inr rfl);omega) (.inl (uh HOW x.lb (.inr rfl))))
    refine ⟨by simp [World.cell?,hmb.h7],fun j hj=>?_,fun j hj=>?_,fun j hj=>?_,fun j hj=>?_⟩
    ·rw [kg];exact (uh HX1).size j hj
    ·rw [kg];exact (uh HX1).shift j hj
    ·rw [kg];exact (uh HX1).last j hj
    ·rw [kg];exact (uh HX1).before j hj) hY W h0)
   (fun k a' Wx=>∃Bx,Wx.heap[Bx]?=some (.cells #[.int .i64 ((2^(4-1-k+1):Nat):Int),.int .i64 ((64-room:Nat):Int),.slice (some ⟨x.la (4-1-k),0,none⟩) (2^room) (2^room),.slice (some ⟨x.be (4-1-k),0,none⟩) N N] 168 (0,0))∧b6+2≤Bx∧a'={ tmps:=#[.pointer (some ⟨x.xb,0,none⟩),.int .i64 (p:Int),.pointer (some ⟨H,0,none⟩),.pointer (some ⟨H+1,0,none⟩),.pointer (some ⟨H+2,0,none⟩),.pointer (some ⟨H+3,0,none⟩),.pointer (some ⟨b6,0,none⟩),undef,.pointer (some ⟨Bx,0,none⟩),.pointer (some ⟨x.xb,0,none⟩),.int .i64 (p:Int),.tuple #[],u12,u13,u14,u15,u16,u17,u18,u19,.pointer (some ⟨x.xb,0,none⟩),.pointer (some ⟨x.xb,0,none⟩),.pointer (some ⟨x.xb,2,none⟩),.slice (some ⟨x.lb,0,none⟩) 4 c4,.func (.func 166) #[] #[.pointer (some ⟨b6+1,0,none⟩)],.int .i64 ((4-1-k:Nat):Int),.agg #[.int .i64 ((2^(4-1-k+1):Nat):Int),.int .i64 ((64-room:Nat):Int),.slice (some ⟨x.la (4-1-k),0,none⟩) (2^room) (2^room),.slice (some ⟨x.be (4-1-k),0,none⟩) N N],undef,undef,undef,undef,undef,undef,undef,undef,undef,undef,undef,undef,undef,undef,undef,undef,undef,undef,undef],defers:=[] })
   (fun k a' _ W W' row h hg hr=>by
    obtain ⟨Bx,hb,hB3,e⟩:=h
    refine ⟨Bx,?_,hB3,e⟩
    rw [hg.block Bx (z0c hb) (fun e'=>by
     obtain ⟨_,o,ho',hc⟩:=hr Bx e'.symm
     rw [hb] at ho'
     injection ho' with ho'
     subst ho'
     simp [Obj.isCells] at hc)]
    exact hb) ?assign ?body ?done ?stop
  case assign =>
   intro l k Wx K hk hi hK
   have HK:=qz hK
   have HI:=qz hi
   clear hK hi
   simp only [encB]
   gi_wp2
   have hI:=uh HI
   have kk:∀x,x<b6+2→∀o,(Wx.alloc o).heap[x]?=Wx.heap[x]?:=fun x hx o=>Below.heap_alloc _ _ _ (by have:=hI.2.size;omega)
   obtain ⟨⟨Mk,hM,hmb⟩,hkp⟩:=hI
   exact uh HK _ _ (KeepsOthers.alloc _ _) ⟨⟨Mk,hM,hmb.keep (fun x hx=>kk x hx _)⟩,hkp.keep rfl rfl rfl (by simp) (fun x hx _=>kk x (by omega) _)⟩ ⟨Wx.heap.size,heap_alloc_new _ _,hkp.size,rfl⟩
  case body =>
   rintro l k a' Wx hk ⟨⟨Mk,hM,hmb⟩,hkp⟩ ⟨Bx,hbx,hB3,rfl⟩
   obtain ⟨i,hi⟩:∃i,i=4-1-k:=⟨_,rfl⟩
   have hi4:i<4:=by omega
   rw [←hi] at hbx ⊢
   have c0:Wx.cell? ⟨H,0,none⟩=some (.pointer (some ⟨x.xb,0,none⟩)):=by simp [World.cell?,hmb.h0]
   have c1:Wx.cell? ⟨H+1,0,none⟩=some (.int .i64 (p:Int)):=by simp [World.cell?,hmb.h1]
   have c2:Wx.cell? ⟨H+2,0,none⟩=some (.int .i64 ((0:Nat):Int)):=by simp [World.cell?,hmb.h2]
   have c3:Wx.cell? ⟨H+3,0,none⟩=some (.int .i64 ((0:Nat):Int)):=by simp [World.cell?,hmb.h3]
   have c6:Wx.cell? ⟨b6,0,none⟩=some (.int .i64 (Mk:Int)):=by simp [World.cell?,hmb.h6]
   obtain ⟨s,hs⟩:∃s,s=2^(i+1):=⟨_,rfl⟩
   obtain ⟨R,hR⟩:∃R,R=2^room:=⟨_,rfl⟩
   obtain ⟨sh,hsh⟩:∃sh,sh=64-room:=⟨_,rfl⟩
   have hs1:2≤s:=by rw [hs,Nat.pow_succ];have:=Nat.two_pow_pos i;omega
   have hs2:s≤16:=by rw [hs];exact z2z hi4
   have hxW:∀k,x.own k∨k=x.lb→Wx.heap[k]?=W1.heap[k]?:=fun k hk=>hkp.kp k (by have:=uh HOW k hk;omega) (.inl (uh HOW k hk))
   have HIX:Hid (IxAt Wx x (.slice (some ⟨g,off,none⟩) N cap) W c4 room N p (fun _=>p)):=qz ((uh HX1).keep hxW)
   have HBA:Hid (BAt Wx g off zs):=qz fun j hj=>by rw [World.cell?_of_block (hkp.kp g (by omega) (.inl hgH))];exact uh HAW1 j hj
   have HMLX:Hid (T6.ML Wx):=qz (by
    obtain ⟨mm,hmm⟩:=uh HMW1
    exact ⟨mm,by rw [World.cell?_of_block (hkp.kp 0 (by omega) (by omega))];exact hmm⟩)
   have HWK:Hid (s≤Mk→Calls Tryz.prog 143 #[.pointer (some ⟨x.xb,0,none⟩),.agg #[.int .i64 (s:Int),.int .i64 (sh:Int),.slice (some ⟨x.la i,0,none⟩) R R,.slice (some ⟨x.be i,0,none⟩) N N],.int .i64 (p:Int),.int .i64 (Mk:Int)] Wx fun e w'=>∃n d:Nat,e=.returned (.tuple #[.int .i64 (n:Int),.int .i64 (d:Int)])∧MOk zs p W Mk n d∧Below Wx.heap.size Wx w'):=qz fun hle=>by
    rw [hs,hR,hsh]
    exact y3n x g off cap W c4 room N i p Mk zs Wx (uh HIX) (uh HZ) hc (uh HB) (uh HBA) hi4 (by rw [←hs];exact hle) (by omega) hW hW' (uh HMLX)
   rw [←hs,←hR,←hsh] at hbx ⊢
   have d0:Wx.cell? ⟨Bx,0,none⟩=some (.int .i64 (s:Int)):=by simp [World.cell?,hbx]
   have d1:Wx.cell? ⟨Bx,1,none⟩=some (.int .i64 (sh:Int)):=by simp [World.cell?,hbx]
   have d2:Wx.cell? ⟨Bx,2,none⟩=some (.slice (some ⟨x.la i,0,none⟩) R R):=by simp [World.cell?,hbx]
   have d3:Wx.cell? ⟨Bx,3,none⟩=some (.slice (some ⟨x.be i,0,none⟩) N N):=by simp [World.cell?,hbx]
   have HMBx:=qz hmb
   have HKPx:=qz hkp
   have HBX:=qz hbx
   have hkk:∀y,y<b6+2→y<Wx.heap.size:=fun y hy=>by have:=hkp.size;omega
   have HKK:=qz hkk
   have hf143:Fence.wide.fn 143:=trivial
   clear hbx hmb hkp hxW hkk HIX HBA HMLX hi hs hR hsh hk HMB0 HKP0
   by_cases hms:Mk<s
   ·have hmi:(Mk:Int)<(s:Int):=by omega
    clear HWK c0 c1 c2 c3 d1 d2 d3
    gi_wp2
    exact ⟨KeepsOthers.refl _,⟨Mk,hM,uh HMBx⟩,uh HKPx⟩
   ·have hmi:¬ (Mk:Int)<(s:Int):=by omega
    have HWK2:=qz (uh HWK (by omega))
    clear HWK c2 c3
    gi_wp2
    refine ((callsIn_wide.2 (uh HWK2)).inRound l).mono ?_
    rintro e w2 ⟨n,d,rfl,hMO,hbel⟩
    have q2:w2.heap[H+2]?=some (.cells #[.int .i64 ((0:Nat):Int)] 3 (0,0)):=by rw [hbel.block _ (uh HKK _ (by omega))];exact (uh HMBx).h2
    have q3:w2.heap[H+3]?=some (.cells #[.int .i64 ((0:Nat):Int)] 3 (0,0)):=by rw [hbel.block _ (uh HKK _ (by omega))];exact (uh HMBx).h3
    have r2:w2.cell? ⟨H+2,0,none⟩=some (.int .i64 ((0:Nat):Int)):=by simp [World.cell?,q2]
    have r3:w2.cell? ⟨H+3,0,none⟩=some (.int .i64 ((0:Nat):Int)):=by simp [World.cell?,q3]
    have t2:w2.frozen? ⟨H+2,0,none⟩=false:=by simp [World.frozen?,q2]
    have t3:w2.frozen? ⟨H+3,0,none⟩=false:=by simp [World.frozen?,q3]
    obtain ⟨Wz,hWz⟩:∃Wz,Wz=(w2.setCell ⟨H+2,0,none⟩ (.int .i64 (n:Int))).setCell ⟨H+3,0,none⟩ (.int .i64 (d:Int)):=⟨_,rfl⟩
    have htc:=z1x q2 q3 (.int .i64 (n:Int)) (.int .i64 (d:Int))
    rw [←hWz] at htc
    have hko:KeepsOthers Wx w2:=⟨hbel.size,fun k o hk ho=>by rw [hbel.block k (z0c hk)];exact hk⟩
    have HKO:Hid (KeepsOthers Wx Wz):=qz (by rw [hWz];exact (hko.trans (KeepsOthers.setCell _ _ _)).trans (KeepsOthers.setCell _ _ _))
    have HKX:Hid (KP H b6 W1 Wz):=qz (by
     rw [hWz]
     exact ((uh HKPx).keep hbel.os hbel.tape hbel.output hbel.size (fun y hy _=>hbel.block y (uh HKK y (by omega)))).two _ _)
    have kz:∀y,y<Wx.heap.size→y≠H+2→y≠H+3→Wz.heap[y]?=Wx.heap[y]?:=fun y hy h2 h3=>by rw [htc.2.2 y h2 h3,hbel.block y hy]
    have z2:Wz.cell? ⟨H+2,0,none⟩=some (.int .i64 (n:Int)):=by simp [World.cell?,htc.1]
    have z3:Wz.cell? ⟨H+3,0,none⟩=some (.int .i64 (d:Int)):=by simp [World.cell?,htc.2.1]
    have y2:Wz.frozen? ⟨H+2,0,none⟩=false:=by simp [World.frozen?,htc.1]
    have y3:Wz.frozen? ⟨H+3,0,none⟩=false:=by simp [World.frozen?,htc.2.1]
    have m6:Wz.heap[b6]?=some (.cells #[.int .i64 (Mk:Int)] 3 (0,0)):=by rw [kz _ (uh HKK _ (by omega)) (by omega) (by omega)];exact (uh HMBx).h6
    have z6:Wz.cell? ⟨b6,0,none⟩=some (.int .i64 (Mk:Int)):=by simp [World.cell?,m6]
    have y6:Wz.frozen? ⟨b6,0,none⟩=false:=by simp [World.frozen?,m6]
    have z0:Wz.cell? ⟨Bx,0,none⟩=some (.int .i64 (s:Int)):=by simp only [World.cell?];rw [kz Bx (z0c (uh HBX)) (by omega) (by omega),uh HBX];rfl
    have HMO:=qz hMO
    have HTC:=qz htc
    have HKZ:=qz kz
    have HWz:=qz hWz
    rw [hWz] at z2 z3 y2 y3 z6 y6 z0
    clear HWK2 d0 d1 d2 d3 c0 c1 c6 q2 q3 hko hbel hMO htc kz hWz m6
    by_cases hn0:0<n
    ·have n1:(0:Int)<(n:Int):=by omega
     clear hn0 z0 z6 y6
     gi_wp2
     rw [←uh HWz] at z2 z3 y2 y3 ⊢
     clear r2 r3 t2 t3
     gi_region_with_o (fail)
     all_goals
      gi_wp2
      have htc:=uh HTC
      have h2:=z1x htc.1 htc.2.1 (.int .i64 (n:Int)) (.int .i64 (d:Int))
      have k3:=((uh HKO).trans (KeepsOthers.setCell Wz ⟨H+2,0,none⟩ (.int .i64 (n:Int)))).trans (KeepsOthers.setCell _ ⟨H+3,0,none⟩ (.int .i64 (d:Int)))
      exact ⟨⟨k3.1,k3.2⟩,n,d,h2.1,h2.2.1,(uh HMO).le hM,((uh HKX).two (n:Int) (d:Int)).keep rfl rfl rfl (Nat.le_refl _) (fun _ _ _=>rfl)⟩
    ·have n1:¬ (0:Int)<(n:Int):=by omega
     clear z2 z3 y2 y3
     gi_wp2
     rw [←uh HWz]
     obtain rfl:n=0:=by omega
     have hd0:d=0:=by rcases uh HMO with h|h<;>omega
     have hle:=(uh HMBx).le
     have o:∀k,k≠b6→(Wz.setCell ⟨b6,0,none⟩ (.int .i64 ((s:Int)-1))).heap[k]?=Wz.heap[k]?:=fun k hk=>heap_setCell_other _ _ _ _ (by exact hk)
     have kz:=uh HKZ
     have htc:=uh HTC
     rw [hd0] at htc
     refine ⟨(uh HKO).trans (KeepsOthers.setCell _ _ _),⟨s-1,by omega,?_⟩,(uh HKX).keep rfl rfl rfl (by simp) (fun y hy _=>o y (by omega))⟩
     refine ⟨by rw [o _ (by omega),kz _ (uh HKK _ (by omega)) (by omega) (by omega)];exact (uh HMBx).h0,by rw [o _ (by omega),kz _ (uh HKK _ (by omega)) (by omega) (by omega)];exact (uh HMBx).h1,by rw [o _ (by omega)];exact htc.1,by rw [o _ (by omega)];exact htc.2.1,?_,by rw [o _ (by omega),kz _ (uh HKK _ (by omega)) (by omega) (by omega)];exact (uh HMBx).h7,hle⟩
     rw [heap_setCell_same Wz b6 0 _ 3 _ (by rw [kz _ (uh HKK _ (by omega)) (by omega) (by omega)];exact (uh HMBx).h6),show ((s-1:Nat):Int)=(s:Int)-1 by omega]
     rfl
  case done =>
   rintro D Wx hD ⟨⟨Mk,hM,hmb⟩,hkp⟩ hDD
   have c2:Wx.cell? ⟨H+2,0,none⟩=some (.int .i64 ((0:Nat):Int)):=by simp [World.cell?,hmb.h2]
   have c3:Wx.cell? ⟨H+3,0,none⟩=some (.int .i64 ((0:Nat):Int)):=by simp [World.cell?,hmb.h3]
   have f2:Wx.frozen? ⟨H+2,0,none⟩=false:=by simp [World.frozen?,hmb.h2]
   have f3:Wx.frozen? ⟨H+3,0,none⟩=false:=by simp [World.frozen?,hmb.h3]
   rw [uh HS5] at hD
   have HFE:=qz (z4z (n:=0) (d:=0) (uh HX1) (uh HKW1) (uh HHW) hHb (uh HOW) (D:=D) (hkp.two 0 0) (z1x hmb.h2 hmb.h3 _ _).1 (z1x hmb.h2 hmb.h3 _ _).2.1 (by rw [(z1x hmb.h2 hmb.h3 _ _).2.2 D (by omega) (by omega)];exact hDD) hD)
   clear hmb hkp HMB0 HKP0
   go_wp2_with fail
   obtain ⟨q1,q2,q3,q4⟩:=uh HFE
   exact ⟨by simp,.inl ⟨_,_,rfl,run_takeDeferred q1,⟨_,z3k rfl _ _ ⟨H+2,0,none⟩ ⟨H+3,0,none⟩ rfl rfl _ _ q2.1 q2.2,0,0,rfl,.inl ⟨rfl,rfl⟩,q3,q4⟩⟩⟩
  case stop =>
   rintro D Wx hD ⟨n,d,h2,h3,hMO,hkp⟩ hDD
   rw [uh HS5] at hD
   have HFE:=qz (z4z (uh HX1) (uh HKW1) (uh HHW) hHb (uh HOW) (D:=D) hkp h2 h3 hDD hD)
   have HMO:=qz hMO
   clear h2 h3 hMO hkp HMB0 HKP0
   go_wp2_with fail
   obtain ⟨q1,q2,q3,q4⟩:=uh HFE
   exact ⟨by simp,.inl ⟨_,_,rfl,run_takeDeferred q1,⟨_,z3k rfl _ _ ⟨H+2,0,none⟩ ⟨H+3,0,none⟩ rfl rfl _ _ q2.1 q2.2,n,d,rfl,uh HMO,q3,q4⟩⟩⟩
end D
namespace D
open Go.RowKit Rang
attribute [local go_sem ↓] wp_at_zero wp_at_succ
theorem y2r:(Tryz.prog.info? 168).map (fun i=>(i.zero,i.size,i.bytes))=some (some (.agg #[.int .i64 0,.int .i64 0,.slice none 0 0,.slice none 0 0]),4,64):=by kernel_rfl
theorem y3z:(Tryz.prog.info? 21).map (fun i=>(i.zero,i.size,i.bytes))=some (some (.int .i32 0),1,4):=by kernel_rfl
def z0j (n:Nat):Array Value:=((List.replicate n 0).map fun p:Nat=>Value.int .i32 (p:Int)).toArray
theorem z3i (n:Nat) (hn:n≤1073741824) (w:World):(Instr.makeSlice 166 (.int .i64 (n:Int)) (.int .i64 (n:Int))).run Tryz.prog w=.ok (.slice (some ⟨w.heap.size,0,none⟩) n n) (w.alloc (.cells (z0j n) 21)):=by
 obtain ⟨i0,hi,hz0,hz1,hz2⟩:=info_parts y3z
 have:=run_make (P:=Tryz.prog) w 166 21 i0 (.int .i32 0) Tryz.underlying166 hi hz0 .i64 .i64 (n:Int) (n:Int) (by omega) (by omega) (by rw [hz2];omega) (by omega)
 rw [hz1] at this
 rw [this]
 congr 3
 unfold z0j
 apply Array.ext (by simp [madeCells])
 intro k k1 k2
 simp [madeCells,Value.cells,Nat.mod_one]
theorem z3n {w:World} {b n:Nat} (h:w.heap[b]?=some (.cells (z0j n) 21 (0,0))) (f:Nat→Nat):Pls w b n f :=
 ⟨_,h,by simp [z0j],fun j hj=>⟨0,by simp [z0j,hj],Nat.zero_le _⟩⟩
def lcs (sh R N:Nat) (la be:Nat→Nat):Nat→List Value
 | 0=>[]
 | k+1=>lcs sh R N la be k++[.int .i64 ((2^(k+1):Nat):Int),.int .i64 (sh:Int),.slice (some ⟨la k,0,none⟩) R R,.slice (some ⟨be k,0,none⟩) N N]
theorem z3w (sh R N:Nat) (la be:Nat→Nat):∀k,(lcs sh R N la be k).length=k*4
 | 0=>rfl
 | k+1=>by simp [lcs,z3w sh R N la be k];omega
theorem z3g (sh R N:Nat) (la be:Nat→Nat):∀k j,j<k→(lcs sh R N la be k)[j*4]?=some (.int .i64 ((2^(j+1):Nat):Int))∧(lcs sh R N la be k)[j*4+1]?=some (.int .i64 (sh:Int))∧(lcs sh R N la be k)[j*4+2]?=some (.slice (some ⟨la j,0,none⟩) R R)∧(lcs sh R N la be k)[j*4+3]?=some (.slice (some ⟨be j,0,none⟩) N N)
 | 0,j,h=>by omega
 | k+1,j,h=>by
  have hl:=z3w sh R N la be k
  by_cases e:j=k
  ·subst e
   refine ⟨?_,?_,?_,?_⟩
   ·rw [lcs,List.getElem?_append_right (by omega),hl];simp
   ·rw [lcs,List.getElem?_append_right (by omega),hl,show j*4+1-j*4=1 by omega];rfl
   ·rw [lcs,List.getElem?_append_right (by omega),hl,show j*4+2-j*4=2 by omega];rfl
   ·rw [lcs,List.getElem?_append_right (by omega),hl,show j*4+3-j*4=3 by omega];rfl
  ·have ih:=z3g sh R N la be k j (by omega)
   refine ⟨?_,?_,?_,?_⟩
   ·rw [lcs,List.getElem?_append_left (by omega)];exact ih.1
   ·rw [lcs,List.getElem?_append_left (by omega)];exact ih.2.1
   ·rw [lcs,List.getElem?_append_left (by omega)];exact ih.2.2.1
   ·rw [lcs,List.getElem?_append_left (by omega)];exact ih.2.2.2
def upf (f:Nat→Nat) (k x:Nat):Nat→Nat:=fun j=>if j=k then x else f j
theorem z9d (sh R N:Nat) (la be:Nat→Nat) (k x y:Nat):∀j,j≤k→lcs sh R N (upf la k x) (upf be k y) j=lcs sh R N la be j
 | 0,_=>rfl
 | j+1,h=>by rw [lcs,lcs,z9d sh R N la be k x y j (by omega),show upf la k x j=la j by simp [upf];omega,show upf be k y j=be j by simp [upf];omega]
structure NewAt (H W sh R N F k:Nat) (tx:Value) (la be:Nat→Nat) (v:Value) (w ws:World):Prop where
 xb:ws.heap[H]?=some (.cells #[tx,.int .i64 (W:Int),v,.int .i64 (F:Int)] 164 (0,0))
 row:ws.ownsRow (H+1) 168 4 v k (lcs sh R N la be k)
 ls:∀j,j<k→ws.heap[la j]?=some (.cells (z0j R) 21 (0,0))
 bs:∀j,j<k→ws.heap[be j]?=some (.cells (z0j N) 21 (0,0))
 ap:∀i j,i<k→j<k→la i≠be j∧(i≠j→la i≠la j∧be i≠be j)
 bB:∀j,j<k→H<la j∧H<be j
 bel:Below H w ws
theorem z9w {w:World} {B e size n:Nat} {v:Value} {xs:List Value} (h:w.ownsRow B e size v n xs) {x:Nat} (hx:v.ownBlock=some x):B≤x∧∃cs,w.heap[x]?=some (.cells cs e (0,0)):=by
 rcases h.2 with ⟨e',_⟩|⟨g,cap,cur,e',hb,hh,_⟩
 ·rw [e'] at hx;simp [Value.ownBlock] at hx
 ·rw [e'] at hx
  simp [Value.ownBlock] at hx
  subst hx
  exact ⟨hb,_,hh⟩
section
variable {H W sh R N F k:Nat} {tx:Value} {la be:Nat→Nat} {v v':Value} {w ws X w2:World}
theorem NewAt.x2 (h:NewAt H W sh R N F k tx la be v w ws):ws.cell? ⟨H,2,none⟩=some v:=by simp [World.cell?,h.xb]
theorem NewAt.next (h:NewAt H W sh R N F k tx la be v w ws) (l b:Nat) (hX:Below ws.heap.size ws X) (hl:X.heap[l]?=some (.cells (z0j R) 21 (0,0))) (hb:X.heap[b]?=some (.cells (z0j N) 21 (0,0))) (hln:l≠b) (hls:ws.heap.size≤l) (hbs:ws.heap.size≤b)
  (hown:w2.ownsRow (H+1) 168 4 v' (k+1) (lcs sh R N la be k++[.int .i64 ((2^(k+1):Nat):Int),.int .i64 (sh:Int),.slice (some ⟨l,0,none⟩) R R,.slice (some ⟨b,0,none⟩) N N]))
  (hg:X.grownBy w2 v.ownBlock) :
  NewAt H W sh R N F (k+1) tx (upf la k l) (upf be k b) v' w (w2.setCell ⟨H,2,none⟩ v')∧w2.cell? ⟨H,2,none⟩=some v∧w2.frozen? ⟨H,2,none⟩=false:=by
 have hH:H<ws.heap.size:=z0c h.xb
 have hv:∀x,v.ownBlock=some x→H+1≤x∧∃cs,ws.heap[x]?=some (.cells cs 168 (0,0)):=fun x hx=>z9w h.row hx
 have k2:∀x,x<X.heap.size→v.ownBlock≠some x→w2.heap[x]?=X.heap[x]?:=fun x hx hr=>hg.block x hx (fun e=>hr e.symm)
 have k1:∀x,x<ws.heap.size→v.ownBlock≠some x→w2.heap[x]?=ws.heap[x]?:=fun x hx hr=>by
  rw [k2 x (by have:=hX.size;omega) hr];exact hX.block _ hx
 have hvH:v.ownBlock≠some H:=fun e=>by have:=(hv H e).1;omega
 have hxb2:w2.heap[H]?=some (.cells #[tx,.int .i64 (W:Int),v,.int .i64 (F:Int)] 164 (0,0)):=by rw [k1 H hH hvH];exact h.xb
 have o:∀x,x≠H→(w2.setCell ⟨H,2,none⟩ v').heap[x]?=w2.heap[x]?:=fun x hx=>heap_setCell_other _ _ _ _ (by exact hx)
 have hvn:∀x,ws.heap.size≤x→v.ownBlock≠some x:=fun x hx e=>by
  obtain ⟨_,cs,hcs⟩:=hv _ e
  have:=z0c hcs
  omega
 have hlt:∀j,j<k→la j<ws.heap.size∧be j<ws.heap.size:=fun j hj=>⟨z0c (h.ls j hj),z0c (h.bs j hj)⟩
 have hnv:∀x cs,ws.heap[x]?=some (.cells cs 21 (0,0))→v.ownBlock≠some x:=fun x cs hx e=>by
  obtain ⟨_,cs',hcs⟩:=hv _ e
  rw [hcs] at hx
  injection hx with hx
  injection hx with _ hx
  exact absurd hx (by decide)
 refine ⟨⟨?_,?_,fun j hj=>?_,fun j hj=>?_,fun i j hi hj=>?_,fun j hj=>?_,⟨?_,?_,?_,?_,fun x hx=>?_⟩⟩,by simp [World.cell?,hxb2],by simp [World.frozen?,hxb2]⟩
 ·rw [heap_setCell_same w2 H 2 _ 164 v' hxb2];rfl
 ·have e:lcs sh R N (upf la k l) (upf be k b) (k+1)=lcs sh R N la be k++[.int .i64 ((2^(k+1):Nat):Int),.int .i64 (sh:Int),.slice (some ⟨l,0,none⟩) R R,.slice (some ⟨b,0,none⟩) N N]:=by
   rw [lcs,z9d sh R N la be k l b k (Nat.le_refl _),show upf la k l k=l by simp [upf],show upf be k b k=b by simp [upf]]
  rw [e]
  refine z1k hown (fun q hq=>o q (fun e=>?_))
  have:=(z9w hown hq).1
  omega
 ·by_cases e:j=k
  ·rw [show upf la k l j=l by simp [upf,e],o _ (by omega),k2 _ (z0c hl) (hvn _ hls)]
   exact hl
  ·rw [show upf la k l j=la j by simp [upf,e],o _ (by have:=(h.bB j (by omega)).1;omega),k1 _ (hlt j (by omega)).1 (hnv _ _ (h.ls j (by omega)))]
   exact h.ls j (by omega)
 ·by_cases e:j=k
  ·rw [show upf be k b j=b by simp [upf,e],o _ (by omega),k2 _ (z0c hb) (hvn _ hbs)]
   exact hb
  ·rw [show upf be k b j=be j by simp [upf,e],o _ (by have:=(h.bB j (by omega)).2;omega),k1 _ (hlt j (by omega)).2 (hnv _ _ (h.bs j (by omega)))]
   exact h.bs j (by omega)
 ·unfold upf
  by_cases e:i=k
  ·by_cases e2:j=k
   ·rw [if_pos e,if_pos e2]
    exact ⟨hln,fun h=>absurd (e.trans e2.symm) h⟩
   ·have:=hlt j (by omega)
    rw [if_pos e,if_neg e2,if_neg e2,if_pos e]
    exact ⟨by omega,fun _=>⟨by omega,by omega⟩⟩
  ·have:=hlt i (by omega)
   by_cases e2:j=k
   ·rw [if_neg e,if_pos e2,if_pos e2,if_neg e]
    exact ⟨by omega,fun _=>⟨by omega,by omega⟩⟩
   ·rw [if_neg e,if_neg e2,if_neg e2,if_neg e]
    exact h.ap i j (by omega) (by omega)
 ·unfold upf
  by_cases e:j=k
  ·rw [if_pos e,if_pos e];omega
  ·rw [if_neg e,if_neg e];exact h.bB j (by omega)
 ·exact hg.os.trans (hX.os.trans h.bel.os)
 ·exact hg.tape.trans (hX.tape.trans h.bel.tape)
 ·exact hg.output.trans (hX.output.trans h.bel.output)
 ·have h1:=hg.size
  have h2:=h.bel.size
  have h3:=hX.size
  simp at h1 ⊢
  omega
 ·rw [o x (by omega),k1 x (by omega) (fun e=>by have:=(hv x e).1;omega)]
  exact h.bel.block x hx
theorem NewAt.app (h:NewAt H W sh R N F k tx la be v w ws) (hk:k<4) (l b sb:Nat) (ty:TypeId) (hX:Below ws.heap.size ws X) (hl:X.heap[l]?=some (.cells (z0j R) 21 (0,0))) (hb:X.heap[b]?=some (.cells (z0j N) 21 (0,0))) (hln:l≠b) (hls:ws.heap.size≤l) (hbs:ws.heap.size≤b)
  (hs:X.heap[sb]?=some (.cells #[.int .i64 ((2^(k+1):Nat):Int),.int .i64 (sh:Int),.slice (some ⟨l,0,none⟩) R R,.slice (some ⟨b,0,none⟩) N N] 168 (0,0))) :
  ∃v' w2,(Builtin.append_ #[162,162] ty #[v,.slice (some ⟨sb,0,none⟩) 1 1]).run Tryz.prog X=.ok v' w2∧NewAt H W sh R N F (k+1) tx (upf la k l) (upf be k b) v' w (w2.setCell ⟨H,2,none⟩ v')∧w2.cell? ⟨H,2,none⟩=some v∧w2.frozen? ⟨H,2,none⟩=false:=by
 obtain ⟨i0,hi,hz0,hz1,hz2⟩:=info_parts y2r
 have hH:H<ws.heap.size:=z0c h.xb
 have hrow:X.ownsRow (H+1) 168 4 v k (lcs sh R N la be k):=z1k h.row (fun q hq=>hX.block q (by obtain ⟨_,cs,hcs⟩:=z9w h.row hq;exact z0c hcs))
 obtain ⟨v',w2,hr,h2,h3,_,_⟩:=run_append_own_at (P:=Tryz.prog) (w:=X) (H+1) 162 ty 168 i0 _ 4 64 Tryz.underlying162 hi hz0 hz1 hz2 rfl (by decide) v k (lcs sh R N la be k) hrow ⟨sb,0,none⟩ 1 1 [.int .i64 ((2^(k+1):Nat):Int),.int .i64 (sh:Int),.slice (some ⟨l,0,none⟩) R R,.slice (some ⟨b,0,none⟩) N N] rfl (fun j u hj=>by
  have ea:(⟨sb,0,none⟩:Addr).add j=⟨sb,j,none⟩:=by by_cases hq:j=0<;>simp [Addr.add,hq]
  rw [ea]
  simp only [World.cell?,hs]
  simpa using hj) (by intro u hu;simp at hu;rcases hu with rfl|rfl|rfl|rfl<;>rfl) (by unfold maxLen;omega) (by omega) (by have:=hX.size;omega)
 obtain ⟨h4,h5,h6⟩:=h.next l b hX hl hb hln hls hbs h2 h3
 exact ⟨v',w2,hr,h4,h5,h6⟩
theorem NewAt.idx {room:Nat} (h:NewAt H W (64-room) (2^room) N F 4 tx la be v w ws) (hr:room≤20∧1≤room) (hN:N≤1073741824) (hF:F≤N):∃x c4,x.xb=H∧(∀k,x.own k∨k=x.lb→H≤k)∧IxAt ws x tx W c4 room N F (fun _=>F):=by
 rcases h.row.2 with ⟨_,e⟩|⟨g,cap,cur,e,hb,hh,hle,_,hcs,ht⟩
 ·omega
 ·have hget:∀i,i<4*4→cur[i]?=(lcs (64-room) (2^room) N la be 4)[i]?:=fun i hi=>by
   rw [←ht,List.getElem?_take,if_pos hi];simp
  have hne:∀k cs,ws.heap[k]?=some (.cells cs 21 (0,0))→g≠k:=fun k cs hk e=>by
   rw [←e,hh] at hk
   injection hk with hk
   injection hk with _ hk
   exact absurd hk (by decide)
  refine ⟨⟨H,g,la,be⟩,cap,rfl,?_,⟨by rw [h.xb,e],fun i hi=>?_,fun i hi=>?_,fun i hi=>?_,fun i hi=>?_,fun i hi=>z3n (h.ls i hi) _,fun i hi=>z3n (h.bs i hi) _,?_,fun i hi=>⟨by have:=(h.bB i hi).1;show la i≠H;omega,by have:=(h.bB i hi).2;show be i≠H;omega⟩,fun i j hi hj=>h.ap i j hi hj,hle,hr,hN,hF⟩⟩
  ·rintro k ((e|⟨i,hi,e|e⟩)|e)
   ·have e:k=H:=e
    omega
   ·have e:k=la i:=e
    have:=(h.bB i hi).1;omega
   ·have e:k=be i:=e
    have:=(h.bB i hi).2;omega
   ·have e:k=g:=e
    omega
  ·simp only [World.cell?,hh];rw [hget _ (by omega)];exact (z3g _ _ _ la be 4 i hi).1
  ·simp only [World.cell?,hh];rw [hget _ (by omega)];exact (z3g _ _ _ la be 4 i hi).2.1
  ·simp only [World.cell?,hh];rw [hget _ (by omega)];exact (z3g _ _ _ la be 4 i hi).2.2.1
  ·simp only [World.cell?,hh];rw [hget _ (by omega)];exact (z3g _ _ _ la be 4 i hi).2.2.2
  ·rintro k (e|⟨i,hi,e|e⟩)
   ·have e:k=H:=e
    show g≠k;omega
   ·rw [show k=la i from e];exact hne _ _ (h.ls i hi)
   ·rw [show k=be i from e];exact hne _ _ (h.bs i hi)
end
end D
namespace D
open Go.RowKit Rang
attribute [local go_sem ↓] wp_at_zero wp_at_succ
theorem z3m {P:Program} {ops:Array Oper} {o:Oper} {a:Act} {w:World} {K:Act→World→Prop} {Q:Exit→Act→World→Prop} {E:Prop}
  (hgd:o.guard=none) (s x:Operand) (t:TypeId) (ho:o.op=.call { callee:=.builtin .append,args:=#[s,x],argTypes:=#[t,t] }) (vs vx:Value) (hs:Act.eval a s=vs) (hx:Act.eval a x=vx)
  (h:∃v' w',(Builtin.append_ #[t,t] o.type #[vs,vx]).run P w=.ok v' w'∧K (a.put o.dst v') w'):if Region.wanted o (yielded ops a.tmps)=true then Oper.wp P o a w K Q else E:=by
 have hw:Region.wanted o (yielded ops a.tmps)=true:=by simp [Region.wanted,hgd]
 rw [if_pos hw]
 obtain ⟨v',w',hr,hk⟩:=h
 unfold Oper.wp execOp
 simp only [ho,resolve,invoke,builtin,Sem.run_bind,Sem.run_pure,Result.andThen_ok,List.map_toArray,List.map_cons,List.map_nil,hs,hx,hr]
 exact hk
theorem z6c {a b x:Nat} {A B:Int} (hA:A=(a:Int)) (hB:B=(b:Int)) (h:x=max a b) (w:World):(Builtin.max_ #[3,3] 3 #[.int .i64 A,.int .i64 B]).run Tryz.prog w=.ok (.int .i64 (x:Int)) w:=by
 rw [run_max_int2,hA,hB]
 congr 2
 split<;>omega
theorem NewAt.shape {H W sh R N F k:Nat} {tx:Value} {la be:Nat→Nat} {v:Value} {w ws:World} (h:NewAt H W sh R N F k tx la be v w ws):∃a n c,v=.slice a n c:=by
 rcases h.row.2 with ⟨e,_⟩|⟨g,cp,cur,e,_⟩
 ·exact ⟨_,_,_,e⟩
 ·exact ⟨_,_,_,e⟩
def y3u (tx:Value) (W N F:Nat) (w:World) (e:Ending) (w':World):Prop :=
 ∃x c4 room,e=.returned (.pointer (some ⟨x.xb,0,none⟩))∧(∀k,x.own k∨k=x.lb→w.heap.size≤k)∧IxAt w' x tx W c4 room N F (fun _=>F)∧Below w.heap.size w w'
theorem z5x (ta:Option Addr) (N cap p W:Nat) (w:World) (hN:N≤1073741824) (hp:p≤N) (hW':W≤1073741824) :
  Calls Tryz.prog 110 #[.slice ta N cap,.int .i64 (p:Int),.int .i64 (W:Int)] w (y3u (.slice ta N cap) W N (p-min p W) w):=by
 obtain ⟨H,hH⟩:∃H,H=w.heap.size:=⟨_,rfl⟩
 obtain ⟨mn,hmn⟩:∃mn,mn=min p W:=⟨_,rfl⟩
 obtain ⟨F,hF⟩:∃F,F=p-mn:=⟨_,rfl⟩
 rw [←hmn,←hF]
 have m1:=T6.z1i (A:=(p:Int)) (B:=(W:Int)) rfl rfl hmn
 have f1:IntKind.i64.wrap ((p:Int)-(mn:Int))=(F:Int):=by rw [wi64 (by omega) (by omega)];omega
 obtain ⟨W0,hW0⟩:∃W0,W0=w.alloc (.cells #[.slice ta N cap,.int .i64 (W:Int),.slice none 0 0,.int .i64 (F:Int)] 164):=⟨_,rfl⟩
 obtain ⟨bl,hbl⟩:∃bl,bl=Lib.bitLen N:=⟨_,rfl⟩
 obtain ⟨r1,hr1⟩:∃r1,r1=min bl 20:=⟨_,rfl⟩
 obtain ⟨room,hroom⟩:∃room,room=max 10 r1:=⟨_,rfl⟩
 have m2:=T6.z1i (A:=(bl:Int)) (B:=(20:Int)) (b:=20) rfl rfl hr1
 have m3:=z6c (A:=(10:Int)) (B:=(r1:Int)) (a:=10) rfl rfl hroom
 have hr:room≤20∧10≤room:=by omega
 obtain ⟨sh,hsh⟩:∃sh,sh=64-room:=⟨_,rfl⟩
 obtain ⟨R,hR⟩:∃R,R=2^room:=⟨_,rfl⟩
 have hR20:R≤1048576:=by rw [hR];exact Nat.le_trans (Nat.pow_le_pow_right (by omega) hr.1) (by decide)
 have HN0:Hid (NewAt H W sh R N F 0 (.slice ta N cap) (fun _=>0) (fun _=>0) (.slice none 0 0) w W0):=qz ⟨by rw [hW0,hH];exact heap_alloc_new _ _,World.ownsRow_nil _ _ _ _,fun j hj=>by omega,fun j hj=>by omega,fun i j hi=>by omega,fun j hj=>by omega,by rw [hW0,hH];exact (Below.refl _ _).alloc (Nat.le_refl _) _⟩
 have HFIN:Hid (∀la be v ws,NewAt H W sh R N F 4 (.slice ta N cap) la be v w ws→y3u (.slice ta N cap) W N F w (.returned (.pointer (some ⟨H,0,none⟩))) ws):=qz fun la be v ws h=>by
  rw [hsh,hR] at h
  obtain ⟨x,c4,e,ho,hi⟩:=h.idx ⟨hr.1,by omega⟩ hN (by omega)
  refine ⟨x,c4,room,by rw [e],by rw [←hH];exact ho,hi,by rw [←hH];exact h.bel⟩
 have HLEN:=qz (fun x:World=>Tryz.bits_Len (N:Int) x (by omega) (by omega))
 have hbi:((N:Int)).toNat=N:=by omega
 rw [hbi,←hbl] at HLEN
 have HH:=qz hH
 have hFN:F≤N:=by omega
 clear hbi hbl hr1 hroom hmn hF hH
 go_enter Tryz.func110,Tryz.ntmps110
 go_upto_region 2 with fail
 rw [←hW0,←uh HH]
 clear hW0
 go_wp2_with (go_at_call 140;refine (uh HLEN _).mono ?_;rintro e w' ⟨rfl,rfl⟩)
 have f3:IntKind.i64.wrap ((2:Int)^room)=(R:Int):=by
  have e:(2:Int)^room=((2^room:Nat):Int):=by norm_cast
  rw [e,←hR]
  exact wi64 (by omega) (by omega)
 have f2:IntKind.i64.wrap (64-(room:Int))=(sh:Int):=by rw [wi64 (by omega) (by omega)];omega
 clear m1 m2 m3 hR f1 hsh
 go_loopg [9] 4 (fun gk d ws=>∃ (k:Nat) (la be:Nat→Nat) (v:Value),gk=4-k∧k≤4∧d=.int .i64 ((2^(k+1):Nat):Int)∧Hid (NewAt H W sh R N F k (.slice ta N cap) la be v w ws))
 case atStart=>exact ⟨0,_,_,_,rfl,by omega,rfl,HN0⟩
 case round =>
  obtain ⟨k,la,be,v,rfl,hk,rfl,HAT⟩:=hrel
  clear HN0
  by_cases hk4:k<4
  ·obtain ⟨z,hz⟩:∃z,z=2^(k+1):=⟨_,rfl⟩
   have hz1:z≤16:=by rw [hz];exact z2z hk4
   have hz2:2^(k+1+1)=2*z:=by rw [hz,Nat.pow_succ];omega
   rw [←hz]
   have HZ:=qz hz
   have HZ2:=qz hz2
   have zi:(z:Int)≤16:=by omega
   obtain ⟨va,vn,vc,rfl⟩:=(uh HAT).shape
   obtain ⟨S,hS⟩:∃S,S=wr.heap.size:=⟨_,rfl⟩
   have d0:=(uh HAT).x2
   have mkR:=z3i R (by omega)
   have mkN:=z3i N hN
   have hal:∀ (A B C:Obj) (l:Nat),Below wr.heap.size wr (((wr.alloc A).alloc B).alloc C).drew∧(((wr.alloc A).alloc B).alloc C).drew.heap[wr.heap.size]?=some A∧(((wr.alloc A).alloc B).alloc C).drew.heap[wr.heap.size+1]?=some B∧(((wr.alloc A).alloc B).alloc C).drew.heap[wr.heap.size+1+1]?=some C:=fun A B C _=>by
    refine ⟨((((Below.refl _ _).alloc (Nat.le_refl _) _).alloc (by simp) _).alloc (by simp;omega) _).drew,?_,?_,?_⟩
    all_goals (
     show ((wr.alloc A).alloc B |>.alloc C).heap[_]?=_
     simp only [z0y,World.size_alloc]
     repeat (first|rw [if_pos trivial]|rw [if_pos (by omega)]|rw [if_neg (by omega)]))
   have HAPP1:Hid _:=qz ((uh HAT).app hk4 wr.heap.size (wr.heap.size+1) (wr.heap.size+1+1) 162 (hal (.cells (z0j R) 21) (.cells (z0j N) 21) (.cells #[.int .i64 ((2^(k+1):Nat):Int),.int .i64 (sh:Int),.slice (some ⟨wr.heap.size,0,none⟩) R R,.slice (some ⟨wr.heap.size+1,0,none⟩) N N] 168) 0).1 (hal _ _ _ 0).2.1 (hal _ _ _ 0).2.2.1 (by omega) (by omega) (by omega) (hal _ _ _ 0).2.2.2)
   have HAPP2:Hid _:=qz ((uh HAT).app hk4 (wr.heap.size+1) wr.heap.size (wr.heap.size+1+1) 162 (hal (.cells (z0j N) 21) (.cells (z0j R) 21) (.cells #[.int .i64 ((2^(k+1):Nat):Int),.int .i64 (sh:Int),.slice (some ⟨wr.heap.size+1,0,none⟩) R R,.slice (some ⟨wr.heap.size,0,none⟩) N N] 168) 0).1 (hal _ _ _ 0).2.2.1 (hal _ _ _ 0).2.1 (by omega) (by omega) (by omega) (hal _ _ _ 0).2.2.2)
   rw [←hz] at HAPP1 HAPP2
   have f4:IntKind.i64.wrap ((z:Int)*2)=(z:Int)*2:=wi64 (by omega) (by omega)
   have hH:H<wr.heap.size:=z0c (uh HAT).xb
   have b1:∀A:Obj,Below wr.heap.size wr (wr.alloc A):=fun A=>(Below.refl _ _).alloc (Nat.le_refl _) _
   have b2:∀A B:Obj,Below wr.heap.size wr ((wr.alloc A).alloc B):=fun A B=>(b1 A).alloc (by simp) _
   have b3:∀A B C:Obj,Below wr.heap.size wr (((wr.alloc A).alloc B).alloc C):=fun A B C=>(b2 A B).alloc (by simp;omega) _
   have d1:(wr.alloc (.cells (z0j R) 21)).cell? ⟨H,2,none⟩=some (.slice va vn vc):=z0p (b1 _) d0 hH
   have d2:(wr.alloc (.cells (z0j N) 21)).cell? ⟨H,2,none⟩=some (.slice va vn vc):=z0p (b1 _) d0 hH
   have d3:((wr.alloc (.cells (z0j R) 21)).alloc (.cells (z0j N) 21)).cell? ⟨H,2,none⟩=some (.slice va vn vc):=z0p (b2 _ _) d0 hH
   have d4:((wr.alloc (.cells (z0j N) 21)).alloc (.cells (z0j R) 21)).cell? ⟨H,2,none⟩=some (.slice va vn vc):=z0p (b2 _ _) d0 hH
   have d5:(((wr.alloc (.cells (z0j R) 21)).alloc (.cells (z0j N) 21)).alloc (.cells #[.int .i64 (z:Int),.int .i64 (sh:Int),.slice (some ⟨wr.heap.size,0,none⟩) R R,.slice (some ⟨wr.heap.size+1,0,none⟩) N N] 168)).cell? ⟨H,2,none⟩=some (.slice va vn vc):=z0p (b3 _ _ _) d0 hH
   have d6:(((wr.alloc (.cells (z0j N) 21)).alloc (.cells (z0j R) 21)).alloc (.cells #[.int .i64 (z:Int),.int .i64 (sh:Int),.slice (some ⟨wr.heap.size+1,0,none⟩) R R,.slice (some ⟨wr.heap.size,0,none⟩) N N] 168)).cell? ⟨H,2,none⟩=some (.slice va vn vc):=z0p (b3 _ _ _) d0 hH
   clear hz hz2 hal b1 b2 b3 hH
   go_upto_region 6 with fail
   go_region_law (
    refine z3m rfl _ _ 162 rfl (.slice va vn vc) (.slice (some ⟨wr.heap.size+1+1,0,none⟩) 1 1) (by rfl) (by rfl) ?_
    first
    | (
     obtain ⟨v',w2,hr,hn,hc,hf⟩:=uh HAPP1
     refine ⟨v',w2,hr,?_⟩)
    | (
     obtain ⟨v',w2,hr,hn,hc,hf⟩:=uh HAPP2
     refine ⟨v',w2,hr,?_⟩)
    obtain ⟨va2,vn2,vc2,rfl⟩:=hn.shape
    have HN2:=qz hn
    clear hn hr)
   all_goals (
    clear mkR mkN HAPP1 HAPP2 d0 d1 d2 d3 d4 d5 d6
    go_wp2_with fail
    go_roundg (4-(k+1))
    case measure=>omega
    case rel=>exact ⟨k+1,_,_,_,rfl,by omega,by rw [uh HZ2];congr 1;omega,HN2⟩)
  ·obtain rfl:k=4:=by omega
   have HE:=qz (uh HFIN _ _ _ _ (uh HAT))
   clear HAT HFIN
   go_wp2_with fail
   go_ret
   exact uh HE
end D
namespace D
open Go.RowKit Rang
attribute [local go_sem ↓] wp_at_zero wp_at_succ
def IvAt (w:World) (iv av:Value) (W N n:Nat) (sep:Nat→Prop):Prop :=
 iv=.pointer none∨∃x c4 room F,iv=.pointer (some ⟨x.xb,0,none⟩)∧IxAt w x av W c4 room N F (fun _=>F)∧F≤n∧∀k,x.own k∨k=x.lb→sep k
structure MKeep (sep:Nat→Prop) (wb:Nat) (w w':World):Prop where
 os:w'.os=w.os
 tape:w'.tape=w.tape
 output:w'.output=w.output
 size:w.heap.size≤w'.heap.size
 keep:∀k,k<w.heap.size→k≠wb→¬sep k→w'.heap[k]?=w.heap[k]?
theorem MKeep.refl (sep:Nat→Prop) (wb:Nat) (w:World):MKeep sep wb w w:=⟨rfl,rfl,rfl,Nat.le_refl _,fun _ _ _ _=>rfl⟩
theorem MKeep.trans {sep:Nat→Prop} {wb:Nat} {a b c:World} (h:MKeep sep wb a b) (k:MKeep sep wb b c):MKeep sep wb a c :=
 ⟨k.os.trans h.os,k.tape.trans h.tape,k.output.trans h.output,Nat.le_trans h.size k.size,fun i hi h1 h2=>(k.keep i (Nat.lt_of_lt_of_le hi h.size) h1 h2).trans (h.keep i hi h1 h2)⟩
theorem MKeep.of_below {sep:Nat→Prop} {wb:Nat} {w w':World} (h:Below w.heap.size w w'):MKeep sep wb w w':=⟨h.os,h.tape,h.output,h.size,fun k hk _ _=>h.block k hk⟩
theorem MKeep.drewN {sep:Nat→Prop} {wb:Nat} {w w':World} (h:MKeep sep wb w w') (q:Nat):MKeep sep wb w (w'.drewN q):=⟨h.os,h.tape,h.output,h.size,h.keep⟩
theorem MKeep.set {sep:Nat→Prop} {wb:Nat} {w w':World} (h:MKeep sep wb w w') (i:Nat) (v:Value):MKeep sep wb w (w'.setCell ⟨wb,i,none⟩ v) :=
 ⟨h.os,h.tape,h.output,by simpa using h.size,fun k hk h1 h2=>by rw [heap_setCell_other _ _ _ _ h1];exact h.keep k hk h1 h2⟩
theorem MKeep.ich {sep:Nat→Prop} {wb:Nat} {w w1 w':World} {x:IxB} (h:MKeep sep wb w w1) (hc:ICh x w1 w') (hx:∀k,x.own k→sep k):MKeep sep wb w w' :=
 h.trans ⟨hc.os,hc.tape,hc.output,hc.size,fun k hk _ h2=>hc.keep k hk (fun ho=>h2 (hx k ho))⟩
theorem SAt.setTl {w:World} {b:Nat} {t:TypeId} {tl tl':List Value} {s:LS} {chv tv:Value} (h:SAt w b t tl s chv tv) (i:Nat) (v:Value) (hc:(z0v s chv tv++tl).set i v=z0v s chv tv++tl'):SAt (w.setCell ⟨b,i,none⟩ v) b t tl' s chv tv:=by
 unfold SAt
 rw [heap_setCell_same w b i _ t v h,←hc]
 simp
theorem SAt.keepM {w w':World} {b:Nat} {t:TypeId} {tl:List Value} {s:LS} {chv tv:Value} (h:SAt w b t tl s chv tv) (e:w'.heap[b]?=w.heap[b]?):SAt w' b t tl s chv tv:=by unfold SAt;rw [e];exact h
def y2e (wb so:Nat) (ov av:Value) (W N n:Nat) (s:LS) (chv tv:Value) (zs:List Nat) (sep:Nat→Prop) (w:World) (e:Ending) (w':World):Prop :=
 ∃ (nn dd so':Nat) (iv':Value),e=.returned (.tuple #[.int .i64 (nn:Int),.int .i64 (dd:Int)])∧MOk zs n W (min 273 (N-n)) nn dd∧SAt w' wb 73 [ov,av,.int .i64 (so':Int),iv'] s chv tv∧so'≤so+1∧IvAt w' iv' av W N n sep∧MKeep sep wb w w'
theorem y0l (zs:List Nat) (p W:Nat):MOk zs p W (min 273 (zs.length-p)) (best zs p W 273).1 (best zs p W 273).2:=by
 by_cases hx:∃x:Nat × Nat,T6.IsBest (fun i=>zs.getD i 0) p (Nat.min p W) (Nat.min 273 (zs.length-p)) x.1 x.2
 ·obtain ⟨x,h⟩:=hx
  obtain ⟨h1,h2⟩:=z5o (W:=W) (m:=273) h
  rw [←h1,←h2]
  exact MOk.of_best h
 ·unfold best
  rw [dif_neg hx]
  exact .inl ⟨rfl,rfl⟩
end D
namespace D
open Go.RowKit Rang
attribute [local go_sem ↓] wp_at_zero wp_at_succ
theorem y0f (wb g off cap N n so again:Nat) (ov iv:Value) (s:LS) (chv:Value) (ta:Option Addr) (tc:Nat) (zs:List Nat) (sep:Nat→Prop) (w:World)
  (h:SAt w wb 73 [ov,.slice (some ⟨g,off,none⟩) N cap,.int .i64 (so:Int),iv] s chv (.slice ta n tc)) (hz:zs.length=N) (hn:n<N) (hc:N≤cap) (hN:N≤1073741824) (hb:∀z∈zs,z<256) (hA:BAt w g off zs) (hml:T6.ML w) (hW:1≤s.W) (hW':s.W≤268435456) (hso:so≤1099511627776) (hag:again≤273) (hgw:g≠wb) (hw0:wb≠0)
  (hiv:IvAt w iv (.slice (some ⟨g,off,none⟩) N cap) s.W N n sep) (hsep:∀k,sep k→k≠wb∧k≠g∧k≠0) (hfresh:∀k,w.heap.size≤k→sep k) :
  Calls Tryz.prog 78 #[.pointer (some ⟨wb,0,none⟩),.int .i64 (again:Int)] w (y2e wb so ov (.slice (some ⟨g,off,none⟩) N cap) s.W N n s chv (.slice ta n tc) zs sep w):=by
 obtain ⟨av,hav⟩:∃av,av=Value.slice (some ⟨g,off,none⟩) N cap:=⟨_,rfl⟩
 obtain ⟨mm,hmm⟩:∃mm,mm=min (N-n) 273:=⟨_,rfl⟩
 have HL:=qz (z9f wb g off N cap n ta tc w h.c10 (h.cell 13) hn hc (by omega))
 rw [←hmm] at HL
 have hmm1:1≤mm:=by omega
 have HMM:=qz hmm
 have H:=qz h
 have HB:=qz hb
 have HA:=qz hA
 have HML:=qz hml
 have HIV:=qz hiv
 have HSEP:=qz hsep
 have HFR:=qz hfresh
 have HZ:=qz hz
 have HP:Hid (∀nn dd so' iv' w',MOk zs n s.W (min 273 (N-n)) nn dd→SAt w' wb 73 [ov,.slice (some ⟨g,off,none⟩) N cap,.int .i64 ((so':Nat):Int),iv'] s chv (.slice ta n tc)→so'≤so+1→IvAt w' iv' (.slice (some ⟨g,off,none⟩) N cap) s.W N n sep→MKeep sep wb w w'→y2e wb so ov (.slice (some ⟨g,off,none⟩) N cap) s.W N n s chv (.slice ta n tc) zs sep w (.returned (.tuple #[.int .i64 ((nn:Nat):Int),.int .i64 ((dd:Nat):Int)])) w'):=qz fun nn dd so' iv' w' h1 h2 h3 h4 h5=>⟨nn,dd,so',iv',rfl,h1,h2,h3,h4,h5⟩
 clear hmm hav h hb hA hml hiv hsep hfresh hz
 generalize y2e wb so ov (.slice (some ⟨g,off,none⟩) N cap) s.W N n s chv (.slice ta n tc) zs sep w=POST at HP ⊢
 by_cases hcl:2≤again∧mm≤again+1
 ·have i1:(2:Int)≤(again:Int):=by omega
  have i2:(mm:Int)≤(again:Int)+1:=by omega
  have i3:IntKind.i64.wrap ((again:Int)+1)=(again:Int)+1:=wi64 (by omega) (by omega)
  clear hcl
  go_enter Tryz.func78,Tryz.ntmps78
  go_wp2_with fail
  refine (uh HL).mono ?_
  rintro e w1 ⟨rfl,q,rfl⟩
  go_wp2_with fail
  exact uh HP 0 0 so iv _ (.inl ⟨rfl,rfl⟩) ((uh H).drewN q) (by omega) (by
   rcases uh HIV with h|⟨x,c4,room,F,h1,h2,h3⟩
   ·exact .inl h
   ·exact .inr ⟨x,c4,room,F,h1,h2.drewN q,h3⟩) ((MKeep.refl _ _ _).drewN q)
 ·go_enter Tryz.func78,Tryz.ntmps78
  go_upto_region 1 with fail
  go_cut [15] from 6 to 14 (fun a ws=>a=.bool false∧∃q,ws=w.drewN q)
  case first =>
   by_cases hag2:2≤again
   ·have i1:(2:Int)≤(again:Int):=by omega
    have i2:¬ (mm:Int)≤(again:Int)+1:=by omega
    have i3:IntKind.i64.wrap ((again:Int)+1)=(again:Int)+1:=wi64 (by omega) (by omega)
    clear hcl hag2
    go_wp2_with fail
    refine (uh HL).mono ?_
    rintro e w1 ⟨rfl,q,rfl⟩
    go_wp2_with fail
    go_meet
    exact ⟨congrArg Value.bool (decide_eq_false (by omega)),q,rfl⟩
   ·have i1:¬ (2:Int)≤(again:Int):=by omega
    clear hcl hag2
    go_wp2_with fail
    go_meet
    exact ⟨rfl,0,rfl⟩
  case rest =>
   obtain ⟨rfl,q,hq⟩:=hcut
   have c14:wc.cell? ⟨wb,14,none⟩=some (.int .i64 (so:Int)):=by rw [hq];exact (uh H).cell 14
   have f14:wc.frozen? ⟨wb,14,none⟩=false:=by rw [hq];exact (uh H).free 14
   have i1:IntKind.i64.wrap ((so:Int)+1)=(so:Int)+1:=wi64 (by omega) (by omega)
   have HS2:Hid (SAt (wc.setCell ⟨wb,14,none⟩ (.int .i64 ((so:Int)+1))) wb 73 [ov,.slice (some ⟨g,off,none⟩) N cap,.int .i64 ((so+1:Nat):Int),iv] s chv (.slice ta n tc)):=qz (by rw [hq];exact ((uh H).drewN q).setTl 14 (.int .i64 ((so+1:Nat):Int)) rfl)
   have HK2:Hid (MKeep sep wb w (wc.setCell ⟨wb,14,none⟩ (.int .i64 ((so:Int)+1)))):=qz (by rw [hq];exact ((MKeep.refl _ _ _).drewN q).set 14 _)
   have o2:∀k,k≠wb→(wc.setCell ⟨wb,14,none⟩ (.int .i64 ((so:Int)+1))).heap[k]?=w.heap[k]?:=fun k hk=>by rw [heap_setCell_other _ _ _ _ hk,hq];rfl
   have HIV2:Hid (IvAt (wc.setCell ⟨wb,14,none⟩ (.int .i64 ((so:Int)+1))) iv (.slice (some ⟨g,off,none⟩) N cap) s.W N n sep):=qz (by
    rcases uh HIV with h|⟨x,c4,room,F,h1,h2,h3,h4⟩
    ·exact .inl h
    ·exact .inr ⟨x,c4,room,F,h1,h2.keep (fun k hk=>o2 k ((uh HSEP k (h4 k hk)).1)),h3,h4⟩)
   have HA2:Hid (BAt (wc.setCell ⟨wb,14,none⟩ (.int .i64 ((so:Int)+1))) g off zs):=qz fun j hj=>by rw [World.cell?_of_block (o2 g hgw)];exact uh HA j hj
   have HML2:Hid (T6.ML (wc.setCell ⟨wb,14,none⟩ (.int .i64 ((so:Int)+1)))):=qz (by
    obtain ⟨mm,hmm⟩:=uh HML
    exact ⟨mm,by rw [World.cell?_of_block (o2 0 (Ne.symm hw0))];exact hmm⟩)
   clear hq o2 HIV H HA HML HL HMM hmm1 hcl
   go_upto_region 4 with fail
   clear c14 f14 i1
   generalize wc.setCell ⟨wb,14,none⟩ (.int .i64 ((so:Int)+1))=w2 at *
   have c0:=(uh HS2).c0
   have c10:=(uh HS2).c10
   have c13:w2.cell? ⟨wb,13,none⟩=some (.slice (some ⟨g,off,none⟩) N cap):=(uh HS2).cell 13
   have c14:w2.cell? ⟨wb,14,none⟩=some (.int .i64 ((so:Int)+1)):=(uh HS2).cell 14
   by_cases hfew:so+1≤64
   ·have i1:(so:Int)+1≤64:=by omega
    have HMT:Hid (∀r,Calls Tryz.prog 109 #[.slice (some ⟨g,off,none⟩) N cap,.int .i64 (n:Int),.int .i64 (s.W:Int),.int .i64 273] (w2.drewN r) (Rt (.tuple #[.int .i64 ((best zs n s.W 273).1:Int),.int .i64 ((best zs n s.W 273).2:Int),.int .i64 0]) (w2.drewN r))):=qz fun r=>by
     have:=z5i zs g off cap n s.W 273 (w2.drewN r) (uh HB) (uh HA2) (by rw [uh HZ];exact hc) (by rw [uh HZ];omega) (by rw [uh HZ];omega) (by rw [uh HZ];omega) ⟨hW,by omega⟩ ⟨by omega,by omega⟩ ((uh HML2).drewN r)
     rw [uh HZ] at this
     exact this
    have HBO:=qz (y0l zs n s.W)
    rw [uh HZ] at HBO
    obtain ⟨bn,hbn⟩:∃bn,bn=(best zs n s.W 273).1:=⟨_,rfl⟩
    obtain ⟨bd,hbd⟩:∃bd,bd=(best zs n s.W 273).2:=⟨_,rfl⟩
    rw [←hbn,←hbd] at HMT HBO
    clear hbn hbd hfew
    go_wp2_with fail
    go_quiet (first|(go_at_call 109;refine Calls.quiet_of (uh HMT _)))
    go_wp2_with fail
    exact uh HP bn bd (so+1) iv _ (uh HBO) ((uh HS2).drewN nq) (Nat.le_refl _) (by
     rcases uh HIV2 with h|⟨x,c4,room,F,h1,h2,h3⟩
     ·exact .inl h
     ·exact .inr ⟨x,c4,room,F,h1,h2.drewN nq,h3⟩) ((uh HK2).drewN nq)
   ·have i1:¬ (so:Int)+1≤64:=by omega
    clear hfew
    have HIM:Hid (∀ (w4:World) (x:IxB) (c4 room F:Nat),IxAt w4 x (.slice (some ⟨g,off,none⟩) N cap) s.W c4 room N F (fun _=>F)→F≤n→(∀k,x.own k∨k=x.lb→sep k)→SAt w4 wb 73 [ov,.slice (some ⟨g,off,none⟩) N cap,.int .i64 ((so+1:Nat):Int),.pointer (some ⟨x.xb,0,none⟩)] s chv (.slice ta n tc)→MKeep sep wb w w4→BAt w4 g off zs→T6.ML w4 →
      Calls Tryz.prog 111 #[.pointer (some ⟨x.xb,0,none⟩),.int .i64 (n:Int)] w4 fun e w'=>∃nn dd:Nat,e=.returned (.tuple #[.int .i64 (nn:Int),.int .i64 (dd:Int)])∧POST (.returned (.tuple #[.int .i64 (nn:Int),.int .i64 (dd:Int)])) w'):=qz fun w4 x c4 room F h1 h2 h3 h4 h5 h6 h7=>by
     have hs:=fun k hk=>uh HSEP k (h3 k (.inl hk))
     refine (z8y x g off cap s.W c4 room N F n zs w4 h1 (uh HZ) hc (uh HB) h6 (fun ho=>(hs _ ho).2.1 rfl) (fun ho=>(hs _ ho).2.2 rfl) (z0i (h6 0 (by rw [uh HZ];omega))) h2 hn hW (by omega) h7).mono ?_
     rintro e w' ⟨nn,dd,rfl,k1,k2,k3⟩
     refine ⟨nn,dd,rfl,uh HP nn dd (so+1) _ w' k1 (h4.keepM (k3.keep wb h4.lt (fun ho=>(hs _ ho).1 rfl))) (Nat.le_refl _) (.inr ⟨x,c4,room,n,rfl,k2,Nat.le_refl _,h3⟩) (h5.ich k3 (fun k hk=>h3 k (.inl hk)))⟩
    have c15:w2.cell? ⟨wb,15,none⟩=some iv:=(uh HS2).cell 15
    rcases uh HIV2 with rfl|⟨x,c4,room,F,rfl,h2,h3,h4⟩
    ·go_upto_if 54 with fail
     go_cut [] from 55 to 73 (fun ws=>Hid (∃ (x:IxB) (c4 room F:Nat),IxAt ws x (.slice (some ⟨g,off,none⟩) N cap) s.W c4 room N F (fun _=>F)∧F≤n∧(∀k,x.own k∨k=x.lb→sep k)∧SAt ws wb 73 [ov,.slice (some ⟨g,off,none⟩) N cap,.int .i64 ((so+1:Nat):Int),.pointer (some ⟨x.xb,0,none⟩)] s chv (.slice ta n tc)∧MKeep sep wb w ws∧BAt ws g off zs∧T6.ML ws))
     case first =>
      clear HIM
      have d0:w2.drew.cell? ⟨wb,0,none⟩=_:=c0
      have d10:w2.drew.cell? ⟨wb,10,none⟩=_:=c10
      have d13:w2.drew.cell? ⟨wb,13,none⟩=_:=c13
      have HNI:=qz (z5x (some ⟨g,off,none⟩) N cap n s.W w2.drew hN (by omega) (by omega))
      clear HIV2
      go_upto_region 8 with fail
      go_region_law (
       refine z0z 110 #[.slice (some ⟨g,off,none⟩) N cap,.int .i64 (n:Int),.int .i64 (s.W:Int)] rfl (by go_simp) ?_
       refine (uh HNI).mono ?_
       rintro e w3 ⟨x,c4,room,rfl,k1,k2,k3⟩
       have k3':Below w2.heap.size w2 w3:=⟨k3.os,k3.tape,k3.output,k3.size,k3.block⟩
       have k1':∀k,x.own k∨k=x.lb→w2.heap.size≤k:=k1
       have HS3:=qz ((uh HS2).stays k3')
       have e15:w3.cell? ⟨wb,15,none⟩=some (.pointer none):=(uh HS3).cell 15
       have f15:w3.frozen? ⟨wb,15,none⟩=false:=(uh HS3).free 15
       have HK1:=qz k1'
       have HK3:=qz k3'
       have HIX3:=qz k2
       clear k1 k2 k3 k1' k3'
       refine ⟨_,rfl,?_⟩)
      all_goals (
       go_wp2_with fail
       go_meet
       have hbw:wb<w2.heap.size:=(uh HS2).lt
       have k1:=uh HK1
       have k3:=uh HK3
       have h0:=(uh HK2).size
       have o:∀k,k≠wb→(w3.setCell ⟨wb,15,none⟩ (.pointer (some ⟨x.xb,0,none⟩))).heap[k]?=w3.heap[k]?:=fun k hk=>heap_setCell_other _ _ _ _ hk
       refine qz ⟨x,c4,room,_,(uh HIX3).keep (fun k hk=>o k (by have:=k1 k hk;omega)),by omega,fun k hk=>uh HFR k (by have:=k1 k hk;omega),(uh HS3).setTl 15 _ rfl,((uh HK2).trans (MKeep.of_below k3)).set 15 _,fun j hj=>?_,?_⟩
       ·rw [World.cell?_of_block (o g hgw)];exact ((uh HA2).below k3) j hj
       ·obtain ⟨mm,hmm⟩:=(uh HML2).stays k3
        exact ⟨mm,by rw [World.cell?_of_block (o 0 (Ne.symm hw0))];exact hmm⟩)
     case rest =>
      obtain ⟨x,c4,room,F,h2,h3,h4,h5,h6,h7,h8⟩:=uh hcut
      have HCI:=qz (uh HIM wc.drew x c4 room F (h2.drewN 1) h3 h4 (h5.drewN 1) (h6.drewN 1) h7 (h8.drewN 1))
      have d10:wc.drew.cell? ⟨wb,10,none⟩=_:=h5.c10
      have d15:wc.drew.cell? ⟨wb,15,none⟩=some (.pointer (some ⟨x.xb,0,none⟩)):=h5.cell 15
      clear hcut h2 h3 h4 h5 h6 h7 h8 c0 c10 c13 c14 c15 HIM HIV2 HS2 HK2 HA2 HML2
      go_upto_region 9 with fail
      go_region_law (
       refine z0z 111 #[.pointer (some ⟨x.xb,0,none⟩),.int .i64 (n:Int)] rfl (by go_simp) ?_
       refine (uh HCI).mono ?_
       rintro e w3 ⟨nn,dd,rfl,k1⟩
       have HK1:=qz k1
       clear k1
       refine ⟨_,rfl,?_⟩)
      all_goals (
       go_wp2_with fail
       exact uh HK1)
    ·have HCI:=qz (uh HIM w2.drew x c4 room F (h2.drewN 1) h3 h4 ((uh HS2).drewN 1) ((uh HK2).drewN 1) (uh HA2) ((uh HML2).drewN 1))
     have d10:w2.drew.cell? ⟨wb,10,none⟩=_:=c10
     have d15:w2.drew.cell? ⟨wb,15,none⟩=some (.pointer (some ⟨x.xb,0,none⟩)):=c15
     clear h2 h3 h4 HIM HIV2 HA2 HML2
     go_upto_region 9 with fail
     go_region_law (
      refine z0z 111 #[.pointer (some ⟨x.xb,0,none⟩),.int .i64 (n:Int)] rfl (by go_simp) ?_
      refine (uh HCI).mono ?_
      rintro e w3 ⟨nn,dd,rfl,k1⟩
      have HK1:=qz k1
      clear k1
      refine ⟨_,rfl,?_⟩)
     all_goals (
      go_wp2_with fail
      exact uh HK1)
end D
namespace D
open Go.RowKit Rang
attribute [local go_sem ↓] wp_at_zero wp_at_succ
/- what a true match says -/
theorem z7b (zs:List Nat) (d:Nat):∀ (n p:Nat),1≤d→d≤p→p+n≤zs.length→T6.Eqs (fun i=>zs.getD i 0) p d n→rept (d-1) n (zs.take p)=zs.take (p+n)
 | 0,p,_,_,_,_=>rfl
 | n+1,p,h1,h2,h3,h4=>by
  rw [rept]
  have hl:(zs.take p).length=p:=by rw [List.length_take];omega
  have e0:=h4 0 (by omega)
  have e1:(zs.take p).getD (p-1-(d-1)) 0=zs.getD p 0:=by
   rw [show p-1-(d-1)=p-d by omega]
   have e0:zs.getD p 0=zs.getD (p-d) 0:=e0
   rw [e0]
   simp [List.getD_eq_getElem?_getD,show p-d<p by omega]
  rw [hl,e1]
  have e2:zs.take p++[zs.getD p 0]=zs.take (p+1):=by
   rw [List.take_add_one,List.getElem?_eq_getElem (by omega)]
   simp [List.getD_eq_getElem?_getD,List.getElem?_eq_getElem (show p<zs.length by omega)]
  rw [e2,z7b zs d n (p+1) h1 (by omega) (by omega) (fun i hi=>by
   have:=h4 (i+1) (by omega)
   rw [show p+(i+1)=p+1+i by omega] at this
   exact this),show p+1+n=p+(n+1) by omega]
theorem z5f (zs:List Nat) (p n:Nat):zs.take (p+n)=zs.take p++(zs.drop p).take n:=by rw [List.take_add]
noncomputable def comN (xs ys:List Nat):Nat :=
 open Classical in if h:∃n,T6.IsCommon xs ys n then Classical.choose h else 0
theorem z8k {xs ys:List Nat} {n:Nat} (h:T6.IsCommon xs ys n):n=comN xs ys:=by
 have hx:∃n,T6.IsCommon xs ys n:=⟨n,h⟩
 have h2:=Classical.choose_spec hx
 have e:comN xs ys=Classical.choose hx:=by unfold comN;rw [dif_pos hx]
 rw [e]
 rcases Nat.lt_trichotomy n (Classical.choose hx) with hl|he|hl
 ·exact absurd (h2.eq n hl) (h.ne (by have:=h2.l1;omega) (by have:=h2.l2;omega))
 ·exact he
 ·exact absurd (h.eq _ hl) (h2.ne (by have:=h.l1;omega) (by have:=h.l2;omega))
theorem y2m (xs ys:List Nat):comN xs ys≤ys.length∧∀i,i<comN xs ys→xs.getD i 0=ys.getD i 0:=by
 by_cases hx:∃n,T6.IsCommon xs ys n
 ·obtain ⟨n,h⟩:=hx
  rw [←z8k h]
  exact ⟨h.l2,h.eq⟩
 ·unfold comN
  rw [dif_neg hx]
  exact ⟨Nat.zero_le _,fun i hi=>by omega⟩
noncomputable def comB (zs:List Nat) (p m W f:Nat):Nat:=if f<min p W then comN (zs.drop (p-1-f)) ((zs.drop p).take m) else 0
theorem z5p {zs:List Nat} {p m W f:Nat} (hp:p+m≤zs.length):comB zs p m W f≤m∧(0<comB zs p m W f→f<min p W)∧T6.Eqs (fun i=>zs.getD i 0) p (f+1) (comB zs p m W f):=by
 unfold comB
 by_cases h:f<min p W
 ·rw [if_pos h]
  obtain ⟨h1,h2⟩:=y2m (zs.drop (p-1-f)) ((zs.drop p).take m)
  have hl:((zs.drop p).take m).length≤m:=by rw [List.length_take];omega
  refine ⟨by omega,fun _=>h,fun i hi=>?_⟩
  have h3:=h2 i hi
  have h4:i<m:=by omega
  have e1:(zs.drop (p-1-f)).getD i 0=zs.getD (p-1-f+i) 0:=by simp [List.getD_eq_getElem?_getD,List.getElem?_drop]
  have e2:((zs.drop p).take m).getD i 0=zs.getD (p+i) 0:=by simp [List.getD_eq_getElem?_getD,h4]
  rw [e1,e2] at h3
  show zs.getD (p+i) 0=zs.getD (p+i-(f+1)) 0
  rw [show p+i-(f+1)=p-1-f+i by omega]
  exact h3.symm
 ·rw [if_neg h]
  exact ⟨Nat.zero_le _,fun h=>by omega,fun i hi=>by omega⟩
theorem z8o (com:Nat→Nat):∀i,(farR com i).2=0∨((farR com i).1<i∧com (farR com i).1=(farR com i).2)
 | 0=>.inl rfl
 | i+1=>by
  rw [farR]
  split
  ·exact .inr ⟨by show i<i+1;omega,rfl⟩
  ·rcases z8o com i with h|⟨h1,h2⟩
   ·exact .inl h
   ·exact .inr ⟨by omega,h2⟩
def Sep (W:World) (wb pb gc:Nat) (av ov tv:Value) (k:Nat):Prop:=W.heap.size≤k∧k≠wb∧k≠pb∧k≠gc∧av.ownBlock≠some k∧ov.ownBlock≠some k∧tv.ownBlock≠some k
structure WX (B:Nat) (W w:World) (wb pb gc:Nat) (ov0 ov:Value) (s:LS) (chv tv:Value) (σ:Sta) (aa:Option Addr) (N cap:Nat) (zs:List Nat) (so:Nat) (iv:Value):Prop where
 wc:WC B w wb pb gc ov [.slice aa N cap,.int .i64 (so:Int),iv] s chv tv σ
 wt:WT W w wb pb gc ov0 ov
 al:TAt w (.slice aa N cap) zs
 zl:zs.length=N
 ap:∀b,ov.ownBlock=some b→(Value.slice aa N cap).ownBlock≠some b
 pre:s.text=zs.take s.text.length
 len:s.text.length≤N
 bytes:∀z∈zs,z<256
 small:N≤1073741824
 ml:T6.ML w
 ix:IvAt w iv (.slice aa N cap) s.W N s.text.length (Sep W wb pb gc (.slice aa N cap) ov tv)
 B1:1≤B
 W1:1≤W.heap.size
 Bw:B≤wb
 ab:∀b,(Value.slice aa N cap).ownBlock=some b→b<w.heap.size∧b≠wb∧b≠pb∧b≠gc
section
variable {B:Nat} {W w w':World} {wb pb gc:Nat} {ov0 ov ov':Value} {s s':LS} {chv tv:Value} {σ σ':Sta} {aa:Option Addr} {N cap:Nat} {zs:List Nat} {so so':Nat} {iv iv':Value}
theorem WC.ovB {tl:List Value} (h:WC B w wb pb gc ov tl s chv tv σ):∀b,ov.ownBlock=some b→B≤b:=fun b e=>by
 rcases h.enc.1.enc.row.2 with ⟨e1,e2⟩|⟨g',cap,cur,e1,hb,hh,_⟩
 ·rw [e1] at e;cases e
 ·rw [e1] at e
  obtain rfl:g'=b:=Option.some.inj e
  exact hb
theorem WC.lts {tl:List Value} (h:WC B w wb pb gc ov tl s chv tv σ):wb<w.heap.size∧pb<w.heap.size∧gc<w.heap.size∧(∀b,ov.ownBlock=some b→b<w.heap.size)∧(∀b,tv.ownBlock=some b→b<w.heap.size) :=
 ⟨h.st.lt,z0c h.enc.1.enc.cells,h.enc.1.chs.lt,fun b e=>by obtain ⟨cur,hc⟩:=z2h h.enc.1.enc e;exact z0c hc,h.tb⟩
theorem WX.step (h:WX B W w wb pb gc ov0 ov s chv tv σ aa N cap zs so iv) (hw:WC B w' wb pb gc ov' [.slice aa N cap,.int .i64 (so:Int),iv] s' chv tv σ') (ht:WT w w' wb pb gc ov ov') (hx:s'.text=s.text) (hW:s'.W=s.W):WX B W w' wb pb gc ov0 ov' s' chv tv σ' aa N cap zs so iv:=by
 obtain ⟨l1,l2,l3,l4,l5⟩:=h.wc.lts
 obtain ⟨b1,b2,b3⟩:=h.wc.low
 have hB1:=h.B1
 have hBw:=h.Bw
 refine ⟨hw,h.wt.trans ht,h.al.of (fun g cur e hg=>?_),h.zl,fun b e=>?_,by rw [hx];exact h.pre,by rw [hx];exact h.len,h.bytes,h.small,?_,?_,h.B1,h.W1,h.Bw,fun b e=>?_⟩
 ·obtain ⟨a1,a2,a3,a4⟩:=h.ab g e
  exact ht.keep g a1 a2 a3 a4 (fun e'=>h.ap g e' e)
 ·rcases ht.lies b e with e1|e1
  ·exact h.ap b e1
  ·exact fun e2=>by have:=(h.ab b e2).1;omega
 ·obtain ⟨mm,hmm⟩:=h.ml
  refine ⟨mm,?_⟩
  rw [World.cell?_of_block (ht.keep 0 (z0i hmm) (by show (0:Nat)≠wb;omega) (by show (0:Nat)≠pb;omega) (by show (0:Nat)≠gc;omega) (fun e=>by have:=h.wc.ovB 0 e;omega))]
  exact hmm
 ·rw [hx,hW]
  rcases h.ix with e|⟨x,c4,room,F,e,hix,hF,hs⟩
  ·exact .inl e
  ·refine .inr ⟨x,c4,room,F,e,hix.keep (fun k hk=>?_),hF,fun k hk=>?_⟩
   ·obtain ⟨s1,s2,s3,s4,s5,s6,s7⟩:=hs k hk
    exact ht.keep k (hix.own_lt k hk) s2 s3 s4 s6
   ·obtain ⟨s1,s2,s3,s4,s5,s6,s7⟩:=hs k hk
    refine ⟨s1,s2,s3,s4,s5,fun e'=>?_,s7⟩
    rcases ht.lies k e' with e1|e1
    ·exact s6 e1
    ·have:=hix.own_lt k hk;omega
 ·obtain ⟨a1,a2⟩:=h.ab b e
  exact ⟨Nat.lt_of_lt_of_le a1 ht.size,a2⟩
theorem WX.matched (h:WX B W w wb pb gc ov0 ov s chv tv σ aa N cap zs so iv) (hs:SAt w' wb 73 [.pointer (some ⟨pb,0,none⟩),.slice aa N cap,.int .i64 (so':Int),iv'] s chv tv) (hi:IvAt w' iv' (.slice aa N cap) s.W N s.text.length (Sep W wb pb gc (.slice aa N cap) ov tv)) (hk:MKeep (Sep W wb pb gc (.slice aa N cap) ov tv) wb w w'):WX B W w' wb pb gc ov0 ov s chv tv σ aa N cap zs so' iv':=by
 obtain ⟨l1,l2,l3,l4,l5⟩:=h.wc.lts
 obtain ⟨b1,b2,b3⟩:=h.wc.low
 obtain ⟨n1,n2,n3⟩:=h.wc.ne
 have hB1:=h.B1
 have hBw:=h.Bw
 have kpb:w'.heap[pb]?=w.heap[pb]?:=hk.keep pb l2 (Ne.symm n1) (fun hs=>hs.2.2.1 rfl)
 have kgc:w'.heap[gc]?=w.heap[gc]?:=hk.keep gc l3 (Ne.symm n2) (fun hs=>hs.2.2.2.1 rfl)
 have kov:∀b,ov.ownBlock=some b→w'.heap[b]?=w.heap[b]?:=fun b e=>hk.keep b (l4 b e) (fun e'=>n3 (e'▸e)) (fun hs=>hs.2.2.2.2.2.1 e)
 refine ⟨⟨hs,h.wc.enc.of kpb kgc kov hk.size,h.wc.tx.of (fun g cur e hg=>?_),h.wc.ap,h.wc.ok,h.wc.chl,h.wc.hn,fun g e=>Nat.lt_of_lt_of_le (l5 g e) hk.size⟩,⟨hk.os.trans h.wt.os,hk.tape.trans h.wt.tape,hk.output.trans h.wt.output,Nat.le_trans h.wt.size hk.size,fun k k1 k2 k3 k4 k5=>?_,h.wt.lies⟩,h.al.of (fun g cur e hg=>?_),h.zl,h.ap,h.pre,h.len,h.bytes,h.small,?_,hi,h.B1,h.W1,h.Bw,fun b e=>?_⟩
 ·exact hk.keep g (l5 g e) (z0e hg h.wc.st (by decide)) (fun hs=>hs.2.2.2.2.2.2 e)
 ·rw [hk.keep k (Nat.lt_of_lt_of_le k1 h.wt.size) k2 (fun hs=>by have:=hs.1;omega)]
  exact h.wt.keep k k1 k2 k3 k4 k5
 ·obtain ⟨a1,a2,a3,a4⟩:=h.ab g e
  exact hk.keep g a1 a2 (fun hs=>hs.2.2.2.2.1 e)
 ·obtain ⟨mm,hmm⟩:=h.ml
  refine ⟨mm,?_⟩
  have hW1:=h.W1
  rw [World.cell?_of_block (hk.keep 0 (z0i hmm) (by show (0:Nat)≠wb;omega) (fun hs=>by have:=hs.1;omega))]
  exact hmm
 ·obtain ⟨a1,a2⟩:=h.ab b e
  exact ⟨Nat.lt_of_lt_of_le a1 hk.size,a2⟩
end
end D
namespace D
open Go.RowKit Rang
attribute [local go_sem ↓] wp_at_zero wp_at_succ
section
variable {B:Nat} {W w w':World} {wb pb gc:Nat} {ov0 ov ov':Value} {s s':LS} {chv tv:Value} {σ σ':Sta} {aa:Option Addr} {N cap:Nat} {zs:List Nat} {so so':Nat} {iv iv':Value}
theorem WX.put (h:WX B W w wb pb gc ov0 ov s chv tv σ aa N cap zs so iv) {acts:List A4} {e:Ending} (hp:PD B wb pb gc ov [.slice aa N cap,.int .i64 (so:Int),iv] s' chv tv σ ([]++acts) w e w') (hx:s'.text=s.text) (hW:s'.W=s.W) :
  e=.returned (.tuple #[])∧∃ov',WX B W w' wb pb gc ov0 ov' s' chv tv (z0s acts σ) aa N cap zs so iv∧(z0s acts σ).k≤σ.k+31*acts.length:=by
 obtain ⟨he,ov',h1,h2,h3⟩:=hp
 rw [List.nil_append] at h1 h3
 exact ⟨he,ov',h.step h1 h2 hx hW,h3⟩
theorem z9g (a y n:Nat):(lenA a y n).length≤3:=by unfold lenA;split<;>(try split)<;>simp
theorem y0j (f n:Nat):(z2n f n).length≤3:=by unfold z2n;simp only [List.length_cons];split<;>(try split)<;>simp
theorem y0g (s:LS) (p:Pc):(s.actsP p).length≤12:=by
 cases p with
 | byte c=>show (bitA s.matchC 0 :: z5j s.byteC c 8 1 (s.back s.f0) (decide (7≤s.z))).length≤12;rw [List.length_cons,z5k];omega
 | mat f n=>show (bitA s.matchC 1 :: bitA (384+s.z) 0 :: (lenA 432 s.y n++z2n f n)).length≤12;have:=z9g 432 s.y n;have:=y0j f n;simp;omega
 | far j n =>
  show (bitA s.matchC 1 :: bitA (384+s.z) 1 :: (s.whichA j++lenA 946 s.y n)).length≤12
  have:=z9g 946 s.y n
  have:(s.whichA j).length≤3:=by unfold LS.whichA;split<;>(try split)<;>simp
  simp;omega
def y2f (B:Nat) (W:World) (wb pb gc:Nat) (ov0:Value) (s:LS) (chv tv:Value) (σ:Sta) (aa:Option Addr) (N cap:Nat) (zs:List Nat) (so:Nat) (e:Ending) (w':World):Prop :=
 ∃ (p:Pc) (n:Nat) (ov':Value) (so':Nat) (iv':Value),e=.returned (.int .i64 (n:Int))∧1≤n∧s.text.length+n≤N∧s.Says p ((zs.drop s.text.length).take n) ∧
  WX B W w' wb pb gc ov0 ov' (s.afterP p) chv tv (z0s (s.actsP p) σ) aa N cap zs so' iv'∧so'≤so+1∧(z0s (s.actsP p) σ).k≤σ.k+372
theorem WX.says (h:WX B W w wb pb gc ov0 ov s chv tv σ aa N cap zs so iv) {d n:Nat} (h1:1≤d) (h2:d≤s.text.length) (h3:s.text.length+n≤N) (he:T6.Eqs (fun i=>zs.getD i 0) s.text.length d n):rept (d-1) n s.text=s.text++(zs.drop s.text.length).take n:=by
 have hz:=h.zl
 have:=z7b zs d n s.text.length h1 h2 (by omega) he
 rw [←h.pre,z5f,←h.pre] at this
 exact this
theorem WX.farEnv {ta:Option Addr} {tc n g off:Nat} (h:WX B W w wb pb gc ov0 ov s chv (.slice ta n tc) σ (some ⟨g,off,none⟩) N cap zs so iv) (hn:n=s.text.length) (hnN:n<N) (hc:N≤cap) (q:Nat) :
  FarEnv wb g off N cap n s.W (min (N-n) 273) ta tc [s.f0,s.f1,s.f2,s.f3] (fun i=>comB zs n (min (N-n) 273) s.W ([s.f0,s.f1,s.f2,s.f3].getD i 0)) (w.drewN q):=by
 have hz:=h.zl
 have hsm:=h.small
 have hf:∀i,i<4→[s.f0,s.f1,s.f2,s.f3].getD i 0<4294967296:=fun i hi=>by
  have:=h.wc.ok.f0;have:=h.wc.ok.f1;have:=h.wc.ok.f2;have:=h.wc.ok.f3
  rcases (show i=0∨i=1∨i=2∨i=3 by omega) with rfl|rfl|rfl|rfl<;>assumption
 obtain ⟨a',c',e,hcc,hs⟩:=h.al.rd
 injection e with e1 e2 e3
 subst e1 e3
 obtain ⟨g',off',e,hcell⟩:=hs (by omega)
 injection e with e
 injection e with e1 e2 e3
 subst e1 e2
 have hA:BAt w g off zs:=fun j hj=>hcell j hj
 refine ⟨fun q2 i hi=>?_,fun q2 r i hi hlt=>?_,fun i hi hlt=>?_,fun i hi=>?_⟩
 ·have:=((h.wc.st.drewN q).drewN q2).sees h.wc.ok (h.wc.tx.rd) (by have:=h.wc.hn;omega) _ (hf i hi)
  unfold LS.sees at this
  rw [←hn] at this
  exact this
 ·obtain ⟨f,hff⟩:∃f,f=[s.f0,s.f1,s.f2,s.f3].getD i 0:=⟨_,rfl⟩
  rw [←hff] at hlt ⊢
  have l1:(zs.drop (n-1-f)).length=N-(n-1-f):=by rw [List.length_drop,hz]
  have l2:((zs.drop n).take (min (N-n) 273)).length=min (N-n) 273:=by rw [List.length_take,List.length_drop,hz];omega
  have h1:=(hA.drop (n-1-f)).u (c:=cap-(n-1-f)) (by rw [l1];omega) (show g<g+1 by omega)
  have h2:=((hA.drop n).take (min (N-n) 273)).u (c:=cap-n) (by rw [l2];omega) (show g<g+1 by omega)
  rw [l1] at h1
  rw [l2] at h2
  refine (T6.z3v (zs.drop (n-1-f)) ((zs.drop n).take (min (N-n) 273)) _ _ (g+1) (g+1) (((w.drewN q).drewN q2).drewN r) h1 h2 (by rw [l1];omega)).mono ?_
  rintro e w2 ⟨k,rfl,hk,q3,rfl⟩
  have e1:comB zs n (min (N-n) 273) s.W f=k:=by unfold comB;rw [if_pos hlt];exact (z8k hk).symm
  rw [e1]
  exact ⟨rfl,q3,rfl⟩
 ·show comB _ _ _ _ _=0
  unfold comB
  rw [if_neg hlt]
 ·have:=(z5p (zs:=zs) (p:=n) (m:=min (N-n) 273) (W:=s.W) (f:=[s.f0,s.f1,s.f2,s.f3].getD i 0) (by omega)).1
  show comB _ _ _ _ _≤273
  omega
end
end D
namespace D
open Go.RowKit Rang
attribute [local go_sem ↓] wp_at_zero wp_at_succ
section
variable {B:Nat} {W w w':World} {wb pb gc:Nat} {ov:Value} {tl:List Value} {s s1:LS} {chv tv:Value} {σ:Sta} {l m:List A4}
theorem z9c (j z:Nat):(if j=1 then [bitA (408+z) 0] else [bitA (408+z) 1,bitA (420+z) (j-2)]).length≤2:=by split<;>simp
theorem y3x {k L a b:Nat} (h:k+31*(L+15)≤70000000000000) (ha:a≤2):k+31*(L+3+5)≤70000000000000∧k+31*(L+3+a+5)≤70000000000000∧k+31*(L+4+5)≤70000000000000:=by omega
theorem len4 (l:List A4) (a b c d:A4):(l++[a]++[b]++[c]++[d]).length=l.length+4:=by simp
theorem z9s (h:AD B wb pb gc ov tl s chv tv σ l W w) (hk:σ.k+31*(l.length+15)≤70000000000000) (j n:Nat) (hn:2≤n∧n≤273) (hj:j<4) (ho:LOk (s.afterP (.far j n))) :
  Calls Tryz.prog 79 #[.pointer (some ⟨wb,0,none⟩),.int .i64 (j:Int),.int .i64 (n:Int)] w (PD B wb pb gc ov tl (s.afterP (.far j n)) chv tv σ (l++s.farA j n) W):=by
 obtain ⟨g1,g2,g3,g4,g5,g6,g7,g8,f1,f2,f3,f4⟩:=z3b h.ok
 obtain ⟨k0,k1,k2,k3,k4,k5⟩:=y4q hk (Nat.le_refl 3)
 obtain ⟨m0,m1,m2⟩:=y3x (b:=0) hk (z9c j s.z)
 have i1:=(iw _).trans f1
 have i2:=(iw _).trans f2
 have HM:=qz fun w2 (h2:AD B wb pb gc ov tl s chv tv σ (l) W w2)=>h2.st.matchC h2.ok
 have HB1:=qz fun w2 (h2:AD B wb pb gc ov tl s chv tv σ (l) W w2)=>(h2.bit k0 s.matchC 1 g1 (Nat.le_refl _):Calls Tryz.prog 112 #[.pointer (some ⟨pb,0,none⟩),.int .i64 ((s.matchC:Nat):Int),.int .i64 1] w2 fun e w'=>ActE e∧AD B wb pb gc ov tl s chv tv σ (l++[bitA s.matchC 1]) W w')
 have HB2:=qz fun w2 (h2:AD B wb pb gc ov tl s chv tv σ (l++[bitA s.matchC 1]) W w2)=>(h2.bit (by rw [len1];exact k1) (384+s.z) 1 g3 (Nat.le_refl _):Calls Tryz.prog 112 #[.pointer (some ⟨pb,0,none⟩),.int .i64 (((384+s.z):Nat):Int),.int .i64 1] w2 fun e w'=>ActE e∧AD B wb pb gc ov tl s chv tv σ (l++[bitA s.matchC 1]++[bitA (384+s.z) 1]) W w')
 have HO:=qz ho
 have H1:=qz h
 by_cases h0:j=0
 ·subst h0
  have e1:l++s.farA 0 n=l++[bitA s.matchC 1]++[bitA (384+s.z) 1]++[bitA (396+s.z) 0]++[bitA s.longC 1]++lenA 946 s.y n:=by unfold LS.farA LS.whichA;simp
  rw [e1]
  have HB3:=qz fun w2 (h2:AD B wb pb gc ov tl s chv tv σ (l++[bitA s.matchC 1]++[bitA (384+s.z) 1]) W w2)=>(h2.bit (by rw [len2];exact k2) (396+s.z) 0 g4 (Nat.zero_le _):Calls Tryz.prog 112 #[.pointer (some ⟨pb,0,none⟩),.int .i64 (((396+s.z):Nat):Int),.int .i64 0] w2 fun e w'=>ActE e∧AD B wb pb gc ov tl s chv tv σ (l++[bitA s.matchC 1]++[bitA (384+s.z) 1]++[bitA (396+s.z) 0]) W w')
  have HLC:=qz fun w2 (h2:AD B wb pb gc ov tl s chv tv σ (l++[bitA s.matchC 1]++[bitA (384+s.z) 1]++[bitA (396+s.z) 0]) W w2)=>h2.st.longC h2.ok
  have HB4:=qz fun w2 (h2:AD B wb pb gc ov tl s chv tv σ (l++[bitA s.matchC 1]++[bitA (384+s.z) 1]++[bitA (396+s.z) 0]) W w2)=>(h2.bit (by rw [len3];exact k3) s.longC 1 g2 (Nat.le_refl _):Calls Tryz.prog 112 #[.pointer (some ⟨pb,0,none⟩),.int .i64 ((s.longC:Nat):Int),.int .i64 1] w2 fun e w'=>ActE e∧AD B wb pb gc ov tl s chv tv σ (l++[bitA s.matchC 1]++[bitA (384+s.z) 1]++[bitA (396+s.z) 0]++[bitA s.longC 1]) W w')
  have HL:=qz fun w2 (h2:AD B wb pb gc ov tl s chv tv σ (l++[bitA s.matchC 1]++[bitA (384+s.z) 1]++[bitA (396+s.z) 0]++[bitA s.longC 1]) W w2)=>(z1w h2 (by rw [len4];exact m2) 946 n hn g8:Calls Tryz.prog 114 #[.pointer (some ⟨wb,0,none⟩),.int .i64 946,.int .i64 (n:Int)] w2 (PD B wb pb gc ov tl s chv tv σ (l++[bitA s.matchC 1]++[bitA (384+s.z) 1]++[bitA (396+s.z) 0]++[bitA s.longC 1]++lenA 946 s.y n) W))
  have HA:=qz fun w2 (h2:AD B wb pb gc ov tl s chv tv σ (l++[bitA s.matchC 1]++[bitA (384+s.z) 1]++[bitA (396+s.z) 0]++[bitA s.longC 1]++lenA 946 s.y n) W w2)=>(h2.st.afterFar 0 (by omega):Calls Tryz.prog 98 #[.pointer (some ⟨wb,0,none⟩),.int .i64 0] w2 fun e w'=>e=.returned (.tuple #[])∧SAt w' wb 73 (.pointer (some ⟨pb,0,none⟩) :: tl) (s.afterP (.far 0 0)) chv tv∧Ch1 wb w2 w')
  clear e1 h hk k0 k1 k2 k3 k4 k5 m0 m1 m2 g1 g2 g3 g4 g5 g6 g7 g8 f3 f4 hn hj ho
  generalize 384+s.z=rz at *
  generalize 396+s.z=qzz at *
  go_enter Tryz.func79,Tryz.ntmps79
  go_wp2_with fail
  refine wp_region_noPanic ?_
  refine wp_region_held_drew (S:=fun x=>x.cell? ⟨wb,12,none⟩=some (.pointer (some ⟨pb,0,none⟩))∧x.cell? ⟨wb,9,none⟩=some (.int .i64 (s.z:Int))) (by kernel_rfl) ⟨(uh H1).c12,(uh H1).st.c9⟩ (fun hHeld=>?_)
  show wpAnyH _ _ _ _ _ _ _ _ w.drew
  have H0:=qz (uh H1).drew
  generalize w.drew=x1 at H0 hHeld ⊢
  refine hT 0 6 rfl rfl hHeld nPp (v:=?_) (fun x hSx=>?_) ?_
  rotate_left 1
  ·(obtain ⟨s0,s1⟩:=hSx;go_simp<;>with_reducible rfl)
  simp only [sA,sB]
  refine hT 1 7 rfl rfl hHeld nPp (v:=?_) (fun x hSx=>?_) ?_
  rotate_left 1
  ·(obtain ⟨s0,s1⟩:=hSx;go_simp<;>with_reducible rfl)
  simp only [sA,sB]
  refine hT 2 8 rfl rfl hHeld nPp (v:=?_) (fun x hSx=>?_) ?_
  rotate_left 1
  ·(obtain ⟨s0,s1⟩:=hSx;go_simp<;>with_reducible rfl)
  simp only [sA,sB]
  refine hT 3 9 rfl rfl hHeld nPp (v:=?_) (fun x hSx=>?_) ?_
  rotate_left 1
  ·(obtain ⟨s0,s1⟩:=hSx;go_simp<;>with_reducible rfl)
  simp only [sA,sB]
  refine hT 4 10 rfl rfl hHeld nPp (v:=?_) (fun x hSx=>?_) ?_
  rotate_left 1
  ·(obtain ⟨s0,s1⟩:=hSx;go_simp<;>with_reducible rfl)
  simp only [sA,sB]
  refine hT 5 11 rfl rfl hHeld nPp (v:=?_) (fun x hSx=>?_) ?_
  rotate_left 1
  ·(obtain ⟨s0,s1⟩:=hSx;go_simp<;>with_reducible rfl)
  simp only [sA,sB]
  refine hT 6 12 rfl rfl hHeld nPp (v:=?_) (fun x hSx=>?_) ?_
  rotate_left 1
  ·(obtain ⟨s0,s1⟩:=hSx;go_simp<;>with_reducible rfl)
  simp only [sA,sB]
  refine z0a 7 13 (by kernel_rfl) rfl rfl (by rfl) (by go_simp<;>exact ⟨rfl,rfl⟩) ?_
  refine (uh HM _ (uh H0)).mono ?_
  rintro e wq hr
  obtain ⟨rfl,h3⟩:=(uh H0).rt hr
  have H0:=qz h3
  clear hr h3
  have hHeld:=And.intro (uh H0).c12 (uh H0).st.c9
  refine ⟨_,rfl,hHeld,?_⟩
  simp only [sA,sB]
  refine z0a 8 14 (by kernel_rfl) rfl rfl (by rfl) (by go_simp<;>exact ⟨rfl,rfl⟩) ?_
  refine (uh HB1 _ (uh H0)).mono ?_
  rintro e wn ⟨he,h3⟩
  obtain rfl:e=.returned (.int .i64 0):=he
  have H2:=qz h3
  clear h3
  refine ⟨_,rfl,⟨(uh H2).c12,(uh H2).st.c9⟩,?_⟩
  simp only [sA,sB]
  refine dN ?_
  go_wp2_with fail
  refine wp_region_noPanic ?_
  refine wp_region_held_drew (S:=fun x=>x.cell? ⟨wb,12,none⟩=some (.pointer (some ⟨pb,0,none⟩))∧x.cell? ⟨wb,9,none⟩=some (.int .i64 (s.z:Int))) (by kernel_rfl) ⟨(uh H2).c12,(uh H2).st.c9⟩ (fun hHeld=>?_)
  show wpAnyH _ _ _ _ _ _ _ _ wn.drew
  have H0:=qz (uh H2).drew
  generalize wn.drew=x1 at H0 hHeld ⊢
  refine hT 0 15 rfl rfl hHeld nPp (v:=?_) (fun x hSx=>?_) ?_
  rotate_left 1
  ·(obtain ⟨s0,s1⟩:=hSx;go_simp<;>with_reducible rfl)
  simp only [sA,sB]
  refine hT 1 16 rfl rfl hHeld nPp (v:=?_) (fun x hSx=>?_) ?_
  rotate_left 1
  ·(obtain ⟨s0,s1⟩:=hSx;go_simp<;>with_reducible rfl)
  simp only [sA,sB]
  refine hT 2 17 rfl rfl hHeld nPp (v:=?_) (fun x hSx=>?_) ?_
  rotate_left 1
  ·(obtain ⟨s0,s1⟩:=hSx;go_simp<;>with_reducible rfl)
  simp only [sA,sB]
  refine hT 3 18 rfl rfl hHeld nPp (v:=?_) (fun x hSx=>?_) ?_
  rotate_left 1
  ·(obtain ⟨s0,s1⟩:=hSx;go_simp<;>with_reducible rfl)
  simp only [sA,sB]
  refine hT 4 19 rfl rfl hHeld nPp (v:=?_) (fun x hSx=>?_) ?_
  rotate_left 1
  ·(obtain ⟨s0,s1⟩:=hSx;go_simp<;>with_reducible rfl)
  simp only [sA,sB]
  refine hT 5 20 rfl rfl hHeld nPp (v:=?_) (fun x hSx=>?_) ?_
  rotate_left 1
  ·(obtain ⟨s0,s1⟩:=hSx;go_simp<;>with_reducible rfl)
  simp only [sA,sB]
  refine hT 6 21 rfl rfl hHeld nPp (v:=?_) (fun x hSx=>?_) ?_
  rotate_left 1
  ·(obtain ⟨s0,s1⟩:=hSx;go_simp<;>with_reducible rfl)
  simp only [sA,sB]
  refine hT 7 22 rfl rfl hHeld nPp (v:=?_) (fun x hSx=>?_) ?_
  rotate_left 1
  ·(obtain ⟨s0,s1⟩:=hSx;go_simp<;>with_reducible rfl)
  simp only [sA,sB]
  refine hT 8 23 rfl rfl hHeld nPp (v:=?_) (fun x hSx=>?_) ?_
  rotate_left 1
  ·(obtain ⟨s0,s1⟩:=hSx;go_simp<;>with_reducible rfl)
  simp only [sA,sB]
  refine hT 9 24 rfl rfl hHeld nPp (v:=?_) (fun x hSx=>?_) ?_
  rotate_left 1
  ·(obtain ⟨s0,s1⟩:=hSx;go_simp<;>with_reducible rfl)
  simp only [sA,sB]
  refine z0a 10 25 (by kernel_rfl) rfl rfl (by rfl) (by go_simp<;>exact ⟨rfl,rfl⟩) ?_
  refine (uh HB2 _ (uh H0)).mono ?_
  rintro e wn ⟨he,h3⟩
  obtain rfl:e=.returned (.int .i64 0):=he
  have H3:=qz h3
  clear h3
  refine ⟨_,rfl,⟨(uh H3).c12,(uh H3).st.c9⟩,?_⟩
  simp only [sA,sB]
  refine dN ?_
  go_wp2_with fail
  refine wp_region_noPanic ?_
  refine wp_region_held_drew (S:=fun x=>x.cell? ⟨wb,12,none⟩=some (.pointer (some ⟨pb,0,none⟩))∧x.cell? ⟨wb,9,none⟩=some (.int .i64 (s.z:Int))) (by kernel_rfl) ⟨(uh H3).c12,(uh H3).st.c9⟩ (fun hHeld=>?_)
  show wpAnyH _ _ _ _ _ _ _ _ wn.drew
  have H0:=qz (uh H3).drew
  generalize wn.drew=x1 at H0 hHeld ⊢
  refine hT 0 28 rfl rfl hHeld nPp (v:=?_) (fun x hSx=>?_) ?_
  rotate_left 1
  ·(obtain ⟨s0,s1⟩:=hSx;go_simp<;>with_reducible rfl)
  simp only [sA,sB]
  refine hT 1 29 rfl rfl hHeld nPp (v:=?_) (fun x hSx=>?_) ?_
  rotate_left 1
  ·(obtain ⟨s0,s1⟩:=hSx;go_simp<;>with_reducible rfl)
  simp only [sA,sB]
  refine hT 2 30 rfl rfl hHeld nPp (v:=?_) (fun x hSx=>?_) ?_
  rotate_left 1
  ·(obtain ⟨s0,s1⟩:=hSx;go_simp<;>with_reducible rfl)
  simp only [sA,sB]
  refine hT 3 31 rfl rfl hHeld nPp (v:=?_) (fun x hSx=>?_) ?_
  rotate_left 1
  ·(obtain ⟨s0,s1⟩:=hSx;go_simp<;>with_reducible rfl)
  simp only [sA,sB]
  refine hT 4 32 rfl rfl hHeld nPp (v:=?_) (fun x hSx=>?_) ?_
  rotate_left 1
  ·(obtain ⟨s0,s1⟩:=hSx;go_simp<;>with_reducible rfl)
  simp only [sA,sB]
  refine hT 5 33 rfl rfl hHeld nPp (v:=?_) (fun x hSx=>?_) ?_
  rotate_left 1
  ·(obtain ⟨s0,s1⟩:=hSx;go_simp<;>with_reducible rfl)
  simp only [sA,sB]
  refine hT 6 34 rfl rfl hHeld nPp (v:=?_) (fun x hSx=>?_) ?_
  rotate_left 1
  ·(obtain ⟨s0,s1⟩:=hSx;go_simp<;>with_reducible rfl)
  simp only [sA,sB]
  refine hT 7 35 rfl rfl hHeld nPp (v:=?_) (fun x hSx=>?_) ?_
  rotate_left 1
  ·(obtain ⟨s0,s1⟩:=hSx;go_simp<;>with_reducible rfl)
  simp only [sA,sB]
  refine hT 8 36 rfl rfl hHeld nPp (v:=?_) (fun x hSx=>?_) ?_
  rotate_left 1
  ·(obtain ⟨s0,s1⟩:=hSx;go_simp<;>with_reducible rfl)
  simp only [sA,sB]
  refine hT 9 37 rfl rfl hHeld nPp (v:=?_) (fun x hSx=>?_) ?_
  rotate_left 1
  ·(obtain ⟨s0,s1⟩:=hSx;go_simp<;>with_reducible rfl)
  simp only [sA,sB]
  refine z0a 10 38 (by kernel_rfl) rfl rfl (by rfl) (by go_simp<;>exact ⟨rfl,rfl⟩) ?_
  refine (uh HB3 _ (uh H0)).mono ?_
  rintro e wn ⟨he,h3⟩
  obtain rfl:e=.returned (.int .i64 0):=he
  have H4:=qz h3
  clear h3
  refine ⟨_,rfl,⟨(uh H4).c12,(uh H4).st.c9⟩,?_⟩
  simp only [sA,sB]
  refine dN ?_
  go_wp2_with fail
  refine wp_region_noPanic ?_
  refine wp_region_held_drew (S:=fun x=>x.cell? ⟨wb,12,none⟩=some (.pointer (some ⟨pb,0,none⟩))∧x.cell? ⟨wb,9,none⟩=some (.int .i64 (s.z:Int))) (by kernel_rfl) ⟨(uh H4).c12,(uh H4).st.c9⟩ (fun hHeld=>?_)
  show wpAnyH _ _ _ _ _ _ _ _ wn.drew
  have H0:=qz (uh H4).drew
  generalize wn.drew=x1 at H0 hHeld ⊢
  refine hT 0 39 rfl rfl hHeld nPp (v:=?_) (fun x hSx=>?_) ?_
  rotate_left 1
  ·(obtain ⟨s0,s1⟩:=hSx;go_simp<;>with_reducible rfl)
  simp only [sA,sB]
  refine hT 1 40 rfl rfl hHeld nPp (v:=?_) (fun x hSx=>?_) ?_
  rotate_left 1
  ·(obtain ⟨s0,s1⟩:=hSx;go_simp<;>with_reducible rfl)
  simp only [sA,sB]
  refine hT 2 41 rfl rfl hHeld nPp (v:=?_) (fun x hSx=>?_) ?_
  rotate_left 1
  ·(obtain ⟨s0,s1⟩:=hSx;go_simp<;>with_reducible rfl)
  simp only [sA,sB]
  refine hT 3 42 rfl rfl hHeld nPp (v:=?_) (fun x hSx=>?_) ?_
  rotate_left 1
  ·(obtain ⟨s0,s1⟩:=hSx;go_simp<;>with_reducible rfl)
  simp only [sA,sB]
  refine hT 4 43 rfl rfl hHeld nPp (v:=?_) (fun x hSx=>?_) ?_
  rotate_left 1
  ·(obtain ⟨s0,s1⟩:=hSx;go_simp<;>with_reducible rfl)
  simp only [sA,sB]
  refine hT 5 44 rfl rfl hHeld nPp (v:=?_) (fun x hSx=>?_) ?_
  rotate_left 1
  ·(obtain ⟨s0,s1⟩:=hSx;go_simp<;>with_reducible rfl)
  simp only [sA,sB]
  refine hT 6 45 rfl rfl hHeld nPp (v:=?_) (fun x hSx=>?_) ?_
  rotate_left 1
  ·(obtain ⟨s0,s1⟩:=hSx;go_simp<;>with_reducible rfl)
  simp only [sA,sB]
  refine z0a 7 46 (by kernel_rfl) rfl rfl (by rfl) (by go_simp<;>exact ⟨rfl,rfl⟩) ?_
  refine (uh HLC _ (uh H0)).mono ?_
  rintro e wq hr
  obtain ⟨rfl,h3⟩:=(uh H0).rt hr
  have H0:=qz h3
  clear hr h3
  have hHeld:=And.intro (uh H0).c12 (uh H0).st.c9
  refine ⟨_,rfl,hHeld,?_⟩
  simp only [sA,sB]
  refine z0a 8 47 (by kernel_rfl) rfl rfl (by rfl) (by go_simp<;>exact ⟨rfl,rfl⟩) ?_
  refine (uh HB4 _ (uh H0)).mono ?_
  rintro e wn ⟨he,h3⟩
  obtain rfl:e=.returned (.int .i64 0):=he
  have H5:=qz h3
  clear h3
  refine ⟨_,rfl,⟨(uh H5).c12,(uh H5).st.c9⟩,?_⟩
  simp only [sA,sB]
  refine dN ?_
  go_wp2_with fail
  refine (uh HL _ (uh H5)).mono ?_
  rintro e w6 ⟨rfl,h3⟩
  have H6:=qz h3
  clear h3 H5
  go_wp2_with fail
  refine (uh HA _ (uh H6)).mono ?_
  rintro e w7 ⟨rfl,h3,h4⟩
  have H7:=qz ((uh H6).setS (s':=s.afterP (.far 0 n)) h3 h4 (uh HO) rfl rfl)
  clear h3 h4 H6
  go_wp2_with fail
  go_end0
  exact ⟨rfl,by simpa using uh H7⟩
 ·have t0:¬ (j:Int)=0:=by omega
  have e1:l++s.farA j n=l++[bitA s.matchC 1]++[bitA (384+s.z) 1]++[bitA (396+s.z) 1]++(if j=1 then [bitA (408+s.z) 0] else [bitA (408+s.z) 1,bitA (420+s.z) (j-2)])++lenA 946 s.y n:=by
   unfold LS.farA LS.whichA
   rw [if_neg h0]
   split<;>simp
  rw [e1]
  have HB3:=qz fun w2 (h2:AD B wb pb gc ov tl s chv tv σ (l++[bitA s.matchC 1]++[bitA (384+s.z) 1]) W w2)=>(h2.bit (by rw [len2];exact k2) (396+s.z) 1 g4 (Nat.le_refl _):Calls Tryz.prog 112 #[.pointer (some ⟨pb,0,none⟩),.int .i64 (((396+s.z):Nat):Int),.int .i64 1] w2 fun e w'=>ActE e∧AD B wb pb gc ov tl s chv tv σ (l++[bitA s.matchC 1]++[bitA (384+s.z) 1]++[bitA (396+s.z) 1]) W w')
  have HLT:=qz fun w2 (h2:AD B wb pb gc ov tl s chv tv σ (l++[bitA s.matchC 1]++[bitA (384+s.z) 1]++[bitA (396+s.z) 1]) W w2)=>z6a h2 (by rw [len3];exact m0) j (by omega)
  have HL:=qz fun w2 (h2:AD B wb pb gc ov tl s chv tv σ (l++[bitA s.matchC 1]++[bitA (384+s.z) 1]++[bitA (396+s.z) 1]++(if j=1 then [bitA (408+s.z) 0] else [bitA (408+s.z) 1,bitA (420+s.z) (j-2)])) W w2)=>(z1w h2 (by rw [List.length_append,len3];exact m1) 946 n hn g8:Calls Tryz.prog 114 #[.pointer (some ⟨wb,0,none⟩),.int .i64 946,.int .i64 (n:Int)] w2 (PD B wb pb gc ov tl s chv tv σ (l++[bitA s.matchC 1]++[bitA (384+s.z) 1]++[bitA (396+s.z) 1]++(if j=1 then [bitA (408+s.z) 0] else [bitA (408+s.z) 1,bitA (420+s.z) (j-2)])++lenA 946 s.y n) W))
  have HA:=qz fun w2 (h2:AD B wb pb gc ov tl s chv tv σ (l++[bitA s.matchC 1]++[bitA (384+s.z) 1]++[bitA (396+s.z) 1]++(if j=1 then [bitA (408+s.z) 0] else [bitA (408+s.z) 1,bitA (420+s.z) (j-2)])++lenA 946 s.y n) W w2)=>h2.st.afterFar j hj
  clear e1 h hk k0 k1 k2 k3 k4 k5 m0 m1 m2 g1 g2 g3 g4 g5 g6 g7 g8 f3 f4 hn hj ho h0
  generalize (if j=1 then [bitA (408+s.z) 0] else [bitA (408+s.z) 1,bitA (420+s.z) (j-2)])=LL at *
  generalize 384+s.z=rz at *
  generalize 396+s.z=qzz at *
  go_enter Tryz.func79,Tryz.ntmps79
  go_wp2_with fail
  refine wp_region_noPanic ?_
  refine wp_region_held_drew (S:=fun x=>x.cell? ⟨wb,12,none⟩=some (.pointer (some ⟨pb,0,none⟩))∧x.cell? ⟨wb,9,none⟩=some (.int .i64 (s.z:Int))) (by kernel_rfl) ⟨(uh H1).c12,(uh H1).st.c9⟩ (fun hHeld=>?_)
  show wpAnyH _ _ _ _ _ _ _ _ w.drew
  have H0:=qz (uh H1).drew
  generalize w.drew=x1 at H0 hHeld ⊢
  refine hT 0 6 rfl rfl hHeld nPp (v:=?_) (fun x hSx=>?_) ?_
  rotate_left 1
  ·(obtain ⟨s0,s1⟩:=hSx;go_simp<;>with_reducible rfl)
  simp only [sA,sB]
  refine hT 1 7 rfl rfl hHeld nPp (v:=?_) (fun x hSx=>?_) ?_
  rotate_left 1
  ·(obtain ⟨s0,s1⟩:=hSx;go_simp<;>with_reducible rfl)
  simp only [sA,sB]
  refine hT 2 8 rfl rfl hHeld nPp (v:=?_) (fun x hSx=>?_) ?_
  rotate_left 1
  ·(obtain ⟨s0,s1⟩:=hSx;go_simp<;>with_reducible rfl)
  simp only [sA,sB]
  refine hT 3 9 rfl rfl hHeld nPp (v:=?_) (fun x hSx=>?_) ?_
  rotate_left 1
  ·(obtain ⟨s0,s1⟩:=hSx;go_simp<;>with_reducible rfl)
  simp only [sA,sB]
  refine hT 4 10 rfl rfl hHeld nPp (v:=?_) (fun x hSx=>?_) ?_
  rotate_left 1
  ·(obtain ⟨s0,s1⟩:=hSx;go_simp<;>with_reducible rfl)
  simp only [sA,sB]
  refine hT 5 11 rfl rfl hHeld nPp (v:=?_) (fun x hSx=>?_) ?_
  rotate_left 1
  ·(obtain ⟨s0,s1⟩:=hSx;go_simp<;>with_reducible rfl)
  simp only [sA,sB]
  refine hT 6 12 rfl rfl hHeld nPp (v:=?_) (fun x hSx=>?_) ?_
  rotate_left 1
  ·(obtain ⟨s0,s1⟩:=hSx;go_simp<;>with_reducible rfl)
  simp only [sA,sB]
  refine z0a 7 13 (by kernel_rfl) rfl rfl (by rfl) (by go_simp<;>exact ⟨rfl,rfl⟩) ?_
  refine (uh HM _ (uh H0)).mono ?_
  rintro e wq hr
  obtain ⟨rfl,h3⟩:=(uh H0).rt hr
  have H0:=qz h3
  clear hr h3
  have hHeld:=And.intro (uh H0).c12 (uh H0).st.c9
  refine ⟨_,rfl,hHeld,?_⟩
  simp only [sA,sB]
  refine z0a 8 14 (by kernel_rfl) rfl rfl (by rfl) (by go_simp<;>exact ⟨rfl,rfl⟩) ?_
  refine (uh HB1 _ (uh H0)).mono ?_
  rintro e wn ⟨he,h3⟩
  obtain rfl:e=.returned (.int .i64 0):=he
  have H2:=qz h3
  clear h3
  refine ⟨_,rfl,⟨(uh H2).c12,(uh H2).st.c9⟩,?_⟩
  simp only [sA,sB]
  refine dN ?_
  go_wp2_with fail
  refine wp_region_noPanic ?_
  refine wp_region_held_drew (S:=fun x=>x.cell? ⟨wb,12,none⟩=some (.pointer (some ⟨pb,0,none⟩))∧x.cell? ⟨wb,9,none⟩=some (.int .i64 (s.z:Int))) (by kernel_rfl) ⟨(uh H2).c12,(uh H2).st.c9⟩ (fun hHeld=>?_)
  show wpAnyH _ _ _ _ _ _ _ _ wn.drew
  have H0:=qz (uh H2).drew
  generalize wn.drew=x1 at H0 hHeld ⊢
  refine hT 0 15 rfl rfl hHeld nPp (v:=?_) (fun x hSx=>?_) ?_
  rotate_left 1
  ·(obtain ⟨s0,s1⟩:=hSx;go_simp<;>with_reducible rfl)
  simp only [sA,sB]
  refine hT 1 16 rfl rfl hHeld nPp (v:=?_) (fun x hSx=>?_) ?_
  rotate_left 1
  ·(obtain ⟨s0,s1⟩:=hSx;go_simp<;>with_reducible rfl)
  simp only [sA,sB]
  refine hT 2 17 rfl rfl hHeld nPp (v:=?_) (fun x hSx=>?_) ?_
  rotate_left 1
  ·(obtain ⟨s0,s1⟩:=hSx;go_simp<;>with_reducible rfl)
  simp only [sA,sB]
  refine hT 3 18 rfl rfl hHeld nPp (v:=?_) (fun x hSx=>?_) ?_
  rotate_left 1
  ·(obtain ⟨s0,s1⟩:=hSx;go_simp<;>with_reducible rfl)
  simp only [sA,sB]
  refine hT 4 19 rfl rfl hHeld nPp (v:=?_) (fun x hSx=>?_) ?_
  rotate_left 1
  ·(obtain ⟨s0,s1⟩:=hSx;go_simp<;>with_reducible rfl)
  simp only [sA,sB]
  refine hT 5 20 rfl rfl hHeld nPp (v:=?_) (fun x hSx=>?_) ?_
  rotate_left 1
  ·(obtain ⟨s0,s1⟩:=hSx;go_simp<;>with_reducible rfl)
  simp only [sA,sB]
  refine hT 6 21 rfl rfl hHeld nPp (v:=?_) (fun x hSx=>?_) ?_
  rotate_left 1
  ·(obtain ⟨s0,s1⟩:=hSx;go_simp<;>with_reducible rfl)
  simp only [sA,sB]
  refine hT 7 22 rfl rfl hHeld nPp (v:=?_) (fun x hSx=>?_) ?_
  rotate_left 1
  ·(obtain ⟨s0,s1⟩:=hSx;go_simp<;>with_reducible rfl)
  simp only [sA,sB]
  refine hT 8 23 rfl rfl hHeld nPp (v:=?_) (fun x hSx=>?_) ?_
  rotate_left 1
  ·(obtain ⟨s0,s1⟩:=hSx;go_simp<;>with_reducible rfl)
  simp only [sA,sB]
  refine hT 9 24 rfl rfl hHeld nPp (v:=?_) (fun x hSx=>?_) ?_
  rotate_left 1
  ·(obtain ⟨s0,s1⟩:=hSx;go_simp<;>with_reducible rfl)
  simp only [sA,sB]
  refine z0a 10 25 (by kernel_rfl) rfl rfl (by rfl) (by go_simp<;>exact ⟨rfl,rfl⟩) ?_
  refine (uh HB2 _ (uh H0)).mono ?_
  rintro e wn ⟨he,h3⟩
  obtain rfl:e=.returned (.int .i64 0):=he
  have H3:=qz h3
  clear h3
  refine ⟨_,rfl,⟨(uh H3).c12,(uh H3).st.c9⟩,?_⟩
  simp only [sA,sB]
  refine dN ?_
  go_wp2_with fail
  refine wp_region_noPanic ?_
  refine wp_region_held_drew (S:=fun x=>x.cell? ⟨wb,12,none⟩=some (.pointer (some ⟨pb,0,none⟩))∧x.cell? ⟨wb,9,none⟩=some (.int .i64 (s.z:Int))) (by kernel_rfl) ⟨(uh H3).c12,(uh H3).st.c9⟩ (fun hHeld=>?_)
  show wpAnyH _ _ _ _ _ _ _ _ wn.drew
  have H0:=qz (uh H3).drew
  generalize wn.drew=x1 at H0 hHeld ⊢
  refine hT 0 48 rfl rfl hHeld nPp (v:=?_) (fun x hSx=>?_) ?_
  rotate_left 1
  ·(obtain ⟨s0,s1⟩:=hSx;go_simp<;>with_reducible rfl)
  simp only [sA,sB]
  refine hT 1 49 rfl rfl hHeld nPp (v:=?_) (fun x hSx=>?_) ?_
  rotate_left 1
  ·(obtain ⟨s0,s1⟩:=hSx;go_simp<;>with_reducible rfl)
  simp only [sA,sB]
  refine hT 2 50 rfl rfl hHeld nPp (v:=?_) (fun x hSx=>?_) ?_
  rotate_left 1
  ·(obtain ⟨s0,s1⟩:=hSx;go_simp<;>with_reducible rfl)
  simp only [sA,sB]
  refine hT 3 51 rfl rfl hHeld nPp (v:=?_) (fun x hSx=>?_) ?_
  rotate_left 1
  ·(obtain ⟨s0,s1⟩:=hSx;go_simp<;>with_reducible rfl)
  simp only [sA,sB]
  refine hT 4 52 rfl rfl hHeld nPp (v:=?_) (fun x hSx=>?_) ?_
  rotate_left 1
  ·(obtain ⟨s0,s1⟩:=hSx;go_simp<;>with_reducible rfl)
  simp only [sA,sB]
  refine hT 5 53 rfl rfl hHeld nPp (v:=?_) (fun x hSx=>?_) ?_
  rotate_left 1
  ·(obtain ⟨s0,s1⟩:=hSx;go_simp<;>with_reducible rfl)
  simp only [sA,sB]
  refine hT 6 54 rfl rfl hHeld nPp (v:=?_) (fun x hSx=>?_) ?_
  rotate_left 1
  ·(obtain ⟨s0,s1⟩:=hSx;go_simp<;>with_reducible rfl)
  simp only [sA,sB]
  refine hT 7 55 rfl rfl hHeld nPp (v:=?_) (fun x hSx=>?_) ?_
  rotate_left 1
  ·(obtain ⟨s0,s1⟩:=hSx;go_simp<;>with_reducible rfl)
  simp only [sA,sB]
  refine hT 8 56 rfl rfl hHeld nPp (v:=?_) (fun x hSx=>?_) ?_
  rotate_left 1
  ·(obtain ⟨s0,s1⟩:=hSx;go_simp<;>with_reducible rfl)
  simp only [sA,sB]
  refine hT 9 57 rfl rfl hHeld nPp (v:=?_) (fun x hSx=>?_) ?_
  rotate_left 1
  ·(obtain ⟨s0,s1⟩:=hSx;go_simp<;>with_reducible rfl)
  simp only [sA,sB]
  refine z0a 10 58 (by kernel_rfl) rfl rfl (by rfl) (by go_simp<;>exact ⟨rfl,rfl⟩) ?_
  refine (uh HB3 _ (uh H0)).mono ?_
  rintro e wn ⟨he,h3⟩
  obtain rfl:e=.returned (.int .i64 0):=he
  have H4:=qz h3
  clear h3
  refine ⟨_,rfl,⟨(uh H4).c12,(uh H4).st.c9⟩,?_⟩
  simp only [sA,sB]
  refine dN ?_
  go_wp2_with fail
  refine (uh HLT _ (uh H4)).mono ?_
  rintro e w5 ⟨rfl,h3⟩
  have H5:=qz h3
  clear h3 H4
  go_wp2_with fail
  refine (uh HL _ (uh H5)).mono ?_
  rintro e w6 ⟨rfl,h3⟩
  have H6:=qz h3
  clear h3 H5
  go_wp2_with fail
  refine (uh HA _ (uh H6)).mono ?_
  rintro e w7 ⟨rfl,h3,h4⟩
  have H7:=qz ((uh H6).setS (s':=s.afterP (.far j n)) h3 h4 (uh HO) rfl rfl)
  clear h3 h4 H6
  go_wp2_with fail
  go_end0
  exact ⟨rfl,by simpa using uh H7⟩
end
end D
namespace D
open Go.RowKit Rang
attribute [local go_sem ↓] wp_at_zero wp_at_succ
section
variable {B:Nat} {W w w':World} {wb pb gc:Nat} {ov0 ov ov':Value} {s s':LS} {chv tv:Value} {σ σ':Sta} {aa:Option Addr} {N cap:Nat} {zs:List Nat} {so so':Nat} {iv iv':Value}
theorem y2q (s:LS) {j:Nat} (hj:j<4):[s.f0,s.f1,s.f2,s.f3].getD j 0=s.fj j:=by
 rcases (show j=0∨j=1∨j=2∨j=3 by omega) with rfl|rfl|rfl|rfl<;>rfl
theorem y3s (h:WX B W w wb pb gc ov0 ov s chv tv σ aa N cap zs so iv) (hlt:s.text.length<N) (hso:so≤1099511627775) (hk:σ.k≤60000000000000) :
  Calls Tryz.prog 51 #[.pointer (some ⟨wb,0,none⟩)] w (y2f B W wb pb gc ov0 s chv tv σ aa N cap zs so):=by
 obtain ⟨ta,tc,htv,htc,_⟩:=id h.wc.tx
 obtain ⟨aa',cc',e,hcc,hs⟩:=id h.al
 injection e with e1 e2 e3
 subst e1 e3
 have hz:=h.zl
 obtain ⟨g,off,cur,haa,hg,_⟩:=hs (by omega)
 subst htv haa
 obtain ⟨n,hn⟩:∃n,n=s.text.length:=⟨_,rfl⟩
 have hcN:N≤cap:=by omega
 rw [←hn] at hlt
 have hA:BAt w g off zs:=by
  obtain ⟨a',c',e,hcc,hs⟩:=h.al.rd
  injection e with e1 e2 e3
  obtain ⟨g',off',e,hcell⟩:=hs (by omega)
  rw [←e1] at e
  injection e with e
  injection e with e1 e2 e3
  subst e1 e2
  exact fun j hj=>hcell j hj
 have h':=h
 rw [←hn] at h'
 have hab:=h.ab g rfl
 obtain ⟨com,hcom⟩:∃com,com=(fun i=>comB zs n (min (N-n) 273) s.W ([s.f0,s.f1,s.f2,s.f3].getD i 0)):=⟨_,rfl⟩
 have hst:SAt w wb 73 [.pointer (some ⟨pb,0,none⟩),.slice (some ⟨g,off,none⟩) N cap,.int .i64 (so:Int),iv] s chv (.slice ta n tc):=by rw [hn];exact h.wc.st
 have hFO:=z8n wb g off N cap n s.W (min (N-n) 273) (by omega) ta tc s.f0 s.f1 s.f2 s.f3 com w (by rw [hcom];have:=WX.farEnv (g:=g) (off:=off) (h:=by rw [hn];exact h) hn hlt hcN 0;exact this) hst.c10 (hst.cell 13) hst.c5 hst.c6 hst.c7 hst.c8 hlt hcN (by have:=h.small;omega)
 have hR:=z3s (com:=com) (i:=4) (fun k hk=>by rw [hcom];exact Nat.le_trans (z5p (by omega)).1 (by omega)) (Nat.le_refl 4)
 have hRi:=z8o com 4
 obtain ⟨j,hj⟩:∃j,j=(farR com 4).1:=⟨_,rfl⟩
 obtain ⟨ag,hag⟩:∃ag,ag=(farR com 4).2:=⟨_,rfl⟩
 rw [←hj,←hag] at hFO hR hRi
 have HFA:Hid (2≤ag→j<4∧ag≤273∧n+ag≤N∧s.Says (.far j ag) ((zs.drop n).take ag)):=qz fun h2=>by
  rcases hRi with h0|⟨h0,h1⟩
  ·omega
  ·rw [hcom] at h1
   have h1:comB zs n (min (N-n) 273) s.W ([s.f0,s.f1,s.f2,s.f3].getD j 0)=ag:=h1
   rw [y2q s h0] at h1
   obtain ⟨c1,c2,c3⟩:=z5p (zs:=zs) (p:=n) (m:=min (N-n) 273) (W:=s.W) (f:=s.fj j) (by omega)
   rw [h1] at c1 c2 c3
   have c4:=c2 (by omega)
   refine ⟨h0,by omega,by omega,h0,h2,by omega,by rw [←hn];exact c4,by rw [List.length_take,List.length_drop];omega,?_⟩
   have:=h.says (d:=s.fj j+1) (n:=ag) (by omega) (by omega) (by omega) (by rw [←hn];exact c3)
   rw [←hn] at this
   simpa using this
 have HFO:=qz hFO
 have hsmall:=h.small
 have HMT:Hid (∀q,Calls Tryz.prog 78 #[.pointer (some ⟨wb,0,none⟩),.int .i64 (ag:Int)] (w.drewN q) fun e w'=>∃ (nn dd so':Nat) (iv':Value),e=.returned (.tuple #[.int .i64 (nn:Int),.int .i64 (dd:Int)])∧so'≤so+1∧WX B W w' wb pb gc ov0 ov s chv (.slice ta n tc) σ (some ⟨g,off,none⟩) N cap zs so' iv'∧(2≤nn→nn≤273∧n+nn≤N∧1≤dd∧dd≤1073741824∧s.Says (.mat (dd-1) nn) ((zs.drop n).take nn))):=qz fun q=>by
  have hl:=h.wc.lts
  refine (y0f wb g off cap N n so ag (.pointer (some ⟨pb,0,none⟩)) iv s chv ta tc zs (Sep W wb pb gc (.slice (some ⟨g,off,none⟩) N cap) ov (.slice ta n tc)) (w.drewN q) (hst.drewN q) hz hlt hcN hsmall h.bytes hA (h.ml.drewN q) h.wc.ok.W1 h.wc.ok.W2 (by omega) hR.1 hab.2.1 (by have:=h.B1;have:=h.Bw;omega) (by
   rcases h'.ix with e|⟨x,c4,room,F,e,hix,hF,hs⟩
   ·exact .inl e
   ·exact .inr ⟨x,c4,room,F,e,hix.drewN q,by rw [hn];exact hF,hs⟩) (fun k hk=>⟨hk.2.1,fun e=>hk.2.2.2.2.1 (by rw [e];rfl),by have:=hk.1;have:=h.W1;omega⟩) (fun k hk=>by
   have hk:w.heap.size≤k:=hk
   have:=h.wt.size
   refine ⟨by omega,by omega,by omega,by omega,fun e=>?_,fun e=>?_,fun e=>?_⟩
   ·have:=(h.ab k e).1;omega
   ·have:=hl.2.2.2.1 k e;omega
   ·have:=hl.2.2.2.2 k (by rw [←hn];exact e);omega)).mono ?_
  rintro e w' ⟨nn,dd,so',iv',rfl,hmo,hs',hso',hiv',hmk⟩
  refine ⟨nn,dd,so',iv',rfl,hso',h'.matched hs' (by rw [←hn];exact hiv') (((MKeep.refl _ _ _).drewN q).trans hmk),fun h2=>?_⟩
  rcases hmo with ⟨e1,_⟩|⟨m1,m2,m3,m4,m5,m6⟩
  ·omega
  ·have hle:min 273 (N-n)≤273∧min 273 (N-n)≤N-n:=by omega
   refine ⟨by omega,by omega,m3,by have:=h.wc.ok.W2;omega,h2,by omega,by have:=h.wc.ok.W2;omega,by rw [←hn];omega,by rw [List.length_take,List.length_drop];omega,?_⟩
   have:=h.says (d:=dd) (n:=nn) m3 (by omega) (by omega) (by rw [←hn];exact m6)
   rw [←hn] at this
   exact this
 have HNN:=qz hn
 have hok:=h.wc.ok
 have HW:=qz h'
 have HBY:Hid (∃c,zs.getD n 0=c∧c<256∧s.Says (.byte c) ((zs.drop n).take 1)):=qz (by
  have hl:n<zs.length:=by omega
  have hc:zs.getD n 0<256:=by
   rw [List.getD_eq_getElem?_getD,List.getElem?_eq_getElem hl]
   exact h.bytes _ (List.getElem_mem _)
  refine ⟨_,rfl,hc,hc,?_⟩
  have e:(zs.drop n).take 1=[zs[n]]:=by rw [List.drop_eq_getElem_cons hl];rfl
  rw [e]
  simp [List.getD_eq_getElem?_getD,List.getElem?_eq_getElem hl])
 have HP:Hid (∀ (p:Pc) (m:Nat) (ov':Value) (so':Nat) (iv':Value) (w':World),1≤m→n+m≤N→s.Says p ((zs.drop n).take m)→WX B W w' wb pb gc ov0 ov' (s.afterP p) chv (.slice ta n tc) (z0s (s.actsP p) σ) (some ⟨g,off,none⟩) N cap zs so' iv'→so'≤so+1→(z0s (s.actsP p) σ).k≤σ.k+31*(s.actsP p).length→y2f B W wb pb gc ov0 s chv (.slice ta n tc) σ (some ⟨g,off,none⟩) N cap zs so (.returned (.int .i64 (m:Int))) w'):=qz fun p m ov' so' iv' w' h1 h2 h3 h4 h5 h6=>⟨p,m,ov',so',iv',rfl,h1,by rw [←hn];exact h2,by rw [←hn];exact h3,h4,h5,by have:=y0g s p;omega⟩
 have hag3:=hR.1
 rw [←hn]
 clear hRi hFO hj hag hcom hst h' h hA hn hz hs hg hcc htc hab hR e2
 generalize y2f B W wb pb gc ov0 s chv (.slice ta n tc) σ (some ⟨g,off,none⟩) N cap zs so=POST at HP ⊢
 go_enter Tryz.func51,Tryz.ntmps51
 go_wp2_with fail
 refine (uh HFO).mono ?_
 rintro e w1 ⟨rfl,q,rfl⟩
 go_wp2_with fail
 refine (uh HMT q).mono ?_
 rintro e w2 ⟨nn,dd,so2,iv2,rfl,hso2,hX2,hM2⟩
 have HX2:=qz hX2
 have HM2:=qz hM2
 clear hX2 hM2 HFO HMT HW
 by_cases hA:2≤ag∧nn≤ag+1
 ·have i1:(2:Int)≤(ag:Int):=by omega
  have i2:(nn:Int)≤(ag:Int)+1:=by omega
  have i3:IntKind.i64.wrap ((ag:Int)+1)=(ag:Int)+1:=wi64 (by omega) (by omega)
  obtain ⟨f1,f2,f3,f4⟩:=uh HFA hA.1
  have HPF:=qz (z9s (AD.nil (uh HX2).wc) (by simp only [List.length_nil];omega) j ag ⟨hA.1,f2⟩ f1 (hok.after f4))
  have HF:=qz (And.intro f3 f4)
  clear f4 hA HM2 HFA HBY
  go_wp2_with fail
  refine (uh HPF).mono ?_
  rintro e w3 hpd
  obtain ⟨rfl,ov3,h3,h4⟩:=(uh HX2).put hpd rfl rfl
  have HE:=qz (uh HP (.far j ag) ag ov3 so2 iv2 w3 (by omega) (uh HF).1 (uh HF).2 h3 hso2 h4)
  clear hpd h3 h4 HPF HX2
  go_wp2_with fail
  exact uh HE
 ·have hC:(2≤ag∧ag+1<nn∧2≤nn)∨(ag<2∧2≤nn)∨(ag<2∧nn<2):=by omega
  clear hA HFA
  rcases hC with ⟨a1,a2,a3⟩|⟨a1,a3⟩|⟨a1,a3⟩
  ·have i1:(2:Int)≤(ag:Int):=by omega
   have i2:¬ (nn:Int)≤(ag:Int)+1:=by omega
   have i3:IntKind.i64.wrap ((ag:Int)+1)=(ag:Int)+1:=wi64 (by omega) (by omega)
   have i4:(2:Int)≤(nn:Int):=by omega
   obtain ⟨f2,f3,f4,f5,f6⟩:=uh HM2 a3
   have i5:IntKind.i64.wrap ((dd:Int)-1)=((dd-1:Nat):Int):=by rw [wi64 (by omega) (by omega)];omega
   have i6:IntKind.u32.wrap ((dd-1:Nat):Int)=((dd-1:Nat):Int):=by rw [IntKind.wrap_u32];omega
   have HPF:=qz (z3j (AD.nil (uh HX2).wc) (by simp only [List.length_nil];omega) (dd-1) nn ⟨a3,f2⟩ (by omega) (hok.after f6))
   have HF:=qz (And.intro f3 f6)
   clear f6 HM2 HBY a1 a2
   generalize dd-1=d1 at *
   go_wp2_with fail
   refine (uh HPF).mono ?_
   rintro e w3 hpd
   obtain ⟨rfl,ov3,h3,h4⟩:=(uh HX2).put hpd rfl rfl
   have HE:=qz (uh HP (.mat d1 nn) nn ov3 so2 iv2 w3 (by omega) (uh HF).1 (uh HF).2 h3 hso2 h4)
   clear hpd h3 h4 HPF HX2
   go_wp2_with fail
   exact uh HE
  ·have i1:¬ (2:Int)≤(ag:Int):=by omega
   have i4:(2:Int)≤(nn:Int):=by omega
   obtain ⟨f2,f3,f4,f5,f6⟩:=uh HM2 a3
   have i5:IntKind.i64.wrap ((dd:Int)-1)=((dd-1:Nat):Int):=by rw [wi64 (by omega) (by omega)];omega
   have i6:IntKind.u32.wrap ((dd-1:Nat):Int)=((dd-1:Nat):Int):=by rw [IntKind.wrap_u32];omega
   have HPF:=qz (z3j (AD.nil (uh HX2).wc) (by simp only [List.length_nil];omega) (dd-1) nn ⟨a3,f2⟩ (by omega) (hok.after f6))
   have HF:=qz (And.intro f3 f6)
   clear f6 HM2 HBY a1
   generalize dd-1=d1 at *
   go_wp2_with fail
   refine (uh HPF).mono ?_
   rintro e w3 hpd
   obtain ⟨rfl,ov3,h3,h4⟩:=(uh HX2).put hpd rfl rfl
   have HE:=qz (uh HP (.mat d1 nn) nn ov3 so2 iv2 w3 (by omega) (uh HF).1 (uh HF).2 h3 hso2 h4)
   clear hpd h3 h4 HPF HX2
   go_wp2_with fail
   exact uh HE
  ·have i1:¬ (2:Int)≤(ag:Int):=by omega
   have i4:¬ (2:Int)≤(nn:Int):=by omega
   obtain ⟨c,hc1,hc2,hc3⟩:=uh HBY
   have HST:Hid (SAt w2 wb 73 [.pointer (some ⟨pb,0,none⟩),.slice (some ⟨g,off,none⟩) N cap,.int .i64 (so2:Int),iv2] s chv (.slice ta n tc)):=qz (uh HX2).wc.st
   have d10:w2.drew.cell? ⟨wb,10,none⟩=_:=(uh HST).c10
   have d13:w2.drew.cell? ⟨wb,13,none⟩=some (.slice (some ⟨g,off,none⟩) N cap):=(uh HST).cell 13
   have dby:w2.drew.cell? ⟨g,off+n,none⟩=some (.int .u8 (c:Int)):=by
    obtain ⟨a',c',e,hcc,hs⟩:=(uh HX2).al.rd
    injection e with e1 e2 e3
    obtain ⟨g',off',e,hcell⟩:=hs (by have:=(uh HX2).zl;omega)
    rw [←e1] at e
    injection e with e
    injection e with e1 e2 e3
    rw [←hc1,e1,e2]
    exact hcell n (by have:=(uh HX2).zl;omega)
   have hni:(n:Int)<(N:Int):=by omega
   have HPF:=qz (z7v (W:=w2) ((AD.nil (uh HX2).wc).drewN 1) (by simp only [List.length_nil];omega) c hc2 (Nat.le_refl _))
   have HF:=qz hc3
   clear hc1 hc2 hc3 HM2 HBY a1 a3 HST
   go_upto_region 9 with fail
   go_region_law (
    refine z0z 81 #[.pointer (some ⟨wb,0,none⟩),.int .u8 (c:Int)] rfl (by go_simp) ?_
    refine (uh HPF).mono ?_
    rintro e w3 hpd
    obtain ⟨rfl,ov3,h3,h4⟩:=(uh HX2).put hpd rfl rfl
    have HE:=qz (uh HP (.byte c) 1 ov3 so2 iv2 w3 (by omega) (by omega) (uh HF) h3 hso2 h4)
    clear hpd h3 h4
    refine ⟨_,rfl,?_⟩)
   all_goals (
    clear HPF HX2
    go_wp2_with fail
    exact uh HE)
end
end D
namespace D
open Go.RowKit Rang
attribute [local go_sem ↓] wp_at_zero wp_at_succ
def LS.new (W:Nat):LS:=⟨W,0,0,0,0,0,0,0,0,[],0⟩
def z8e (W:Nat) (w:World) (e:Ending) (w':World):Prop:=∃g,e=.returned (.tuple #[.pointer (some ⟨g,0,none⟩),.int .i64 0])∧w.heap.size≤g∧SAt w' g 47 [] (LS.new W) (.slice none 0 0) (.slice none 0 0)∧Below w.heap.size w w'
theorem y2t (W:Nat) (w:World) (h:1≤W∧W≤268435456):Calls Tryz.prog 7 #[.int .i64 (W:Int)] w (z8e W w):=by
 have t1:¬ (W:Int)<1:=by omega
 have t2:¬ (268435456:Int)<(W:Int):=by omega
 have HN:Hid (∀x,x.heap[w.heap.size]?=some (.cells (z0v (LS.new W) (.slice none 0 0) (.slice none 0 0)).toArray 47 (0,0))→Below w.heap.size w x→z8e W w (.returned (.tuple #[.pointer (some ⟨w.heap.size,0,none⟩),.int .i64 0])) x):=qz fun x h1 h2=>⟨_,rfl,Nat.le_refl _,by unfold SAt;rw [h1];simp,h2⟩
 generalize z8e W w=POST at HN ⊢
 go_enter Tryz.func7,Tryz.ntmps7
 go_wp2_with fail
 refine uh HN _ ?_ (by go_grown)
 exact heap_alloc_new _ _
theorem y0y (W:Int) (w:World) (h:W<1∨268435456<W):Calls Tryz.prog 7 #[.int .i64 W] w fun e w'=>e=.returned (.tuple #[.pointer none,.int .i64 2])∧w'=w:=by
 by_cases h1:W<1
 ·go_enter Tryz.func7,Tryz.ntmps7
  go_wp2_with fail
  go_returns
  exact ⟨rfl,rfl⟩
 ·have t2:(268435456:Int)<W:=by omega
  go_enter Tryz.func7,Tryz.ntmps7
  go_wp2_with fail
  go_returns
  exact ⟨rfl,rfl⟩
section
variable {w:World} {b:Nat} {t:TypeId} {tl:List Value} {s:LS} {chv tv:Value} {a:Option Addr} {n cap:Nat}
theorem z3d (h:SAt w b t tl s chv tv) (hW:1≤s.W):Calls Tryz.prog 25 #[.pointer (some ⟨b,0,none⟩)] w fun e w'=>e=.returned (.bool true)∧w'=w:=by
 have c0:=h.c0
 have t1:(0:Int)<(s.W:Int):=by omega
 have d1:decide (0<s.W)=true:=decide_eq_true (by omega)
 clear h
 go_enter Tryz.func25,Tryz.ntmps25
 go_wp2_with fail
 go_ret
 exact ⟨by first|rfl|exact congrArg (fun x=>Ending.returned (.bool x)) d1,rfl⟩
theorem z4t (h:SAt w b t tl s chv tv) (hW:1≤s.W):Calls Tryz.prog 17 #[.pointer (some ⟨b,0,none⟩)] w fun e w'=>e=.returned (.int .i64 0)∧SAt w' b t tl { s with text:=[],place:=0 } chv (.slice none 0 0)∧Ch1 b w w':=by
 have HG:=qz (z3d h hW)
 have c10:=h.c10
 have c11:=h.c11
 have fr:=h.free
 have HS:Hid (SAt ((w.setCell ⟨b,10,none⟩ (.slice none 0 0)).setCell ⟨b,11,none⟩ (.int .i64 0)) b t tl { s with text:=[],place:=0 } chv (.slice none 0 0)):=qz ((h.setI 10 (.slice none 0 0) (s':={ s with text:=[] }) rfl).setI 11 (.int .i64 0) rfl)
 have HC:=qz (((Ch1.refl b w).set 10 (.slice none 0 0)).set 11 (.int .i64 0))
 clear h hW
 go_enter Tryz.func17,Tryz.ntmps17
 go_wp2_with fail
 refine (uh HG).mono ?_
 rintro e w1 ⟨rfl,rfl⟩
 go_wp2_with fail
 go_ret
 exact ⟨rfl,uh HS,uh HC⟩
theorem z5t (h:SAt w b t tl s (.slice a n cap) tv) (hn:0<n):Calls Tryz.prog 27 #[.pointer (some ⟨b,0,none⟩)] w fun e w'=>e=.returned (.bool true)∧w'=w:=by
 have c4:=h.c4
 have t1:(0:Int)<(n:Int):=by omega
 have d1:decide (0<n)=true:=decide_eq_true (by omega)
 clear h
 go_enter Tryz.func27,Tryz.ntmps27
 go_wp2_with fail
 go_ret
 exact ⟨by first|rfl|exact congrArg (fun x=>Ending.returned (.bool x)) d1,rfl⟩
theorem z2o (n:Nat) (w:World) (h:n≤4):Calls Tryz.prog 38 #[.int .i64 (n:Int)] w fun e w'=>e=.returned (.bool true)∧w'=w:=by
 have t1:(n:Int)≤4:=by omega
 have t2:(0:Int)≤(n:Int):=by omega
 have d1:decide (n≤4)=true:=decide_eq_true h
 go_enter Tryz.func38,Tryz.ntmps38
 go_wp2_with fail
 go_ret
 exact ⟨by first|rfl|exact congrArg (fun x=>Ending.returned (.bool x)) d1,rfl⟩
theorem z7s (lc lp pb:Nat) (w:World) (h:lc+lp≤4) (hp:pb≤4):Calls Tryz.prog 19 #[.agg #[.int .i64 (lc:Int),.int .i64 (lp:Int),.int .i64 (pb:Int)]] w fun e w'=>e=.returned (.bool true)∧w'=w.alloc (.cells #[.int .i64 (lc:Int),.int .i64 (lp:Int),.int .i64 (pb:Int)] 34):=by
 have q1:=qz fun w=>z2o lc w (by omega)
 have q2:=qz fun w=>z2o lp w (by omega)
 have q3:=qz fun w=>z2o pb w hp
 have f1:wrap64 ((lc:Int)+(lp:Int))=(lc:Int)+(lp:Int):=w64 (by omega) (by omega)
 have t1:(lc:Int)+(lp:Int)≤4:=by omega
 have d1:decide ((lc:Int)+(lp:Int)≤4)=true:=decide_eq_true t1
 clear h hp
 go_enter Tryz.func19,Tryz.ntmps19
 go_wp2_with fail
 refine (uh q1 _).mono ?_
 rintro e w' ⟨rfl,rfl⟩
 go_wp2_with fail
 refine (uh q2 _).mono ?_
 rintro e w' ⟨rfl,rfl⟩
 go_wp2_with fail
 refine (uh q3 _).mono ?_
 rintro e w' ⟨rfl,rfl⟩
 go_wp2_with fail
 go_ret
 exact ⟨by first|rfl|exact congrArg (fun x=>Ending.returned (.bool x)) d1,rfl⟩
def z8d (n:Nat) (w:World) (e:Ending) (w':World):Prop:=∃g,e=.returned (.slice (some ⟨g,0,none⟩) n n)∧w.heap.size≤g∧Ints w' g (List.replicate n 1024)∧Below w.heap.size w w'
theorem y0s (k:Nat) (h:k≤4):∃n:Nat,n=1856+768*2^k∧n≤20000∧wrap64 (1856+wrap64 (768*(2:Int)^k))=(n:Int):=by
 have h1:2^k≤2^4:=Nat.pow_le_pow_right (by omega) h
 have h3:(2:Int)^k=((2^k:Nat):Int):=by norm_cast
 refine ⟨_,rfl,by omega,?_⟩
 rw [h3]
 generalize 2^k=P at *
 rw [w64 (n:=768*(P:Int)) (by omega) (by omega),w64 (by omega) (by omega)]
 omega
theorem y0x (lc lp pb:Nat) (w0:World) (h:lc+lp≤4):Calls Tryz.prog 35 #[.agg #[.int .i64 (lc:Int),.int .i64 (lp:Int),.int .i64 (pb:Int)]] w0 (z8d (1856+768*2^(lc+lp)) w0):=by
 obtain ⟨n,hn,hn2,f1⟩:=y0s (lc+lp) h
 rw [←hn]
 clear hn
 obtain ⟨w,hw⟩:∃w,w=w0.alloc (.cells #[.int .i64 (lc:Int),.int .i64 (lp:Int),.int .i64 (pb:Int)] 34):=⟨_,rfl⟩
 have HW0:Hid (w0.heap.size≤w.heap.size∧Below w0.heap.size w0 w):=qz (by rw [hw];exact ⟨by simp,(Below.refl _ _).alloc (Nat.le_refl _) _⟩)
 have f0:wrap64 ((lc:Int)+(lp:Int))=((lc+lp:Nat):Int):=by rw [w64 (by omega) (by omega)];omega
 have hkl:lc+lp≤4:=h
 generalize lc+lp=kk at f0 f1 hkl
 have i1:wrap64 (1856+wrap64 (768*2^min kk 64))=(n:Int):=by rw [show min kk 64=kk by omega];exact f1
 have hmk:=z4v w n (by omega)
 have H0:Hid (Ints (w.alloc (.cells ((List.replicate n 0).map fun p:Nat=>Value.int .i64 (p:Int)).toArray 3)) w.heap.size (z1h n 0)):=qz (by
  unfold Ints z1h
  rw [heap_alloc_new]
  simp)
 have HB:Hid (Below w.heap.size w (w.alloc (.cells ((List.replicate n 0).map fun p:Nat=>Value.int .i64 (p:Int)).toArray 3))):=qz ((Below.refl _ _).alloc (Nat.le_refl _) _)
 obtain ⟨CS,hCS⟩:∃CS,CS=((List.replicate n 0).map fun p:Nat=>Value.int .i64 (p:Int)).toArray:=⟨_,rfl⟩
 rw [←hCS] at hmk H0 HB
 have HE:Hid (∀x,Ints x w.heap.size (List.replicate n 1024)→Below w.heap.size w x→z8d n w0 (.returned (.slice (some ⟨w.heap.size,0,none⟩) n n)) x):=qz fun x h1 h2=>⟨_,rfl,(uh HW0).1,h1,(uh HW0).2.trans (h2.mono (uh HW0).1)⟩
 generalize z8d n w0=POST at HE ⊢
 clear hCS h
 go_enter Tryz.func35,Tryz.ntmps35
 go_upto_region 1 with fail
 obtain ⟨k0,k1,k2,kf⟩:=z0r (w:=w) (g:=w0.heap.size) (ty:=34) (x0:=.int .i64 (lc:Int)) (x1:=.int .i64 (lp:Int)) (x2:=.int .i64 (pb:Int)) (by rw [hw];exact heap_alloc_new _ _)
 rw [←hw]
 clear hw
 go_wp2_with fail
 clear hmk
 go_loopg [15] n (fun gk d ws=>∃ (i:Nat),gk=n-i∧i≤n∧d=.int .i64 (i:Int)∧Hid (Ints ws w.heap.size (z1h n i))∧Hid (Below w.heap.size w ws))
 case atStart=>exact ⟨0,by omega,by omega,rfl,H0,HB⟩
 case round =>
  clear H0 HB
  obtain ⟨i,rfl,hi,rfl,H0,HB⟩:=hrel
  by_cases hlt:i<n
  ·have tl:(i:Int)<(n:Int):=by omega
   have c1:=(uh H0).cell i (by rw [z3q n i hi];exact hlt)
   have c2:=(uh H0).free i
   have HS:=qz ((uh H0).set i 1024)
   rw [z3r n i hlt] at HS
   generalize (z1h n i).getD i 0=x at c1
   go_wp2_with fail
   go_roundg (n-(i+1))
   case measure=>omega
   case rel=>exact ⟨i+1,rfl,by omega,by go_num,qz (uh HS),qz ((uh HB).setCell (Nat.le_refl _) _)⟩
  ·obtain rfl:n=i:=by omega
   have tl:¬ (n:Int)<(n:Int):=by omega
   have HF:=qz (uh HE _ (by have:=uh H0;unfold z1h at this;simpa using this) (uh HB))
   go_wp2_with fail
   first
   | exact uh HF
   | (go_ret;exact uh HF)
end
end D
namespace D
open Go.RowKit Rang
attribute [local go_sem ↓] wp_at_zero wp_at_succ
section
variable {w:World} {b:Nat} {t:TypeId} {tl:List Value} {s:LS} {chv tv:Value} {a:Option Addr} {n cap:Nat}
structure Ch2 (b:Nat) (w w':World):Prop where
 os:w'.os=w.os
 tape:w'.tape=w.tape
 output:w'.output=w.output
 size:w.heap.size≤w'.heap.size
 keep:∀k,k<w.heap.size→k≠b→w'.heap[k]?=w.heap[k]?
theorem Ch2.of_below {w':World} (h:Below w.heap.size w w'):Ch2 b w w':=⟨h.os,h.tape,h.output,h.size,fun k hk _=>h.block k hk⟩
theorem Ch1.ch2 {w':World} (h:Ch1 b w w'):Ch2 b w w':=⟨h.os,h.tape,h.output,Nat.le_of_eq h.size.symm,fun k _ hk=>h.keep k hk⟩
theorem Ch2.trans {w1 w2:World} (h:Ch2 b w w1) (h':Ch2 b w1 w2):Ch2 b w w2:=⟨h'.os.trans h.os,h'.tape.trans h.tape,h'.output.trans h.output,Nat.le_trans h.size h'.size,fun k hk hb=>(h'.keep k (Nat.lt_of_lt_of_le hk h.size) hb).trans (h.keep k hk hb)⟩
def LS.reset (s:LS) (lc lp pb:Nat):LS:={ s with lc:=lc,lp:=lp,pb:=pb,f0:=0,f1:=0,f2:=0,f3:=0,z:=0 }
def y2g (b:Nat) (t:TypeId) (tl:List Value) (s:LS) (tv:Value) (lc lp pb:Nat) (w:World) (e:Ending) (w':World):Prop :=
 e=.returned (.int .i64 0)∧∃g,w.heap.size≤g∧SAt w' b t tl (s.reset lc lp pb) (.slice (some ⟨g,0,none⟩) (1856+768*2^(lc+lp)) (1856+768*2^(lc+lp))) tv∧Ints w' g (List.replicate (1856+768*2^(lc+lp)) 1024)∧Ch2 b w w'
theorem y1j (h:SAt w b t tl s chv tv) (hW:1≤s.W) (lc lp pb:Nat) (hl:lc+lp≤4) (hp:pb≤4) (ht:(34:TypeId)≠t):Calls Tryz.prog 15 #[.pointer (some ⟨b,0,none⟩),.agg #[.int .i64 (lc:Int),.int .i64 (lp:Int),.int .i64 (pb:Int)]] w (y2g b t tl s tv lc lp pb w):=by
 have HG:=qz fun w2 (h2:SAt w2 b t tl s chv tv)=>z3d h2 hW
 have HT:=qz ht
 have HV:=qz fun w2=>z7s lc lp pb w2 hl hp
 have HE:=qz fun w2=>y0x lc lp pb w2 hl
 obtain ⟨w1,hw1⟩:∃w1,w1=w.alloc (.cells #[.int .i64 (lc:Int),.int .i64 (lp:Int),.int .i64 (pb:Int)] 34):=⟨_,rfl⟩
 have hb1:Below w.heap.size w w1:=by rw [hw1];exact (Below.refl _ _).alloc (Nat.le_refl _) _
 have H1:=qz (h.stays hb1)
 have HB1:=qz hb1
 have HK:Hid (w1.heap[w.heap.size]?=some (.cells #[.int .i64 (lc:Int),.int .i64 (lp:Int),.int .i64 (pb:Int)] 34 (0,0))):=qz (by rw [hw1];exact heap_alloc_new _ _)
 go_enter Tryz.func15,Tryz.ntmps15
 go_upto_region 1 with fail
 rw [←hw1]
 clear hw1 hb1 h
 go_wp2_with fail
 refine (uh HG _ (uh H1)).mono ?_
 rintro e w2 ⟨rfl,rfl⟩
 obtain ⟨k0,k1,k2,kf⟩:=z0r (uh HK)
 go_wp2_with fail
 refine (uh HV _).mono ?_
 rintro e w3 ⟨rfl,rfl⟩
 have hb3:Below w2.heap.size w2 (w2.alloc (.cells #[.int .i64 (lc:Int),.int .i64 (lp:Int),.int .i64 (pb:Int)] 34)):=(Below.refl _ _).alloc (Nat.le_refl _) _
 have h3:=(uh H1).stays hb3
 have HB3:=qz ((uh HB1).trans (hb3.mono (uh HB1).size))
 have HK3:(w2.alloc (.cells #[.int .i64 (lc:Int),.int .i64 (lp:Int),.int .i64 (pb:Int)] 34)).heap[w.heap.size]?=some (.cells #[.int .i64 (lc:Int),.int .i64 (lp:Int),.int .i64 (pb:Int)] 34 (0,0)):=by rw [hb3.block _ (z0c (uh HK))];exact uh HK
 clear hb3 H1 HB1 HK k0 k1 k2 kf
 generalize w2.alloc (.cells #[.int .i64 (lc:Int),.int .i64 (lp:Int),.int .i64 (pb:Int)] 34)=w3 at *
 obtain ⟨k0,k1,k2,kf⟩:=z0r HK3
 have c1:=h3.c1
 have c2:=h3.c2
 have c3:=h3.c3
 have fr:=h3.free
 have h4:SAt (((w3.setCell ⟨b,1,none⟩ (.int .i64 (lc:Int))).setCell ⟨b,2,none⟩ (.int .i64 (lp:Int))).setCell ⟨b,3,none⟩ (.int .i64 (pb:Int))) b t tl { s with lc:=lc,lp:=lp,pb:=pb } chv tv:=((h3.setI 1 (.int .i64 (lc:Int)) (s':={ s with lc:=lc }) rfl).setI 2 (.int .i64 (lp:Int)) (s':={ s with lc:=lc,lp:=lp }) rfl).setI 3 (.int .i64 (pb:Int)) rfl
 have hne:¬w.heap.size=b:=by
  rintro rfl
  exact z0e HK3 h3 (uh HT) rfl
 have hc4:Ch1 b w3 (((w3.setCell ⟨b,1,none⟩ (.int .i64 (lc:Int))).setCell ⟨b,2,none⟩ (.int .i64 (lp:Int))).setCell ⟨b,3,none⟩ (.int .i64 (pb:Int))):=(((Ch1.refl b w3).set 1 _).set 2 _).set 3 _
 have H4:=qz h4
 have HC4:Hid (Ch2 b w _):=qz ((Ch2.of_below (b:=b) (uh HB3)).trans hc4.ch2)
 have HK4:Hid ((((w3.setCell ⟨b,1,none⟩ (.int .i64 (lc:Int))).setCell ⟨b,2,none⟩ (.int .i64 (lp:Int))).setCell ⟨b,3,none⟩ (.int .i64 (pb:Int))).heap[w.heap.size]?=some (.cells #[.int .i64 (lc:Int),.int .i64 (lp:Int),.int .i64 (pb:Int)] 34 (0,0))):=qz (by rw [hc4.keep _ hne];exact HK3)
 clear h3 h4 hc4 HK3 HB3
 go_wp2_with fail
 generalize ((w3.setCell ⟨b,1,none⟩ (.int .i64 (lc:Int))).setCell ⟨b,2,none⟩ (.int .i64 (lp:Int))).setCell ⟨b,3,none⟩ (.int .i64 (pb:Int))=w5 at *
 refine (uh HE w5).mono ?_
 rintro e w6 ⟨g,rfl,hg,hI,hb6⟩
 have h6:=(uh H4).stays hb6
 have HC6:Hid (Ch2 b w w6):=qz ((uh HC4).trans (Ch2.of_below hb6))
 have hgb:¬b=g:=by have:=(uh H4).lt;omega
 have hgw:Hid (w.heap.size≤g):=qz (Nat.le_trans (uh HC4).size hg)
 have hgne:Hid (g≠b):=qz (Ne.symm hgb)
 have HI:=qz hI
 have HFIN:Hid (∀N,N=1856+768*2^(lc+lp)→y2g b t tl s tv lc lp pb w (.returned (.int .i64 0)) ((((((w6.setCell ⟨b,4,none⟩ (.slice (some ⟨g,0,none⟩) N N)).setCell ⟨b,5,none⟩ (.int .u32 0)).setCell ⟨b,6,none⟩ (.int .u32 0)).setCell ⟨b,7,none⟩ (.int .u32 0)).setCell ⟨b,8,none⟩ (.int .u32 0)).setCell ⟨b,9,none⟩ (.int .i64 0))):=qz (by
  rintro N rfl
  have hs:=((((((h6.setI 4 (.slice (some ⟨g,0,none⟩) (1856+768*2^(lc+lp)) (1856+768*2^(lc+lp))) (s':={ s with lc:=lc,lp:=lp,pb:=pb }) (chv':=.slice (some ⟨g,0,none⟩) (1856+768*2^(lc+lp)) (1856+768*2^(lc+lp))) (tv':=tv) rfl).setI 5 (.int .u32 0) (s':={ s with lc:=lc,lp:=lp,pb:=pb,f0:=0 }) rfl).setI 6 (.int .u32 0) (s':={ s with lc:=lc,lp:=lp,pb:=pb,f0:=0,f1:=0 }) rfl).setI 7 (.int .u32 0) (s':={ s with lc:=lc,lp:=lp,pb:=pb,f0:=0,f1:=0,f2:=0 }) rfl).setI 8 (.int .u32 0) (s':={ s with lc:=lc,lp:=lp,pb:=pb,f0:=0,f1:=0,f2:=0,f3:=0 }) rfl).setI 9 (.int .i64 0) (s':=s.reset lc lp pb) rfl)
  have hc:=((((((Ch1.refl b w6).set 4 (.slice (some ⟨g,0,none⟩) (1856+768*2^(lc+lp)) (1856+768*2^(lc+lp)))).set 5 (.int .u32 0)).set 6 (.int .u32 0)).set 7 (.int .u32 0)).set 8 (.int .u32 0)).set 9 (.int .i64 0)
  refine ⟨rfl,g,uh hgw,hs,?_,(uh HC6).trans hc.ch2⟩
  unfold Ints
  rw [hc.keep g (uh hgne)]
  exact uh HI)
 have c4:=h6.c4
 have c5:=h6.c5
 have c6:=h6.c6
 have c7:=h6.c7
 have c8:=h6.c8
 have c9:=h6.c9
 have fr6:=h6.free
 clear hI hb6 h6 H4 HC4 HK4 hg c1 c2 c3 fr hgb hne k0 k1 k2 kf HI HC6 hgw hgne
 generalize y2g b t tl s tv lc lp pb w=POST at *
 have HFIN:=qz (uh HFIN _ rfl)
 generalize 1856+768*2^(lc+lp)=N at *
 go_wp2_with fail
 first
 | exact uh HFIN
 | (go_ret;exact uh HFIN)
end
end D
namespace D
open Go.RowKit Rang
attribute [local go_sem ↓] wp_at_zero wp_at_succ
theorem iw0 (n:Int):IntKind.i64.wrap n=wrap64 n:=by rw [IntKind.wrap_i64];unfold wrap64;omega
section
variable {w:World} {b:Nat} {t:TypeId} {tl:List Value} {s:LS} {chv tv:Value} {a:Option Addr} {n cap:Nat}
theorem cutA (g off n cap W:Nat) (w:World) (h0:w.cell? ⟨b,0,none⟩=some (.int .i64 (W:Int))) (h10:w.cell? ⟨b,10,none⟩=some (.slice (some ⟨g,off,none⟩) n cap)) (hf:w.frozen? ⟨b,10,none⟩=false) (hn:n≤W) (hW:W≤268435456) (hc:n≤cap) :
  Calls Tryz.prog 37 #[.pointer (some ⟨b,0,none⟩)] w fun e w'=>e=.returned (.tuple #[])∧∃q,w'=(w.setCell ⟨b,10,none⟩ (.slice (some ⟨g,off,none⟩) n cap)).drewN q:=by
 have f1:max 0 (wrap64 ((n:Int)-(W:Int)))=0:=by rw [show wrap64 ((n:Int)-(W:Int))=(n:Int)-(W:Int) by unfold wrap64;omega];omega
 have f2:IntKind.i64.wrap ((n:Int)-(W:Int))=(n:Int)-(W:Int):=by rw [iw0];unfold wrap64;omega
 have t1:¬ (0:Int)≤(n:Int)-(W:Int)∨(n:Int)=(W:Int):=by omega
 have t2:max 0 ((n:Int)-(W:Int))=0:=by omega
 have t3:¬ (n:Int)<0:=by omega
 go_enter Tryz.func37,Tryz.ntmps37
 go_wp2_with fail
 go_quiet (fail)
 go_wp2_with fail
 go_end0
 exact ⟨rfl,nq,rfl⟩
theorem cutN (W:Nat) (w:World) (h0:w.cell? ⟨b,0,none⟩=some (.int .i64 (W:Int))) (h10:w.cell? ⟨b,10,none⟩=some (.slice none 0 0)) (hf:w.frozen? ⟨b,10,none⟩=false) (hW:W≤268435456) :
  Calls Tryz.prog 37 #[.pointer (some ⟨b,0,none⟩)] w fun e w'=>e=.returned (.tuple #[])∧∃q,w'=(w.setCell ⟨b,10,none⟩ (.slice none 0 0)).drewN q:=by
 have f2:IntKind.i64.wrap (0-(W:Int))=0-(W:Int):=by rw [iw0];unfold wrap64;omega
 have f3:IntKind.i64.wrap (-(W:Int)) = -(W:Int):=by rw [iw0];unfold wrap64;omega
 have t2:max 0 (0-(W:Int))=0:=by omega
 have t4:max 0 (-(W:Int))=0:=by omega
 go_enter Tryz.func37,Tryz.ntmps37
 go_wp2_with fail
 go_quiet (fail)
 go_wp2_with fail
 go_end0
 exact ⟨rfl,nq,rfl⟩
theorem cutB (g off n cap W:Nat) (w:World) (h0:w.cell? ⟨b,0,none⟩=some (.int .i64 (W:Int))) (h10:w.cell? ⟨b,10,none⟩=some (.slice (some ⟨g,off,none⟩) n cap)) (hf:w.frozen? ⟨b,10,none⟩=false) (hn:W<n) (hn2:n-W≤W) (hW:W≤268435456) (hc:n≤cap) :
  Calls Tryz.prog 37 #[.pointer (some ⟨b,0,none⟩)] w fun e w'=>e=.returned (.tuple #[])∧∃q,w'=(w.setCell ⟨b,10,none⟩ (.slice (some ⟨g,off+(n-W),none⟩) W (cap-(n-W)))).drewN q:=by
 obtain ⟨o,ho⟩:∃o,o=n-W:=⟨_,rfl⟩
 rw [←ho] at hn2 ⊢
 have f2:IntKind.i64.wrap ((n:Int)-(W:Int))=(o:Int):=by rw [iw0];unfold wrap64;omega
 have t2:max 0 (o:Int)=(o:Int):=by omega
 have t3:¬ (W:Int)<(o:Int):=by omega
 have t4:(o:Int)≤(n:Int):=by omega
 have t5:¬cap=o:=by omega
 have t6:n-o=W:=by omega
 have t7:((n:Int)-(o:Int)).toNat=W:=by omega
 have t8:o≤n:=by omega
 have t9:¬W<o:=by omega
 go_enter Tryz.func37,Tryz.ntmps37
 go_wp2_with fail
 go_quiet (fail)
 go_wp2_with fail
 go_end0
 refine ⟨rfl,nq,?_⟩
 rw [ho,show n-(n-W)=W by omega]
 rfl
def CutC (b W:Nat) (xs:List Nat) (w:World) (e:Ending) (w':World):Prop:=e=.returned (.tuple #[])∧∃v w1 w2,CopyB w1 w2 v xs∧w1.heap.size=w.heap.size∧Ch1 b w w1∧(∃q u,w1=(w.drewN q).setCell ⟨b,10,none⟩ u)∧w'=w2.setCell ⟨b,10,none⟩ v
theorem cutC (g off n cap W:Nat) (xs:List Nat) (w:World) (h0:w.cell? ⟨b,0,none⟩=some (.int .i64 (W:Int))) (h10:w.cell? ⟨b,10,none⟩=some (.slice (some ⟨g,off,none⟩) n cap)) (hf:∀i,w.frozen? ⟨b,i,none⟩=false) (hW1:1≤W) (hn:W<n) (hn2:W<n-W) (hW:W≤268435456) (hc:n≤cap) (hcap:n≤1099511627776)
  (hx:xs.length=W) (hs:∀w1,Ch1 b w w1→SrcB w1 (some ⟨g,off+(n-W),none⟩) (cap-(n-W)) xs) (hbk:∀w1 w2,Ch1 b w w1→Below w1.heap.size w1 w2→w2.cell? ⟨b,10,none⟩=w1.cell? ⟨b,10,none⟩∧w2.frozen? ⟨b,10,none⟩=w1.frozen? ⟨b,10,none⟩) :
  Calls Tryz.prog 37 #[.pointer (some ⟨b,0,none⟩)] w (CutC b W xs w):=by
 obtain ⟨o,ho⟩:∃o,o=n-W:=⟨_,rfl⟩
 have HO:=qz ho
 rw [←ho] at hn2 hs
 have f2:IntKind.i64.wrap ((n:Int)-(W:Int))=(o:Int):=by rw [iw0];unfold wrap64;omega
 have t2:max 0 (o:Int)=(o:Int):=Int.max_eq_right (Int.natCast_nonneg o)
 have t3:(W:Int)<(o:Int):=by omega
 have t4:(o:Int)≤(n:Int):=by omega
 have t5:¬cap=o:=by omega
 have t6:n-o=W:=by omega
 have t8:o≤n:=by omega
 have t9:W<o:=by omega
 have fr:=hf 10
 have HC1:Hid (∀q,Ch1 b w ((w.drewN q).setCell ⟨b,10,none⟩ (.slice (some ⟨g,off+o,none⟩) W (cap-o)))):=qz fun q=>((Ch1.refl b w).drewN q).set 10 _
 have HS:=qz hs
 have HBK:=qz hbk
 have HX:=qz hx
 have HW:=qz hW
 clear ho hs hbk hx hf
 go_enter Tryz.func37,Tryz.ntmps37
 go_wp2_with fail
 go_quiet (fail)
 go_wp2_with fail
 have hc1:=uh HC1 nq
 have m10:((w.drewN nq).setCell ⟨b,10,none⟩ (.slice (some ⟨g,off+o,none⟩) W (cap-o))).cell? ⟨b,10,none⟩=some (.slice (some ⟨g,off+o,none⟩) W (cap-o)):=by
  exact World.cell?_setCell_same _ _ _ (show (w.drewN nq).cell? ⟨b,10,none⟩=some _ from h10)
 have mfr:((w.drewN nq).setCell ⟨b,10,none⟩ (.slice (some ⟨g,off+o,none⟩) W (cap-o))).frozen? ⟨b,10,none⟩=false:=by simpa using fr
 have HEQ:Hid (∃q u,(w.drewN nq).setCell ⟨b,10,none⟩ (.slice (some ⟨g,off+o,none⟩) W (cap-o))=(w.drewN q).setCell ⟨b,10,none⟩ u):=qz ⟨nq,_,rfl⟩
 generalize (w.drewN nq).setCell ⟨b,10,none⟩ (.slice (some ⟨g,off+o,none⟩) W (cap-o))=w1 at *
 refine (z6k g (off+o) W (cap-o) xs w1 (uh HX) (uh HS _ hc1) (by have:=uh HW;omega)).mono ?_
 rintro e w2 ⟨v,rfl,h2⟩
 obtain ⟨g2,c2,sp2,e2,_⟩:=h2.shape
 subst e2
 obtain ⟨k1,k2⟩:=uh HBK w1 w2 hc1 h2.bel
 rw [m10] at k1
 rw [mfr] at k2
 have H2:=qz h2
 have HCC:=qz hc1
 clear h2 hc1 HC1 HS HBK
 go_wp2_with fail
 go_end0
 exact ⟨rfl,_,w1,w2,uh H2,(uh HCC).size,uh HCC,uh HEQ,rfl⟩
end
end D
namespace D
open Go.RowKit Rang
section
variable {w:World} {b:Nat} {t:TypeId} {tl:List Value} {s:LS} {chv tv:Value}
def cutT (s:LS):List Nat:=s.text.drop (s.text.length-s.W)
def y4l (b:Nat) (t:TypeId) (tl:List Value) (s:LS) (chv tv:Value) (w:World) (e:Ending) (w':World):Prop :=
 e=.returned (.tuple #[])∧∃tv',SAt w' b t tl { s with text:=cutT s } chv tv'∧TAt w' tv' (cutT s)∧Ch2 b w w'∧(∀k,tv'.ownBlock=some k→tv.ownBlock=some k∨w.heap.size≤k)∧(cutT s=[]→tv'=.slice none 0 0)
theorem TAt.sub {w:World} {g off n cap:Nat} {cur:Array Value} {xs:List Nat} (hn:n=xs.length) (hg:w.heap[g]?=some (.cells cur 5 (0,0))) (hz:off+cap≤cur.size) (ht:(cur.toList.drop off).take n=xs.map bv) (hc:n≤cap) (o:Nat) (ho:o≤n):TAt w (.slice (some ⟨g,off+o,none⟩) (n-o) (cap-o)) (xs.drop o):=by
 refine ⟨_,cap-o,by rw [List.length_drop,hn],by rw [List.length_drop,←hn];omega,fun _=>⟨g,off+o,cur,rfl,hg,by omega,?_⟩⟩
 rw [List.length_drop,←hn,←List.drop_drop,List.map_drop,←ht,List.take_drop,show o+(n-o)=n by omega,List.drop_take]
theorem z2k {w':World} {xs:List Nat} {v:Value} (h:TAt w v xs) (hs:SAt w b t tl s chv tv) (ht:t≠5) (hc:Ch1 b w w'):TAt w' v xs:=h.of fun g cur _ hg=>hc.keep g (fun e=>by subst e;exact z0e hg hs (Ne.symm ht) rfl)
theorem y1r {w2 w3:World} {g2 cap2:Nat} {xs:List Nat} {sp:List Value} (hg:w2.heap[g2]?=some (.cells (xs.map bv++sp).toArray 5 (0,0))) (hc:xs.length≤cap2) (hfull:(xs.map bv++sp).toArray.size=cap2) (hch:Ch1 b w2 w3) (hne:g2≠b):TAt w3 (.slice (some ⟨g2,0,none⟩) xs.length cap2) xs:=by
 refine ⟨_,cap2,rfl,hc,fun _=>⟨g2,0,_,rfl,by rw [hch.keep g2 hne];exact hg,?_,?_⟩⟩
 ·have:=hfull
  omega
 ·simp
theorem SAt.cut (h:SAt w b t tl s chv tv) (hx:TAt w tv s.text) (ht:t≠5) (hW:1≤s.W∧s.W≤268435456) (hn:s.text.length≤1099511627776) (hnil:s.text=[]→tv=.slice none 0 0) :
  Calls Tryz.prog 37 #[.pointer (some ⟨b,0,none⟩)] w (y4l b t tl s chv tv w):=by
 have c0:=h.c0
 have c10:=h.c10
 have fr:=h.free
 by_cases hemp:s.text=[]
 ·obtain rfl:=hnil hemp
  have e0:cutT s=[]:=by unfold cutT;rw [hemp];simp
  refine (cutN s.W w c0 c10 (fr 10) hW.2).mono ?_
  rintro e w' ⟨rfl,q,rfl⟩
  have hc:Ch1 b w ((w.setCell ⟨b,10,none⟩ (.slice none 0 0)).drewN q):=((Ch1.refl b w).set 10 _).drewN q
  refine ⟨rfl,.slice none 0 0,?_,?_,hc.ch2,(fun k e=>by cases e),fun _=>rfl⟩
  ·exact (h.setI 10 (.slice none 0 0) (s':={ s with text:=cutT s }) rfl)
  ·rw [e0];exact ⟨none,0,rfl,Nat.le_refl _,fun h=>by omega⟩
 ·have hpos:0<s.text.length:=List.length_pos_iff.2 hemp
  obtain ⟨a,cap,rfl,hcap,hb⟩:=id hx
  obtain ⟨g,off,cur,rfl,hg,hz,htk⟩:=hb (by omega)
  have hgb:g≠b:=fun e=>by subst e;exact z0e hg h (Ne.symm ht) rfl
  by_cases h1:s.text.length≤s.W
  ·refine (cutA g off s.text.length cap s.W w c0 c10 (fr 10) h1 hW.2 hcap).mono ?_
   rintro e w' ⟨rfl,q,rfl⟩
   have e0:cutT s=s.text:=by unfold cutT;rw [show s.text.length-s.W=0 by omega];rfl
   have hc:Ch1 b w ((w.setCell ⟨b,10,none⟩ (.slice (some ⟨g,off,none⟩) s.text.length cap)).drewN q):=((Ch1.refl b w).set 10 _).drewN q
   refine ⟨rfl,.slice (some ⟨g,off,none⟩) s.text.length cap,h.setI 10 _ (s':={ s with text:=cutT s }) rfl,by rw [e0];exact z2k hx h ht hc,hc.ch2,fun k e=>.inl e,fun e=>absurd (e0▸e) hemp⟩
  ·have hl:(cutT s).length=s.W:=by unfold cutT;rw [List.length_drop];omega
   have hne:cutT s≠[]:=fun e=>by rw [e] at hl;simp at hl;omega
   have hsub:=TAt.sub (n:=s.text.length) rfl hg hz htk hcap (s.text.length-s.W) (by omega)
   rw [show s.text.length-(s.text.length-s.W)=s.W by omega] at hsub
   by_cases h2:s.text.length-s.W≤s.W
   ·refine (cutB g off s.text.length cap s.W w c0 c10 (fr 10) (by omega) h2 hW.2 hcap).mono ?_
    rintro e w' ⟨rfl,q,rfl⟩
    have hc:Ch1 b w ((w.setCell ⟨b,10,none⟩ (.slice (some ⟨g,off+(s.text.length-s.W),none⟩) s.W (cap-(s.text.length-s.W)))).drewN q):=((Ch1.refl b w).set 10 _).drewN q
    exact ⟨rfl,_,h.setI 10 _ (s':={ s with text:=cutT s }) rfl,z2k hsub h ht hc,hc.ch2,fun k e=>.inl e,fun e=>absurd e hne⟩
   ·have hrd:=hsub.rd
    refine (cutC g off s.text.length cap s.W (cutT s) w c0 c10 fr hW.1 (by omega) (by omega) hW.2 hcap hn hl ?_ ?_).mono ?_
    ·intro w1 hc
     obtain ⟨a',cap',e,hc',hs'⟩:=(z2k hsub h ht hc).rd
     obtain ⟨g',off',e',hcell⟩:=hs' (by show 0<(cutT s).length;omega)
     injection e with e1 e2 e3
     rw [e'] at e1
     injection e1 with e1
     injection e1 with e4 e5
     subst e4 e5
     refine .inr ⟨_,rfl,fun j u hj=>?_⟩
     have hj2:j<(cutT s).length:=by
      have:=(List.getElem?_eq_some_iff.1 hj).1
      simpa using this
     rw [Addr.add_lit]
     rw [hcell j hj2]
     rw [←hj]
     have e6:((cutT s).map bv)[j]?=some (bv ((cutT s).getD j 0)):=by simp [List.getD_eq_getElem?_getD,List.getElem?_eq_getElem hj2]
     rw [e6]
     rfl
    ·intro w1 w2 hc hbel
     have hlt:b<w1.heap.size:=by rw [hc.size];exact h.lt
     exact ⟨World.cell?_of_block (hbel.block b hlt),by simp only [World.frozen?,hbel.block b hlt]⟩
    ·rintro e w' ⟨rfl,v,w1,w2,hcp,hsz,hc,⟨q,u,hw1⟩,rfl⟩
     have h1s:SAt w1 b t tl { s with text:=cutT s } chv u:=by rw [hw1];exact (h.drewN q).setI 10 u rfl
     have h2s:=h1s.stays hcp.bel
     obtain ⟨g2,cap2,sp,rfl,hg2,hcap2,hcells⟩:=hcp.shape
     have hg2b:g2≠b:=by have:=h.lt;rw [hsz] at hg2;omega
     have hc2:Ch1 b w2 (w2.setCell ⟨b,10,none⟩ (.slice (some ⟨g2,0,none⟩) (cutT s).length cap2)):=(Ch1.refl b w2).set 10 _
     refine ⟨rfl,_,h2s.setI 10 _ (s':={ s with text:=cutT s }) rfl,?_,(hc.ch2.trans (Ch2.of_below hcp.bel)).trans hc2.ch2,fun k e=>.inr ?_,fun e=>absurd e hne⟩
     ·exact y1r hcells hcap2 (hcp.full g2 cap2 _ rfl hcells) hc2 hg2b
     ·obtain rfl:g2=k:=Option.some.inj e
      omega
end
end D
namespace D
open Go.RowKit Rang
theorem z2v {w:World} {g off cap:Nat} {cur:Array Value} {xs:List Nat} (hg:w.heap[g]?=some (.cells cur 5 (0,0))) (hz:off+cap≤cur.size) (hc:xs.length≤cap) (h:∀j,j<xs.length→w.cell? ⟨g,off+j,none⟩=some (bv (xs.getD j 0))):TAt w (.slice (some ⟨g,off,none⟩) xs.length cap) xs:=by
 refine ⟨_,cap,rfl,hc,fun _=>⟨g,off,cur,rfl,hg,hz,?_⟩⟩
 apply List.ext_getElem?
 intro j
 by_cases hj:j<xs.length
 ·have h1:cur[off+j]?=some (bv (xs.getD j 0)):=by simpa [World.cell?,hg] using h j hj
  rw [List.getElem?_take_of_lt hj,List.getElem?_drop,Array.getElem?_toList,h1]
  simp [List.getD_eq_getElem?_getD,List.getElem?_eq_getElem hj]
 ·rw [List.getElem?_eq_none (by simp;omega),List.getElem?_eq_none (by simp;omega)]
theorem z1q {g:Nat} {t:TypeId}:∀ (vs:List Value) (o:Nat) (w:World) (cur:Array Value),w.heap[g]?=some (.cells cur t (0,0))→∃cur',(w.setCells g o vs).heap[g]?=some (.cells cur' t (0,0))∧cur'.size=cur.size
 | [],_,w,cur,h=>⟨cur,h,rfl⟩
 | v :: r,o,w,cur,h=>by
  obtain ⟨cur',h1,h2⟩:=z1q r (o+1) (w.setCell ⟨g,o,none⟩ v) _ (heap_setCell_same w g o _ t v h)
  exact ⟨cur',h1,by rw [h2];simp⟩
theorem z1o (g:Nat):∀ (vs:List Value) (o:Nat) (w:World),(w.setCells g o vs).heap.size=w.heap.size∧(w.setCells g o vs).os=w.os∧(w.setCells g o vs).tape=w.tape∧(w.setCells g o vs).output=w.output∧∀k,k≠g→(w.setCells g o vs).heap[k]?=w.heap[k]?
 | [],_,w=>⟨rfl,rfl,rfl,rfl,fun _ _=>rfl⟩
 | v :: r,o,w=>by
  obtain ⟨h1,h2,h3,h4,h5⟩:=z1o g r (o+1) (w.setCell ⟨g,o,none⟩ v)
  exact ⟨h1.trans (by simp),h2,h3,h4,fun k hk=>(h5 k hk).trans (heap_setCell_other _ _ _ _ hk)⟩
structure AppT (w w':World) (tv v':Value) (zs:List Nat):Prop where
 tx:TAt w' v' zs
 os:w'.os=w.os
 tape:w'.tape=w.tape
 output:w'.output=w.output
 size:w.heap.size≤w'.heap.size
 keep:∀k,k<w.heap.size→tv.ownBlock≠some k→w'.heap[k]?=w.heap[k]?
 lies:∀k,v'.ownBlock=some k→tv.ownBlock=some k∨w.heap.size≤k
 nil:zs=[]→v'=.slice none 0 0
theorem z4p {w w':World} {tv v':Value} {zs:List Nat} (h:w'.ownsRow w.heap.size 5 1 v' zs.length (zs.map bv)) (hg:w.grownBy w' none) (h0:zs≠[]):AppT w w' tv v' zs:=by
 rcases h.2 with ⟨e,hn⟩|⟨g,cap,cur,e1,hb,hh,hc,hm,hsz,ht⟩
 ·exact absurd (List.eq_nil_of_length_eq_zero hn) h0
 ·subst e1
  rw [Nat.mul_one] at hsz ht
  refine ⟨⟨_,cap,rfl,hc,fun _=>⟨g,0,cur,rfl,hh,by omega,by simpa using ht⟩⟩,hg.os,hg.tape,hg.output,hg.size,fun k hk _=>hg.block k hk (by simp),fun k e=>.inr ?_,fun e=>absurd e h0⟩
  obtain rfl:g=k:=Option.some.inj e
  exact hb
theorem y2a:∃i,Tryz.prog.info? 5=some i∧i.zero=some (.int .u8 0)∧i.size=1∧i.bytes=1:=info_parts info5
section
variable {w:World} {ops:Array Oper} {rest:List Oper} {o:Oper} {a:Act} {Q:Exit→Act→World→Prop}
theorem z6g (hgd:o.guard=none) (s x:Operand) (ho:o.op=.call { callee:=.builtin .append,args:=#[s,x],argTypes:=#[32,32] })
  (tv:Value) (xs:List Nat) (hs:a.eval s=tv) (hx:TAt w tv xs) (hnil:xs=[]→tv=.slice none 0 0)
  (xa:Option Addr) (c:Nat) (ys:List Nat) (hxe:a.eval x=.slice xa ys.length c) (hsrc:SrcB w xa c ys) (hlen:xs.length+ys.length≤140737488355328)
  (h:∀v' w',AppT w w' tv v' (xs++ys)→wpList Tryz.prog ops Q rest (a.put o.dst v') w'):wpList Tryz.prog ops Q (o :: rest) a w:=by
 obtain ⟨i0,hi,hz0,hz1,hz2⟩:=y2a
 have h1:∀u∈ys.map bv,u.oneCell'=true:=by
  intro u hu
  obtain ⟨y,_,rfl⟩:=List.mem_map.1 hu
  rfl
 have hself:ys=[]→AppT w w tv tv (xs++ys):=fun e=>by
  subst e
  rw [List.append_nil]
  exact ⟨hx,rfl,rfl,rfl,Nat.le_refl _,fun _ _ _=>rfl,fun _ e=>.inl e,hnil⟩
 by_cases hys:ys=[]
 ·have hh:=hself hys
  refine wpList_plain hgd fun K hK=>?_
  have hrun:(Builtin.append_ #[32,32] o.type #[tv,.slice xa ys.length c]).run Tryz.prog w=.ok tv w:=by
   subst hys
   have hu:=Tryz.underlying32
   rcases hsrc with ⟨rfl,rfl,_⟩|⟨ad,rfl,_⟩
   ·by_cases hemp:xs=[]
    ·obtain rfl:=hnil hemp
     simp [Builtin.append_,run_underlying hu,sizeOf,typeInfo,hi,Builtin.lenOf,Builtin.firstCells]
    ·obtain ⟨a0,cap,rfl,hcap,hb⟩:=id hx
     have hpos:0<xs.length:=List.length_pos_iff.2 hemp
     obtain ⟨g,off,cur,rfl,_⟩:=hb (by omega)
     simp [Builtin.append_,run_underlying hu,sizeOf,typeInfo,hi,Builtin.lenOf,Builtin.firstCells,hcap,storeCells]
   ·have hl0:(loadCells ad 0).run Tryz.prog w=.ok #[] w:=by simp [loadCells,loadCellsFrom]
    by_cases hemp:xs=[]
    ·obtain rfl:=hnil hemp
     simp [Builtin.append_,run_underlying hu,sizeOf,typeInfo,hi,Builtin.lenOf,Builtin.firstCells,hl0,Result.andThen]
    ·obtain ⟨a0,cap,rfl,hcap,hb⟩:=id hx
     have hpos:0<xs.length:=List.length_pos_iff.2 hemp
     obtain ⟨g,off,cur,rfl,_⟩:=hb (by omega)
     simp [Builtin.append_,run_underlying hu,sizeOf,typeInfo,hi,Builtin.lenOf,Builtin.firstCells,hcap,storeCells,hl0,Result.andThen]
  unfold Oper.wp
  simp [execOp,ho,resolve,invoke,builtin,hs,hxe,hrun,Result.andThen]
  exact hK _ _ (h _ _ hh)
 ·obtain ⟨ad,rfl,hcells⟩:∃ad,xa=some ad∧∀ (j:Nat) u,(ys.map bv)[j]?=some u→w.cell? (ad.add j)=some u:=by
   rcases hsrc with ⟨_,_,e⟩|h2
   ·exact absurd e hys
   ·exact h2
  have hne:xs++ys≠[]:=by simp [hys]
  by_cases hemp:xs=[]
  ·obtain rfl:=hnil hemp
   subst hemp
   refine wpList_append_grows w hgd s x 32 ho 5 i0 (.int .u8 0) 1 1 Tryz.underlying32 hi hz0 hz1 hz2 rfl (by decide) none 0 0 [] hs (fun _=>⟨rfl,rfl⟩) rfl (fun _ e=>by cases e) ad ys.length c (ys.map bv) hxe (by simp) hcells h1 (by have:=List.length_pos_iff.2 hys;omega) (by unfold maxLen;omega) (by omega) ?_
   intro v' w' hown hgr
   refine h v' w' (z4p (by simpa using hown) hgr (by simpa using hys))
  ·obtain ⟨a0,cap,rfl,hcap,hb⟩:=id hx
   have hpos:0<xs.length:=List.length_pos_iff.2 hemp
   obtain ⟨g,off,cur,rfl,hg,hz,htk⟩:=hb (by omega)
   obtain ⟨_,_,e,_,hrd⟩:=hx.rd
   obtain ⟨g',off',e',hcell⟩:=hrd hpos
   injection e with e1 _ _
   rw [e'] at e1
   injection e1 with e1
   injection e1 with e4 e5
   subst e4 e5
   refine wpList_append_arg w hgd s x 32 ho 5 i0 (.int .u8 0) 1 1 Tryz.underlying32 hi hz0 hz1 hz2 rfl (by decide) g off xs.length cap (xs.map bv) hs (by simp) ?_ ad ys.length c (ys.map bv) hxe (by simp) hcells h1 ?_ (by unfold maxLen;omega) (by omega) ?_ ?_
   ·intro j u hj
    have hj2:j<xs.length:=by
     have:=(List.getElem?_eq_some_iff.1 hj).1
     simpa using this
    rw [hcell j hj2,←hj]
    simp [bv,List.getD_eq_getElem?_getD,List.getElem?_eq_getElem hj2]
   ·intro hr j hj
    have hj2:off+xs.length+j<cur.size:=by simp at hj;omega
    exact ⟨by simp [World.cell?,hg,hj2],by simp [World.frozen?,hg]⟩
   ·intro hr
    obtain ⟨cur',hg',hsz'⟩:=z1q (ys.map bv) (off+xs.length*1) w cur hg
    obtain ⟨q1,q2,q3,q4,q5⟩:=z1o g (ys.map bv) (off+xs.length*1) w
    have htx:TAt (w.setCells g (off+xs.length*1) (ys.map bv)) (.slice (some ⟨g,off,none⟩) (xs++ys).length cap) (xs++ys):=by
     refine z2v hg' (by omega) (by simpa using hr) fun j hj=>?_
     by_cases hjx:j<xs.length
     ·rw [World.cell?_setCells_out g _ _ _ _ (fun _ _=>.inl (by show off+j<_;omega)),hcell j hjx]
      simp [bv,List.getD_eq_getElem?_getD,List.getElem?_append_left hjx]
     ·have hj3:j-xs.length<(ys.map bv).length:=by simp at hj ⊢;omega
      have:=World.cell?_setCells_in g (ys.map bv) (off+xs.length*1) w (fun k hk=>by
       have hk2:off+xs.length+k<cur.size:=by simp at hk;omega
       simp [World.cell?,hg,hk2]) (j-xs.length) hj3
      rw [show off+xs.length*1+(j-xs.length)=off+j by omega] at this
      have hj4:j-xs.length<ys.length:=by simpa using hj3
      have e6:(xs++ys).getD j 0=ys.getD (j-xs.length) 0:=by simp [List.getD_eq_getElem?_getD,List.getElem?_append_right (show xs.length≤j by omega)]
      rw [this,e6]
      simp [List.getD_eq_getElem?_getD,List.getElem?_eq_getElem hj4]
    rw [List.length_append] at htx
    exact h _ _ ⟨htx,q2,q3,q4,Nat.le_of_eq q1.symm,fun k _ hk=>q5 k (fun e=>hk (by rw [e];rfl)),fun k e=>.inl e,fun e=>absurd e hne⟩
   ·intro hr v' w' hown hgr
    exact h v' w' (z4p (by simpa using hown) hgr hne)
end
end D
namespace D
open Go.RowKit Rang
attribute [local go_sem ↓] wp_at_zero wp_at_succ
section
variable {w:World} {b:Nat} {t:TypeId} {tl:List Value} {s:LS} {chv tv:Value}
theorem SAt.come2 (h:SAt w b t tl s chv tv) (ht:∃ta tc,tv=.slice ta s.text.length tc) (a:Option Addr) (n cap:Nat) (xs:List Nat) (hn:n=s.text.length+xs.length) (hb:n≤140737488355328) (hp:s.place≤1000000000000000000) :
  Calls Tryz.prog 36 #[.pointer (some ⟨b,0,none⟩),.slice a n cap] w fun e w'=>e=.returned (.tuple #[])∧SAt w' b t tl (s.come xs) chv (.slice a n cap)∧Ch1 b w w':=by
 have hd:SAt w.drew b t tl s chv tv:=h
 obtain ⟨ta,tc,rfl⟩:=ht
 have c10:w.drew.cell? ⟨b,10,none⟩=_:=h.c10
 have c11:w.drew.cell? ⟨b,11,none⟩=_:=h.c11
 have fr:∀i,w.drew.frozen? ⟨b,i,none⟩=false:=h.free
 have c10':=h.c10
 have c11':=h.c11
 have fr':=h.free
 have f1:wrap64 ((n:Int)-(s.text.length:Int))=(xs.length:Int):=by rw [w64 (by omega) (by omega)];omega
 have f2:wrap64 ((s.place:Int)+(xs.length:Int))=((s.place+xs.length:Nat):Int):=by rw [w64 (by omega) (by omega)];omega
 have HS:Hid (SAt ((w.drew.setCell ⟨b,11,none⟩ (.int .i64 ((s.place+xs.length:Nat):Int))).setCell ⟨b,10,none⟩ (.slice a n cap)) b t tl (s.come xs) chv (.slice a n cap)):=qz (hd.setText (.slice a n cap) (s.place+xs.length) (s.text++xs))
 have HC:=qz fun (u v:Value)=>(((Ch1.refl b w).drewN 1).set 11 u).set 10 v
 have HF:Hid ((s.place:Int)+(xs.length:Int)=((s.place+xs.length:Nat):Int)):=qz (by omega)
 generalize xs.length=k at *
 generalize s.text.length=m at *
 generalize s.place=pl at *
 clear h hd hb hp hn
 go_enter Tryz.func36,Tryz.ntmps36
 go_wp2_with fail
 refine z1d 13 (by kernel_rfl) (by kernel_rfl) ?_
 simp only [List.take_succ_cons,List.take_zero,List.drop_succ_cons,List.drop_zero]
 repeat (first|still_step)
 try refine wpStill_nil ?_
 go_wp2_with fail
 go_end0
 rw [uh HF]
 exact ⟨rfl,uh HS,uh HC _ _⟩
def y1y (b:Nat) (t:TypeId) (tl:List Value) (s:LS) (chv tv:Value) (w:World) (e:Ending) (w':World):Prop :=
 e=.returned (.int .i64 0)∧∃tv',SAt w' b t tl { s with text:=cutT s } chv tv'∧TAt w' tv' (cutT s)∧(w'.os=w.os∧w'.tape=w.tape∧w'.output=w.output∧w.heap.size≤w'.heap.size)∧(∀k,k<w.heap.size→k≠b→tv.ownBlock≠some k→w'.heap[k]?=w.heap[k]?)∧(∀k,tv'.ownBlock=some k→tv.ownBlock=some k∨w.heap.size≤k)∧(cutT s=[]→tv'=.slice none 0 0)
theorem y2n (h:SAt w b t tl s chv tv) (hx:TAt w tv s.text) (ht:t≠5) (hW:1≤s.W∧s.W≤268435456) (hn:s.text.length≤1000000000000) (hp:s.place≤1000000000000) (hnil:s.text=[]→tv=.slice none 0 0)
  (xa:Option Addr) (c:Nat) (ys:List Nat) (hsrc:SrcB w xa c ys) (hy:ys.length≤1048576) (hap:tv.ownBlock≠some b) :
  Calls Tryz.prog 18 #[.pointer (some ⟨b,0,none⟩),.slice xa ys.length c] w (y1y b t tl (s.come ys) chv tv w):=by
 have HG:=qz (z3d h hW.1)
 have t1:¬ (1048576:Int)<(ys.length:Int):=by omega
 have c10:=h.c10
 have HX:=qz hx
 have HH:=qz h
 have HSR:=qz hsrc
 have HNIL:=qz hnil
 have HL:Hid (s.text.length+ys.length≤140737488355328):=qz (by omega)
 have HAP:=qz hap
 have HT:=qz ht
 have HWW:=qz hW
 have HP:=qz hp
 have HN:Hid (s.text.length+ys.length≤1099511627776):=qz (by omega)
 clear h hx hsrc hnil hap ht hW hp hn hy
 go_enter Tryz.func18,Tryz.ntmps18
 go_wp2_with fail
 refine (uh HG).mono ?_
 rintro e w1 ⟨rfl,rfl⟩
 obtain ⟨a0,cap,htv,hcap,hb⟩:=id (uh HX)
 subst htv
 clear hb hcap
 go_wp2_with (at_builtin;refine z6g rfl (.tmp 15) (.tmp 16) rfl (.slice a0 s.text.length cap) s.text (by simp [go_sem]) (uh HX) (uh HNIL) xa c ys (by simp [go_sem]) (uh HSR) (uh HL) ?_;intro v2 w2 h2;obtain ⟨a2,cap2,e2,hc2,_⟩:=id h2.tx;subst e2;have H2:=qz h2;clear h2)
 have h2s:SAt w2 b t tl s chv (.slice a0 s.text.length cap):=by
  unfold SAt
  rw [(uh H2).keep b (uh HH).lt (uh HAP)]
  exact uh HH
 have H2S:=qz h2s
 have HCM:=qz (h2s.come2 ⟨a0,cap,rfl⟩ a2 (s.text.length+ys.length) cap2 ys rfl (by have:=uh HL;omega) (by have:=uh HP;omega))
 clear h2s hc2
 refine (uh HCM).mono ?_
 rintro e w3 ⟨rfl,h3,hc3⟩
 have hx3:TAt w3 (.slice a2 (s.text.length+ys.length) cap2) (s.text++ys):=by
  have h0:=(uh H2).tx
  rw [List.length_append] at h0
  exact z2k h0 (uh H2S) (uh HT) hc3
 have HCT:=qz (h3.cut hx3 (uh HT) (uh HWW) (by show (s.text++ys).length≤_;rw [List.length_append];have:=uh HN;omega) (fun e=>by have:=(uh H2).nil e;rw [List.length_append] at this;exact this))
 have H3:=qz (And.intro h3 hc3)
 clear h3 hc3 hx3 HCM
 go_wp2_with fail
 refine (uh HCT).mono ?_
 rintro e w4 ⟨rfl,tv',k1,k2,k3,k4,k5⟩
 have HFIN:Hid (y1y b t tl (s.come ys) chv (.slice a0 s.text.length cap) w1 (.returned (.int .i64 0)) w4):=qz (by
  have h2:=uh H2
  have hc3:=(uh H3).2
  rw [List.length_append] at h2
  refine ⟨rfl,tv',k1,k2,⟨(k3.os.trans hc3.os).trans h2.os,(k3.tape.trans hc3.tape).trans h2.tape,(k3.output.trans hc3.output).trans h2.output,by have a:=h2.size;have b:=hc3.size;have c:=k3.size;omega⟩,fun k a b c=>?_,fun k e=>?_,k5⟩
  ·rw [k3.keep k (by have a:=h2.size;have b:=hc3.size;omega) b,hc3.keep k b,h2.keep k a c]
  ·rcases k4 k e with e1|e1
   ·exact h2.lies k e1
   ·exact .inr (by have a:=h2.size;have b:=hc3.size;omega))
 clear k1 k2 k3 k4 k5 HCT
 go_wp2_with fail
 go_ret
 exact uh HFIN
end
end D
end Go.Proofs.YtoicnlmfgembiaaGreat
