/- Texts of one proof, one behind the other: T6Mlev, T6New, T6NewW, T6Parsed, T6Exp, T6RefE, T6Same, T6TMem, T6Px, T6Pw, T6Parse, Ew, EwW, EwC, Wp. -/
import Derived.Test.YtabeanealkopbaaGreatDbqF

set_option linter.unusedVariables false
set_option maxRecDepth 100000
set_option maxHeartbeats 24000000
namespace Go.Proofs.YtabeanealkopbaaGreat
namespace T6
open Go.RowKit Go.Maps Go.Shelf
def mostAt (M0 N:Nat) (sz:Nat→Nat):Nat→Nat
 | 0=>M0
 | k+1=>min (mostAt M0 N sz k) (sz (N - 1 - k) - 1)
theorem mostAt_le (M0 N:Nat) (sz:Nat→Nat):∀ k,mostAt M0 N sz k≤M0
 | 0=>Nat.le_refl _
 | k+1=>by have:=mostAt_le M0 N sz k;rw [mostAt];omega
theorem mostAt_ge {M0 N K:Nat} {sz:Nat→Nat} (hd:∀ j,j+1<N→sz (j+1)=2*sz j) (h1:∀ j,j<N→1≤sz j) (h0:min (sz (N - 1)) K≤M0):∀ k,k<N→min (sz (N - 1 - k)) K≤mostAt M0 N sz k
 | 0,_=>h0
 | k+1,hk=>by
  have ih:=mostAt_ge hd h1 h0 k (by omega)
  have h2:=hd (N - 1 - (k+1)) (by omega)
  have h3:=h1 (N - 1 - (k+1)) (by omega)
  rw [show N - 1 - (k+1)+1=N - 1 - k by omega] at h2
  rw [mostAt]
  omega
theorem sz_le {N:Nat} {sz:Nat→Nat} (hd:∀ j,j+1<N→sz (j+1)=2*sz j):∀ j,j<N→sz 0≤sz j
 | 0,_=>Nat.le_refl _
 | j+1,h=>by have:=sz_le hd j (by omega);have:=hd j h;omega
structure MS (H gx p W M:Nat) (tx:Value) (y:World):Prop where
 c0:y.cell? ⟨H,0,none⟩=some (.pointer (some ⟨gx,0,none⟩))
 c1:y.cell? ⟨H+1,0,none⟩=some (.int .i64 (p:Int))
 x0:y.cell? ⟨gx,0,none⟩=some tx
 x1:y.cell? ⟨gx,1,none⟩=some (.int .i64 (W:Int))
 x2:y.cell? ⟨gx,2,none⟩=some (.int .i64 (M:Int))
theorem MS.same {H gx p W M:Nat} {tx:Value} {y z:World} (h:MS H gx p W M tx y) (e:z.heap=y.heap):MS H gx p W M tx z:=by
 have k:∀ a,z.cell? a=y.cell? a:=fun a=>World.cell?_of_block (by rw [e])
 exact ⟨by rw [k];exact h.c0,by rw [k];exact h.c1,by rw [k];exact h.x0,by rw [k];exact h.x1,by rw [k];exact h.x2⟩
theorem MS.alloc {H gx p W M:Nat} {tx:Value} {y:World} (h:MS H gx p W M tx y) (o:Obj):MS H gx p W M tx (y.alloc o):=by
 have hb:=(Below.refl y.heap.size y).alloc (Nat.le_refl _) o
 exact ⟨cell_stays hb h.c0,cell_stays hb h.c1,cell_stays hb h.x0,cell_stays hb h.x1,cell_stays hb h.x2⟩
theorem MS.set {H gx p W M k:Nat} {tx:Value} {y:World} (h:MS H gx p W M tx y) (hk:H+1<k) (hg:gx≠k) (u:Value):MS H gx p W M tx (y.setCell ⟨k,0,none⟩ u):=by
 have kp:∀ (g i:Nat),g≠k→(y.setCell ⟨k,0,none⟩ u).cell? ⟨g,i,none⟩=y.cell? ⟨g,i,none⟩:=fun g i hg=>World.cell?_of_block (heap_setCell_other _ _ _ _ (by exact hg))
 exact ⟨by rw [kp _ _ (by omega)];exact h.c0,by rw [kp _ _ (by omega)];exact h.c1,by rw [kp _ _ hg];exact h.x0,by rw [kp _ _ hg];exact h.x1,by rw [kp _ _ hg];exact h.x2⟩
structure MB (H b6 gx gl N lc p f Mk n d:Nat) (W:World):Prop where
 h0:W.heap[H]?=some (.cells #[.pointer (some ⟨gx,0,none⟩)] 119 (0,0))
 h1:W.heap[H+1]?=some (.cells #[.int .i64 (p:Int)] 3 (0,0))
 h2:W.heap[H+2]?=some (.cells #[.int .i64 (n:Int)] 3 (0,0))
 h3:W.heap[H+3]?=some (.cells #[.int .i64 (d:Int)] 3 (0,0))
 h6:W.heap[b6]?=some (.cells #[.int .i64 (f:Int)] 3 (0,0))
 h7:W.heap[b6+1]?=some (.cells #[.int .i64 (Mk:Int)] 3 (0,0))
 h8:W.heap[b6+2]?=some (.cells #[.slice (some ⟨gl,0,none⟩) N lc] 121 (0,0))
 le:H+4≤b6
structure KP (H b6:Nat) (W1 W:World):Prop where
 os:W.os=W1.os
 tape:W.tape=W1.tape
 output:W.output=W1.output
 size:b6+3≤W.heap.size
 kp:∀ x:Nat,x<b6→(x<H∨H+4≤x)→W.heap[x]?=W1.heap[x]?
theorem grown_low {W W':World} {row:Option Nat} {c:Nat} (hs:c≤W.heap.size) (hg:W.grownBy W' row) (hr:∀ r,row=some r→c≤r):∀ x,x<c→W'.heap[x]?=W.heap[x]?:=fun x hx=>hg.block x (by omega) (fun e=>by have:=hr x e.symm;omega)
theorem MB.keep {H b6 gx gl N lc p f Mk n d:Nat} {W W':World} (h:MB H b6 gx gl N lc p f Mk n d W) (hk:∀ x,x<b6+3→W'.heap[x]?=W.heap[x]?):MB H b6 gx gl N lc p f Mk n d W':=by
 have hl:=h.le
 exact ⟨by rw [hk _ (by omega)];exact h.h0,by rw [hk _ (by omega)];exact h.h1,by rw [hk _ (by omega)];exact h.h2,by rw [hk _ (by omega)];exact h.h3,by rw [hk _ (by omega)];exact h.h6,by rw [hk _ (by omega)];exact h.h7,by rw [hk _ (by omega)];exact h.h8,hl⟩
theorem KP.keep {H b6:Nat} {W1 W W':World} (h:KP H b6 W1 W) (ho:W'.os=W.os) (ht:W'.tape=W.tape) (hu:W'.output=W.output) (hs:W.heap.size≤W'.heap.size) (hk:∀ x,x<b6→(x<H∨H+4≤x)→W'.heap[x]?=W.heap[x]?):KP H b6 W1 W' :=
 ⟨ho.trans h.os,ht.trans h.tape,hu.trans h.output,by have:=h.size;omega,fun x hx hd=>by rw [hk x hx hd];exact h.kp x hx hd⟩
attribute [local go_sem ↓] wp_at_zero wp_at_succ
attribute [local go_sem] Oper.semAt_some
structure SameW (x y:World):Prop where
 heap:y.heap=x.heap
 os:y.os=x.os
 tape:y.tape=x.tape
 output:y.output=x.output
theorem SameW.cell {x y:World} (h:SameW x y) (a:Addr):y.cell? a=x.cell? a:=World.cell?_of_block (by rw [h.heap])
theorem SameW.frozen {x y:World} (h:SameW x y) (a:Addr):y.frozen? a=x.frozen? a:=by simp [World.frozen?,h.heap]
def MRes (zs:List Nat) (p u M0 s0 n d:Nat):Prop:=IsBest (zf zs) p u M0 n d∨(n=0∧d=0∧(NoneIn (zf zs) p u s0∨zs.length<p+s0))
def MIs (zs:List Nat) (H b6 gx gl N lc p f u m0:Nat) (sz:Nat→Nat) (W1:World) (k:Nat) (W:World):Prop:=MB H b6 gx gl N lc p f (mostAt m0 N sz k) 0 0 W∧KP H b6 W1 W∧Hid (mostAt m0 N sz k<m0→NoneIn (zf zs) p u (mostAt m0 N sz k+1))
def MXs (zs:List Nat) (H b6 p u m0:Nat) (W1:World) (W:World):Prop:=∃ n d:Nat,W.heap[H+2]?=some (.cells #[.int .i64 (n:Int)] 3 (0,0))∧W.heap[H+3]?=some (.cells #[.int .i64 (d:Int)] 3 (0,0))∧IsBest (zf zs) p u m0 n d∧KP H b6 W1 W
theorem KP.two {H b6:Nat} {W1 W:World} (h:KP H b6 W1 W) (n d:Int):KP H b6 W1 ((W.setCell ⟨H+2,0,none⟩ (.int .i64 n)).setCell ⟨H+3,0,none⟩ (.int .i64 d)) :=
 h.keep rfl rfl rfl (by simp) (fun x hx hd=>by rw [heap_setCell_other _ _ _ _ (by show x≠H+3;omega),heap_setCell_other _ _ _ _ (by show x≠H+2;omega)])
theorem two_cells {H:Nat} {W:World} {x y:Value} (h2:W.heap[H+2]?=some (.cells #[x] 3 (0,0))) (h3:W.heap[H+3]?=some (.cells #[y] 3 (0,0))) (n d:Value) :
  ((W.setCell ⟨H+2,0,none⟩ n).setCell ⟨H+3,0,none⟩ d).heap[H+2]?=some (.cells #[n] 3 (0,0))∧((W.setCell ⟨H+2,0,none⟩ n).setCell ⟨H+3,0,none⟩ d).heap[H+3]?=some (.cells #[d] 3 (0,0))∧∀ k,k≠H+2→k≠H+3→((W.setCell ⟨H+2,0,none⟩ n).setCell ⟨H+3,0,none⟩ d).heap[k]?=W.heap[k]?:=by
 refine ⟨?_,?_,fun k e1 e2=>by rw [heap_setCell_other _ _ _ _ (by exact e2),heap_setCell_other _ _ _ _ (by exact e1)]⟩
 ·rw [heap_setCell_other _ _ _ _ (by show H+2≠H+3;omega),heap_setCell_same W (H+2) 0 _ 3 _ h2];rfl
 ·rw [heap_setCell_same _ (H+3) 0 #[y] 3 _ (by rw [heap_setCell_other _ _ _ _ (by show H+3≠H+2;omega)];exact h3)];rfl
theorem none_left {zs:List Nat} {p u M M0 N:Nat} {sz:Nat→Nat} (hM0:M0=min M (zs.length - p)) (hN:1≤N) (h1:1≤sz 0) (hsM:sz 0≤M) (h:mostAt M0 N sz N<M0→NoneIn (zf zs) p u (mostAt M0 N sz N+1)):NoneIn (zf zs) p u (sz 0)∨zs.length<p+sz 0:=by
 obtain ⟨k,rfl⟩:∃ k,N=k+1:=⟨N - 1,by omega⟩
 have hm:mostAt M0 (k+1) sz (k+1)≤sz 0 - 1:=by
  rw [mostAt,show k+1 - 1 - k=0 by omega]
  omega
 by_cases hc:mostAt M0 (k+1) sz (k+1)<M0
 ·exact .inl ((h hc).mono (by omega))
 ·exact .inr (by omega)
theorem match_end {zs:List Nat} {B N:Nat} {sz b:Nat→Nat} {v:Nat→Value} {m:Nat→Nat} {gx gl lc W M p H b6 n d D:Nat} {tx:Value} {w W1 Wz:World} (hx:IdxAt zs B N sz b v m gx gl lc W M p tx W1) (hk:Keeps B [3,123,162] w W1) (hH:H=w.heap.size) (hb:H+4≤b6) (hgx:gx<H) (hgl:gl<H) (hbj:∀ j,j<N→b j<H)
  (hrow:∀ j q,j<N→(v j).ownBlock=some q→q<b6∧(q<H∨H+4≤q)) (hkp:KP H b6 W1 Wz) (h2:Wz.heap[H+2]?=some (.cells #[.int .i64 (n:Int)] 3 (0,0))) (h3:Wz.heap[H+3]?=some (.cells #[.int .i64 (d:Int)] 3 (0,0))) (hD:Wz.heap[D]?=some (.deferred (some []))) (hDb:b6+3≤D) :
  Wz.heap[D]?=some (.deferred (some []))∧((Wz.putObj D (.deferred none)).cell? ⟨H+2,0,none⟩=some (.int .i64 (n:Int))∧(Wz.putObj D (.deferred none)).cell? ⟨H+3,0,none⟩=some (.int .i64 (d:Int)))∧IdxAt zs B N sz b v m gx gl lc W M p tx (Wz.putObj D (.deferred none))∧Keeps B [3,123,162] w (Wz.putObj D (.deferred none)):=by
 have hg:=grownBy_putObj' Wz D (.deferred none)
 have kk:∀ x,x<b6+3→(Wz.putObj D (.deferred none)).heap[x]?=Wz.heap[x]?:=grown_low hkp.size hg (fun r e=>by injection e with e;omega)
 have k1:∀ x,x<b6→(x<H∨H+4≤x)→(Wz.putObj D (.deferred none)).heap[x]?=W1.heap[x]?:=fun x hx hd=>by rw [kk x (by omega),hkp.kp x hx hd]
 refine ⟨hD,⟨?_,?_⟩,⟨?_,?_,hx.xB⟩,⟨?_,?_,?_,?_,fun x hx hB=>?_,fun x cs t f hx ht=>?_⟩⟩
 ·rw [World.cell?_of_block (kk (H+2) (by omega))];simp [World.cell?,h2]
 ·rw [World.cell?_of_block (kk (H+3) (by omega))];simp [World.cell?,h3]
 ·rw [k1 gx (by omega) (.inl hgx)];exact hx.xb
 ·exact hx.lvs.kept (k1 gl (by omega) (.inl hgl)) (fun j hj=>k1 _ (by have:=hbj j hj;omega) (.inl (hbj j hj))) (fun j q hj hq=>k1 q (hrow j q hj hq).1 (hrow j q hj hq).2)
 ·rw [hg.os,hkp.os];exact hk.os
 ·rw [hg.tape,hkp.tape];exact hk.tape
 ·rw [hg.output,hkp.output];exact hk.output
 ·have:=hg.size;have:=hkp.size;omega
 ·rw [k1 x (by omega) (.inl (by omega))];exact hk.low x hx hB
 ·have:=heap_lt hx
  rw [k1 x (by omega) (.inl (by omega))];exact hk.typ x cs t f hx ht
def MatchedIs (zs:List Nat) (B N:Nat) (sz b:Nat→Nat) (gx gl lc W M p u M0:Nat) (tx:Value) (w:World) (e:Ending) (w':World):Prop :=
 ∃ n d:Nat,e=.returned (.tuple #[.int .i64 (n:Int),.int .i64 (d:Int)])∧MRes zs p u M0 (sz 0) n d∧(∃ v,IdxAt zs B N sz b v (fun j=>cnt zs.length (sz j) p) gx gl lc W M p tx w')∧Keeps B [3,123,162] w w'
theorem match_lev (zs:List Nat) (B N:Nat) (sz b:Nat→Nat) (v0:Nat→Value) (gx gl lc W M f0 p cap ba off:Nat) (w:World) (hN:N≤4) (hN1:1≤N) (hlc:N≤lc) (hsz:∀ j,j<N→1≤sz j∧sz j≤8) (hsd:∀ j,j+1<N→sz (j+1)=2*sz j) (hsM:sz (N - 1)≤M) (hr:ReadsU B w (.slice (some ⟨ba,off,none⟩) zs.length cap) zs) (hcap:zs.length≤cap) (hz:∀ c∈zs,c<256) (hp:p<zs.length) (hf:f0≤p) (hl:zs.length≤100000000) (hB:B≤w.heap.size) (hB0:0<B) (hW:W≤9223372036854775807) (hM:M≤9223372036854775807)
  (hx:IdxAt zs B N sz b v0 (fun j=>cnt zs.length (sz j) f0) gx gl lc W M f0 (.slice (some ⟨ba,off,none⟩) zs.length cap) w) (hm:ML w) :
  Calls Tryz.prog 65 #[.pointer (some ⟨gx,0,none⟩),.int .i64 (p:Int)] w fun e w'=>MatchedIs zs B N sz b gx gl lc W M p (min p W) (min M (zs.length - p)) (.slice (some ⟨ba,off,none⟩) zs.length cap) w e w':=by
 obtain ⟨H,hH⟩:∃ H,H=w.heap.size:=⟨_,rfl⟩
 have HHW:=qz hH
 have hgxH:gx<H:=by rw [hH];exact heap_lt hx.xb
 have hglH:gl<H:=by obtain ⟨cs,hcs⟩:=hx.lvs.blk;rw [hH];exact heap_lt hcs
 have HBJ:Hid (∀ j,j<N→b j<H):=qz fun j hj=>by obtain ⟨es,ck,hb⟩:=(hx.lvs.lv j hj).mp.is;rw [hH];exact heap_lt hb
 have HX:=qz hx
 have HR:=qz hr
 have HZ:=qz hz
 have HML:=qz hm
 have HSZ:=qz hsz
 have HSD:=qz hsd
 have HSZM:Hid (sz 0≤sz (N - 1)):=qz (sz_le hsd (N - 1) (by omega))
 have hBH:B≤H:=by rw [hH];exact hB
 obtain ⟨L,htx⟩:∃ L,L=zs.length:=⟨_,rfl⟩
 rw [← htx] at HX HR hcap hl hp ⊢
 have HTX:=qz htx
 obtain ⟨m0,hm0⟩:∃ m0,m0=min M (L - p):=⟨_,rfl⟩
 obtain ⟨u,hu⟩:∃ u,u=min p W:=⟨_,rfl⟩
 rw [← hm0,← hu]
 have HU:=qz hu
 have HM0:=qz hm0
 have m1:=run_min_nat (A:=(p:Int)) (B:=(W:Int)) rfl rfl hu
 have m2:=run_min_nat (A:=(M:Int)) (B:=(L:Int) - (p:Int)) rfl (by omega) hm0
 obtain ⟨f,hff⟩:∃ f:Nat,(p:Int) - (u:Int)=(f:Int):=⟨p - u,by omega⟩
 have hwf:IntKind.i64.wrap (f:Int)=(f:Int):=IntWalk.i64_in _ (by omega)
 have hwL:IntKind.i64.wrap ((L:Int) - (p:Int))=(L:Int) - (p:Int):=IntWalk.i64_in _ (by omega)
 have HF:Hid (f=p - u):=qz (by omega)
 have hm0L:m0≤L - p:=by omega
 have hN0:((N:Int) == 0)=false:=by simp;omega
 clear hu hm0
 obtain ⟨W4,hW4⟩:∃ W4,W4=(((w.alloc (.cells #[.pointer (some ⟨gx,0,none⟩)] 119)).alloc (.cells #[.int .i64 (p:Int)] 3)).alloc (.cells #[.int .i64 0] 3)).alloc (.cells #[.int .i64 0] 3):=⟨_,rfl⟩
 have HA:Hid (W4.heap[H]?=some (.cells #[.pointer (some ⟨gx,0,none⟩)] 119 (0,0))∧W4.heap[H+1]?=some (.cells #[.int .i64 (p:Int)] 3 (0,0))∧W4.heap[H+2]?=some (.cells #[.int .i64 ((0:Nat):Int)] 3 (0,0))∧W4.heap[H+3]?=some (.cells #[.int .i64 ((0:Nat):Int)] 3 (0,0))):=qz (by
  rw [hW4,hH]
  refine ⟨?_,?_,?_,?_⟩ <;> simp only [heap_alloc_at,World.size_alloc] <;> (repeat (first | rw [if_pos (by omega)] | rw [if_neg (by omega)])) <;> rfl)
 have HBL:Hid (Below H w W4):=qz (by
  rw [hW4]
  exact ((((Below.refl _ _).alloc (by omega) _).alloc (by simp;omega) _).alloc (by simp;omega) _).alloc (by simp;omega) _)
 have HS4:Hid (W4.heap.size=H+4):=qz (by rw [hW4,hH];simp)
 have hx4:IdxAt zs B N sz b v0 (fun j=>cnt L (sz j) f0) gx gl lc W M f0 (.slice (some ⟨ba,off,none⟩) L cap) W4:=(uh HX).grown (fun i hi=>(uh HBL).block i (by rw [hH];exact hi))
 have c3:=hx4.x3
 have c0:W4.cell? ⟨H,0,none⟩=some (.pointer (some ⟨gx,0,none⟩)):=by simp [World.cell?,(uh HA).1]
 have c1:W4.cell? ⟨H+1,0,none⟩=some (.int .i64 (p:Int)):=by simp [World.cell?,(uh HA).2.1]
 have HFC:=qz (fill_ok (fun x=>H≤x∧x<H+4) zs B N sz b v0 gx gl lc W M f0 p cap ba off W4 hN hlc (uh HSZ) (by
   have h:=uh HR
   rw [uh HTX] at h
   exact h.stays ⟨(uh HBL).os,(uh HBL).tape,(uh HBL).output,(uh HBL).size,fun k hk=>(uh HBL).block k (by omega)⟩) (by rw [← uh HTX];exact hcap) (uh HZ) (by rw [← uh HTX];omega) hf (by rw [← uh HTX];exact hl) (by rw [uh HS4];omega) (by rw [← uh HTX];exact hx4) (fun x hx=>by
   refine ⟨by rw [uh HS4];exact hx.2,by omega,by omega,fun j hj=>⟨by have:=uh HBJ j hj;omega,fun e=>?_⟩⟩
   obtain ⟨_,cs,ff,hh⟩:=own_base ((uh HX).lvs.lv j hj).row e
   have:=heap_lt hh
   omega))
 rw [← uh HTX] at HFC
 clear hx hr hz hm hsz hsd htx hx4 hH
 refine (callsIn_wide (n:=4)).1 (callsIn_of_wp_marks Tryz.func65 rfl trivial (wpIn_wide.2 ?_) rfl)
 simp only [Tryz.ntmps65,List.size_toArray,List.length_cons,List.length_nil,Nat.reduceAdd,Nat.reduceSub,Array.replicate_succ,Array.replicate_zero,List.push_toArray,List.append_toArray,List.nil_append,List.cons_append]
 go_upto_region 1 with fail
 have e3:w.heap.size+1+1+1=H+3:=by rw [uh HHW]
 have e2:w.heap.size+1+1=H+2:=by rw [uh HHW]
 have e1:w.heap.size+1=H+1:=by rw [uh HHW]
 have e0:w.heap.size=H:=(uh HHW).symm
 rw [e3,e2,e1,e0,← hW4]
 clear hW4 e0 e1 e2 e3
 go_wp2_with fail
 refine (uh HFC).mono ?_
 rintro e W1 ⟨rfl,⟨v,hx1,hap⟩,hk1,hT1⟩
 obtain ⟨b6,hb6⟩:∃ b6,b6=W1.heap.size:=⟨_,rfl⟩
 have hHb:H+4≤b6:=by have:=hk1.size;rw [uh HS4] at this;omega
 have HA1:Hid (W1.heap[H]?=some (.cells #[.pointer (some ⟨gx,0,none⟩)] 119 (0,0))∧W1.heap[H+1]?=some (.cells #[.int .i64 (p:Int)] 3 (0,0))∧W1.heap[H+2]?=some (.cells #[.int .i64 ((0:Nat):Int)] 3 (0,0))∧W1.heap[H+3]?=some (.cells #[.int .i64 ((0:Nat):Int)] 3 (0,0))):=qz (by
  have h:=uh HA
  refine ⟨?_,?_,?_,?_⟩
  ·rw [hT1 _ (by omega)];exact h.1
  ·rw [hT1 _ (by omega)];exact h.2.1
  ·rw [hT1 _ (by omega)];exact h.2.2.1
  ·rw [hT1 _ (by omega)];exact h.2.2.2)
 have HSW1:Hid (MS H gx p W M (.slice (some ⟨ba,off,none⟩) L cap) W1):=qz ⟨by simp [World.cell?,(uh HA1).1],by simp [World.cell?,(uh HA1).2.1],hx1.x0,hx1.x1,hx1.x2⟩
 have HSZW1:Hid (W1.heap.size=b6):=qz hb6.symm
 have HKW1:Hid (Keeps B [3,123,162] w W1):=qz (Keeps.trans (Keeps.of_below (by rw [← uh HHW];exact uh HBL)) hk1)
 have HROW:Hid (∀ j q,j<N→(v j).ownBlock=some q→q<b6∧(q<H∨H+4≤q)):=qz fun j q hj hq=>by
  obtain ⟨_,cs,ff,hh⟩:=own_base (hx1.lvs.lv j hj).row hq
  have h1:=heap_lt hh
  refine ⟨by omega,?_⟩
  rcases Nat.lt_or_ge q H with h | h
  ·exact .inl h
  ·refine .inr (Nat.le_of_not_lt fun h2=>?_)
   exact ((hap q ⟨h,h2⟩).2.2.2 j hj).2 hq
 have HVS:Hid (∀ j,j<N→∃ va vn vc,v j=.slice va vn vc):=qz fun j hj=>by
  rcases (hx1.lvs.lv j hj).row.2 with ⟨e,_⟩ | ⟨g,cap,cur,e,_⟩
  ·exact ⟨_,_,_,e⟩
  ·exact ⟨_,_,_,e⟩
 have HML1:Hid (ML W1):=qz (by
  obtain ⟨mm,hmm⟩:=uh HML
  have h0:=cell_lt hmm
  refine ⟨mm,?_⟩
  rw [World.cell?_of_block ((uh HKW1).low 0 h0 hB0)]
  exact hmm)
 have HX1:=qz hx1
 clear hb6 hx1 hap hk1 hT1 c0 c1 c3 HA HBL HS4 HFC HX
 go_upto_region 4 with fail
 refine wp_region_noPanic ?_
 refine wp_region_held_drew (S:=MS H gx p W M (.slice (some ⟨ba,off,none⟩) L cap)) (by kernel_rfl) ((uh HSW1).same rfl) (fun hHeld=>?_)
 refine hT 0 39 rfl rfl hHeld nPp (v:=?_) (fun x' hSx=>?_) ?_
 rotate_left 1
 ·(obtain ⟨q1,q2,q3,q4,q5⟩:=hSx;go_simp <;> with_reducible rfl)
 simp only [sA,sB]
 refine hT 1 40 rfl rfl hHeld nPp (v:=?_) (fun x' hSx=>?_) ?_
 rotate_left 1
 ·(obtain ⟨q1,q2,q3,q4,q5⟩:=hSx;go_simp <;> with_reducible rfl)
 simp only [sA,sB]
 refine hT 2 41 rfl rfl hHeld nPp (v:=?_) (fun x' hSx=>?_) ?_
 rotate_left 1
 ·(obtain ⟨q1,q2,q3,q4,q5⟩:=hSx;go_simp <;> with_reducible rfl)
 simp only [sA,sB]
 refine hT 3 42 rfl rfl hHeld nPp (v:=?_) (fun x' hSx=>?_) ?_
 rotate_left 1
 ·(obtain ⟨q1,q2,q3,q4,q5⟩:=hSx;go_simp <;> with_reducible rfl)
 simp only [sA,sB]
 refine hT 4 43 rfl rfl hHeld nPp (v:=?_) (fun x' hSx=>?_) ?_
 rotate_left 1
 ·(obtain ⟨q1,q2,q3,q4,q5⟩:=hSx;go_simp <;> with_reducible rfl)
 simp only [sA,sB]
 refine hT 5 44 rfl rfl hHeld nPp (v:=?_) (fun x' hSx=>?_) ?_
 rotate_left 1
 ·(obtain ⟨q1,q2,q3,q4,q5⟩:=hSx;go_simp <;> with_reducible rfl)
 simp only [sA,sB]
 refine hT 6 45 rfl rfl hHeld nPp (v:=?_) (fun x' hSx=>?_) ?_
 rotate_left 1
 ·(obtain ⟨q1,q2,q3,q4,q5⟩:=hSx;go_simp <;> with_reducible rfl)
 simp only [sA,sB]
 refine hT 7 46 rfl rfl hHeld nPp (v:=?_) (fun x' hSx=>?_) ?_
 rotate_left 1
 ·(obtain ⟨q1,q2,q3,q4,q5⟩:=hSx;go_simp <;> with_reducible rfl)
 simp only [sA,sB]
 obtain ⟨Wd,hWd⟩:∃ Wd,Wd=W1.drew:=⟨_,rfl⟩
 rw [← hWd] at hHeld ⊢
 have HHd:Hid (Wd.heap.size=b6):=qz (by rw [hWd];exact uh HSZW1)
 have HWd:Hid (Wd.heap=W1.heap∧Wd.os=W1.os∧Wd.tape=W1.tape∧Wd.output=W1.output):=qz (by rw [hWd];exact ⟨rfl,rfl,rfl,rfl⟩)
 clear hWd
 refine held_one 8 6 (by kernel_rfl) rfl rfl (by rfl) (v:=.pointer (some ⟨Wd.heap.size,0,none⟩)) (w':=Wd.alloc (.cells #[.int .i64 0] 3)) ?_ (hHeld.alloc _) ?_
 ·go_simp <;> exact ⟨rfl,rfl⟩
 simp only [sA,sB]
 rw [uh HHd]
 have hS2:=(hHeld.alloc (.cells #[.int .i64 0] 3)).set (k:=b6) (by omega) (by omega) (.int .i64 (f:Int))
 refine held_skip 9 (by kernel_rfl) rfl rfl (by rfl) (w':=(Wd.alloc (.cells #[.int .i64 0] 3)).setCell ⟨b6,0,none⟩ (.int .i64 (f:Int))) ?_ hS2 ?_
 ·(have q1:(Wd.alloc (.cells #[.int .i64 0] 3)).cell? ⟨b6,0,none⟩=some (.int .i64 0):=(by rw [← uh HHd];exact new_int _ _);have q2:(Wd.alloc (.cells #[.int .i64 0] 3)).frozen? ⟨b6,0,none⟩=false:=(by rw [← uh HHd];simp only [World.frozen?,heap_alloc_new];simp);go_simp)
 refine wpAnyH_done (by kernel_rfl) ?_ _
 refine NoPanic.normal ?_
 obtain ⟨W2,hW2⟩:∃ W2,W2=(Wd.alloc (.cells #[.int .i64 0] 3)).setCell ⟨b6,0,none⟩ (.int .i64 (f:Int)):=⟨_,rfl⟩
 rw [← hW2] at hS2 ⊢
 have HSW2:=qz hS2
 have HBW2:Hid (W2.heap[b6]?=some (.cells #[.int .i64 (f:Int)] 3 (0,0))∧(∀ x,x<b6→W2.heap[x]?=W1.heap[x]?)∧W2.os=W1.os∧W2.tape=W1.tape∧W2.output=W1.output):=qz (by
  refine ⟨?_,fun x hx=>?_,?_,?_,?_⟩
  ·rw [hW2,heap_setCell_same _ (b6) 0 #[.int .i64 0] 3 _ (by rw [← uh HHd];exact heap_alloc_new _ _)];rfl
  ·rw [hW2,heap_setCell_other _ _ _ _ (by show x≠b6;omega),Below.heap_alloc _ _ _ (by rw [uh HHd];exact hx),(uh HWd).1]
  ·rw [hW2];exact (uh HWd).2.1
  ·rw [hW2];exact (uh HWd).2.2.1
  ·rw [hW2];exact (uh HWd).2.2.2)
 have HSZW2:Hid (W2.heap.size=b6+1):=qz (by rw [hW2];simp [uh HHd])
 clear hW2 hHeld hS2 HHd HWd HSW1 HSZW1
 go_upto_region 5 with fail
 refine wp_region_noPanic ?_
 refine wp_region_held_drew (S:=MS H gx p W M (.slice (some ⟨ba,off,none⟩) L cap)) (by kernel_rfl) ((uh HSW2).same rfl) (fun hHeld=>?_)
 refine hT 0 47 rfl rfl hHeld nPp (v:=?_) (fun x' hSx=>?_) ?_
 rotate_left 1
 ·(obtain ⟨q1,q2,q3,q4,q5⟩:=hSx;go_simp <;> with_reducible rfl)
 simp only [sA,sB]
 refine hT 1 48 rfl rfl hHeld nPp (v:=?_) (fun x' hSx=>?_) ?_
 rotate_left 1
 ·(obtain ⟨q1,q2,q3,q4,q5⟩:=hSx;go_simp <;> with_reducible rfl)
 simp only [sA,sB]
 refine hT 2 49 rfl rfl hHeld nPp (v:=?_) (fun x' hSx=>?_) ?_
 rotate_left 1
 ·(obtain ⟨q1,q2,q3,q4,q5⟩:=hSx;go_simp <;> with_reducible rfl)
 simp only [sA,sB]
 refine hT 3 50 rfl rfl hHeld nPp (v:=?_) (fun x' hSx=>?_) ?_
 rotate_left 1
 ·(obtain ⟨q1,q2,q3,q4,q5⟩:=hSx;go_simp <;> with_reducible rfl)
 simp only [sA,sB]
 refine hT 4 51 rfl rfl hHeld nPp (v:=?_) (fun x' hSx=>?_) ?_
 rotate_left 1
 ·(obtain ⟨q1,q2,q3,q4,q5⟩:=hSx;go_simp <;> with_reducible rfl)
 simp only [sA,sB]
 refine hT 5 52 rfl rfl hHeld nPp (v:=?_) (fun x' hSx=>?_) ?_
 rotate_left 1
 ·(obtain ⟨q1,q2,q3,q4,q5⟩:=hSx;go_simp <;> with_reducible rfl)
 simp only [sA,sB]
 refine hT 6 53 rfl rfl hHeld nPp (v:=?_) (fun x' hSx=>?_) ?_
 rotate_left 1
 ·(obtain ⟨q1,q2,q3,q4,q5⟩:=hSx;go_simp <;> with_reducible rfl)
 simp only [sA,sB]
 refine hT 7 54 rfl rfl hHeld nPp (v:=?_) (fun x' hSx=>?_) ?_
 rotate_left 1
 ·(obtain ⟨q1,q2,q3,q4,q5⟩:=hSx;go_simp <;> with_reducible rfl)
 simp only [sA,sB]
 refine hT 8 55 rfl rfl hHeld nPp (v:=?_) (fun x' hSx=>?_) ?_
 rotate_left 1
 ·(obtain ⟨q1,q2,q3,q4,q5⟩:=hSx;go_simp <;> with_reducible rfl)
 simp only [sA,sB]
 refine hT 9 56 rfl rfl hHeld nPp (v:=?_) (fun x' hSx=>?_) ?_
 rotate_left 1
 ·(obtain ⟨q1,q2,q3,q4,q5⟩:=hSx;go_simp <;> with_reducible rfl)
 simp only [sA,sB]
 refine hT 10 57 rfl rfl hHeld nPp (v:=?_) (fun x' hSx=>?_) ?_
 rotate_left 1
 ·(obtain ⟨q1,q2,q3,q4,q5⟩:=hSx;go_simp <;> with_reducible rfl)
 simp only [sA,sB]
 refine hT 11 58 rfl rfl hHeld nPp (v:=?_) (fun x' hSx=>?_) ?_
 rotate_left 1
 ·(obtain ⟨q1,q2,q3,q4,q5⟩:=hSx;go_simp <;> with_reducible rfl)
 simp only [sA,sB]
 obtain ⟨Wd,hWd⟩:∃ Wd,Wd=W2.drew:=⟨_,rfl⟩
 rw [← hWd] at hHeld ⊢
 have HHd:Hid (Wd.heap.size=b6+1):=qz (by rw [hWd];exact uh HSZW2)
 have HWd:Hid (Wd.heap=W2.heap∧Wd.os=W2.os∧Wd.tape=W2.tape∧Wd.output=W2.output):=qz (by rw [hWd];exact ⟨rfl,rfl,rfl,rfl⟩)
 clear hWd
 refine held_one 12 7 (by kernel_rfl) rfl rfl (by rfl) (v:=.pointer (some ⟨Wd.heap.size,0,none⟩)) (w':=Wd.alloc (.cells #[.int .i64 0] 3)) ?_ (hHeld.alloc _) ?_
 ·go_simp <;> exact ⟨rfl,rfl⟩
 simp only [sA,sB]
 rw [uh HHd]
 have hS2:=(hHeld.alloc (.cells #[.int .i64 0] 3)).set (k:=b6+1) (by omega) (by omega) (.int .i64 (m0:Int))
 refine held_skip 13 (by kernel_rfl) rfl rfl (by rfl) (w':=(Wd.alloc (.cells #[.int .i64 0] 3)).setCell ⟨b6+1,0,none⟩ (.int .i64 (m0:Int))) ?_ hS2 ?_
 ·(have q1:(Wd.alloc (.cells #[.int .i64 0] 3)).cell? ⟨b6+1,0,none⟩=some (.int .i64 0):=(by rw [← uh HHd];exact new_int _ _);have q2:(Wd.alloc (.cells #[.int .i64 0] 3)).frozen? ⟨b6+1,0,none⟩=false:=(by rw [← uh HHd];simp only [World.frozen?,heap_alloc_new];simp);go_simp)
 refine wpAnyH_done (by kernel_rfl) ?_ _
 refine NoPanic.normal ?_
 obtain ⟨W3,hW3⟩:∃ W3,W3=(Wd.alloc (.cells #[.int .i64 0] 3)).setCell ⟨b6+1,0,none⟩ (.int .i64 (m0:Int)):=⟨_,rfl⟩
 rw [← hW3] at hS2 ⊢
 have HSW3:=qz hS2
 have HBW3:Hid (W3.heap[b6+1]?=some (.cells #[.int .i64 (m0:Int)] 3 (0,0))∧(∀ x,x<b6+1→W3.heap[x]?=W2.heap[x]?)∧W3.os=W2.os∧W3.tape=W2.tape∧W3.output=W2.output):=qz (by
  refine ⟨?_,fun x hx=>?_,?_,?_,?_⟩
  ·rw [hW3,heap_setCell_same _ (b6+1) 0 #[.int .i64 0] 3 _ (by rw [← uh HHd];exact heap_alloc_new _ _)];rfl
  ·rw [hW3,heap_setCell_other _ _ _ _ (by show x≠b6+1;omega),Below.heap_alloc _ _ _ (by rw [uh HHd];exact hx),(uh HWd).1]
  ·rw [hW3];exact (uh HWd).2.1
  ·rw [hW3];exact (uh HWd).2.2.1
  ·rw [hW3];exact (uh HWd).2.2.2)
 have HSZW3:Hid (W3.heap.size=b6+1+1):=qz (by rw [hW3];simp [uh HHd])
 clear hW3 hHeld hS2 HHd HWd HSW2 HSZW2
 have c0:=(uh HSW3).c0
 have c3:W3.cell? ⟨gx,3,none⟩=some (.slice (some ⟨gl,0,none⟩) N lc):=by
  rw [World.cell?_of_block ((uh HBW3).2.1 gx (by omega)),World.cell?_of_block ((uh HBW2).2.1 gx (by omega))]
  exact (uh HX1).x3
 go_wp2_with fail
 refine (back_ok _ _ _ _).mono ?_
 rintro e W5 ⟨rfl,hW5⟩
 rw [uh HSZW3]
 have HMB0:Hid (MB H b6 gx gl N lc p f m0 0 0 W5):=qz (by
  have k3:∀ x,x<b6+2→W5.heap[x]?=W3.heap[x]?:=fun x hx=>by rw [hW5,heap_alloc_at,if_neg (by rw [uh HSZW3];omega)]
  have k2:∀ x,x<b6→W5.heap[x]?=W1.heap[x]?:=fun x hx=>by rw [k3 x (by omega),(uh HBW3).2.1 x (by omega),(uh HBW2).2.1 x hx]
  have h:=uh HA1
  refine ⟨by rw [k2 _ (by omega)];exact h.1,by rw [k2 _ (by omega)];exact h.2.1,by rw [k2 _ (by omega)];exact h.2.2.1,by rw [k2 _ (by omega)];exact h.2.2.2,by rw [k3 _ (by omega),(uh HBW3).2.1 _ (by omega)];exact (uh HBW2).1,by rw [k3 _ (by omega)];exact (uh HBW3).1,?_,hHb⟩
  rw [hW5,heap_alloc_at,if_pos (by rw [uh HSZW3])])
 have HKP0:Hid (KP H b6 W1 W5):=qz (by
  have k3:∀ x,x<b6+2→W5.heap[x]?=W3.heap[x]?:=fun x hx=>by rw [hW5,heap_alloc_at,if_neg (by rw [uh HSZW3];omega)]
  refine ⟨?_,?_,?_,?_,fun x hx _=>by rw [k3 x (by omega),(uh HBW3).2.1 x (by omega),(uh HBW2).2.1 x hx]⟩
  ·rw [hW5];exact (uh HBW3).2.2.1.trans (uh HBW2).2.2.1
  ·rw [hW5];exact (uh HBW3).2.2.2.1.trans (uh HBW2).2.2.2.1
  ·rw [hW5];exact (uh HBW3).2.2.2.2.trans (uh HBW2).2.2.2.2
  ·rw [hW5,World.size_alloc,uh HSZW3];omega)
 have HS5:Hid (W5.heap.size=b6+3):=qz (by rw [hW5,World.size_alloc,uh HSZW3])
 clear hW5 c0 c3 HSW3 HSZW3 HBW3 HBW2 HA1
 go_wp2_with fail
 rw [show b6+1+1=b6+2 from rfl]
 refine (wpIn_wide (n:=4)).1 ?_
 have hm1:Tryz.prog.follows .mixedOrders=true:=by kernel_rfl
 refine range_stop (F:=Fence.wide) rfl (by omega) (gf:=126) (lb:=#[.pointer (some ⟨b6+2,0,none⟩)]) rfl trivial (enters_of Tryz.func126 (by kernel_rfl) rfl) (encB N (fun j=>.int .i64 (sz j:Int)) (fun j=>.map (some (b j))) v) N (fun _=>rfl)
  (fun k W=>MIs zs H b6 gx gl N lc p f u m0 sz W1 k W)
  (fun W=>MXs zs H b6 p u m0 W1 W)
  (fun k W W' row h hg hr=>by
   have kk:=grown_low h.2.1.size hg (fun r e=>by have:=(hr r e).1;rw [uh HS5] at this;exact this)
   exact ⟨h.1.keep kk,h.2.1.keep hg.os hg.tape hg.output hg.size (fun x hx _=>kk x (by omega)),h.2.2⟩)
  (fun _ W W' row h hg hr=>by
   obtain ⟨n,d,h2,h3,hb,hk⟩:=h
   have kk:=grown_low hk.size hg (fun r e=>by have:=(hr r e).1;rw [uh HS5] at this;exact this)
   exact ⟨n,d,by rw [kk _ (by omega)];exact h2,by rw [kk _ (by omega)];exact h3,hb,hk.keep hg.os hg.tape hg.output hg.size (fun x hx _=>kk x (by omega))⟩)
  ⟨uh HMB0,uh HKP0,qz fun h=>absurd h (by rw [mostAt];omega)⟩
  (fun l J Y W hJ h0 hY=>back1_in Fence.wide (4 - 1) trivial rfl (by omega) l (b6+2) gl N lc (by omega) _ _ _ J Y (fun k W h=>by
   obtain ⟨hmb,hkp,_⟩:=hJ k W h
   have kg:∀ i,W.cell? ⟨gl,i,none⟩=W1.cell? ⟨gl,i,none⟩:=fun i=>World.cell?_of_block (hkp.kp gl (by omega) (.inl hglH))
   refine ⟨by simp [World.cell?,hmb.h8],fun j hj=>?_,fun j hj=>?_,fun j hj=>?_⟩
   ·rw [kg];exact ((uh HX1).lvs.lv j hj).c0
   ·rw [kg];exact ((uh HX1).lvs.lv j hj).c1
   ·rw [kg];exact ((uh HX1).lvs.lv j hj).c2) hY W h0)
  (fun k a' Wx=>∃ Bx,Wx.heap[Bx]?=some (.cells #[.int .i64 (sz (N - 1 - k):Int),.map (some (b (N - 1 - k))),v (N - 1 - k)] 162 (0,0))∧b6+3≤Bx∧a'={ tmps:=((.pointer (some ⟨gx,0,none⟩)) :: (.int .i64 (p:Int)) :: (.pointer (some ⟨H,0,none⟩)) :: (.pointer (some ⟨H+1,0,none⟩)) :: (.pointer (some ⟨H+2,0,none⟩)) :: (.pointer (some ⟨H+3,0,none⟩)) :: (.pointer (some ⟨b6,0,none⟩)) :: (.pointer (some ⟨b6+1,0,none⟩)) :: undef :: (.pointer (some ⟨Bx,0,none⟩)) :: undef :: (.pointer (some ⟨gx,0,none⟩)) :: (.pointer (some ⟨gx,0,none⟩)) :: (.pointer (some ⟨gx,3,none⟩)) :: (.slice (some ⟨gl,0,none⟩) N lc) :: (.int .i64 (N:Int)) :: (.bool false) :: undef :: undef :: undef :: undef :: undef :: undef :: undef :: undef :: undef :: undef :: undef :: undef :: undef :: undef :: undef :: undef :: undef :: undef :: undef :: (.pointer (some ⟨gx,0,none⟩)) :: (.int .i64 (p:Int)) :: (.tuple #[]) :: (.int .i64 (p:Int)) :: (.int .i64 (p:Int)) :: (.pointer (some ⟨gx,0,none⟩)) :: (.pointer (some ⟨gx,0,none⟩)) :: (.pointer (some ⟨gx,1,none⟩)) :: (.int .i64 (W:Int)) :: (.int .i64 (u:Int)) :: (.int .i64 (f:Int)) :: (.pointer (some ⟨gx,0,none⟩)) :: (.pointer (some ⟨gx,0,none⟩)) :: (.pointer (some ⟨gx,2,none⟩)) :: (.int .i64 (M:Int)) :: (.pointer (some ⟨gx,0,none⟩)) :: (.pointer (some ⟨gx,0,none⟩)) :: (.pointer (some ⟨gx,0,none⟩)) :: (.slice (some ⟨ba,off,none⟩) L cap) :: (.int .i64 (L:Int)) :: (.int .i64 (p:Int)) :: (.int .i64 ((L:Int) - (p:Int))) :: (.int .i64 (m0:Int)) :: (.pointer (some ⟨gx,0,none⟩)) :: (.pointer (some ⟨gx,0,none⟩)) :: (.pointer (some ⟨gx,3,none⟩)) :: (.slice (some ⟨gl,0,none⟩) N lc) :: (.func (.func 126) #[] #[.pointer (some ⟨b6+2,0,none⟩)]) :: (.int .i64 ((N - 1 - k:Nat):Int)) :: (.agg #[.int .i64 (sz (N - 1 - k):Int),.map (some (b (N - 1 - k))),v (N - 1 - k)]) :: undef :: undef :: undef :: undef :: undef :: undef :: undef :: undef :: undef :: undef :: undef :: undef :: undef :: undef :: undef :: undef :: undef :: undef :: undef :: undef :: undef :: undef :: []).toArray,defers:=[] })
  (fun k a' _ W W' row h hg hr=>by
   obtain ⟨Bx,hb,hB3,e⟩:=h
   refine ⟨Bx,?_,hB3,e⟩
   rw [hg.block Bx (heap_lt hb) (fun e'=>by
    obtain ⟨_,o,ho',hc⟩:=hr Bx e'.symm
    rw [hb] at ho'
    injection ho' with ho'
    subst ho'
    simp [Obj.isCells] at hc)]
   exact hb) ?assign ?body ?done ?stop
 case assign =>
  intro l k Wx K hk hi hK
  have HK:=qz hK
  have HI:=qz hi
  obtain ⟨va,vn,vc,hvv⟩:=uh HVS (N - 1 - k) (by omega)
  clear hK hi
  simp only [encB]
  rw [hvv] at HK ⊢
  gi_wp2
  have hI:=uh HI
  have kk:∀ x,x<b6+3→∀ o,(Wx.alloc o).heap[x]?=Wx.heap[x]?:=fun x hx o=>Below.heap_alloc _ _ _ (by have:=hI.2.1.size;omega)
  exact uh HK _ _ (KeepsOthers.alloc _ _) ⟨hI.1.keep (fun x hx=>kk x hx _),hI.2.1.keep rfl rfl rfl (by simp) (fun x hx _=>kk x (by omega) _),hI.2.2⟩ ⟨Wx.heap.size,heap_alloc_new _ _,hI.2.1.size,rfl⟩
 case body =>
  rintro l k a' Wx hk ⟨hmb,hkp,HNN⟩ ⟨Bx,hbx,hB3,rfl⟩
  have hj:N - 1 - k<N:=by omega
  have hs18:=uh HSZ (N - 1 - k) hj
  have hlv1:=(uh HX1).lvs.lv (N - 1 - k) hj
  have hrow1:=uh HROW (N - 1 - k)
  have hMk:=mostAt_le m0 N sz k
  have hMg:=mostAt_ge (M0:=m0) (K:=L - p) (uh HSD) (fun j hj=>(uh HSZ j hj).1) (by rw [uh HM0];omega) k hk
  have hMn:mostAt m0 N sz (k+1)=min (mostAt m0 N sz k) (sz (N - 1 - k) - 1):=rfl
  have hbj:=uh HBJ _ hj
  obtain ⟨s,hs⟩:∃ s,s=sz (N - 1 - k):=⟨_,rfl⟩
  obtain ⟨bj,hbjj⟩:∃ bj,bj=b (N - 1 - k):=⟨_,rfl⟩
  obtain ⟨va,vn,vc,hvv⟩:=uh HVS (N - 1 - k) hj
  obtain ⟨Mk,hMkk⟩:∃ Mk,Mk=mostAt m0 N sz k:=⟨_,rfl⟩
  obtain ⟨Mn,hMnn⟩:∃ Mn,Mn=mostAt m0 N sz (k+1):=⟨_,rfl⟩
  rw [← hs] at hs18 hlv1 hMg hMn
  rw [← hMkk] at hMk hMg hMn hmb HNN
  rw [← hMnn] at hMn
  have HMnn:=qz hMnn
  have HMn:=qz hMn
  rw [← hbjj] at hlv1 hbj
  have hb0:Wx.heap[Bx]?=some (.cells #[.int .i64 (s:Int),.map (some bj),.slice va vn vc] 162 (0,0)):=by rw [hs,hbjj,← hvv];exact hbx
  rw [← hs,← hbjj,hvv]
  rw [hvv] at hlv1 hrow1
  clear hbx hMkk hMnn hbjj hs hMn
  have c0:Wx.cell? ⟨H,0,none⟩=some (.pointer (some ⟨gx,0,none⟩)):=by simp [World.cell?,hmb.h0]
  have c1:Wx.cell? ⟨H+1,0,none⟩=some (.int .i64 (p:Int)):=by simp [World.cell?,hmb.h1]
  have kgx:∀ i,Wx.cell? ⟨gx,i,none⟩=W1.cell? ⟨gx,i,none⟩:=fun i=>World.cell?_of_block (hkp.kp gx (by omega) (.inl hgxH))
  have x0:Wx.cell? ⟨gx,0,none⟩=some (.slice (some ⟨ba,off,none⟩) L cap):=by rw [kgx];exact (uh HX1).x0
  have x1:Wx.cell? ⟨gx,1,none⟩=some (.int .i64 (W:Int)):=by rw [kgx];exact (uh HX1).x1
  clear kgx
  have c6:Wx.cell? ⟨b6,0,none⟩=some (.int .i64 (f:Int)):=by simp [World.cell?,hmb.h6]
  have c7:Wx.cell? ⟨b6+1,0,none⟩=some (.int .i64 (Mk:Int)):=by simp [World.cell?,hmb.h7]
  have f7:Wx.frozen? ⟨b6+1,0,none⟩=false:=by simp [World.frozen?,hmb.h7]
  have d0:Wx.cell? ⟨Bx,0,none⟩=some (.int .i64 (s:Int)):=by simp [World.cell?,hb0]
  have d1:Wx.cell? ⟨Bx,1,none⟩=some (.map (some bj)):=by simp [World.cell?,hb0]
  have d2:Wx.cell? ⟨Bx,2,none⟩=some (.slice va vn vc):=by simp [World.cell?,hb0]
  have hlvx:cnt L s p=p→LvlAt zs s p B Wx Bx 0 bj (.slice va vn vc):=fun hc=>by
   have h:=hlv1
   simp only [hc] at h
   exact ⟨d0,d1,d2,h.mp.block (hkp.kp bj (by omega) (.inl hbj)),own_keep h.row (fun q hq=>hkp.kp q (hrow1 q hj hq).1 (hrow1 q hj hq).2)⟩
  have hrx:ReadsU B Wx (.slice (some ⟨ba,off,none⟩) zs.length cap) zs:=by
   have h:=uh HR
   rw [uh HTX] at h
   have kB:∀ x,x<B→Wx.heap[x]?=w.heap[x]?:=fun x hx=>by
    rw [hkp.kp x (by omega) (.inl (by omega))]
    exact (uh HKW1).low x (by rw [← uh HHW];omega) hx
   exact h.stays ⟨hkp.os.trans (uh HKW1).os,hkp.tape.trans (uh HKW1).tape,hkp.output.trans (uh HKW1).output,by rw [← uh HHW];have:=hkp.size;omega,kB⟩
  have hmlx:ML Wx:=by
   obtain ⟨mm,hmm⟩:=uh HML1
   exact ⟨mm,by rw [World.cell?_of_block (hkp.kp 0 (by omega) (.inl (by omega)))];exact hmm⟩
  have HMBx:=qz hmb
  have HKPx:=qz hkp
  have hkk:∀ x,x<b6+3→x<Wx.heap.size:=fun x hx=>by have:=hkp.size;omega
  by_cases hcase:p+s≤L∧f<lastOf zs s p (keyAt zs s p)
  ·obtain ⟨hps,hfc⟩:=hcase
   have hcp:cnt L s p=p:=by unfold cnt;omega
   have hlv:=hlvx hcp
   obtain ⟨cc,hcc⟩:∃ cc,cc=lastOf zs s p (keyAt zs s p):=⟨_,rfl⟩
   have hccp:cc≤p:=by rw [hcc];exact lastOf_le _ _ _ _
   rw [← hcc] at hfc
   have HC:Hid (Calls Tryz.prog 98 #[.pointer (some ⟨Bx,0,none⟩),.slice (some ⟨ba,off,none⟩) L cap,.int .i64 (p:Int)] Wx.drew fun e w'=>e=.returned (.int .i64 ((cc:Int) - 1))∧SameW Wx w'):=qz (by
    have h:=stood_ok zs s p p B B Bx 0 bj cap ba off (.slice va vn vc) Wx.drew hs18.1 hs18.2 (hrx.drewN 1) (by rw [← uh HTX];exact hcap) (uh HZ) (by rw [← uh HTX];exact hps) (by rw [← uh HTX];exact hl) (hlv.same rfl) (by rw [← uh HTX];omega)
    rw [← uh HTX,← hcc] at h
    refine h.mono ?_
    rintro e w' ⟨rfl,q,rfl⟩
    exact ⟨rfl,rfl,rfl,rfl,rfl⟩)
   have HWK:Hid (∀ w',SameW Wx w'→Calls Tryz.prog 99 #[.pointer (some ⟨gx,0,none⟩),.agg #[.int .i64 (s:Int),.map (some bj),.slice va vn vc],.int .i64 ((cc:Int) - 1),.int .i64 (p:Int),.int .i64 (Mk:Int)] w' fun e w''=>WalkIs zs p u Mk w' e w''):=qz fun w' hsw=>by
    have hml:ML w':=by
     obtain ⟨mm,hmm⟩:=hmlx
     exact ⟨mm,by rw [hsw.cell];exact hmm⟩
    have h:=walk_ok zs B ba off cap p W Mk s bj cc gx Bx 0 (.slice va vn vc) w' (hrx.stays ⟨hsw.os,hsw.tape,hsw.output,by rw [hsw.heap];exact Nat.le_refl _,fun k _=>by rw [hsw.heap]⟩) (by rw [← uh HTX];exact hcap) (uh HZ) (by rw [← uh HTX];exact hl) (by rw [← uh HTX];omega) hs18.1 (by omega) (by rw [hsw.heap];have:=hkp.size;omega) hW (by rw [hsw.cell,← uh HTX];exact x0) (by rw [hsw.cell];exact x1) (hlv.same hsw.heap) hcc (by rw [← uh HU,← uh HF];exact hfc) hml
    rw [← uh HU] at h
    exact h
   have hge:(f:Int)≤(cc:Int) - 1:=by omega
   have hf32:Fence.wide.fn 98:=trivial
   have hf33:Fence.wide.fn 99:=trivial
   have HNN':=HNN
   clear hlv hlvx hcc hlv1 hrow1 hrx hmb hkp HNN hbj HMB0 HKP0
   gi_wp2
   gi_region_with_o (first | (gi_at_call 98;refine ((callsIn_wide.2 (uh HC)).inRound l).mono ?_;rintro e w' ⟨rfl,hsw⟩))
   all_goals
    have y0:=(hsw.cell ⟨H,0,none⟩).trans c0
    have y1:=(hsw.cell ⟨H+1,0,none⟩).trans c1
    have y6:=(hsw.cell ⟨b6,0,none⟩).trans c6
    have y7:=(hsw.cell ⟨b6+1,0,none⟩).trans c7
    have z0:=(hsw.cell ⟨Bx,0,none⟩).trans d0
    have z1:=(hsw.cell ⟨Bx,1,none⟩).trans d1
    have z2:=(hsw.cell ⟨Bx,2,none⟩).trans d2
    gi_wp2_with (gi_at_call 99;refine ((callsIn_wide.2 (uh HWK _ hsw)).inRound l).mono ?_;rintro e w'' ⟨n,d,rfl,hbest,hbel⟩;have q2:w''.heap[H+2]?=some (.cells #[.int .i64 ((0:Nat):Int)] 3 (0,0)):=(by rw [hbel.block _ (by rw [hsw.heap];exact hkk _ (by omega)),hsw.heap];exact (uh HMBx).h2);have q3:w''.heap[H+3]?=some (.cells #[.int .i64 ((0:Nat):Int)] 3 (0,0)):=(by rw [hbel.block _ (by rw [hsw.heap];exact hkk _ (by omega)),hsw.heap];exact (uh HMBx).h3);have r2:w''.cell? ⟨H+2,0,none⟩=some (.int .i64 ((0:Nat):Int)):=(by simp [World.cell?,q2]);have r3:w''.cell? ⟨H+3,0,none⟩=some (.int .i64 ((0:Nat):Int)):=(by simp [World.cell?,q3]);have t2:w''.frozen? ⟨H+2,0,none⟩=false:=(by simp [World.frozen?,q2]);have t3:w''.frozen? ⟨H+3,0,none⟩=false:=(by simp [World.frozen?,q3]);have HW5:=qz (And.intro hbest (And.intro hbel (And.intro q2 q3)));clear hbest hbel q2 q3)
    obtain ⟨hbest,hbel,q2,q3⟩:=uh HW5
    have hko:KeepsOthers Wx w'':=⟨by have:=hbel.size;rw [hsw.heap] at this;exact this,fun k o hk ho=>by rw [hbel.block k (by rw [hsw.heap];exact heap_lt hk),hsw.heap];exact hk⟩
    have hkx:KP H b6 W1 w'':=(uh HKPx).keep (hbel.os.trans hsw.os) (hbel.tape.trans hsw.tape) (hbel.output.trans hsw.output) (by have:=hbel.size;rw [hsw.heap] at this;exact this) (fun x hx _=>by rw [hbel.block x (by rw [hsw.heap];exact hkk x (by omega)),hsw.heap])
    have h2:=two_cells q2 q3 (.int .i64 (n:Int)) (.int .i64 (d:Int))
    refine ⟨(hko.trans (KeepsOthers.setCell _ _ _)).trans (KeepsOthers.setCell _ _ _),n,d,h2.1,h2.2.1,hbest.wide hMk (uh HNN'),hkx.two _ _⟩
  ·have HC:Hid (∃ r:Int,r<(f:Int)∧Calls Tryz.prog 98 #[.pointer (some ⟨Bx,0,none⟩),.slice (some ⟨ba,off,none⟩) L cap,.int .i64 (p:Int)] Wx.drew fun e w'=>e=.returned (.int .i64 r)∧SameW Wx w'):=qz (by
    by_cases hps:p+s≤L
    ·have hcp:cnt L s p=p:=by unfold cnt;omega
     have h:=stood_ok zs s p p B B Bx 0 bj cap ba off (.slice va vn vc) Wx.drew hs18.1 hs18.2 (hrx.drewN 1) (by rw [← uh HTX];exact hcap) (uh HZ) (by rw [← uh HTX];exact hps) (by rw [← uh HTX];exact hl) ((hlvx hcp).same rfl) (by rw [← uh HTX];omega)
     rw [← uh HTX] at h
     refine ⟨((lastOf zs s p (keyAt zs s p):Nat):Int) - 1,?_,h.mono ?_⟩
     ·have:¬ f<lastOf zs s p (keyAt zs s p):=fun h=>hcase ⟨hps,h⟩
      omega
     ·rintro e w' ⟨rfl,q,rfl⟩
      exact ⟨rfl,rfl,rfl,rfl,rfl⟩
    ·refine ⟨-1,by omega,(stood_short L s p Bx 0 _ cap Wx.drew hs18.2 (by omega) hl (by omega) d0).mono ?_⟩
     rintro e w' ⟨rfl,rfl⟩
     exact ⟨rfl,rfl,rfl,rfl,rfl⟩)
   have HNN':Hid (Mn<m0→NoneIn (zf zs) p u (Mn+1)):=qz fun hlt=>by
    by_cases hc:Mn=Mk
    ·rw [hc] at hlt ⊢;exact uh HNN hlt
    ·have hMn:=uh HMn
     have hps:p+s≤L:=by omega
     have hnone:=stood_none (uh HZ) (f:=f) (by rw [← uh HTX];exact hps) rfl (Nat.le_of_not_lt fun h=>hcase ⟨hps,h⟩) (by omega)
     rw [show p - f=u by omega] at hnone
     rw [show Mn+1=s by omega]
     exact hnone
   obtain ⟨r,hrf,hcall⟩:=uh HC
   have HCC:=qz hcall
   obtain ⟨s1,hs1⟩:∃ s1:Nat,(s:Int) - 1=(s1:Int):=⟨s - 1,by omega⟩
   have m3:=run_min_nat (A:=(Mk:Int)) (B:=(s1:Int)) rfl rfl (show Mn=min Mk s1 by have:=uh HMn;omega)
   have hge:¬ (f:Int)≤r:=by omega
   have hf32:Fence.wide.fn 98:=trivial
   have hws:IntKind.i64.wrap (s1:Int)=(s1:Int):=IntWalk.i64_in _ (by omega)
   clear hcall HC hlvx hlv1 hrow1 hrx hmb hkp HNN hbj HMB0 HKP0 hcase
   gi_wp2
   gi_region_with_o (first | (gi_at_call 98;refine ((callsIn_wide.2 (uh HCC)).inRound l).mono ?_;rintro e w' ⟨rfl,hsw⟩))
   all_goals
    have y6:=(hsw.cell ⟨b6,0,none⟩).trans c6
    have y7:=(hsw.cell ⟨b6+1,0,none⟩).trans c7
    have g7:=(hsw.frozen ⟨b6+1,0,none⟩).trans f7
    have z0:=(hsw.cell ⟨Bx,0,none⟩).trans d0
    gi_wp2
    have hko:KeepsOthers Wx w':=⟨by rw [hsw.heap];exact Nat.le_refl _,fun k o hk ho=>by rw [hsw.heap];exact hk⟩
    refine ⟨hko.trans (KeepsOthers.setCell _ _ _),?_⟩
    unfold MIs
    rw [← uh HMnn]
    refine ⟨?_,?_,HNN'⟩
    ·have hmb:=uh HMBx
     have hle:=hmb.le
     have o:∀ k,k≠b6+1→(w'.setCell ⟨b6+1,0,none⟩ (.int .i64 (Mn:Int))).heap[k]?=Wx.heap[k]?:=fun k hk=>by rw [heap_setCell_other _ _ _ _ (by exact hk),hsw.heap]
     exact ⟨by rw [o _ (by omega)];exact hmb.h0,by rw [o _ (by omega)];exact hmb.h1,by rw [o _ (by omega)];exact hmb.h2,by rw [o _ (by omega)];exact hmb.h3,by rw [o _ (by omega)];exact hmb.h6,by rw [heap_setCell_same w' (b6+1) 0 _ 3 _ (by rw [hsw.heap];exact hmb.h7)];rfl,by rw [o _ (by omega)];exact hmb.h8,hle⟩
    ·exact (uh HKPx).keep hsw.os hsw.tape hsw.output (by simp [hsw.heap]) (fun x hx _=>by rw [heap_setCell_other _ _ _ _ (by show x≠b6+1;omega),hsw.heap])
 case done =>
  rintro D Wx hD ⟨hmb,hkp,HNN⟩ hDD
  have c2:Wx.cell? ⟨H+2,0,none⟩=some (.int .i64 ((0:Nat):Int)):=by simp [World.cell?,hmb.h2]
  have c3:Wx.cell? ⟨H+3,0,none⟩=some (.int .i64 ((0:Nat):Int)):=by simp [World.cell?,hmb.h3]
  have f2:Wx.frozen? ⟨H+2,0,none⟩=false:=by simp [World.frozen?,hmb.h2]
  have f3:Wx.frozen? ⟨H+3,0,none⟩=false:=by simp [World.frozen?,hmb.h3]
  rw [uh HS5] at hD
  have HFE:=qz (match_end (n:=0) (d:=0) (uh HX1) (uh HKW1) (uh HHW) hHb hgxH hglH (uh HBJ) (uh HROW) (D:=D) (hkp.two 0 0) (two_cells hmb.h2 hmb.h3 _ _).1 (two_cells hmb.h2 hmb.h3 _ _).2.1 (by rw [(two_cells hmb.h2 hmb.h3 _ _).2.2 D (by omega) (by omega)];exact hDD) hD)
  have HMR:Hid (MRes zs p u m0 (sz 0) 0 0):=qz (.inr ⟨rfl,rfl,none_left (by rw [uh HM0,uh HTX]) hN1 (uh HSZ 0 (by omega)).1 (Nat.le_trans (uh HSZM) hsM) (uh HNN)⟩)
  clear hmb hkp HNN HMB0 HKP0
  go_wp2_with fail
  obtain ⟨q1,q2,q3,q4⟩:=uh HFE
  exact ⟨by simp,.inl ⟨_,_,rfl,run_takeDeferred q1,⟨_,results_two rfl _ _ ⟨H+2,0,none⟩ ⟨H+3,0,none⟩ rfl rfl _ _ q2.1 q2.2,0,0,rfl,uh HMR,⟨v,by rw [← uh HTX];exact q3⟩,q4⟩⟩⟩
 case stop =>
  rintro D Wx hD ⟨n,d,h2,h3,hbest,hkp⟩ hDD
  rw [uh HS5] at hD
  have HFE:=qz (match_end (uh HX1) (uh HKW1) (uh HHW) hHb hgxH hglH (uh HBJ) (uh HROW) (D:=D) hkp h2 h3 hDD hD)
  have HBE:=qz hbest
  clear h2 h3 hbest hkp HMB0 HKP0
  go_wp2_with fail
  obtain ⟨q1,q2,q3,q4⟩:=uh HFE
  exact ⟨by simp,.inl ⟨_,_,rfl,run_takeDeferred q1,⟨_,results_two rfl _ _ ⟨H+2,0,none⟩ ⟨H+3,0,none⟩ rfl rfl _ _ q2.1 q2.2,n,d,rfl,.inl (uh HBE),⟨v,by rw [← uh HTX];exact q3⟩,q4⟩⟩⟩
end T6
namespace T6
open Go.RowKit Go.Maps
attribute [local go_sem ↓] wp_at_zero wp_at_succ
theorem info65:(Tryz.prog.info? 162).map (fun i=>(i.zero,i.size,i.bytes))=some (some (.agg #[.int .i64 0,.map none,.slice none 0 0]),3,40):=by kernel_rfl
def lcs (s0:Nat) (b:Nat→Nat):Nat→List Value
 | 0=>[]
 | k+1=>lcs s0 b k++[.int .i64 ((s0*2 ^ k:Nat):Int),.map (some (b k)),.slice none 0 0]
theorem lcs_length (s0:Nat) (b:Nat→Nat):∀ k,(lcs s0 b k).length=k*3
 | 0=>rfl
 | k+1=>by simp [lcs,lcs_length s0 b k];omega
theorem lcs_get (s0:Nat) (b:Nat→Nat):∀ k j,j<k→(lcs s0 b k)[j*3]?=some (.int .i64 ((s0*2 ^ j:Nat):Int))∧(lcs s0 b k)[j*3+1]?=some (.map (some (b j)))∧(lcs s0 b k)[j*3+2]?=some (.slice none 0 0)
 | 0,j,h=>by omega
 | k+1,j,h=>by
  have hl:=lcs_length s0 b k
  by_cases e:j=k
  ·subst e
   refine ⟨?_,?_,?_⟩
   ·rw [lcs,List.getElem?_append_right (by omega),hl];simp
   ·rw [lcs,List.getElem?_append_right (by omega),hl,show j*3+1 - j*3=1 by omega];rfl
   ·rw [lcs,List.getElem?_append_right (by omega),hl,show j*3+2 - j*3=2 by omega];rfl
  ·have ih:=lcs_get s0 b k j (by omega)
   refine ⟨?_,?_,?_⟩
   ·rw [lcs,List.getElem?_append_left (by omega)];exact ih.1
   ·rw [lcs,List.getElem?_append_left (by omega)];exact ih.2.1
   ·rw [lcs,List.getElem?_append_left (by omega)];exact ih.2.2
theorem lcs_upf (s0:Nat) (b:Nat→Nat) (k x:Nat):∀ j,j≤k→lcs s0 (upf b k x) j=lcs s0 b j
 | 0,_=>rfl
 | j+1,h=>by rw [lcs,lcs,lcs_upf s0 b k x j (by omega),show upf b k x j=b j by simp [upf];omega]
structure NewAt (H W M s0 k:Nat) (tx:Value) (b:Nat→Nat) (v:Value) (w ws:World):Prop where
 xb:ws.heap[H]?=some (.cells #[tx,.int .i64 (W:Int),.int .i64 (M:Int),v,.int .i64 0] 123 (0,0))
 row:ws.ownsRow (H+1) 162 3 v k (lcs s0 b k)
 mp:∀ j,j<k→MapIs ws (b j) 0 (fun _=>0)
 ap:∀ i j,i<k→j<k→i≠j→b i≠b j
 bB:∀ j,j<k→H≤b j
 bel:Below H w ws
theorem row_ty {w:World} {B e size n:Nat} {v:Value} {xs:List Value} (h:w.ownsRow B e size v n xs) {x:Nat} (hx:v.ownBlock=some x):B≤x∧∃ cs,w.heap[x]?=some (.cells cs e (0,0)):=by
 rcases h.2 with ⟨e',_⟩ | ⟨g,cap,cur,e',hb,hh,_⟩
 ·rw [e'] at hx;simp [Value.ownBlock] at hx
 ·rw [e'] at hx
  simp [Value.ownBlock] at hx
  subst hx
  exact ⟨hb,_,hh⟩
theorem NewAt.x3 {H W M s0 k:Nat} {tx:Value} {b:Nat→Nat} {v:Value} {w ws:World} (h:NewAt H W M s0 k tx b v w ws):ws.cell? ⟨H,3,none⟩=some v:=by simp [World.cell?,h.xb]
theorem NewAt.f3 {H W M s0 k:Nat} {tx:Value} {b:Nat→Nat} {v:Value} {w ws:World} (h:NewAt H W M s0 k tx b v w ws):ws.frozen? ⟨H,3,none⟩=false:=by simp [World.frozen?,h.xb]
theorem NewAt.next {H W M s0 k:Nat} {tx:Value} {b:Nat→Nat} {v v':Value} {w ws w2:World} (h:NewAt H W M s0 k tx b v w ws) (hH:H<ws.heap.size)
  (hown:w2.ownsRow (H+1) 162 3 v' (k+1) (lcs s0 b k++[.int .i64 ((s0*2 ^ k:Nat):Int),.map (some ws.heap.size),.slice none 0 0]))
  (hg:((ws.alloc (.map #[] 0)).alloc (.cells #[.int .i64 ((s0*2 ^ k:Nat):Int),.map (some ws.heap.size),.slice none 0 0] 162)).grownBy w2 v.ownBlock) :
  NewAt H W M s0 (k+1) tx (upf b k ws.heap.size) v' w (w2.setCell ⟨H,3,none⟩ v'):=by
 have hv:∀ x,v.ownBlock=some x→H+1≤x∧∃ cs,ws.heap[x]?=some (.cells cs 162 (0,0)):=fun x hx=>row_ty h.row hx
 have k2:∀ x,x≤ws.heap.size→v.ownBlock≠some x→w2.heap[x]?=(ws.alloc (.map #[] 0)).heap[x]?:=fun x hx hr=>by
  rw [hg.block x (by simp;omega) (fun e=>hr e.symm)]
  exact Below.heap_alloc _ _ _ (by simp;omega)
 have k1:∀ x,x<ws.heap.size→v.ownBlock≠some x→w2.heap[x]?=ws.heap[x]?:=fun x hx hr=>by
  rw [k2 x (by omega) hr];exact Below.heap_alloc _ _ _ hx
 have hvH:v.ownBlock≠some H:=fun e=>by have:=(hv H e).1;omega
 have hxb2:w2.heap[H]?=some (.cells #[tx,.int .i64 (W:Int),.int .i64 (M:Int),v,.int .i64 0] 123 (0,0)):=by rw [k1 H hH hvH];exact h.xb
 have o:∀ x,x≠H→(w2.setCell ⟨H,3,none⟩ v').heap[x]?=w2.heap[x]?:=fun x hx=>heap_setCell_other _ _ _ _ (by exact hx)
 have hvn:v.ownBlock≠some ws.heap.size:=fun e=>by
  obtain ⟨_,cs,hcs⟩:=hv _ e
  have:=heap_lt hcs
  omega
 refine ⟨?_,?_,fun j hj=>?_,fun i j hi hj hne=>?_,fun j hj=>?_,⟨?_,?_,?_,?_,fun x hx=>?_⟩⟩
 ·rw [heap_setCell_same w2 H 3 _ 123 v' hxb2];rfl
 ·have e:lcs s0 (upf b k ws.heap.size) (k+1)=lcs s0 b k++[.int .i64 ((s0*2 ^ k:Nat):Int),.map (some ws.heap.size),.slice none 0 0]:=by
   rw [lcs,lcs_upf s0 b k ws.heap.size k (Nat.le_refl _),show upf b k ws.heap.size k=ws.heap.size by simp [upf]]
  rw [e]
  refine own_keep hown (fun q hq=>o q (fun e=>?_))
  have:=(row_ty hown hq).1
  omega
 ·by_cases e:j=k
  ·rw [show upf b k ws.heap.size j=ws.heap.size by simp [upf,e]]
   refine (MapIs.made ws).block ?_
   rw [o _ (by omega),k2 _ (Nat.le_refl _) hvn]
  ·rw [show upf b k ws.heap.size j=b j by simp [upf,e]]
   obtain ⟨es,ck,hb⟩:=(h.mp j (by omega)).is
   refine (h.mp j (by omega)).block ?_
   rw [o _ (fun e2=>by rw [e2,h.xb] at hb;cases hb),k1 _ (heap_lt hb) (fun e2=>by
    obtain ⟨_,cs,hcs⟩:=hv _ e2
    rw [hcs] at hb
    cases hb)]
 ·have lt:∀ i,i<k→b i<ws.heap.size:=fun i hi=>by obtain ⟨es,ck,hb⟩:=(h.mp i hi).is;exact heap_lt hb
  unfold upf
  by_cases e:i=k
  ·rw [if_pos e,if_neg (by omega)]
   have:=lt j (by omega)
   omega
  ·by_cases e2:j=k
   ·rw [if_neg e,if_pos e2]
    have:=lt i (by omega)
    omega
   ·rw [if_neg e,if_neg e2]
    exact h.ap i j (by omega) (by omega) hne
 ·unfold upf
  by_cases e:j=k
  ·rw [if_pos e];omega
  ·rw [if_neg e];exact h.bB j (by omega)
 ·exact hg.os.trans h.bel.os
 ·exact hg.tape.trans h.bel.tape
 ·exact hg.output.trans h.bel.output
 ·have h1:=hg.size
  have h2:=h.bel.size
  simp at h1 ⊢
  omega
 ·rw [o x (by omega),k1 x (by omega) (fun e=>by have:=(hv x e).1;omega)]
  exact h.bel.block x hx
theorem NewAt.idx {zs:List Nat} {H W M s0 N:Nat} {tx:Value} {b:Nat→Nat} {v:Value} {w ws:World} (h:NewAt H W M s0 N tx b v w ws) (hN:1≤N):∃ gl lc,N≤lc∧v=.slice (some ⟨gl,0,none⟩) N lc∧IdxAt zs H N (fun j=>s0*2 ^ j) b (fun _=>.slice none 0 0) (fun j=>cnt zs.length (s0*2 ^ j) 0) H gl lc W M 0 tx ws:=by
 rcases h.row.2 with ⟨_,e⟩ | ⟨g,cap,cur,e,hb,hh,hle,_,hcs,ht⟩
 ·omega
 ·refine ⟨g,cap,hle,e,?_,⟨⟨cur,hh⟩,fun j hj=>?_,h.ap,fun i j _ _ _ x hx=>by simp [Value.ownBlock] at hx,by omega,h.bB⟩,Nat.le_refl _⟩
  ·rw [h.xb,e];rfl
  ·have hget:∀ i,i<N*3→cur[i]?=(lcs s0 b N)[i]?:=fun i hi=>by
    rw [← ht,List.getElem?_take,if_pos hi];simp
   obtain ⟨g0,g1,g2⟩:=lcs_get s0 b N j hj
   have hc:cnt zs.length (s0*2 ^ j) 0=0:=by unfold cnt;omega
   rw [hc]
   refine ⟨?_,?_,?_,(h.mp j hj),?_⟩
   ·simp only [World.cell?,hh];rw [hget _ (by omega)];exact g0
   ·simp only [World.cell?,hh];rw [hget _ (by omega)];exact g1
   ·simp only [World.cell?,hh];rw [hget _ (by omega)];exact g2
   ·exact World.ownsRow_nil _ _ _ _
end T6
namespace T6
open Go.RowKit Go.Maps
attribute [local go_sem ↓] wp_at_zero wp_at_succ
def NewIs (zs:List Nat) (H W M s0:Nat) (tx:Value) (w:World) (e:Ending) (w':World):Prop :=
 e=.returned (.pointer (some ⟨H,0,none⟩))∧Below H w w'∧(w'.heap[H]?=some (.cells #[tx,.int .i64 (W:Int),.int .i64 (M:Int),.slice none 0 0,.int .i64 0] 123 (0,0)) ∨
  ∃ (N:Nat) (b:Nat→Nat) (gl lc:Nat),1≤N∧N≤4∧N≤lc∧(∀ j,j<N→1≤s0*2 ^ j∧s0*2 ^ j≤8)∧s0*2 ^ (N - 1)≤M∧IdxAt zs H N (fun j=>s0*2 ^ j) b (fun _=>.slice none 0 0) (fun j=>cnt zs.length (s0*2 ^ j) 0) H gl lc W M 0 tx w')
theorem pow_small {s0 k:Nat} (h1:1≤s0) (h:s0*2 ^ k≤8):k≤3:=by
 refine Nat.le_of_not_lt fun hk=>?_
 have h2:2 ^ 4≤2 ^ k:=Nat.pow_le_pow_right (by decide) hk
 have h3:1*2 ^ k≤s0*2 ^ k:=Nat.mul_le_mul_right _ h1
 omega
theorem new_ok (zs:List Nat) (a:Option Addr) (L cap p W least M:Nat) (w:World) (hl:L≤100000000) (hp:p≤L) (h1:1≤least) (hlM:least≤M) (hM:M≤9223372036854775807) :
  Calls Tryz.prog 63 #[.slice a L cap,.int .i64 (p:Int),.int .i64 (W:Int),.int .i64 (least:Int),.int .i64 (M:Int)] w fun e w'=>NewIs zs w.heap.size W M (min least 8) (.slice a L cap) w e w':=by
 obtain ⟨H,hH⟩:∃ H,H=w.heap.size:=⟨_,rfl⟩
 rw [← hH]
 obtain ⟨s0,hs0⟩:∃ s0,s0=min least 8:=⟨_,rfl⟩
 obtain ⟨mm,hmm⟩:∃ mm,mm=min M 8:=⟨_,rfl⟩
 rw [← hs0]
 have n1:=run_min_nat (A:=(least:Int)) (B:=(8:Int)) rfl rfl hs0
 have n2:=run_min_nat (A:=(M:Int)) (B:=(8:Int)) rfl rfl hmm
 have hs1:1≤s0:=by omega
 have hsm:s0≤mm:=by omega
 have hm8:mm≤8:=by omega
 have hmM:mm≤M:=by omega
 obtain ⟨W0,hW0⟩:∃ W0,W0=w.alloc (.cells #[.slice a L cap,.int .i64 (W:Int),.int .i64 (M:Int),.slice none 0 0,.int .i64 0] 123):=⟨_,rfl⟩
 have HN0:Hid (NewAt H W M s0 0 (.slice a L cap) (fun _=>0) (.slice none 0 0) w W0):=qz ⟨by rw [hW0,hH];exact heap_alloc_new _ _,World.ownsRow_nil _ _ _ _,fun j hj=>by omega,fun i j hi=>by omega,fun j hj=>by omega,by rw [hW0,hH];exact (Below.refl _ _).alloc (Nat.le_refl _) _⟩
 have hmk:=@run_makeMap Tryz.prog
 obtain ⟨i0,hii,hz0,hz1,hz2⟩:=info_parts info65
 have HHW:=qz hH
 clear hs0 hmm hH
 by_cases hfew:L - p≤512
 ·have hfi:(L:Int) - (p:Int)≤512:=by omega
  clear hmk
  go_enter Tryz.func63,Tryz.ntmps63
  go_wp2_with fail
  rw [← hW0,← uh HHW]
  go_ret
  exact ⟨rfl,(uh HN0).bel,.inl (uh HN0).xb⟩
 ·have hfi:¬ (L:Int) - (p:Int)≤512:=by omega
  go_enter Tryz.func63,Tryz.ntmps63
  go_wp2_with fail
  rw [← hW0,← uh HHW]
  go_loopg [12] (40 - s0) (fun gk d ws=>∃ (k z:Nat) (b:Nat→Nat) (v:Value),gk=40 - z∧d=.int .i64 (z:Int)∧1≤z∧z≤16∧Hid (z=s0*2 ^ k)∧Hid (∀ j,j<k→s0*2 ^ j≤mm)∧NewAt H W M s0 k (.slice a L cap) b v w ws)
  case atStart=>exact ⟨0,s0,_,_,rfl,rfl,hs1,by omega,qz (by simp),qz (fun j hj=>by omega),uh HN0⟩
  case round =>
   obtain ⟨k,z,b,v,rfl,rfl,hz1',hz16,HZ,HSM,hat⟩:=hrel
   clear HN0 hW0
   by_cases hzm:z≤mm
   ·have hzi:(z:Int)≤(mm:Int):=by omega
    have c3:=hat.x3
    have f3:=hat.f3
    have hHs:H<wr.heap.size:=heap_lt hat.xb
    have hk3:k≤3:=pow_small hs1 (by rw [← uh HZ];omega)
    have HROW:=qz ((hat.row.alloc (.map #[] 0)).alloc (.cells #[.int .i64 (z:Int),.map (some wr.heap.size),.slice none 0 0] 162))
    have HNEW:Hid (∀ (j:Nat) u,[Value.int .i64 (z:Int),.map (some wr.heap.size),.slice none 0 0][j]?=some u→((wr.alloc (.map #[] 0)).alloc (.cells #[.int .i64 (z:Int),.map (some wr.heap.size),.slice none 0 0] 162)).cell? ((⟨wr.heap.size+1,0,none⟩:Addr).add j)=some u):=qz fun j u hj=>by
     have ea:(⟨wr.heap.size+1,0,none⟩:Addr).add j=⟨wr.heap.size+1,j,none⟩:=by by_cases hq:j=0 <;> simp [Addr.add,hq]
     rw [ea]
     simp only [World.cell?]
     rw [heap_alloc_at,if_pos (by simp)]
     simpa using hj
    have HNX:Hid (∀ v' w2,w2.ownsRow (H+1) 162 3 v' (k+1) (lcs s0 b k++[.int .i64 (z:Int),.map (some wr.heap.size),.slice none 0 0])→((wr.alloc (.map #[] 0)).alloc (.cells #[.int .i64 (z:Int),.map (some wr.heap.size),.slice none 0 0] 162)).grownBy w2 v.ownBlock→NewAt H W M s0 (k+1) (.slice a L cap) (upf b k wr.heap.size) v' w (w2.setCell ⟨H,3,none⟩ v')∧(∃ u,w2.cell? ⟨H,3,none⟩=some u)∧w2.frozen? ⟨H,3,none⟩=false∧∃ va vn vc,v'=.slice va vn vc):=qz fun v' w2 h2 h3=>by
     have h4:=hat.next (v':=v') (w2:=w2) hHs (by rw [← uh HZ];exact h2) (by rw [← uh HZ];exact h3)
     have hvH:v.ownBlock≠some H:=fun e=>by have:=(row_ty hat.row e).1;omega
     have hxb2:w2.heap[H]?=some (.cells #[.slice a L cap,.int .i64 (W:Int),.int .i64 (M:Int),v,.int .i64 0] 123 (0,0)):=by
      rw [h3.block H (by simp;omega) (fun e=>hvH e.symm),Below.heap_alloc _ _ _ (by simp;omega),Below.heap_alloc _ _ _ hHs]
      exact hat.xb
     refine ⟨h4,⟨v,by simp [World.cell?,hxb2]⟩,by simp [World.frozen?,hxb2],?_⟩
     rcases h2.2 with ⟨e,_⟩ | ⟨g,cp,cur,e,_⟩
     ·exact ⟨_,_,_,e⟩
     ·exact ⟨_,_,_,e⟩
    have HZ2:Hid (2*z=s0*2 ^ (k+1)):=qz (by rw [uh HZ,Nat.pow_succ,Nat.mul_comm 2,Nat.mul_assoc])
    have HSM2:Hid (∀ j,j<k+1→s0*2 ^ j≤mm):=qz fun j hj=>by
     by_cases e:j=k
     ·rw [e,← uh HZ];exact hzm
     ·exact uh HSM j (by omega)
    obtain ⟨z2,hz2'⟩:∃ z2:Nat,(z:Int)*2=(z2:Int):=⟨2*z,by omega⟩
    have hwz:IntKind.i64.wrap (z2:Int)=(z2:Int):=IntWalk.i64_in _ (by omega)
    obtain ⟨va,vn,vc,hvv⟩:∃ va vn vc,v=.slice va vn vc:=by
     rcases hat.row.2 with ⟨e,_⟩ | ⟨g,cp,cur,e,_⟩
     ·exact ⟨_,_,_,e⟩
     ·exact ⟨_,_,_,e⟩
    clear hat HZ HSM
    subst hvv
    go_upto_region 7 with fail
    go_wp2_with (at_builtin;go_must (refine wpList_append_own _ rfl _ _ 121 rfl (H+1) 162 i0 _ 3 40 Tryz.underlying121 hii hz0 hz1 hz2 rfl (by decide) (.slice va vn vc) k (lcs s0 b k) (by rfl) (uh HROW) ⟨wr.heap.size+1,0,none⟩ 1 1 [.int .i64 (z:Int),.map (some wr.heap.size),.slice none 0 0] (by rfl) rfl (uh HNEW) (by intro u hu;simp at hu;rcases hu with rfl | rfl | rfl <;> rfl) (by unfold maxLen;omega) (by omega) (by simp;omega) ?_;intro v' w2 hown hgrow hnil;obtain ⟨hx1,⟨u,hx2⟩,hx3,va',vn',vc',hv'⟩:=uh HNX _ _ hown hgrow;subst hv';have HX1:=qz hx1;clear hown hgrow hnil hx1 HNX HROW HNEW))
    go_roundg (40 - z2)
    case measure=>omega
    case rel=>exact ⟨k+1,z2,_,_,rfl,rfl,by omega,by omega,qz (by rw [← uh HZ2];omega),HSM2,uh HX1⟩
   ·have hzi:¬ (z:Int)≤(mm:Int):=by omega
    have hk1:1≤k:=by
     rcases Nat.eq_zero_or_pos k with h | h
     ·have:=uh HZ
      rw [h] at this
      simp at this
      omega
     ·exact h
    have HE:Hid (NewIs zs H W M s0 (.slice a L cap) w (.returned (.pointer (some ⟨H,0,none⟩))) wr):=qz (by
     obtain ⟨gl,lc,hlc,_,hix⟩:=hat.idx (zs:=zs) hk1
     refine ⟨rfl,hat.bel,.inr ⟨k,b,gl,lc,hk1,?_,hlc,fun j hj=>⟨?_,?_⟩,?_,hix⟩⟩
     ·have h3:=uh HSM (k - 1) (by omega)
      have:=pow_small hs1 (show s0*2 ^ (k - 1)≤8 by omega)
      omega
     ·have:0<2 ^ j:=Nat.two_pow_pos j
      exact Nat.mul_pos hs1 this
     ·have:=uh HSM j hj;omega
     ·have:=uh HSM (k - 1) (by omega);omega)
    clear hat HZ HSM
    go_wp2_with fail
    go_ret
    exact uh HE
theorem run_max_nat {a b x:Nat} {A B:Int} (hA:A=(a:Int)) (hB:B=(b:Int)) (h:x=max a b) (w:World):(Builtin.max_ #[3,3] 3 #[.int .i64 A,.int .i64 B]).run Tryz.prog w=.ok (.int .i64 (x:Int)) w:=by
 rw [run_max_int2,hA,hB]
 congr 2
 split <;> omega
def OutIs (W p:Nat) (w:World) (e:Ending) (w':World):Prop:=(e=.returned (.bool true)∧W<p∨e=.returned (.bool false))∧w'=w.drew
theorem out_ok (gx p W:Nat) (w:World) (hp:p≤100000000) (hW:W≤9223372036854775807) (c1:w.cell? ⟨gx,1,none⟩=some (.int .i64 (W:Int))) :
  Calls Tryz.prog 64 #[.pointer (some ⟨gx,0,none⟩),.int .i64 (p:Int)] w fun e w'=>OutIs W p w e w':=by
 obtain ⟨x,hx⟩:∃ x,x=max W 65536:=⟨_,rfl⟩
 have m1:=run_max_nat (A:=(W:Int)) (B:=(65536:Int)) rfl rfl hx
 obtain ⟨df,hdf⟩:∃ df:Int,(p:Int) - (W:Int)=df:=⟨_,rfl⟩
 have hwd:IntKind.i64.wrap df=df:=IntWalk.i64_in _ (by omega)
 by_cases hlt:(x:Int)<df
 ·have HE:Hid (OutIs W p w (.returned (.bool true)) w.drew):=qz ⟨.inl ⟨rfl,by omega⟩,rfl⟩
  clear hx
  go_enter Tryz.func64,Tryz.ntmps64
  go_upto_region 1 with fail
  refine wp_region_noPanic ?_
  refine wp_region_held_drew (S:=fun y=>y.cell? ⟨gx,1,none⟩=some (.int .i64 (W:Int))) (by kernel_rfl) c1 (fun hHeld=>?_)
  refine hT 0 5 rfl rfl hHeld nPp (v:=?_) (fun x' hSx=>?_) ?_
  rotate_left 1
  ·go_simp <;> with_reducible rfl
  simp only [sA,sB]
  refine hT 1 6 rfl rfl hHeld nPp (v:=?_) (fun x' hSx=>?_) ?_
  rotate_left 1
  ·go_simp <;> with_reducible rfl
  simp only [sA,sB]
  refine hT 2 7 rfl rfl hHeld nPp (v:=?_) (fun x' hSx=>?_) ?_
  rotate_left 1
  ·go_simp <;> with_reducible rfl
  simp only [sA,sB]
  refine hT 3 8 rfl rfl hHeld nPp (v:=?_) (fun x' hSx=>?_) ?_
  rotate_left 1
  ·go_simp <;> with_reducible rfl
  simp only [sA,sB]
  refine hT 4 9 rfl rfl hHeld nPp (v:=?_) (fun x' hSx=>?_) ?_
  rotate_left 1
  ·go_simp <;> with_reducible rfl
  simp only [sA,sB]
  refine hT 5 10 rfl rfl hHeld nPp (v:=?_) (fun x' hSx=>?_) ?_
  rotate_left 1
  ·go_simp <;> with_reducible rfl
  simp only [sA,sB]
  refine hT 6 11 rfl rfl hHeld nPp (v:=?_) (fun x' hSx=>?_) ?_
  rotate_left 1
  ·go_simp <;> with_reducible rfl
  simp only [sA,sB]
  refine hT 7 12 rfl rfl hHeld nPp (v:=?_) (fun x' hSx=>?_) ?_
  rotate_left 1
  ·go_simp <;> with_reducible rfl
  simp only [sA,sB]
  refine hT 8 13 rfl rfl hHeld nPp (v:=?_) (fun x' hSx=>?_) ?_
  rotate_left 1
  ·go_simp <;> with_reducible rfl
  simp only [sA,sB]
  refine hT 9 14 rfl rfl hHeld nPp (v:=?_) (fun x' hSx=>?_) ?_
  rotate_left 1
  ·go_simp <;> with_reducible rfl
  simp only [sA,sB]
  refine hT 10 15 rfl rfl hHeld nPp (v:=?_) (fun x' hSx=>?_) ?_
  rotate_left 1
  ·go_simp <;> with_reducible rfl
  simp only [sA,sB]
  refine hT 11 16 rfl rfl hHeld nPp (v:=?_) (fun x' hSx=>?_) ?_
  rotate_left 1
  ·go_simp <;> with_reducible rfl
  simp only [sA,sB]
  refine hT 12 4 rfl rfl hHeld nPp (v:=?_) (fun x' hSx=>?_) ?_
  rotate_left 1
  ·go_simp <;> with_reducible rfl
  simp only [sA,sB]
  refine wpAnyH_done (by kernel_rfl) ?_ _
  refine NoPanic.normal ?_
  go_wp2_with fail
  go_ret
  exact uh HE
 ·have HE:Hid (OutIs W p w (.returned (.bool false)) w.drew):=qz ⟨.inr rfl,rfl⟩
  clear hx
  go_enter Tryz.func64,Tryz.ntmps64
  go_upto_region 1 with fail
  refine wp_region_noPanic ?_
  refine wp_region_held_drew (S:=fun y=>y.cell? ⟨gx,1,none⟩=some (.int .i64 (W:Int))) (by kernel_rfl) c1 (fun hHeld=>?_)
  refine hT 0 5 rfl rfl hHeld nPp (v:=?_) (fun x' hSx=>?_) ?_
  rotate_left 1
  ·go_simp <;> with_reducible rfl
  simp only [sA,sB]
  refine hT 1 6 rfl rfl hHeld nPp (v:=?_) (fun x' hSx=>?_) ?_
  rotate_left 1
  ·go_simp <;> with_reducible rfl
  simp only [sA,sB]
  refine hT 2 7 rfl rfl hHeld nPp (v:=?_) (fun x' hSx=>?_) ?_
  rotate_left 1
  ·go_simp <;> with_reducible rfl
  simp only [sA,sB]
  refine hT 3 8 rfl rfl hHeld nPp (v:=?_) (fun x' hSx=>?_) ?_
  rotate_left 1
  ·go_simp <;> with_reducible rfl
  simp only [sA,sB]
  refine hT 4 9 rfl rfl hHeld nPp (v:=?_) (fun x' hSx=>?_) ?_
  rotate_left 1
  ·go_simp <;> with_reducible rfl
  simp only [sA,sB]
  refine hT 5 10 rfl rfl hHeld nPp (v:=?_) (fun x' hSx=>?_) ?_
  rotate_left 1
  ·go_simp <;> with_reducible rfl
  simp only [sA,sB]
  refine hT 6 11 rfl rfl hHeld nPp (v:=?_) (fun x' hSx=>?_) ?_
  rotate_left 1
  ·go_simp <;> with_reducible rfl
  simp only [sA,sB]
  refine hT 7 12 rfl rfl hHeld nPp (v:=?_) (fun x' hSx=>?_) ?_
  rotate_left 1
  ·go_simp <;> with_reducible rfl
  simp only [sA,sB]
  refine hT 8 13 rfl rfl hHeld nPp (v:=?_) (fun x' hSx=>?_) ?_
  rotate_left 1
  ·go_simp <;> with_reducible rfl
  simp only [sA,sB]
  refine hT 9 14 rfl rfl hHeld nPp (v:=?_) (fun x' hSx=>?_) ?_
  rotate_left 1
  ·go_simp <;> with_reducible rfl
  simp only [sA,sB]
  refine hT 10 15 rfl rfl hHeld nPp (v:=?_) (fun x' hSx=>?_) ?_
  rotate_left 1
  ·go_simp <;> with_reducible rfl
  simp only [sA,sB]
  refine hT 11 16 rfl rfl hHeld nPp (v:=?_) (fun x' hSx=>?_) ?_
  rotate_left 1
  ·go_simp <;> with_reducible rfl
  simp only [sA,sB]
  refine hT 12 4 rfl rfl hHeld nPp (v:=?_) (fun x' hSx=>?_) ?_
  rotate_left 1
  ·go_simp <;> with_reducible rfl
  simp only [sA,sB]
  refine wpAnyH_done (by kernel_rfl) ?_ _
  refine NoPanic.normal ?_
  go_wp2_with fail
  go_ret
  exact uh HE
end T6
namespace T6
theorem run_has (z:Nat→Nat) (p d:Nat):∀ m,∃ c,c≤m∧Eqs z p d c∧(c<m→¬ Eqs z p d (c+1))
 | 0=>⟨0,Nat.le_refl _,fun i h=>by omega,fun h=>by omega⟩
 | m+1=>by
  obtain ⟨c,h1,h2,h3⟩:=run_has z p d m
  by_cases e:c=m
  ·subst e
   by_cases hc:z (p+c)=z (p+c - d)
   ·refine ⟨c+1,Nat.le_refl _,fun i hi=>?_,fun h=>by omega⟩
    by_cases e2:i=c
    ·subst e2;exact hc
    ·exact h2 i (by omega)
   ·exact ⟨c,by omega,h2,fun _ h=>hc (h c (by omega))⟩
  ·exact ⟨c,by omega,h2,fun _=>h3 (by omega)⟩
theorem IsBest.has (z:Nat→Nat) (p m:Nat):∀ w,∃ n d,IsBest z p w m n d
 | 0=>⟨0,0,Nat.zero_le _,.inl ⟨rfl,rfl⟩,fun _ d' h1 h2=>by omega⟩
 | w+1=>by
  obtain ⟨n,d,h1,h2,h3⟩:=IsBest.has z p m w
  obtain ⟨c,k1,k2,k3⟩:=run_has z p (w+1) m
  by_cases hc:n<c
  ·refine ⟨c,w+1,k1,.inr ⟨by omega,by omega,Nat.le_refl _,k2,fun d' e1 e2 he=>?_⟩,fun hlt d' e1 e2 he=>?_⟩
   ·exact h3 (by omega) d' e1 (by omega) (he.mono (by omega))
   ·by_cases e:d'=w+1
    ·subst e;exact k3 hlt he
    ·exact h3 (by omega) d' e1 (by omega) (he.mono (by omega))
  ·refine ⟨n,d,h1,?_,fun hlt d' e1 e2 he=>?_⟩
   ·rcases h2 with e | ⟨a1,a2,a3,a4,a5⟩
    ·exact .inl e
    ·exact .inr ⟨a1,a2,by omega,a4,a5⟩
   ·by_cases e:d'=w+1
    ·subst e
     exact k3 (by omega) (he.mono (by omega))
    ·exact h3 hlt d' e1 (by omega) he
def TokAt (zs:List Nat) (W least M p:Nat) (t:Tok) (q:Nat):Prop :=
 ∃ n d:Nat,IsBest (zf zs) p (min p W) (min M (zs.length - p)) n d∧((least≤n∧t=⟨n,d,0⟩∧q=p+n)∨(n<least∧t=⟨0,0,zs.getD p 0⟩∧q=p+1))
theorem TokAt.eq {zs:List Nat} {W least M p q q':Nat} {t t':Tok} (h:TokAt zs W least M p t q) (h':TokAt zs W least M p t' q'):t=t'∧q=q':=by
 obtain ⟨n,d,hb,h⟩:=h
 obtain ⟨n',d',hb',h'⟩:=h'
 obtain ⟨rfl,rfl⟩:=hb.eq hb'
 rcases h with ⟨a1,rfl,rfl⟩ | ⟨a1,rfl,rfl⟩ <;> rcases h' with ⟨b1,rfl,rfl⟩ | ⟨b1,rfl,rfl⟩
 ·exact ⟨rfl,rfl⟩
 ·omega
 ·omega
 ·exact ⟨rfl,rfl⟩
theorem TokAt.le {zs:List Nat} {W least M p q:Nat} {t:Tok} (h:TokAt zs W least M p t q) (hp:p<zs.length) (hl:1≤least):p<q∧q≤zs.length:=by
 obtain ⟨n,d,hb,h⟩:=h
 have:=hb.le
 rcases h with ⟨a1,rfl,rfl⟩ | ⟨a1,rfl,rfl⟩ <;> omega
inductive Parsed (zs:List Nat) (W least M p:Nat):List Tok→Nat→Prop
 | nil:Parsed zs W least M p [] p
 | snoc {ts:List Tok} {q:Nat} {t:Tok} {q':Nat} (h:Parsed zs W least M p ts q) (hq:q<zs.length) (ht:TokAt zs W least M q t q'):Parsed zs W least M p (ts++[t]) q'
theorem Parsed.inv {zs:List Nat} {W least M p q':Nat} {l:List Tok} (h:Parsed zs W least M p l q'):(l=[]∧q'=p)∨∃ ts t q,l=ts++[t]∧Parsed zs W least M p ts q∧q<zs.length∧TokAt zs W least M q t q':=by
 cases h with
 | nil=>exact .inl ⟨rfl,rfl⟩
 | snoc h hq ht=>exact .inr ⟨_,_,_,rfl,h,hq,ht⟩
theorem Parsed.len {zs:List Nat} {W least M p q:Nat} {l:List Tok} (hl:1≤least) (hp:p≤zs.length) (h:Parsed zs W least M p l q):l.length+p≤q∧q≤zs.length:=by
 induction h with
 | nil=>simp;exact hp
 | snoc h hq ht ih =>
  have:=ht.le hq hl
  simp
  omega
theorem Parsed.fn {zs:List Nat} {W least M p q q':Nat} {l l':List Tok} (h:Parsed zs W least M p l q):Parsed zs W least M p l' q'→l.length=l'.length→l=l'∧q=q':=by
 induction h generalizing l' q' with
 | nil =>
  intro h' e
  rcases h'.inv with ⟨rfl,rfl⟩ | ⟨ts,t,q,rfl,_⟩
  ·exact ⟨rfl,rfl⟩
  ·simp at e
 | snoc h hq ht ih =>
  intro h' e
  rcases h'.inv with ⟨rfl,rfl⟩ | ⟨ts2,t2,q2,rfl,h2,hq2,ht2⟩
  ·simp at e
  ·obtain ⟨rfl,rfl⟩:=ih h2 (by simpa using e)
   obtain ⟨rfl,rfl⟩:=ht.eq ht2
   exact ⟨rfl,rfl⟩
theorem Parsed.pre {zs:List Nat} {W least M p q:Nat} {l:List Tok} (h:Parsed zs W least M p l q):∀ k,k<l.length→∃ qk,Parsed zs W least M p (l.take k) qk∧qk<zs.length:=by
 induction h with
 | nil=>intro k hk;simp at hk
 | @snoc ts q t q' h hq ht ih =>
  intro k hk
  simp at hk
  by_cases e:k=ts.length
  ·subst e
   refine ⟨q,?_,hq⟩
   simpa using h
  ·obtain ⟨qk,h1,h2⟩:=ih k (by omega)
   refine ⟨qk,?_,h2⟩
   rw [List.take_append_of_le_length (by omega)]
   exact h1
theorem Parsed.eq {zs:List Nat} {W least M p:Nat} {l l':List Tok} (h:Parsed zs W least M p l zs.length) (h':Parsed zs W least M p l' zs.length):l=l':=by
 have key:∀ {a b:List Tok},Parsed zs W least M p a zs.length→Parsed zs W least M p b zs.length→¬ a.length<b.length:=fun {a b} ha hb hlt=>by
  obtain ⟨qk,h1,h2⟩:=hb.pre a.length hlt
  have:=(ha.fn h1 (by simp;omega)).2
  omega
 exact (h.fn h' (Nat.le_antisymm (Nat.le_of_not_lt (key h' h)) (Nat.le_of_not_lt (key h h')))).1
theorem tok_of {zs:List Nat} {o p W least M s0 n d:Nat} (hl:1≤least) (hs0:s0≤least) (hs1:1≤s0) (ho:o+p<zs.length) (hwin:o=0∨W≤p)
  (h:IsBest (zf (zs.drop o)) p (min p W) (min M ((zs.drop o).length - p)) n d∨(n=0∧d=0∧(NoneIn (zf (zs.drop o)) p (min p W) s0∨(zs.drop o).length<p+s0))) :
  (n<least→TokAt zs W least M (o+p) ⟨0,0,(zs.drop o).getD p 0⟩ (o+p+1))∧(¬ n<least→TokAt zs W least M (o+p) ⟨n,d,0⟩ (o+p+n)∧1≤n∧p+n≤(zs.drop o).length):=by
 have hlen:(zs.drop o).length=zs.length - o:=by simp
 have hmin:min (o+p) W=min p W:=by rcases hwin with h | h <;> omega
 have hm:min M (zs.length - (o+p))=min M ((zs.drop o).length - p):=by rw [hlen,Nat.sub_sub]
 have hg:∀ i,(zs.drop o).getD i 0=zs.getD (o+i) 0:=fun i=>by simp [List.getD_eq_getElem?_getD]
 have sh:∀ {n d:Nat},IsBest (zf (zs.drop o)) p (min p W) (min M ((zs.drop o).length - p)) n d→IsBest (zf zs) (o+p) (min (o+p) W) (min M (zs.length - (o+p))) n d:=fun {n d} hb=>by
  rw [hmin,hm]
  exact hb.shift (by omega) (fun i _=>hg i)
 refine ⟨fun hn=>?_,fun hn=>?_⟩
 ·rw [hg]
  rcases h with hb | ⟨rfl,rfl,hno⟩
  ·exact ⟨n,d,sh hb,.inr ⟨hn,rfl,rfl⟩⟩
  ·obtain ⟨n',d',hb⟩:=IsBest.has (zf (zs.drop o)) p (min M ((zs.drop o).length - p)) (min p W)
   refine ⟨n',d',sh hb,.inr ⟨?_,rfl,rfl⟩⟩
   rcases hno with hno | hno
   ·have:=hno.short hs1 hb
    omega
   ·have:=hb.le
    omega
 ·rcases h with hb | ⟨rfl,rfl,_⟩
  ·have:=hb.le
   exact ⟨⟨n,d,sh hb,.inl ⟨by omega,rfl,rfl⟩⟩,by omega,by omega⟩
  ·omega
end T6
namespace T6
open Go.RowKit
attribute [local go_sem ↓] wp_at_zero wp_at_succ
end T6
namespace T6
open Go.RowKit
attribute [local go_sem ↓] wp_at_zero wp_at_succ
end T6
namespace T6
open Go.RowKit
attribute [local go_sem ↓] wp_at_zero wp_at_succ
end T6
namespace T6
open Go.RowKit
def tcells:List Tok→List Value
 | []=>[]
 | t :: ts=>.int .i64 t.n :: .int .i64 t.d :: .int .u8 (t.b:Int) :: tcells ts
theorem tcells_length:∀ ts:List Tok,(tcells ts).length=ts.length*3
 | []=>rfl
 | t :: ts=>by simp [tcells,tcells_length ts];omega
theorem tcells_append:∀ a b:List Tok,tcells (a++b)=tcells a++tcells b
 | [],_=>rfl
 | t :: ts,b=>by simp [tcells,tcells_append ts b]
theorem tcells_one (ts:List Tok):∀ u∈tcells ts,u.oneCell'=true:=by
 induction ts with
 | nil=>intro u hu;simp [tcells] at hu
 | cons t ts ih =>
  intro u hu
  simp only [tcells,List.mem_cons] at hu
  rcases hu with rfl | rfl | rfl | hu
  ·rfl
  ·rfl
  ·rfl
  ·exact ih u hu
def ReadsTN (w:World) (a:Option Addr) (cap:Nat) (ts:List Tok):Prop:=(a=none∧cap=0∧ts=[])∨∃ ad,a=some ad∧ts.length≤cap∧∀ (j:Nat) u,(tcells ts)[j]?=some u→w.cell? (ad.add j)=some u
theorem wpList_append_toks {w:World} {ops:Array Oper} {rest:List Oper} {o:Oper} {a:Act} {Q:Exit→Act→World→Prop} (hgd:o.guard=none) (s x:Operand)
  (ho:o.op=.call { callee:=.builtin .append,args:=#[s,x],argTypes:=#[46,46] })
  (base:Nat) (v:Value) (n:Nat) (xs:List Tok) (hs:a.eval s=v) (hown:w.ownsRow base 76 3 v n (tcells xs))
  (sa:Option Addr) (m c:Nat) (zs:List Tok) (hm:m=zs.length) (hx:a.eval x=.slice sa m c) (hr:ReadsTN w sa c zs) (h63:(n+m)*24≤140737488355328) (hbase:base≤w.heap.size)
  (h:∀ v' w',w'.ownsRow base 76 3 v' (n+m) (tcells (xs++zs))→w.grownBy w' v.ownBlock→wpList Tryz.prog ops Q rest (a.put o.dst v') w'):wpList Tryz.prog ops Q (o :: rest) a w:=by
 obtain ⟨i0,hii,hz0,hz1,hz2⟩:=info_parts info37
 rcases hr with ⟨rfl,rfl,rfl⟩ | ⟨ad,rfl,hl,hc⟩
 ·obtain rfl:m=0:=hm
  exact wpList_append_own_none hgd s x 46 ho base 76 i0 3 Tryz.underlying46 hii v n (tcells xs) hs hown hx (h v w (by simpa using hown) (World.grownBy.refl _ _))
 ·exact wpList_append_own (w:=w) hgd s x 46 ho base 76 i0 _ 3 24 Tryz.underlying46 hii hz0 hz1 hz2 rfl (by decide) v n (tcells xs) hs hown ad m c (tcells zs) hx (by rw [tcells_length,hm]) hc
   (tcells_one _) (by unfold maxLen;omega) h63 hbase (fun v' w' h1 h2 h3=>h v' w' (by rw [tcells_append];exact h1) h2)
end T6
namespace T6
open Go.RowKit Go.Maps
def XAt (zl:List Nat) (H0 W M s0 gx p:Nat) (tx:Value) (ws:World):Prop :=
 ws.heap[gx]?=some (.cells #[tx,.int .i64 (W:Int),.int .i64 (M:Int),.slice none 0 0,.int .i64 0] 123 (0,0)) ∨
 ∃ (B f N:Nat) (b:Nat→Nat) (v:Nat→Value) (gl lc:Nat),H0≤B∧B≤ws.heap.size∧f≤p∧1≤N∧N≤4∧N≤lc∧(∀ j,j<N→1≤s0*2 ^ j∧s0*2 ^ j≤8)∧s0*2 ^ (N - 1)≤M ∧
  IdxAt zl B N (fun j=>s0*2 ^ j) b v (fun j=>cnt zl.length (s0*2 ^ j) f) gx gl lc W M f tx ws
theorem XAt.c0 {zl:List Nat} {H0 W M s0 gx p:Nat} {tx:Value} {ws:World} (h:XAt zl H0 W M s0 gx p tx ws):ws.cell? ⟨gx,0,none⟩=some tx:=by
 rcases h with h | ⟨B,f,N,b,v,gl,lc,_,_,_,_,_,_,_,_,h⟩
 ·simp [World.cell?,h]
 ·exact h.x0
theorem XAt.c1 {zl:List Nat} {H0 W M s0 gx p:Nat} {tx:Value} {ws:World} (h:XAt zl H0 W M s0 gx p tx ws):ws.cell? ⟨gx,1,none⟩=some (.int .i64 (W:Int)):=by
 rcases h with h | ⟨B,f,N,b,v,gl,lc,_,_,_,_,_,_,_,_,h⟩
 ·simp [World.cell?,h]
 ·exact h.x1
theorem XAt.mono {zl:List Nat} {H0 W M s0 gx p q:Nat} {tx:Value} {ws:World} (h:XAt zl H0 W M s0 gx p tx ws) (hq:p≤q):XAt zl H0 W M s0 gx q tx ws:=by
 rcases h with h | ⟨B,f,N,b,v,gl,lc,h1,h2,h3,h⟩
 ·exact .inl h
 ·exact .inr ⟨B,f,N,b,v,gl,lc,h1,h2,by omega,h⟩
theorem XAt.keep {zl:List Nat} {H0 W M s0 gx p:Nat} {tx:Value} {ws w':World} (h:XAt zl H0 W M s0 gx p tx ws) (hs:ws.heap.size≤w'.heap.size) (hk:∀ x,x<ws.heap.size→(∀ cs f,ws.heap[x]?≠some (.cells cs 76 f))→w'.heap[x]?=ws.heap[x]?):XAt zl H0 W M s0 gx p tx w':=by
 have kc:∀ (x:Nat) (cs:Array Value) (t:TypeId) (f:Nat × Nat),ws.heap[x]?=some (.cells cs t f)→t≠76→w'.heap[x]?=ws.heap[x]?:=fun x cs t f hx ht=>hk x (heap_lt hx) (fun cs' f' e=>by
  rw [hx] at e
  injection e with e
  injection e with _ e _
  exact ht e)
 rcases h with h | ⟨B,f,N,b,v,gl,lc,h1,h2,h3,h4,h5,h6,h7,h8,h⟩
 ·exact .inl (by rw [kc gx _ _ _ h (by decide)];exact h)
 ·refine .inr ⟨B,f,N,b,v,gl,lc,h1,by omega,h3,h4,h5,h6,h7,h8,?_,?_,h.xB⟩
  ·rw [kc gx _ _ _ h.xb (by decide)];exact h.xb
  ·obtain ⟨cs,hcs⟩:=h.lvs.blk
   refine h.lvs.kept (kc _ _ _ _ hcs (by decide)) (fun j hj=>?_) (fun j q hj hq=>?_)
   ·obtain ⟨es,ck,hb⟩:=(h.lvs.lv j hj).mp.is
    exact hk _ (heap_lt hb) (fun cs f e=>by rw [hb] at e;cases e)
   ·obtain ⟨_,cs,f,hh⟩:=own_base (h.lvs.lv j hj).row hq
    exact kc _ _ _ _ hh (by decide)
def PMIs (zl:List Nat) (H0 W M s0 gx p:Nat) (tx:Value) (ws:World) (e:Ending) (w':World):Prop :=
 ∃ n d:Nat,e=.returned (.tuple #[.int .i64 (n:Int),.int .i64 (d:Int)])∧(IsBest (zf zl) p (min p W) (min M (zl.length - p)) n d∨(n=0∧d=0∧(NoneIn (zf zl) p (min p W) s0∨zl.length<p+s0)))∧XAt zl H0 W M s0 gx p tx w'∧Keeps H0 [3,123,162] ws w'
theorem match_any (zl:List Nat) (H0 W M s0 gx p:Nat) (a:Option Addr) (cap:Nat) (ws:World) (hx:XAt zl H0 W M s0 gx p (.slice a zl.length cap) ws) (hr:ReadsU H0 ws (.slice a zl.length cap) zl) (hcap:zl.length≤cap) (hz:∀ c∈zl,c<256) (hl:zl.length≤100000000) (hp:p<zl.length) (hH:H0≤ws.heap.size) (hH0:0<H0) (hW:W≤9223372036854775807) (hM:M≤9223372036854775807) (hm:ML ws) :
  Calls Tryz.prog 65 #[.pointer (some ⟨gx,0,none⟩),.int .i64 (p:Int)] ws fun e w'=>PMIs zl H0 W M s0 gx p (.slice a zl.length cap) ws e w':=by
 have hx0:=hx.c0
 have hx1:=hx.c1
 rcases id hx with h | ⟨B,f,N,b,v,gl,lc,h1,h2,h3,h4,h5,h6,h7,h8,h⟩
 ·refine (match_zero zl a H0 cap p W M gx ws hr hcap hz hl (by omega) hH hW hM hx0 hx1 (by simp [World.cell?,h]) (by simp [World.cell?,h]) hm).mono ?_
  rintro e w' ⟨n,d,rfl,hb,hbel⟩
  exact ⟨n,d,rfl,.inl hb,hx.keep hbel.size (fun x hx _=>hbel.block x hx),Keeps.of_below hbel⟩
 ·obtain ⟨ba,off,rfl⟩:∃ ba off,a=some ⟨ba,off,none⟩:=by
   obtain ⟨a',c',e,_,hs⟩:=hr
   injection e with e1 e2 e3
   obtain ⟨b',off',e,_⟩:=hs (by omega)
   exact ⟨b',off',by rw [e1];exact e⟩
  refine (match_lev zl B N (fun j=>s0*2 ^ j) b v gx gl lc W M f p cap ba off ws h5 h4 h6 h7 (fun j hj=>by show s0*2 ^ (j+1)=2*(s0*2 ^ j);rw [Nat.pow_succ,Nat.mul_comm 2,Nat.mul_assoc]) h8 (hr.mono h1) hcap hz hp h3 hl h2 (by omega) hW hM h hm).mono ?_
  rintro e w' ⟨n,d,rfl,hres,⟨v',hx'⟩,hk⟩
  have hres':IsBest (zf zl) p (min p W) (min M (zl.length - p)) n d∨(n=0∧d=0∧(NoneIn (zf zl) p (min p W) s0∨zl.length<p+s0)):=by
   have e:s0*2 ^ 0=s0:=by simp
   unfold MRes at hres
   simp only [e] at hres
   exact hres
  exact ⟨n,d,rfl,hres',.inr ⟨B,p,N,b,v',gl,lc,h1,by have:=hk.size;omega,Nat.le_refl _,h4,h5,h6,h7,h8,hx'⟩,⟨hk.os,hk.tape,hk.output,hk.size,fun x hx hB=>hk.low x hx (by omega),hk.typ⟩⟩
theorem new_any (zl:List Nat) (H0 W M s0 p:Nat) (tx:Value) (ws:World) (e:Ending) (w':World) (hH:H0≤ws.heap.size) (h:NewIs zl ws.heap.size W M s0 tx ws e w'):e=.returned (.pointer (some ⟨ws.heap.size,0,none⟩))∧Below ws.heap.size ws w'∧XAt zl H0 W M s0 ws.heap.size p tx w':=by
 obtain ⟨rfl,hb,hor⟩:=h
 refine ⟨rfl,hb,?_⟩
 rcases hor with h | ⟨N,b,gl,lc,h1,h2,h3,h4,h5,h⟩
 ·exact .inl h
 ·exact .inr ⟨ws.heap.size,0,N,b,_,gl,lc,hH,hb.size,Nat.zero_le _,h1,h2,h3,h4,h5,h⟩
end T6
namespace T6
open Go.RowKit Go.Maps
attribute [local go_sem ↓] wp_at_zero wp_at_succ
theorem look_all (zl:List Nat) (a:Option Addr) (cap B p W K:Nat) (w:World) (hr:ReadsU B w (.slice a zl.length cap) zl) (hcap:zl.length≤cap) (hp:p≤zl.length) (hl:zl.length≤100000000) (hW:W≤9223372036854775807) (hK:zl.length - p≤K) (hK2:K≤100000000) :
  Calls Tryz.prog 62 #[.slice a zl.length cap,.int .i64 (p:Int),.int .i64 (W:Int),.int .i64 (K:Int)] w fun e w'=>∃ a',e=.returned (.tuple #[.slice a' (zl.drop (p - min p W)).length (zl.drop (p - min p W)).length,.int .i64 ((min p W:Nat):Int)])∧ReadsU B w (.slice a' (zl.drop (p - min p W)).length (zl.drop (p - min p W)).length) (zl.drop (p - min p W))∧w'=w:=by
 have e:min p W+min K (zl.length - p)=(zl.drop (p - min p W)).length:=by simp;omega
 have e2:(zl.drop (p - min p W)).take (zl.drop (p - min p W)).length=zl.drop (p - min p W):=List.take_length
 have h:=look_ok zl a cap B p W K w hr hcap hp (by omega) hW (by omega)
 rw [e,e2] at h
 exact h
structure PAt (zs:List Nat) (H0 W least M P0 o p gx:Nat) (a:Option Addr) (tv:Value) (ts:List Tok) (w ws:World):Prop where
 par:Parsed zs W least M P0 ts (o+p)
 win:o=0∨W≤p
 le:o+p≤zs.length
 rd:ReadsU H0 ws (.slice a (zs.drop o).length (zs.drop o).length) (zs.drop o)
 row:ws.ownsRow H0 76 3 tv ts.length (tcells ts)
 bel:Below H0 w ws
 ix:XAt (zs.drop o) H0 W M (min least 8) gx p (.slice a (zs.drop o).length (zs.drop o).length) ws
section
variable {zs:List Nat} {H0 W least M P0 o p gx:Nat} {a:Option Addr} {tv:Value} {ts:List Tok} {w ws w':World}
theorem row_type {B n:Nat} {v:Value} {xs:List Value} {e size:Nat} (h:ws.ownsRow B e size v n xs) {q:Nat} (hq:v.ownBlock=some q):q<ws.heap.size∧∃ cs,ws.heap[q]?=some (.cells cs e (0,0)):=by
 obtain ⟨_,cs,h2⟩:=row_ty h hq
 exact ⟨heap_lt h2,cs,h2⟩
theorem PAt.drew (h:PAt zs H0 W least M P0 o p gx a tv ts w ws):PAt zs H0 W least M P0 o p gx a tv ts w ws.drew :=
 ⟨h.par,h.win,h.le,h.rd.stays ⟨rfl,rfl,rfl,Nat.le_refl _,fun _ _=>rfl⟩,own_keep h.row (fun _ _=>rfl),⟨h.bel.os,h.bel.tape,h.bel.output,h.bel.size,h.bel.block⟩,h.ix.keep (Nat.le_refl _) (fun _ _ _=>rfl)⟩
theorem PAt.met (h:PAt zs H0 W least M P0 o p gx a tv ts w ws) (hs:H0≤ws.heap.size) (hk:Keeps H0 [3,123,162] ws w') (hx:XAt (zs.drop o) H0 W M (min least 8) gx p (.slice a (zs.drop o).length (zs.drop o).length) w'):PAt zs H0 W least M P0 o p gx a tv ts w w':=by
 have hbl:Below H0 ws w':=hk.below hs
 exact ⟨h.par,h.win,h.le,h.rd.stays hbl,own_keep h.row (fun q hq=>by
  obtain ⟨_,cs,hcs⟩:=row_type h.row hq
  exact hk.typ q _ _ _ hcs (by decide)),h.bel.trans hbl,hx⟩
theorem PAt.anew {o' p':Nat} {a':Option Addr} (h:PAt zs H0 W least M P0 o p gx a tv ts w ws) (hs:H0≤ws.heap.size) (ho:o'+p'=o+p) (hwin:o'=0∨W≤p') (hrd:ReadsU H0 ws (.slice a' (zs.drop o').length (zs.drop o').length) (zs.drop o')) (hb:Below ws.heap.size ws w') (hx:XAt (zs.drop o') H0 W M (min least 8) ws.heap.size p' (.slice a' (zs.drop o').length (zs.drop o').length) w'):PAt zs H0 W least M P0 o' p' ws.heap.size a' tv ts w w':=by
 have hbl:Below H0 ws w':=⟨hb.os,hb.tape,hb.output,hb.size,fun k hk=>hb.block k (by omega)⟩
 exact ⟨by rw [ho];exact h.par,hwin,by rw [ho];exact h.le,hrd.stays hbl,own_keep h.row (fun q hq=>hb.block q (row_type h.row hq).1),h.bel.trans hbl,hx⟩
theorem PAt.app {t:Tok} {q:Nat} {blk:Obj} {tv':Value} (h:PAt zs H0 W least M P0 o p gx a tv ts w ws) (hs:H0≤ws.heap.size) (hp:o+p<zs.length) (ht:TokAt zs W least M (o+p) t (o+q)) (hq:p≤q) (hql:o+q≤zs.length) (hown:w'.ownsRow H0 76 3 tv' (ts.length+1) (tcells (ts++[t]))) (hg:(ws.alloc blk).grownBy w' tv.ownBlock):PAt zs H0 W least M P0 o q gx a tv' (ts++[t]) w w':=by
 have k1:∀ x,x<ws.heap.size→tv.ownBlock≠some x→w'.heap[x]?=ws.heap[x]?:=fun x hx hr=>by
  rw [hg.block x (by simp;omega) (fun e=>hr e.symm)];exact Below.heap_alloc _ _ _ hx
 have hbl:Below H0 ws w':=⟨hg.os,hg.tape,hg.output,by have:=hg.size;simp at this;omega,fun k hk=>k1 k (by omega) (fun e=>by have:=(row_ty h.row e).1;omega)⟩
 refine ⟨h.par.snoc hp ht,?_,hql,h.rd.stays hbl,by simpa using hown,h.bel.trans hbl,((h.ix.keep hbl.size (fun x hx hne=>k1 x hx (fun e=>?_))).mono hq)⟩
 ·rcases h.win with e | e
  ·exact .inl e
  ·exact .inr (by omega)
 ·obtain ⟨_,cs,hcs⟩:=row_type h.row e
  exact hne _ _ hcs
end
end T6
namespace T6
open Go.RowKit Go.Maps
attribute [local go_sem ↓] wp_at_zero wp_at_succ
theorem new_tok (w:World) (t:Tok):ReadsTN (w.alloc (.cells #[.int .i64 t.n,.int .i64 t.d,.int .u8 (t.b:Int)] 76)) (some ⟨w.heap.size,0,none⟩) 1 [t]:=by
 refine .inr ⟨_,rfl,by simp,fun j u hj=>?_⟩
 have ea:(⟨w.heap.size,0,none⟩:Addr).add j=⟨w.heap.size,j,none⟩:=by by_cases hq:j=0 <;> simp [Addr.add,hq]
 rw [ea]
 simp only [World.cell?]
 rw [heap_alloc_at,if_pos rfl]
 simpa [tcells] using hj
def ParsedIs (zs:List Nat) (p W least M:Nat) (w:World) (e:Ending) (w':World):Prop :=
 ∃ (tv:Value) (ts:List Tok),e=.returned (.tuple #[tv,.int .i64 0])∧Parsed zs W least M p ts zs.length∧w'.ownsRow w.heap.size 76 3 tv ts.length (tcells ts)∧Below w.heap.size w w'
theorem parse_good (zs:List Nat) (a0:Option Addr) (cap P0 W least M:Nat) (w:World) (hr:ReadsU w.heap.size w (.slice a0 zs.length cap) zs) (hcap:zs.length≤cap) (hz:∀ c∈zs,c<256) (hl:zs.length≤100000000) (hp0:P0≤zs.length) (hW1:1≤W) (h1:1≤least) (hlM:least≤M) (hW:W≤9223372036854775807) (hM:M≤9223372036854775807) (hm:ML w) :
  Calls Tryz.prog 29 #[.slice a0 zs.length cap,.int .i64 (P0:Int),.int .i64 (W:Int),.int .i64 (least:Int),.int .i64 (M:Int)] w fun e w'=>ParsedIs zs P0 W least M w e w':=by
 obtain ⟨H0,hH⟩:∃ H0,H0=w.heap.size:=⟨_,rfl⟩
 have HHW:=qz hH
 have hH00:0<H0:=by obtain ⟨m,hm⟩:=hm;have:=cell_lt hm;rw [hH];exact this
 have HMLS:Hid (∀ ws,Below H0 w ws→ML ws):=qz fun ws hb=>by
  obtain ⟨m,hm⟩:=hm
  exact ⟨m,cell_below hb hm hH00⟩
 have HZD:Hid (∀ o,∀ c∈zs.drop o,c<256):=qz fun o c hc=>hz c (List.mem_of_mem_drop hc)
 have HLA:=qz (look_all zs a0 cap w.heap.size P0 W zs.length w hr hcap hp0 hl hW (by omega) hl)
 obtain ⟨L,hL⟩:∃ L,L=zs.length:=⟨_,rfl⟩
 have HLL:Hid (∀ o,(zs.drop o).length=L - o):=qz fun o=>by rw [hL];simp
 rw [← hL] at HLA hcap hl hp0 ⊢
 have HTX:=qz hL
 have t1:¬ (P0:Int)<0:=by omega
 have t2:¬ (L:Int)<(P0:Int):=by omega
 have t3:¬ (W:Int)<1:=by omega
 have t4:¬ (least:Int)<1:=by omega
 have t5:¬ (M:Int)<(least:Int):=by omega
 clear hm hr hz hL hH
 go_enter Tryz.func29,Tryz.ntmps29
 go_wp2_with fail
 refine (uh HLA).mono ?_
 rintro e w' ⟨a,rfl,hrd,hww⟩
 replace hww:=hww.symm
 subst hww
 obtain ⟨o,ho⟩:∃ o,o=P0 - min P0 W:=⟨_,rfl⟩
 obtain ⟨p,hpp⟩:∃ p,p=min P0 W:=⟨_,rfl⟩
 have HOP:Hid (o+p=P0):=qz (by omega)
 have HWIN:Hid (o=0∨W≤p):=qz (by omega)
 rw [← ho] at hrd ⊢
 rw [← hpp]
 obtain ⟨Ll,hLl⟩:∃ Ll,Ll=(zs.drop o).length:=⟨_,rfl⟩
 have HLO:Hid (Ll=L - o):=qz (by rw [hLl];exact uh HLL o)
 rw [← hLl] at hrd ⊢
 have HNW:=qz (new_ok (zs.drop o) a Ll Ll p W least M w (by have:=uh HLO;omega) (by have:=uh HLO;have:=uh HOP;omega) h1 hlM hM)
 have HLLl:=qz hLl
 clear hLl
 have HRD:=qz hrd
 clear hrd HLA ho hpp
 go_wp2_with fail
 refine (uh HNW).mono ?_
 rintro e w1 hnew
 obtain ⟨rfl,hb1,hx1⟩:=new_any (zs.drop o) H0 W M (min least 8) p _ w e w1 (by rw [uh HHW];exact Nat.le_refl _) hnew
 have hsz1:w.heap.size=H0:=(uh HHW).symm
 rw [hsz1] at hb1 hx1 ⊢
 have HP1:Hid (PAt zs H0 W least M P0 o p H0 a (.slice none 0 0) [] w w1):=qz (by
  have h0:=uh HRD
  rw [hsz1] at h0
  refine ⟨by rw [uh HOP];exact .nil,uh HWIN,by rw [uh HOP,← uh HTX];exact hp0,?_,World.ownsRow_nil _ _ _ _,hb1,by rw [← uh HLLl];exact hx1⟩
  rw [← uh HLLl]
  exact h0.stays hb1)
 clear hb1 hx1 hnew HRD HNW
 obtain ⟨p0,hp0'⟩:∃ p0,p0=p:=⟨_,rfl⟩
 rw [← hp0'] at HP1 HOP HWIN ⊢
 clear hp0' hsz1
 go_wp2_with fail
 go_loopg [12,14,15] (L - (o+p0)) (fun gk tv av sv ws=>∃ (o p gx:Nat) (a:Option Addr) (ts:List Tok),gk=L - (o+p)∧av=.int .i64 (p:Int)∧sv=.pointer (some ⟨gx,0,none⟩)∧PAt zs H0 W least M P0 o p gx a tv ts w ws)
 case atStart=>exact ⟨o,p0,H0,a,[],rfl,rfl,rfl,uh HP1⟩
 case round =>
  clear HP1 HOP HWIN HLO HLLl
  obtain ⟨o,p,gx,a,ts,rfl,rfl,rfl,hat⟩:=hrel
  have c0:=hat.ix.c0
  have c1:=hat.ix.c1
  obtain ⟨Ll,hLl⟩:∃ Ll,Ll=(zs.drop o).length:=⟨_,rfl⟩
  have HLO:Hid (Ll=L - o):=qz (by rw [hLl];exact uh HLL o)
  rw [← hLl] at c0
  have HLLl:=qz hLl
  have hople:o+p≤L:=by rw [uh HTX];exact hat.le
  clear hLl
  by_cases hlt:p<Ll
  ·have hlti:(p:Int)<(Ll:Int):=by omega
   have hopL:o+p<L:=by have:=uh HLO;omega
   have HOUT:=qz (out_ok gx p W wr (by omega) hW c1)
   have HP:=qz hat
   clear hat c1
   go_wp2_with fail
   refine (uh HOUT).mono ?_
   rintro e ws ⟨hor,hws⟩
   have hat:PAt zs H0 W least M P0 o p gx a u12 ts w ws:=by rw [hws];exact (uh HP).drew
   clear hws HP HOUT c0
   rcases hor with ⟨rfl,hWp⟩ | rfl
   ·have c0:=hat.ix.c0
    rw [← uh HLLl] at c0
    have HLA2:=qz (look_all (zs.drop o) a (zs.drop o).length H0 p W L ws hat.rd (Nat.le_refl _) (by rw [← uh HLLl];omega) (by rw [← uh HLLl];have:=uh HLO;omega) hW (by rw [← uh HLLl];have:=uh HLO;omega) hl)
    rw [show min p W=W by omega,List.drop_drop,← uh HLLl] at HLA2
    obtain ⟨o2,ho2⟩:∃ o2,o2=o+(p - W):=⟨_,rfl⟩
    rw [← ho2] at HLA2
    obtain ⟨L2,hL2⟩:∃ L2,L2=(zs.drop o2).length:=⟨_,rfl⟩
    have HLO2:Hid (L2=L - o2):=qz (by rw [hL2];exact uh HLL o2)
    rw [← hL2] at HLA2
    have HL2:=qz hL2
    have HO2:=qz ho2
    have hsz:H0≤ws.heap.size:=by have:=hat.bel.size;rw [← uh HHW] at this;exact this
    have HP:=qz hat
    clear hat hL2 ho2
    go_wp2_with fail
    refine (uh HLA2).mono ?_
    rintro e w5 ⟨a2,rfl,hrd2,hww⟩
    replace hww:=hww.symm
    subst hww
    have HNW2:=qz (new_ok (zs.drop o2) a2 L2 L2 W W least M ws (by have:=uh HLO2;omega) (by have:=uh HLO2;have:=uh HO2;omega) h1 hlM hM)
    have HRD2:=qz hrd2
    clear hrd2 HLA2 c0
    go_wp2_with fail
    refine (uh HNW2).mono ?_
    rintro e w6 hnew2
    obtain ⟨rfl,hb6,hx6⟩:=new_any (zs.drop o2) H0 W M (min least 8) W _ ws e w6 hsz hnew2
    have hat3:=(uh HP).anew (o':=o2) (p':=W) (a':=a2) hsz (by have:=uh HO2;omega) (.inr (Nat.le_refl _)) (by rw [← uh HL2];exact uh HRD2) hb6 (by rw [← uh HL2];exact hx6)
    have hlt2:W<L2:=by have:=uh HLO2;have:=uh HO2;omega
    have hopL2:o2+W<L:=by have:=uh HO2;omega
    have hme:L - (o2+W)=L - (o+p):=by have:=uh HO2;omega
    obtain ⟨gx2,hgx2⟩:∃ gx2,gx2=ws.heap.size:=⟨_,rfl⟩
    rw [← hgx2] at hat3 ⊢
    have HME:=qz hme
    clear hnew2 hb6 hx6 HP HNW2 HRD2 hgx2 hlt hlti hopL HLO HLLl hme HO2
    have hsz6:H0≤w6.heap.size:=by have:=hat3.bel.size;rw [← uh HHW] at this;exact this
    have HMA:=qz (match_any (zs.drop o2) H0 W M (min least 8) gx2 W a2 (zs.drop o2).length w6 hat3.ix hat3.rd (Nat.le_refl _) (uh HZD o2) (by have:=uh HLL o2;omega) (by rw [← uh HL2];exact hlt2) hsz6 hH00 hW hM ((uh HMLS) _ hat3.bel))
    rw [← uh HL2] at HMA
    have HPA:=qz hat3
    clear hat3
    go_wp2_with fail
    refine (uh HMA).mono ?_
    rintro e W2 ⟨n,d,rfl,hres,hx2,hk2⟩
    rw [← uh HL2] at hres
    have hat2:=(uh HPA).met hsz6 hk2 (by rw [← uh HL2];exact hx2)
    have hsz2:H0≤W2.heap.size:=by have:=hk2.size;omega
    have htok:=tok_of (zs:=zs) (o:=o2) (p:=W) (W:=W) (least:=least) (M:=M) (s0:=min least 8) (n:=n) (d:=d) h1 (by omega) (by omega) (by rw [← uh HTX];exact hopL2) hat2.win (by rw [← uh HL2];exact hres)
    have c0:=hat2.ix.c0
    rw [← uh HL2] at c0
    have hlen:=(hat2.par.len h1 (by rw [← uh HTX];exact hp0)).1
    have hnm:n≤L:=by
     rcases hres with hb | ⟨e,_⟩
     ·have:=hb.le;have:=uh HLO2;omega
     ·omega
    obtain ⟨K,hK⟩:∃ K,K=ts.length:=⟨_,rfl⟩
    clear HMA HPA hres hx2 hk2
    by_cases hnl:n<least
    ·have hnli:(n:Int)<(least:Int):=by omega
     obtain ⟨ba,off,rfl⟩:∃ ba off,a2=some ⟨ba,off,none⟩:=by
      obtain ⟨a',c',e,_,hs⟩:=hat2.rd
      injection e with e1 e2 e3
      obtain ⟨b',off',e,_⟩:=hs (by rw [← uh HL2];omega)
      exact ⟨b',off',by rw [e1];exact e⟩
     have kb:W2.cell? ⟨ba,off+W,none⟩=some (.int .u8 ((zs.drop o2).getD W 0:Int)):=by
      obtain ⟨a',c',e,_,hs⟩:=hat2.rd
      injection e with e1 e2 e3
      obtain ⟨b',off',e,_,hc⟩:=hs (by rw [← uh HL2];omega)
      rw [← e1] at e
      injection e with e
      injection e with e1 e2
      subst e1 e2
      exact hc W (by rw [← uh HL2];omega)
     have ht:=htok.1 hnl
     obtain ⟨y,hy⟩:∃ y,y=(zs.drop o2).getD W 0:=⟨_,rfl⟩
     rw [← hy] at kb ht
     have HROW:=qz (hat2.row.alloc (.cells #[.int .i64 0,.int .i64 0,.int .u8 (y:Int)] 76))
     have HRT:Hid (ReadsTN (W2.alloc (.cells #[.int .i64 0,.int .i64 0,.int .u8 (y:Int)] 76)) (some ⟨W2.heap.size,0,none⟩) 1 [⟨0,0,y⟩]):=qz (new_tok W2 ⟨0,0,y⟩)
     have HAPP:Hid (∀ v' w3,w3.ownsRow H0 76 3 v' (K+1) (tcells (ts++[⟨0,0,y⟩]))→(W2.alloc (.cells #[.int .i64 0,.int .i64 0,.int .u8 (y:Int)] 76)).grownBy w3 u12.ownBlock→PAt zs H0 W least M P0 o2 (W+1) gx2 (some ⟨ba,off,none⟩) v' (ts++[⟨0,0,y⟩]) w w3):=qz fun v' w3 q1 q2=>hat2.app hsz2 (by rw [← uh HTX];exact hopL2) (by rw [← Nat.add_assoc];exact ht) (by omega) (by rw [← uh HTX];omega) (by rw [← hK];exact q1) q2
     rw [← hK] at HROW
     clear hat2 ht htok hy
     go_wp2_with (at_builtin;go_must (refine wpList_append_toks rfl _ _ rfl H0 u12 K ts (by rfl) (uh HROW) _ 1 1 [⟨0,0,y⟩] rfl (by rfl) (uh HRT) (by omega) (by simp;omega) ?_;intro v' w3 hown hgrow;have HP3:=qz (uh HAPP _ _ hown hgrow);clear hown hgrow HAPP HROW HRT))
     go_roundg (L - (o2+(W+1)))
     case measure=>have:=uh HME;omega
     case rel=>exact ⟨o2,W+1,gx2,_,_,rfl,by go_num,rfl,uh HP3⟩
    ·have hnli:¬ (n:Int)<(least:Int):=by omega
     obtain ⟨ht,hn1,hpn⟩:=htok.2 hnl
     rw [← uh HL2,uh HLO2] at hpn
     have HROW:=qz (hat2.row.alloc (.cells #[.int .i64 (n:Int),.int .i64 (d:Int),.int .u8 0] 76))
     have HRT:Hid (ReadsTN (W2.alloc (.cells #[.int .i64 (n:Int),.int .i64 (d:Int),.int .u8 0] 76)) (some ⟨W2.heap.size,0,none⟩) 1 [⟨n,d,0⟩]):=qz (new_tok W2 ⟨n,d,0⟩)
     have HAPP:Hid (∀ v' w3,w3.ownsRow H0 76 3 v' (K+1) (tcells (ts++[⟨n,d,0⟩]))→(W2.alloc (.cells #[.int .i64 (n:Int),.int .i64 (d:Int),.int .u8 0] 76)).grownBy w3 u12.ownBlock→PAt zs H0 W least M P0 o2 (W+n) gx2 a2 v' (ts++[⟨n,d,0⟩]) w w3):=qz fun v' w3 q1 q2=>hat2.app hsz2 (by rw [← uh HTX];exact hopL2) (by rw [← Nat.add_assoc];exact ht) (by omega) (by rw [← uh HTX];omega) (by rw [← hK];exact q1) q2
     rw [← hK] at HROW
     obtain ⟨pn,hpn2⟩:∃ pn:Nat,(W:Int)+(n:Int)=(pn:Int):=⟨W+n,by omega⟩
     have HPN:Hid (W+n=pn):=qz (by omega)
     have hwpn:IntKind.i64.wrap (pn:Int)=(pn:Int):=IntWalk.i64_in _ (by omega)
     clear hat2 ht htok
     go_wp2_with (at_builtin;go_must (refine wpList_append_toks rfl _ _ rfl H0 u12 K ts (by rfl) (uh HROW) _ 1 1 [⟨n,d,0⟩] rfl (by rfl) (uh HRT) (by omega) (by simp;omega) ?_;intro v' w3 hown hgrow;have HP3:=qz (uh HAPP _ _ hown hgrow);clear hown hgrow HAPP HROW HRT))
     go_roundg (L - (o2+pn))
     case measure=>have:=uh HME;omega
     case rel=>exact ⟨o2,pn,gx2,_,_,rfl,rfl,rfl,by rw [← uh HPN];exact uh HP3⟩
   ·have hsz:H0≤ws.heap.size:=by have:=hat.bel.size;rw [← uh HHW] at this;exact this
    have HMA:=qz (match_any (zs.drop o) H0 W M (min least 8) gx p a (zs.drop o).length ws hat.ix hat.rd (Nat.le_refl _) (uh HZD o) (by have:=uh HLL o;omega) (by rw [← uh HLLl];exact hlt) hsz hH00 hW hM ((uh HMLS) _ hat.bel))
    rw [← uh HLLl] at HMA
    have HPA:=qz hat
    clear hat
    go_wp2_with fail
    refine (uh HMA).mono ?_
    rintro e W2 ⟨n,d,rfl,hres,hx2,hk2⟩
    rw [← uh HLLl] at hres
    have hat2:=(uh HPA).met hsz hk2 (by rw [← uh HLLl];exact hx2)
    have hsz2:H0≤W2.heap.size:=by have:=hk2.size;omega
    have htok:=tok_of (zs:=zs) (o:=o) (p:=p) (W:=W) (least:=least) (M:=M) (s0:=min least 8) (n:=n) (d:=d) h1 (by omega) (by omega) (by rw [← uh HTX];exact hopL) hat2.win (by rw [← uh HLLl];exact hres)
    have c0:=hat2.ix.c0
    rw [← uh HLLl] at c0
    have hlen:=(hat2.par.len h1 (by rw [← uh HTX];exact hp0)).1
    have hnm:n≤L:=by
     rcases hres with hb | ⟨e,_⟩
     ·have:=hb.le;have:=uh HLO;omega
     ·omega
    obtain ⟨K,hK⟩:∃ K,K=ts.length:=⟨_,rfl⟩
    clear HMA HPA hres hx2 hk2
    by_cases hnl:n<least
    ·have hnli:(n:Int)<(least:Int):=by omega
     obtain ⟨ba,off,rfl⟩:∃ ba off,a=some ⟨ba,off,none⟩:=by
      obtain ⟨a',c',e,_,hs⟩:=hat2.rd
      injection e with e1 e2 e3
      obtain ⟨b',off',e,_⟩:=hs (by rw [← uh HLLl];omega)
      exact ⟨b',off',by rw [e1];exact e⟩
     have kb:W2.cell? ⟨ba,off+p,none⟩=some (.int .u8 ((zs.drop o).getD p 0:Int)):=by
      obtain ⟨a',c',e,_,hs⟩:=hat2.rd
      injection e with e1 e2 e3
      obtain ⟨b',off',e,_,hc⟩:=hs (by rw [← uh HLLl];omega)
      rw [← e1] at e
      injection e with e
      injection e with e1 e2
      subst e1 e2
      exact hc p (by rw [← uh HLLl];omega)
     have ht:=htok.1 hnl
     obtain ⟨y,hy⟩:∃ y,y=(zs.drop o).getD p 0:=⟨_,rfl⟩
     rw [← hy] at kb ht
     have HROW:=qz (hat2.row.alloc (.cells #[.int .i64 0,.int .i64 0,.int .u8 (y:Int)] 76))
     have HRT:Hid (ReadsTN (W2.alloc (.cells #[.int .i64 0,.int .i64 0,.int .u8 (y:Int)] 76)) (some ⟨W2.heap.size,0,none⟩) 1 [⟨0,0,y⟩]):=qz (new_tok W2 ⟨0,0,y⟩)
     have HAPP:Hid (∀ v' w3,w3.ownsRow H0 76 3 v' (K+1) (tcells (ts++[⟨0,0,y⟩]))→(W2.alloc (.cells #[.int .i64 0,.int .i64 0,.int .u8 (y:Int)] 76)).grownBy w3 u12.ownBlock→PAt zs H0 W least M P0 o (p+1) gx (some ⟨ba,off,none⟩) v' (ts++[⟨0,0,y⟩]) w w3):=qz fun v' w3 q1 q2=>hat2.app hsz2 (by rw [← uh HTX];exact hopL) (by rw [← Nat.add_assoc];exact ht) (by omega) (by rw [← uh HTX];omega) (by rw [← hK];exact q1) q2
     rw [← hK] at HROW
     clear hat2 ht htok hy
     go_wp2_with (at_builtin;go_must (refine wpList_append_toks rfl _ _ rfl H0 u12 K ts (by rfl) (uh HROW) _ 1 1 [⟨0,0,y⟩] rfl (by rfl) (uh HRT) (by omega) (by simp;omega) ?_;intro v' w3 hown hgrow;have HP3:=qz (uh HAPP _ _ hown hgrow);clear hown hgrow HAPP HROW HRT))
     go_roundg (L - (o+(p+1)))
     case measure=>omega
     case rel=>exact ⟨o,p+1,gx,_,_,rfl,by go_num,rfl,uh HP3⟩
    ·have hnli:¬ (n:Int)<(least:Int):=by omega
     obtain ⟨ht,hn1,hpn⟩:=htok.2 hnl
     rw [← uh HLLl,uh HLO] at hpn
     have HROW:=qz (hat2.row.alloc (.cells #[.int .i64 (n:Int),.int .i64 (d:Int),.int .u8 0] 76))
     have HRT:Hid (ReadsTN (W2.alloc (.cells #[.int .i64 (n:Int),.int .i64 (d:Int),.int .u8 0] 76)) (some ⟨W2.heap.size,0,none⟩) 1 [⟨n,d,0⟩]):=qz (new_tok W2 ⟨n,d,0⟩)
     have HAPP:Hid (∀ v' w3,w3.ownsRow H0 76 3 v' (K+1) (tcells (ts++[⟨n,d,0⟩]))→(W2.alloc (.cells #[.int .i64 (n:Int),.int .i64 (d:Int),.int .u8 0] 76)).grownBy w3 u12.ownBlock→PAt zs H0 W least M P0 o (p+n) gx a v' (ts++[⟨n,d,0⟩]) w w3):=qz fun v' w3 q1 q2=>hat2.app hsz2 (by rw [← uh HTX];exact hopL) (by rw [← Nat.add_assoc];exact ht) (by omega) (by rw [← uh HTX];omega) (by rw [← hK];exact q1) q2
     rw [← hK] at HROW
     obtain ⟨pn,hpn2⟩:∃ pn:Nat,(p:Int)+(n:Int)=(pn:Int):=⟨p+n,by omega⟩
     have HPN:Hid (p+n=pn):=qz (by omega)
     have hwpn:IntKind.i64.wrap (pn:Int)=(pn:Int):=IntWalk.i64_in _ (by omega)
     clear hat2 ht htok
     go_wp2_with (at_builtin;go_must (refine wpList_append_toks rfl _ _ rfl H0 u12 K ts (by rfl) (uh HROW) _ 1 1 [⟨n,d,0⟩] rfl (by rfl) (uh HRT) (by omega) (by simp;omega) ?_;intro v' w3 hown hgrow;have HP3:=qz (uh HAPP _ _ hown hgrow);clear hown hgrow HAPP HROW HRT))
     go_roundg (L - (o+pn))
     case measure=>omega
     case rel=>exact ⟨o,pn,gx,_,_,rfl,rfl,rfl,by rw [← uh HPN];exact uh HP3⟩
  ·have hlti:¬ (p:Int)<(Ll:Int):=by omega
   have HE:Hid (ParsedIs zs P0 W least M w (.returned (.tuple #[u12,.int .i64 0])) wr):=qz (by
    have e:o+p=zs.length:=by have:=uh HLO;have:=uh HTX;omega
    refine ⟨u12,ts,rfl,by rw [← e];exact hat.par,by rw [← uh HHW];exact hat.row,by rw [← uh HHW];exact hat.bel⟩)
   clear hat c1
   go_wp2_with fail
   go_ret2
   exact uh HE
end T6
namespace W4
open Go.RowKit Mth Infl Defl
attribute [local go_sem ↓] wp_at_zero wp_at_succ
abbrev Ev:=Bool × Nat × Nat × Nat
def tokEv (t:T):List Ev:=if t.n=0 then [(true,t.b,0,0)] else [(true,symL t.n,t.n - (lenOf (symL t.n)).1,(lenOf (symL t.n)).2),(false,symD t.d,t.d - (distOf (symD t.d)).1,(distOf (symD t.d)).2)]
def evs (ts:List T):List Ev:=(ts.map tokEv).flatten
def allEv (ts:List T):List Ev:=evs ts++[(true,256,0,0)]
theorem evs_snoc (ts:List T) (t:T):evs (ts++[t])=evs ts++tokEv t:=by simp [evs]
def TokAt8 (w:World) (a:Option Addr) (ts:List T):Prop:=∀ i,i<ts.length→∃ b off,a=some ⟨b,off,none⟩∧w.cell? ⟨b,off+i*3,none⟩=some (.int .i64 ((ts.getD i ⟨0,0,0⟩).n:Int))∧w.cell? ⟨b,off+i*3+1,none⟩=some (.int .i64 ((ts.getD i ⟨0,0,0⟩).d:Int))∧w.cell? ⟨b,off+i*3+2,none⟩=some (.int .u8 ((ts.getD i ⟨0,0,0⟩).b:Int))
def TokOk (ts:List T):Prop:=∀ t∈ts,t.n=0∧t.b<256∨3≤t.n∧t.n≤258∧1≤t.d∧t.d≤32768
def wv (s m x:Nat):Value:=.agg #[.int .i64 (s:Int),.int .i64 (m:Int),.int .i64 (x:Int)]
theorem take_ev (ts:List T) (i:Nat) (hi:i<ts.length):evs (ts.take (i+1))=evs (ts.take i)++tokEv (ts.getD i ⟨0,0,0⟩):=by
 rw [List.take_succ_eq_append_getElem hi,evs_snoc]
 congr 2
 simp [List.getD_eq_getElem?_getD,hi]
theorem split_ev (ts:List T) (i:Nat) (hi:i<ts.length):∃ r,allEv ts=evs (ts.take i)++(tokEv (ts.getD i ⟨0,0,0⟩)++r):=by
 refine ⟨evs (ts.drop (i+1))++[(true,256,0,0)],?_⟩
 unfold allEv
 have h:ts=ts.take i++(ts.getD i ⟨0,0,0⟩ :: ts.drop (i+1)):=by
  conv=>lhs;rw [← List.take_append_drop i ts,List.drop_eq_getElem_cons hi]
  simp [List.getD_eq_getElem?_getD,hi]
 conv=>lhs;rw [h]
 simp [evs]
theorem each_put (ts:List T) (a:Option Addr) (cap:Nat) (k1 k2:Array Value) (J:List Ev→World→Prop) (w:World) (hok:TokOk ts) (hlen:ts.length≤1000000000)
  (hb:∀ l x x',J l x→Below x.heap.size x x'→J l x') (hr:∀ l x,J l x→TokAt8 x a ts)
  (hn:∀ l s m y r x0 x,allEv ts=l++(true,s,m,y) :: r→J l x0→Below x0.heap.size x0 x→Calls Tryz.prog 83 (#[wv s m y]++k1) x fun e x'=>e=.returned (.tuple #[])∧J (l++[(true,s,m,y)]) x'∧∀ kb o,x0.heap.size≤kb→x.heap[kb]?=some o→x'.heap[kb]?=some o)
  (hf:∀ l s m y r x0 x,allEv ts=l++(false,s,m,y) :: r→J l x0→Below x0.heap.size x0 x→Calls Tryz.prog 85 (#[wv s m y]++k2) x fun e x'=>e=.returned (.tuple #[])∧J (l++[(false,s,m,y)]) x'∧∀ kb o,x0.heap.size≤kb→x.heap[kb]?=some o→x'.heap[kb]?=some o) (h0:J [] w) :
  Calls Tryz.prog 79 #[.slice a ts.length cap,.func (.func 83) #[] k1,.func (.func 85) #[] k2] w fun e w'=>e=.returned (.tuple #[])∧J (allEv ts) w':=by
 have HEND:Hid (∀ x,J (evs ts) x→Calls Tryz.prog 83 (#[.agg #[.int .i64 256,.int .i64 0,.int .i64 0]]++k1) x fun e x'=>e=.returned (.tuple #[])∧J (allEv ts) x'):=qz (fun x hx=>(hn (evs ts) 256 0 0 [] x x rfl hx (Below.refl _ _)).mono fun e x' h=>⟨h.1,h.2.1⟩)
 have HTK:Hid (∀ i x,i<ts.length→J (evs (ts.take i)) x→(ts.getD i ⟨0,0,0⟩).n=0→Calls Tryz.prog 83 (#[.agg #[.int .i64 ((ts.getD i ⟨0,0,0⟩).b:Int),.int .i64 0,.int .i64 0]]++k1) x fun e x'=>e=.returned (.tuple #[])∧J (evs (ts.take (i+1))) x'):=qz (fun i x hi hx h0=>by
  obtain ⟨r,hr⟩:=split_ev ts i hi
  have et:tokEv (ts.getD i ⟨0,0,0⟩)=[(true,(ts.getD i ⟨0,0,0⟩).b,0,0)]:=by unfold tokEv;rw [if_pos h0]
  rw [take_ev ts i hi]
  rw [et] at hr ⊢
  exact (hn _ _ _ _ _ x x hr hx (Below.refl _ _)).mono fun e x' h=>⟨h.1,h.2.1⟩)
 have HT1:Hid (∀ i x0 x,i<ts.length→J (evs (ts.take i)) x0→Below x0.heap.size x0 x→¬ (ts.getD i ⟨0,0,0⟩).n=0→Calls Tryz.prog 83 (#[wordV (symL (ts.getD i ⟨0,0,0⟩).n) ((ts.getD i ⟨0,0,0⟩).n - (lenOf (symL (ts.getD i ⟨0,0,0⟩).n)).1) (lenOf (symL (ts.getD i ⟨0,0,0⟩).n)).2]++k1) x fun e x'=>e=.returned (.tuple #[])∧J (evs (ts.take i)++[(true,symL (ts.getD i ⟨0,0,0⟩).n,(ts.getD i ⟨0,0,0⟩).n - (lenOf (symL (ts.getD i ⟨0,0,0⟩).n)).1,(lenOf (symL (ts.getD i ⟨0,0,0⟩).n)).2)]) x'∧∀ kb o,x0.heap.size≤kb→x.heap[kb]?=some o→x'.heap[kb]?=some o):=qz (fun i x0 x hi hx hbx h0=>by
  obtain ⟨r,hr⟩:=split_ev ts i hi
  unfold tokEv at hr
  rw [if_neg h0] at hr
  exact hn _ _ _ _ _ x0 x hr hx hbx)
 have HT2:Hid (∀ i x,i<ts.length→J (evs (ts.take i)++[(true,symL (ts.getD i ⟨0,0,0⟩).n,(ts.getD i ⟨0,0,0⟩).n - (lenOf (symL (ts.getD i ⟨0,0,0⟩).n)).1,(lenOf (symL (ts.getD i ⟨0,0,0⟩).n)).2)]) x→¬ (ts.getD i ⟨0,0,0⟩).n=0→Calls Tryz.prog 85 (#[wordV (symD (ts.getD i ⟨0,0,0⟩).d) ((ts.getD i ⟨0,0,0⟩).d - (distOf (symD (ts.getD i ⟨0,0,0⟩).d)).1) (distOf (symD (ts.getD i ⟨0,0,0⟩).d)).2]++k2) x fun e x'=>e=.returned (.tuple #[])∧J (evs (ts.take (i+1))) x'):=qz (fun i x hi hx h0=>by
  obtain ⟨r,hr⟩:=split_ev ts i hi
  rw [take_ev ts i hi]
  unfold tokEv at hr ⊢
  rw [if_neg h0] at hr ⊢
  have:=hf _ _ _ _ _ x x (by rw [hr];simp only [List.append_assoc,List.cons_append,List.nil_append];rfl) hx (Below.refl _ _)
  simp only [List.append_assoc,List.cons_append,List.nil_append] at this
  exact this.mono fun e x' h=>⟨h.1,h.2.1⟩)
 have HTO:Hid (∀ i,i<ts.length→(ts.getD i ⟨0,0,0⟩).n=0∧(ts.getD i ⟨0,0,0⟩).b<256∨3≤(ts.getD i ⟨0,0,0⟩).n∧(ts.getD i ⟨0,0,0⟩).n≤258∧1≤(ts.getD i ⟨0,0,0⟩).d∧(ts.getD i ⟨0,0,0⟩).d≤32768):=qz (fun i hi=>hok _ (by simp [List.getD_eq_getElem?_getD,hi]))
 have HFIN:Hid (∀ x,J (evs (ts.take ts.length)) x→J (evs ts) x):=qz (fun x h=>by rwa [List.take_length] at h)
 obtain ⟨n,hN⟩:∃ n,n=ts.length:=⟨_,rfl⟩
 have HN:=qz hN
 rw [← hN] at hlen HTK HT1 HT2 HTO HFIN ⊢
 have HB:=qz hb
 have HR:Hid (∀ l x i,J l x→i<n→∃ b off,a=some ⟨b,off,none⟩∧x.cell? ⟨b,off+i*3,none⟩=some (.int .i64 ((ts.getD i ⟨0,0,0⟩).n:Int))∧x.cell? ⟨b,off+i*3+1,none⟩=some (.int .i64 ((ts.getD i ⟨0,0,0⟩).d:Int))∧x.cell? ⟨b,off+i*3+2,none⟩=some (.int .u8 ((ts.getD i ⟨0,0,0⟩).b:Int))):=qz (fun l x i hx hi=>hr l x hx i (by rw [← hN];exact hi))
 have H0:Hid (J (evs (ts.take 0)) w):=qz h0
 clear hok hb hr hn hf h0 hN
 go_enter Tryz.func79,Tryz.ntmps79
 go_wp2_with fail
 go_loopg [10] n (fun gk iv' ws=>∃ i:Nat,gk=n - i∧i≤n∧iv'=.int .i64 (i:Int)∧Hid (J (evs (ts.take i)) ws))
 case atStart=>exact ⟨0,by omega,by omega,rfl,H0⟩
 case round =>
  clear H0
  obtain ⟨i,rfl,hin,rfl,hj⟩:=hrel
  by_cases hlt:i<n
  ·have e1:(i:Int)<(n:Int):=by omega
   obtain ⟨b,off,rfl,q1,q2,q3⟩:=uh HR _ wr i (uh hj) hlt
   have hto:=uh HTO i hlt
   have HTKi:=qz (fun x=>uh HTK i x hlt)
   have HT1i:=qz (fun x0 x=>uh HT1 i x0 x hlt)
   have HT2i:=qz (fun x=>uh HT2 i x hlt)
   have HW1:Hid (∀ v x,3≤v→v≤258→_):=qz (fun v x h1 h2=>lenWord_ok v x h1 h2)
   have HW2:Hid (∀ v x,1≤v→v≤32768→_):=qz (fun v x h1 h2=>distWord_ok v x h1 h2)
   generalize ts.getD i ⟨0,0,0⟩=t at q1 q2 q3 hto HTKi HT1i HT2i
   obtain ⟨tn,td,tb⟩:=t
   simp only at q1 q2 q3 hto HTKi HT1i HT2i
   obtain ⟨W1,hW1⟩:∃ W1,W1=wr.alloc (.cells #[.int .i64 (tn:Int),.int .i64 (td:Int),.int .u8 (tb:Int)] 76):=⟨_,rfl⟩
   have HB1:Hid (Below wr.heap.size wr W1):=qz (by rw [hW1];exact (Below.refl _ _).alloc (Nat.le_refl _) _)
   have x1:W1.heap[wr.heap.size]?=some (.cells #[.int .i64 (tn:Int),.int .i64 (td:Int),.int .u8 (tb:Int)] 76 (0,0)):=by rw [hW1];exact heap_alloc_new _ _
   have HJ1:Hid (J (evs (ts.take i)) W1):=qz (uh HB _ _ _ (uh hj) (uh HB1))
   have d0:W1.cell? ⟨wr.heap.size,0,none⟩=some (.int .i64 (tn:Int)):=by simp only [World.cell?,x1];rfl
   have d2:W1.cell? ⟨wr.heap.size,2,none⟩=some (.int .u8 (tb:Int)):=by simp only [World.cell?,x1];rfl
   have d0':=d0
   have d2':=d2
   rw [hW1] at d0' d2'
   by_cases ht0:tn=0
   ·subst ht0
    have hb256:tb<256:=by omega
    have HC:=qz (uh HTKi W1 (uh HJ1) rfl)
    clear HT1i HT2i HTKi hto
    go_wp2_with fail
    rw [show wr.alloc (.cells #[.int .i64 0,.int .i64 (td:Int),.int .u8 (tb:Int)] 76)=W1 from hW1.symm]
    clear hW1 d0' d2'
    refine (uh HC).mono ?_
    rintro e W2 ⟨rfl,j2⟩
    have HJ2:=qz j2
    clear j2 HC
    go_wp2_with fail
    go_roundg (n - (i+1))
    case measure=>omega
    case rel=>exact ⟨i+1,rfl,by omega,by go_num,HJ2⟩
   ·have ht0':((tn:Int) == 0)=false:=by simp;omega
    have hti:¬ (tn:Int)=0:=by omega
    have hto2:3≤tn∧tn≤258∧1≤td∧td≤32768:=by omega
    have HL1:=qz (uh HW1 tn W1 hto2.1 hto2.2.1)
    have HL2:Hid (∀ x,_):=qz (fun x=>uh HW2 td x hto2.2.2.1 hto2.2.2.2)
    have HC1:Hid (∀ x,Below wr.heap.size wr x→_):=qz (fun x hx=>uh HT1i wr x (uh hj) hx ht0)
    have HC2:Hid (∀ x,_→_):=qz (fun x hx=>uh HT2i x hx ht0)
    generalize wordV (symL tn) (tn - (lenOf (symL tn)).1) (lenOf (symL tn)).2=V1 at HL1 HC1
    generalize wordV (symD td) (td - (distOf (symD td)).1) (distOf (symD td)).2=V2 at HL2 HC2
    clear HT1i HT2i HTKi hto HW1 HW2
    go_wp2_with fail
    rw [← hW1]
    clear hW1 d0' d2'
    refine (uh HL1).mono ?_
    rintro e W2 ⟨rfl,b2⟩
    have hs2:wr.heap.size<W2.heap.size:=Nat.lt_of_lt_of_le (heap_lt x1) b2.size
    have x2:W2.heap[wr.heap.size]?=some (.cells #[.int .i64 (tn:Int),.int .i64 (td:Int),.int .u8 (tb:Int)] 76 (0,0)):=by rw [b2.block _ (heap_lt x1)];exact x1
    have HB2:Hid (Below wr.heap.size wr W2):=qz ((uh HB1).trans (b2.mono (uh HB1).size))
    clear b2 HL1 x1
    go_wp2_with fail
    refine (uh HC1 W2 (uh HB2)).mono ?_
    rintro e W3 ⟨rfl,j3,k3⟩
    have x3:=k3 wr.heap.size _ (Nat.le_refl _) x2
    have e3:W3.cell? ⟨wr.heap.size,1,none⟩=some (.int .i64 (td:Int)):=by simp only [World.cell?,x3];rfl
    have HJ3:=qz j3
    clear j3 k3 HC1 x2 x3 d0 d2
    go_wp2_with fail
    refine (uh HL2 W3).mono ?_
    rintro e W4 ⟨rfl,b4⟩
    have HJ4:=qz (uh HB _ _ _ (uh HJ3) b4)
    clear b4 HJ3 HL2
    go_wp2_with fail
    refine (uh HC2 W4 (uh HJ4)).mono ?_
    rintro e W5 ⟨rfl,j5⟩
    have HJ5:=qz j5
    clear j5 HC2 HJ4
    go_wp2_with fail
    go_roundg (n - (i+1))
    case measure=>omega
    case rel=>exact ⟨i+1,rfl,by omega,by go_num,HJ5⟩
  ·obtain rfl:i=n:=by omega
   have HE:=qz (uh HEND wr (uh HFIN wr (uh hj)))
   clear hj
   go_wp2_with fail
   refine (uh HE).mono ?_
   rintro e W2 ⟨rfl,j2⟩
   have HJ2:=qz j2
   clear j2 HE
   go_wp2_with fail
   go_end0
   exact ⟨rfl,uh HJ2⟩
end W4
namespace W4
open Go.RowKit Mth Infl Defl
attribute [local go_sem ↓] wp_at_zero wp_at_succ
theorem each_weigh (ts:List T) (a:Option Addr) (cap:Nat) (k1 k2:Array Value) (J:List Ev→World→Prop) (w:World) (hok:TokOk ts) (hlen:ts.length≤1000000000)
  (hb:∀ l x x',J l x→Below x.heap.size x x'→J l x') (hr:∀ l x,J l x→TokAt8 x a ts)
  (hn:∀ l s m y r x0 x,allEv ts=l++(true,s,m,y) :: r→J l x0→Below x0.heap.size x0 x→Calls Tryz.prog 80 (#[wv s m y]++k1) x fun e x'=>e=.returned (.tuple #[])∧J (l++[(true,s,m,y)]) x'∧∀ kb o,x0.heap.size≤kb→x.heap[kb]?=some o→x'.heap[kb]?=some o)
  (hf:∀ l s m y r x0 x,allEv ts=l++(false,s,m,y) :: r→J l x0→Below x0.heap.size x0 x→Calls Tryz.prog 82 (#[wv s m y]++k2) x fun e x'=>e=.returned (.tuple #[])∧J (l++[(false,s,m,y)]) x'∧∀ kb o,x0.heap.size≤kb→x.heap[kb]?=some o→x'.heap[kb]?=some o) (h0:J [] w) :
  Calls Tryz.prog 79 #[.slice a ts.length cap,.func (.func 80) #[] k1,.func (.func 82) #[] k2] w fun e w'=>e=.returned (.tuple #[])∧J (allEv ts) w':=by
 have HEND:Hid (∀ x,J (evs ts) x→Calls Tryz.prog 80 (#[.agg #[.int .i64 256,.int .i64 0,.int .i64 0]]++k1) x fun e x'=>e=.returned (.tuple #[])∧J (allEv ts) x'):=qz (fun x hx=>(hn (evs ts) 256 0 0 [] x x rfl hx (Below.refl _ _)).mono fun e x' h=>⟨h.1,h.2.1⟩)
 have HTK:Hid (∀ i x,i<ts.length→J (evs (ts.take i)) x→(ts.getD i ⟨0,0,0⟩).n=0→Calls Tryz.prog 80 (#[.agg #[.int .i64 ((ts.getD i ⟨0,0,0⟩).b:Int),.int .i64 0,.int .i64 0]]++k1) x fun e x'=>e=.returned (.tuple #[])∧J (evs (ts.take (i+1))) x'):=qz (fun i x hi hx h0=>by
  obtain ⟨r,hr⟩:=split_ev ts i hi
  have et:tokEv (ts.getD i ⟨0,0,0⟩)=[(true,(ts.getD i ⟨0,0,0⟩).b,0,0)]:=by unfold tokEv;rw [if_pos h0]
  rw [take_ev ts i hi]
  rw [et] at hr ⊢
  exact (hn _ _ _ _ _ x x hr hx (Below.refl _ _)).mono fun e x' h=>⟨h.1,h.2.1⟩)
 have HT1:Hid (∀ i x0 x,i<ts.length→J (evs (ts.take i)) x0→Below x0.heap.size x0 x→¬ (ts.getD i ⟨0,0,0⟩).n=0→Calls Tryz.prog 80 (#[wordV (symL (ts.getD i ⟨0,0,0⟩).n) ((ts.getD i ⟨0,0,0⟩).n - (lenOf (symL (ts.getD i ⟨0,0,0⟩).n)).1) (lenOf (symL (ts.getD i ⟨0,0,0⟩).n)).2]++k1) x fun e x'=>e=.returned (.tuple #[])∧J (evs (ts.take i)++[(true,symL (ts.getD i ⟨0,0,0⟩).n,(ts.getD i ⟨0,0,0⟩).n - (lenOf (symL (ts.getD i ⟨0,0,0⟩).n)).1,(lenOf (symL (ts.getD i ⟨0,0,0⟩).n)).2)]) x'∧∀ kb o,x0.heap.size≤kb→x.heap[kb]?=some o→x'.heap[kb]?=some o):=qz (fun i x0 x hi hx hbx h0=>by
  obtain ⟨r,hr⟩:=split_ev ts i hi
  unfold tokEv at hr
  rw [if_neg h0] at hr
  exact hn _ _ _ _ _ x0 x hr hx hbx)
 have HT2:Hid (∀ i x,i<ts.length→J (evs (ts.take i)++[(true,symL (ts.getD i ⟨0,0,0⟩).n,(ts.getD i ⟨0,0,0⟩).n - (lenOf (symL (ts.getD i ⟨0,0,0⟩).n)).1,(lenOf (symL (ts.getD i ⟨0,0,0⟩).n)).2)]) x→¬ (ts.getD i ⟨0,0,0⟩).n=0→Calls Tryz.prog 82 (#[wordV (symD (ts.getD i ⟨0,0,0⟩).d) ((ts.getD i ⟨0,0,0⟩).d - (distOf (symD (ts.getD i ⟨0,0,0⟩).d)).1) (distOf (symD (ts.getD i ⟨0,0,0⟩).d)).2]++k2) x fun e x'=>e=.returned (.tuple #[])∧J (evs (ts.take (i+1))) x'):=qz (fun i x hi hx h0=>by
  obtain ⟨r,hr⟩:=split_ev ts i hi
  rw [take_ev ts i hi]
  unfold tokEv at hr ⊢
  rw [if_neg h0] at hr ⊢
  have:=hf _ _ _ _ _ x x (by rw [hr];simp only [List.append_assoc,List.cons_append,List.nil_append];rfl) hx (Below.refl _ _)
  simp only [List.append_assoc,List.cons_append,List.nil_append] at this
  exact this.mono fun e x' h=>⟨h.1,h.2.1⟩)
 have HTO:Hid (∀ i,i<ts.length→(ts.getD i ⟨0,0,0⟩).n=0∧(ts.getD i ⟨0,0,0⟩).b<256∨3≤(ts.getD i ⟨0,0,0⟩).n∧(ts.getD i ⟨0,0,0⟩).n≤258∧1≤(ts.getD i ⟨0,0,0⟩).d∧(ts.getD i ⟨0,0,0⟩).d≤32768):=qz (fun i hi=>hok _ (by simp [List.getD_eq_getElem?_getD,hi]))
 have HFIN:Hid (∀ x,J (evs (ts.take ts.length)) x→J (evs ts) x):=qz (fun x h=>by rwa [List.take_length] at h)
 obtain ⟨n,hN⟩:∃ n,n=ts.length:=⟨_,rfl⟩
 have HN:=qz hN
 rw [← hN] at hlen HTK HT1 HT2 HTO HFIN ⊢
 have HB:=qz hb
 have HR:Hid (∀ l x i,J l x→i<n→∃ b off,a=some ⟨b,off,none⟩∧x.cell? ⟨b,off+i*3,none⟩=some (.int .i64 ((ts.getD i ⟨0,0,0⟩).n:Int))∧x.cell? ⟨b,off+i*3+1,none⟩=some (.int .i64 ((ts.getD i ⟨0,0,0⟩).d:Int))∧x.cell? ⟨b,off+i*3+2,none⟩=some (.int .u8 ((ts.getD i ⟨0,0,0⟩).b:Int))):=qz (fun l x i hx hi=>hr l x hx i (by rw [← hN];exact hi))
 have H0:Hid (J (evs (ts.take 0)) w):=qz h0
 clear hok hb hr hn hf h0 hN
 go_enter Tryz.func79,Tryz.ntmps79
 go_wp2_with fail
 go_loopg [10] n (fun gk iv' ws=>∃ i:Nat,gk=n - i∧i≤n∧iv'=.int .i64 (i:Int)∧Hid (J (evs (ts.take i)) ws))
 case atStart=>exact ⟨0,by omega,by omega,rfl,H0⟩
 case round =>
  clear H0
  obtain ⟨i,rfl,hin,rfl,hj⟩:=hrel
  by_cases hlt:i<n
  ·have e1:(i:Int)<(n:Int):=by omega
   obtain ⟨b,off,rfl,q1,q2,q3⟩:=uh HR _ wr i (uh hj) hlt
   have hto:=uh HTO i hlt
   have HTKi:=qz (fun x=>uh HTK i x hlt)
   have HT1i:=qz (fun x0 x=>uh HT1 i x0 x hlt)
   have HT2i:=qz (fun x=>uh HT2 i x hlt)
   have HW1:Hid (∀ v x,3≤v→v≤258→_):=qz (fun v x h1 h2=>lenWord_ok v x h1 h2)
   have HW2:Hid (∀ v x,1≤v→v≤32768→_):=qz (fun v x h1 h2=>distWord_ok v x h1 h2)
   generalize ts.getD i ⟨0,0,0⟩=t at q1 q2 q3 hto HTKi HT1i HT2i
   obtain ⟨tn,td,tb⟩:=t
   simp only at q1 q2 q3 hto HTKi HT1i HT2i
   obtain ⟨W1,hW1⟩:∃ W1,W1=wr.alloc (.cells #[.int .i64 (tn:Int),.int .i64 (td:Int),.int .u8 (tb:Int)] 76):=⟨_,rfl⟩
   have HB1:Hid (Below wr.heap.size wr W1):=qz (by rw [hW1];exact (Below.refl _ _).alloc (Nat.le_refl _) _)
   have x1:W1.heap[wr.heap.size]?=some (.cells #[.int .i64 (tn:Int),.int .i64 (td:Int),.int .u8 (tb:Int)] 76 (0,0)):=by rw [hW1];exact heap_alloc_new _ _
   have HJ1:Hid (J (evs (ts.take i)) W1):=qz (uh HB _ _ _ (uh hj) (uh HB1))
   have d0:W1.cell? ⟨wr.heap.size,0,none⟩=some (.int .i64 (tn:Int)):=by simp only [World.cell?,x1];rfl
   have d2:W1.cell? ⟨wr.heap.size,2,none⟩=some (.int .u8 (tb:Int)):=by simp only [World.cell?,x1];rfl
   have d0':=d0
   have d2':=d2
   rw [hW1] at d0' d2'
   by_cases ht0:tn=0
   ·subst ht0
    have hb256:tb<256:=by omega
    have HC:=qz (uh HTKi W1 (uh HJ1) rfl)
    clear HT1i HT2i HTKi hto
    go_wp2_with fail
    rw [show wr.alloc (.cells #[.int .i64 0,.int .i64 (td:Int),.int .u8 (tb:Int)] 76)=W1 from hW1.symm]
    clear hW1 d0' d2'
    refine (uh HC).mono ?_
    rintro e W2 ⟨rfl,j2⟩
    have HJ2:=qz j2
    clear j2 HC
    go_wp2_with fail
    go_roundg (n - (i+1))
    case measure=>omega
    case rel=>exact ⟨i+1,rfl,by omega,by go_num,HJ2⟩
   ·have ht0':((tn:Int) == 0)=false:=by simp;omega
    have hti:¬ (tn:Int)=0:=by omega
    have hto2:3≤tn∧tn≤258∧1≤td∧td≤32768:=by omega
    have HL1:=qz (uh HW1 tn W1 hto2.1 hto2.2.1)
    have HL2:Hid (∀ x,_):=qz (fun x=>uh HW2 td x hto2.2.2.1 hto2.2.2.2)
    have HC1:Hid (∀ x,Below wr.heap.size wr x→_):=qz (fun x hx=>uh HT1i wr x (uh hj) hx ht0)
    have HC2:Hid (∀ x,_→_):=qz (fun x hx=>uh HT2i x hx ht0)
    generalize wordV (symL tn) (tn - (lenOf (symL tn)).1) (lenOf (symL tn)).2=V1 at HL1 HC1
    generalize wordV (symD td) (td - (distOf (symD td)).1) (distOf (symD td)).2=V2 at HL2 HC2
    clear HT1i HT2i HTKi hto HW1 HW2
    go_wp2_with fail
    rw [← hW1]
    clear hW1 d0' d2'
    refine (uh HL1).mono ?_
    rintro e W2 ⟨rfl,b2⟩
    have hs2:wr.heap.size<W2.heap.size:=Nat.lt_of_lt_of_le (heap_lt x1) b2.size
    have x2:W2.heap[wr.heap.size]?=some (.cells #[.int .i64 (tn:Int),.int .i64 (td:Int),.int .u8 (tb:Int)] 76 (0,0)):=by rw [b2.block _ (heap_lt x1)];exact x1
    have HB2:Hid (Below wr.heap.size wr W2):=qz ((uh HB1).trans (b2.mono (uh HB1).size))
    clear b2 HL1 x1
    go_wp2_with fail
    refine (uh HC1 W2 (uh HB2)).mono ?_
    rintro e W3 ⟨rfl,j3,k3⟩
    have x3:=k3 wr.heap.size _ (Nat.le_refl _) x2
    have e3:W3.cell? ⟨wr.heap.size,1,none⟩=some (.int .i64 (td:Int)):=by simp only [World.cell?,x3];rfl
    have HJ3:=qz j3
    clear j3 k3 HC1 x2 x3 d0 d2
    go_wp2_with fail
    refine (uh HL2 W3).mono ?_
    rintro e W4 ⟨rfl,b4⟩
    have HJ4:=qz (uh HB _ _ _ (uh HJ3) b4)
    clear b4 HJ3 HL2
    go_wp2_with fail
    refine (uh HC2 W4 (uh HJ4)).mono ?_
    rintro e W5 ⟨rfl,j5⟩
    have HJ5:=qz j5
    clear j5 HC2 HJ4
    go_wp2_with fail
    go_roundg (n - (i+1))
    case measure=>omega
    case rel=>exact ⟨i+1,rfl,by omega,by go_num,HJ5⟩
  ·obtain rfl:i=n:=by omega
   have HE:=qz (uh HEND wr (uh HFIN wr (uh hj)))
   clear hj
   go_wp2_with fail
   refine (uh HE).mono ?_
   rintro e W2 ⟨rfl,j2⟩
   have HJ2:=qz j2
   clear j2 HE
   go_wp2_with fail
   go_end0
   exact ⟨rfl,uh HJ2⟩
end W4
namespace W4
open Go.RowKit Mth Infl Defl
attribute [local go_sem ↓] wp_at_zero wp_at_succ
theorem each_count (ts:List T) (a:Option Addr) (cap:Nat) (k1 k2:Array Value) (J:List Ev→World→Prop) (w:World) (hok:TokOk ts) (hlen:ts.length≤1000000000)
  (hb:∀ l x x',J l x→Below x.heap.size x x'→J l x') (hr:∀ l x,J l x→TokAt8 x a ts)
  (hn:∀ l s m y r x0 x,allEv ts=l++(true,s,m,y) :: r→J l x0→Below x0.heap.size x0 x→Calls Tryz.prog 111 (#[wv s m y]++k1) x fun e x'=>e=.returned (.tuple #[])∧J (l++[(true,s,m,y)]) x'∧∀ kb o,x0.heap.size≤kb→x.heap[kb]?=some o→x'.heap[kb]?=some o)
  (hf:∀ l s m y r x0 x,allEv ts=l++(false,s,m,y) :: r→J l x0→Below x0.heap.size x0 x→Calls Tryz.prog 112 (#[wv s m y]++k2) x fun e x'=>e=.returned (.tuple #[])∧J (l++[(false,s,m,y)]) x'∧∀ kb o,x0.heap.size≤kb→x.heap[kb]?=some o→x'.heap[kb]?=some o) (h0:J [] w) :
  Calls Tryz.prog 79 #[.slice a ts.length cap,.func (.func 111) #[] k1,.func (.func 112) #[] k2] w fun e w'=>e=.returned (.tuple #[])∧J (allEv ts) w':=by
 have HEND:Hid (∀ x,J (evs ts) x→Calls Tryz.prog 111 (#[.agg #[.int .i64 256,.int .i64 0,.int .i64 0]]++k1) x fun e x'=>e=.returned (.tuple #[])∧J (allEv ts) x'):=qz (fun x hx=>(hn (evs ts) 256 0 0 [] x x rfl hx (Below.refl _ _)).mono fun e x' h=>⟨h.1,h.2.1⟩)
 have HTK:Hid (∀ i x,i<ts.length→J (evs (ts.take i)) x→(ts.getD i ⟨0,0,0⟩).n=0→Calls Tryz.prog 111 (#[.agg #[.int .i64 ((ts.getD i ⟨0,0,0⟩).b:Int),.int .i64 0,.int .i64 0]]++k1) x fun e x'=>e=.returned (.tuple #[])∧J (evs (ts.take (i+1))) x'):=qz (fun i x hi hx h0=>by
  obtain ⟨r,hr⟩:=split_ev ts i hi
  have et:tokEv (ts.getD i ⟨0,0,0⟩)=[(true,(ts.getD i ⟨0,0,0⟩).b,0,0)]:=by unfold tokEv;rw [if_pos h0]
  rw [take_ev ts i hi]
  rw [et] at hr ⊢
  exact (hn _ _ _ _ _ x x hr hx (Below.refl _ _)).mono fun e x' h=>⟨h.1,h.2.1⟩)
 have HT1:Hid (∀ i x0 x,i<ts.length→J (evs (ts.take i)) x0→Below x0.heap.size x0 x→¬ (ts.getD i ⟨0,0,0⟩).n=0→Calls Tryz.prog 111 (#[wordV (symL (ts.getD i ⟨0,0,0⟩).n) ((ts.getD i ⟨0,0,0⟩).n - (lenOf (symL (ts.getD i ⟨0,0,0⟩).n)).1) (lenOf (symL (ts.getD i ⟨0,0,0⟩).n)).2]++k1) x fun e x'=>e=.returned (.tuple #[])∧J (evs (ts.take i)++[(true,symL (ts.getD i ⟨0,0,0⟩).n,(ts.getD i ⟨0,0,0⟩).n - (lenOf (symL (ts.getD i ⟨0,0,0⟩).n)).1,(lenOf (symL (ts.getD i ⟨0,0,0⟩).n)).2)]) x'∧∀ kb o,x0.heap.size≤kb→x.heap[kb]?=some o→x'.heap[kb]?=some o):=qz (fun i x0 x hi hx hbx h0=>by
  obtain ⟨r,hr⟩:=split_ev ts i hi
  unfold tokEv at hr
  rw [if_neg h0] at hr
  exact hn _ _ _ _ _ x0 x hr hx hbx)
 have HT2:Hid (∀ i x,i<ts.length→J (evs (ts.take i)++[(true,symL (ts.getD i ⟨0,0,0⟩).n,(ts.getD i ⟨0,0,0⟩).n - (lenOf (symL (ts.getD i ⟨0,0,0⟩).n)).1,(lenOf (symL (ts.getD i ⟨0,0,0⟩).n)).2)]) x→¬ (ts.getD i ⟨0,0,0⟩).n=0→Calls Tryz.prog 112 (#[wordV (symD (ts.getD i ⟨0,0,0⟩).d) ((ts.getD i ⟨0,0,0⟩).d - (distOf (symD (ts.getD i ⟨0,0,0⟩).d)).1) (distOf (symD (ts.getD i ⟨0,0,0⟩).d)).2]++k2) x fun e x'=>e=.returned (.tuple #[])∧J (evs (ts.take (i+1))) x'):=qz (fun i x hi hx h0=>by
  obtain ⟨r,hr⟩:=split_ev ts i hi
  rw [take_ev ts i hi]
  unfold tokEv at hr ⊢
  rw [if_neg h0] at hr ⊢
  have:=hf _ _ _ _ _ x x (by rw [hr];simp only [List.append_assoc,List.cons_append,List.nil_append];rfl) hx (Below.refl _ _)
  simp only [List.append_assoc,List.cons_append,List.nil_append] at this
  exact this.mono fun e x' h=>⟨h.1,h.2.1⟩)
 have HTO:Hid (∀ i,i<ts.length→(ts.getD i ⟨0,0,0⟩).n=0∧(ts.getD i ⟨0,0,0⟩).b<256∨3≤(ts.getD i ⟨0,0,0⟩).n∧(ts.getD i ⟨0,0,0⟩).n≤258∧1≤(ts.getD i ⟨0,0,0⟩).d∧(ts.getD i ⟨0,0,0⟩).d≤32768):=qz (fun i hi=>hok _ (by simp [List.getD_eq_getElem?_getD,hi]))
 have HFIN:Hid (∀ x,J (evs (ts.take ts.length)) x→J (evs ts) x):=qz (fun x h=>by rwa [List.take_length] at h)
 obtain ⟨n,hN⟩:∃ n,n=ts.length:=⟨_,rfl⟩
 have HN:=qz hN
 rw [← hN] at hlen HTK HT1 HT2 HTO HFIN ⊢
 have HB:=qz hb
 have HR:Hid (∀ l x i,J l x→i<n→∃ b off,a=some ⟨b,off,none⟩∧x.cell? ⟨b,off+i*3,none⟩=some (.int .i64 ((ts.getD i ⟨0,0,0⟩).n:Int))∧x.cell? ⟨b,off+i*3+1,none⟩=some (.int .i64 ((ts.getD i ⟨0,0,0⟩).d:Int))∧x.cell? ⟨b,off+i*3+2,none⟩=some (.int .u8 ((ts.getD i ⟨0,0,0⟩).b:Int))):=qz (fun l x i hx hi=>hr l x hx i (by rw [← hN];exact hi))
 have H0:Hid (J (evs (ts.take 0)) w):=qz h0
 clear hok hb hr hn hf h0 hN
 go_enter Tryz.func79,Tryz.ntmps79
 go_wp2_with fail
 go_loopg [10] n (fun gk iv' ws=>∃ i:Nat,gk=n - i∧i≤n∧iv'=.int .i64 (i:Int)∧Hid (J (evs (ts.take i)) ws))
 case atStart=>exact ⟨0,by omega,by omega,rfl,H0⟩
 case round =>
  clear H0
  obtain ⟨i,rfl,hin,rfl,hj⟩:=hrel
  by_cases hlt:i<n
  ·have e1:(i:Int)<(n:Int):=by omega
   obtain ⟨b,off,rfl,q1,q2,q3⟩:=uh HR _ wr i (uh hj) hlt
   have hto:=uh HTO i hlt
   have HTKi:=qz (fun x=>uh HTK i x hlt)
   have HT1i:=qz (fun x0 x=>uh HT1 i x0 x hlt)
   have HT2i:=qz (fun x=>uh HT2 i x hlt)
   have HW1:Hid (∀ v x,3≤v→v≤258→_):=qz (fun v x h1 h2=>lenWord_ok v x h1 h2)
   have HW2:Hid (∀ v x,1≤v→v≤32768→_):=qz (fun v x h1 h2=>distWord_ok v x h1 h2)
   generalize ts.getD i ⟨0,0,0⟩=t at q1 q2 q3 hto HTKi HT1i HT2i
   obtain ⟨tn,td,tb⟩:=t
   simp only at q1 q2 q3 hto HTKi HT1i HT2i
   obtain ⟨W1,hW1⟩:∃ W1,W1=wr.alloc (.cells #[.int .i64 (tn:Int),.int .i64 (td:Int),.int .u8 (tb:Int)] 76):=⟨_,rfl⟩
   have HB1:Hid (Below wr.heap.size wr W1):=qz (by rw [hW1];exact (Below.refl _ _).alloc (Nat.le_refl _) _)
   have x1:W1.heap[wr.heap.size]?=some (.cells #[.int .i64 (tn:Int),.int .i64 (td:Int),.int .u8 (tb:Int)] 76 (0,0)):=by rw [hW1];exact heap_alloc_new _ _
   have HJ1:Hid (J (evs (ts.take i)) W1):=qz (uh HB _ _ _ (uh hj) (uh HB1))
   have d0:W1.cell? ⟨wr.heap.size,0,none⟩=some (.int .i64 (tn:Int)):=by simp only [World.cell?,x1];rfl
   have d2:W1.cell? ⟨wr.heap.size,2,none⟩=some (.int .u8 (tb:Int)):=by simp only [World.cell?,x1];rfl
   have d0':=d0
   have d2':=d2
   rw [hW1] at d0' d2'
   by_cases ht0:tn=0
   ·subst ht0
    have hb256:tb<256:=by omega
    have HC:=qz (uh HTKi W1 (uh HJ1) rfl)
    clear HT1i HT2i HTKi hto
    go_wp2_with fail
    rw [show wr.alloc (.cells #[.int .i64 0,.int .i64 (td:Int),.int .u8 (tb:Int)] 76)=W1 from hW1.symm]
    clear hW1 d0' d2'
    refine (uh HC).mono ?_
    rintro e W2 ⟨rfl,j2⟩
    have HJ2:=qz j2
    clear j2 HC
    go_wp2_with fail
    go_roundg (n - (i+1))
    case measure=>omega
    case rel=>exact ⟨i+1,rfl,by omega,by go_num,HJ2⟩
   ·have ht0':((tn:Int) == 0)=false:=by simp;omega
    have hti:¬ (tn:Int)=0:=by omega
    have hto2:3≤tn∧tn≤258∧1≤td∧td≤32768:=by omega
    have HL1:=qz (uh HW1 tn W1 hto2.1 hto2.2.1)
    have HL2:Hid (∀ x,_):=qz (fun x=>uh HW2 td x hto2.2.2.1 hto2.2.2.2)
    have HC1:Hid (∀ x,Below wr.heap.size wr x→_):=qz (fun x hx=>uh HT1i wr x (uh hj) hx ht0)
    have HC2:Hid (∀ x,_→_):=qz (fun x hx=>uh HT2i x hx ht0)
    generalize wordV (symL tn) (tn - (lenOf (symL tn)).1) (lenOf (symL tn)).2=V1 at HL1 HC1
    generalize wordV (symD td) (td - (distOf (symD td)).1) (distOf (symD td)).2=V2 at HL2 HC2
    clear HT1i HT2i HTKi hto HW1 HW2
    go_wp2_with fail
    rw [← hW1]
    clear hW1 d0' d2'
    refine (uh HL1).mono ?_
    rintro e W2 ⟨rfl,b2⟩
    have hs2:wr.heap.size<W2.heap.size:=Nat.lt_of_lt_of_le (heap_lt x1) b2.size
    have x2:W2.heap[wr.heap.size]?=some (.cells #[.int .i64 (tn:Int),.int .i64 (td:Int),.int .u8 (tb:Int)] 76 (0,0)):=by rw [b2.block _ (heap_lt x1)];exact x1
    have HB2:Hid (Below wr.heap.size wr W2):=qz ((uh HB1).trans (b2.mono (uh HB1).size))
    clear b2 HL1 x1
    go_wp2_with fail
    refine (uh HC1 W2 (uh HB2)).mono ?_
    rintro e W3 ⟨rfl,j3,k3⟩
    have x3:=k3 wr.heap.size _ (Nat.le_refl _) x2
    have e3:W3.cell? ⟨wr.heap.size,1,none⟩=some (.int .i64 (td:Int)):=by simp only [World.cell?,x3];rfl
    have HJ3:=qz j3
    clear j3 k3 HC1 x2 x3 d0 d2
    go_wp2_with fail
    refine (uh HL2 W3).mono ?_
    rintro e W4 ⟨rfl,b4⟩
    have HJ4:=qz (uh HB _ _ _ (uh HJ3) b4)
    clear b4 HJ3 HL2
    go_wp2_with fail
    refine (uh HC2 W4 (uh HJ4)).mono ?_
    rintro e W5 ⟨rfl,j5⟩
    have HJ5:=qz j5
    clear j5 HC2 HJ4
    go_wp2_with fail
    go_roundg (n - (i+1))
    case measure=>omega
    case rel=>exact ⟨i+1,rfl,by omega,by go_num,HJ5⟩
  ·obtain rfl:i=n:=by omega
   have HE:=qz (uh HEND wr (uh HFIN wr (uh hj)))
   clear hj
   go_wp2_with fail
   refine (uh HE).mono ?_
   rintro e W2 ⟨rfl,j2⟩
   have HJ2:=qz j2
   clear j2 HE
   go_wp2_with fail
   go_end0
   exact ⟨rfl,uh HJ2⟩
end W4
namespace W4
open Go.RowKit Mth Infl Defl
attribute [local go_sem ↓] wp_at_zero wp_at_succ
def evB (l1 l2:List Nat) (e:Ev):List Bool:=wb (if e.1 then l1 else l2) e.2.1++nb e.2.2.1 e.2.2.2
def evsB (l1 l2:List Nat) (l:List Ev):List Bool:=(l.map (evB l1 l2)).flatten
structure EvOk (ls:List Nat) (s m y:Nat):Prop where
 has:s<ls.length
 pos:0<Canon.ln ls s
 most:Canon.ln ls s≤15
 fits:m<2 ^ y
 few:y≤13
theorem evsB_snoc (l1 l2:List Nat) (l:List Ev) (e:Ev):evsB l1 l2 (l++[e])=evsB l1 l2 l++evB l1 l2 e:=by simp [evsB]
theorem evsB_all (l1 l2:List Nat) (ts:List T):evsB l1 l2 (allEv ts)=tbits l1 l2 ts++wb l1 256:=by
 unfold allEv
 rw [evsB_snoc]
 congr 1
 ·induction ts with
  | nil=>rfl
  | cons t ts ih =>
   have e1:evs (t :: ts)=tokEv t++evs ts:=by simp [evs]
   have e2:tbits l1 l2 (t :: ts)=t.bits l1 l2++tbits l1 l2 ts:=by simp [tbits]
   rw [e1,e2,← ih]
   unfold evsB
   rw [List.map_append,List.flatten_append]
   congr 1
   unfold tokEv T.bits
   by_cases h:t.n=0
   ·rw [if_pos h,if_pos h];simp [evB,nb]
   ·rw [if_neg h,if_neg h];simp [evB]
 ·simp [evB,nb]
theorem allEv_len (ts:List T):(allEv ts).length≤2*ts.length+1:=by
 unfold allEv
 rw [List.length_append]
 have:(evs ts).length≤2*ts.length:=by
  induction ts with
  | nil=>simp [evs]
  | cons t ts ih =>
   have e1:evs (t :: ts)=tokEv t++evs ts:=by simp [evs]
   rw [e1,List.length_append,List.length_cons]
   have:(tokEv t).length≤2:=by unfold tokEv;split <;> simp
   omega
 simp
 omega
theorem allEv_ok {l1 l2:List Nat} {ts:List T} (hok:TokOk ts) (hhas:∀ t∈ts,t.has l1 l2) (h256:256<l1.length∧0<Canon.ln l1 256) (hl1:∀ s,Canon.ln l1 s≤15) (hl2:∀ s,Canon.ln l2 s≤15) :
  ∀ e∈allEv ts,EvOk (if e.1 then l1 else l2) e.2.1 e.2.2.1 e.2.2.2:=by
 intro e he
 unfold allEv at he
 rw [List.mem_append] at he
 rcases he with he | he
 ·unfold evs at he
  rw [List.mem_flatten] at he
  obtain ⟨l,hl,he⟩:=he
  rw [List.mem_map] at hl
  obtain ⟨t,ht,rfl⟩:=hl
  have h1:=hok t ht
  have h2:=hhas t ht
  unfold tokEv at he
  unfold T.has at h2
  by_cases h:t.n=0
  ·rw [if_pos h] at he h2
   simp only [List.mem_singleton] at he
   subst he
   exact ⟨h2.1,h2.2,hl1 _,by simp,by simp⟩
  ·rw [if_neg h] at he h2
   have h3:3≤t.n∧t.n≤258∧1≤t.d∧t.d≤32768:=by rcases h1 with h1 | h1;exact absurd h1.1 h;exact h1
   have a:=symL_is t.n h3.1 h3.2.1
   have b:=symD_is t.d h3.2.2.1 h3.2.2.2
   simp only [List.mem_cons,List.not_mem_nil,or_false] at he
   rcases he with rfl | rfl
   ·exact ⟨h2.1.1,h2.1.2,hl1 _,a.2.2.2,Nat.le_trans (lenOf_small _ a.1 a.2.1).2 (by omega)⟩
   ·exact ⟨h2.2.1,h2.2.2,hl2 _,b.2.2,(distOf_small _ b.1).2.2⟩
 ·simp only [List.mem_singleton] at he
  subst he
  exact ⟨h256.1,h256.2,hl1 _,by simp,by simp⟩
theorem evB_len {l1 l2:List Nat} {e:Ev} (h:EvOk (if e.1 then l1 else l2) e.2.1 e.2.2.1 e.2.2.2):(evB l1 l2 e).length≤28:=by
 unfold evB
 rw [List.length_append,wb_length,nb_length]
 have:=h.most
 have:=h.few
 omega
theorem evsB_len {l1 l2:List Nat} {l:List Ev} (h:∀ e∈l,EvOk (if e.1 then l1 else l2) e.2.1 e.2.2.1 e.2.2.2):(evsB l1 l2 l).length≤28*l.length:=by
 induction l with
 | nil=>simp [evsB]
 | cons e l ih =>
  have h1:evsB l1 l2 (e :: l)=evB l1 l2 e++evsB l1 l2 l:=by simp [evsB]
  rw [h1,List.length_append,List.length_cons]
  have:=evB_len (h e (by simp))
  have:=ih (fun x hx=>h x (by simp [hx]))
  omega
theorem WrAt.rebase {w0 w w1:World} {v0:Value} {pb:Nat} {L:List Bool} (h:WrAt w0 v0 pb L w) (hb:Below w.heap.size w w1):∃ v,WrAt w1 v pb L w1∧∀ L' w',WrAt w1 v pb L' w'→WrAt w0 v0 pb L' w'∧∀ kb o,w.heap.size≤kb→w1.heap[kb]?=some o→w'.heap[kb]?=some o:=by
 obtain ⟨v,m,f,h1,h2,h3⟩:=h
 refine ⟨v,⟨v,m,f,h1.below hb,h2,Chg.refl _ _ _⟩,?_⟩
 rintro L' w' ⟨v',m',f',k1,k2,k3⟩
 refine ⟨⟨v',m',f',k1,k2,(h3.trans (Chg.of_below hb)).trans k3⟩,fun kb o hkb hko=>?_⟩
 have hp:=heap_lt h1.blk
 rw [k3.keep kb (heap_lt hko) (by omega) (fun e=>by have:=(h1.row.lt kb e).2;omega)]
 exact hko
theorem wput_ok {w0 w:World} {v0:Value} {pb:Nat} {L:List Bool} (h:WrAt w0 v0 pb L w) (ls:List Nat) (cp lo hi s m x:Nat) (hc:Code ls w cp lo hi) (hhi:hi≤w.heap.size) (he:EvOk ls s m x) (hb:L.length+40≤1000000000000000) :
  Calls Tryz.prog 84 #[wv s m x,.pointer (some ⟨pb,0,none⟩),.pointer (some ⟨cp,0,none⟩)] w fun e w'=>e=.returned (.tuple #[])∧WrAt w0 v0 pb (L++(wb ls s++nb m x)) w':=by
 obtain ⟨W1,hW1⟩:∃ W1,W1=w.alloc (.cells #[.int .i64 (s:Int),.int .i64 (m:Int),.int .i64 (x:Int)] 141):=⟨_,rfl⟩
 have hb1:Below w.heap.size w W1:=by rw [hW1];exact (Below.refl _ _).alloc (Nat.le_refl _) _
 have x1:W1.heap[w.heap.size]?=some (.cells #[.int .i64 (s:Int),.int .i64 (m:Int),.int .i64 (x:Int)] 141 (0,0)):=by rw [hW1];exact heap_alloc_new _ _
 obtain ⟨v,r1,r2⟩:=h.rebase hb1
 have hc1:Code ls W1 cp lo hi:=hc.keep fun k k1 k2=>hb1.block k (by omega)
 have d0:W1.cell? ⟨w.heap.size,0,none⟩=some (.int .i64 (s:Int)):=by simp only [World.cell?,x1];rfl
 have d0':=d0
 rw [hW1] at d0'
 have HW:Hid (Calls Tryz.prog 110 #[.pointer (some ⟨cp,0,none⟩),.pointer (some ⟨pb,0,none⟩),.int .i64 (s:Int)] W1 fun e w'=>e=.returned (.int .i64 0)∧WrAt W1 v pb (L++wb ls s) w'):=qz (r1.word ls cp lo hi s hc1 he.has he.pos (by omega))
 have hm:m<8192:=Nat.lt_of_lt_of_le he.fits (Nat.pow_le_pow_right (by omega) he.few:2 ^ x≤2 ^ 13)
 have HK:Hid (∀ L' w',WrAt W1 v pb L' w'→w'.cell? ⟨w.heap.size,1,none⟩=some (.int .i64 (m:Int))∧w'.cell? ⟨w.heap.size,2,none⟩=some (.int .i64 (x:Int))):=qz (fun L' w' h'=>by
  have:=(r2 L' w' h').2 w.heap.size _ (Nat.le_refl _) x1
  constructor <;> (simp only [World.cell?,this];rfl))
 have HP:Hid (∀ w',WrAt W1 v pb (L++wb ls s) w'→Calls Tryz.prog 53 #[.pointer (some ⟨pb,0,none⟩),.int .u64 (m:Int),.int .i64 (x:Int)] w' fun e w''=>e=.returned (.int .i64 0)∧WrAt w0 v0 pb (L++(wb ls s++nb m x)) w''):=qz (fun w' h'=>by
  have q1:=he.few
  have q2:=he.most
  have:=h'.put m x (by omega) he.fits (by rw [List.length_append,wb_length];omega)
  rw [List.append_assoc] at this
  exact this.mono fun e w'' q=>⟨q.1,(r2 _ _ q.2).1⟩)
 have hx13:=he.few
 unfold wv
 clear h hc hc1 he hb r1 r2 hb1
 go_enter Tryz.func84,Tryz.ntmps84
 go_wp2_with fail
 rw [← hW1]
 clear d0' hW1
 refine (uh HW).mono ?_
 rintro e w1 ⟨rfl,h1⟩
 obtain ⟨d1,d2⟩:=uh HK _ _ h1
 have HP1:=qz (uh HP w1 h1)
 clear h1 HW HP HK d0 x1
 go_wp2_with fail
 refine (uh HP1).mono ?_
 rintro e w2 ⟨rfl,h2⟩
 have H2:=qz h2
 clear h2 HP1
 go_wp2_with fail
 go_end0
 exact ⟨rfl,uh H2⟩
theorem wweigh_ok (ls:List Nat) (cp lo hi s m x:Nat) (w:World) (hc:Code ls w cp lo hi) (hhi:hi≤w.heap.size) (he:EvOk ls s m x) :
  Calls Tryz.prog 81 #[wv s m x,.pointer (some ⟨cp,0,none⟩)] w fun e w'=>e=.returned (.int .i64 ((wb ls s++nb m x).length:Int))∧Below w.heap.size w w':=by
 obtain ⟨W1,hW1⟩:∃ W1,W1=w.alloc (.cells #[.int .i64 (s:Int),.int .i64 (m:Int),.int .i64 (x:Int)] 141):=⟨_,rfl⟩
 have hb1:Below w.heap.size w W1:=by rw [hW1];exact (Below.refl _ _).alloc (Nat.le_refl _) _
 have x1:W1.heap[w.heap.size]?=some (.cells #[.int .i64 (s:Int),.int .i64 (m:Int),.int .i64 (x:Int)] 141 (0,0)):=by rw [hW1];exact heap_alloc_new _ _
 have hc1:Code ls W1 cp lo hi:=hc.keep fun k k1 k2=>hb1.block k (by omega)
 have d0:W1.cell? ⟨w.heap.size,0,none⟩=some (.int .i64 (s:Int)):=by simp only [World.cell?,x1];rfl
 have d0':=d0
 rw [hW1] at d0'
 have HW:=qz (word_ok ls cp lo hi s W1 hc1 he.has he.pos)
 have q1:=he.few
 have q2:=he.most
 rw [List.length_append,wb_length,nb_length]
 obtain ⟨k,hk⟩:∃ k,k=Canon.ln ls s:=⟨_,rfl⟩
 rw [← hk] at HW q2 ⊢
 unfold wv
 have HB1:=qz hb1
 clear hc hc1 he hk hb1
 go_enter Tryz.func81,Tryz.ntmps81
 go_wp2_with fail
 rw [← hW1]
 clear d0' hW1
 refine (uh HW).mono ?_
 rintro e w1 ⟨rfl,h1⟩
 have d2:w1.cell? ⟨w.heap.size,2,none⟩=some (.int .i64 (x:Int)):=by
  have:w1.heap[w.heap.size]?=_:=(h1.block _ (heap_lt x1)).trans x1
  simp only [World.cell?,this];rfl
 have H1:=qz ((uh HB1).trans (h1.mono (uh HB1).size))
 clear h1 HW HB1
 go_wp2_with fail
 go_ret
 exact ⟨by go_num,uh H1⟩
end W4
end Go.Proofs.YtabeanealkopbaaGreat
