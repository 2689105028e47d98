/- A part of the proof. -/
import Derived.Test.YtabeanealkopbaaGreatDtqD
import Derived.ProofKit
import Derived.OpenShut
import Derived.ChangeOld
import Derived.ChangeKeysEq

set_option linter.unusedVariables false
set_option maxRecDepth 100000
set_option maxHeartbeats 24000000
namespace Go.Proofs.YtabeanealkopbaaGreat
section
open Go.RowKit
attribute [local go_sem ↓] wp_at_zero wp_at_succ
structure WayAt (w ws:World) (g cap N:Nat) (A B S:Nat→Nat) (H:Nat→Bool) (P:Nat→Prop) (Wd:Nat→Nat→Prop) (ix ky:Nat→Nat):Prop where
 row:z0t ws w.heap.size g cap N A B S H
 tr:Trie N A B S H P Wd ix ky
 bel:Below w.heap.size w ws
structure InAt (ls:List Nat) (w ws:World) (s l wb L W g cap N:Nat) (A B S:Nat→Nat) (H:Nat→Bool) (ix ky:Nat→Nat):Prop where
 way:WayAt w ws g cap N A B S H (z8j ls s l) (Wrd ls s) ix ky
 blk:ws.heap[wb]?=some (.cells #[.int .u32 (W:Int),.int .i64 (L:Int)] 188 (0,0))
 ne:g≠wb
 old:w.heap.size≤wb
 cnt:N≤2+20*s+l
section
variable {ls:List Nat} {w ws w3:World} {s l wb L W g g' cap cap' N:Nat} {A B S:Nat→Nat} {H:Nat→Bool} {ix ky:Nat→Nat}
theorem WayAt.into (hst:WayAt w ws g cap N A B S H (Beg ls s) (Wrd ls s) ix ky) (hw:Canon.wd ls s<2^Canon.ln ls s) (hN:N≤2+20*s) :
  InAt ls w (ws.alloc (.cells #[.int .u32 (W:Int),.int .i64 (L:Int)] 188)) s 0 ws.heap.size L W g cap N A B S H ix ky:=by
 have hl:=hst.row.lt
 refine ⟨⟨hst.row.keep (Below.heap_alloc _ _ _ hl.2),hst.tr.congr (fun k=>(z8j.zero hw k).symm) (fun _ _=>Iff.rfl),hst.bel.alloc hst.bel.size _⟩,heap_alloc_new _ _,by omega,hst.bel.size,by omega⟩
theorem InAt.place (h:InAt ls w ws s l wb L W g cap N A B S H ix ky) (hl:l≤L) (hL:L=Canon.ln ls s) :
  1≤ix (key ls s/2^(L-l))∧ix (key ls s/2^(L-l))<N∧ky (ix (key ls s/2^(L-l)))=key ls s/2^(L-l):=by
 have:=h.way.tr.inX (key ls s/2^(L-l)) (.inr ⟨L-l,by omega,by omega,rfl⟩)
 exact ⟨this.1,this.2.1,this.2.2.1⟩
theorem InAt.next (h:InAt ls w ws s l wb L W g cap N A B S H ix ky) (a i:Nat) (hi:i+1+l=L) (hL:L=Canon.ln ls s) (ha:a=ix (key ls s/2^(L-l))) :
  key ls s/2^i=2*ky a+Canon.wd ls s/2^i%2∧(Canon.wd ls s/2^i%2=0→A a=ix (key ls s/2^i))∧(Canon.wd ls s/2^i%2=1→B a=ix (key ls s/2^i)):=by
 obtain ⟨h1,h2,h3⟩:=h.place (by omega) hL
 rw [←ha] at h1 h2 h3
 have hs:=w1c ls s i (by omega)
 have hk:=h.way.tr.kid a h1 h2
 rw [show L-l=i+1 by omega] at h3
 rw [←h3] at hs
 refine ⟨hs,fun e=>?_,fun e=>?_⟩
 ·rw [hk.1,hs,e];rfl
 ·rw [hk.2,hs,e]
theorem InAt.hit (h:InAt ls w ws s l wb L W g cap N A B S H ix ky) (i:Nat) (hi:i+1+l=L) (hL:L=Canon.ln ls s) (hx:ix (key ls s/2^i)≠0):InAt ls w ws s (l+1) wb L W g cap N A B S H ix ky:=by
 have hp:z8j ls s l (key ls s/2^i):=Classical.byContradiction fun hn=>hx (h.way.tr.no _ hn)
 refine ⟨⟨h.way.row,h.way.tr.congr (fun k=>?_) (fun _ _=>Iff.rfl),h.way.bel⟩,h.blk,h.ne,h.old,by have:=h.cnt;omega⟩
 rw [z8j.succ ls s l (by omega)]
 constructor
 ·exact .inl
 ·rintro (e|e)
  ·exact e
  ·rw [e,show Canon.ln ls s-(l+1)=i by omega];exact hp
theorem InAt.add (h:InAt ls w ws s l wb L W g cap N A B S H ix ky) (a i b:Nat) (hi:i+1+l=L) (hL:L=Canon.ln ls s) (ha:a=ix (key ls s/2^(L-l))) (hb:b=Canon.wd ls s/2^i%2) (hx:ix (key ls s/2^i)=0)
  (hown:w3.ownsRow w.heap.size 191 4 (.slice (some ⟨g',0,none⟩) (N+1) cap') (N+1) (z1x N (if b=0 then upd A a N else A) (if b=0 then B else upd B a N) S H++[.int .i32 0,.int .i32 0,.int .i32 0,.bool false]))
  (o:Obj) (u:Value) (hgr:((ws.setCell ⟨g,a*4+b,none⟩ u).alloc o).grownBy w3 (some g)) (hat:some g=some g'∨g'=ws.heap.size+1) :
  InAt ls w w3 s (l+1) wb L W g' cap' (N+1) (if b=0 then upd A a N else A) (if b=0 then B else upd B a N) S H (upd ix (key ls s/2^i) N) (upd ky N (key ls s/2^i))∧upd ix (key ls s/2^i) N (key ls s/2^i)=N:=by
 obtain ⟨h1,h2,h3⟩:=h.place (by omega) hL
 rw [←ha] at h1 h2 h3
 obtain ⟨n1,_⟩:=h.next a i hi hL ha
 have hnp:¬z8j ls s l (key ls s/2^i):=fun hp=>by have:=(h.way.tr.inX _ hp).1;omega
 have T:=h.way.tr.add a b h1 h2 (by omega) (key ls s/2^i) (by rw [n1,hb]) hnp
 have hgl:=h.way.row.lt
 have hwb:=z0b h.blk
 have hsz:=hgr.size
 simp at hsz
 have hbb:=h.way.bel.size
 refine ⟨⟨⟨?_,T.congr (fun k=>?_) (fun _ _=>Iff.rfl),?_⟩,?_,?_,h.old,by have:=h.cnt;omega⟩,if_pos rfl⟩
 ·unfold z0t
  rw [y9k]
  ·exact hown
  ·have h0:=h.way.tr.out N (by omega)
   have hne:N≠a:=by omega
   by_cases e:b=0
   ·rw [if_pos e,if_pos e,upd_ne hne];exact h0
   ·rw [if_neg e,if_neg e,upd_ne hne];exact h0
 ·rw [z8j.succ ls s l (by omega),show Canon.ln ls s-(l+1)=i by omega]
 ·have b1:Below w.heap.size w ((ws.setCell ⟨g,a*4+b,none⟩ u).alloc o):=(h.way.bel.setCell (by exact hgl.1) _).alloc (by simpa using hbb) _
  refine b1.trans ⟨hgr.os,hgr.tape,hgr.output,hgr.size,fun k hk=>hgr.block k (by simp;omega) (fun e=>by injection e with e;omega)⟩
 ·rw [hgr.block wb (by simp;omega) (fun e=>by injection e with e;exact h.ne e.symm),Below.heap_alloc _ _ _ (by simpa using hwb),heap_setCell_other _ _ _ _ (by exact h.ne.symm)]
  exact h.blk
 ·rcases hat with e|e
  ·injection e with e;rw [←e];exact h.ne
  ·omega
theorem InAt.add0 (h:InAt ls w ws s l wb L W g cap N A B S H ix ky) (a i:Nat) (hi:i+1+l=L) (hL:L=Canon.ln ls s) (ha:a=ix (key ls s/2^(L-l))) (hb:0=Canon.wd ls s/2^i%2) (hx:ix (key ls s/2^i)=0)
  (hown:w3.ownsRow w.heap.size 191 4 (.slice (some ⟨g',0,none⟩) (N+1) cap') (N+1) (z1x N (upd A a N) B S H++[.int .i32 0,.int .i32 0,.int .i32 0,.bool false]))
  (o:Obj) (u:Value) (hgr:((ws.setCell ⟨g,a*4,none⟩ u).alloc o).grownBy w3 (some g)) (hat:some g=some g'∨g'=ws.heap.size+1) :
  InAt ls w w3 s (l+1) wb L W g' cap' (N+1) (upd A a N) B S H (upd ix (key ls s/2^i) N) (upd ky N (key ls s/2^i))∧upd ix (key ls s/2^i) N (key ls s/2^i)=N :=
 h.add a i 0 hi hL ha hb hx hown o u hgr hat
theorem InAt.add1 (h:InAt ls w ws s l wb L W g cap N A B S H ix ky) (a i:Nat) (hi:i+1+l=L) (hL:L=Canon.ln ls s) (ha:a=ix (key ls s/2^(L-l))) (hb:1=Canon.wd ls s/2^i%2) (hx:ix (key ls s/2^i)=0)
  (hown:w3.ownsRow w.heap.size 191 4 (.slice (some ⟨g',0,none⟩) (N+1) cap') (N+1) (z1x N A (upd B a N) S H++[.int .i32 0,.int .i32 0,.int .i32 0,.bool false]))
  (o:Obj) (u:Value) (hgr:((ws.setCell ⟨g,a*4+1,none⟩ u).alloc o).grownBy w3 (some g)) (hat:some g=some g'∨g'=ws.heap.size+1) :
  InAt ls w w3 s (l+1) wb L W g' cap' (N+1) A (upd B a N) S H (upd ix (key ls s/2^i) N) (upd ky N (key ls s/2^i))∧upd ix (key ls s/2^i) N (key ls s/2^i)=N :=
 h.add a i 1 hi hL ha hb hx hown o u hgr hat
theorem InAt.fin (h:InAt ls w ws s L wb L W g cap N A B S H ix ky) (hL:L=Canon.ln ls s) (h0:0<L) (hg:Good ls) (hs:s<ls.length) (a:Nat) (ha:a=ix (key ls s/2^(L-L))) :
  WayAt w ((((ws.setCell ⟨g,a*4,none⟩ (.int .i32 0)).setCell ⟨g,a*4+1,none⟩ (.int .i32 0)).setCell ⟨g,a*4+2,none⟩ (.int .i32 (s:Int))).setCell ⟨g,a*4+3,none⟩ (.bool true)) g cap N (upd A a 0) (upd B a 0) (upd S a s) (updB H a true) (Beg ls (s+1)) (Wrd ls (s+1)) ix ky:=by
 obtain ⟨h1,h2,h3⟩:=h.place (Nat.le_refl _) hL
 rw [←ha,Nat.sub_self,Nat.pow_zero,Nat.div_one] at h3
 rw [←ha] at h1 h2
 have hgl:=h.way.row.lt
 have tr0:Trie N A B S H (Beg ls (s+1)) (Wrd ls s) ix ky:=h.way.tr.congr (fun k=>by have:=z8j.all ls s (by omega) k;rw [hL];exact this) (fun _ _=>Iff.rfl)
 have T:=tr0.put a s h1 h2 (by rw [h3];exact hg.ends hs (by omega) 0 (by omega)) (by rw [h3];exact hg.ends hs (by omega) 1 (by omega)) (by rw [h3];exact hg.new hs (by omega))
 refine ⟨(((h.way.row.setA a 0).setB a 0).setS a s).setH a true,T.congr (fun _=>Iff.rfl) (fun i k=>?_),?_⟩
 ·rw [Wrd.succ ls s (by omega),h3]
 ·exact (((h.way.bel.setCell (by exact hgl.1) _).setCell (by exact hgl.1) _).setCell (by exact hgl.1) _).setCell (by exact hgl.1) _
theorem InAt.c0 (h:InAt ls w ws s l wb L W g cap N A B S H ix ky):ws.cell? ⟨wb,0,none⟩=some (.int .u32 (W:Int)):=by simp [World.cell?,h.blk]
theorem InAt.c1 (h:InAt ls w ws s l wb L W g cap N A B S H ix ky):ws.cell? ⟨wb,1,none⟩=some (.int .i64 (L:Int)):=by simp [World.cell?,h.blk]
end
theorem y7q {w:World} {n:Nat} (hn:n=w.heap.size):∀ (j:Nat) u,[Value.int .i32 0,.int .i32 0,.int .i32 0,.bool false][j]?=some u→(w.alloc (.cells #[.int .i32 0,.int .i32 0,.int .i32 0,.bool false] 191)).cell? ((⟨n,0,none⟩:Addr).add j)=some u:=by
 subst hn
 exact World.news_of_block (heap_alloc_new w _)
theorem x5b (W i:Nat) (hW:W<4294967296):bits .and .u32 ((W:Int)/2^i) 1=((W/2^i%2:Nat):Int):=by
 have hd:W/2^i<4294967296:=Nat.lt_of_le_of_lt (Nat.div_le_self _ _) hW
 rw [show ((W:Int)/2^i)=((W/2^i:Nat):Int) by simp]
 have h:=u32_and_nat (W/2^i) 1 hd (by decide)
 rw [Nat.and_one_is_mod] at h
 exact h
theorem x9p (ls:List Nat) (wg n:Nat) (w:World) (hg:Good ls) (hlen:ls.length=n) (hn:n≤65536) (hw:z0f w 188 wg n (wdz ls) (Canon.ln ls)) :
  Calls Tryz.prog 92 #[.slice (some ⟨wg,0,none⟩) n n] w fun e w'=>∃g cap N A B S H ix ky,e=.returned (.slice (some ⟨g,0,none⟩) N cap)∧WayAt w w' g cap N A B S H (Beg ls n) (Wrd ls n) ix ky:=by
 have hmk:=x3f w
 obtain ⟨i0,hii,hz0,hz1,hz2⟩:=info_parts w3a
 have HW:=qz hw
 have HG:=qz hg
 have HLEN:=qz hlen
 clear hw hg hlen
 go_enter Tryz.func92,Tryz.ntmps92
 go_wp2_with fail
 have HST:Hid (WayAt w (w.alloc (.cells (z1x 2 (fun _=>0) (fun _=>0) (fun _=>0) (fun _=>false)).toArray 191)) w.heap.size 2 2 _ _ _ _ (fun k=>k=1) (fun _ _=>False) _ _):=qz ⟨y9l w,Trie.start,(Below.refl _ _).alloc (Nat.le_refl _) _⟩
 generalize w.alloc (.cells (z1x 2 (fun _=>0) (fun _=>0) (fun _=>0) (fun _=>false)).toArray 191)=w1 at HST ⊢
 obtain ⟨g0,hg0⟩:∃g0,g0=w.heap.size:=⟨_,rfl⟩
 rw [←hg0] at HST ⊢
 clear hmk hg0
 go_loopg [3,12] n (fun gk v d ws=>∃ (s:Nat) (g cap N:Nat) (A B S:Nat→Nat) (H:Nat→Bool) (ix ky:Nat→Nat),gk=n-s∧s≤n∧d=.int .i64 (s:Int)∧N≤2+20*s∧v=.slice (some ⟨g,0,none⟩) N cap∧WayAt w ws g cap N A B S H (Beg ls s) (Wrd ls s) ix ky)
 case atStart =>
  have h:=uh HST
  refine ⟨0,g0,2,2,_,_,_,_,_,_,by omega,by omega,rfl,by omega,rfl,h.row,h.tr.congr (fun k=>?_) (fun i k=>?_),h.bel⟩
  ·exact ⟨fun e=>.inl e,fun e=>e.resolve_right (fun ⟨i,hi,_⟩=>by omega)⟩
  ·exact ⟨fun e=>e.elim,fun ⟨hi,_⟩=>by omega⟩
 case round =>
  obtain ⟨s,g,cap,N,A,B,S,H,ix,ky,rfl,hs,rfl,hN,rfl,hst⟩:=hrel
  clear HST
  by_cases hlt:s<n
  ·have hsi:(s:Int)<(n:Int):=by omega
   have hww:=(uh HW).stays hst.bel (uh HW).lt
   have k1:=hww.word s hlt
   have k2:=hww.len s hlt
   by_cases h0:Canon.ln ls s=0
   ·rw [h0] at k2
    have HNX:Hid (WayAt w (wr.alloc (.cells #[.int .u32 (wdz ls s:Int),.int .i64 0] 188)) g cap N A B S H (Beg ls (s+1)) (Wrd ls (s+1)) ix ky):=qz ⟨hst.row.keep (Below.heap_alloc _ _ _ hst.row.lt.2),hst.tr.congr (fun k=>(Beg.skip ls s (by omega) k).symm) (fun i k=>(Wrd.skip ls s (by omega) i k).symm),hst.bel.alloc hst.bel.size _⟩
    have hgl:=hst.row.lt.2
    clear hst hww
    go_wp2_with fail
    go_roundg (n-(s+1))
    case measure=>omega
    case rel=>exact ⟨s+1,g,cap,N,A,B,S,H,ix,ky,rfl,by omega,by go_num,by omega,rfl,uh HNX⟩
   ·have hL:=(uh HG).small (Canon.ln ls s) (by rw [Canon.ln,List.getD_eq_getElem?_getD,List.getElem?_eq_getElem (by rw [uh HLEN];exact hlt)];exact List.getElem_mem _)
    obtain ⟨L,hLe⟩:∃L,L=Canon.ln ls s:=⟨_,rfl⟩
    obtain ⟨W,hWe⟩:∃W,W=wdz ls s:=⟨_,rfl⟩
    rw [←hLe] at k2 h0 hL
    rw [←hWe] at k1
    have HL:=qz hLe
    have HWe:=qz hWe
    have HST:=qz hst
    have e0:((L:Int) == 0)=false:=by simp;omega
    obtain ⟨wb,hwb⟩:∃wb,wb=wr.heap.size:=⟨_,rfl⟩
    have HWB:=qz hwb
    have HIN:=qz (hst.into (L:=L) (W:=W) (Canon.y8i ((uh HG).has (by rw [uh HLEN];exact hlt) (by rw [←uh HL];omega)) (uh HG).sum) hN)
    rw [←hwb] at HIN
    have hWb:W<2^20:=by
     have hh:=(uh HG).has (i:=s) (by rw [uh HLEN];exact hlt) (by rw [←uh HL];omega)
     have h1:=Canon.y8i hh (uh HG).sum
     have h2:2^Canon.ln ls s≤2^20:=Nat.pow_le_pow_right (by decide) (by rw [←uh HL];exact hL)
     rw [uh HWe,wdz,if_neg (by rw [←uh HL];exact h0)]
     omega
    have hgl:=hst.row.lt.2
    clear hst hww hLe hWe
    go_upto_region 8 with fail
    rw [←hwb]
    generalize wr.alloc (.cells #[.int .u32 (W:Int),.int .i64 (L:Int)] 188)=w2 at HIN ⊢
    clear hwb HST k1 k2
    go_loopg [3,6,7] L (fun gk v atv iv ws=>∃ (l g cap N:Nat) (A B S:Nat→Nat) (H:Nat→Bool) (ix ky:Nat→Nat),gk=L-l∧l≤L∧v=.slice (some ⟨g,0,none⟩) N cap∧atv=.int .i32 (ix (key ls s/2^(L-l)):Int)∧iv=.int .i64 ((L:Int)-1-(l:Int))∧InAt ls w ws s l wb L W g cap N A B S H ix ky)
    case atStart =>
     refine ⟨0,g,cap,N,A,B,S,H,ix,ky,by omega,by omega,rfl,?_,by simp,uh HIN⟩
     have hh:=(uh HG).has (i:=s) (by rw [uh HLEN];exact hlt) (by rw [←uh HL];omega)
     have h1:=(uh HIN).way.tr
     have h2:=(h1.inK 1 (by omega) (by have:=h1.two;omega)).2
     rw [h1.root] at h2
     rw [Nat.sub_zero,uh HL,y9f (Canon.y8i hh (uh HG).sum),h2]
     rfl
    case round =>
     obtain ⟨l,g,cap,N,A,B,S,H,ix,ky,rfl,hl,rfl,rfl,rfl,hin⟩:=hrel
     clear HIN hgl
     obtain ⟨p1,p2,p3⟩:=hin.place hl (uh HL)
     have hcnt:=hin.cnt
     obtain ⟨a,ha⟩:∃a,a=ix (key ls s/2^(L-l)):=⟨_,rfl⟩
     rw [←ha] at p1 p2 p3 ⊢
     have c0:=hin.c0
     have c1:=hin.c1
     have hNb:N≤1400000:=by omega
     have haN:(a:Int)<(N:Int):=by omega
     by_cases hll:l<L
     ·obtain ⟨i,hi⟩:∃i,i+1+l=L:=⟨L-1-l,by omega⟩
      rw [show (L:Int)-1-(l:Int)=(i:Int) by omega]
      have hx:=hin.next a i hi (uh HL) ha
      have k1:=hin.way.row.cA a p2
      have k2:=hin.way.row.cB a p2
      have k3:=hin.way.row.free (a*4)
      have k4:=hin.way.row.free (a*4+1)
      have hi20:i<20:=by omega
      have hi0:(0:Int)≤(i:Int):=by omega
      have HIN:=qz hin
      have HA:=qz ha
      have HI:=qz hi
      have HX:=qz hx
      clear hin ha hi hx p3
      go_upto_region 11 with fail
      rw [x5b W i (by omega)]
      have HWw:Hid (W=Canon.wd ls s):=qz (by rw [uh HWe,wdz,if_neg (by rw [←uh HL];exact h0)])
      obtain ⟨b,hb⟩:∃b,b=W/2^i%2:=⟨_,rfl⟩
      rw [←hb]
      have hb1:b≤1:=by omega
      have HB:=qz hb
      clear hb
      by_cases hb0:b=0
      ·subst hb0
       have hX:A a=ix (key ls s/2^i):=(uh HX).2.1 (by rw [←uh HWw,←uh HB])
       obtain ⟨x,hx⟩:∃x,x=ix (key ls s/2^i):=⟨_,rfl⟩
       rw [hX,←hx] at k1
       have HXX:=qz hx
       clear hX hx
       by_cases hx0:x=0
       ·subst hx0
        have HROW:Hid (z0t ((wr.setCell ⟨g,a*4,none⟩ (.int .i32 (N:Int))).alloc (.cells #[.int .i32 0,.int .i32 0,.int .i32 0,.bool false] 191)) w.heap.size g cap N (upd A a N) B S H):=qz (((uh HIN).way.row.setA a N).keep (Below.heap_alloc _ _ _ (by simpa using (uh HIN).way.row.lt.2)))
        have HNEWS:Hid (∀j u,[Value.int .i32 0,.int .i32 0,.int .i32 0,.bool false][j]?=some u→((wr.setCell ⟨g,a*4,none⟩ (.int .i32 (N:Int))).alloc (.cells #[.int .i32 0,.int .i32 0,.int .i32 0,.bool false] 191)).cell? ((⟨wr.heap.size,0,none⟩:Addr).add j)=some u):=qz (y7q (by simp))
        have hgl:=(uh HIN).way.row.lt
        go_wp2_with (at_builtin;go_must (refine wpList_append_lies _ rfl (.tmp 49) (.tmp 51) 152 rfl w.heap.size 191 i0 _ 4 16 Tryz.underlying152 hii hz0 hz1 hz2 rfl (by decide) _ N _ (by rfl) (uh HROW) ⟨wr.heap.size,0,none⟩ 1 1 [.int .i32 0,.int .i32 0,.int .i32 0,.bool false] (by rfl) rfl (uh HNEWS) (by intro u hu;simp at hu;rcases hu with rfl|rfl<;>rfl) (by omega) (by unfold maxLen;omega) (by omega) (by simp;omega) (wr.heap.size+1) (by simp) ?_;intro g' cap' w3 hown hgrow hat hglt;have HR:=qz ((uh HIN).add0 a i (uh HI) (uh HL) (uh HA) (by rw [←uh HWw,←uh HB]) (by rw [←uh HXX]) hown _ _ hgrow hat);clear hown hgrow hat hglt;have q1:=(uh HR).1.way.row.cA a (by omega);rw [show upd A a N a=N from if_pos rfl] at q1;have haN':(a:Int)<(N:Int)+1:=by omega))
        go_roundg (L-(l+1))
        case measure=>have:=uh HI;omega
        case rel =>
         have hI:=uh HI
         obtain ⟨r1,r2⟩:=uh HR
         refine ⟨l+1,g',cap',N+1,_,_,_,_,_,_,rfl,by omega,rfl,?_,by rw [show (L:Int)-1-((l+1:Nat):Int)=(i:Int)-1 by omega],r1⟩
         rw [show L-(l+1)=i by omega,r2]
       ·have ex:((x:Int) == 0)=false:=by simp;omega
        have HH:=qz ((uh HIN).hit i (uh HI) (uh HL) (by rw [←uh HXX];exact hx0))
        go_wp2_with fail
        go_roundg (L-(l+1))
        case measure=>have:=uh HI;omega
        case rel =>
         have hI:=uh HI
         refine ⟨l+1,g,cap,N,_,_,_,_,_,_,rfl,by omega,rfl,?_,by rw [show (L:Int)-1-((l+1:Nat):Int)=(i:Int)-1 by omega],uh HH⟩
         rw [show L-(l+1)=i by omega,←uh HXX]
      ·obtain rfl:b=1:=by omega
       have hX:B a=ix (key ls s/2^i):=(uh HX).2.2 (by rw [←uh HWw,←uh HB])
       obtain ⟨x,hx⟩:∃x,x=ix (key ls s/2^i):=⟨_,rfl⟩
       rw [hX,←hx] at k2
       have HXX:=qz hx
       clear hX hx
       by_cases hx0:x=0
       ·subst hx0
        have HROW:Hid (z0t ((wr.setCell ⟨g,a*4+1,none⟩ (.int .i32 (N:Int))).alloc (.cells #[.int .i32 0,.int .i32 0,.int .i32 0,.bool false] 191)) w.heap.size g cap N A (upd B a N) S H):=qz (((uh HIN).way.row.setB a N).keep (Below.heap_alloc _ _ _ (by simpa using (uh HIN).way.row.lt.2)))
        have HNEWS:Hid (∀j u,[Value.int .i32 0,.int .i32 0,.int .i32 0,.bool false][j]?=some u→((wr.setCell ⟨g,a*4+1,none⟩ (.int .i32 (N:Int))).alloc (.cells #[.int .i32 0,.int .i32 0,.int .i32 0,.bool false] 191)).cell? ((⟨wr.heap.size,0,none⟩:Addr).add j)=some u):=qz (y7q (by simp))
        have hgl:=(uh HIN).way.row.lt
        go_wp2_with (at_builtin;go_must (refine wpList_append_lies _ rfl (.tmp 49) (.tmp 51) 152 rfl w.heap.size 191 i0 _ 4 16 Tryz.underlying152 hii hz0 hz1 hz2 rfl (by decide) _ N _ (by rfl) (uh HROW) ⟨wr.heap.size,0,none⟩ 1 1 [.int .i32 0,.int .i32 0,.int .i32 0,.bool false] (by rfl) rfl (uh HNEWS) (by intro u hu;simp at hu;rcases hu with rfl|rfl<;>rfl) (by omega) (by unfold maxLen;omega) (by omega) (by simp;omega) (wr.heap.size+1) (by simp) ?_;intro g' cap' w3 hown hgrow hat hglt;have HR:=qz ((uh HIN).add1 a i (uh HI) (uh HL) (uh HA) (by rw [←uh HWw,←uh HB]) (by rw [←uh HXX]) hown _ _ hgrow hat);clear hown hgrow hat hglt;have q1:=(uh HR).1.way.row.cB a (by omega);rw [show upd B a N a=N from if_pos rfl] at q1;have haN':(a:Int)<(N:Int)+1:=by omega))
        go_roundg (L-(l+1))
        case measure=>have:=uh HI;omega
        case rel =>
         have hI:=uh HI
         obtain ⟨r1,r2⟩:=uh HR
         refine ⟨l+1,g',cap',N+1,_,_,_,_,_,_,rfl,by omega,rfl,?_,by rw [show (L:Int)-1-((l+1:Nat):Int)=(i:Int)-1 by omega],r1⟩
         rw [show L-(l+1)=i by omega,r2]
       ·have ex:((x:Int) == 0)=false:=by simp;omega
        have HH:=qz ((uh HIN).hit i (uh HI) (uh HL) (by rw [←uh HXX];exact hx0))
        go_wp2_with fail
        go_roundg (L-(l+1))
        case measure=>have:=uh HI;omega
        case rel =>
         have hI:=uh HI
         refine ⟨l+1,g,cap,N,_,_,_,_,_,_,rfl,by omega,rfl,?_,by rw [show (L:Int)-1-((l+1:Nat):Int)=(i:Int)-1 by omega],uh HH⟩
         rw [show L-(l+1)=i by omega,←uh HXX]
     ·obtain rfl:l=L:=by omega
      have hii0:¬ (0:Int)≤(l:Int)-1-(l:Int):=by omega
      rw [show (l:Int)-1-(l:Int) = -1 by omega] at hii0 ⊢
      have HF:=qz (hin.fin (uh HL) (by omega) (uh HG) (by rw [uh HLEN];exact hlt) a ha)
      have k1:=hin.way.row.cA a p2
      have k2:=hin.way.row.cB a p2
      have k3:=hin.way.row.cS a p2
      have k4:=hin.way.row.cH a p2
      have f1:=hin.way.row.free (a*4)
      have f2:=hin.way.row.free (a*4+1)
      have f3:=hin.way.row.free (a*4+2)
      have f4:=hin.way.row.free (a*4+3)
      have hs64:s<65536:=by omega
      clear hin ha p3
      go_wp2_with fail
      go_roundg (n-(s+1))
      case measure=>omega
      case rel=>exact ⟨s+1,g,cap,N,_,_,_,_,ix,ky,rfl,by omega,by go_num,by omega,rfl,uh HF⟩
  ·obtain rfl:s=n:=by omega
   have HST:=qz hst
   clear hst
   go_wp2_with fail
   go_ret
   exact ⟨g,cap,N,A,B,S,H,ix,ky,rfl,uh HST⟩
end
section
open Go.RowKit
theorem w3c (v:Value) (zs:List Int) (M g:Nat) (w0 w:World) (hr:z0w w0 v zs) (hb:Below w0.heap.size w0 w) (hn:zs.length≤65536) (hz:∀z∈zs,z2v (M:Int) z) (hM:M≤20) (hsum:Canon.sum (nat zs)≤1048576)
  (hrow:z0c w .i64 3 g (M+1) (Canon.cn (nat zs))) :
  Calls Tryz.prog 91 #[v,.slice (some ⟨g,0,none⟩) (M+1) (M+1)] w fun e w'=>∃wg,e=.returned (.slice (some ⟨wg,0,none⟩) zs.length zs.length)∧w.heap.size≤wg∧z0f w' 188 wg zs.length (wdz (nat zs)) (Canon.ln (nat zs))∧Below w.heap.size w w':=by
 have hmk:=x9m w (M+1) (by omega)
 rw [show ((M+1:Nat):Int)=(M:Int)+1 by omega] at hmk
 obtain ⟨a,cap,hv,hsp⟩:=id hr
 subst hv
 have HRD:=qz (hr.stays hb)
 have HROW:=qz hrow
 have HF:=qz (fun l hl=>x0x (ls:=nat zs) hsum l hl)
 clear hsp hrow hr
 go_enter Tryz.func91,Tryz.ntmps91
 go_wp2_with fail
 obtain ⟨ng,hng⟩:∃ng,ng=w.heap.size:=⟨_,rfl⟩
 rw [←hng]
 have HST:Hid (NextAt w ((w.alloc (.cells (z0d .u32 (M+1) fun _=>0) 128)).alloc (.cells #[.slice (some ⟨ng,0,none⟩) (M+1) (M+1)] 186)) ng M (nat zs) 1):=by
  rw [hng]
  exact NextAt.start w M (nat zs)
 generalize (w.alloc (.cells (z0d .u32 (M+1) fun _=>0) 128)).alloc (.cells #[.slice (some ⟨ng,0,none⟩) (M+1) (M+1)] 186)=w1 at HST ⊢
 clear hmk hng
 go_loopg [6] M (fun gk d ws=>∃ (k:Nat),gk=M+1-k∧1≤k∧k≤M+1∧d=.int .i64 (k:Int)∧NextAt w ws ng M (nat zs) k)
 case atStart=>exact ⟨1,by omega,by omega,by omega,rfl,uh HST⟩
 case round =>
  obtain ⟨k,rfl,hk1,hk,rfl,hst⟩:=hrel
  clear HST
  by_cases hlt:k<M+1
  ·have hki:(k:Int)<(M:Int)+1:=by omega
   obtain ⟨m,rfl⟩:∃m,k=m+1:=⟨k-1,by omega⟩
   have c1:=hst.var
   have k1:=hst.nx.cell m (by omega)
   rw [if_pos (by omega)] at k1
   have k2:=hst.nx.cell (m+1) (by omega)
   have k3:=hst.nx.free (m+1)
   have k4:=((uh HROW).stays hst.bel (uh HROW).lt).cell m (by omega)
   have hf:=uh HF m (by omega)
   have HST:=qz (hst.step (by omega))
   obtain ⟨x,hx⟩:∃x,x=Canon.fst (nat zs) m:=⟨_,rfl⟩
   obtain ⟨c,hc⟩:∃c,c=Canon.cn (nat zs) m:=⟨_,rfl⟩
   rw [←hx] at k1 hf HST
   rw [←hc] at k4 hf HST
   have hmi:(m:Int)<(M:Int)+1:=by omega
   have hmi2:(m:Int)+1<(M:Int)+1:=by omega
   have HMB:Hid (m+1+1≤M+1∧m+1<M+1):=qz (by omega)
   have hmM:m<M:=by omega
   have hm0:(0:Int)≤(m:Int)+1:=by omega
   have hmMi:(m:Int)<(M:Int):=by omega
   have hw1:IntKind.i64.wrap (m:Int)=(m:Int):=IntWalk.i64_in _ (by omega)
   have hw2:IntKind.u32.wrap (c:Int)=(c:Int):=IntWalk.u32_in _ (by omega)
   have hw3:IntKind.u32.wrap ((x:Int)+(c:Int))=(x:Int)+(c:Int):=IntWalk.u32_in _ (by omega)
   have hw4:IntKind.u32.wrap (2*((x:Int)+(c:Int)))=2*((x:Int)+(c:Int)):=IntWalk.u32_in _ (by omega)
   clear hst hx hc
   go_wp2_with fail
   refine z6h 16 (by kernel_rfl) (by kernel_rfl) ?_
   simp only [List.take_succ_cons,List.take_zero,List.drop_succ_cons,List.drop_zero]
   repeat still_step
   try refine wpStill_nil ?_
   go_wp2_with fail
   go_roundg (M+1-(m+1+1))
   case measure=>have:=uh HMB;omega
   case rel =>
    refine ⟨m+1+1,rfl,by omega,(uh HMB).1,by go_num,?_⟩
    have:=uh HST
    rw [show 2*((x:Int)+(c:Int))=(((x+c)*2:Nat):Int) by omega]
    exact this
  ·obtain rfl:k=M+1:=by omega
   have hki:¬ ((M+1:Nat):Int)<(M:Int)+1:=by omega
   have hmk:=y9r wr zs.length hn
   have HST:=qz hst
   clear hst
   go_wp2_with fail
   have hgs:w.heap.size≤wr.heap.size:=(uh HST).bel.size
   refine (w0o w (.slice a zs.length cap) zs (ng+1) (wr.heap.size+1) ng wr.heap.size M _ (uh HRD) hn hz hM hsum (uh HST).lay).mono ?_
   rintro e w' ⟨rfl,X,hq⟩
   have c2:=hq.cw
   have HQ:=qz hq
   clear hq
   go_wp2_with fail
   go_ret
   exact ⟨wr.heap.size,rfl,hgs,(uh HQ).wd,(uh HQ).bel⟩
end
section
open Go.RowKit
theorem z8q (v:Value) (zs:List Int) (M:Nat) (w:World) (hr:z0w w v zs) (hn:zs.length≤65536) (hz:∀z∈zs,z2v (M:Int) z) (hM:M≤20) :
  Calls Tryz.prog 88 #[v,.int .i64 (M:Int)] w fun e w'=>∃g,e=.returned (.slice (some ⟨g,0,none⟩) (M+1) (M+1))∧w.heap.size≤g∧z0c w' .i64 3 g (M+1) (Canon.cn (nat zs))∧Below w.heap.size w w':=by
 have hmk:=z2c w (M+1) (by omega)
 rw [show ((M+1:Nat):Int)=(M:Int)+1 by omega] at hmk
 have HR:=qz hr
 clear hr
 go_enter Tryz.func88,Tryz.ntmps88
 go_wp2_with fail
 refine (z9p w v zs M _ w.heap.size (M+1) _ (uh HR) hn hz hM ?_ ?_ (Nat.le_refl _) ?_ ?_ ?_).mono ?_
 ·exact (((Below.refl _ _).alloc (Nat.le_refl _) _).alloc (by simp) _)
 ·simp
 ·simp
 ·have h1:((w.alloc (.cells (z0d .i64 (M+1) fun _=>0) 3)).alloc (.cells #[.slice (some ⟨w.heap.size,0,none⟩) (M+1) (M+1)] 45)).heap[w.heap.size+1]?=some (.cells #[.slice (some ⟨w.heap.size,0,none⟩) (M+1) (M+1)] 45 (0,0)):=by
   rw [show w.heap.size+1=(w.alloc (.cells (z0d .i64 (M+1) fun _=>0) 3)).heap.size by simp]
   exact heap_alloc_new _ _
  simp only [World.cell?,h1]
  rfl
 ·exact z0c.alloc (show z0c _ _ _ _ _ _ from heap_alloc_new w _) _
 ·rintro e w' ⟨rfl,h1,h2,h3⟩
  have H1:=qz h1
  have H3:=qz h3
  clear h1 h3
  go_wp2_with fail
  go_ret
  exact ⟨w.heap.size,rfl,Nat.le_refl _,uh H1,uh H3⟩
def y0v (ls:List Nat) (M:Nat):Bool:=decide (Canon.fst ls M+Canon.cn ls M=2^M)
theorem x6h (ls:List Nat) (h:∀l∈ls,l≤20) (hn:ls.length≤65536) (l:Nat) (hl:l≤20):Canon.fst ls l+Canon.cn ls l≤34359738368:=by
 have h1:=Canon.y7a ls l hl
 have h2:=Canon.y5l ls (show l+1≤21 by omega)
 rw [Canon.kr,←h1,←Nat.add_mul] at h2
 have hp:0<2^(20-l):=Nat.two_pow_pos _
 have h3:Canon.fst ls l+Canon.cn ls l≤(Canon.fst ls l+Canon.cn ls l)*2^(20-l):=Nat.le_mul_of_pos_right _ hp
 have h4:=y2q ls h ls.length (Nat.le_refl _)
 rw [List.take_length] at h4
 have h5:words ls≤ls.length:=by unfold words;exact List.length_filter_le _ _
 unfold Canon.sum at h4
 have h6:words ls*524288≤65536*524288:=Nat.mul_le_mul_right _ (by omega)
 omega
theorem y5c (ls:List Nat) (M g:Nat) (w:World) (h20:∀l∈ls,l≤20) (hn:ls.length≤65536) (hM:M≤20) (hM0:¬M=0) (hrow:z0c w .i64 3 g (M+1) (Canon.cn ls)) :
  Calls Tryz.prog 89 #[.slice (some ⟨g,0,none⟩) (M+1) (M+1)] w fun e w'=>e=.returned (.bool (y0v ls M))∧w'=w:=by
 have HF:=qz (x6h ls h20 hn)
 have HROW:=qz hrow
 clear hrow
 go_enter Tryz.func89,Tryz.ntmps89
 go_wp2_with fail
 go_loopg [3,9] M (fun gk r d ws=>∃ (k:Nat),gk=M-k∧k≤M∧r=.int .i64 (((2^k:Nat):Int)-((Canon.fst ls k+Canon.cn ls k:Nat):Int))∧d=.int .i64 (k:Int)∧ws=w)
 case atStart=>exact ⟨0,by omega,by omega,by simp [Canon.fst,Canon.cn],rfl,rfl⟩
 case round =>
  obtain ⟨k,rfl,hk,rfl,rfl,rfl⟩:=hrel
  by_cases hlt:k<M
  ·have k1:=(uh HROW).cell (1+k) (by omega)
   have f1:=uh HF k (by omega)
   have f2:=uh HF (k+1) (by omega)
   have p1:2^k≤2^20:=Nat.pow_le_pow_right (by decide) (by omega)
   have p2:2^(k+1)=2*2^k:=by rw [Nat.pow_succ];omega
   have e1:Canon.fst ls (k+1)=(Canon.fst ls k+Canon.cn ls k)*2:=rfl
   obtain ⟨P,hP⟩:∃P,P=2^k:=⟨_,rfl⟩
   obtain ⟨P',hP'⟩:∃P',P'=2^(k+1):=⟨_,rfl⟩
   obtain ⟨X,hX⟩:∃X,X=Canon.fst ls k+Canon.cn ls k:=⟨_,rfl⟩
   obtain ⟨X',hX'⟩:∃X',X'=Canon.fst ls (k+1)+Canon.cn ls (k+1):=⟨_,rfl⟩
   obtain ⟨c,hc⟩:∃c,c=Canon.cn ls (k+1):=⟨_,rfl⟩
   rw [show 1+k=k+1 by omega,←hc] at k1
   rw [show k+1=1+k by omega] at k1
   rw [←hP] at p1 p2 ⊢
   rw [←hP'] at p2
   rw [←hX] at f1 e1 ⊢
   have hc2:X'=X*2+c:=by rw [hX',e1,hc]
   rw [←hX'] at f2
   have hki:(k:Int)<(M:Int):=by omega
   have HP:=qz hP'
   have HX:=qz hX'
   clear hP hP' hX hX' hc e1
   have hr:2*((P:Int)-(X:Int))-(c:Int)=(P':Int)-(X':Int):=by omega
   have HP20:=qz p1
   go_wp2_with fail
   go_roundg (M-(k+1))
   case measure=>omega
   case rel=>exact ⟨k+1,rfl,by omega,by rw [←uh HP,←uh HX];congr 1;omega,by go_num,rfl⟩
  ·obtain rfl:k=M:=by omega
   have f1:=uh HF k (by omega)
   have p1:2^k≤2^20:=Nat.pow_le_pow_right (by decide) (by omega)
   obtain ⟨P,hP⟩:∃P,P=2^k:=⟨_,rfl⟩
   obtain ⟨X,hX⟩:∃X,X=Canon.fst ls k+Canon.cn ls k:=⟨_,rfl⟩
   have HE:Hid (X=P↔Canon.fst ls k+Canon.cn ls k=2^k):=qz (by rw [hP,hX])
   rw [←hP,←hX]
   clear hP hX
   by_cases e:X=P
   ·have e1:(((P:Int)-(X:Int)) == 0)=true:=by simp;omega
    go_wp2_with fail
    go_ret
    exact ⟨by rw [show y0v ls k=true from decide_eq_true ((uh HE).1 e)];rfl,rfl⟩
   ·have e1:(((P:Int)-(X:Int)) == 0)=false:=by simp;omega
    go_wp2_with fail
    go_ret
    exact ⟨by rw [show y0v ls k=false from decide_eq_false (fun h=>e ((uh HE).2 h))];rfl,rfl⟩
theorem w0x (ls:List Nat) (M:Nat) (h:∀l∈ls,l≤M) (hM:M≤20):Canon.fst ls M+Canon.cn ls M=2^M↔Canon.sum ls=1048576:=by
 have hk:∀d,M+1+d≤21→Canon.kr ls (M+1+d)=Canon.kr ls (M+1):=by
  intro d
  induction d with
  | zero=>intro _;rfl
  | succ d ih =>
   intro h2
   rw [show M+1+(d+1)=(M+1+d)+1 by omega,Canon.kr,ih (by omega)]
   have:Canon.cn ls (M+1+d)=0:=by
    unfold Canon.cn
    rw [if_neg (by omega)]
    refine List.count_eq_zero.2 fun hm=>?_
    have:=h _ hm
    omega
   rw [this];omega
 have e:Canon.sum ls=(Canon.fst ls M+Canon.cn ls M)*2^(20-M):=by
  have h21:=hk (20-M) (by omega)
  rw [show M+1+(20-M)=21 by omega] at h21
  rw [Canon.sum,h21,Canon.kr,←Canon.y7a ls M hM,Nat.add_mul]
 have hp:0<2^(20-M):=Nat.two_pow_pos _
 rw [e,show 1048576=2^M*2^(20-M) by rw [←Nat.pow_add,show M+(20-M)=20 by omega]]
 exact ⟨fun h=>by rw [h],fun h=>Nat.eq_of_mul_eq_mul_right hp h⟩
def y4n (ls:List Nat):Bool:=decide (words ls=0∨words ls=1∧ls.count 1=1)
theorem y6l {ls:List Nat} (h:words ls=0∨words ls=1∧ls.count 1=1):y4n ls=true:=decide_eq_true h
theorem x0r {ls:List Nat} (h:¬ (words ls=0∨words ls=1∧ls.count 1=1)):y4n ls=false:=decide_eq_false h
def tot (ls:List Nat):Nat→Nat
 | 0=>0
 | m+1=>tot ls m+Canon.cn ls m
theorem x2c (x:Nat) (ls:List Nat):∀m,tot (x :: ls) m=tot ls m+(if 0<x∧x<m then 1 else 0)
 | 0=>by simp [tot]
 | m+1=>by
  rw [tot,tot,x2c x ls m]
  have hc:Canon.cn (x :: ls) m=Canon.cn ls m+(if 0<x∧x=m then 1 else 0):=by
   unfold Canon.cn
   by_cases h0:m=0
   ·rw [if_pos h0,if_pos h0,if_neg (by omega)]
   ·rw [if_neg h0,if_neg h0,List.count_cons]
    by_cases e:x=m
    ·subst e;simp [show 0<x by omega]
    ·simp [e]
  rw [hc]
  by_cases e:x=m
  ·by_cases h0:0<x
   ·rw [if_neg (by omega),if_pos (by omega),if_pos (by omega)];omega
   ·rw [if_neg (by omega),if_neg (by omega),if_neg (by omega)];omega
  ·by_cases h1:0<x∧x<m
   ·rw [if_pos h1,if_neg (by omega),if_pos (by omega)];omega
   ·rw [if_neg h1,if_neg (by omega),if_neg (by omega)];omega
theorem x9i:∀m,tot [] m=0
 | 0=>rfl
 | m+1=>by rw [tot,x9i m];simp [Canon.cn]
theorem y8h:∀ (ls:List Nat) (M:Nat),(∀l∈ls,l≤M)→tot ls (M+1)=words ls
 | [],M,_=>by rw [x9i];rfl
 | x :: ls,M,h=>by
  rw [x2c,y8h ls M (fun l hl=>h l (List.mem_cons_of_mem _ hl))]
  have:=h x (by simp)
  unfold words
  by_cases h0:0<x
  ·rw [if_pos (by omega),List.filter_cons_of_pos (by simpa using h0)];simp
  ·rw [if_neg (by omega),List.filter_cons_of_neg (by simpa using h0)];omega
theorem y2t (ls:List Nat) (hn:ls.length≤65536):∀m,m≤21→tot ls m≤m*65536
 | 0,_=>by simp [tot]
 | m+1,h=>by
  have:=y2t ls hn m (by omega)
  have h2:=y3k ls ls.length m
  rw [List.take_length] at h2
  rw [tot];omega
theorem x4u (ls:List Nat) (M g:Nat) (w:World) (hm:∀l∈ls,l≤M) (hn:ls.length≤65536) (hM:M≤20) (hM0:¬M=0) (hrow:z0c w .i64 3 g (M+1) (Canon.cn ls)) :
  Calls Tryz.prog 90 #[.slice (some ⟨g,0,none⟩) (M+1) (M+1)] w fun e w'=>e=.returned (.bool (y4n ls))∧w'=w:=by
 have HROW:=qz hrow
 have HT:=qz (y2t ls hn)
 have HW:=qz (y8h ls M hm)
 clear hrow hm
 go_enter Tryz.func90,Tryz.ntmps90
 go_wp2_with fail
 go_loopg [3,8] (M+1) (fun gk r d ws=>∃ (k:Nat),gk=M+1-k∧k≤M+1∧r=.int .i64 (tot ls k:Int)∧d=.int .i64 (k:Int)∧ws=w)
 case atStart=>exact ⟨0,by omega,by omega,rfl,rfl,rfl⟩
 case round =>
  obtain ⟨k,rfl,hk,rfl,rfl,rfl⟩:=hrel
  by_cases hlt:k<M+1
  ·have k1:=(uh HROW).cell k hlt
   have t1:=uh HT (k+1) (by omega)
   have t2:tot ls (k+1)=tot ls k+Canon.cn ls k:=rfl
   obtain ⟨x,hx⟩:∃x,x=tot ls k:=⟨_,rfl⟩
   obtain ⟨x',hx'⟩:∃x',x'=tot ls (k+1):=⟨_,rfl⟩
   obtain ⟨c,hc⟩:∃c,c=Canon.cn ls k:=⟨_,rfl⟩
   rw [←hx,←hx',←hc] at t2
   rw [←hx'] at t1
   replace t1:x'≤2000000:=by omega
   rw [←hc] at k1
   rw [←hx]
   have HX:=qz hx'
   have HRR:Hid ((x:Int)+(c:Int)=(x':Int)):=qz (by omega)
   have bx:x≤2000000:=by omega
   have bc:c≤2000000:=by omega
   have hki:(k:Int)<(M:Int)+1:=by omega
   clear hx hx' hc t1 t2
   go_wp2_with fail
   go_roundg (M+1-(k+1))
   case measure=>omega
   case rel=>exact ⟨k+1,rfl,by omega,by rw [←uh HX,←uh HRR],by go_num,rfl⟩
  ·obtain rfl:k=M+1:=by omega
   have k1:=(uh HROW).cell 1 (by omega)
   have HC1:Canon.cn ls 1=ls.count 1:=by simp [Canon.cn]
   rw [HC1] at k1
   rw [uh HW]
   have hki:¬ ((M+1:Nat):Int)<(M:Int)+1:=by omega
   obtain ⟨x,hx⟩:∃x,x=words ls:=⟨_,rfl⟩
   obtain ⟨c,hc⟩:∃c,c=ls.count 1:=⟨_,rfl⟩
   rw [←hc] at k1
   rw [←hx]
   have HE:Hid ((x=0∨x=1∧c=1)↔(words ls=0∨words ls=1∧ls.count 1=1)):=qz (by rw [hx,hc])
   clear hx hc HC1
   by_cases c1:x=0
   ·have f1:((x:Int) == 0)=true:=by simp;omega
    have HR:=qz (y6l ((uh HE).1 (.inl c1)))
    clear c1
    go_wp2_with fail
    go_ret
    exact ⟨by rw [uh HR];rfl,rfl⟩
   ·have f1:((x:Int) == 0)=false:=by simp;omega
    by_cases c2:x=1
    ·have f2:((x:Int) == 1)=true:=by simp;omega
     by_cases c3:c=1
     ·have f3:((c:Int) == 1)=true:=by simp;omega
      have HR:=qz (y6l ((uh HE).1 (.inr ⟨c2,c3⟩)))
      clear c1 c2 c3
      go_wp2_with fail
      go_ret
      exact ⟨by rw [uh HR];rfl,rfl⟩
     ·have f3:((c:Int) == 1)=false:=by simp;omega
      have HR:=qz (x0r (fun h=>absurd ((uh HE).2 h) (by omega)))
      clear c1 c2 c3
      go_wp2_with fail
      go_ret
      exact ⟨by rw [uh HR];rfl,rfl⟩
    ·have f2:((x:Int) == 1)=false:=by simp;omega
     have HR:=qz (x0r (fun h=>absurd ((uh HE).2 h) (by omega)))
     clear c1 c2
     go_wp2_with fail
     go_ret
     exact ⟨by rw [uh HR];rfl,rfl⟩
def fitB (most:Int) (zs:List Int):Bool:=decide (∀z∈zs,0≤z∧z≤most)
theorem w0w (a:Option Addr) (n cap:Nat) (most:Int) (w:World) (h:¬z2x n most) :
  Calls Tryz.prog 87 #[.slice a n cap,.int .i64 most] w fun e w'=>e=.returned (.bool false)∧w'=w:=by
 by_cases h1:most<1
 ·clear h
  go_enter Tryz.func87,Tryz.ntmps87
  go_wp2_with fail
  go_ret
  exact ⟨rfl,rfl⟩
 ·by_cases h2:20<most
  ·clear h
   go_enter Tryz.func87,Tryz.ntmps87
   go_wp2_with fail
   go_ret
   exact ⟨rfl,rfl⟩
  ·by_cases h3:(n:Int)<1
   ·clear h
    go_enter Tryz.func87,Tryz.ntmps87
    go_wp2_with fail
    go_ret
    exact ⟨rfl,rfl⟩
   ·have h4:(65536:Int)<(n:Int):=by unfold z2x at h;omega
    clear h
    go_enter Tryz.func87,Tryz.ntmps87
    go_wp2_with fail
    go_ret
    exact ⟨rfl,rfl⟩
theorem z8r (v:Value) (zs:List Int) (most:Int) (w:World) (hr:z0w w v zs) (hok:z2x zs.length most) :
  Calls Tryz.prog 87 #[v,.int .i64 most] w fun e w'=>e=.returned (.bool (fitB most zs))∧w'=w:=by
 obtain ⟨a,cap,rfl,hsp⟩:=hr
 obtain ⟨h1,h2,h3,h4⟩:=hok
 obtain ⟨n,hn⟩:∃n,n=zs.length:=⟨_,rfl⟩
 have HSP:=qz hsp
 rw [←hn] at h3 h4 HSP ⊢
 have HN:=qz hn
 clear hsp hn
 have g1:¬most<1:=by omega
 have g2:¬20<most:=by omega
 have g3:¬ (n:Int)<1:=by omega
 have g4:¬ (65536:Int)<(n:Int):=by omega
 go_enter Tryz.func87,Tryz.ntmps87
 go_wp2_with fail
 go_loopg [25] n (fun gk d ws=>∃ (k:Nat),gk=n-k∧k≤n∧(∀j,j<k→z2v most (zs.getD j 0))∧d=.int .i64 (k:Int)∧ws=w)
 case atStart=>exact ⟨0,by omega,by omega,fun j h=>by omega,rfl,rfl⟩
 case round =>
  obtain ⟨k,rfl,hk,hgood,rfl,rfl⟩:=hrel
  by_cases hlt:k<n
  ·obtain ⟨b,off,rfl,hcell⟩:=uh HSP (by omega)
   have hlz:k<zs.length:=by rw [←uh HN];exact hlt
   obtain ⟨z,hz⟩:∃z,z=zs.getD k 0:=⟨_,rfl⟩
   have hcc:=hcell k (by first|exact hlz|omega)
   rw [←hz] at hcc
   have hki:(k:Int)<(n:Int):=by omega
   by_cases hbad:z2v most z
   ·obtain ⟨hz0,hzm⟩:=hbad
    have HGOOD:Hid (∀j,j<k+1→z2v most (zs.getD j 0)):=qz fun j hj=>by
     by_cases e:j=k
     ·rw [e,←hz];exact ⟨hz0,hzm⟩
     ·exact hgood j (by omega)
    have e0:¬z<0:=by omega
    have e1:¬most<z:=by omega
    clear hcell hz hlz hgood
    go_wp2_with fail
    go_roundg (n-(k+1))
    case measure=>omega
    case rel=>exact ⟨k+1,rfl,by omega,uh HGOOD,by go_num,rfl⟩
   ·have HBAD:Hid (fitB most zs=false):=qz (decide_eq_false fun h=>hbad (by
     rw [hz]
     have:zs.getD k 0∈zs:=by rw [List.getD_eq_getElem?_getD,List.getElem?_eq_getElem hlz];exact List.getElem_mem _
     exact h _ this))
    by_cases e0:z<0
    ·clear hcell hz hlz hgood hbad hlt hk
     go_wp2_with fail
     go_ret
     exact ⟨by rw [uh HBAD];rfl,rfl⟩
    ·have e1:most<z:=by unfold z2v at hbad;omega
     clear hcell hz hlz hgood hbad hlt hk
     go_wp2_with fail
     go_ret
     exact ⟨by rw [uh HBAD];rfl,rfl⟩
  ·obtain rfl:k=n:=by omega
   have HALL:Hid (fitB most zs=true):=qz (decide_eq_true fun z hz=>by
    obtain ⟨j,hj,rfl⟩:=List.getElem_of_mem hz
    have:=hgood j (by rw [uh HN];exact hj)
    rw [List.getD_eq_getElem?_getD,List.getElem?_eq_getElem hj] at this
    exact this)
   clear hgood
   go_wp2_with fail
   go_ret
   exact ⟨by rw [uh HALL];rfl,rfl⟩
end
section
open Go.RowKit
structure CodeAt (ls:List Nat) (w:World) (cp lo hi wg g cap N base:Nat) (A B S:Nat→Nat) (H:Nat→Bool) (ix ky:Nat→Nat):Prop where
 blk:w.heap[cp]?=some (.cells #[.bool true,.slice (some ⟨wg,0,none⟩) ls.length ls.length,.slice (some ⟨g,0,none⟩) N cap] 155 (0,0))
 words:z0f w 188 wg ls.length (wdz ls) (Canon.ln ls)
 nodes:z0t w base g cap N A B S H
 tr:Trie N A B S H (Beg ls ls.length) (Wrd ls ls.length) ix ky
 good:Good ls
 small:ls.length≤65536
 b1:lo≤cp∧cp<hi
 b2:lo≤wg∧wg<hi
 b3:lo≤g∧g<hi
def Code (ls:List Nat) (w:World) (cp lo hi:Nat):Prop:=∃wg g cap N base A B S H ix ky,CodeAt ls w cp lo hi wg g cap N base A B S H ix ky
theorem Code.keep {ls:List Nat} {w w':World} {cp lo hi:Nat} (h:Code ls w cp lo hi) (hk:∀k,lo≤k→k<hi→w'.heap[k]?=w.heap[k]?):Code ls w' cp lo hi:=by
 obtain ⟨wg,g,cap,N,base,A,B,S,H,ix,ky,h⟩:=h
 exact ⟨wg,g,cap,N,base,A,B,S,H,ix,ky,by rw [hk _ h.b1.1 h.b1.2];exact h.blk,by unfold z0f;rw [hk _ h.b2.1 h.b2.2];exact h.words,h.nodes.keep (hk _ h.b3.1 h.b3.2),h.tr,h.good,h.small,h.b1,h.b2,h.b3⟩
def z8w (zs:List Int) (most:Int) (loose:Bool) (w:World) (e:Ending) (w':World):Prop :=
 (¬ (z2x zs.length most∧∀z∈zs,z2v most z)→e=.returned (.tuple #[.pointer none,.int .i64 2])) ∧
 ((z2x zs.length most∧∀z∈zs,z2v most z)→¬z2s (nat zs) loose→e=.returned (.tuple #[.pointer none,.int .i64 13])) ∧
 ((z2x zs.length most∧∀z∈zs,z2v most z)→z2s (nat zs) loose→∃cp,e=.returned (.tuple #[.pointer (some ⟨cp,0,none⟩),.int .i64 0])∧Code (nat zs) w' cp w.heap.size w'.heap.size) ∧
 Below w.heap.size w w'
theorem z8w.bad {zs:List Int} {most:Int} {loose:Bool} {w:World} (h:¬ (z2x zs.length most∧∀z∈zs,z2v most z)):z8w zs most loose w (.returned (.tuple #[.pointer none,.int .i64 2])) w :=
 ⟨fun _=>rfl,fun h'=>absurd h' h,fun h'=>absurd h' h,Below.refl _ _⟩
theorem x7p {ls:List Nat} {M:Nat} {loose:Bool} (h:∀l∈ls,l≤M) (hM:M≤20):z2s ls loose↔y0v ls M=true∨loose=true∧y4n ls=true:=by
 unfold z2s
 rw [←w0x ls M h hM]
 simp only [y0v,y4n,decide_eq_true_eq]
theorem x8a (a:Option Addr) (n cap:Nat) (most:Int) (loose:Bool) (w:World) (h:¬z2x n most) :
  Calls Tryz.prog 60 #[.slice a n cap,.int .i64 most,.bool loose] w fun e w'=>e=.returned (.tuple #[.pointer none,.int .i64 2])∧w'=w:=by
 have H:=qz h
 clear h
 go_enter Tryz.func60,Tryz.ntmps60
 go_wp2_with (go_at_call 87;refine (w0w _ _ _ _ _ (uh H)).mono ?_;rintro e w' ⟨rfl,rfl⟩)
 go_ret2
 exact ⟨rfl,rfl⟩
theorem x8b (v:Value) (zs:List Int) (most:Int) (loose:Bool) (w:World) (hr:z0w w v zs) (hok:z2x zs.length most) (hb:fitB most zs=false) :
  Calls Tryz.prog 60 #[v,.int .i64 most,.bool loose] w fun e w'=>e=.returned (.tuple #[.pointer none,.int .i64 2])∧w'=w:=by
 have HR:=qz hr
 have HOK:=qz hok
 clear hr hok
 go_enter Tryz.func60,Tryz.ntmps60
 go_wp2_with (go_at_call 87;refine (z8r _ zs _ _ (uh HR) (uh HOK)).mono ?_;rintro e w' ⟨rfl,rfl⟩)
 go_ret2
 exact ⟨rfl,rfl⟩
theorem y6q {ls:List Nat} {w wc ww w3:World} {wg g cap N:Nat} {A B S:Nat→Nat} {H:Nat→Bool} {ix ky:Nat→Nat} (hg:Good ls) (hn:ls.length≤65536) (b1:Below w.heap.size w wc) (h1:wc.heap.size≤wg) (hw:z0f ww 188 wg ls.length (wdz ls) (Canon.ln ls)) (b2:Below wc.heap.size wc ww)
  (h3:WayAt ww w3 g cap N A B S H (Beg ls ls.length) (Wrd ls ls.length) ix ky) :
  Code ls (w3.alloc (.cells #[.bool true,.slice (some ⟨wg,0,none⟩) ls.length ls.length,.slice (some ⟨g,0,none⟩) N cap] 155)) w3.heap.size w.heap.size (w3.alloc (.cells #[.bool true,.slice (some ⟨wg,0,none⟩) ls.length ls.length,.slice (some ⟨g,0,none⟩) N cap] 155)).heap.size∧Below w.heap.size w (w3.alloc (.cells #[.bool true,.slice (some ⟨wg,0,none⟩) ls.length ls.length,.slice (some ⟨g,0,none⟩) N cap] 155)):=by
 have s1:=b1.size
 have s2:=b2.size
 have s3:=h3.bel.size
 have hl:=h3.row.lt
 have hwl:=hw.lt
 have hw3:=hw.stays h3.bel hwl
 refine ⟨⟨wg,g,cap,N,_,A,B,S,H,ix,ky,heap_alloc_new _ _,hw3.alloc _,h3.row.keep (Below.heap_alloc _ _ _ hl.2),h3.tr,hg,hn,?_,?_,?_⟩,?_⟩
 ·simp;omega
 ·simp;omega
 ·simp;omega
 ·exact ((b1.trans (b2.mono (by omega))).trans (h3.bel.mono (by omega))).alloc (by omega) _
theorem z9v {zs:List Int} {M:Nat} (hz:∀z∈zs,z2v (M:Int) z):∀l∈nat zs,l≤M:=fun l hl=>by
 obtain ⟨z,hz',rfl⟩:=List.mem_map.1 hl
 have:=hz z hz'
 unfold z2v at this
 omega
theorem w1v (v:Value) (zs:List Int) (M:Nat) (loose:Bool) (w:World) (hr:z0w w v zs) (hok:z2x zs.length (M:Int)) (hz:∀z∈zs,z2v (M:Int) z) (hF:y0v (nat zs) M=false) (hl:loose=false) :
  Calls Tryz.prog 60 #[v,.int .i64 (M:Int),.bool loose] w fun e w'=>e=.returned (.tuple #[.pointer none,.int .i64 13])∧Below w.heap.size w w':=by
 obtain ⟨q1,q2,q3,q4⟩:=id hok
 have hM20:M≤20:=by omega
 have hM0:¬M=0:=by omega
 have hlM:=z9v hz
 have hl20:∀l∈nat zs,l≤20:=fun l hl=>by have:=hlM l hl;omega
 have hlen:(nat zs).length=zs.length:=by simp [nat]
 have HFIT:Hid (fitB (M:Int) zs=true):=qz (decide_eq_true hz)
 have HR:=qz hr
 have HOK:=qz hok
 have HZ:=qz hz
 have HM:=qz hlM
 have H20:=qz hl20
 have HLEN:=qz hlen
 clear hr hok hz hlM hl20 hlen q1 q2 q3
 subst hl
 have HF:=qz hF
 clear hF
 go_enter Tryz.func60,Tryz.ntmps60
 go_wp2_with (first|(go_at_call 87;refine (z8r _ zs _ _ (uh HR) (uh HOK)).mono ?_;rintro e w' ⟨rfl,rfl⟩;rw [uh HFIT])|(go_at_call 88;go_must (refine (z8q _ zs M _ (uh HR) q4 (uh HZ) hM20).mono ?_;rintro e wc ⟨cg,rfl,h1,h2,h3⟩;have H1:=qz h1;have H2:=qz h2;have H3:=qz h3;clear h1 h2 h3))|(go_at_call 89;go_must (refine (y5c (nat zs) M cg _ (uh H20) (by rw [uh HLEN];exact q4) hM20 hM0 (uh H2)).mono ?_;rintro e w' ⟨rfl,rfl⟩;rw [uh HF])))
 go_ret2
 exact ⟨rfl,uh H3⟩
theorem w1w (v:Value) (zs:List Int) (M:Nat) (loose:Bool) (w:World) (hr:z0w w v zs) (hok:z2x zs.length (M:Int)) (hz:∀z∈zs,z2v (M:Int) z) (hF:y0v (nat zs) M=false) (hl:loose=true) (hB:y4n (nat zs)=false) :
  Calls Tryz.prog 60 #[v,.int .i64 (M:Int),.bool loose] w fun e w'=>e=.returned (.tuple #[.pointer none,.int .i64 13])∧Below w.heap.size w w':=by
 obtain ⟨q1,q2,q3,q4⟩:=id hok
 have hM20:M≤20:=by omega
 have hM0:¬M=0:=by omega
 have hlM:=z9v hz
 have hl20:∀l∈nat zs,l≤20:=fun l hl=>by have:=hlM l hl;omega
 have hlen:(nat zs).length=zs.length:=by simp [nat]
 have HFIT:Hid (fitB (M:Int) zs=true):=qz (decide_eq_true hz)
 have HR:=qz hr
 have HOK:=qz hok
 have HZ:=qz hz
 have HM:=qz hlM
 have H20:=qz hl20
 have HLEN:=qz hlen
 clear hr hok hz hlM hl20 hlen q1 q2 q3
 subst hl
 have HF:=qz hF
 have HB:=qz hB
 clear hF hB
 go_enter Tryz.func60,Tryz.ntmps60
 go_wp2_with (first|(go_at_call 87;refine (z8r _ zs _ _ (uh HR) (uh HOK)).mono ?_;rintro e w' ⟨rfl,rfl⟩;rw [uh HFIT])|(go_at_call 88;go_must (refine (z8q _ zs M _ (uh HR) q4 (uh HZ) hM20).mono ?_;rintro e wc ⟨cg,rfl,h1,h2,h3⟩;have H1:=qz h1;have H2:=qz h2;have H3:=qz h3;clear h1 h2 h3))|(go_at_call 89;go_must (refine (y5c (nat zs) M cg _ (uh H20) (by rw [uh HLEN];exact q4) hM20 hM0 (uh H2)).mono ?_;rintro e w' ⟨rfl,rfl⟩;rw [uh HF]))|(go_at_call 90;go_must (refine (x4u (nat zs) M cg _ (uh HM) (by rw [uh HLEN];exact q4) hM20 hM0 (uh H2)).mono ?_;rintro e w' ⟨rfl,rfl⟩;rw [uh HB])))
 go_ret2
 exact ⟨rfl,uh H3⟩
theorem x8c (v:Value) (zs:List Int) (M:Nat) (loose:Bool) (w:World) (hr:z0w w v zs) (hok:z2x zs.length (M:Int)) (hz:∀z∈zs,z2v (M:Int) z) (hg:Good (nat zs)) (hF:y0v (nat zs) M=true) :
  Calls Tryz.prog 60 #[v,.int .i64 (M:Int),.bool loose] w fun e w'=>∃cp,e=.returned (.tuple #[.pointer (some ⟨cp,0,none⟩),.int .i64 0])∧Code (nat zs) w' cp w.heap.size w'.heap.size∧Below w.heap.size w w':=by
 obtain ⟨q1,q2,q3,q4⟩:=id hok
 have hM20:M≤20:=by omega
 have hM0:¬M=0:=by omega
 have hlM:=z9v hz
 have hl20:∀l∈nat zs,l≤20:=fun l hl=>by have:=hlM l hl;omega
 have hlen:(nat zs).length=zs.length:=by simp [nat]
 have HFIT:Hid (fitB (M:Int) zs=true):=qz (decide_eq_true hz)
 have HR:=qz hr
 have HOK:=qz hok
 have HZ:=qz hz
 have HM:=qz hlM
 have H20:=qz hl20
 have HLEN:=qz hlen
 clear hr hok hz hlM hl20 hlen q1 q2 q3
 have HG:=qz hg
 clear hg
 have HF:=qz hF
 clear hF
 go_enter Tryz.func60,Tryz.ntmps60
 go_wp2_with (first|(go_at_call 87;refine (z8r _ zs _ _ (uh HR) (uh HOK)).mono ?_;rintro e w' ⟨rfl,rfl⟩;rw [uh HFIT])|(go_at_call 88;go_must (refine (z8q _ zs M _ (uh HR) q4 (uh HZ) hM20).mono ?_;rintro e wc ⟨cg,rfl,h1,h2,h3⟩;have H1:=qz h1;have H2:=qz h2;have H3:=qz h3;clear h1 h2 h3))|(go_at_call 89;go_must (refine (y5c (nat zs) M cg _ (uh H20) (by rw [uh HLEN];exact q4) hM20 hM0 (uh H2)).mono ?_;rintro e w' ⟨rfl,rfl⟩;rw [uh HF]))|(go_at_call 91;go_must (refine (w3c _ zs M cg _ _ (uh HR) (uh H3) q4 (uh HZ) hM20 (uh HG).sum (uh H2)).mono ?_;rintro e ww ⟨wg,rfl,h4,h5,h6⟩;rw [←uh HLEN] at h5;have H4:=qz h4;have H5:=qz h5;have H6:=qz h6;clear h4 h5 h6;rw [←uh HLEN]))|(go_at_call 92;go_must (refine (x9p (nat zs) wg (nat zs).length _ (uh HG) rfl (by rw [uh HLEN];exact q4) (uh H5)).mono ?_;rintro e w3 ⟨g,cap,N,A,B,S,H,ix,ky,rfl,h7⟩;have H7:=qz h7;clear h7)))
 go_ret2
 have hh:=y6q (uh HG) (by rw [uh HLEN];exact q4) (uh H3) (uh H4) (uh H5) (uh H6) (uh H7)
 exact ⟨_,rfl,hh.1,hh.2⟩
theorem x8d (v:Value) (zs:List Int) (M:Nat) (loose:Bool) (w:World) (hr:z0w w v zs) (hok:z2x zs.length (M:Int)) (hz:∀z∈zs,z2v (M:Int) z) (hg:Good (nat zs)) (hF:y0v (nat zs) M=false) (hl:loose=true) (hB:y4n (nat zs)=true) :
  Calls Tryz.prog 60 #[v,.int .i64 (M:Int),.bool loose] w fun e w'=>∃cp,e=.returned (.tuple #[.pointer (some ⟨cp,0,none⟩),.int .i64 0])∧Code (nat zs) w' cp w.heap.size w'.heap.size∧Below w.heap.size w w':=by
 obtain ⟨q1,q2,q3,q4⟩:=id hok
 have hM20:M≤20:=by omega
 have hM0:¬M=0:=by omega
 have hlM:=z9v hz
 have hl20:∀l∈nat zs,l≤20:=fun l hl=>by have:=hlM l hl;omega
 have hlen:(nat zs).length=zs.length:=by simp [nat]
 have HFIT:Hid (fitB (M:Int) zs=true):=qz (decide_eq_true hz)
 have HR:=qz hr
 have HOK:=qz hok
 have HZ:=qz hz
 have HM:=qz hlM
 have H20:=qz hl20
 have HLEN:=qz hlen
 clear hr hok hz hlM hl20 hlen q1 q2 q3
 have HG:=qz hg
 clear hg
 subst hl
 have HF:=qz hF
 have HB:=qz hB
 clear hF hB
 go_enter Tryz.func60,Tryz.ntmps60
 go_wp2_with (first|(go_at_call 87;refine (z8r _ zs _ _ (uh HR) (uh HOK)).mono ?_;rintro e w' ⟨rfl,rfl⟩;rw [uh HFIT])|(go_at_call 88;go_must (refine (z8q _ zs M _ (uh HR) q4 (uh HZ) hM20).mono ?_;rintro e wc ⟨cg,rfl,h1,h2,h3⟩;have H1:=qz h1;have H2:=qz h2;have H3:=qz h3;clear h1 h2 h3))|(go_at_call 89;go_must (refine (y5c (nat zs) M cg _ (uh H20) (by rw [uh HLEN];exact q4) hM20 hM0 (uh H2)).mono ?_;rintro e w' ⟨rfl,rfl⟩;rw [uh HF]))|(go_at_call 90;go_must (refine (x4u (nat zs) M cg _ (uh HM) (by rw [uh HLEN];exact q4) hM20 hM0 (uh H2)).mono ?_;rintro e w' ⟨rfl,rfl⟩;rw [uh HB]))|(go_at_call 91;go_must (refine (w3c _ zs M cg _ _ (uh HR) (uh H3) q4 (uh HZ) hM20 (uh HG).sum (uh H2)).mono ?_;rintro e ww ⟨wg,rfl,h4,h5,h6⟩;rw [←uh HLEN] at h5;have H4:=qz h4;have H5:=qz h5;have H6:=qz h6;clear h4 h5 h6;rw [←uh HLEN]))|(go_at_call 92;go_must (refine (x9p (nat zs) wg (nat zs).length _ (uh HG) rfl (by rw [uh HLEN];exact q4) (uh H5)).mono ?_;rintro e w3 ⟨g,cap,N,A,B,S,H,ix,ky,rfl,h7⟩;have H7:=qz h7;clear h7)))
 go_ret2
 have hh:=y6q (uh HG) (by rw [uh HLEN];exact q4) (uh H3) (uh H4) (uh H5) (uh H6) (uh H7)
 exact ⟨_,rfl,hh.1,hh.2⟩
theorem w4t (v:Value) (zs:List Int) (most:Int) (loose:Bool) (w:World) (hr:z0w w v zs) :
  Calls Tryz.prog 60 #[v,.int .i64 most,.bool loose] w fun e w'=>z8w zs most loose w e w':=by
 by_cases hok:z2x zs.length most
 ·by_cases hz:∀z∈zs,z2v most z
  ·obtain ⟨M,rfl⟩:=Int.eq_ofNat_of_zero_le (show 0≤most by have:=hok.1;omega)
   have hM:M≤20:=by have:=hok.2.1;omega
   have hiff:=x7p (loose:=loose) (z9v hz) hM
   have ho:z2x zs.length (M:Int)∧∀z∈zs,z2v (M:Int) z:=⟨hok,hz⟩
   have l20:∀l∈nat zs,l≤20:=fun l hl=>by have:=z9v hz l hl;omega
   by_cases hs:z2s (nat zs) loose
   ·have hg:Good (nat zs):=⟨l20,z2s.le l20 hs⟩
    cases hF:y0v (nat zs) M with
    | true=>exact (x8c v zs M loose w hr hok hz hg hF).mono fun e w' ⟨cp,he,hc,hb⟩=>⟨fun h=>absurd ho h,fun _ h=>absurd hs h,fun _ _=>⟨cp,he,hc⟩,hb⟩
    | false =>
     have h2:=(hiff.1 hs).resolve_left (by rw [hF];simp)
     exact (x8d v zs M loose w hr hok hz hg hF h2.1 h2.2).mono fun e w' ⟨cp,he,hc,hb⟩=>⟨fun h=>absurd ho h,fun _ h=>absurd hs h,fun _ _=>⟨cp,he,hc⟩,hb⟩
   ·have hF:y0v (nat zs) M=false:=by
     cases hF:y0v (nat zs) M with
     | true=>exact absurd (hiff.2 (.inl hF)) hs
     | false=>rfl
    cases hl:loose with
    | false =>
     rw [hl] at hs
     exact (w1v v zs M false w hr hok hz hF rfl).mono fun e w' ⟨he,hb⟩=>⟨fun h=>absurd ho h,fun _ _=>he,fun _ h=>absurd h hs,hb⟩
    | true =>
     have hB:y4n (nat zs)=false:=by
      cases hB:y4n (nat zs) with
      | true=>exact absurd (hiff.2 (.inr ⟨hl,hB⟩)) hs
      | false=>rfl
     rw [hl] at hs
     exact (w1w v zs M true w hr hok hz hF rfl hB).mono fun e w' ⟨he,hb⟩=>⟨fun h=>absurd ho h,fun _ _=>he,fun _ h=>absurd h hs,hb⟩
  ·exact (x8b v zs most loose w hr hok (decide_eq_false hz)).mono fun e w' ⟨he,hw⟩=>by subst he hw;exact z8w.bad (fun h=>hz h.2)
 ·obtain ⟨a,cap,rfl,_⟩:=hr
  exact (x8a a zs.length cap most loose w hok).mono fun e w' ⟨he,hw⟩=>by subst he hw;exact z8w.bad (fun h=>hok h.1)
end
section
open Go.RowKit
section
variable {ls:List Nat} {w:World} {cp lo hi wg g cap N base:Nat} {A B S:Nat→Nat} {H:Nat→Bool} {ix ky:Nat→Nat}
theorem CodeAt.c0 (h:CodeAt ls w cp lo hi wg g cap N base A B S H ix ky):w.cell? ⟨cp,0,none⟩=some (.bool true):=by simp [World.cell?,h.blk]
theorem CodeAt.c1 (h:CodeAt ls w cp lo hi wg g cap N base A B S H ix ky):w.cell? ⟨cp,1,none⟩=some (.slice (some ⟨wg,0,none⟩) ls.length ls.length):=by simp [World.cell?,h.blk]
end
end
namespace W4
open Go.RowKit
theorem x5h (cp:Nat) (w:World) (h:w.cell? ⟨cp,0,none⟩=some (.bool true)):Calls Tryz.prog 140 #[.pointer (some ⟨cp,0,none⟩)] w fun e w'=>e=.returned (.bool true)∧w'=w:=by
 go_enter Tryz.func140,Tryz.ntmps140
 go_wp2
 go_ret
 exact ⟨rfl,rfl⟩
theorem below_drewN {B:Nat} {a w:World} (h:Below B a w) (n:Nat):Below B a (w.drewN n):=⟨h.os,h.tape,h.output,h.size,h.block⟩
theorem y0f (ls:List Nat) (cp lo hi s:Nat) (w:World) (h:Code ls w cp lo hi) (hs:s<ls.length) (h0:0<Canon.ln ls s) :
  Calls Tryz.prog 109 #[.pointer (some ⟨cp,0,none⟩),.int .i64 (s:Int)] w fun e w'=>e=.returned (.tuple #[.int .u32 (Canon.wd ls s:Int),.int .i64 (Canon.ln ls s:Int),.int .i64 0])∧Below w.heap.size w w':=by
 obtain ⟨wg,g,cap,N,base,A,B,S,H,ix,ky,h⟩:=h
 have c0:=h.c0
 have c1:=h.c1
 have k1:=h.words.word s hs
 have k2:=h.words.len s hs
 rw [show wdz ls s=Canon.wd ls s from if_neg (by omega)] at k1
 obtain ⟨n,hn⟩:∃n,n=ls.length:=⟨_,rfl⟩
 obtain ⟨W,hW⟩:∃W,W=Canon.wd ls s:=⟨_,rfl⟩
 obtain ⟨L,hL⟩:∃L,L=Canon.ln ls s:=⟨_,rfl⟩
 rw [←hn] at c1 hs
 rw [←hW] at k1 ⊢
 rw [←hL] at k2 h0 ⊢
 clear h hn hW hL
 have hsn:(s:Int)<(n:Int):=by omega
 have hs0:¬ (s:Int)<0:=by omega
 have hL0:((L:Int) == 0)=false:=by simp;omega
 go_enter Tryz.func109,Tryz.ntmps109
 go_wp2_with (go_at_call 140;refine (x5h _ _ (by assumption)).mono ?_;rintro e w' ⟨rfl,rfl⟩)
 go_quiet (fail)
 go_wp2
 go_ret3
 exact ⟨rfl,below_drewN ((Below.refl _ _).alloc (Nat.le_refl _) _) _⟩
end W4
namespace W4
open Go.RowKit Mth
structure WOk (w:World) (pb:Nat) (high:Bool) (v:Value) (m:Nat) (L:List Bool) (f:Nat):Prop where
 blk:w.heap[pb]?=some (.cells #[.bool true,.bool high,v,.int .i64 (f:Int)] 52 (0,0))
 row:w.ownsRow (pb+1) 5 1 v m ((pk high m L).map bv)
 len:L.length+f=8*m
structure Chg (pb:Nat) (v0:Value) (w0:World) (v:Value) (w:World):Prop where
 os:w.os=w0.os
 tape:w.tape=w0.tape
 output:w.output=w0.output
 size:w0.heap.size≤w.heap.size
 keep:∀k,k<w0.heap.size→k≠pb→v0.ownBlock≠some k→w.heap[k]?=w0.heap[k]?
 lies:v.ownBlock=v0.ownBlock∨∃g,v.ownBlock=some g∧w0.heap.size≤g
theorem Chg.refl (pb:Nat) (v:Value) (w:World):Chg pb v w v w:=⟨rfl,rfl,rfl,Nat.le_refl _,fun _ _ _ _=>rfl,.inl rfl⟩
theorem Chg.trans {pb:Nat} {v0 v1 v2:Value} {w0 w1 w2:World} (h:Chg pb v0 w0 v1 w1) (k:Chg pb v1 w1 v2 w2):Chg pb v0 w0 v2 w2 where
 os:=k.os.trans h.os
 tape:=k.tape.trans h.tape
 output:=k.output.trans h.output
 size:=Nat.le_trans h.size k.size
 keep:=fun b hb hne hv=>by
  have hs:=h.size
  rw [k.keep b (by omega) hne (by
   rcases h.lies with e|⟨g,e,hg⟩
   ·rw [e];exact hv
   ·rw [e];intro c;injection c with c;omega),h.keep b hb hne hv]
 lies:=by
  have hs:=h.size
  rcases k.lies with e|⟨g,e,hg⟩
  ·rw [e];exact h.lies
  ·exact .inr ⟨g,e,by omega⟩
theorem WOk.c0 {w:World} {pb:Nat} {high:Bool} {v:Value} {m:Nat} {L:List Bool} {f:Nat} (h:WOk w pb high v m L f):w.cell? ⟨pb,0,none⟩=some (.bool true):=by simp [World.cell?,h.blk]
theorem WOk.c1 {w:World} {pb:Nat} {high:Bool} {v:Value} {m:Nat} {L:List Bool} {f:Nat} (h:WOk w pb high v m L f):w.cell? ⟨pb,1,none⟩=some (.bool high):=by simp [World.cell?,h.blk]
theorem WOk.c2 {w:World} {pb:Nat} {high:Bool} {v:Value} {m:Nat} {L:List Bool} {f:Nat} (h:WOk w pb high v m L f):w.cell? ⟨pb,2,none⟩=some v:=by simp [World.cell?,h.blk]
theorem WOk.c3 {w:World} {pb:Nat} {high:Bool} {v:Value} {m:Nat} {L:List Bool} {f:Nat} (h:WOk w pb high v m L f):w.cell? ⟨pb,3,none⟩=some (.int .i64 (f:Int)):=by simp [World.cell?,h.blk]
theorem WOk.fz {w:World} {pb:Nat} {high:Bool} {v:Value} {m:Nat} {L:List Bool} {f:Nat} (h:WOk w pb high v m L f) (o:Nat):w.frozen? ⟨pb,o,none⟩=false:=by simp [World.frozen?,h.blk]
theorem WOk.lt {w:World} {pb:Nat} {high:Bool} {v:Value} {m:Nat} {L:List Bool} {f:Nat} (h:WOk w pb high v m L f):pb<w.heap.size:=by
 rcases Nat.lt_or_ge pb w.heap.size with h'|h'
 ·exact h'
 ·have:=h.blk;rw [Array.getElem?_eq_none h'] at this;cases this
theorem x0v (l:List Nat) (i x:Nat):(l.map bv).set i (bv x)=(l.set i x).map bv:=by rw [List.map_set]
theorem WOk.grown {wr w1:World} {pb:Nat} {high:Bool} {v:Value} {m:Nat} {L:List Bool} {f:Nat} {o:Obj} (h:WOk wr pb high v m L f) (hg:(wr.alloc o).grownBy w1 v.ownBlock) :
  w1.cell? ⟨pb,1,none⟩=some (.bool high)∧w1.cell? ⟨pb,2,none⟩=some v∧w1.cell? ⟨pb,3,none⟩=some (.int .i64 (f:Int))∧w1.frozen? ⟨pb,2,none⟩=false∧w1.frozen? ⟨pb,3,none⟩=false:=by
 have hlt:=h.lt
 have hvb:v.ownBlock≠some pb:=fun e=>by have:=(h.row.lt pb e).1;omega
 have hbk:w1.heap[pb]?=some (.cells #[.bool true,.bool high,v,.int .i64 (f:Int)] 52 (0,0)):=by
  rw [hg.block pb (by simp;omega) (fun e=>hvb e.symm),Below.heap_alloc _ _ _ hlt];exact h.blk
 simp [World.cell?,World.frozen?,hbk]
theorem WOk.grow {wr w1:World} {pb:Nat} {high:Bool} {v:Value} {m g cap:Nat} {L:List Bool} (h:WOk wr pb high v m L 0) (o:Obj)
  (hown:w1.ownsRow (pb+1) 5 1 (.slice (some ⟨g,0,none⟩) (m+1) cap) (m+1) ((pk high m L).map bv++[.int .u8 0])) (hg:(wr.alloc o).grownBy w1 v.ownBlock) (hat:v.ownBlock=some g∨g=wr.heap.size+1) :
  WOk ((w1.setCell ⟨pb,2,none⟩ (.slice (some ⟨g,0,none⟩) (m+1) cap)).setCell ⟨pb,3,none⟩ (.int .i64 8)) pb high (.slice (some ⟨g,0,none⟩) (m+1) cap) (m+1) L 8 ∧
  Chg pb v wr (.slice (some ⟨g,0,none⟩) (m+1) cap) ((w1.setCell ⟨pb,2,none⟩ (.slice (some ⟨g,0,none⟩) (m+1) cap)).setCell ⟨pb,3,none⟩ (.int .i64 8)):=by
 have hlt:=h.lt
 have hvb:v.ownBlock≠some pb:=fun e=>by have:=(h.row.lt pb e).1;omega
 have hgp:g≠pb:=by
  rcases hat with e|e
  ·have:=(h.row.lt g e).1;omega
  ·omega
 have hbk:w1.heap[pb]?=some (.cells #[.bool true,.bool high,v,.int .i64 0] 52 (0,0)):=by
  rw [hg.block pb (by simp;omega) (fun e=>hvb e.symm),Below.heap_alloc _ _ _ hlt];exact h.blk
 refine ⟨⟨?_,?_,?_⟩,?_⟩
 ·have h2:=heap_setCell_same w1 pb 2 _ _ (.slice (some ⟨g,0,none⟩) (m+1) cap) hbk
  rw [heap_setCell_same _ pb 3 _ _ _ h2]
  simp
 ·obtain ⟨hl,hr⟩:=hown
  refine ⟨by simp [z1h],?_⟩
  rcases hr with ⟨e,_⟩|⟨g',cap',cur,e,hb,hh,hn,hc,hs,ht⟩
  ·cases e
  ·injection e with e1 e2 e3
   injection e1 with e1
   injection e1 with e1
   subst e1 e3
   refine .inr ⟨g,cap,cur,rfl,hb,?_,hn,hc,hs,?_⟩
   ·rw [heap_setCell_other _ _ _ _ (by exact hgp),heap_setCell_other _ _ _ _ (by exact hgp)];exact hh
   ·rw [ht,y3a high L m (by have:=h.len;omega)];simp [bv]
 ·have:=h.len;omega
 ·refine ⟨hg.os,hg.tape,hg.output,?_,?_,?_⟩
  ·have:=hg.size;simp at this ⊢;omega
  ·intro k hk hne hv
   rw [heap_setCell_other _ _ _ _ (by exact hne),heap_setCell_other _ _ _ _ (by exact hne),hg.block k (by simp;omega) (fun e=>hv e.symm),Below.heap_alloc _ _ _ hk]
  ·rcases hat with e|e
   ·exact .inl e.symm
   ·exact .inr ⟨g,rfl,by omega⟩
theorem WOk.bit {wr:World} {pb:Nat} {high:Bool} {q g cap f:Nat} {L:List Bool} (h:WOk wr pb high (.slice (some ⟨g,0,none⟩) (q+1) cap) (q+1) L (f+1)) (hf:f≤7) (b:Bool) :
  WOk ((wr.setCell ⟨g,q,none⟩ (bv (z3u high L q ||| (b.toNat <<< rk high 8 (7-f))))).setCell ⟨pb,3,none⟩ (.int .i64 (f:Int))) pb high (.slice (some ⟨g,0,none⟩) (q+1) cap) (q+1) (L++[b]) f ∧
  Chg pb (.slice (some ⟨g,0,none⟩) (q+1) cap) wr (.slice (some ⟨g,0,none⟩) (q+1) cap) ((wr.setCell ⟨g,q,none⟩ (bv (z3u high L q ||| (b.toNat <<< rk high 8 (7-f))))).setCell ⟨pb,3,none⟩ (.int .i64 (f:Int))):=by
 have hlt:=h.lt
 have hgp:g≠pb:=by have:=(h.row.lt g rfl).1;omega
 have hll:=h.len
 refine ⟨⟨?_,?_,?_⟩,?_⟩
 ·rw [heap_setCell_same _ pb 3 #[.bool true,.bool high,.slice (some ⟨g,0,none⟩) (q+1) cap,.int .i64 ((f+1:Nat):Int)] 52 _ (by rw [heap_setCell_other _ _ _ _ (by exact hgp.symm)];exact h.blk)]
  simp
 ·obtain ⟨hl,hr⟩:=h.row
  refine ⟨by simp [z1h],?_⟩
  rcases hr with ⟨e,_⟩|⟨g',cap',cur,e,hb,hh,hn,hc,hs,ht⟩
  ·cases e
  ·injection e with e1 e2 e3
   injection e1 with e1
   injection e1 with e1
   subst e1 e3
   refine .inr ⟨g,cap,cur.setIfInBounds q (bv (z3u high L q ||| (b.toNat <<< rk high 8 (7-f)))),rfl,hb,?_,hn,hc,?_,?_⟩
   ·rw [heap_setCell_other _ _ _ _ (by exact hgp),heap_setCell_same _ g q cur 5 _ hh]
   ·simpa using hs
   ·rw [y5v high L b q (7-f) (by omega) (by omega),←x0v,←ht]
    simp [List.take_set]
 ·simp;omega
 ·refine ⟨rfl,rfl,rfl,?_,?_,.inl rfl⟩
  ·simp
  ·intro k hk hne hv
   have hv':k≠g:=fun e=>hv (by rw [e];rfl)
   rw [heap_setCell_other _ _ _ _ (by exact hne),heap_setCell_other _ _ _ _ (by exact hv')]
theorem WOk.last {wr:World} {pb:Nat} {high:Bool} {q g cap f:Nat} {L:List Bool} (h:WOk wr pb high (.slice (some ⟨g,0,none⟩) (q+1) cap) (q+1) L f) :
  wr.cell? ⟨g,q,none⟩=some (.int .u8 (z3u high L q:Int)):=by
 have:=h.row.cells (g:=g) rfl q (bv (z3u high L q)) (by rw [List.getElem?_map,z7z high (q+1) L q (by omega)];rfl)
 have e:(⟨g,0,none⟩:Addr).add q=⟨g,q,none⟩:=by by_cases hq:q=0<;>simp [Addr.add,hq]
 rw [e] at this
 exact this
theorem WOk.lastfz {wr:World} {pb:Nat} {high:Bool} {q g cap f:Nat} {L:List Bool} (h:WOk wr pb high (.slice (some ⟨g,0,none⟩) (q+1) cap) (q+1) L f) :
  wr.frozen? ⟨g,q,none⟩=false∧g≠pb∧g<wr.heap.size∧(q:Int)+1≤cap∧(cap:Int)≤9223372036854775807:=by
 have hb:=(h.row.lt g rfl)
 obtain ⟨hl,hr⟩:=h.row
 rcases hr with ⟨e,_⟩|⟨g',cap',cur,e,hb',hh,hn,hc,hs,ht⟩
 ·cases e
 ·injection e with e1 e2 e3
  injection e1 with e1
  injection e1 with e1
  subst e1 e3
  unfold maxLen at hc
  exact ⟨by simp [World.frozen?,hh],by omega,by omega,by omega,by omega⟩
theorem x5d (V r:Nat) (hr:r<64):bits .and .u8 ((V:Int)/2^min r 64%256) 1=((V.testBit r).toNat:Int):=by
 rw [Nat.min_eq_left (by omega),show ((V:Int)/2^r%256)=((V/2^r%256:Nat):Int) by simp]
 have h:=u8_and_nat (V/2^r%256) 1 (Nat.mod_lt _ (by decide)) (by decide)
 rw [Nat.and_one_is_mod,←Nat.shiftRight_eq_div_pow,y6g] at h
 rw [←Nat.shiftRight_eq_div_pow]
 exact h
theorem x7q (B r:Nat) (bt:Bool) (hB:B<256) (hr:r<8):bits .or .u8 (B:Int) ((bt.toNat:Int)*2^min r 8%256)=((B ||| (bt.toNat <<< r):Nat):Int):=by
 have h2:bt.toNat*2^r<256:=by
  have h3:bt.toNat≤1:=Bool.toNat_le bt
  have h4:2^r≤2^7:=Nat.pow_le_pow_right (by decide) (by omega)
  have h5:=Nat.mul_le_mul h3 h4
  omega
 rw [Nat.min_eq_left (by omega),show (bt.toNat:Int)*2^r%256=((bt.toNat*2^r%256:Nat):Int) by simp,Nat.mod_eq_of_lt h2,u8_or_nat B _ hB h2,Nat.shiftLeft_eq]
theorem WOk.drew {w:World} {pb:Nat} {high:Bool} {v:Value} {m:Nat} {L:List Bool} {f:Nat} (h:WOk w pb high v m L f):WOk w.drew pb high v m L f:=⟨h.blk,h.row.drew,h.len⟩
theorem Chg.drew {pb:Nat} {v0 v:Value} {w0 w:World} (h:Chg pb v0 w0 v w):Chg pb v0 w0 v w.drew:=⟨h.os,h.tape,h.output,h.size,h.keep,h.lies⟩
theorem WOk.bitAt {wr:World} {pb:Nat} {high:Bool} {q g cap f V N k:Nat} {L:List Bool} (h:WOk wr pb high (.slice (some ⟨g,0,none⟩) (q+1) cap) (q+1) (L++(bitsOf high V N).take k) (f+1)) (hf:f≤7) (hk:k<N) (x:Int)
  (hx:x=bits .or .u8 (z3u high (L++(bitsOf high V N).take k) q:Int) (((V.testBit (rk high N k)).toNat:Int)*2^min (rk high 8 (7-f)) 8%256)) :
  WOk ((wr.setCell ⟨g,q,none⟩ (.int .u8 x)).setCell ⟨pb,3,none⟩ (.int .i64 (f:Int))).drew pb high (.slice (some ⟨g,0,none⟩) (q+1) cap) (q+1) (L++(bitsOf high V N).take (k+1)) f ∧
  Chg pb (.slice (some ⟨g,0,none⟩) (q+1) cap) wr (.slice (some ⟨g,0,none⟩) (q+1) cap) ((wr.setCell ⟨g,q,none⟩ (.int .u8 x)).setCell ⟨pb,3,none⟩ (.int .i64 (f:Int))).drew:=by
 have h2:=h.bit hf (V.testBit (rk high N k))
 rw [hx,x7q _ _ _ (z7n _ _ _) (y5z (by omega)),z4n high V N k hk,←List.append_assoc]
 exact ⟨h2.1.drew,h2.2.drew⟩
end W4
namespace W4
open Go.RowKit Mth
attribute [local go_sem ↓] wp_at_zero wp_at_succ
theorem y1c (i n:Int) (high:Bool) (w:World) (h0:0≤i) (h1:i<n) (h2:n≤64) :
  Calls Tryz.prog 74 #[.int .i64 i,.int .i64 n,.bool high] w fun e w'=>e=.returned (.int .i64 ((rk high n.toNat i.toNat:Nat):Int))∧w'=w:=by
 obtain ⟨a,rfl⟩:=Int.eq_ofNat_of_zero_le h0
 obtain ⟨b,rfl⟩:=Int.eq_ofNat_of_zero_le (show 0≤n by omega)
 cases high
 ·go_enter Tryz.func74,Tryz.ntmps74
  go_wp2
  go_ret
  exact ⟨rfl,rfl⟩
 ·go_enter Tryz.func74,Tryz.ntmps74
  go_wp2
  go_ret
  refine ⟨?_,rfl⟩
  have:((rk true (b:Int).toNat (a:Int).toNat:Nat):Int)=(b:Int)-1-a:=by simp [rk];omega
  rw [this]
  rfl
theorem w0u (pb m f:Nat) (high:Bool) (v0:Value) (L:List Bool) (V N:Nat) (w:World) (hw:WOk w pb high v0 m L f) (hf:f≤7) (hN:N≤64) (hb:L.length+N≤1000000000000000) :
  Calls Tryz.prog 78 #[.pointer (some ⟨pb,0,none⟩),.int .u64 (V:Int),.int .i64 (N:Int)] w fun e w'=>e=.returned (.tuple #[])∧∃v' m' f',WOk w' pb high v' m' (L++bitsOf high V N) f'∧f'≤7∧Chg pb v0 w v' w':=by
 obtain ⟨i0,hi,hz0,hz1,hz2⟩:=info_parts info5
 go_enter Tryz.func78,Tryz.ntmps78
 go_wp2
 go_step3
 go_wp2
 go_step3
 go_wp2
 go_loopg [6] N (fun gk d wr=>∃k v m f,gk=N-k∧k≤N∧d=.int .i64 (k:Int)∧WOk wr pb high v m (L++(bitsOf high V N).take k) f∧f≤7∧Chg pb v0 w v wr)
 case atStart=>exact ⟨0,v0,m,f,by omega,by omega,rfl,by simpa using hw,hf,Chg.refl _ _ _⟩
 case round =>
  obtain ⟨k,v,m,f,rfl,hk,rfl,hok,hf7,hch⟩:=hrel
  by_cases hlt:k<N
  ·have c0:=hok.c0
   have c1:=hok.c1
   have c2:=hok.c2
   have c3:=hok.c3
   have f2:=hok.fz 2
   have f3:=hok.fz 3
   by_cases h0:f=0
   ·subst h0
    have HOK:Hid (WOk wr pb high v m (L++(bitsOf high V N).take k) 0):=hok
    have HCH:Hid (Chg pb v0 w v wr):=hch
    clear hok hch hw
    have hrow:=qz (HOK.out.row.alloc (.cells #[.int .u8 0] 5))
    have hnews:Hid (∀j u,[Value.int .u8 0][j]?=some u→(wr.alloc (.cells #[.int .u8 0] 5)).cell? ((⟨wr.heap.size,0,none⟩:Addr).add j)=some u):=by
     intro j u hj
     match j,hj with
     | 0,hj=>simp at hj;subst hj;simp [Addr.add]
    have hlen:=qz HOK.out.len
    have hlt':=HOK.out.lt
    have hm63:(m:Int)≤1000000000000000:=by have:=HOK.out.len;simp [z0s] at this;omega
    go_wp2_with (at_builtin;go_must (refine wpList_append_lies _ rfl (.tmp 21) (.tmp 22) 22 rfl (pb+1) 5 i0 (.int .u8 0) 1 1 Tryz.underlying22 hi hz0 hz1 hz2 rfl (by decide) v m _ (by rfl) (uh hrow) ⟨wr.heap.size,0,none⟩ 1 1 [.int .u8 0] (by rfl) rfl (uh hnews) (by intro u hu;simp at hu;subst hu;rfl) (by omega) (by have:=uh hlen;simp [z0s] at this;unfold maxLen;omega) (by have:=uh hlen;simp [z0s] at this;omega) (by simp;omega) (wr.heap.size+1) (by simp) ?_;intro g cap w1 hown hgrow hat hglt;obtain ⟨d1,d2,d3,e2,e3⟩:=HOK.out.grown hgrow;have HG:=qz (HOK.out.grow _ hown hgrow hat);clear hown hgrow hat hglt c0 c1 c2 c3 f2 f3))
    obtain ⟨hok2,hch2⟩:=uh HG
    have hch3:=(uh HCH).trans hch2
    have hq63:=hok2.lastfz.2.2.2
    clear HG hch2 HOK HCH hrow hnews
    generalize hW2:(w1.setCell ⟨pb,2,none⟩ (.slice (some ⟨g,0,none⟩) (m+1) cap)).setCell ⟨pb,3,none⟩ (.int .i64 8)=W2 at hok2 hch3
    clear hW2 d1 d2 d3 e2 e3
    have HOK:=qz hok2
    have HCH:=qz hch3
    clear hok2 hch3
    go_loopg [6,39] 8 (fun gj d c ws=>∃j,gj=8-j∧j≤8∧k+j<N∧d=.int .i64 ((k+j:Nat):Int)∧c=.int .i64 (j:Int)∧WOk ws pb high (.slice (some ⟨g,0,none⟩) (m+1) cap) (m+1) (L++(bitsOf high V N).take (k+j)) (8-j)∧Chg pb v0 w (.slice (some ⟨g,0,none⟩) (m+1) cap) ws)
    case atStart=>exact ⟨0,by omega,by omega,by omega,rfl,rfl,HOK.out,HCH.out⟩
    case round =>
     obtain ⟨j,rfl,hj,hkj,rfl,rfl,ok,ch⟩:=hrel
     clear HOK HCH
     by_cases hjf:j<8
     ·obtain ⟨f',hf'⟩:∃f',8-j=f'+1:=⟨8-j-1,by omega⟩
      have hf'':=qz hf'
      have hf8:f'≤7:=by omega
      rw [hf'] at ok
      clear hf'
      have hrl:=y5z (high:=high) hkj
      have c1:=ok.c1
      have c2:=ok.c2
      have c3:=ok.c3
      have cl:=ok.last
      have hoc:=z7n high (L++(bitsOf high V N).take (k+j)) m
      obtain ⟨fl,hgp,hgs,hqc,hcap⟩:=ok.lastfz
      have f3:=ok.fz 3
      go_wp2_with (go_at_call 74;go_must (refine (y1c _ _ _ _ (by omega) (by omega) (by omega)).mono ?_;rintro e w' ⟨rfl,rfl⟩))
      rw [x5d V (rk high N (k+j)) (by omega)]
      have HF:=qz (fun x hx=>ok.bitAt hf8 hkj x hx)
      have HCH:=qz ch
      clear ok ch
      generalize hB:z3u high (L++(bitsOf high V N).take (k+j)) m=B at cl hoc HF
      generalize hbt:V.testBit (rk high N (k+j))=bt at HF
      clear hB hbt
      have hwr:IntKind.i64.wrap (8-((f':Int)+1))=((7-f':Nat):Int):=by rw [IntWalk.i64_in _ (by omega)];omega
      have hq1:(m:Int)<(m:Int)+1:=by omega
      refine z6h 21 (by kernel_rfl) (by kernel_rfl) ?_
      simp only [List.take_succ_cons,List.take_zero,List.drop_succ_cons,List.drop_zero]
      repeat (first|still_call (y1c _ _ _ _ (by omega) (by omega) (by omega))|still_step)
      try refine wpStill_nil ?_
      go_wp2
      ·have hne:((k:Int)+j+1 == N)=true:=by assumption
       have hne':N=k+j+1:=by simp at hne;omega
       have R:=uh HF _ rfl
       rw [Exit.noGoto_normal]
       go_end0
       refine ⟨rfl,_,m+1,f',?_,?_,(uh HCH).trans R.2⟩
       ·have R1:=R.1
        rw [←hne',List.take_of_length_le (by rw [z0s];omega)] at R1
        exact R1
       ·have:=uh hf'';omega
      ·have hne:((k:Int)+j+1 == N)=false:=by assumption
       have hne':k+j+1≠N:=by simp at hne;omega
       go_roundg (8-(j+1))
       case measure=>omega
       case rel => 
        have R:=uh HF _ rfl
        exact ⟨j+1,by have:=uh hf'';omega,by omega,by omega,by go_num,by go_num,by rw [show 8-(j+1)=f' by have:=uh hf'';omega];exact R.1,(uh HCH).trans R.2⟩
     ·have hjf':j=8:=by omega
      subst hjf'
      go_wp2
      go_roundg (N-(k+8))
      case measure=>omega
      case rel=>exact ⟨k+8,_,m+1,0,rfl,by omega,by go_num,by simpa using ok,by omega,ch⟩
   ·obtain ⟨q,rfl⟩:∃q,m=q+1:=⟨m-1,by have:=hok.len;omega⟩
    obtain ⟨g,cap,rfl⟩:∃g cap,v=.slice (some ⟨g,0,none⟩) (q+1) cap:=by
     rcases hok.row.2 with ⟨_,e⟩|⟨g,cap,_,e,_⟩
     ·omega
     ·exact ⟨g,cap,e⟩
    have h0':((f:Int) == 0)=false:=by simp;omega
    have hq63:=hok.lastfz.2.2.2
    have HOK:Hid (WOk wr pb high (.slice (some ⟨g,0,none⟩) (q+1) cap) (q+1) (L++(bitsOf high V N).take k) f):=hok
    have HCH:Hid (Chg pb v0 w (.slice (some ⟨g,0,none⟩) (q+1) cap) wr):=hch
    clear hok hch hw
    go_wp2
    go_loopg [6,39] f (fun gj d c ws=>∃j,gj=f-j∧j≤f∧k+j<N∧d=.int .i64 ((k+j:Nat):Int)∧c=.int .i64 (j:Int)∧WOk ws pb high (.slice (some ⟨g,0,none⟩) (q+1) cap) (q+1) (L++(bitsOf high V N).take (k+j)) (f-j)∧Chg pb v0 w (.slice (some ⟨g,0,none⟩) (q+1) cap) ws)
    case atStart=>exact ⟨0,by omega,by omega,by omega,rfl,rfl,HOK.out,HCH.out⟩
    case round =>
     obtain ⟨j,rfl,hj,hkj,rfl,rfl,ok,ch⟩:=hrel
     clear HOK HCH c0 c1 c2 c3 f2 f3
     by_cases hjf:j<f
     ·obtain ⟨f',hf'⟩:∃f',f-j=f'+1:=⟨f-j-1,by omega⟩
      have hf'':=qz hf'
      have hf8:f'≤7:=by omega
      rw [hf'] at ok
      clear hf'
      have hrl:=y5z (high:=high) hkj
      have c1:=ok.c1
      have c2:=ok.c2
      have c3:=ok.c3
      have cl:=ok.last
      have hoc:=z7n high (L++(bitsOf high V N).take (k+j)) q
      obtain ⟨fl,hgp,hgs,hqc,hcap⟩:=ok.lastfz
      have f3:=ok.fz 3
      go_wp2_with (go_at_call 74;go_must (refine (y1c _ _ _ _ (by omega) (by omega) (by omega)).mono ?_;rintro e w' ⟨rfl,rfl⟩))
      rw [x5d V (rk high N (k+j)) (by omega)]
      have HF:=qz (fun x hx=>ok.bitAt hf8 hkj x hx)
      have HCH:=qz ch
      clear ok ch
      generalize hB:z3u high (L++(bitsOf high V N).take (k+j)) q=B at cl hoc HF
      generalize hbt:V.testBit (rk high N (k+j))=bt at HF
      clear hB hbt
      have hwr:IntKind.i64.wrap (8-((f':Int)+1))=((7-f':Nat):Int):=by rw [IntWalk.i64_in _ (by omega)];omega
      have hq1:(q:Int)<(q:Int)+1:=by omega
      refine z6h 21 (by kernel_rfl) (by kernel_rfl) ?_
      simp only [List.take_succ_cons,List.take_zero,List.drop_succ_cons,List.drop_zero]
      repeat (first|still_call (y1c _ _ _ _ (by omega) (by omega) (by omega))|still_step)
      try refine wpStill_nil ?_
      go_wp2
      ·have hne:((k:Int)+j+1 == N)=true:=by assumption
       have hne':N=k+j+1:=by simp at hne;omega
       have R:=uh HF _ rfl
       rw [Exit.noGoto_normal]
       go_end0
       refine ⟨rfl,_,q+1,f',?_,?_,(uh HCH).trans R.2⟩
       ·have R1:=R.1
        rw [←hne',List.take_of_length_le (by rw [z0s];omega)] at R1
        exact R1
       ·have:=uh hf'';omega
      ·have hne:((k:Int)+j+1 == N)=false:=by assumption
       have hne':k+j+1≠N:=by simp at hne;omega
       go_roundg (f-(j+1))
       case measure=>omega
       case rel => 
        have R:=uh HF _ rfl
        exact ⟨j+1,by have:=uh hf'';omega,by omega,by omega,by go_num,by go_num,by rw [show f-(j+1)=f' by have:=uh hf'';omega];exact R.1,(uh HCH).trans R.2⟩
     ·have hjf':j=f:=by omega
      subst hjf'
      go_wp2
      go_roundg (N-(k+j))
      case measure=>omega
      case rel=>exact ⟨k+j,_,q+1,0,rfl,by omega,by go_num,by simpa using ok,by omega,ch⟩
  ·go_wp2
   rw [Exit.noGoto_normal]
   go_end0
   refine ⟨rfl,v,m,f,?_,hf7,hch⟩
   have R1:=hok
   rw [List.take_of_length_le (by rw [z0s];omega)] at R1
   exact R1
end W4
namespace W4
open Go.RowKit Mth
theorem z5z (pb:Nat) (w:World) (h:w.cell? ⟨pb,0,none⟩=some (.bool true)) :
  Calls Tryz.prog 31 #[.pointer (some ⟨pb,0,none⟩)] w fun e w'=>e=.returned (.bool true)∧w'=w:=by
 go_enter Tryz.func31,Tryz.ntmps31
 go_wp2
 go_ret
 exact ⟨rfl,rfl⟩
theorem y5p (high:Bool) (w:World) :
  Calls Tryz.prog 9 #[.bool high] w fun e w'=>e=.returned (.pointer (some ⟨w.heap.size,0,none⟩))∧w'=w.alloc (.cells #[.bool true,.bool high,.slice none 0 0,.int .i64 0] 52):=by
 go_enter Tryz.func9,Tryz.ntmps9
 go_wp2
 go_ret
 exact ⟨rfl,rfl⟩
theorem x1g (high:Bool) (w:World):WOk (w.alloc (.cells #[.bool true,.bool high,.slice none 0 0,.int .i64 0] 52)) w.heap.size high (.slice none 0 0) 0 [] 0 :=
 ⟨heap_alloc_new w _,by simpa [pk] using World.ownsRow_nil _ _ _ _,rfl⟩
theorem w2h (V N:Nat) (h:V<2^N):((V:Int)/2^N != 0)=false:=by
 rw [show ((V:Int)/2^N)=((V/2^N:Nat):Int) by simp,Nat.div_eq_of_lt h]
 rfl
theorem w3g (pb m f:Nat) (high:Bool) (v0:Value) (L:List Bool) (V n:Int) (w:World) (hw:WOk w pb high v0 m L f) (hf:f≤7) (hn0:0≤n) (hn:n≤64) (hV0:0≤V) (hV:V.toNat<2^n.toNat) (hb:L.length+n.toNat≤1000000000000000) :
  Calls Tryz.prog 53 #[.pointer (some ⟨pb,0,none⟩),.int .u64 V,.int .i64 n] w fun e w'=>e=.returned (.int .i64 0)∧∃v' m' f',WOk w' pb high v' m' (L++bitsOf high V.toNat n.toNat) f'∧f'≤7∧Chg pb v0 w v' w':=by
 obtain ⟨V,rfl⟩:=Int.eq_ofNat_of_zero_le hV0
 obtain ⟨N,rfl⟩:=Int.eq_ofNat_of_zero_le hn0
 simp only [Int.toNat_natCast] at *
 have hsh:=w2h V N hV
 have hN0:decide ((N:Int)<0)=false:=by simp
 have hN1:decide (64<(N:Int))=false:=by simp;omega
 have c0:=hw.c0
 have HW:=qz hw
 clear hw hV
 go_enter Tryz.func53,Tryz.ntmps53
 go_wp2_with (first|(go_at_call 31;refine (z5z _ _ (by assumption)).mono ?_;rintro e w' ⟨rfl,rfl⟩)|(go_at_call 78;go_must (refine (w0u pb m f high v0 L V N _ (uh HW) hf (by omega) hb).mono ?_;rintro e w' ⟨rfl,hq⟩;have HQ:=qz hq;clear hq)))
 go_ret
 exact ⟨rfl,uh HQ⟩
theorem y3r (pb m f:Nat) (high:Bool) (v0:Value) (L:List Bool) (w:World) (hw:WOk w pb high v0 m L f) (hb:L.length≤1000000000000000) (hf:f≤7) :
  Calls Tryz.prog 66 #[.pointer (some ⟨pb,0,none⟩)] w fun e w'=>e=.returned (.int .i64 (L.length:Int))∧∃n,w'=w.drewN n:=by
 have c0:=hw.c0
 have c2:=hw.c2
 have c3:=hw.c3
 have hl:=hw.len
 obtain ⟨a,c,e⟩:∃a c,v0=.slice a m c:=by
  rcases hw.row.2 with ⟨e,e'⟩|⟨g,cap,_,e,_⟩
  ·exact ⟨_,0,by rw [e,e']⟩
  ·exact ⟨_,_,e⟩
 have hlz:(L.length:Int)=8*(m:Int)-f:=by omega
 rw [hlz]
 clear hlz
 subst e
 have hm:(m:Int)≤1000000000000000:=by omega
 clear hl hw
 go_enter Tryz.func66,Tryz.ntmps66
 go_wp2_with (first|(go_at_call 31;refine (z5z _ _ (by assumption)).mono ?_;rintro e w' ⟨rfl,rfl⟩))
 go_quiet (fail)
 go_wp2
 go_ret
 exact ⟨rfl,nq,rfl⟩
theorem w7e:(Tryz.prog.info? 5).map (·.size)=some 1:=by kernel_rfl
theorem x6g (v:Value) (zs:List Nat) (w:World) (hr:Reads w v zs) (hn:zs.length≤140737488355328) :
  Calls Tryz.prog 32 #[v] w fun e w'=>e=.returned (.slice (some ⟨w.heap.size,0,none⟩) zs.length zs.length)∧w'.heap[w.heap.size]?=some (.cells (zs.map bv).toArray 5 (0,0))∧Below w.heap.size w w':=by
 obtain ⟨a,cap,rfl,hsrc⟩:=hr
 obtain ⟨i0,hi,hz0,hz1,hz2⟩:=info_parts info5
 have HS:=qz hsrc
 clear hsrc
 go_enter Tryz.func32,Tryz.ntmps32
 go_wp2_with (first|(at_make;go_must (refine wpList_make_full _ rfl _ _ 22 rfl w.heap.size 5 i0 (.int .u8 0) 1 Tryz.underlying22 hi hz0 hz1 _ _ _ _ zs.length rfl rfl (by omega) (by omega) (by rw [hz2];omega) (by unfold maxLen;omega) (Nat.le_refl _) ?_;intro w1 hown hgrow;have HO:=qz (z5k hown rfl).1;have HB:=qz ((Below.refl w.heap.size w).grown hgrow (Nat.le_refl _) (by intro k h;cases h));clear hown hgrow))|(refine wpList_copy_splice rfl (.tmp 7) (.tmp 8) 22 22 rfl 5 Tryz.underlying22 w7e _ _ _ _ _ _ (by rfl) (by rfl) w.heap.size 0 _ 5 (uh HO) (zs.map bv) (by simp) (fun h0=>⟨rfl,by obtain ⟨ad,e,h2⟩:=uh HS (by simpa using h0);exact ⟨ad,e,fun j u hj=>z0a (uh HB) (h2 j u hj)⟩⟩) (by simp [madeCells]) (by intro u hu;simp at hu;obtain ⟨z,_,rfl⟩:=hu;rfl) w.heap.size w (uh HB) (Nat.le_refl _) ?_;intro w2 H2 hb2))
 go_ret
 refine ⟨rfl,?_,hb2⟩
 rw [uh H2,x3v _ _ (by simp [madeCells])]
theorem WOk.reads {w:World} {pb:Nat} {high:Bool} {v:Value} {m:Nat} {L:List Bool} {f:Nat} (h:WOk w pb high v m L f):Reads w v (pk high m L):=by
 have hr:=h.row
 rcases hr.2 with ⟨e,e'⟩|⟨g,cap,cur,e,_⟩
 ·refine ⟨none,0,?_,fun h0=>?_⟩
  ·rw [e,z1h,e']
  ·rw [z1h,e'] at h0;omega
 ·refine ⟨some ⟨g,0,none⟩,cap,by rw [e,z1h],fun _=>⟨_,rfl,?_⟩⟩
  exact hr.cells (by rw [e];rfl)
theorem w0h (pb m f:Nat) (high:Bool) (v0:Value) (L:List Bool) (w:World) (hw:WOk w pb high v0 m L f) (hb:m≤140737488355328) :
  Calls Tryz.prog 13 #[.pointer (some ⟨pb,0,none⟩)] w fun e w'=>e=.returned (.slice (some ⟨w.heap.size,0,none⟩) m m)∧w'.heap[w.heap.size]?=some (.cells ((pk high m L).map bv).toArray 5 (0,0))∧Below w.heap.size w w':=by
 have c0:=hw.c0
 have c2:=hw.c2
 have HR:=qz hw.reads
 have hl:=z1h high m L
 generalize pk high m L=zs at HR hl
 subst hl
 clear hw
 go_enter Tryz.func13,Tryz.ntmps13
 go_wp2_with (first|(go_at_call 31;refine (z5z _ _ (by assumption)).mono ?_;rintro e w' ⟨rfl,rfl⟩)|(go_at_call 32;go_must (refine (x6g _ zs _ (uh HR) hb).mono ?_;rintro e w1 ⟨rfl,h1,h2⟩;have H1:=qz h1;have H2:=qz h2;clear h1 h2)))
 go_ret
 exact ⟨rfl,uh H1,uh H2⟩
theorem WOk.keep {w w':World} {pb:Nat} {high:Bool} {v:Value} {m:Nat} {L:List Bool} {f:Nat} (h:WOk w pb high v m L f) (h1:w'.heap[pb]?=w.heap[pb]?) (h2:∀g,v.ownBlock=some g→w'.heap[g]?=w.heap[g]?):WOk w' pb high v m L f:=by
 refine ⟨by rw [h1];exact h.blk,?_,h.len⟩
 obtain ⟨hl,hr⟩:=h.row
 refine ⟨hl,?_⟩
 rcases hr with e|⟨g,cap,cur,e,hb,hh,r⟩
 ·exact .inl e
 ·exact .inr ⟨g,cap,cur,e,hb,by rw [h2 g (by rw [e];rfl)];exact hh,r⟩
end W4
namespace W4.Nobody
open Go.ChangeShapes Go.WideShapes Go.ChangeAt Go.RowKit Go.Joins Mth
theorem own:ownKnob Tryz.prog.godebug=none:=by kernel_rfl
theorem x5x (pb:Nat) (w:World):Calls Tryz.prog 78 #[.pointer (some ⟨pb,0,none⟩),.int .u64 0,.int .i64 0] w fun e w'=>e=.returned (.tuple #[])∧w'=w:=by
 go_enter Tryz.func78,Tryz.ntmps78
 go_wp2
 go_step3
 go_wp2
 go_step3
 go_wp2
 go_rounds 1
 rw [Exit.noGoto_normal]
 go_end0
 exact ⟨rfl,rfl⟩
theorem w2a (pb:Nat) (w:World) (h:w.cell? ⟨pb,0,none⟩=some (.bool true)):Calls Tryz.prog 53 #[.pointer (some ⟨pb,0,none⟩),.int .u64 0,.int .i64 0] w fun e w'=>e=.returned (.int .i64 0)∧w'=w:=by
 go_enter Tryz.func53,Tryz.ntmps53
 go_wp2_with (first|(go_at_call 31;refine (z5z _ _ (by assumption)).mono ?_;rintro e w' ⟨rfl,rfl⟩)|(go_at_call 78;refine (x5x pb _).mono ?_;rintro e w' ⟨rfl,rfl⟩))
 go_ret
 exact ⟨rfl,rfl⟩
end W4.Nobody
namespace W4
open Go.RowKit Mth
theorem WOk.below {w w':World} {pb:Nat} {high:Bool} {v:Value} {m:Nat} {L:List Bool} {f:Nat} (h:WOk w pb high v m L f) (hb:Below w.heap.size w w'):WOk w' pb high v m L f :=
 h.keep (hb.block _ h.lt) (fun g hg=>hb.block _ (h.row.lt g hg).2)
theorem Chg.of_below {w w':World} {pb:Nat} {v:Value} (hb:Below w.heap.size w w'):Chg pb v w v w' :=
 ⟨hb.os,hb.tape,hb.output,hb.size,fun k hk _ _=>hb.block k hk,.inl rfl⟩
theorem w0c (high:Bool) (W i:Nat):bitsOf high (W/2^i%2) 1=[W.testBit i]:=by
 have h1:(W/2^i%2).testBit 0=W.testBit i:=by
  rw [Nat.testBit_zero,Nat.testBit_eq_decide_div_mod_eq]
  simp
 have h2:rk high 1 0=0:=by cases high<;>rfl
 have:=z4n high (W/2^i%2) 1 0 (by omega)
 rw [List.take_of_length_le (by rw [z0s];omega),h2,h1] at this
 simpa using this
theorem w3x (ls:List Nat) (cp lo hi s pb m f:Nat) (high:Bool) (v0:Value) (L:List Bool) (w:World) (h:Code ls w cp lo hi) (hs:s<ls.length) (h0:0<Canon.ln ls s) (hw:WOk w pb high v0 m L f) (hf:f≤7) (hb:L.length+20≤1000000000000000) :
  Calls Tryz.prog 110 #[.pointer (some ⟨cp,0,none⟩),.pointer (some ⟨pb,0,none⟩),.int .i64 (s:Int)] w fun e w'=>e=.returned (.int .i64 0)∧∃v' m' f',WOk w' pb high v' m' (L++bitsOf true (Canon.wd ls s) (Canon.ln ls s)) f'∧f'≤7∧Chg pb v0 w v' w':=by
 have hgood:Good ls:=by obtain ⟨_,_,_,_,_,_,_,_,_,_,_,hc⟩:=h;exact hc.good
 have hhas:=hgood.has hs h0
 have hl20:=hhas.2.2
 have hwd:=Canon.y8i hhas hgood.sum
 have HW:=qz (y0f ls cp lo hi s w h hs h0)
 have c0:=hw.c0
 have HOK:=qz hw
 obtain ⟨W,hW⟩:∃W,W=Canon.wd ls s:=⟨_,rfl⟩
 obtain ⟨N,hN⟩:∃N,N=Canon.ln ls s:=⟨_,rfl⟩
 rw [←hW,←hN] at HW hwd ⊢
 rw [←hN] at h0 hl20
 have hW32:W<4294967296:=by
  have:2^N≤2^20:=Nat.pow_le_pow_right (by decide) hl20
  omega
 clear h hw hgood hhas hW hN hwd hs
 go_enter Tryz.func110,Tryz.ntmps110
 go_wp2_with (first|(go_at_call 53;go_must (refine (Nobody.w2a pb _ (by assumption)).mono ?_;rintro e w' ⟨rfl,rfl⟩))|(go_at_call 109;go_must (refine (uh HW).mono ?_;rintro e w1 ⟨rfl,h1⟩;have HOK1:=qz ((uh HOK).below h1);have HCH1:=qz (Chg.of_below (pb:=pb) (v:=v0) h1);clear h1)))
 go_loopg [11] N (fun gk d ws=>∃ (l:Nat) (v:Value) (m f:Nat),gk=N-l∧l≤N∧d=.int .i64 ((N:Int)-1-(l:Int))∧WOk ws pb high v m (L++(bitsOf true W N).take l) f∧f≤7∧Chg pb v0 w' v ws)
 case atStart=>exact ⟨0,v0,m,f,by omega,by omega,by simp,by simpa using uh HOK1,hf,uh HCH1⟩
 case round =>
  obtain ⟨l,v,m,f,rfl,hl,rfl,hok,hf7,hch⟩:=hrel
  by_cases hll:l<N
  ·obtain ⟨i,hi⟩:∃i,i+1+l=N:=⟨N-1-l,by omega⟩
   rw [show (N:Int)-1-(l:Int)=(i:Int) by omega]
   have hi0:(0:Int)≤(i:Int):=by omega
   have hi20:i<20:=by omega
   have hbit:=x5b W i hW32
   obtain ⟨b,hbb⟩:∃b,b=W/2^i%2:=⟨_,rfl⟩
   rw [←hbb] at hbit
   have hb1:b≤1:=by omega
   have HBB:=qz hbb
   have HOK2:=qz hok
   have HCH2:=qz hch
   have HI:=qz hi
   have HLB:Hid ((L++(bitsOf true W N).take l).length+1≤1000000000000000):=qz (by simp [z0s];omega)
   clear hok hch hi hbb
   go_wp2_with (go_at_call 53;go_must (refine (w3g pb m f high v _ (b:Int) 1 _ (uh HOK2) hf7 (by omega) (by omega) (by omega) (by simp;omega) (uh HLB)).mono ?_;rintro e w2 ⟨rfl,v2,m2,f2,h1,h2,h3⟩;have HOK3:=qz h1;have HF3:=qz h2;have HCH3:=qz ((uh HCH2).trans h3);clear h1 h2 h3))
   go_roundg (N-(l+1))
   case measure=>have:=uh HI;omega
   case rel =>
    have hI:=uh HI
    refine ⟨l+1,v2,m2,f2,rfl,by omega,by rw [show (N:Int)-1-((l+1:Nat):Int)=(i:Int)-1 by omega],?_,uh HF3,uh HCH3⟩
    have h1:=uh HOK3
    rw [Int.toNat_natCast,uh HBB,show (1:Int).toNat=1 from rfl,w0c,List.append_assoc] at h1
    rw [z4n true W N l (by omega),show rk true N l=i by simp [rk];omega]
    exact h1
  ·obtain rfl:l=N:=by omega
   rw [show (l:Int)-1-(l:Int) = -1 by omega]
   have HOK2:=qz hok
   have HCH2:=qz hch
   clear hok hch
   go_wp2_with fail
   go_ret
   refine ⟨rfl,v,m,f,?_,hf7,uh HCH2⟩
   have h1:=uh HOK2
   rw [List.take_of_length_le (by rw [z0s];omega)] at h1
   exact h1
end W4
namespace Mth
theorem z9r (L:List Bool) (k j:Nat):(L++List.replicate k false).getD j false=L.getD j false:=by
 simp only [List.getD_eq_getElem?_getD]
 by_cases h:j<L.length
 ·rw [List.getElem?_append_left h]
 ·rw [List.getElem?_append_right (by omega),List.getElem?_eq_none (l:=L) (by omega),List.getElem?_replicate]
  split<;>rfl
theorem x7o (high:Bool) (L:List Bool) (k i:Nat):z3u high (L++List.replicate k false) i=z3u high L i:=by
 unfold z3u
 congr 1
 funext r
 exact z9r _ _ _
theorem w6h (high:Bool) (m:Nat) (L:List Bool) (k:Nat):pk high m (L++List.replicate k false)=pk high m L:=by
 unfold pk
 congr 1
 funext i
 exact x7o _ _ _ _
def ofBytes (high:Bool) (zs:List Nat):List Bool:=(List.range (8*zs.length)).map (z4y high zs)
theorem z7y (high:Bool) (zs:List Nat):(ofBytes high zs).length=8*zs.length:=by simp [ofBytes]
theorem y0p (high:Bool) (zs:List Nat) (i:Nat) (h:i<8*zs.length):(ofBytes high zs).getD i false=z4y high zs i:=by
 simp [ofBytes,h]
theorem y2c (high:Bool) (L:List Bool) (m:Nat) (zs:List Nat) (hL:L.length=8*m) (hz:∀z∈zs,z<256) (i:Nat) (hi:i<zs.length) :
  z3u high (L++ofBytes high zs) (m+i)=zs.getD i 0:=by
 apply Nat.eq_of_testBit_eq
 intro r
 rw [z2e]
 have hzi:zs.getD i 0<256:=hz _ (by rw [List.getD_eq_getElem?_getD,List.getElem?_eq_getElem hi];exact List.getElem_mem _)
 by_cases h8:r<8
 ·have h1:=y5z (high:=high) h8
  have e:(L++ofBytes high zs).getD (8*(m+i)+rk high 8 r) false=z4y high zs (8*i+rk high 8 r):=by
   rw [List.getD_eq_getElem?_getD,List.getElem?_append_right (by omega),show 8*(m+i)+rk high 8 r-L.length=8*i+rk high 8 r by omega,←List.getD_eq_getElem?_getD]
   exact y0p _ _ _ (by omega)
  rw [e]
  unfold z4y
  rw [show (8*i+rk high 8 r)/8=i by omega,show (8*i+rk high 8 r)%8=rk high 8 r by omega,w4x h8]
  simp [h8]
 ·have:(zs.getD i 0).testBit r=false:=Nat.testBit_lt_two_pow (Nat.lt_of_lt_of_le hzi (by
   have:2^8≤2^r:=Nat.pow_le_pow_right (by decide) (by omega)
   omega))
  simp [h8] at this ⊢
  exact this
theorem y2d (high:Bool) (L M:List Bool) (i:Nat) (h:8*i+8≤L.length):z3u high (L++M) i=z3u high L i:=by
 apply Nat.eq_of_testBit_eq
 intro r
 rw [z2e,z2e]
 by_cases h8:r<8
 ·have:=y5z (high:=high) h8
  simp only [List.getD_eq_getElem?_getD]
  rw [List.getElem?_append_left (by omega)]
 ·simp [h8]
theorem y2k (high:Bool) (L:List Bool) (m:Nat) (zs:List Nat) (hL:L.length=8*m) (hz:∀z∈zs,z<256) :
  pk high (m+zs.length) (L++ofBytes high zs)=pk high m L++zs:=by
 apply List.ext_getElem?
 intro i
 by_cases h:i<m
 ·rw [z7z _ _ _ _ (by omega),List.getElem?_append_left (by rw [z1h];exact h),z7z _ _ _ _ h,y2d _ _ _ _ (by omega)]
 ·by_cases h2:i<m+zs.length
  ·obtain ⟨j,rfl⟩:∃j,i=m+j:=⟨i-m,by omega⟩
   rw [z7z _ _ _ _ h2,y2c high L m zs hL hz j (by omega),List.getElem?_append_right (by rw [z1h];omega),z1h,show m+j-m=j by omega,List.getElem?_eq_getElem (by omega)]
   simp [show j<zs.length by omega]
  ·rw [List.getElem?_eq_none (by rw [z1h];omega),List.getElem?_eq_none (by rw [List.length_append,z1h];omega)]
end Mth
namespace W4
open Go.RowKit Mth
theorem WOk.pad {w:World} {pb:Nat} {high:Bool} {v:Value} {m f:Nat} {L:List Bool} (h:WOk w pb high v m L f) :
  WOk (w.setCell ⟨pb,3,none⟩ (.int .i64 0)) pb high v m (L++List.replicate f false) 0∧Chg pb v w v (w.setCell ⟨pb,3,none⟩ (.int .i64 0)):=by
 have hl:=h.len
 refine ⟨⟨?_,?_,by simp;omega⟩,⟨rfl,rfl,rfl,by simp,fun k _ hne _=>heap_setCell_other _ _ _ _ (by exact hne),.inl rfl⟩⟩
 ·rw [heap_setCell_same _ pb 3 _ _ _ h.blk];simp
 ·rw [w6h]
  exact z0y h.row (fun g e=>heap_setCell_other _ _ _ _ (by show g≠pb;have:=(h.row.lt g e).1;omega))
theorem x9n (pb m f:Nat) (high:Bool) (v0:Value) (L:List Bool) (w:World) (hw:WOk w pb high v0 m L f) :
  Calls Tryz.prog 52 #[.pointer (some ⟨pb,0,none⟩)] w fun e w'=>e=.returned (.int .i64 0)∧WOk w' pb high v0 m (L++List.replicate f false) 0∧Chg pb v0 w v0 w':=by
 have c0:=hw.c0
 have c3:=hw.c3
 have f3:=hw.fz 3
 have H:=qz hw.pad
 clear hw
 go_enter Tryz.func52,Tryz.ntmps52
 go_wp2_with (go_at_call 31;refine (z5z _ _ (by assumption)).mono ?_;rintro e w' ⟨rfl,rfl⟩)
 go_ret
 exact ⟨rfl,uh H⟩
theorem WOk.growBytes {wr w1:World} {pb:Nat} {high:Bool} {v v':Value} {m:Nat} {L:List Bool} {zs:List Nat} (h:WOk wr pb high v m L 0) (hz:∀z∈zs,z<256)
  (hown:w1.ownsRow (pb+1) 5 1 v' (m+zs.length) ((pk high m L).map bv++zs.map bv)) (hg:wr.grownBy w1 v.ownBlock) (hat:v'.ownBlock=v.ownBlock∨v'.ownBlock=some wr.heap.size) :
  WOk (w1.setCell ⟨pb,2,none⟩ v') pb high v' (m+zs.length) (L++ofBytes high zs) 0∧Chg pb v wr v' (w1.setCell ⟨pb,2,none⟩ v'):=by
 have hlt:=h.lt
 have hll:=h.len
 have hvb:v.ownBlock≠some pb:=fun e=>by have:=(h.row.lt pb e).1;omega
 have hbk:w1.heap[pb]?=some (.cells #[.bool true,.bool high,v,.int .i64 0] 52 (0,0)):=by
  rw [hg.block pb hlt (fun e=>hvb e.symm)];exact h.blk
 refine ⟨⟨?_,?_,by rw [List.length_append,z7y];omega⟩,⟨hg.os,hg.tape,hg.output,by simpa using hg.size,fun k hk hne hv=>?_,?_⟩⟩
 ·rw [heap_setCell_same _ pb 2 _ _ _ hbk];simp
 ·rw [y2k high L m zs (by omega) hz,List.map_append]
  exact z0y hown (fun g e=>heap_setCell_other _ _ _ _ (by show g≠pb;have:=(hown.lt g e).1;omega))
 ·rw [heap_setCell_other _ _ _ _ (by exact hne),hg.block k hk (fun e=>hv e.symm)]
 ·rcases hat with e|e
  ·exact .inl e
  ·exact .inr ⟨_,e,Nat.le_refl _⟩
theorem WOk.grownAt {wr w1:World} {pb:Nat} {high:Bool} {v:Value} {m:Nat} {L:List Bool} {f:Nat} (h:WOk wr pb high v m L f) (hg:wr.grownBy w1 v.ownBlock) :
  w1.cell? ⟨pb,2,none⟩=some v∧w1.frozen? ⟨pb,2,none⟩=false:=by
 have hvb:v.ownBlock≠some pb:=fun e=>by have:=(h.row.lt pb e).1;omega
 have hbk:w1.heap[pb]?=some (.cells #[.bool true,.bool high,v,.int .i64 (f:Int)] 52 (0,0)):=by
  rw [hg.block pb h.lt (fun e=>hvb e.symm)];exact h.blk
 simp [World.cell?,World.frozen?,hbk]
theorem x1j {w:World} {base e size n:Nat} {v:Value} {xs:List Value} (h:w.ownsRow base e size v n xs):∃a l c,v=.slice a l c:=by
 rcases h.2 with ⟨e,_⟩|⟨g,c,_,e,_⟩
 ·exact ⟨_,_,_,e⟩
 ·exact ⟨_,_,_,e⟩
theorem y9o (pb m:Nat) (high:Bool) (v0:Value) (L:List Bool) (ad:Addr) (c:Nat) (zs:List Nat) (w:World) (hw:WOk w pb high v0 m L 0) (hz:∀z∈zs,z<256)
  (hc:∀ (j:Nat) u,(zs.map bv)[j]?=some u→w.cell? (ad.add j)=some u) (hb:m+zs.length≤140737488355328) :
  Calls Tryz.prog 54 #[.pointer (some ⟨pb,0,none⟩),.slice (some ad) zs.length c] w fun e w'=>e=.returned (.int .i64 0)∧∃v',WOk w' pb high v' (m+zs.length) (L++ofBytes high zs) 0∧Chg pb v0 w v' w':=by
 obtain ⟨i0,hi,hz0,hz1,hz2⟩:=info_parts info5
 have c0:=hw.c0
 have c2:=hw.c2
 have c3:=hw.c3
 have hlt:=hw.lt
 have H:=qz hw
 have HC:=qz hc
 have HZ:=qz hz
 clear hw hc hz
 go_enter Tryz.func54,Tryz.ntmps54
 go_wp2_with (first
  | (go_at_call 31;refine (z5z _ _ (by assumption)).mono ?_;rintro e w' ⟨rfl,rfl⟩)
  | (at_builtin;go_must (refine wpList_append_own_at _ rfl (.tmp 17) (.tmp 18) 22 rfl (pb+1) 5 i0 (.int .u8 0) 1 1 Tryz.underlying22 hi hz0 hz1 hz2 rfl (by decide) v0 m _ (by rfl) (uh H).row ad zs.length c (zs.map bv) (by rfl) (by simp) (uh HC) (by intro u hu;simp at hu;obtain ⟨z,_,rfl⟩:=hu;rfl) (by unfold maxLen;omega) (by omega) (by omega) ?_;intro v' w1 hown hgrow _ hat;obtain ⟨va,vn,vc,rfl⟩:=x1j hown;obtain ⟨d2,e2⟩:=(uh H).grownAt hgrow;have HG:=qz ((uh H).growBytes (uh HZ) hown hgrow hat);clear hown hgrow hat)))
 go_ret
 exact ⟨rfl,_,uh HG⟩
end W4
section
open Go.RowKit Mth
attribute [local go_sem ↓] wp_at_zero wp_at_succ
section
variable {ls:List Nat} {w ws w2:World} {cp lo hi wg g cap N base:Nat} {A B S:Nat→Nat} {H:Nat→Bool} {ix ky:Nat→Nat} {rp gr ab:Nat} {high:Bool} {zs:List Nat} {f:Nat→Bool} {t j a:Nat}
end
end
section
open Go.RowKit Infl
def y0n (s:Int):Value:=if s<257∨285<s then .tuple #[.int .i64 0,.int .i64 0,.int .i64 2] else .tuple #[.int .i64 ((lenOf s.toNat).1:Int),.int .i64 ((lenOf s.toNat).2:Int),.int .i64 0]
def z6m (s:Int):Value:=if s<0∨29<s then .tuple #[.int .i64 0,.int .i64 0,.int .i64 2] else .tuple #[.int .i64 ((z0h s.toNat).1:Int),.int .i64 ((z0h s.toNat).2:Int),.int .i64 0]
theorem y3r (s:Int) (w:World):Calls Tryz.prog 138 #[.int .i64 s] w fun e w'=>e=.returned (y0n s)∧w'=w:=by
 unfold y0n
 by_cases h1:s<257∨285<s
 ·rw [if_pos h1]
  rcases h1 with h1|h1
  ·go_enter Tryz.func138,Tryz.ntmps138
   go_wp2_with fail
   go_ret3
   exact ⟨rfl,rfl⟩
  ·have g1:¬s<257:=by omega
   go_enter Tryz.func138,Tryz.ntmps138
   go_wp2_with fail
   go_ret3
   exact ⟨rfl,rfl⟩
 ·rw [if_neg h1]
  have hc:s=257∨s=258∨s=259∨s=260∨s=261∨s=262∨s=263∨s=264∨s=265∨s=266∨s=267∨s=268∨s=269∨s=270∨s=271∨s=272∨s=273∨s=274∨s=275∨s=276∨s=277∨s=278∨s=279∨s=280∨s=281∨s=282∨s=283∨s=284∨s=285:=by omega
  clear h1
  rcases hc with rfl|rfl|rfl|rfl|rfl|rfl|rfl|rfl|rfl|rfl|rfl|rfl|rfl|rfl|rfl|rfl|rfl|rfl|rfl|rfl|rfl|rfl|rfl|rfl|rfl|rfl|rfl|rfl|rfl
  all_goals
   go_enter Tryz.func138,Tryz.ntmps138
   go_wp2_with fail
   go_ret3
   exact ⟨rfl,rfl⟩
theorem w4c (s:Int) (w:World):Calls Tryz.prog 139 #[.int .i64 s] w fun e w'=>e=.returned (z6m s)∧w'=w:=by
 unfold z6m
 by_cases h1:s<0∨29<s
 ·rw [if_pos h1]
  rcases h1 with h1|h1
  ·go_enter Tryz.func139,Tryz.ntmps139
   go_wp2_with fail
   go_ret3
   exact ⟨rfl,rfl⟩
  ·have g1:¬s<0:=by omega
   go_enter Tryz.func139,Tryz.ntmps139
   go_wp2_with fail
   go_ret3
   exact ⟨rfl,rfl⟩
 ·rw [if_neg h1]
  have hc:s=0∨s=1∨s=2∨s=3∨s=4∨s=5∨s=6∨s=7∨s=8∨s=9∨s=10∨s=11∨s=12∨s=13∨s=14∨s=15∨s=16∨s=17∨s=18∨s=19∨s=20∨s=21∨s=22∨s=23∨s=24∨s=25∨s=26∨s=27∨s=28∨s=29:=by omega
  clear h1
  rcases hc with rfl|rfl|rfl|rfl|rfl|rfl|rfl|rfl|rfl|rfl|rfl|rfl|rfl|rfl|rfl|rfl|rfl|rfl|rfl|rfl|rfl|rfl|rfl|rfl|rfl|rfl|rfl|rfl|rfl|rfl
  all_goals
   go_enter Tryz.func139,Tryz.ntmps139
   go_wp2_with fail
   go_ret3
   exact ⟨rfl,rfl⟩
end
section
open Go.RowKit Mth Infl
section
variable {rb rp:Nat} {v:Value} {w:World} {B g p q most:Nat} {zs out:List Nat} {sv dv:Value}
theorem z6b (s:Nat) (h1:257≤s) (h2:s≤285):(Infl.lenOf s).1≤258∧(Infl.lenOf s).2≤5:=by
 have hc:∀i,i<29→(Infl.lenOf (257+i)).1≤258∧(Infl.lenOf (257+i)).2≤5:=by decide
 have:=hc (s-257) (by omega)
 rw [show 257+(s-257)=s from by omega] at this
 exact this
theorem z5g (s:Nat) (h2:s≤29):1≤(Infl.z0h s).1∧(Infl.z0h s).1≤24577∧(Infl.z0h s).2≤13:=by
 have hc:∀i,i<30→1≤(Infl.z0h i).1∧(Infl.z0h i).1≤24577∧(Infl.z0h i).2≤13:=by decide
 exact hc s (by omega)
end
end
section
open Go.RowKit Infl
def fx (i:Nat):Nat:=if 144≤i∧i<256 then 9 else if 256≤i∧i<280 then 7 else 8
theorem y5r (w:World):Calls Tryz.prog 144 #[] w fun e w'=>e=.returned (.slice (some ⟨w.heap.size,0,none⟩) 19 19)∧w'=w.alloc (.cells (order.map (fun z:Nat=>iv (z:Int))).toArray 3):=by
 go_enter Tryz.func144,Tryz.ntmps144
 go_wp2_with fail
 go_ret
 exact ⟨rfl,rfl⟩
theorem y5b (w:World):Calls Tryz.prog 27 #[] w fun e w'=>e=.returned (.slice (some ⟨w.heap.size,0,none⟩) 288 288)∧z0c w' .i64 3 w.heap.size 288 fx∧Below w.heap.size w w':=by
 have hm:∀w,(Instr.makeSlice 45 (.int .i64 288) (.int .i64 288)).run Tryz.prog w=.ok (.slice (some ⟨w.heap.size,0,none⟩) 288 288) (w.alloc (.cells (z0d .i64 288 (fun _=>0)) 3)):=fun w=>z2c w 288 (by decide)
 go_enter Tryz.func27,Tryz.ntmps27
 go_wp2_with fail
 go_loopg [6] 288 (fun gk c ws=>∃i,gk=288-i∧i≤288∧c=.int .i64 (i:Int)∧z0c ws .i64 3 w.heap.size 288 (fun j=>if j<i then fx j else 0)∧Below w.heap.size w ws)
 case atStart=>exact ⟨0,by omega,by omega,rfl,by simp only [Nat.not_lt_zero,if_false];exact heap_alloc_new _ _,(Below.refl _ _).alloc (Nat.le_refl _) _⟩
 case round =>
  obtain ⟨i,rfl,hil,rfl,hat,hbel⟩:=hrel
  clear hm
  have HA:=qz hat
  have HB:=qz hbel
  by_cases hlt:i<288
  ·have hii:(i:Int)<288:=by omega
   have k2:=hat.free i
   have k1:=hat.cell i hlt
   simp only [Nat.lt_irrefl,if_false] at k1
   have HN:Hid (∀y,fx i=y→z0c (wr.setCell ⟨w.heap.size,i,none⟩ (.int .i64 (y:Int))) .i64 3 w.heap.size 288 (fun j=>if j<i+1 then fx j else 0)∧Below w.heap.size w (wr.setCell ⟨w.heap.size,i,none⟩ (.int .i64 (y:Int)))):=qz (fun y hy=>⟨((uh HA).set i y).congr (fun j hj=>by
    unfold upd
    by_cases e:j=i
    ·subst e;rw [if_pos rfl,if_pos (by omega),hy]
    ·rw [if_neg e]
     show (if j<i then fx j else 0)=_
     by_cases e2:j<i
     ·rw [if_pos e2,if_pos (by omega)]
     ·rw [if_neg e2,if_neg (by omega)]),(uh HB).setCell (Nat.le_refl _) _⟩)
   clear hat hbel HA HB
   by_cases a1:i<144
   ·have b1:(i:Int)<144:=by omega
    go_wp2_with fail
    go_roundg (288-(i+1))
    case measure=>omega
    case rel=>exact ⟨i+1,rfl,by omega,by go_num,uh HN 8 (by unfold fx;rw [if_neg (by omega),if_neg (by omega)])⟩
   ·have b1:¬ (i:Int)<144:=by omega
    by_cases a2:i<256
    ·have b2:(i:Int)<256:=by omega
     go_wp2_with fail
     go_roundg (288-(i+1))
     case measure=>omega
     case rel=>exact ⟨i+1,rfl,by omega,by go_num,uh HN 9 (by unfold fx;rw [if_pos (by omega)])⟩
    ·have b2:¬ (i:Int)<256:=by omega
     by_cases a3:i<280
     ·have b3:(i:Int)<280:=by omega
      go_wp2_with fail
      go_roundg (288-(i+1))
      case measure=>omega
      case rel=>exact ⟨i+1,rfl,by omega,by go_num,uh HN 7 (by unfold fx;rw [if_neg (by omega),if_pos (by omega)])⟩
     ·have b3:¬ (i:Int)<280:=by omega
      go_wp2_with fail
      go_roundg (288-(i+1))
      case measure=>omega
      case rel=>exact ⟨i+1,rfl,by omega,by go_num,uh HN 8 (by unfold fx;rw [if_neg (by omega),if_neg (by omega)])⟩
  ·obtain rfl:i=288:=by omega
   clear hat hbel
   go_wp2_with fail
   go_ret
   exact ⟨rfl,(uh HA).congr (fun j hj=>by show (if j<288 then fx j else 0)=_;rw [if_pos hj]),uh HB⟩
end
section
open Go.RowKit Mth Infl
open Classical in
noncomputable def ce (ls:List Nat) (most:Nat) (loose:Bool):Nat:=if z2s ls loose then 0 else 13
theorem y4t (ls:List Nat) (most:Nat) (loose:Bool):(ce ls most loose=0∧z2s ls loose)∨(ce ls most loose=13∧¬z2s ls loose):=by
 unfold ce
 by_cases h:z2s ls loose
 ·rw [if_pos h];exact .inl ⟨rfl,h⟩
 ·rw [if_neg h];exact .inr ⟨rfl,h⟩
def z3h (w:World) (v:Value) (ls:List Nat):Prop:=z0w w v (ls.map fun l:Nat=>(l:Int))
theorem w4p (ls:List Nat):nat (ls.map fun l:Nat=>(l:Int))=ls:=by
 unfold nat
 rw [List.map_map]
 conv=>rhs;rw [←List.map_id ls]
 exact List.map_congr_left fun a _=>by simp
theorem z3h.stays {w w1:World} {v:Value} {ls:List Nat} (h:z3h w v ls) (hb:Below w.heap.size w w1):z3h w1 v ls:=z0w.stays hb h
theorem rnew (ls:List Nat) (M:Nat) (loose:Bool) (v:Value) (w:World) (hr:z3h w v ls) (hM:1≤M∧M≤20) (hn:1≤ls.length∧ls.length≤65536) (hl:∀l∈ls,l≤M) :
  Calls Tryz.prog 60 #[v,.int .i64 (M:Int),.bool loose] w fun e w'=>Below w.heap.size w w'∧((ce ls M loose=13∧e=.returned (.tuple #[.pointer none,.int .i64 13]))∨(ce ls M loose=0∧∃cp,e=.returned (.tuple #[.pointer (some ⟨cp,0,none⟩),.int .i64 0])∧Code ls w' cp w.heap.size w'.heap.size)):=by
 refine (w4t v _ (M:Int) loose w hr).mono ?_
 rintro e w' ⟨_,h2,h3,h4⟩
 have hok:z2x (ls.map fun l:Nat=>(l:Int)).length (M:Int)∧∀z∈(ls.map fun l:Nat=>(l:Int)),z2v (M:Int) z:=by
  refine ⟨⟨by omega,by omega,by simp;omega,by simp;omega⟩,fun z hz=>?_⟩
  rw [List.mem_map] at hz
  obtain ⟨l,hl1,rfl⟩:=hz
  have:=hl l hl1
  exact ⟨by omega,by omega⟩
 rw [w4p] at h2 h3
 refine ⟨h4,?_⟩
 rcases y4t ls M loose with ⟨c1,c2⟩|⟨c1,c2⟩
 ·exact .inr ⟨c1,h3 hok c2⟩
 ·exact .inl ⟨c1,h2 hok c2⟩
section
variable {rb rp:Nat} {v:Value} {w w':World} {B g p q most:Nat} {zs out:List Nat} {sv dv:Value}
end
end
section
open Infl
def cnt:Rd (Nat × Nat × Nat):=(Infl.get 5).bind fun l=>(Infl.get 5).bind fun d=>(Infl.get 4).bind fun k =>
 if 286<l+257∨30<d+1 then Rd.fail 11 else Rd.pure (l+257,d+1,k+4)
theorem y0q (vs:List Nat):(y9m vs).length=19:=by simp [y9m]
end
section
open Go.RowKit Mth Infl
section
variable {rb rp:Nat} {v:Value} {w ws w1 w':World} {B g p q most:Nat} {zs out:List Nat} {sv dv:Value} {k go gl i x q1:Nat} {vs:List Nat}
theorem z8h (w:World) (j:Nat) (hj:j<19):(w.alloc (.cells (order.map (fun z:Nat=>iv (z:Int))).toArray 3)).cell? ⟨w.heap.size,j,none⟩=some (.int .i64 ((order.getD j 0:Nat):Int)):=by
 simp only [World.cell?,heap_alloc_new]
 rw [List.getElem?_toArray,List.getElem?_map]
 rw [List.getD_eq_getElem?_getD,List.getElem?_eq_getElem (show j<order.length from hj)]
 rfl
end
end
section
open Go.RowKit Mth Infl
section
variable {rb rp:Nat} {v v1:Value} {w w1 w':World} {B g p q most:Nat} {zs out:List Nat} {sv dv:Value}
theorem z4l:z1b=(List.range 288).map fx:=rfl
theorem z5r:z1b.length=288:=by rw [z4l];simp
theorem z7g:z1c.length=32:=by unfold z1c;simp
theorem y3p {g n:Nat} {C:Nat→Nat} (h:z0c w .i64 3 g n C) (ls:List Nat) (hl:ls=(List.range n).map C):z3h w (.slice (some ⟨g,0,none⟩) n n) ls:=by
 subst hl
 refine ⟨some ⟨g,0,none⟩,n,by simp,fun _=>⟨g,0,rfl,fun j hj=>?_⟩⟩
 simp at hj
 have e:(((List.range n).map C).map fun l:Nat=>(l:Int))[j]?=some (C j:Int):=by
  rw [List.map_map,List.getElem?_map,List.getElem?_range hj];rfl
 rw [Nat.zero_add,h.cell j hj,List.getD_eq_getElem?_getD,e]
 rfl
theorem y6y:∀l∈z1b,l≤15:=by
 intro l hl
 rw [z4l,List.mem_map] at hl
 obtain ⟨i,_,rfl⟩:=hl
 unfold fx
 split
 ·decide
 ·split<;>decide
theorem x6d:∀l∈z1c,l≤15:=by
 intro l hl
 rw [List.eq_of_mem_replicate hl];decide
end
end
end Go.Proofs.YtabeanealkopbaaGreat
section
namespace Go.Proofs.YtabeanealkopbaaGreat
open Infl
namespace Defl
def x1x (all:List Nat) (s m v n:Nat):Prop :=
 (s≤15∧m=0∧v=s∧n=1)∨(s=16∧m<4∧all≠[]∧v=all.getD (all.length-1) 0∧n=3+m)∨(s=17∧m<8∧v=0∧n=3+m)∨(s=18∧m<128∧v=0∧n=11+m)
theorem x1x.pos {all:List Nat} {s m v n:Nat} (h:x1x all s m v n):1≤n∧s<19:=by
 rcases h with ⟨_,_,_,h⟩|⟨h',_,_,_,h⟩|⟨h',_,_,h⟩|⟨h',_,_,h⟩<;>omega
def xb (s:Nat):Nat:=if s=16 then 2 else if s=17 then 3 else if s=18 then 7 else 0
def z6x (z:List Nat) (r:Nat × Nat):List Bool:=wb z r.1++nb r.2 (xb r.1)
def y3d:List Nat→List (Nat × Nat)→List Nat→Prop
 | all,[],tgt=>all=tgt
 | all,r :: rs,tgt=>∃v n,x1x all r.1 r.2 v n∧y3d (all++List.replicate n v) rs tgt
def z5u (vs:List Nat):List Bool:=(vs.map fun v=>nb v 3).flatten
theorem z9d:∀vs:List Nat,(z5u vs).length=3*vs.length
 | []=>rfl
 | v :: vs=>by
  have:=z9d vs
  unfold z5u at this ⊢
  rw [List.map_cons,List.flatten_cons,List.length_append,z0g,this,List.length_cons]
  omega
structure Plan where
 x:List Nat
 y:List Nat
 z:List Nat
 vs:List Nat
 rs:List (Nat × Nat)
def Plan.bits (c:Plan):List Bool:=nb (c.x.length-257) 5++(nb (c.y.length-1) 5++(nb (c.vs.length-4) 4++(z5u c.vs++(c.rs.map (z6x c.z)).flatten)))
structure Plan.ok (c:Plan):Prop where
 x1:257≤c.x.length
 x2:c.x.length≤286
 y1:1≤c.y.length
 y2:c.y.length≤30
 v1:4≤c.vs.length
 v2:c.vs.length≤19
 v7:∀v∈c.vs,v<8
 own:y9m c.vs=c.z
 gz:Good c.z
 cz:ce c.z 7 false=0
 runs:y3d [] c.rs (c.x++c.y)
 has:∀r∈c.rs,0<Canon.ln c.z r.1
 e256:c.x.getD 256 0≠0
 cx:ce c.x 15 true=0
 cy:ce c.y 15 true=0
def head (last kind:Nat):List Bool:=nb last 1++nb kind 2
end Defl
end Go.Proofs.YtabeanealkopbaaGreat
end
namespace Go.Proofs.YtabeanealkopbaaGreat
namespace Defl
open Infl
def z7v (w:Nat→Nat) (order:List Nat) (M i:Nat):Nat:=if order.length≤1 then (if order=[i] then 1 else 0) else Merge.out w order M i
def limL (w:Nat→Nat) (order:List Nat) (M n:Nat):List Nat:=(List.range n).map (z7v w order M)
structure LimOk (w:Nat→Nat) (M n:Nat) (ls:List Nat):Prop where
 len:ls.length=n
 le:∀l∈ls,l≤M
 pos:∀i,i<n→0<w i→0<Canon.ln ls i
 zero:∀i,i<n→w i=0→Canon.ln ls i=0
 loose:z2s ls true
 full:(∃i j,i<n∧j<n∧i≠j∧0<w i∧0<w j)→z2s ls false
 good:Good ls
theorem x9c (C:Nat→Nat):∀n,(∀i,i<n→C i≤20)→Canon.sum ((List.range n).map C)=Merge.lsum (fun i=>if 0<C i then 2^(20-C i) else 0) (List.range n)
 | 0,_=>Canon.sum_nil
 | n+1,h=>by
  rw [List.range_succ,List.map_append,List.map_singleton,Canon.z9a _ _ (h n (by omega)),x9c C n (fun i hi=>h i (by omega))]
  unfold Merge.lsum
  rw [List.map_append,List.sum_append]
  simp
theorem y9i (f:Nat→Nat) (p:Nat→Bool) (L:List Nat) (h:∀i∈L,p i=false→f i=0):Merge.lsum f L=Merge.lsum f (L.filter p):=by
 induction L with
 | nil=>rfl
 | cons x r ih =>
  rw [Merge.z1q,ih (fun i hi=>h i (by simp [hi])),List.filter_cons]
  by_cases hp:p x=true
  ·rw [if_pos hp,Merge.z1q]
  ·have hp':p x=false:=by simpa using hp
   rw [if_neg hp,h x (by simp) hp',Nat.zero_add]
theorem x7a {f:Nat→Nat} {L L':List Nat} (h:L.Perm L'):Merge.lsum f L=Merge.lsum f L':=(h.map f).sum_nat
section
variable {w:Nat→Nat} {order:List Nat} {M n:Nat}
theorem w1q (hM:1≤M) (hn:order.length≤2^M) {i:Nat} (hi:i∉order):Merge.out w order M i=0:=by
 obtain ⟨c,_,_,_,c4⟩:=Merge.z7p (w:=w) hM hn
 exact List.count_eq_zero.2 (fun h=>hi (c4 i h))
theorem x4i {ls:List Nat} (h:∀l∈ls,l=0):words ls=0:=by
 unfold words
 rw [List.filter_eq_nil_iff.2 (fun l hl=>by simp [h l hl])]
 rfl
theorem y1i (C:Nat→Nat) (k v:Nat):∀n,(∀i,i<n→(C i=v↔i=k))→k<n→((List.range n).map C).count v=1
 | 0,_,h=>by omega
 | n+1,h,hk=>by
  rw [List.range_succ,List.map_append,List.count_append,List.map_singleton]
  by_cases e:k=n
  ·subst e
   have h0:((List.range k).map C).count v=0:=List.count_eq_zero.2 (fun hm=>by
    rw [List.mem_map] at hm
    obtain ⟨i,hi,hv⟩:=hm
    rw [List.mem_range] at hi
    have:=(h i (by omega)).1 hv
    omega)
   rw [h0,(h k (by omega)).2 rfl]
   simp
  ·rw [y1i C k v n (fun i hi=>h i (by omega)) (by omega)]
   have:C n≠v:=fun c=>e ((h n (by omega)).1 c).symm
   simp [this]
theorem w5g {l:List Nat} {i j:Nat} (hi:i∈l) (hj:j∈l) (h:i≠j):2≤l.length:=by
 cases l with
 | nil=>simp at hi
 | cons a r =>
  cases r with
  | nil=>simp at hi hj;omega
  | cons b r=>simp
theorem w6c (hs:Merge.Sorted (Merge.z0j w order)) (hd:order.Nodup) (hmem:∀i,i∈order↔i<n∧0<w i) (hM:1≤M) (hM2:M≤20) (hn:order.length≤2^M):LimOk w M n (limL w order M n):=by
 have hln:∀i,i<n→Canon.ln (limL w order M n) i=z7v w order M i:=fun i hi=>by
  unfold Canon.ln limL
  rw [List.getD_eq_getElem?_getD,List.getElem?_map,List.getElem?_range hi]
  rfl
 have hle:∀i,z7v w order M i≤M:=fun i=>by
  unfold z7v
  split
  ·split<;>omega
  ·exact Merge.x1i hd hM hn i
 have hpos:∀i,i<n→0<w i→0<z7v w order M i:=fun i hi hw=>by
  have hin:=(hmem i).2 ⟨hi,hw⟩
  unfold z7v
  by_cases h1:order.length≤1
  ·rw [if_pos h1]
   have e:order=[i]:=by
    match order,h1,hin with
    | [],_,h=>simp at h
    | [a],_,h=>simp at h;rw [h]
    | a :: b :: r,h,_=>simp at h
   rw [if_pos e];decide
  ·rw [if_neg h1]
   exact Merge.x7s hd hM hn (by omega) hin
 have hzero:∀i,i<n→w i=0→z7v w order M i=0:=fun i hi hw=>by
  have hin:i∉order:=fun h=>by have:=((hmem i).1 h).2;omega
  unfold z7v
  by_cases h1:order.length≤1
  ·rw [if_pos h1,if_neg (fun e=>hin (by rw [e];simp))]
  ·rw [if_neg h1]
   exact w1q hM hn hin
 have hlel:∀l∈limL w order M n,l≤M:=fun l hl=>by
  unfold limL at hl
  rw [List.mem_map] at hl
  obtain ⟨i,_,rfl⟩:=hl
  exact hle i
 have hfull:2≤order.length→Canon.sum (limL w order M n)=1048576:=fun h2=>by
  unfold limL
  rw [x9c _ n (fun i _=>Nat.le_trans (hle i) hM2),y9i _ (fun i=>decide (0<w i)) _ (fun i hi hp=>by
   rw [List.mem_range] at hi
   have hw:w i=0:=by simpa using hp
   show (if 0<z7v w order M i then _ else 0)=0
   rw [hzero i hi hw,if_neg (by omega)])]
  have hperm:((List.range n).filter (fun i=>decide (0<w i))).Perm order:=(List.perm_ext_iff_of_nodup (List.Pairwise.filter _ List.nodup_range) hd).2 fun i=>by
   rw [hmem i,List.mem_filter,List.mem_range];simp
  rw [x7a hperm]
  have e1:Merge.lsum (fun i=>if 0<z7v w order M i then 2^(20-z7v w order M i) else 0) order=Merge.lsum (fun i=>2^(M+(20-M)-Merge.out w order M i)) order:=Merge.z3c fun i hi=>by
   have hb:=(hmem i).1 hi
   rw [if_pos (hpos i hb.1 hb.2),show M+(20-M)=20 from by omega]
   unfold z7v
   rw [if_neg (by omega)]
  rw [e1,Merge.x3c (fun i _=>Merge.x1i hd hM hn i),Merge.w1p hs hd (fun i hi=>((hmem i).1 hi).2) hM hn h2,←Nat.pow_add,show M+(20-M)=20 from by omega]
 have hloose:z2s (limL w order M n) true:=by
  by_cases h2:2≤order.length
  ·exact .inl (hfull h2)
  ·refine .inr ⟨rfl,?_⟩
   by_cases h0:order.length=0
   ·refine .inl (x4i fun l hl=>?_)
    unfold limL at hl
    rw [List.mem_map] at hl
    obtain ⟨i,_,rfl⟩:=hl
    have e:order=[]:=List.eq_nil_of_length_eq_zero h0
    unfold z7v
    rw [if_pos (by omega),if_neg (by rw [e];simp)]
   ·obtain ⟨k,hk⟩:∃k,order=[k]:=by
     match order,h0,h2 with
     | [],h,_=>simp at h
     | [a],_,_=>exact ⟨a,rfl⟩
     | a :: b :: r,_,h=>simp at h
    have hkn:=(hmem k).1 (by rw [hk];simp)
    have hC:∀i,z7v w order M i=if i=k then 1 else 0:=fun i=>by
     unfold z7v
     rw [if_pos (by omega),hk]
     by_cases e:i=k
     ·rw [if_pos e,if_pos (by rw [e])]
     ·rw [if_neg e,if_neg (by intro c;injection c with c;exact e c.symm)]
    have hc1:(limL w order M n).count 1=1:=y1i _ k 1 n (fun i hi=>by
     rw [hC i]
     by_cases e:i=k
     ·simp [e]
     ·simp [e]) hkn.1
    refine .inr ⟨?_,hc1⟩
    unfold words
    rw [←hc1,List.count_eq_length_filter]
    congr 1
    refine List.filter_congr fun l hl=>?_
    unfold limL at hl
    rw [List.mem_map] at hl
    obtain ⟨i,_,rfl⟩:=hl
    rw [hC i]
    by_cases e:i=k
    ·simp [e]
    ·simp [e]
 refine ⟨by simp [limL],hlel,fun i hi hw=>by rw [hln i hi];exact hpos i hi hw,fun i hi hw=>by rw [hln i hi];exact hzero i hi hw,hloose,?_,⟨fun l hl=>Nat.le_trans (hlel l hl) hM2,z2s.le (fun l hl=>Nat.le_trans (hlel l hl) hM2) hloose⟩⟩
 rintro ⟨i,j,hi,hj,hne,wi,wj⟩
 refine .inl (hfull ?_)
 have h1:=(hmem i).2 ⟨hi,wi⟩
 have h2:=(hmem j).2 ⟨hj,wj⟩
 exact w5g h1 h2 hne
end
end Defl
namespace Defl
open Infl
theorem x1y (ls:List Nat) (a:Nat) (h:a<ls.length) (h15:∀x∈ls,x≤15) :
  x1x (ls.take a) (z0z (ls.map fun x:Nat=>(x:Int)) a).1.toNat (z0z (ls.map fun x:Nat=>(x:Int)) a).2.1 (ls.getD a 0) (z0z (ls.map fun x:Nat=>(x:Int)) a).2.2:=by
 have hv:(ls.map fun x:Nat=>(x:Int)).getD a 0=((ls.getD a 0:Nat):Int):=by
  rw [List.getD_eq_getElem?_getD,List.getElem?_map,List.getD_eq_getElem?_getD,List.getElem?_eq_getElem h]
  rfl
 have hx:ls.getD a 0≤15:=h15 _ (by rw [List.getD_eq_getElem?_getD,List.getElem?_eq_getElem h];exact List.getElem_mem _)
 unfold z0z
 rw [hv]
 generalize z0v ((ls.getD a 0:Nat):Int) ((ls.map fun x:Nat=>(x:Int)).drop a)=n
 by_cases c1:((ls.getD a 0:Nat):Int)=0∧11≤n
 ·rw [if_pos c1]
  exact .inr (.inr (.inr ⟨rfl,by simp only;omega,by omega,by simp only;omega⟩))
 ·rw [if_neg c1]
  by_cases c2:((ls.getD a 0:Nat):Int)=0∧3≤n
  ·rw [if_pos c2]
   exact .inr (.inr (.inl ⟨rfl,by simp only;omega,by omega,by simp only;omega⟩))
  ·rw [if_neg c2]
   by_cases c3:0<((ls.getD a 0:Nat):Int)∧0<a∧(ls.map fun x:Nat=>(x:Int)).getD (a-1) 0=((ls.getD a 0:Nat):Int)∧3≤n
   ·rw [if_pos c3]
    have hl:(ls.take a).length=a:=by rw [List.length_take];omega
    have hp:(ls.map fun x:Nat=>(x:Int)).getD (a-1) 0=((ls.getD (a-1) 0:Nat):Int):=by
     rw [List.getD_eq_getElem?_getD,List.getElem?_map,List.getD_eq_getElem?_getD,List.getElem?_eq_getElem (show a-1<ls.length by omega)]
     rfl
    have e1:ls.getD (a-1) 0=ls.getD a 0:=by have:=c3.2.2.1;rw [hp] at this;omega
    refine .inr (.inl ⟨rfl,by simp only;omega,fun e=>?_,?_,by simp only;omega⟩)
    ·rw [e] at hl;simp at hl;omega
    ·rw [hl,List.getD_eq_getElem?_getD (l:=ls.take a),List.getElem?_take,if_pos (by omega),←e1,List.getD_eq_getElem?_getD]
   ·rw [if_neg c3]
    exact .inl ⟨by simp only;omega,rfl,by simp only;omega,rfl⟩
theorem x8t (ls:List Nat) (h15:∀x∈ls,x≤15):∀ (k a:Nat),ls.length≤a+k→a≤ls.length→y3d (ls.take a) ((z8z (ls.map fun x:Nat=>(x:Int)) k a).map nn) ls
 | 0,a,h,ha=>by
  show ls.take a=ls
  exact List.take_of_length_le (by omega)
 | k+1,a,h,ha=>by
  unfold z8z
  by_cases hlt:a<ls.length
  ·rw [if_pos (by rw [List.length_map];exact hlt),List.map_cons]
   have hn:=y2p (ls.map fun x:Nat=>(x:Int)) a (by rw [List.length_map];exact hlt)
   have hle:a+(z0z (ls.map fun x:Nat=>(x:Int)) a).2.2≤ls.length:=by
    have:=y1f ((ls.map fun x:Nat=>(x:Int)).getD a 0) ((ls.map fun x:Nat=>(x:Int)).drop a)
    rw [List.length_drop,List.length_map] at this
    omega
   refine ⟨ls.getD a 0,(z0z (ls.map fun x:Nat=>(x:Int)) a).2.2,x1y ls a hlt h15,?_⟩
   have ht:=x9e (ls.map fun x:Nat=>(x:Int)) a _ hn.2
   have ht2:ls.take (a+(z0z (ls.map fun x:Nat=>(x:Int)) a).2.2)=ls.take a++List.replicate (z0z (ls.map fun x:Nat=>(x:Int)) a).2.2 (ls.getD a 0):=by
    have hinj:∀{x y:List Nat},(x.map fun x:Nat=>(x:Int))=(y.map fun x:Nat=>(x:Int))→x=y:=fun {x y} e=>(List.map_inj_right (fun a b hab=>by have h:(a:Int)=(b:Int):=hab;omega)).1 e
    refine hinj ?_
    rw [List.map_append,List.map_replicate,List.map_take,List.map_take,ht]
    congr 2
    rw [List.getD_eq_getElem?_getD,List.getElem?_map,List.getD_eq_getElem?_getD,List.getElem?_eq_getElem hlt]
    rfl
   rw [←ht2]
   exact x8t ls h15 k _ (by omega) hle
  ·rw [if_neg (by rw [List.length_map];exact hlt)]
   show ls.take a=ls
   exact List.take_of_length_le (by omega)
theorem y6d (ls:List Nat) (h15:∀x∈ls,x≤15):y3d [] ((z3k (ls.map fun x:Nat=>(x:Int))).map nn) ls:=by
 have:=x8t ls h15 (ls.map fun x:Nat=>(x:Int)).length 0 (by rw [List.length_map];omega) (Nat.zero_le _)
 rw [List.take_zero] at this
 exact this
end Defl
namespace Defl
open Infl
theorem w5b {l:List Nat} (h:0<l.length) (h0:l.getD (l.length-1) 0=0):l=l.take (l.length-1)++[0]:=by
 have e:l.take (l.length-1+1)=l.take (l.length-1)++[l.getD (l.length-1) 0]:=by
  rw [List.take_add_one,List.getD_eq_getElem?_getD,List.getElem?_eq_getElem (by omega)]
  rfl
 rw [h0,List.take_of_length_le (by omega)] at e
 exact e
theorem x3g (l:List Nat) (loose:Bool):z2s (l++[0]) loose↔z2s l loose:=by
 unfold z2s
 rw [Canon.z9a l 0 (by decide),if_neg (by decide),Nat.add_zero]
 have h1:words (l++[0])=words l:=by
  unfold words
  rw [List.filter_append]
  simp
 have h2:(l++[0]).count 1=l.count 1:=by rw [List.count_append];simp
 rw [h1,h2]
theorem x6j {l:List Nat} (h:Good (l++[0])):Good l:=by
 refine ⟨fun x hx=>h.small x (by simp [hx]),?_⟩
 have:=h.sum
 rw [Canon.z9a l 0 (by decide),if_neg (by decide),Nat.add_zero] at this
 exact this
theorem z9h (n:Nat):∀ (k:Nat) (l:List Nat) (loose:Bool),(z2s l loose→z2s (trim n k l) loose)∧(Good l→Good (trim n k l))
 | 0,l,loose=>⟨id,id⟩
 | k+1,l,loose=>by
  unfold trim
  by_cases c:n<l.length∧l.getD (l.length-1) 0=0
  ·rw [if_pos c]
   have e:=w5b (by omega) c.2
   obtain ⟨h1,h2⟩:=z9h n k (l.take (l.length-1)) loose
   refine ⟨fun h=>h1 ?_,fun h=>h2 ?_⟩
   ·rw [e] at h;exact (x3g _ _).1 h
   ·rw [e] at h;exact x6j h
  ·rw [if_neg c]
   exact ⟨id,id⟩
theorem x5f {ls:List Nat} {M:Nat} {loose:Bool} (h:z2s ls loose):ce ls M loose=0:=by
 rcases y4t ls M loose with ⟨h',_⟩|⟨_,h'⟩
 ·exact h'
 ·exact absurd h h'
theorem x1t {s:Nat} {tgt:List Nat}:∀ (rs:List (Nat × Nat)) (all:List Nat),y3d all rs tgt→(∀r∈rs,r.1=s)→(s≤15→∀i,all.length≤i→i<tgt.length→tgt.getD i 0=s)∧(s=17∨s=18→∀i,all.length≤i→i<tgt.length→tgt.getD i 0=0)∧∀i,i<all.length→tgt.getD i 0=all.getD i 0
 | [],all,h,_=>by
  have e:all=tgt:=h
  subst e
  exact ⟨fun _ i h1 h2=>by omega,fun _ i h1 h2=>by omega,fun _ _=>rfl⟩
 | r :: rs,all,h,hs=>by
  obtain ⟨v,n,h1,h2⟩:=h
  have hr:=hs r (by simp)
  obtain ⟨i1,i2,i3⟩:=x1t rs (all++List.replicate n v) h2 (fun x hx=>hs x (by simp [hx]))
  rw [List.length_append,List.length_replicate] at i1 i2 i3
  have hnew:∀i,all.length≤i→i<all.length+n→tgt.getD i 0=v:=fun i a b=>by
   rw [i3 i b,List.getD_eq_getElem?_getD,List.getElem?_append_right a,List.getElem?_replicate,if_pos (by omega)]
   rfl
  refine ⟨fun h15 i a b=>?_,fun h17 i a b=>?_,fun i a=>?_⟩
  ·by_cases c:i<all.length+n
   ·rw [hnew i a c]
    rcases h1 with ⟨_,_,e,_⟩|⟨e,_⟩|⟨e,_⟩|⟨e,_⟩<;>omega
   ·exact i1 h15 i (by omega) b
  ·by_cases c:i<all.length+n
   ·rw [hnew i a c]
    rcases h1 with ⟨_,_,e,_⟩|⟨e,_⟩|⟨_,_,e,_⟩|⟨_,_,e,_⟩<;>omega
   ·exact i2 h17 i (by omega) b
  ·rw [i3 i (by omega),List.getD_eq_getElem?_getD,List.getElem?_append_left a,List.getD_eq_getElem?_getD]
theorem y8t {l:List Int} {v:Int} (h:∀i,i<l.length→l.getD i 0=v):z0v v l=l.length:=by
 induction l with
 | nil=>rfl
 | cons x r ih =>
  have h0:x=v:=by have:=h 0 (by simp);simpa using this
  unfold z0v
  rw [if_pos h0,ih (fun i hi=>by have:=h (i+1) (by simp;omega);simpa using this),List.length_cons]
  omega
theorem w2f (ls:List Nat) (h15:∀x∈ls,x≤15) (hlen:10≤ls.length) (j:Nat) (hj:j<ls.length) (hne:ls.getD j 0≠0) :
  ∃r∈(z3k (ls.map fun x:Nat=>(x:Int))).map nn,∃r'∈(z3k (ls.map fun x:Nat=>(x:Int))).map nn,r.1≠r'.1:=by
 have hto:=y6d ls h15
 obtain ⟨k,hk⟩:∃k,ls.length=k+2:=⟨ls.length-2,by omega⟩
 obtain ⟨rs,hrs⟩:∃rs,rs=(z3k (ls.map fun x:Nat=>(x:Int))).map nn:=⟨_,rfl⟩
 rw [←hrs] at hto ⊢
 have hunf:rs=nn ((z0z (ls.map fun x:Nat=>(x:Int)) 0).1,(z0z (ls.map fun x:Nat=>(x:Int)) 0).2.1) :: (z8z (ls.map fun x:Nat=>(x:Int)) (k+1) (0+(z0z (ls.map fun x:Nat=>(x:Int)) 0).2.2)).map nn:=by
  rw [hrs]
  unfold z3k
  rw [List.length_map,hk,z8z,if_pos (by rw [List.length_map];omega),List.map_cons]
 refine Classical.byContradiction fun hcon=>?_
 obtain ⟨s,hs⟩:∃s,s=(z0z (ls.map fun x:Nat=>(x:Int)) 0).1.toNat:=⟨_,rfl⟩
 have hall:∀r∈rs,r.1=s:=fun r hr=>Classical.byContradiction fun hn=>hcon ⟨r,hr,nn ((z0z (ls.map fun x:Nat=>(x:Int)) 0).1,(z0z (ls.map fun x:Nat=>(x:Int)) 0).2.1),by rw [hunf];simp,by rw [hs] at hn;exact hn⟩
 obtain ⟨a1,a2,_⟩:=x1t rs [] hto hall
 have hst:=x1y ls 0 (by omega) h15
 rw [←hs,List.take_zero] at hst
 by_cases h17:s=17∨s=18
 ·exact hne (a2 h17 j (Nat.zero_le _) hj)
 ·have hs15:s≤15:=by
   rcases hst with ⟨e,_⟩|⟨_,_,e,_⟩|⟨e,_⟩|⟨e,_⟩
   ·exact e
   ·exact absurd rfl e
   ·exact absurd (.inl e) h17
   ·exact absurd (.inr e) h17
  have hval:=a1 hs15
  have hs0:s≠0:=fun e=>hne (by rw [hval j (Nat.zero_le _) hj,e])
  have hn1:(z0z (ls.map fun x:Nat=>(x:Int)) 0).2.2=1:=by
   rcases hst with ⟨_,_,_,e⟩|⟨e,_⟩|⟨e,_⟩|⟨e,_⟩
   ·exact e
   ·omega
   ·omega
   ·omega
  have hI:∀i,i<ls.length→(ls.map fun x:Nat=>(x:Int)).getD i 0=(s:Int):=fun i hi=>by
   rw [List.getD_eq_getElem?_getD,List.getElem?_map,List.getElem?_eq_getElem hi]
   have:=hval i (Nat.zero_le _) hi
   rw [List.getD_eq_getElem?_getD,List.getElem?_eq_getElem hi] at this
   show ((ls[i]:Nat):Int)=(s:Int)
   have e:ls[i]=s:=this
   rw [e]
  have hcnt:z0v (s:Int) ((ls.map fun x:Nat=>(x:Int)).drop 1)=ls.length-1:=by
   rw [y8t,List.length_drop,List.length_map]
   intro i hi
   rw [List.length_drop,List.length_map] at hi
   have:=hI (1+i) (by omega)
   rw [List.getD_eq_getElem?_getD] at this ⊢
   rw [List.getElem?_drop]
   exact this
  have hstep1:(z0z (ls.map fun x:Nat=>(x:Int)) 1).1=16:=by
   unfold z0z
   rw [hI 1 (by omega),hcnt,if_neg (by omega),if_neg (by omega),if_pos ⟨by omega,by omega,by rw [hI 0 (by omega)],by omega⟩]
  have hmem:nn ((z0z (ls.map fun x:Nat=>(x:Int)) 1).1,(z0z (ls.map fun x:Nat=>(x:Int)) 1).2.1)∈rs:=by
   rw [hunf,hn1]
   refine List.mem_cons_of_mem _ ?_
   rw [z8z,if_pos (by rw [List.length_map];omega),List.map_cons]
   simp
  have:=hall _ hmem
  unfold nn at this
  rw [hstep1] at this
  have h16:s=16:=by rw [←this];rfl
  omega
def z5l (x0 y0 z:List Nat):Plan :=
 { x:=trim 257 286 x0,y:=trim 1 30 y0,z:=z,vs:=trim 4 19 (order.map fun j=>z.getD j 0),rs:=(z3k (((trim 257 286 x0)++(trim 1 30 y0)).map fun x:Nat=>(x:Int))).map nn }
def z6t (x0 y0:List Nat) (s:Nat):Nat:=(((z3k (((trim 257 286 x0)++(trim 1 30 y0)).map fun x:Nat=>(x:Int))).map nn).map Prod.fst).count s
theorem x0i {n k:Nat} {l:List Nat} (h:n≤l.length) (i:Nat):Canon.ln (trim n k l) i=Canon.ln l i:=(z5p n k l h).2.2 i
theorem w6d {l:List Nat} {i:Nat} (h:0<Canon.ln l i):i<l.length:=by
 unfold Canon.ln at h
 rcases Nat.lt_or_ge i l.length with h'|h'
 ·exact h'
 ·rw [List.getD_eq_getElem?_getD,List.getElem?_eq_none h'] at h;simp at h
theorem y6e (ls:List Nat) (h15:∀x∈ls,x≤15):∀r∈(z3k (ls.map fun x:Nat=>(x:Int))).map nn,r.1<19:=by
 have key:∀ (rs:List (Nat × Nat)) (all tgt:List Nat),y3d all rs tgt→∀r∈rs,r.1<19:=by
  intro rs
  induction rs with
  | nil=>intro all tgt _ r hr;simp at hr
  | cons a rs ih =>
   intro all tgt h r hr
   obtain ⟨v,n,h1,h2⟩:=h
   rw [List.mem_cons] at hr
   rcases hr with rfl|hr
   ·exact h1.pos.2
   ·exact ih _ _ h2 r hr
 exact key _ _ _ (y6d ls h15)
theorem x7r:∀j,j<19→order.getD (order.idxOf j) 0=j∧order.idxOf j<19:=by decide
theorem x7z {a b:Nat→Nat} {x0 y0 z:List Nat} (hx:LimOk a 15 286 x0) (hy:LimOk b 15 30 y0) (h256:0<a 256) (hz:LimOk (z6t x0 y0) 7 19 z) :
  (z5l x0 y0 z).ok∧Good (z5l x0 y0 z).x∧Good (z5l x0 y0 z).y∧(∀i,i<286→0<a i→i<(z5l x0 y0 z).x.length∧0<Canon.ln (z5l x0 y0 z).x i)∧(∀i,i<30→0<b i→i<(z5l x0 y0 z).y.length∧0<Canon.ln (z5l x0 y0 z).y i):=by
 obtain ⟨tx1,tx2,tx3⟩:=z5p 257 286 x0 (by rw [hx.len];decide)
 obtain ⟨ty1,ty2,ty3⟩:=z5p 1 30 y0 (by rw [hy.len];decide)
 rw [hx.len] at tx2
 rw [hy.len] at ty2
 have hxs:=z9h 257 286 x0 true
 have hys:=z9h 1 30 y0 true
 have h15:∀v∈trim 257 286 x0++trim 1 30 y0,v≤15:=fun v hv=>by
  rw [List.mem_append] at hv
  rcases hv with hv|hv
  ·exact hx.le v (z7t _ _ _ v hv)
  ·exact hy.le v (z7t _ _ _ v hv)
 have hl256:0<Canon.ln (trim 257 286 x0) 256:=by
  rw [x0i (by rw [hx.len];decide)]
  exact hx.pos 256 (by decide) h256
 have hcnt:∀r∈(z3k ((trim 257 286 x0++trim 1 30 y0).map fun x:Nat=>(x:Int))).map nn,0<z6t x0 y0 r.1:=fun r hr=>by
  unfold z6t
  exact List.count_pos_iff.2 (List.mem_map_of_mem hr)
 have hsym:=y6e _ h15
 have hol:(order.map fun j=>z.getD j 0).length=19:=by rw [List.length_map];rfl
 obtain ⟨tv1,tv2,tv3⟩:=z5p 4 19 (order.map fun j=>z.getD j 0) (by rw [hol];decide)
 rw [hol] at tv2
 refine ⟨⟨tx1,tx2,ty1,ty2,tv1,tv2,?_,?_,hz.good,?_,y6d _ h15,?_,?_,x5f (hxs.1 hx.loose),x5f (hys.1 hy.loose)⟩,hxs.2 hx.good,hys.2 hy.good,fun i hi ha=>?_,fun i hi hb=>?_⟩
 ·intro v hv
  have:=z7t _ _ _ v hv
  rw [List.mem_map] at this
  obtain ⟨j,_,rfl⟩:=this
  rw [List.getD_eq_getElem?_getD]
  cases hg:z[j]? with
  | none=>simp
  | some w=>have:=hz.le w (List.mem_of_getElem? hg);simp;omega
 ·show y9m (trim 4 19 (order.map fun j=>z.getD j 0))=z
  refine y1x (by rw [y0q,hz.len]) fun i hi=>?_
  rw [y0q] at hi
  unfold y9m
  rw [List.getD_eq_getElem?_getD,List.getElem?_map,List.getElem?_range hi]
  show (trim 4 19 (order.map fun j=>z.getD j 0)).getD (order.idxOf i) 0=z.getD i 0
  rw [tv3]
  obtain ⟨o1,o2⟩:=x7r i hi
  rw [List.getD_eq_getElem?_getD,List.getElem?_map]
  have e:order[order.idxOf i]?=some i:=by
   rw [List.getD_eq_getElem?_getD] at o1
   rw [List.getElem?_eq_getElem (show order.idxOf i<order.length from o2)] at o1 ⊢
   simp
  rw [e]
  rfl
 ·refine x5f (hz.full ?_)
  obtain ⟨r,hr,r',hr',hne⟩:=w2f _ h15 (by rw [List.length_append];omega) 256 (by rw [List.length_append];omega) (by
   rw [List.getD_eq_getElem?_getD,List.getElem?_append_left (by omega)]
   have:=hl256
   unfold Canon.ln at this
   rw [List.getD_eq_getElem?_getD] at this
   omega)
  exact ⟨r.1,r'.1,hsym r hr,hsym r' hr',hne,hcnt r hr,hcnt r' hr'⟩
 ·intro r hr
  exact hz.pos r.1 (hsym r hr) (hcnt r hr)
 ·show (trim 257 286 x0).getD 256 0≠0
  have:=hl256
  unfold Canon.ln at this
  omega
 ·have h:=hx.pos i hi ha
  rw [←x0i (n:=257) (k:=286) (by rw [hx.len];decide)] at h
  exact ⟨w6d h,h⟩
 ·have h:=hy.pos i hi hb
  rw [←x0i (n:=1) (k:=30) (by rw [hy.len];decide)] at h
  exact ⟨w6d h,h⟩
end Defl
namespace Defl
open Infl
def z0l (ts:List T) (s:Nat):Nat:=(if s=256 then 1 else 0)+(ts.map fun t=>if t.n=0 then t.b else symL t.n).count s
def z0i (ts:List T) (s:Nat):Nat:=((ts.filter fun t=>decide (t.n≠0)).map fun t=>symD t.d).count s
def Oks:List Nat→List T→Prop
 | _,[]=>True
 | out,t :: ts=>t.ok out∧Oks (t.ext out) ts
theorem Oks.each:∀{ts:List T} {out:List Nat},Oks out ts→∀t∈ts,t.n=0∧t.b<256∨3≤t.n∧t.n≤258∧1≤t.d∧t.d≤32768
 | [],_,_,t,h=>by simp at h
 | a :: ts,out,h,t,ht=>by
  rw [List.mem_cons] at ht
  rcases ht with rfl|ht
  ·rcases h.1 with h|⟨h1,h2,h3,h4,_⟩
   ·exact .inl h
   ·exact .inr ⟨h1,h2,h3,h4⟩
  ·exact h.2.each t ht
theorem y1s {t:T} (h:t.n=0∧t.b<256∨3≤t.n∧t.n≤258∧1≤t.d∧t.d≤32768):t.has z1b z1c:=by
 have hL:∀s,s<288→s<z1b.length∧0<Canon.ln z1b s:=by
  intro s hs
  refine ⟨by rw [z5r];exact hs,?_⟩
  unfold Canon.ln
  rw [z4l,List.getD_eq_getElem?_getD,List.getElem?_map,List.getElem?_range hs]
  show 0<fx s
  unfold fx
  split
  ·decide
  ·split<;>decide
 have hD:∀s,s<32→s<z1c.length∧0<Canon.ln z1c s:=by
  intro s hs
  refine ⟨by rw [z7g];exact hs,?_⟩
  unfold Canon.ln z1c
  rw [List.getD_eq_getElem?_getD,List.getElem?_replicate,if_pos hs]
  decide
 unfold T.has
 rcases h with ⟨h0,hb⟩|⟨h1,h2,h3,h4⟩
 ·rw [if_pos h0]
  exact hL _ (by omega)
 ·rw [if_neg (by omega)]
  have a:=z6z t.n h1 h2
  have b:=z6y t.d h3 h4
  exact ⟨hL _ (by omega),hD _ (by omega)⟩
theorem x2b {ts:List T} {out:List Nat} (hok:Oks out ts) {x y:List Nat} (hx:∀i,i<286→0<z0l ts i→i<x.length∧0<Canon.ln x i) (hy:∀i,i<30→0<z0i ts i→i<y.length∧0<Canon.ln y i):∀t∈ts,t.has x y:=by
 intro t ht
 have hm:∀s,s=(if t.n=0 then t.b else symL t.n)→0<z0l ts s:=fun s hs=>by
  unfold z0l
  have:0<(ts.map fun t=>if t.n=0 then t.b else symL t.n).count s:=List.count_pos_iff.2 (by rw [hs];exact List.mem_map_of_mem (f:=fun t:T=>if t.n=0 then t.b else symL t.n) ht)
  omega
 unfold T.has
 rcases hok.each t ht with ⟨h0,hb⟩|⟨h1,h2,h3,h4⟩
 ·rw [if_pos h0]
  exact hx t.b (by omega) (hm _ (by rw [if_pos h0]))
 ·have h0:t.n≠0:=by omega
  rw [if_neg h0]
  have a:=z6z t.n h1 h2
  have b:=z6y t.d h3 h4
  refine ⟨hx _ (by omega) (hm _ (by rw [if_neg h0])),hy _ (by omega) ?_⟩
  unfold z0i
  exact List.count_pos_iff.2 (List.mem_map_of_mem (f:=fun t:T=>symD t.d) (List.mem_filter.2 ⟨ht,by simpa using h0⟩))
def z8c (c:List Nat):List Bool:=(c.map fun b=>nb b 8).flatten
theorem z3m:∀c:List Nat,(z8c c).length=8*c.length
 | []=>rfl
 | v :: vs=>by
  have:=z3m vs
  unfold z8c at this ⊢
  rw [List.map_cons,List.flatten_cons,List.length_append,z0g,this,List.length_cons]
  omega
def pad (p:Nat):List Bool:=List.replicate ((p+7)/8*8-p) false
end Defl
namespace Defl
open Infl
def z1j (c:List Nat) (last p:Nat):List Bool:=head last 0++(pad (p+3)++(nb c.length 16++(nb (65535-c.length) 16++z8c c)))
def z1g (ts:List T) (last:Nat):List Bool:=head last 1++(z2h z1b z1c ts++wb z1b 256)
def z3a (d:List Nat × List Nat × List Nat) (ts:List T) (last:Nat):List Bool :=
 head last 2++((z5l d.1 d.2.1 d.2.2).bits++(z2h (z5l d.1 d.2.1 d.2.2).x (z5l d.1 d.2.1 d.2.2).y ts++wb (z5l d.1 d.2.1 d.2.2).x 256))
def z0x (A B:List Bool):List Bool:=if B.length<A.length then B else A
def pick (kind:Nat) (S F D:List Bool):List Bool:=if kind=1 then S else if kind=2 then F else if kind=3 then D else z0x (z0x S F) D
theorem y3n (A B:List Bool):z0x A B=A∨z0x A B=B:=by
 unfold z0x
 split
 ·exact .inr rfl
 ·exact .inl rfl
theorem y5u (kind:Nat) (S F D:List Bool):pick kind S F D=S∨pick kind S F D=F∨pick kind S F D=D:=by
 unfold pick
 by_cases h1:kind=1
 ·rw [if_pos h1];exact .inl rfl
 ·rw [if_neg h1]
  by_cases h2:kind=2
  ·rw [if_pos h2];exact .inr (.inl rfl)
  ·rw [if_neg h2]
   by_cases h3:kind=3
   ·rw [if_pos h3];exact .inr (.inr rfl)
   ·rw [if_neg h3]
    rcases y3n (z0x S F) D with e|e
    ·rw [e]
     rcases y3n S F with e|e
     ·exact .inl e
     ·exact .inr (.inl e)
    ·exact .inr (.inr e)
section
variable (zs:List Nat) (k kind:Nat) (tk:Nat→Nat→List T) (pl:List T→List Nat × List Nat × List Nat)
def ende (a:Nat):Nat:=min (a+k) zs.length
def lastOf (a:Nat):Nat:=if zs.length≤a+k then 1 else 0
def piece (a:Nat):List Nat:=(zs.take (ende zs k a)).drop a
def ownB (a p:Nat):List Bool:=pick kind (z1j (piece zs k a) (lastOf zs k a) p) (z1g (tk a (ende zs k a)) (lastOf zs k a)) (z3a (pl (tk a (ende zs k a))) (tk a (ende zs k a)) (lastOf zs k a))
def z6i:Nat→Nat→List Bool→List Bool
 | 0,_,B=>B
 | f+1,a,B=>if zs.length≤a+k then B++ownB zs k kind tk pl a B.length else z6i f (a+k) (B++ownB zs k kind tk pl a B.length)
variable {zs k kind tk pl}
end
end Defl
namespace Defl
open Infl
section
variable {zs:List Nat} {k:Nat} {tk:Nat→Nat→List T} {pl:List T→List Nat × List Nat × List Nat}
theorem y1e:∀ (c:List Nat) (i r:Nat),i<c.length→r<8→(z8c c).getD (8*i+r) false=(c.getD i 0).testBit r
 | [],i,r,h,_=>by simp at h
 | v :: vs,i,r,h,hr=>by
  have e:z8c (v :: vs)=nb v 8++z8c vs:=by unfold z8c;rw [List.map_cons,List.flatten_cons]
  rw [e]
  cases i with
  | zero =>
   rw [List.getD_eq_getElem?_getD,List.getElem?_append_left (by rw [z0g];omega)]
   simp [nb,hr]
  | succ i =>
   rw [List.getD_eq_getElem?_getD,List.getElem?_append_right (by rw [z0g];omega),z0g,show 8*(i+1)+r-8=8*i+r from by omega]
   have:=y1e vs i r (by simp at h;omega) hr
   rw [List.getD_eq_getElem?_getD] at this
   rw [this]
   rfl
end
end Defl
namespace W4
open Go.RowKit Mth Infl Defl
theorem z3s (v n:Nat):nb v n=Mth.bitsOf false v n:=by simp [nb,Mth.bitsOf,rk]
theorem x0k (ls:List Nat) (s:Nat):wb ls s=Mth.bitsOf true (Canon.wd ls s) (Canon.ln ls s):=by simp [wb,Mth.bitsOf,rk]
theorem w0a (c:List Nat):z8c c=ofBytes false c:=by
 refine List.ext_getElem (by rw [z3m,z7y]) fun i h1 h2=>?_
 have hl:=h1
 rw [z3m] at hl
 have e:=y1e c (i/8) (i%8) (by omega) (by omega)
 rw [show 8*(i/8)+i%8=i by omega] at e
 have e2:=y0p false c i hl
 rw [List.getD_eq_getElem?_getD,List.getElem?_eq_getElem h1] at e
 rw [List.getD_eq_getElem?_getD,List.getElem?_eq_getElem h2] at e2
 simp only [Option.getD_some] at e e2
 rw [e,e2]
 simp [z4y,rk]
def WrAt (w0:World) (v0:Value) (pb:Nat) (L:List Bool) (w:World):Prop:=∃v m f,WOk w pb false v m L f∧f≤7∧Chg pb v0 w0 v w
def Safe (w0:World) (v0:Value) (pb k:Nat):Prop:=k<w0.heap.size∧k≠pb∧v0.ownBlock≠some k
theorem WrAt.block {w0 w:World} {v0:Value} {pb:Nat} {L:List Bool} (h:WrAt w0 v0 pb L w) {k:Nat} (hk:Safe w0 v0 pb k):w.heap[k]?=w0.heap[k]?:=by
 obtain ⟨v,m,f,_,_,hc⟩:=h
 exact hc.keep k hk.1 hk.2.1 hk.2.2
theorem WrAt.cell {w0 w:World} {v0:Value} {pb:Nat} {L:List Bool} (h:WrAt w0 v0 pb L w) {p:Addr} (hk:Safe w0 v0 pb p.block) {u:Value} (hu:w0.cell? p=some u):w.cell? p=some u:=by
 simp only [World.cell?] at hu ⊢
 rw [h.block hk]
 exact hu
theorem WrAt.below {w0 w w':World} {v0:Value} {pb:Nat} {L:List Bool} (h:WrAt w0 v0 pb L w) (hb:Below w.heap.size w w'):WrAt w0 v0 pb L w':=by
 obtain ⟨v,m,f,h1,h2,h3⟩:=h
 exact ⟨v,m,f,h1.below hb,h2,h3.trans (Chg.of_below hb)⟩
theorem WrAt.size {w0 w:World} {v0:Value} {pb:Nat} {L:List Bool} (h:WrAt w0 v0 pb L w):w0.heap.size≤w.heap.size:=by
 obtain ⟨v,m,f,_,_,hc⟩:=h
 exact hc.size
theorem WrAt.put {w0 w:World} {v0:Value} {pb:Nat} {L:List Bool} (h:WrAt w0 v0 pb L w) (V n:Nat) (hn:n≤64) (hV:V<2^n) (hb:L.length+n≤1000000000000000) :
  Calls Tryz.prog 53 #[.pointer (some ⟨pb,0,none⟩),.int .u64 (V:Int),.int .i64 (n:Int)] w fun e w'=>e=.returned (.int .i64 0)∧WrAt w0 v0 pb (L++nb V n) w':=by
 obtain ⟨v,m,f,h1,h2,h3⟩:=h
 refine (w3g pb m f false v L (V:Int) (n:Int) w h1 h2 (by omega) (by omega) (by omega) (by simpa using hV) (by simpa using hb)).mono ?_
 rintro e w' ⟨rfl,v',m',f',k1,k2,k3⟩
 refine ⟨rfl,v',m',f',?_,k2,h3.trans k3⟩
 rw [z3s]
 simpa using k1
theorem WrAt.word {w0 w:World} {v0:Value} {pb:Nat} {L:List Bool} (h:WrAt w0 v0 pb L w) (ls:List Nat) (cp lo hi s:Nat) (hc:Code ls w cp lo hi) (hs:s<ls.length) (h0:0<Canon.ln ls s) (hb:L.length+20≤1000000000000000) :
  Calls Tryz.prog 110 #[.pointer (some ⟨cp,0,none⟩),.pointer (some ⟨pb,0,none⟩),.int .i64 (s:Int)] w fun e w'=>e=.returned (.int .i64 0)∧WrAt w0 v0 pb (L++wb ls s) w':=by
 obtain ⟨v,m,f,h1,h2,h3⟩:=h
 refine (w3x ls cp lo hi s pb m f false v L w hc hs h0 h1 h2 hb).mono ?_
 rintro e w' ⟨rfl,v',m',f',k1,k2,k3⟩
 refine ⟨rfl,v',m',f',?_,k2,h3.trans k3⟩
 rw [x0k]
 exact k1
theorem w6g {m f:Nat} {L:List Bool} (h:L.length+f=8*m) (hf:f≤7):pad L.length=List.replicate f false:=by
 unfold pad
 congr 1
 omega
theorem WrAt.align {w0 w:World} {v0:Value} {pb:Nat} {L:List Bool} (h:WrAt w0 v0 pb L w) :
  Calls Tryz.prog 52 #[.pointer (some ⟨pb,0,none⟩)] w fun e w'=>e=.returned (.int .i64 0)∧WrAt w0 v0 pb (L++pad L.length) w':=by
 obtain ⟨v,m,f,h1,h2,h3⟩:=h
 refine (x9n pb m f false v L w h1).mono ?_
 rintro e w' ⟨rfl,k1,k3⟩
 exact ⟨rfl,v,m,0,by rw [w6g h1.len h2];exact k1,by omega,h3.trans k3⟩
theorem y7x (pb m:Nat) (v0:Value) (L:List Bool) (w:World) (hw:WOk w pb false v0 m L 0) :
  Calls Tryz.prog 54 #[.pointer (some ⟨pb,0,none⟩),.slice none 0 0] w fun e w'=>e=.returned (.int .i64 0)∧WOk w' pb false v0 m L 0∧Chg pb v0 w v0 w':=by
 obtain ⟨i0,hi,hz0,hz1,hz2⟩:=info_parts info5
 obtain ⟨va,vl,vc,rfl⟩:=x1j hw.row
 have c0:=hw.c0
 have c2:=hw.c2
 have c3:=hw.c3
 have H:=qz hw
 have hfz:=hw.fz 2
 have HSET:Hid (WOk (w.setCell ⟨pb,2,none⟩ (.slice va vl vc)) pb false (.slice va vl vc) m L 0∧Chg pb (.slice va vl vc) w (.slice va vl vc) (w.setCell ⟨pb,2,none⟩ (.slice va vl vc))):=qz (by
  have:=hw.growBytes (w1:=w) (v':=.slice va vl vc) (zs:=[]) (by simp) (by simpa using hw.row) (World.grownBy.refl _ _) (.inl rfl)
  simpa [ofBytes] using this)
 clear hw
 go_enter Tryz.func54,Tryz.ntmps54
 go_wp2_with (first
  | (go_at_call 31;refine (z5z _ _ (by assumption)).mono ?_;rintro e w' ⟨rfl,rfl⟩)
  | (at_builtin;go_must (refine wpList_append_own_none rfl _ _ 22 rfl (pb+1) 5 i0 1 Tryz.underlying22 hi _ m _ (by rfl) (uh H).row (by rfl) ?_)))
 go_ret
 exact ⟨rfl,uh HSET⟩
theorem WrAt.bytes {w0 w:World} {v0:Value} {pb:Nat} {L:List Bool} (h:WrAt w0 v0 pb L w) (zs:List Nat) (a:Option Addr) (c:Nat) (hr:(a=none∧c=0∧zs=[])∨∃ad,a=some ad∧∀ (j:Nat) u,(zs.map bv)[j]?=some u→w.cell? (ad.add j)=some u) (hz:∀z∈zs,z<256) (hL:L.length%8=0) (hb:L.length+8*zs.length≤1000000000000000) :
  Calls Tryz.prog 54 #[.pointer (some ⟨pb,0,none⟩),.slice a zs.length c] w fun e w'=>e=.returned (.int .i64 0)∧WrAt w0 v0 pb (L++z8c zs) w':=by
 obtain ⟨v,m,f,h1,h2,h3⟩:=h
 have hl:=h1.len
 obtain rfl:f=0:=by omega
 rcases hr with ⟨rfl,rfl,rfl⟩|⟨ad,rfl,hc⟩
 ·refine (y7x pb m v L w h1).mono ?_
  rintro e w' ⟨rfl,k1,k3⟩
  exact ⟨rfl,v,m,0,by simpa [z8c] using k1,by omega,h3.trans k3⟩
 ·refine (y9o pb m false v L ad c zs w h1 hz hc (by omega)).mono ?_
  rintro e w' ⟨rfl,v',k1,k3⟩
  exact ⟨rfl,v',m+zs.length,0,by rw [w0a];exact k1,by omega,h3.trans k3⟩
theorem y4q (xb pb kind:Nat) (last:Bool) (w0 w:World) (v0:Value) (L:List Bool) (h:WrAt w0 v0 pb L w) (hx:Safe w0 v0 pb xb) (hc:w0.cell? ⟨xb,0,none⟩=some (.bool last)) (hk1:1≤kind) (hk2:kind≤3) (hb:L.length+3≤1000000000000000) :
  Calls Tryz.prog 51 #[.pointer (some ⟨xb,0,none⟩),.pointer (some ⟨pb,0,none⟩),.int .i64 (kind:Int)] w fun e w'=>e=.returned (.tuple #[])∧WrAt w0 v0 pb (L++head last.toNat (kind-1)) w':=by
 have c0:=h.cell (p:=⟨xb,0,none⟩) hx hc
 have HP:=qz (h.put last.toNat 1 (by omega) (by cases last<;>decide) (by omega))
 have HQ:Hid (∀w',WrAt w0 v0 pb (L++nb last.toNat 1) w'→Calls Tryz.prog 53 #[.pointer (some ⟨pb,0,none⟩),.int .u64 ((kind:Int)-1),.int .i64 2] w' fun e w''=>e=.returned (.int .i64 0)∧WrAt w0 v0 pb (L++head last.toNat (kind-1)) w''):=qz (fun w' hw'=>by
  have:=hw'.put (kind-1) 2 (by omega) (by omega) (by rw [List.length_append,z0g];omega)
  rw [show ((kind-1:Nat):Int)=(kind:Int)-1 by omega,List.append_assoc] at this
  exact this)
 have e1:(1:Int)≤(kind:Int):=by omega
 have e2:(kind:Int)≤3:=by omega
 clear h hb hc
 cases last with
 | true =>
  go_enter Tryz.func51,Tryz.ntmps51
  go_wp2_with fail
  refine (uh HP).mono ?_
  rintro e w1 ⟨rfl,h1⟩
  have H1:=qz h1
  clear h1
  go_wp2_with fail
  refine (uh HQ w1 (uh H1)).mono ?_
  rintro e w2 ⟨rfl,h2⟩
  have H2:=qz h2
  clear h2
  go_wp2_with fail
  go_end0
  exact ⟨rfl,uh H2⟩
 | false =>
  go_enter Tryz.func51,Tryz.ntmps51
  go_wp2_with fail
  refine (uh HP).mono ?_
  rintro e w1 ⟨rfl,h1⟩
  have H1:=qz h1
  clear h1
  go_wp2_with fail
  refine (uh HQ w1 (uh H1)).mono ?_
  rintro e w2 ⟨rfl,h2⟩
  have H2:=qz h2
  clear h2
  go_wp2_with fail
  go_end0
  exact ⟨rfl,uh H2⟩
def z3j (w:World) (xb:Nat) (last:Bool) (plain toks fx fy own:Value):Prop:=w.heap[xb]?=some (.cells #[.bool last,plain,toks,fx,fy,own] 65 (0,0))
theorem z3j.c {w:World} {xb:Nat} {last:Bool} {plain toks fx fy own:Value} (h:z3j w xb last plain toks fx fy own):w.cell? ⟨xb,0,none⟩=some (.bool last)∧w.cell? ⟨xb,1,none⟩=some plain∧w.cell? ⟨xb,2,none⟩=some toks∧w.cell? ⟨xb,3,none⟩=some fx∧w.cell? ⟨xb,4,none⟩=some fy∧w.cell? ⟨xb,5,none⟩=some own:=by
 unfold z3j at h
 simp [World.cell?,h]
def z0o (n at_:Nat):Nat:=3+((at_+3+7)/8*8-(at_+3))+32+8*n
theorem z8a (xb at_ n:Nat) (a:Option Addr) (c:Nat) (last:Bool) (toks fx fy own:Value) (w:World) (h:z3j w xb last (.slice a n c) toks fx fy own) (hn:n≤65535) (ha:at_≤1000000000000000) :
  Calls Tryz.prog 20 #[.pointer (some ⟨xb,0,none⟩),.int .i64 (at_:Int)] w fun e w'=>e=.returned (.int .i64 (z0o n at_:Int))∧w'=w:=by
 obtain ⟨c0,c1,_⟩:=h.c
 unfold z0o
 have e1:((3+((at_+3+7)/8*8-(at_+3))+32+8*n:Nat):Int)=3+((8-((at_:Int)+3)%8)%8)+32+8*(n:Int):=by omega
 rw [e1]
 clear h e1
 go_enter Tryz.func20,Tryz.ntmps20
 go_wp2_with fail
 go_ret
 refine ⟨?_,rfl⟩
 show Ending.returned (.int .i64 (3 + -(((at_:Int)+3)%8)%8+32+8*(n:Int)))=_
 congr 2
 omega
theorem z6f (c:List Nat) (last p:Nat):(z1j c last p).length=z0o c.length p:=by
 unfold z1j z0o
 simp only [List.length_append,head,z0g,pad,List.length_replicate,z3m]
 omega
theorem x0n (n:Nat) (h:n≤65535):Go.bits .xor .u64 (n:Int) 65535=((65535-n:Nat):Int):=by
 have e:=u64_xor_nat n 65535 (by omega) (by omega)
 have e2:n ^^^ 65535=65535-n:=by
  refine Nat.eq_of_testBit_eq fun i=>?_
  have h1:=Nat.testBit_two_pow_sub_succ (x:=n) (n:=16) (by omega) i
  have h2:=Nat.testBit_two_pow_sub_one 16 i
  rw [show 2^16-(n+1)=65535-n by omega] at h1
  rw [show 2^16-1=65535 by decide] at h2
  rw [Nat.testBit_xor,h1,h2]
  by_cases hi:i<16
  ·simp [hi]
  ·have:n.testBit i=false:=Nat.testBit_lt_two_pow (Nat.lt_of_lt_of_le (show n<2^16 by omega) (Nat.pow_le_pow_right (by decide) (by omega)))
   simp [hi,this]
 rw [←e2]
 exact e
theorem add_block (ad:Addr) (j:Nat):(ad.add j).block=ad.block:=by
 unfold Addr.add
 split<;>rfl
theorem y0s (xb pb:Nat) (zs:List Nat) (a:Option Addr) (c:Nat) (last:Bool) (toks fx fy own:Value) (w0 w:World) (v0:Value) (L:List Bool) (h:WrAt w0 v0 pb L w) (hx:Safe w0 v0 pb xb) (hc:z3j w0 xb last (.slice a zs.length c) toks fx fy own)
  (hr:(a=none∧c=0∧zs=[])∨∃ad,a=some ad∧(zs=[]∨Safe w0 v0 pb ad.block)∧∀ (j:Nat) u,(zs.map bv)[j]?=some u→w0.cell? (ad.add j)=some u) (hz:∀z∈zs,z<256) (hn:zs.length≤65535) (hb:L.length≤900000000000000) :
  Calls Tryz.prog 21 #[.pointer (some ⟨xb,0,none⟩),.pointer (some ⟨pb,0,none⟩)] w fun e w'=>e=.returned (.tuple #[])∧WrAt w0 v0 pb (L++z1j zs last.toNat L.length) w':=by
 obtain ⟨c0,c1,_⟩:=hc.c
 have HC1:Hid (∀L' w',WrAt w0 v0 pb L' w'→w'.cell? ⟨xb,1,none⟩=some (.slice a zs.length c)):=qz (fun L' w' h'=>h'.cell (p:=⟨xb,1,none⟩) hx c1)
 have HBG:=qz (y4q xb pb 1 last w0 w v0 L h hx c0 (by omega) (by omega) (by omega))
 have HXR:=x0n zs.length hn
 have HBY:Hid (∀L' w',WrAt w0 v0 pb L' w'→L'.length%8=0→L'.length≤990000000000000→Calls Tryz.prog 54 #[.pointer (some ⟨pb,0,none⟩),.slice a zs.length c] w' fun e w''=>e=.returned (.int .i64 0)∧WrAt w0 v0 pb (L'++z8c zs) w''):=qz (fun L' w' h' h8 hl=>by
  refine h'.bytes zs a c ?_ hz h8 (by omega)
  rcases hr with h1|⟨ad,h1,h2,h3⟩
  ·exact .inl h1
  ·exact .inr ⟨ad,h1,fun j u hj=>h'.cell (p:=ad.add j) (by
    rcases h2 with h2|h2
    ·rw [h2] at hj;simp at hj
    ·rw [add_block];exact h2) (h3 j u hj)⟩)
 obtain ⟨n,hn'⟩:∃n,n=zs.length:=⟨_,rfl⟩
 have HN:=qz hn'
 rw [←hn'] at hn HC1 HXR HBY
 clear h hc hr hz c0 c1 hn'
 go_enter Tryz.func21,Tryz.ntmps21
 go_wp2_with fail
 refine (uh HBG).mono ?_
 rintro e w1 ⟨rfl,h1⟩
 have H1:=qz h1
 clear h1 HBG
 go_wp2_with fail
 refine ((uh H1).align).mono ?_
 rintro e w2 ⟨rfl,h2⟩
 have c2:=uh HC1 _ _ h2
 have H2:=qz h2
 clear h2 H1
 have hp8:((L++head last.toNat (1-1))++pad (L++head last.toNat (1-1)).length).length%8=0∧((L++head last.toNat (1-1))++pad (L++head last.toNat (1-1)).length).length≤L.length+20:=by
  simp only [List.length_append,head,z0g,pad,List.length_replicate]
  omega
 have HEQ:Hid (((((L++head last.toNat (1-1))++pad (L++head last.toNat (1-1)).length)++nb n 16)++nb (65535-n) 16)++z8c zs=L++z1j zs last.toNat L.length):=qz (by
  unfold z1j
  rw [uh HN]
  have:(L++head last.toNat (1-1)).length=L.length+3:=by simp [head,z0g]
  rw [this]
  simp only [List.append_assoc])
 generalize ((L++head last.toNat (1-1))++pad (L++head last.toNat (1-1)).length)=L2 at H2 hp8 HEQ
 have HP1:=qz ((uh H2).put n 16 (by omega) (by omega) (by omega))
 clear H2
 go_wp2_with fail
 refine (uh HP1).mono ?_
 rintro e w3 ⟨rfl,h3⟩
 have HP2:=qz (h3.put (65535-n) 16 (by omega) (by omega) (by rw [List.length_append,z0g];omega))
 clear h3 HP1 c2
 go_wp2_with fail
 refine (uh HP2).mono ?_
 rintro e w4 ⟨rfl,h4⟩
 have c4:=uh HC1 _ _ h4
 have HP3:=qz (uh HBY _ _ h4 (by simp only [List.length_append,z0g];omega) (by simp only [List.length_append,z0g];omega))
 clear h4 HP2
 go_wp2_with fail
 refine (uh HP3).mono ?_
 rintro e w5 ⟨rfl,h5⟩
 rw [uh HEQ] at h5
 have H5:=qz h5
 clear h5 HP3
 go_wp2_with fail
 go_end0
 exact ⟨rfl,uh H5⟩
end W4
end Go.Proofs.YtabeanealkopbaaGreat
