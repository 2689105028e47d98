/- A part of the proof. -/
import Derived.Test.YtabeanealkopbaaGreatDtqH

set_option linter.unusedVariables false
set_option maxRecDepth 100000
set_option maxHeartbeats 24000000
namespace Go.Proofs.YtabeanealkopbaaGreat
namespace T6
open Go.RowKit Go.Lib
attribute [local go_sem ↓] wp_at_zero wp_at_succ
theorem z1p.has (zs ys:List Nat):∀k,∃r,z1p zs ys k r
 | 0=>⟨-1,.inl ⟨rfl,fun j h=>by omega⟩⟩
 | k+1=>by
  by_cases h:z2m zs ys k
  ·exact ⟨_,z1p.hit h⟩
  ·obtain ⟨r,hr⟩:=z1p.has zs ys k
   exact ⟨r,hr.step h⟩
theorem z1p.eq {zs ys:List Nat} {k:Nat} {r r':Int} (h:z1p zs ys k r) (h':z1p zs ys k r'):r=r':=by
 rcases h with ⟨e,h1⟩|⟨j,e,h1,h2,h3⟩<;>rcases h' with ⟨e',k1⟩|⟨j',e',k1,k2,k3⟩
 ·omega
 ·exact absurd k2 (h1 j' k1)
 ·exact absurd h2 (k1 j h1)
 ·rcases Nat.lt_trichotomy j j' with hl|hl|hl
  ·exact absurd k2 (h3 j' hl k1)
  ·omega
  ·exact absurd h2 (k3 j hl h1)
theorem z0m.drewN {B:Nat} {w:World} {v:Value} {zs:List Nat} (h:z0m B w v zs) (q:Nat):z0m B (w.drewN q) v zs:=h.stays ⟨rfl,rfl,rfl,Nat.le_refl _,fun _ _=>rfl⟩
theorem y7e (zs ys:List Nat) (b off c b2 off2 c2 B:Nat) (w:World) (hr:z0m B w (.slice (some ⟨b,off,none⟩) zs.length c) zs) (hr2:z0m B w (.slice (some ⟨b2,off2,none⟩) ys.length c2) ys) (hz:∀z∈zs,z<256) (hy:∀z∈ys,z<256)
  (h1:1≤ys.length) (h2:ys.length≤zs.length) (hl:zs.length≤140737488355328) (hcap:zs.length≤c) :
  ∃r:Int,z1p zs ys (zs.length-ys.length+1) r∧∀q,Calls Tryz.prog 124 #[.slice (some ⟨b,off,none⟩) zs.length c,.slice (some ⟨b2,off2,none⟩) ys.length c2] (w.drewN q) fun e w'=>e=.returned (.int .i64 r)∧∃m,w'=w.drewN m:=by
 obtain ⟨r,hr0⟩:=z1p.has zs ys (zs.length-ys.length+1)
 refine ⟨r,hr0,fun q=>(w1d zs ys b off c b2 off2 c2 B (w.drewN q) (hr.drewN q) (hr2.drewN q) hz hy h1 h2 hl hcap).mono ?_⟩
 rintro e w' ⟨r',rfl,h,q',rfl⟩
 obtain rfl:=hr0.eq h
 exact ⟨rfl,q+q',by rw [World.drewN_drewN]⟩
theorem z9l.eq {zs ys:List Nat} {r r':Int} (h:z9l zs ys r) (h':z9l zs ys r'):r=r':=by
 rcases h with ⟨e,h1⟩|⟨j,e,h1,h2,h3⟩<;>rcases h' with ⟨e',k1⟩|⟨j',e',k1,k2,k3⟩
 ·omega
 ·exact absurd k2 (h1 j' k1)
 ·exact absurd h2 (k1 j h1)
 ·rcases Nat.lt_trichotomy j j' with hl|hl|hl
  ·exact absurd h2 (k3 j hl)
  ·omega
  ·exact absurd k2 (h3 j' hl)
theorem x6p (zs ys:List Nat) (b off c b2 off2 c2 B:Nat) (w:World) (hr:z0m B w (.slice (some ⟨b,off,none⟩) zs.length c) zs) (hr2:z0m B w (.slice (some ⟨b2,off2,none⟩) ys.length c2) ys) (hz:∀z∈zs,z<256) (hy:∀z∈ys,z<256)
  (h1:1≤ys.length) (hl:zs.length<4294967281) (hly:ys.length≤140737488355328) (hcap:zs.length≤c) (hm:ML w) :
  ∃r:Int,z9l zs ys r∧∀q,Calls Tryz.prog 122 #[.slice (some ⟨b,off,none⟩) zs.length c,.slice (some ⟨b2,off2,none⟩) ys.length c2] (w.drewN q) fun e w'=>e=.returned (.int .i64 r)∧∃m,w'=w.drewN m:=by
 refine ⟨_,y4z hz hy h1,fun q=>(w0y zs ys b off c b2 off2 c2 B (w.drewN q) (hr.drewN q) (hr2.drewN q) hz hy h1 hl hly hcap (hm.drewN q)).mono ?_⟩
 rintro e w' ⟨r',rfl,h,q',rfl⟩
 obtain rfl:=(y4z hz hy h1).eq h
 exact ⟨rfl,q+q',by rw [World.drewN_drewN]⟩
structure SeekAt (z:Nat→Nat) (p m n pl:Nat):Prop where
 nle:n≤m
 ple:pl≤p
 has:0<n→∃x,x<p∧Same z p x n
 no:n<m→∀x,x<pl→¬Same z p x (n+1)
theorem SeekAt.start (z:Nat→Nat) (p m:Nat):SeekAt z p m 0 0:=⟨by omega,by omega,fun h=>by omega,fun _ x hx=>by omega⟩
theorem SeekAt.next {z:Nat→Nat} {p m n pl x n':Nat} (h:SeekAt z p m n pl) (hn:n<m) (hx1:pl≤x) (hx2:x<p) (hno:∀y,pl≤y→y<x→¬Same z p y (n+1)) (hs:Same z p x n') (hgt:n<n') (hle:n'≤m) (hne:n'<m→¬Same z p x (n'+1)):SeekAt z p m n' (x+1):=by
 refine ⟨hle,by omega,fun _=>⟨x,hx2,hs⟩,fun hlt y hy=>?_⟩
 by_cases e:y=x
 ·subst e;exact hne hlt
 ·by_cases hl:y<pl
  ·exact fun hc=>h.no hn y hl (hc.mono (by omega))
  ·exact fun hc=>hno y (by omega) (by omega) (hc.mono (by omega))
theorem SeekAt.best {z:Nat→Nat} {p m n pl j:Nat} (h:SeekAt z p m n pl) (hn:1≤n) (hall:n<m→∀x,x<p→¬Same z p x (n+1)) (hj:j<p) (hs:Same z p j n) (hlast:∀x,j<x→x<p→¬Same z p x n):IsBest z p p m n (p-j):=by
 refine ⟨h.nle,.inr ⟨hn,by omega,by omega,(z5m (by omega)).1 hs,fun d' h1 h2 he=>?_⟩,fun hlt d' h1 h2 he=>?_⟩
 ·have e:d'=p-(p-d'):=by omega
  rw [e] at he
  exact hlast (p-d') (by omega) (by omega) ((z5m (by omega)).2 he)
 ·have e:d'=p-(p-d'):=by omega
  rw [e] at he
  exact hall hlt (p-d') (by omega) ((z5m (by omega)).2 he)
theorem SeekAt.none {z:Nat→Nat} {p m pl:Nat} (h:SeekAt z p m 0 pl) (hall:0<m→∀x,x<p→¬Same z p x 1):IsBest z p p m 0 0:=by
 refine ⟨h.nle,.inl ⟨rfl,rfl⟩,fun hlt d' h1 h2 he=>?_⟩
 have e:d'=p-(p-d'):=by omega
 rw [e] at he
 exact hall hlt (p-d') (by omega) ((z5m (by omega)).2 he)
theorem z2t {zs:List Nat} {f l p k j:Nat} (hk:p+k≤zs.length) (hj:j+k≤l):z2m ((zs.drop f).take l) ((zs.drop p).take k) j↔Same (fun i=>zs.getD i 0) p (f+j) k:=by
 have hl:((zs.drop p).take k).length=k:=by simp;omega
 unfold z2m Same
 rw [hl]
 constructor
 ·intro h i hi
  have:=h i hi
  rw [z1f _ _ _ _ (show j+i<l by omega),z1f _ _ _ _ hi] at this
  show zs.getD (f+j+i) 0=zs.getD (p+i) 0
  rw [Nat.add_assoc]
  exact this
 ·intro h i hi
  have:zs.getD (f+j+i) 0=zs.getD (p+i) 0:=h i hi
  rw [z1f _ _ _ _ (show j+i<l by omega),z1f _ _ _ _ hi,←Nat.add_assoc]
  exact this
theorem x8w (zs:List Nat) (b off cap B p:Nat) (w:World) (hr:z0m B w (.slice (some ⟨b,off,none⟩) zs.length cap) zs) (hz:∀z∈zs,z<256) (hp:p<zs.length) (hl:zs.length<4294967281) (hcap:zs.length≤cap) (hm:ML w) :
  Calls Tryz.prog 95 #[.slice (some ⟨b,off,none⟩) zs.length cap,.int .i64 (p:Int)] w fun e w'=>∃n d:Nat,e=.returned (.tuple #[.int .i64 (n:Int),.int .i64 (d:Int)])∧IsBest (fun i=>zs.getD i 0) p p (zs.length-p) n d∧∃q,w'=w.drewN q:=by
 have HR:=qz hr
 have HZ:=qz hz
 have HML:=qz hm
 clear hr hz hm
 obtain ⟨L,hL⟩:∃L,L=zs.length:=⟨_,rfl⟩
 rw [←hL] at HR hp hl hcap ⊢
 have HL:=qz hL
 clear hL
 have HSUB:Hid (∀f k c',f+k≤L→k≤c'→z0m B w (.slice (some ⟨b,off+f,none⟩) k c') ((zs.drop f).take k)):=qz fun f k c' h1 h2=>by
  have h3:=uh HR
  rw [uh HL] at h3
  exact h3.sub rfl f k c' (by rw [←uh HL];exact h1) h2
 have HSM:Hid (∀f k,∀z∈(zs.drop f).take k,z<256):=qz fun f k z h=>uh HZ z (List.mem_of_mem_drop (List.mem_of_mem_take h))
 have HLEN:Hid (∀f k,f+k≤L→((zs.drop f).take k).length=k):=qz fun f k h=>by rw [uh HL] at h;simp;omega
 obtain ⟨m,hm⟩:∃m:Nat,m=L-p:=⟨_,rfl⟩
 rw [←hm]
 have hpm:p+m=L:=by omega
 have HPM:=qz hpm
 have hLp:L-p=m:=hm.symm
 have hcp:¬cap-p=0:=by omega
 have hpc:p≤cap:=by omega
 have hpL:p≤L:=by omega
 have hm0:0<m:=by omega
 clear hm hpm
 go_enter Tryz.func95,Tryz.ntmps95
 go_wp2_with fail
 go_loopg [4,7] (p+1) (fun gk vn vp ws=>∃ (n pl q:Nat),gk=p+1-pl∧n≤m∧pl≤p∧vn=.int .i64 (n:Int)∧vp=.int .i64 (pl:Int)∧Hid (SeekAt (fun i=>zs.getD i 0) p m n pl)∧ws=w.drewN q)
 case atStart=>exact ⟨0,0,0,by omega,by omega,by omega,rfl,rfl,qz (SeekAt.start _ _ _),rfl⟩
 case round =>
  obtain ⟨n,pl,q,rfl,hn,hpl,rfl,rfl,hat,rfl⟩:=hrel
  by_cases hnm:n<m
  ·have hni:(n:Int)<(m:Int):=by omega
   obtain ⟨E,hE⟩:∃E:Nat,(p:Int)+(n:Int)=(E:Int):=⟨p+n,by omega⟩
   obtain ⟨T,hT⟩:∃T:Nat,E-pl=T:=⟨_,rfl⟩
   have hEL:E≤L:=by have:=uh HPM;omega
   have hplE:pl≤E:=by omega
   have hEc:E≤cap:=by omega
   have hplc:¬cap-pl=0:=by omega
   have hcpl:¬cap=pl:=by omega
   obtain ⟨n1,hn1⟩:∃n1:Nat,(n:Int)+1=(n1:Int):=⟨n+1,by omega⟩
   have hn1c:n1≤cap-p:=by have:=uh HPM;omega
   obtain ⟨r,hf,hcall⟩:=x6p ((zs.drop pl).take T) ((zs.drop p).take n1) b (off+pl) (cap-pl) b (off+p) (cap-p) B (w.drewN q) (by rw [uh HLEN pl T (by omega)];exact (uh HSUB pl T _ (by omega) (by omega)).drewN q) (by rw [uh HLEN p n1 (by have:=uh HPM;omega)];exact (uh HSUB p n1 _ (by have:=uh HPM;omega) hn1c).drewN q) (uh HSM pl T) (uh HSM p n1) (by rw [uh HLEN p n1 (by have:=uh HPM;omega)];omega) (by rw [uh HLEN pl T (by omega)];omega) (by rw [uh HLEN p n1 (by have:=uh HPM;omega)];omega) (by rw [uh HLEN pl T (by omega)];omega) ((uh HML).drewN q)
   rw [uh HLEN pl T (by omega),uh HLEN p n1 (by have:=uh HPM;omega)] at hcall
   have HCALL:=qz hcall
   have HF:Hid ((r = -1∧∀x,pl≤x→x<p→¬Same (fun i=>zs.getD i 0) p x (n+1))∨∃x:Nat,(pl:Int)+r=(x:Int)∧¬r<0∧pl≤x∧x<p∧Same (fun i=>zs.getD i 0) p x (n+1)∧∀y,pl≤y→y<x→¬Same (fun i=>zs.getD i 0) p y (n+1)):=qz (by
    have hn1':n1=n+1:=by omega
    have hpn:p+n1≤zs.length:=by rw [←uh HL];have:=uh HPM;omega
    rcases hf with ⟨e,h1⟩|⟨j,e,h1,h2,h3⟩
    ·refine .inl ⟨e,fun x hx1 hx2 hs=>?_⟩
     have hj:(x-pl)+n1≤T:=by omega
     refine h1 (x-pl) (by rw [uh HLEN pl T (by omega),uh HLEN p n1 (by have:=uh HPM;omega)];exact hj) ((z2t hpn hj).2 ?_)
     rw [show pl+(x-pl)=x by omega,hn1']
     exact hs
    ·rw [uh HLEN pl T (by omega),uh HLEN p n1 (by have:=uh HPM;omega)] at h1
     refine .inr ⟨pl+j,by omega,by omega,by omega,by omega,?_,fun y hy1 hy2 hs=>?_⟩
     ·have:=(z2t hpn h1).1 h2
      rw [hn1'] at this
      exact this
     ·have hj:(y-pl)+n1≤T:=by omega
      refine h3 (y-pl) (by omega) ((z2t hpn hj).2 ?_)
      rw [show pl+(y-pl)=y by omega,hn1']
      exact hs)
   have hwE:IntKind.i64.wrap (E:Int)=(E:Int):=IntWalk.i64_in _ (by omega)
   have hwn1:IntKind.i64.wrap (n1:Int)=(n1:Int):=IntWalk.i64_in _ (by omega)
   obtain ⟨wq,hwq⟩:∃wq,wq=w.drewN q:=⟨_,rfl⟩
   rw [←hwq] at HCALL
   clear hf hcall
   go_wp2_with fail
   rw [←hwq]
   have HWQ0:=qz hwq
   clear hwq
   go_quiet (first|(go_at_call 122;exact uh HCALL _))
   have HWQ:Hid (wq.drewN nq=w.drewN (q+nq)):=qz (by rw [uh HWQ0,World.drewN_drewN])
   rw [uh HWQ]
   clear HCALL HWQ HWQ0
   rcases uh HF with ⟨rfl,hno⟩|⟨x,hx1,hr0,hx2,hx3,hx4,hx5⟩
   ·have HALL:Hid (n<m→∀x,x<p→¬Same (fun i=>zs.getD i 0) p x (n+1)):=qz fun _ x hx=>by
     by_cases h:x<pl
     ·exact (uh hat).no hnm x h
     ·exact hno x (by omega) hx
    clear HF hno
    obtain ⟨QQ,hQQ⟩:∃QQ,QQ=q+nq:=⟨_,rfl⟩
    rw [←hQQ]
    clear hQQ hE hT hn1
    by_cases hn0:n=0
    ·have HB:Hid (IsBest (fun i=>zs.getD i 0) p p m 0 0):=qz (by
      have h1:=uh hat
      have h2:=uh HALL
      rw [hn0] at h1 h2
      exact h1.none h2)
     subst hn0
     clear hat HALL
     go_wp2_with fail
     go_ret2
     exact ⟨0,0,rfl,uh HB,QQ,rfl⟩
    ·have hn0b:((n:Int) == 0)=false:=by simp;omega
     obtain ⟨E2,hE2⟩:∃E2:Nat,(p:Int)+(n:Int)-1=(E2:Int):=⟨p+n-1,by omega⟩
     obtain ⟨pn,hpn⟩:∃pn:Nat,(p:Int)+(n:Int)=(pn:Int):=⟨p+n,by omega⟩
     have hE3:(pn:Int)-1=(E2:Int):=by omega
     obtain ⟨x0,hx0,hs0⟩:=(uh hat).has (by omega)
     have hE2L:E2≤L:=by have:=uh HPM;omega
     have hE2c:E2≤cap:=by omega
     have hnc:n≤cap-p:=by have:=uh HPM;omega
     have hpnL:p+n≤L:=by have:=uh HPM;omega
     obtain ⟨r2,hf2,hcall2⟩:=y7e ((zs.drop 0).take E2) ((zs.drop p).take n) b off cap b (off+p) (cap-p) B (w.drewN QQ) (by rw [uh HLEN 0 E2 (by omega)];exact (uh HSUB 0 E2 _ (by omega) hE2c).drewN QQ) (by rw [uh HLEN p n hpnL];exact (uh HSUB p n _ hpnL hnc).drewN QQ) (uh HSM 0 E2) (uh HSM p n) (by rw [uh HLEN p n hpnL];omega) (by rw [uh HLEN 0 E2 (by omega),uh HLEN p n hpnL];omega) (by rw [uh HLEN 0 E2 (by omega)];omega) (by rw [uh HLEN 0 E2 (by omega)];exact hE2c)
     rw [uh HLEN 0 E2 (by omega),uh HLEN p n hpnL] at hf2 hcall2
     have hk:E2-n+1=p:=by omega
     rw [hk] at hf2
     have hzl:p+n≤zs.length:=by rw [←uh HL];exact hpnL
     have HR2:Hid (∃j:Nat,r2=(j:Int)∧j<p∧IsBest (fun i=>zs.getD i 0) p p m n (p-j)):=qz (by
      rcases hf2 with ⟨_,h1⟩|⟨j,e,h1,h2,h3⟩
      ·exact absurd ((z2t (f:=0) (l:=E2) hzl (show x0+n≤E2 by omega)).2 (by rw [Nat.zero_add];exact hs0)) (h1 x0 hx0)
      ·have hj:=(z2t (f:=0) (l:=E2) hzl (show j+n≤E2 by omega)).1 h2
       rw [Nat.zero_add] at hj
       refine ⟨j,e,h1,(uh hat).best (by omega) (uh HALL) h1 hj fun x hx1 hx2 hs=>?_⟩
       exact h3 x hx1 hx2 ((z2t (f:=0) (l:=E2) hzl (show x+n≤E2 by omega)).2 (by rw [Nat.zero_add];exact hs)))
     have HC2:=qz hcall2
     have hwp:IntKind.i64.wrap (pn:Int)=(pn:Int):=IntWalk.i64_in _ (by omega)
     have hwe:IntKind.i64.wrap (E2:Int)=(E2:Int):=IntWalk.i64_in _ (by omega)
     obtain ⟨j,hj1,hj2,hj3⟩:=uh HR2
     subst hj1
     obtain ⟨dd,hdd⟩:∃dd:Nat,(p:Int)-(j:Int)=(dd:Int):=⟨p-j,by omega⟩
     have hwd:IntKind.i64.wrap (dd:Int)=(dd:Int):=IntWalk.i64_in _ (by omega)
     have HB:Hid (IsBest (fun i=>zs.getD i 0) p p m n dd):=qz (by rw [show dd=p-j by omega];exact hj3)
     obtain ⟨wq2,hwq2⟩:∃wq2,wq2=w.drewN QQ:=⟨_,rfl⟩
     rw [←hwq2] at HC2
     clear hat HALL hf2 hcall2 hs0 hx0 hj3 HR2 hk hzl hE2
     go_upto_region 11 with fail
     rw [←hwq2]
     have HWQ2:=qz hwq2
     clear hwq2
     go_quiet (first|(go_at_call 124;exact uh HC2 _))
     go_wp2_with fail
     go_ret2
     exact ⟨n,dd,rfl,uh HB,QQ+nq,by rw [uh HWQ2,World.drewN_drewN]⟩
   ·have hxc:¬cap-x=0:=by omega
    have hxcc:¬cap=x:=by omega
    have hxL:x≤L:=by omega
    have hxcap:x≤cap:=by omega
    have HCM:=qz (y6r ((zs.drop x).take (L-x)) ((zs.drop p).take m) (.slice (some ⟨b,off+x,none⟩) (L-x) (cap-x)) (.slice (some ⟨b,off+p,none⟩) m (cap-p)) B B (w.drewN (q+nq)) ((uh HSUB x (L-x) _ (by omega) (by omega)).drewN _) ((uh HSUB p m _ (by have:=uh HPM;omega) (by have:=uh HPM;omega)).drewN _) (by rw [uh HLEN x (L-x) (by omega)];omega))
    have HNX:Hid (∀n',IsCommon ((zs.drop x).take (L-x)) ((zs.drop p).take m) n'→n'≤m∧SeekAt (fun i=>zs.getD i 0) p m n' (x+1)):=qz fun n' hc=>by
     have l1:=hc.l1
     have l2:=hc.l2
     rw [uh HLEN x (L-x) (by omega)] at l1
     rw [uh HLEN p m (by have:=uh HPM;omega)] at l2
     have hs:Same (fun i=>zs.getD i 0) p x n':=fun i hi=>by
      have:=hc.eq i hi
      rw [z1f _ _ _ _ (show i<L-x by omega),z1f _ _ _ _ (show i<m by omega)] at this
      exact this
     have hne:n'<m→zs.getD (x+n') 0≠zs.getD (p+n') 0:=fun h=>by
      have hxl:n'<L-x:=by have:=uh HPM;omega
      have:=hc.ne (by rw [uh HLEN x (L-x) (by omega)];exact hxl) (by rw [uh HLEN p m (by have:=uh HPM;omega)];exact h)
      rw [z1f _ _ _ _ hxl,z1f _ _ _ _ h] at this
      exact this
     refine ⟨l2,(uh hat).next hnm hx2 hx3 hx5 hs ?_ l2 fun h hc'=>hne h (hc' n' (by omega))⟩
     refine Classical.byContradiction fun hlt=>?_
     exact hne (by omega) (hx4 n' (by omega))
    obtain ⟨QQ,hQQ⟩:∃QQ,QQ=q+nq:=⟨_,rfl⟩
    rw [←hQQ] at HCM ⊢
    clear HF hx4 hx5 hE hT hn1 hat hQQ
    go_wp2_with fail
    refine (uh HCM).mono ?_
    rintro e w' ⟨n',rfl,hcom,q3,rfl⟩
    obtain ⟨hn'm,hat2⟩:=uh HNX n' hcom
    have HAT2:=qz hat2
    clear HCM HNX hcom hat2
    go_wp2_with fail
    go_roundg (p+1-(x+1))
    case measure=>omega
    case rel=>exact ⟨n',x+1,QQ+q3,rfl,hn'm,by omega,rfl,by go_num,HAT2,by first|rfl|(rw [World.drewN_drewN])⟩
  ·have hni:¬ (n:Int)<(m:Int):=by omega
   have HALL:Hid (n<m→∀x,x<p→¬Same (fun i=>zs.getD i 0) p x (n+1)):=qz fun h=>absurd h hnm
   obtain ⟨QQ,hQQ⟩:∃QQ,QQ=q:=⟨_,rfl⟩
   rw [←hQQ]
   clear hQQ
   by_cases hn0:n=0
   ·exfalso;omega
   ·have hn0b:((n:Int) == 0)=false:=by simp;omega
    obtain ⟨E2,hE2⟩:∃E2:Nat,(p:Int)+(n:Int)-1=(E2:Int):=⟨p+n-1,by omega⟩
    obtain ⟨pn,hpn⟩:∃pn:Nat,(p:Int)+(n:Int)=(pn:Int):=⟨p+n,by omega⟩
    have hE3:(pn:Int)-1=(E2:Int):=by omega
    obtain ⟨x0,hx0,hs0⟩:=(uh hat).has (by omega)
    have hE2L:E2≤L:=by have:=uh HPM;omega
    have hE2c:E2≤cap:=by omega
    have hnc:n≤cap-p:=by have:=uh HPM;omega
    have hpnL:p+n≤L:=by have:=uh HPM;omega
    obtain ⟨r2,hf2,hcall2⟩:=y7e ((zs.drop 0).take E2) ((zs.drop p).take n) b off cap b (off+p) (cap-p) B (w.drewN QQ) (by rw [uh HLEN 0 E2 (by omega)];exact (uh HSUB 0 E2 _ (by omega) hE2c).drewN QQ) (by rw [uh HLEN p n hpnL];exact (uh HSUB p n _ hpnL hnc).drewN QQ) (uh HSM 0 E2) (uh HSM p n) (by rw [uh HLEN p n hpnL];omega) (by rw [uh HLEN 0 E2 (by omega),uh HLEN p n hpnL];omega) (by rw [uh HLEN 0 E2 (by omega)];omega) (by rw [uh HLEN 0 E2 (by omega)];exact hE2c)
    rw [uh HLEN 0 E2 (by omega),uh HLEN p n hpnL] at hf2 hcall2
    have hk:E2-n+1=p:=by omega
    rw [hk] at hf2
    have hzl:p+n≤zs.length:=by rw [←uh HL];exact hpnL
    have HR2:Hid (∃j:Nat,r2=(j:Int)∧j<p∧IsBest (fun i=>zs.getD i 0) p p m n (p-j)):=qz (by
     rcases hf2 with ⟨_,h1⟩|⟨j,e,h1,h2,h3⟩
     ·exact absurd ((z2t (f:=0) (l:=E2) hzl (show x0+n≤E2 by omega)).2 (by rw [Nat.zero_add];exact hs0)) (h1 x0 hx0)
     ·have hj:=(z2t (f:=0) (l:=E2) hzl (show j+n≤E2 by omega)).1 h2
      rw [Nat.zero_add] at hj
      refine ⟨j,e,h1,(uh hat).best (by omega) (uh HALL) h1 hj fun x hx1 hx2 hs=>?_⟩
      exact h3 x hx1 hx2 ((z2t (f:=0) (l:=E2) hzl (show x+n≤E2 by omega)).2 (by rw [Nat.zero_add];exact hs)))
    have HC2:=qz hcall2
    have hwp:IntKind.i64.wrap (pn:Int)=(pn:Int):=IntWalk.i64_in _ (by omega)
    have hwe:IntKind.i64.wrap (E2:Int)=(E2:Int):=IntWalk.i64_in _ (by omega)
    obtain ⟨j,hj1,hj2,hj3⟩:=uh HR2
    subst hj1
    obtain ⟨dd,hdd⟩:∃dd:Nat,(p:Int)-(j:Int)=(dd:Int):=⟨p-j,by omega⟩
    have hwd:IntKind.i64.wrap (dd:Int)=(dd:Int):=IntWalk.i64_in _ (by omega)
    have HB:Hid (IsBest (fun i=>zs.getD i 0) p p m n dd):=qz (by rw [show dd=p-j by omega];exact hj3)
    obtain ⟨wq2,hwq2⟩:∃wq2,wq2=w.drewN QQ:=⟨_,rfl⟩
    rw [←hwq2] at HC2
    clear hat HALL hf2 hcall2 hs0 hx0 hj3 HR2 hk hzl hE2
    go_upto_region 11 with fail
    rw [←hwq2]
    have HWQ2:=qz hwq2
    clear hwq2
    go_quiet (first|(go_at_call 124;exact uh HC2 _))
    go_wp2_with fail
    go_ret2
    exact ⟨n,dd,rfl,uh HB,QQ+nq,by rw [uh HWQ2,World.drewN_drewN]⟩
end T6
namespace T6
open Go.RowKit Go.Lib
attribute [local go_sem ↓] wp_at_zero wp_at_succ
theorem x4x (z:Nat→Nat) (p w:Nat):IsBest z p w 0 0 0:=⟨Nat.le_refl _,.inl ⟨rfl,rfl⟩,fun h=>by omega⟩
theorem w2g (a:Option Addr) (p:Nat) (w:World) (hp:p≤140737488355328) (ha:a=none→p=0) :
  Calls Tryz.prog 95 #[.slice a p p,.int .i64 (p:Int)] w fun e w'=>e=.returned (.tuple #[.int .i64 0,.int .i64 0])∧w'=w:=by
 cases a with
 | none =>
  obtain rfl:=ha rfl
  go_enter Tryz.func95,Tryz.ntmps95
  go_wp2_with fail
  go_loopg [4,7] 0 (fun gk vn vp ws=>gk=0∧vn=.int .i64 0∧vp=.int .i64 0∧w=ws)
  case atStart=>exact ⟨rfl,rfl,rfl,rfl⟩
  case round =>
   obtain ⟨-,rfl,rfl,rfl⟩:=hrel
   go_wp2_with fail
   go_ret2
   exact ⟨rfl,rfl⟩
 | some x =>
  go_enter Tryz.func95,Tryz.ntmps95
  go_wp2_with fail
  go_loopg [4,7] 0 (fun gk vn vp ws=>gk=0∧vn=.int .i64 0∧vp=.int .i64 0∧w=ws)
  case atStart=>exact ⟨rfl,rfl,rfl,rfl⟩
  case round =>
   obtain ⟨-,rfl,rfl,rfl⟩:=hrel
   go_wp2_with fail
   go_ret2
   exact ⟨rfl,rfl⟩
theorem w5a (zs:List Nat) (a:Option Addr) (B p:Nat) (w:World) (hr:z0m B w (.slice a zs.length zs.length) zs) (hz:∀z∈zs,z<256) (hp:p≤zs.length) (hl:zs.length<4294967281) (hm:ML w) :
  Calls Tryz.prog 95 #[.slice a zs.length zs.length,.int .i64 (p:Int)] w fun e w'=>∃n d:Nat,e=.returned (.tuple #[.int .i64 (n:Int),.int .i64 (d:Int)])∧IsBest (fun i=>zs.getD i 0) p p (zs.length-p) n d∧∃q,w'=w.drewN q:=by
 obtain ⟨a',c',e,_,hs⟩:=id hr
 injection e with e1 e2 e3
 subst e1
 by_cases h:p<zs.length
 ·obtain ⟨b,off,rfl,_⟩:=hs (by omega)
  exact x8w zs b off zs.length B p w hr hz h hl (Nat.le_refl _) hm
 ·have e:zs.length=p:=by omega
  rw [e] at hs ⊢
  refine (w2g a p w (by omega) (fun h=>?_)).mono ?_
  ·rcases Nat.eq_zero_or_pos p with h0|h0
   ·exact h0
   ·obtain ⟨b,off,e,_⟩:=hs h0
    rw [h] at e
    cases e
  ·rintro e w' ⟨rfl,rfl⟩
   exact ⟨0,0,rfl,by rw [Nat.sub_self];exact x4x _ _ _,0,rfl⟩
end T6
namespace T6
open Go.RowKit Go.Maps
attribute [local go_sem ↓] wp_at_zero wp_at_succ
theorem IsCommon.eq' {xs ys:List Nat} {n m:Nat} (h:IsCommon xs ys n) (k:IsCommon xs ys m):n=m:=by
 have key:∀{a b:Nat},IsCommon xs ys a→IsCommon xs ys b→¬a<b:=fun {a b} ha hb hlt=>ha.ne (by have:=hb.l1;omega) (by have:=hb.l2;omega) (hb.eq a hlt)
 have h1:=key h k
 have h2:=key k h
 omega
theorem IsCommon.has:∀xs ys:List Nat,∃n,IsCommon xs ys n
 | [],ys=>⟨0,by simp,by simp,fun i h=>by omega,fun h=>by simp at h⟩
 | x :: xs,[]=>⟨0,by simp,by simp,fun i h=>by omega,fun _ h=>by simp at h⟩
 | x :: xs,y :: ys=>by
  by_cases e:x=y
  ·obtain ⟨n,h1,h2,h3,h4⟩:=IsCommon.has xs ys
   refine ⟨n+1,by simp;omega,by simp;omega,fun i hi=>?_,fun k1 k2=>?_⟩
   ·match i,hi with
    | 0,_=>simpa using e
    | i+1,hi=>simpa using h3 i (by omega)
   ·simpa using h4 (by simpa using k1) (by simpa using k2)
  ·exact ⟨0,by simp,by simp,fun i h=>by omega,fun _ _=>by simpa using e⟩
theorem x2r (xs ys:List Nat) (v u:Value) (B B':Nat) (w:World) (h1:z0m B w v xs) (h2:z0m B' w u ys) (hl:xs.length≤140737488355328) :
  ∃c:Nat,IsCommon xs ys c∧∀q,Calls Tryz.prog 123 #[v,u] (w.drewN q) fun e w'=>e=.returned (.int .i64 (c:Int))∧∃m,w'=w.drewN m:=by
 obtain ⟨c,hc⟩:=IsCommon.has xs ys
 refine ⟨c,hc,fun q=>(y6r xs ys v u B B' (w.drewN q) (h1.drewN q) (h2.drewN q) hl).mono ?_⟩
 rintro e w' ⟨n,rfl,hn,q',rfl⟩
 obtain rfl:=hn.eq' hc
 exact ⟨rfl,q+q',by rw [World.drewN_drewN]⟩
structure WB (H:Nat) (tx pc:Value) (p M:Nat) (left:Int) (n d:Nat) (w:World):Prop where
 b1:w.heap[H+1]?=some (.cells #[.int .i64 (p:Int)] 3 (0,0))
 b2:w.heap[H+2]?=some (.cells #[.int .i64 (M:Int)] 3 (0,0))
 b3:w.heap[H+3]?=some (.cells #[.int .i64 (n:Int)] 3 (0,0))
 b4:w.heap[H+4]?=some (.cells #[.int .i64 (d:Int)] 3 (0,0))
 b5:w.heap[H+5]?=some (.cells #[tx] 22 (0,0))
 b6:w.heap[H+6]?=some (.cells #[pc] 22 (0,0))
 b7:w.heap[H+7]?=some (.cells #[.int .i64 left] 3 (0,0))
section
variable {H:Nat} {tx pc:Value} {p M:Nat} {left:Int} {n d:Nat} {w:World}
theorem WB.c1 (h:WB H tx pc p M left n d w):w.cell? ⟨H+1,0,none⟩=some (.int .i64 (p:Int)):=by simp [World.cell?,h.b1]
theorem WB.c2 (h:WB H tx pc p M left n d w):w.cell? ⟨H+2,0,none⟩=some (.int .i64 (M:Int)):=by simp [World.cell?,h.b2]
theorem WB.c3 (h:WB H tx pc p M left n d w):w.cell? ⟨H+3,0,none⟩=some (.int .i64 (n:Int)):=by simp [World.cell?,h.b3]
theorem WB.c4 (h:WB H tx pc p M left n d w):w.cell? ⟨H+4,0,none⟩=some (.int .i64 (d:Int)):=by simp [World.cell?,h.b4]
theorem WB.c5 (h:WB H tx pc p M left n d w):w.cell? ⟨H+5,0,none⟩=some tx:=by simp [World.cell?,h.b5]
theorem WB.c6 (h:WB H tx pc p M left n d w):w.cell? ⟨H+6,0,none⟩=some pc:=by simp [World.cell?,h.b6]
theorem WB.c7 (h:WB H tx pc p M left n d w):w.cell? ⟨H+7,0,none⟩=some (.int .i64 left):=by simp [World.cell?,h.b7]
theorem WB.f3 (h:WB H tx pc p M left n d w):w.frozen? ⟨H+3,0,none⟩=false:=by simp [World.frozen?,h.b3]
theorem WB.f4 (h:WB H tx pc p M left n d w):w.frozen? ⟨H+4,0,none⟩=false:=by simp [World.frozen?,h.b4]
theorem WB.f7 (h:WB H tx pc p M left n d w):w.frozen? ⟨H+7,0,none⟩=false:=by simp [World.frozen?,h.b7]
theorem WB.same {y:World} (h:WB H tx pc p M left n d w) (e:y.heap=w.heap):WB H tx pc p M left n d y:=by
 obtain ⟨h1,h2,h3,h4,h5,h6,h7⟩:=h
 rw [←e] at h1 h2 h3 h4 h5 h6 h7
 exact ⟨h1,h2,h3,h4,h5,h6,h7⟩
theorem WB.left' (h:WB H tx pc p M left n d w) (l:Int):WB H tx pc p M l n d (w.setCell ⟨H+7,0,none⟩ (.int .i64 l)):=by
 have o:∀k,k≠H+7→(w.setCell ⟨H+7,0,none⟩ (.int .i64 l)).heap[k]?=w.heap[k]?:=fun k hk=>heap_setCell_other _ _ _ _ (by exact hk)
 exact ⟨by rw [o _ (by omega)];exact h.b1,by rw [o _ (by omega)];exact h.b2,by rw [o _ (by omega)];exact h.b3,by rw [o _ (by omega)];exact h.b4,by rw [o _ (by omega)];exact h.b5,by rw [o _ (by omega)];exact h.b6,by rw [heap_setCell_same w (H+7) 0 _ 3 _ h.b7];rfl⟩
theorem WB.len' (h:WB H tx pc p M left n d w) (l:Nat):WB H tx pc p M left l d (w.setCell ⟨H+3,0,none⟩ (.int .i64 (l:Int))):=by
 have o:∀k,k≠H+3→(w.setCell ⟨H+3,0,none⟩ (.int .i64 (l:Int))).heap[k]?=w.heap[k]?:=fun k hk=>heap_setCell_other _ _ _ _ (by exact hk)
 exact ⟨by rw [o _ (by omega)];exact h.b1,by rw [o _ (by omega)];exact h.b2,by rw [heap_setCell_same w (H+3) 0 _ 3 _ h.b3];rfl,by rw [o _ (by omega)];exact h.b4,by rw [o _ (by omega)];exact h.b5,by rw [o _ (by omega)];exact h.b6,by rw [o _ (by omega)];exact h.b7⟩
theorem WB.dist' (h:WB H tx pc p M left n d w) (l:Nat):WB H tx pc p M left n l (w.setCell ⟨H+4,0,none⟩ (.int .i64 (l:Int))):=by
 have o:∀k,k≠H+4→(w.setCell ⟨H+4,0,none⟩ (.int .i64 (l:Int))).heap[k]?=w.heap[k]?:=fun k hk=>heap_setCell_other _ _ _ _ (by exact hk)
 exact ⟨by rw [o _ (by omega)];exact h.b1,by rw [o _ (by omega)];exact h.b2,by rw [o _ (by omega)];exact h.b3,by rw [heap_setCell_same w (H+4) 0 _ 3 _ h.b4];rfl,by rw [o _ (by omega)];exact h.b5,by rw [o _ (by omega)];exact h.b6,by rw [o _ (by omega)];exact h.b7⟩
end
structure WKeep (H:Nat) (w w':World):Prop where
 os:w'.os=w.os
 tape:w'.tape=w.tape
 output:w'.output=w.output
 size:w.heap.size≤w'.heap.size
 kp:∀x:Nat,x<w.heap.size→x≠H+3→x≠H+4→x≠H+7→w'.heap[x]?=w.heap[x]?
theorem WKeep.refl (H:Nat) (w:World):WKeep H w w:=⟨rfl,rfl,rfl,Nat.le_refl _,fun _ _ _ _ _=>rfl⟩
theorem WKeep.trans {H:Nat} {x y z:World} (h:WKeep H x y) (k:WKeep H y z):WKeep H x z :=
 ⟨k.os.trans h.os,k.tape.trans h.tape,k.output.trans h.output,Nat.le_trans h.size k.size,fun i hi e1 e2 e3=>by rw [k.kp i (by have:=h.size;omega) e1 e2 e3,h.kp i hi e1 e2 e3]⟩
theorem WKeep.drewN {H:Nat} {x y:World} (h:WKeep H x y) (q:Nat):WKeep H x (y.drewN q):=⟨h.os,h.tape,h.output,h.size,h.kp⟩
theorem WKeep.drew {H:Nat} {x y:World} (h:WKeep H x y):WKeep H x y.drew:=⟨h.os,h.tape,h.output,h.size,h.kp⟩
theorem WKeep.set {H:Nat} {x y:World} (h:WKeep H x y) {k:Nat} (hk:k=H+3∨k=H+4∨k=H+7) (u:Value):WKeep H x (y.setCell ⟨k,0,none⟩ u) :=
 ⟨h.os,h.tape,h.output,by simpa using h.size,fun i hi e1 e2 e3=>by rw [heap_setCell_other _ _ _ _ (by show i≠k;omega),h.kp i hi e1 e2 e3]⟩
def z9n (zs:List Nat) (p M x n d:Nat) (left:Int) (n' d':Nat) (left':Int):Prop :=
 (zs.getD (x+n) 0≠zs.getD (p+n) 0∧n'=n∧d'=d∧left'=left-1) ∨
 (zs.getD (x+n) 0=zs.getD (p+n) 0∧∃c:Nat,IsCommon (zs.drop x) ((zs.drop p).take M) c∧left'=left-1-c∧((n<c∧n'=c∧d'=p-x)∨(c≤n∧n'=n∧d'=d)))
def w3p (zs:List Nat) (H:Nat) (tx pc:Value) (p M x n d:Nat) (left:Int) (w:World) (e:Ending) (w':World):Prop :=
 ∃ (r:Bool) (n' d':Nat) (left':Int),e=.returned (.bool r)∧WB H tx pc p M left' n' d' w'∧z9n zs p M x n d left n' d' left'∧((r=true∧n'<M∧0<left')∨(r=false∧(¬n'<M∨left'≤0)))∧WKeep H w w'
theorem w2q (zs:List Nat) (H B ba off cap p M x n d:Nat) (left:Int) (w:World) (hr:z0m B w (.slice (some ⟨ba,off,none⟩) zs.length cap) zs) (hcap:zs.length≤cap) (hl:zs.length≤100000000) (hp:p+M≤zs.length) (hx:x<p) (hn:n<M) (hBH:B≤H) (hHw:H≤w.heap.size) (hleft : -100000000≤left∧left≤100000000)
  (hb:WB H (.slice (some ⟨ba,off,none⟩) zs.length cap) (.slice (some ⟨ba,off+p,none⟩) M M) p M left n d w) :
  Calls Tryz.prog 128 #[.int .i64 (x:Int),.pointer (some ⟨H+7,0,none⟩),.pointer (some ⟨H+5,0,none⟩),.pointer (some ⟨H+3,0,none⟩),.pointer (some ⟨H+6,0,none⟩),.pointer (some ⟨H+1,0,none⟩),.pointer (some ⟨H+4,0,none⟩),.pointer (some ⟨H+2,0,none⟩)] w fun e w'=>w3p zs H (.slice (some ⟨ba,off,none⟩) zs.length cap) (.slice (some ⟨ba,off+p,none⟩) M M) p M x n d left w e w':=by
 have c7:=hb.c7
 have f7:=hb.f7
 obtain ⟨l1,hl1⟩:∃l1:Int,left-1=l1:=⟨_,rfl⟩
 have hwl:IntKind.i64.wrap l1=l1:=IntWalk.i64_in _ (by omega)
 have HB1:=qz (hb.left' l1)
 have HR:=qz hr
 clear hb hr
 obtain ⟨L,hL⟩:∃L,L=zs.length:=⟨_,rfl⟩
 rw [←hL] at HB1 HR hcap hl hp ⊢
 have HL:=qz hL
 clear hL
 go_enter Tryz.func128,Tryz.ntmps128
 go_upto_region 2 with fail
 obtain ⟨W1,hW1⟩:∃W1,W1=w.setCell ⟨H+7,0,none⟩ (.int .i64 l1):=⟨_,rfl⟩
 rw [←hW1] at HB1 ⊢
 have HWK1:Hid (WKeep H w W1):=qz (by rw [hW1];exact (WKeep.refl H w).set (.inr (.inr rfl)) _)
 have hr1:z0m B W1 (.slice (some ⟨ba,off,none⟩) zs.length cap) zs:=by
  have h1:=uh HR
  rw [uh HL] at h1
  refine h1.stays ⟨(uh HWK1).os,(uh HWK1).tape,(uh HWK1).output,(uh HWK1).size,fun k hk=>(uh HWK1).kp k (by omega) (by omega) (by omega) (by omega)⟩
 clear hW1 c7 f7 HR
 have c2:=(uh HB1).c2
 have c3:=(uh HB1).c3
 have c5:=(uh HB1).c5
 have c6:=(uh HB1).c6
 obtain ⟨xn,hxn⟩:∃xn:Nat,(x:Int)+(n:Int)=(xn:Int):=⟨x+n,by omega⟩
 have hwx:IntKind.i64.wrap (xn:Int)=(xn:Int):=IntWalk.i64_in _ (by omega)
 have hxL:(xn:Int)<(L:Int):=by omega
 have hnM:(n:Int)<(M:Int):=by omega
 have hrc:∀j,j<zs.length→W1.cell? ⟨ba,off+j,none⟩=some (.int .u8 (zs.getD j 0:Int)):=by
  obtain ⟨a',c',e,_,hs⟩:=hr1
  injection e with e1 e2 e3
  obtain ⟨b',off',e,_,hc⟩:=hs (by rw [←uh HL];omega)
  rw [←e1] at e
  injection e with e
  injection e with e1 e2
  subst e1 e2
  exact hc
 have k1:=hrc xn (by rw [←uh HL];omega)
 have k2:=hrc (p+n) (by rw [←uh HL];omega)
 rw [←Nat.add_assoc] at k2
 obtain ⟨y1,hy1⟩:∃y1,y1=zs.getD xn 0:=⟨_,rfl⟩
 obtain ⟨y2,hy2⟩:∃y2,y2=zs.getD (p+n) 0:=⟨_,rfl⟩
 rw [←hy1] at k1
 rw [←hy2] at k2
 have HY1:Hid (zs.getD (x+n) 0=y1):=qz (by rw [hy1];congr 1;omega)
 have HY2:Hid (zs.getD (p+n) 0=y2):=qz hy2.symm
 clear hy1 hy2 hrc
 by_cases hyy:y1=y2
 ·have e1:((y1:Int) == (y2:Int))=true:=by simp [hyy]
  have e1':(y1 == y2)=true:=by simp [hyy]
  have HRD:=qz hr1
  clear hr1 hyy
  go_quiet (fail)
  obtain ⟨W2,hW2⟩:∃W2,W2=W1.drewN nq:=⟨_,rfl⟩
  rw [←hW2]
  have hb2:WB H (.slice (some ⟨ba,off,none⟩) L cap) (.slice (some ⟨ba,off+p,none⟩) M M) p M l1 n d W2:=by rw [hW2];exact (uh HB1).same rfl
  have hr1:z0m B W2 (.slice (some ⟨ba,off,none⟩) zs.length cap) zs:=by rw [hW2];exact (uh HRD).drewN _
  have HWK2:Hid (WKeep H w W2):=qz (by rw [hW2];exact (uh HWK1).drewN _)
  clear hW2 HRD HWK1 HB1 c2 c3 c5 c6 k1 k2
  obtain ⟨c,hc,hcall⟩:=x2r (zs.drop x) ((zs.drop p).take M) (.slice (some ⟨ba,off+x,none⟩) (L-x) (cap-x)) (.slice (some ⟨ba,off+p,none⟩) M M) B B W2 (by
    have h1:=hr1.sub rfl x (zs.length-x) (cap-x) (by rw [←uh HL];omega) (by rw [←uh HL];omega)
    rw [List.take_of_length_le (by simp),←uh HL] at h1
    exact h1) (hr1.sub rfl p M M (by rw [←uh HL];exact hp) (Nat.le_refl _)) (by simp;rw [←uh HL];omega)
  have hcM:c≤M:=by have:=hc.l2;simp at this;omega
  have HCALL:=qz hcall
  have HC:=qz hc
  have hcx:¬cap-x=0:=by omega
  have hcx2:¬cap=x:=by omega
  have hxc:x≤cap:=by omega
  have hxL2:x≤L:=by omega
  have HB2:=qz hb2
  have c2:=hb2.c2
  have c3:=hb2.c3
  have c5:=hb2.c5
  have c6:=hb2.c6
  have c7:=hb2.c7
  clear hc hcall hr1 hb2
  go_upto_region 3 with fail
  go_quiet (first|(go_at_call 123;exact uh HCALL _))
  obtain ⟨W3,hW3⟩:∃W3,W3=W2.drewN nq:=⟨_,rfl⟩
  rw [←hW3]
  have hb3:WB H (.slice (some ⟨ba,off,none⟩) L cap) (.slice (some ⟨ba,off+p,none⟩) M M) p M l1 n d W3:=by rw [hW3];exact (uh HB2).same rfl
  have HWK3:Hid (WKeep H w W3):=qz (by rw [hW3];exact (uh HWK2).drewN _)
  clear hW3 HWK2 HB2 c2 c3 c5 c6 c7 HCALL
  obtain ⟨l2,hl2⟩:∃l2:Int,l1-(c:Int)=l2:=⟨_,rfl⟩
  have hb4:=hb3.left' l2
  have HWK4:=qz ((uh HWK3).set (.inr (.inr rfl)) (.int .i64 (l2)))
  have c7:=hb3.c7
  have f7:=hb3.f7
  have hw2:IntKind.i64.wrap l2=l2:=IntWalk.i64_in _ (by omega)
  have HL2:Hid (l2=left-1-(c:Int)):=qz (by omega)
  clear hb3
  go_upto_region 5 with fail
  obtain ⟨W4,hW4⟩:∃W4,W4=W3.setCell ⟨H+7,0,none⟩ (.int .i64 (l2)):=⟨_,rfl⟩
  rw [←hW4] at hb4 HWK4 ⊢
  clear hW4 HWK3 c7 f7
  have c1:=hb4.c1
  have c2:=hb4.c2
  have c3:=hb4.c3
  have c4:=hb4.c4
  have c7:=hb4.c7
  have f3:=hb4.f3
  have f4:=hb4.f4
  by_cases hnc:n<c
  ·have hnci:(n:Int)<(c:Int):=by omega
   obtain ⟨dd,hdd⟩:∃dd:Nat,(p:Int)-(x:Int)=(dd:Int):=⟨p-x,by omega⟩
   have hwd:IntKind.i64.wrap (dd:Int)=(dd:Int):=IntWalk.i64_in _ (by omega)
   have HW:Hid (z9n zs p M x n d left c dd (l2)):=qz (.inr ⟨by rw [uh HY1,uh HY2];simpa using e1',c,uh HC,uh HL2,.inl ⟨hnc,rfl,by omega⟩⟩)
   have HB4a:=qz (hb4.same (y:=W4.drew) rfl)
   have HB4b:=qz ((uh HB4a).len' c)
   have HB5:=qz ((uh HB4b).dist' dd)
   have HWK5:=qz ((((uh HWK4).drew).set (.inl rfl) (.int .i64 (c:Int))).set (.inr (.inl rfl)) (.int .i64 (dd:Int)))
   clear hb4 HC
   go_upto_region 6 with fail
   refine wp_region_noPanic ?_
   refine wp_region_held_drew (S:=fun y=>y.cell? ⟨H+1,0,none⟩=some (.int .i64 (p:Int))) (by kernel_rfl) c1 (fun hHeld=>?_)
   refine hT 0 35 rfl rfl hHeld nPp (v:=?_) (fun x' hSx=>?_) ?_
   rotate_left 1
   ·go_simp<;>with_reducible rfl
   simp only [sA,sB]
   refine hT 1 36 rfl rfl hHeld nPp (v:=?_) (fun x' hSx=>?_) ?_
   rotate_left 1
   ·go_simp<;>with_reducible rfl
   simp only [sA,sB]
   refine hT 2 37 rfl rfl hHeld nPp (v:=?_) (fun x' hSx=>?_) ?_
   rotate_left 1
   ·go_simp<;>with_reducible rfl
   simp only [sA,sB]
   refine hT 3 38 rfl rfl hHeld nPp (v:=?_) (fun x' hSx=>?_) ?_
   rotate_left 1
   ·go_simp<;>with_reducible rfl
   simp only [sA,sB]
   refine hKk 4 rfl rfl (w':=(W4.drew.setCell ⟨H+3,0,none⟩ (.int .i64 (c:Int)))) ?_ ((uh HB4b).c1) ?_
   ·(have q1:=(uh HB4a).c3;have q2:=(uh HB4a).f3;go_simp)
   refine hKk 5 rfl rfl (w':=((W4.drew.setCell ⟨H+3,0,none⟩ (.int .i64 (c:Int))).setCell ⟨H+4,0,none⟩ (.int .i64 (dd:Int)))) ?_ ((uh HB5).c1) ?_
   ·(have q1:=(uh HB4b).c4;have q2:=(uh HB4b).f4;go_simp)
   refine dN ?_
   go_upto_region 7 with fail
   obtain ⟨W5,hW5⟩:∃W5,W5=(W4.drew.setCell ⟨H+3,0,none⟩ (.int .i64 (c:Int))).setCell ⟨H+4,0,none⟩ (.int .i64 (dd:Int)):=⟨_,rfl⟩
   rw [←hW5] at HB5 HWK5 ⊢
   clear hW5 HWK4 HB4a HB4b c1 c2 c3 c4 c7 f3 f4 hHeld
   have c2:=(uh HB5).c2
   have c3:=(uh HB5).c3
   have c7:=(uh HB5).c7
   by_cases h1:c<M
   ·have h1i:(c:Int)<(M:Int):=by omega
    by_cases h2:0<l2
    ·go_wp2_with fail
     go_ret
     exact ⟨true,c,dd,l2,rfl,uh HB5,uh HW,.inl ⟨rfl,h1,h2⟩,uh HWK5⟩
    ·go_wp2_with fail
     go_ret
     exact ⟨false,c,dd,l2,rfl,uh HB5,uh HW,.inr ⟨rfl,.inr (by omega)⟩,uh HWK5⟩
   ·have h1i:¬ (c:Int)<(M:Int):=by omega
    go_wp2_with fail
    go_ret
    exact ⟨false,c,dd,l2,rfl,uh HB5,uh HW,.inr ⟨rfl,.inl h1⟩,uh HWK5⟩
  ·have hnci:¬ (n:Int)<(c:Int):=by omega
   have HW:Hid (z9n zs p M x n d left n d (l2)):=qz (.inr ⟨by rw [uh HY1,uh HY2];simpa using e1',c,uh HC,uh HL2,.inr ⟨by omega,rfl,rfl⟩⟩)
   have HB5:=qz hb4
   clear hb4 HC
   go_upto_region 7 with fail
   by_cases h2:0<l2
   ·go_wp2_with fail
    go_ret
    exact ⟨true,n,d,l2,rfl,uh HB5,uh HW,.inl ⟨rfl,hn,h2⟩,uh HWK4⟩
   ·go_wp2_with fail
    go_ret
    exact ⟨false,n,d,l2,rfl,uh HB5,uh HW,.inr ⟨rfl,.inr (by omega)⟩,uh HWK4⟩
 ·have e1:((y1:Int) == (y2:Int))=false:=by simp;omega
  have e1':(y1 == y2)=false:=by simp [hyy]
  have HW:Hid (z9n zs p M x n d left n d l1):=qz (.inl ⟨by rw [uh HY1,uh HY2];exact hyy,rfl,rfl,hl1.symm⟩)
  clear hr1
  go_quiet (fail)
  obtain ⟨W2,hW2⟩:∃W2,W2=W1.drewN nq:=⟨_,rfl⟩
  rw [←hW2]
  have HB2:Hid (WB H (.slice (some ⟨ba,off,none⟩) L cap) (.slice (some ⟨ba,off+p,none⟩) M M) p M l1 n d W2):=qz (by rw [hW2];exact (uh HB1).same rfl)
  have HWK2:Hid (WKeep H w W2):=qz (by rw [hW2];exact (uh HWK1).drewN _)
  clear hW2 HWK1 HB1 c2 c3 c5 c6 k1 k2
  have c2:=(uh HB2).c2
  have c3:=(uh HB2).c3
  have c7:=(uh HB2).c7
  by_cases h2:0<l1
  ·go_wp2_with fail
   go_ret
   exact ⟨true,n,d,l1,rfl,uh HB2,uh HW,.inl ⟨rfl,hn,h2⟩,uh HWK2⟩
  ·go_wp2_with fail
   go_ret
   exact ⟨false,n,d,l1,rfl,uh HB2,uh HW,.inr ⟨rfl,.inr (by omega)⟩,uh HWK2⟩
end T6
namespace T6
open Go.RowKit Go.Maps
attribute [local go_sem ↓] wp_at_zero wp_at_succ
theorem getD_drop (zs:List Nat) (x i:Nat):(zs.drop x).getD i 0=zs.getD (x+i) 0:=by
 simp [List.getD_eq_getElem?_getD]
theorem y8w {zs:List Nat} {p x M c:Nat} (hp:p+M≤zs.length) (hx:x<p) (h:IsCommon (zs.drop x) ((zs.drop p).take M) c):c≤M∧Same (zf zs) p x c∧(c<M→¬Same (zf zs) p x (c+1)):=by
 have hc:c≤M:=by have:=h.l2;simp at this;omega
 refine ⟨hc,fun i hi=>?_,fun hlt hs=>?_⟩
 ·have:=h.eq i hi
  rw [getD_drop,z1f _ _ _ _ (by omega)] at this
  exact this
 ·have h1:=h.ne (by simp;omega) (by simp;omega)
  rw [getD_drop,z1f _ _ _ _ hlt] at h1
  exact h1 (hs c (by omega))
theorem x2o {zs:List Nat} (hz:∀c∈zs,c<256) {p f M s n d x n' d' c':Nat} {left left':Int} (hp:p+M≤zs.length) (hs1:1≤s) (hsM:s≤M) (hfx:f≤x) (hx:Same (zf zs) p x s) (hn:n<M)
  (h:ChainAt (zf zs) p f M s n d (x+1)) (hw:z9n zs p M x n d left n' d' left') (hc':c'=lastOf zs s x (z1o zs s p)):ChainAt (zf zs) p f M s n' d' c'∧s≤n'∧left'≤left∧left-1-M≤left':=by
 have hxp:x<p:=by have:=h.cle;omega
 have hcx:c'≤x:=by rw [hc'];exact z5b _ _ _ _
 have hno:=y3i hz (show p+s≤zs.length by omega) (by omega) hc'
 rcases hw with ⟨h1,rfl,rfl,rfl⟩|⟨h1,c,hcm,rfl,hr⟩
 ·have hsn:s≤n':=by
   refine Classical.byContradiction fun hc=>h1 ?_
   exact hx n' (by omega)
  exact ⟨h.skip hcx (fun hs=>h1 (hs n' (by omega))) hno,hsn,by omega,by omega⟩
 ·obtain ⟨k1,k2,k3⟩:=y8w hp hxp hcm
  have hsc:s≤c:=by
   refine Classical.byContradiction fun hc=>?_
   exact k3 (by omega) (hx.mono (by omega))
  rcases hr with ⟨r1,rfl,rfl⟩|⟨r1,rfl,rfl⟩
  ·exact ⟨h.better hn hs1 hsM hcx hfx hx hno k2 k1 k3 r1,hsc,by omega,by omega⟩
  ·exact ⟨h.skip hcx (fun hs=>k3 (by omega) (hs.mono (by omega))) hno,by omega,by omega,by omega⟩
theorem w2d {w:World} {B m:Nat} {v:Value} {zs:List Nat} {s:Nat} (h:w.ownsRow B 3 1 v m ((befs zs s m).map iv)) {x:Nat} (hx:x<m):∃g c,v=.slice (some ⟨g,0,none⟩) m c∧v.ownBlock=some g∧w.cell? ⟨g,x,none⟩=some (.int .i64 ((lastOf zs s x (z1o zs s x):Nat):Int)):=by
 rcases h.2 with ⟨e,e'⟩|⟨g,cap,cur,e,_,hh,_,_,_,ht⟩
 ·omega
 ·refine ⟨g,cap,e,by rw [e];rfl,?_⟩
  have h2:(cur.toList.take (m*1))[x]?=((befs zs s m).map iv)[x]?:=by rw [ht]
  rw [List.getElem?_take,if_pos (by omega),List.getElem?_map,w0b zs s m x hx] at h2
  simp only [World.cell?,hh]
  simpa [iv] using h2
def x4n (zs:List Nat) (H:Nat) (tx pc:Value) (p f M:Nat) (w:World) (e:Ending) (w':World):Prop :=
 ∃ (n d:Nat) (left:Int),e=.returned (.tuple #[])∧WB H tx pc p M left n d w'∧WKeep H w w'∧((n<M∧left≤0)∨IsBest (zf zs) p (p-f) M n d)∧n≤M
theorem w4d (zs:List Nat) (H B ba off cap p f M s b c0:Nat) (v:Value) (w:World) (hr:z0m B w (.slice (some ⟨ba,off,none⟩) zs.length cap) zs) (hcap:zs.length≤cap) (hz:∀c∈zs,c<256) (hl:zs.length≤100000000) (hp:p+M≤zs.length) (hs1:1≤s) (hsM:s≤M) (hBH:B≤H) (hHw:H≤w.heap.size)
  (hlv:LvlAt zs s p B w H 0 b v) (hv:∀q,v.ownBlock=some q→q<H) (hc0:c0=lastOf zs s p (z1o zs s p)) (hf:f<c0)
  (hb:WB H (.slice (some ⟨ba,off,none⟩) zs.length cap) (.slice (some ⟨ba,off+p,none⟩) M M) p M ((p:Int)-(f:Int)) 0 0 w) :
  Calls Tryz.prog 129 #[.pointer (some ⟨H,0,none⟩),.int .i64 ((c0:Int)-1),.int .i64 (f:Int),.func (.func 128) #[] #[.pointer (some ⟨H+7,0,none⟩),.pointer (some ⟨H+5,0,none⟩),.pointer (some ⟨H+3,0,none⟩),.pointer (some ⟨H+6,0,none⟩),.pointer (some ⟨H+1,0,none⟩),.pointer (some ⟨H+4,0,none⟩),.pointer (some ⟨H+2,0,none⟩)]] w fun e w' =>
   x4n zs H (.slice (some ⟨ba,off,none⟩) zs.length cap) (.slice (some ⟨ba,off+p,none⟩) M M) p f M w e w':=by
 have hc0p:c0≤p:=by rw [hc0];exact z5b _ _ _ _
 have HST:Hid (ChainAt (zf zs) p f M s 0 0 c0):=qz (ChainAt.start hc0p (y3i hz (by omega) (Nat.le_refl _) hc0))
 have HHIT:Hid (∀x,lastOf zs s p (z1o zs s p)=x+1→Same (zf zs) p x s∧z1o zs s x=z1o zs s p):=qz fun x hx=>⟨(y6o hz (by omega) (Nat.le_refl _) hx).2,(z7j _ _ _ _ _ hx).2⟩
 have HHIT2:Hid (∀y x,y≤p→lastOf zs s y (z1o zs s p)=x+1→Same (zf zs) p x s∧z1o zs s x=z1o zs s p):=qz fun y x hy hx=>⟨(y6o hz (by omega) hy hx).2,(z7j _ _ _ _ _ hx).2⟩
 have HR:=qz hr
 have HZ:=qz hz
 have HLV:=qz hlv
 have HV:=qz hv
 have HB:=qz hb
 clear hr hz hlv hv hb
 obtain ⟨tx,htx⟩:∃tx:Value,tx=.slice (some ⟨ba,off,none⟩) zs.length cap:=⟨_,rfl⟩
 obtain ⟨pc,hpc⟩:∃pc:Value,pc=.slice (some ⟨ba,off+p,none⟩) M M:=⟨_,rfl⟩
 rw [←htx,←hpc] at HB ⊢
 have HTX:=qz htx
 have HPC:=qz hpc
 clear htx hpc
 obtain ⟨L,hL⟩:∃L,L=zs.length:=⟨_,rfl⟩
 rw [←hL] at hcap hl hp
 have HL:=qz hL
 have HC0:=qz hc0
 clear hL hc0
 go_enter Tryz.func129,Tryz.ntmps129
 go_wp2_with fail
 go_loopg [8] (c0+1) (fun gk d8 ws=>∃ (c n d:Nat) (left:Int),gk=c+1∧c≤p∧d8=.int .i64 ((c:Int)-1)∧n<M∧0<left∧left≤p∧(f<c∨s≤n)∧Hid (ChainAt (zf zs) p f M s n d c)∧Hid (∃y,y≤p∧c=lastOf zs s y (z1o zs s p))∧WB H tx pc p M left n d ws∧WKeep H w ws)
 case atStart=>exact ⟨c0,0,0,_,rfl,hc0p,rfl,by omega,by omega,by omega,.inl hf,HST,qz ⟨p,Nat.le_refl _,uh HC0⟩,uh HB,WKeep.refl _ _⟩
 case round =>
  obtain ⟨c,n,d,left,rfl,hcp,rfl,hnM,hl0,hlp,hfc,HCH,HLO,hb,hk⟩:=hrel
  by_cases hlt:f<c
  ·obtain ⟨x,rfl⟩:∃x,c=x+1:=⟨c-1,by omega⟩
   have ex:((x+1:Nat):Int)-1=(x:Int):=by omega
   rw [ex]
   clear ex
   have hxf:(f:Int)≤(x:Int):=by omega
   obtain ⟨y,hy,hyc⟩:=uh HLO
   obtain ⟨hsame,hkey⟩:=uh HHIT2 y x hy hyc.symm
   have hrd:z0m B wr (.slice (some ⟨ba,off,none⟩) zs.length cap) zs:=(uh HR).stays ⟨hk.os,hk.tape,hk.output,hk.size,fun i hi=>hk.kp i (by omega) (by omega) (by omega) (by omega)⟩
   have HCALL:=qz (w2q zs H B ba off cap p M x n d left wr hrd (by rw [←uh HL];exact hcap) (by rw [←uh HL];exact hl) (by rw [←uh HL];exact hp) (by omega) hnM hBH (by have:=hk.size;omega) (by omega) (by rw [←uh HTX,←uh HPC];exact hb))
   rw [←uh HTX,←uh HPC] at HCALL
   have HSTEP:Hid (∀n' d' left',z9n zs p M x n d left n' d' left'→ChainAt (zf zs) p f M s n' d' (lastOf zs s x (z1o zs s p))∧s≤n'∧left'≤left∧left-1-M≤left'):=qz fun n' d' left' hw=>x2o (uh HZ) (by rw [←uh HL];exact hp) hs1 hsM (by omega) hsame hnM (uh HCH) hw rfl
   obtain ⟨g,cp,hvv,hob,hcell⟩:=w2d (uh HLV).row (show x<p by omega)
   have HLVR:=qz (LvlAt.c2 (uh HLV))
   have hHl:H<w.heap.size:=z1e (uh HLVR)
   have HKW:=qz hk
   have hxp:x<p:=by omega
   clear hb hk hrd hyc hsame HLO HCH hy
   go_wp2_with fail
   refine (uh HCALL).mono ?_
   rintro e w' ⟨r,n',d',left',rfl,hb',hw',hr',hk'⟩
   obtain ⟨hch',hsn',hl1,hl2⟩:=uh HSTEP _ _ _ hw'
   have hkw:=(uh HKW).trans hk'
   have q2:w'.cell? ⟨H,2,none⟩=some v:=by rw [World.cell?_of_block (hkw.kp H hHl (by omega) (by omega) (by omega))];exact uh HLVR
   have hgH:=uh HV g hob
   have q3:w'.cell? ⟨g,x,none⟩=some (.int .i64 ((lastOf zs s x (z1o zs s x):Nat):Int)):=by rw [World.cell?_of_block (hkw.kp g (z1e hcell) (by show g≠_;omega) (by show g≠_;omega) (by show g≠_;omega))];exact hcell
   rw [hvv] at q2
   rw [hkey] at q3
   have hzl:lastOf zs s x (z1o zs s p)≤x:=z5b _ _ _ _
   have HLO':Hid (∃y,y≤p∧lastOf zs s x (z1o zs s p)=lastOf zs s y (z1o zs s p)):=qz ⟨x,by omega,rfl⟩
   have HCH':=qz hch'
   have HB':=qz hb'
   have HK':=qz hkw
   obtain ⟨c',hc'⟩:∃c',c'=lastOf zs s x (z1o zs s p):=⟨_,rfl⟩
   rw [←hc'] at q3 hzl HLO' HCH'
   have hxpi:(x:Int)<(p:Int):=by omega
   have hw1:IntKind.i64.wrap ((c':Int)-1)=(c':Int)-1:=IntWalk.i64_in _ (by omega)
   clear hch' hb' hkw hk' hw' HCALL HSTEP HKW hcell hkey hc' HLVR hvv hob hgH
   rcases hr' with ⟨rfl,hn',hl'⟩|⟨rfl,hor⟩
   ·go_wp2_with fail
    go_roundg (c'+1)
    case measure=>omega
    case rel=>exact ⟨c',n',d',left',rfl,by omega,rfl,hn',hl',by omega,.inr hsn',HCH',HLO',uh HB',uh HK'⟩
   ·have HE:Hid (x4n zs H tx pc p f M w (.returned (.tuple #[])) w'):=qz ⟨n',d',left',rfl,uh HB',uh HK',by
     by_cases hn':n'<M
     ·exact .inl ⟨hn',by omega⟩
     ·exact .inr ((uh HCH').best hs1 hsn' (.inr (by have:=(uh HCH').nle;omega))),(uh HCH').nle⟩
    clear hor HB' HK' HCH' HLO'
    go_wp2_with fail
    go_end0
    exact uh HE
  ·have hcf:¬ (f:Int)≤(c:Int)-1:=by omega
   have HE:Hid (x4n zs H tx pc p f M w (.returned (.tuple #[])) wr):=qz ⟨n,d,left,rfl,hb,hk,.inr ((uh HCH).best hs1 (by omega) (.inl (by omega))),by omega⟩
   clear hb hk HCH HLO
   go_wp2_with fail
   go_end0
   exact uh HE
end T6
namespace T6
open Go.RowKit Go.Maps
attribute [local go_sem ↓] wp_at_zero wp_at_succ
theorem z0k (w:World) (o:Obj) (i:Nat):(w.alloc o).heap[i]?=if i=w.heap.size then some o else w.heap[i]?:=by
 by_cases e:i=w.heap.size
 ·rw [if_pos e,e];exact heap_alloc_new _ _
 ·rw [if_neg e]
  rcases Nat.lt_or_ge i w.heap.size with h|h
  ·exact Below.heap_alloc _ _ _ h
  ·rw [Array.getElem?_eq_none (by simp;omega),Array.getElem?_eq_none h]
theorem z4f {fn:Func} {a b:Tmp} (h:fn.results=#[.cell a 3,.cell b 3]) (tmps:Array Value) (w:World) (ad bd:Addr) (ha:tmps.getD a undef=.pointer (some ad)) (hb:tmps.getD b undef=.pointer (some bd)) (x y:Int) (hx:w.cell? ad=some (.int .i64 x)) (hy:w.cell? bd=some (.int .i64 y)) :
  (results fn tmps).run Tryz.prog w=.ok (.tuple #[.int .i64 x,.int .i64 y]) w:=by
 simp only [results,h]
 simp only [List.mapM_toArray,List.mapM_cons,List.mapM_nil]
 simp only [ha,hb]
 go_simp
theorem y7g (zs:List Nat) (a:Option Addr) (cap B P V K:Nat) (w:World) (hr:z0m B w (.slice a zs.length cap) zs) (hcap:zs.length≤cap) (hz:∀z∈zs,z<256) (hl:zs.length<4294967281) (hP:P≤zs.length) (hV:V≤9223372036854775807) (hK:K≤9223372036854775807) (hm:ML w) :
  ∃T u:Nat,Calls Tryz.prog 62 #[.slice a zs.length cap,.int .i64 (P:Int),.int .i64 (V:Int),.int .i64 (K:Int)] w fun e w'=>∃a',e=.returned (.tuple #[.slice a' T T,.int .i64 (u:Int)])∧w'=w ∧
   ∀q,Calls Tryz.prog 95 #[.slice a' T T,.int .i64 (u:Int)] (w.drewN q) fun e w'=>∃n d:Nat,e=.returned (.tuple #[.int .i64 (n:Int),.int .i64 (d:Int)])∧IsBest (zf zs) P (min P V) (min K (zs.length-P)) n d∧∃q,w'=w.drewN q:=by
 refine ⟨min P V+min K (zs.length-P),min P V,(look_ok zs a cap B P V K w hr hcap hP (by omega) hV hK).mono ?_⟩
 rintro e w' ⟨a',rfl,ha,rfl⟩
 refine ⟨a',rfl,rfl,fun q=>?_⟩
 have hln:((zs.drop (P-min P V)).take (min P V+min K (zs.length-P))).length=min P V+min K (zs.length-P):=by simp;omega
 have:=w5a ((zs.drop (P-min P V)).take (min P V+min K (zs.length-P))) a' B (min P V) (w'.drewN q) (by rw [hln];exact ha.drewN q) (fun z h=>hz z (List.mem_of_mem_drop (List.mem_of_mem_take h))) (by rw [hln];omega) (by rw [hln];omega) (hm.drewN q)
 rw [hln] at this
 refine this.mono ?_
 rintro e w'' ⟨n,d,rfl,hb,q',rfl⟩
 refine ⟨n,d,rfl,?_,q+q',by rw [World.drewN_drewN]⟩
 rw [show min P V+min K (zs.length-P)-min P V=min K (zs.length-P) by omega] at hb
 have h5:=hb.shift (z:=zf zs) (f:=P-min P V) (Nat.le_refl _) (fun i hi=>z1f _ _ _ _ hi)
 rw [show P-min P V+min P V=P by omega] at h5
 exact h5
def x4s (zs:List Nat) (p u M:Nat) (w:World) (e:Ending) (w':World):Prop:=∃n d:Nat,e=.returned (.tuple #[.int .i64 (n:Int),.int .i64 (d:Int)])∧IsBest (zf zs) p u M n d∧Below w.heap.size w w'
theorem w5i (zs:List Nat) (B ba off cap p W M s b c0 gx g o:Nat) (v:Value) (w:World) (hr:z0m B w (.slice (some ⟨ba,off,none⟩) zs.length cap) zs) (hcap:zs.length≤cap) (hz:∀c∈zs,c<256) (hl:zs.length≤100000000) (hp:p+M≤zs.length) (hs1:1≤s) (hsM:s≤M) (hB:B≤w.heap.size) (hW:W≤9223372036854775807)
  (hx0:w.cell? ⟨gx,0,none⟩=some (.slice (some ⟨ba,off,none⟩) zs.length cap)) (hx1:w.cell? ⟨gx,1,none⟩=some (.int .i64 (W:Int)))
  (hlv:LvlAt zs s p B w g o b v) (hc0:c0=lastOf zs s p (z1o zs s p)) (hf:p-min p W<c0) (hm:ML w) :
  Calls Tryz.prog 99 #[.pointer (some ⟨gx,0,none⟩),.agg #[.int .i64 (s:Int),.map (some b),v],.int .i64 ((c0:Int)-1),.int .i64 (p:Int),.int .i64 (M:Int)] w fun e w'=>x4s zs p (min p W) M w e w':=by
 obtain ⟨H,hH⟩:∃H,H=w.heap.size:=⟨_,rfl⟩
 have HR:=qz hr
 have HZ:=qz hz
 have HLV:=qz hlv
 have HML:=qz hm
 obtain ⟨L,htx⟩:∃L,L=zs.length:=⟨_,rfl⟩
 rw [←htx] at hx0 HR hcap hl hp
 have HX0:=qz hx0
 have HX1:=qz hx1
 have HTX:=qz htx
 have HHW:=qz hH
 have HC0:=qz hc0
 have HCM:Hid (M<100000001):=qz (by omega)
 clear hr hz hlv hm htx hx0 hx1 hH hc0
 obtain ⟨u,hu⟩:∃u,u=min p W:=⟨_,rfl⟩
 rw [←hu] at hf ⊢
 have m1:=z2y (A:=(p:Int)) (B:=(W:Int)) rfl rfl hu
 obtain ⟨f,hff⟩:∃f:Nat,(p:Int)-(u:Int)=(f:Int):=⟨p-u,by omega⟩
 have hfp:p-u=f:=by omega
 rw [hfp] at hf
 have hpf:p-f=u:=by omega
 have HU:=qz hu
 clear hu hfp
 go_enter Tryz.func99,Tryz.ntmps99
 go_upto_region 1 with fail
 have e4:w.heap.size+1+1+1+1=H+4:=by rw [uh HHW]
 have e3:w.heap.size+1+1+1=H+3:=by rw [uh HHW]
 have e2:w.heap.size+1+1=H+2:=by rw [uh HHW]
 have e1:w.heap.size+1=H+1:=by rw [uh HHW]
 have e0:w.heap.size=H:=(uh HHW).symm
 rw [e4,e3,e2,e1,e0]
 generalize hW5:(((((w.alloc (.cells #[.int .i64 (s:Int),.map (some b),v] 162)).alloc (.cells #[.int .i64 (p:Int)] 3)).alloc (.cells #[.int .i64 (M:Int)] 3)).alloc (.cells #[.int .i64 0] 3)).alloc (.cells #[.int .i64 0] 3))=W5
 have HA:Hid (W5.heap[H]?=some (.cells #[.int .i64 (s:Int),.map (some b),v] 162 (0,0))∧W5.heap[H+1]?=some (.cells #[.int .i64 (p:Int)] 3 (0,0))∧W5.heap[H+2]?=some (.cells #[.int .i64 (M:Int)] 3 (0,0))∧W5.heap[H+3]?=some (.cells #[.int .i64 ((0:Nat):Int)] 3 (0,0))∧W5.heap[H+4]?=some (.cells #[.int .i64 ((0:Nat):Int)] 3 (0,0))):=qz (by
  rw [←hW5,uh HHW]
  refine ⟨?_,?_,?_,?_,?_⟩<;>simp only [z0k,World.size_alloc]<;>(repeat (first|rw [if_pos (by omega)]|rw [if_neg (by omega)]))<;>rfl)
 have HSZ5:Hid (W5.heap.size=H+5):=qz (by rw [←hW5,uh HHW];simp)
 have HBL5:Hid (Below H w W5):=qz (by
  rw [←hW5]
  exact (((((Below.refl _ _).alloc (by omega) _).alloc (by simp;omega) _).alloc (by simp;omega) _).alloc (by simp;omega) _).alloc (by simp;omega) _)
 clear hW5 e0 e1 e2 e3 e4
 have hBH:B≤H:=by rw [uh HHW];exact hB
 have hgxH:gx<H:=by rw [uh HHW];exact z1e (uh HX0)
 have HS1:Hid (W5.drew.cell? ⟨H+1,0,none⟩=some (.int .i64 (p:Int))∧W5.drew.cell? ⟨gx,0,none⟩=some (.slice (some ⟨ba,off,none⟩) L cap)∧W5.drew.cell? ⟨gx,1,none⟩=some (.int .i64 (W:Int))):=qz (by
  refine ⟨?_,?_,?_⟩
  ·show W5.cell? _=_
   simp [World.cell?,(uh HA).2.1]
  ·show W5.cell? _=_
   exact cell_below (uh HBL5) (uh HX0) hgxH
  ·show W5.cell? _=_
   exact cell_below (uh HBL5) (uh HX1) hgxH)
 have HK1:Hid (∀ (y:World) (O:Obj),(y.cell? ⟨H+1,0,none⟩=some (.int .i64 (p:Int))∧y.cell? ⟨gx,0,none⟩=some (.slice (some ⟨ba,off,none⟩) L cap)∧y.cell? ⟨gx,1,none⟩=some (.int .i64 (W:Int)))→((y.alloc O).cell? ⟨H+1,0,none⟩=some (.int .i64 (p:Int))∧(y.alloc O).cell? ⟨gx,0,none⟩=some (.slice (some ⟨ba,off,none⟩) L cap)∧(y.alloc O).cell? ⟨gx,1,none⟩=some (.int .i64 (W:Int)))):=qz fun y O h=>by
  have hb:=(Below.refl y.heap.size y).alloc (Nat.le_refl _) O
  exact ⟨z0a hb h.1,z0a hb h.2.1,z0a hb h.2.2⟩
 have HK2:Hid (∀ (y:World) (x:Value),(y.cell? ⟨H+1,0,none⟩=some (.int .i64 (p:Int))∧y.cell? ⟨gx,0,none⟩=some (.slice (some ⟨ba,off,none⟩) L cap)∧y.cell? ⟨gx,1,none⟩=some (.int .i64 (W:Int)))→((y.setCell ⟨H+5,0,none⟩ x).cell? ⟨H+1,0,none⟩=some (.int .i64 (p:Int))∧(y.setCell ⟨H+5,0,none⟩ x).cell? ⟨gx,0,none⟩=some (.slice (some ⟨ba,off,none⟩) L cap)∧(y.setCell ⟨H+5,0,none⟩ x).cell? ⟨gx,1,none⟩=some (.int .i64 (W:Int)))):=qz fun y x h=>by
  refine ⟨?_,?_,?_⟩
  ·rw [World.cell?_of_block (heap_setCell_other _ _ _ _ (by show H+1≠H+5;omega))];exact h.1
  ·rw [World.cell?_of_block (heap_setCell_other _ _ _ _ (by show gx≠H+5;omega))];exact h.2.1
  ·rw [World.cell?_of_block (heap_setCell_other _ _ _ _ (by show gx≠H+5;omega))];exact h.2.2
 have hwf:IntKind.i64.wrap (f:Int)=(f:Int):=IntWalk.i64_in _ (by omega)
 refine wp_region_noPanic ?_
 refine wp_region_held_drew (S:=fun y=>y.cell? ⟨H+1,0,none⟩=some (.int .i64 (p:Int))∧y.cell? ⟨gx,0,none⟩=some (.slice (some ⟨ba,off,none⟩) L cap)∧y.cell? ⟨gx,1,none⟩=some (.int .i64 (W:Int))) (by kernel_rfl) (uh HS1) (fun hHeld=>?_)
 refine hT 0 17 rfl rfl hHeld nPp (v:=?_) (fun x' hSx=>?_) ?_
 rotate_left 1
 ·(obtain ⟨q1,q2,q3⟩:=hSx;go_simp<;>with_reducible rfl)
 simp only [sA,sB]
 refine hT 1 18 rfl rfl hHeld nPp (v:=?_) (fun x' hSx=>?_) ?_
 rotate_left 1
 ·(obtain ⟨q1,q2,q3⟩:=hSx;go_simp<;>with_reducible rfl)
 simp only [sA,sB]
 refine hT 2 19 rfl rfl hHeld nPp (v:=?_) (fun x' hSx=>?_) ?_
 rotate_left 1
 ·(obtain ⟨q1,q2,q3⟩:=hSx;go_simp<;>with_reducible rfl)
 simp only [sA,sB]
 refine hT 3 20 rfl rfl hHeld nPp (v:=?_) (fun x' hSx=>?_) ?_
 rotate_left 1
 ·(obtain ⟨q1,q2,q3⟩:=hSx;go_simp<;>with_reducible rfl)
 simp only [sA,sB]
 refine hT 4 21 rfl rfl hHeld nPp (v:=?_) (fun x' hSx=>?_) ?_
 rotate_left 1
 ·(obtain ⟨q1,q2,q3⟩:=hSx;go_simp<;>with_reducible rfl)
 simp only [sA,sB]
 refine hT 5 22 rfl rfl hHeld nPp (v:=?_) (fun x' hSx=>?_) ?_
 rotate_left 1
 ·(obtain ⟨q1,q2,q3⟩:=hSx;go_simp<;>with_reducible rfl)
 simp only [sA,sB]
 refine hT 6 23 rfl rfl hHeld nPp (v:=?_) (fun x' hSx=>?_) ?_
 rotate_left 1
 ·(obtain ⟨q1,q2,q3⟩:=hSx;go_simp<;>with_reducible rfl)
 simp only [sA,sB]
 refine hT 7 24 rfl rfl hHeld nPp (v:=?_) (fun x' hSx=>?_) ?_
 rotate_left 1
 ·(obtain ⟨q1,q2,q3⟩:=hSx;go_simp<;>with_reducible rfl)
 simp only [sA,sB]
 refine hT 8 25 rfl rfl hHeld nPp (v:=?_) (fun x' hSx=>?_) ?_
 rotate_left 1
 ·(obtain ⟨q1,q2,q3⟩:=hSx;go_simp<;>with_reducible rfl)
 simp only [sA,sB]
 refine hT 9 26 rfl rfl hHeld nPp (v:=?_) (fun x' hSx=>?_) ?_
 rotate_left 1
 ·(obtain ⟨q1,q2,q3⟩:=hSx;go_simp<;>with_reducible rfl)
 simp only [sA,sB]
 refine hT 10 27 rfl rfl hHeld nPp (v:=?_) (fun x' hSx=>?_) ?_
 rotate_left 1
 ·(obtain ⟨q1,q2,q3⟩:=hSx;go_simp<;>with_reducible rfl)
 simp only [sA,sB]
 refine hT 11 28 rfl rfl hHeld nPp (v:=?_) (fun x' hSx=>?_) ?_
 rotate_left 1
 ·(obtain ⟨q1,q2,q3⟩:=hSx;go_simp<;>with_reducible rfl)
 simp only [sA,sB]
 obtain ⟨Wd,hWd⟩:∃Wd,Wd=W5.drew:=⟨_,rfl⟩
 rw [←hWd] at hHeld ⊢
 have HH5:Hid (Wd.heap.size=H+5):=qz (by rw [hWd];exact uh HSZ5)
 have HWD:=qz hWd
 clear hWd
 refine hO 12 12 rfl rfl (v:=.pointer (some ⟨Wd.heap.size,0,none⟩)) (w':=Wd.alloc (.cells #[.slice none 0 0] 22)) ?_ (uh HK1 _ _ hHeld) ?_
 ·go_simp<;>exact ⟨rfl,rfl⟩
 simp only [sA,sB]
 rw [uh HH5]
 refine hKk 13 rfl rfl (w':=(Wd.alloc (.cells #[.slice none 0 0] 22)).setCell ⟨H+5,0,none⟩ (.slice (some ⟨ba,off,none⟩) L cap)) ?_ (uh HK2 _ _ (uh HK1 _ _ hHeld)) ?_
 ·(have q1:(Wd.alloc (.cells #[.slice none 0 0] 22)).cell? ⟨H+5,0,none⟩=some (.slice none 0 0):=(by rw [←uh HH5];simp only [World.cell?,heap_alloc_new];try rfl);have q2:(Wd.alloc (.cells #[.slice none 0 0] 22)).frozen? ⟨H+5,0,none⟩=false:=(by rw [←uh HH5];simp only [World.frozen?,heap_alloc_new];simp);go_simp)
 have hHeld:=uh HK2 (Wd.alloc (.cells #[.slice none 0 0] 22)) (.slice (some ⟨ba,off,none⟩) L cap) (uh HK1 _ _ hHeld)
 refine hT 14 13 rfl rfl hHeld nPp (v:=?_) (fun x' hSx=>?_) ?_
 rotate_left 1
 ·(go_simp<;>with_reducible rfl)
 simp only [sA,sB]
 refine dN ?_
 obtain ⟨W6,hW6⟩:∃W6,W6=(Wd.alloc (.cells #[.slice none 0 0] 22)).setCell ⟨H+5,0,none⟩ (.slice (some ⟨ba,off,none⟩) L cap):=⟨_,rfl⟩
 rw [←hW6] at hHeld ⊢
 have HK6:Hid (∀i,i≠H+5→i<H+5→W6.heap[i]?=W5.heap[i]?):=qz fun i hi hi2=>by
  rw [hW6,heap_setCell_other _ _ _ _ (by exact hi),Below.heap_alloc _ _ _ (by rw [uh HH5];exact hi2),uh HWD]
  rfl
 have HB65:Hid (W6.heap[H+5]?=some (.cells #[.slice (some ⟨ba,off,none⟩) L cap] 22 (0,0))∧W6.heap.size=H+6∧W6.os=W5.os∧W6.tape=W5.tape∧W6.output=W5.output):=qz (by
  refine ⟨?_,?_,?_,?_,?_⟩
  ·rw [hW6,heap_setCell_same _ (H+5) 0 #[.slice none 0 0] 22 _ (by rw [←uh HH5];exact heap_alloc_new _ _)]
   rfl
  ·rw [hW6];simp [uh HH5]
  ·rw [hW6,uh HWD];rfl
  ·rw [hW6,uh HWD];rfl
  ·rw [hW6,uh HWD];rfl)
 clear hW6 HWD HH5 HK1 HK2 HS1 hHeld
 have HBL6:Hid (Below H w W6):=qz ⟨(uh HB65).2.2.1.trans (uh HBL5).os,(uh HB65).2.2.2.1.trans (uh HBL5).tape,(uh HB65).2.2.2.2.trans (uh HBL5).output,by rw [(uh HB65).2.1,←uh HHW];omega,fun k hk=>by rw [uh HK6 k (by omega) (by omega)];exact (uh HBL5).block k hk⟩
 have HA6:Hid (W6.heap[H]?=some (.cells #[.int .i64 (s:Int),.map (some b),v] 162 (0,0))∧W6.heap[H+1]?=some (.cells #[.int .i64 (p:Int)] 3 (0,0))∧W6.heap[H+2]?=some (.cells #[.int .i64 (M:Int)] 3 (0,0))∧W6.heap[H+3]?=some (.cells #[.int .i64 ((0:Nat):Int)] 3 (0,0))∧W6.heap[H+4]?=some (.cells #[.int .i64 ((0:Nat):Int)] 3 (0,0))):=qz (by
  have h:=uh HA
  refine ⟨?_,?_,?_,?_,?_⟩
  ·rw [uh HK6 _ (by omega) (by omega)];exact h.1
  ·rw [uh HK6 _ (by omega) (by omega)];exact h.2.1
  ·rw [uh HK6 _ (by omega) (by omega)];exact h.2.2.1
  ·rw [uh HK6 _ (by omega) (by omega)];exact h.2.2.2.1
  ·rw [uh HK6 _ (by omega) (by omega)];exact h.2.2.2.2)
 have c1:W6.cell? ⟨H+1,0,none⟩=some (.int .i64 (p:Int)):=by simp [World.cell?,(uh HA6).2.1]
 have c2:W6.cell? ⟨H+2,0,none⟩=some (.int .i64 (M:Int)):=by simp [World.cell?,(uh HA6).2.2.1]
 have c5:W6.cell? ⟨H+5,0,none⟩=some (.slice (some ⟨ba,off,none⟩) L cap):=by simp [World.cell?,(uh HB65).1]
 have hs6:W6.heap.size=H+6:=(uh HB65).2.1
 obtain ⟨E,hE⟩:∃E:Nat,(p:Int)+(M:Int)=(E:Int):=⟨p+M,by omega⟩
 have hEp:E-p=M:=by omega
 have hpEc:p≤E∧E≤cap:=⟨by omega,by omega⟩
 have hpE:=hpEc.1
 have hEc:=hpEc.2
 have hwE:IntKind.i64.wrap (E:Int)=(E:Int):=IntWalk.i64_in _ (by omega)
 have hwu:IntKind.i64.wrap (u:Int)=(u:Int):=IntWalk.i64_in _ (by omega)
 have hM0:¬M=0:=by omega
 have hpfu:(p:Int)-(f:Int)=(u:Int):=by omega
 clear HK6 HA HBL5 HSZ5
 go_upto_region 5 with fail
 rw [show H+6+1=H+7 from rfl]
 generalize hW8:(W6.alloc (.cells #[.slice (some ⟨ba,off+p,none⟩) M M] 22)).alloc (.cells #[.int .i64 (u:Int)] 3)=W8
 have hk8:∀i,i<H+6→W8.heap[i]?=W6.heap[i]?:=fun i hi=>by
  rw [←hW8,z0k,if_neg (by rw [World.size_alloc];omega),z0k,if_neg (by omega)]
 have hwb:WB H (.slice (some ⟨ba,off,none⟩) L cap) (.slice (some ⟨ba,off+p,none⟩) M M) p M ((p:Int)-(f:Int)) 0 0 W8:=by
  have h:=uh HA6
  refine ⟨by rw [hk8 _ (by omega)];exact h.2.1,by rw [hk8 _ (by omega)];exact h.2.2.1,by rw [hk8 _ (by omega)];exact h.2.2.2.1,by rw [hk8 _ (by omega)];exact h.2.2.2.2,by rw [hk8 _ (by omega)];exact (uh HB65).1,?_,?_⟩
  ·rw [←hW8,z0k,if_neg (by rw [World.size_alloc];omega),z0k,if_pos (by omega)]
  ·rw [←hW8,z0k,if_pos (by rw [World.size_alloc];omega),hpfu]
 have hbl8:Below H w W8:=by
  have h6:=uh HBL6
  refine ⟨?_,?_,?_,?_,fun k hk=>?_⟩
  ·rw [←hW8];exact h6.os
  ·rw [←hW8];exact h6.tape
  ·rw [←hW8];exact h6.output
  ·rw [←hW8];simp;have:=h6.size;omega
  ·rw [hk8 k (by omega)];exact h6.block k hk
 have hs8:W8.heap.size=H+8:=by rw [←hW8];simp [hs6]
 have hr8:z0m B W8 (.slice (some ⟨ba,off,none⟩) zs.length cap) zs:=by
  have h:=uh HR
  rw [uh HTX] at h
  exact h.stays ⟨hbl8.os,hbl8.tape,hbl8.output,hbl8.size,fun k hk=>hbl8.block k (by omega)⟩
 have hlv0:=uh HLV
 have hv8:∀q,v.ownBlock=some q→q<H:=fun q hq=>by
  obtain ⟨_,cs,ff,hh⟩:=z4k hlv0.row hq
  rw [uh HHW]
  exact z0b hh
 have hlv8:LvlAt zs s p B W8 H 0 b v:=by
  have h0:W8.heap[H]?=some (.cells #[.int .i64 (s:Int),.map (some b),v] 162 (0,0)):=by rw [hk8 _ (by omega)];exact (uh HA6).1
  obtain ⟨es,ck,hb⟩:=hlv0.mp.is
  exact ⟨by simp [World.cell?,h0],by simp [World.cell?,h0],by simp [World.cell?,h0],hlv0.mp.block (hbl8.block _ (by rw [uh HHW];exact z0b hb)),z0y hlv0.row (fun q hq=>hbl8.block _ (hv8 q hq))⟩
 have HEA:=qz (w4d zs H B ba off cap p f M s b c0 v W8 hr8 (by rw [←uh HTX];exact hcap) (uh HZ) (by rw [←uh HTX];exact hl) (by rw [←uh HTX];exact hp) hs1 hsM (by omega) (by omega) hlv8 hv8 (uh HC0) hf (by rw [←uh HTX];exact hwb))
 rw [←uh HTX] at HEA
 have HBL8:=qz hbl8
 have HR8:=qz hr8
 clear hW8 hk8 hwb hbl8 hr8 hlv0 hv8 hlv8 HA6 HB65 HBL6 c1 c2 c5 HLV
 go_wp2_with fail
 refine (uh HEA).mono ?_
 rintro e W9 ⟨n,d,left,rfl,hb9,hk9,hcase,hnM⟩
 have HBL9:Hid (Below H w W9):=qz ⟨hk9.os.trans (uh HBL8).os,hk9.tape.trans (uh HBL8).tape,hk9.output.trans (uh HBL8).output,Nat.le_trans (uh HBL8).size hk9.size,fun k hk=>by rw [hk9.kp k (by omega) (by omega) (by omega) (by omega)];exact (uh HBL8).block k hk⟩
 have HR9:Hid (z0m B W9.drew (.slice (some ⟨ba,off,none⟩) zs.length cap) zs):=qz ((uh HR8).stays ⟨hk9.os,hk9.tape,hk9.output,hk9.size,fun k hk=>hk9.kp k (by omega) (by omega) (by omega) (by omega)⟩)
 have HB9:=qz hb9
 have c2:=hb9.c2
 have c3:=hb9.c3
 have c7:=hb9.c7
 clear hb9 hk9 HEA HR8 HBL8
 by_cases ht:n<M∧left≤0
 ·obtain ⟨ht1,ht2⟩:=ht
  have ht1i:(n:Int)<(M:Int):=by omega
  have HLK:Hid (∃T t:Nat,Calls Tryz.prog 62 #[.slice (some ⟨ba,off,none⟩) L cap,.int .i64 (p:Int),.int .i64 (W:Int),.int .i64 (M:Int)] W9.drew fun e w'=>∃a',e=.returned (.tuple #[.slice a' T T,.int .i64 (t:Int)])∧w'=W9.drew ∧
   ∀q,Calls Tryz.prog 95 #[.slice a' T T,.int .i64 (t:Int)] (W9.drew.drewN q) fun e w'=>∃n d:Nat,e=.returned (.tuple #[.int .i64 (n:Int),.int .i64 (d:Int)])∧IsBest (zf zs) p u M n d∧∃q,w'=W9.drew.drewN q):=qz (by
   have hml:ML W9.drew:=by
    obtain ⟨m,hm⟩:=uh HML
    exact ⟨m,cell_below (uh HBL9) hm (by have:=z1e hm;rw [uh HHW];exact this)⟩
   have:=y7g zs (some ⟨ba,off,none⟩) cap B p W M W9.drew (uh HR9) (by rw [←uh HTX];exact hcap) (uh HZ) (by rw [←uh HTX];omega) (by rw [←uh HTX];omega) hW (by omega) hml
   rw [←uh HU,←uh HTX,show min M (L-p)=M by omega] at this
   exact this)
  have HS7:Hid (W9.drew.cell? ⟨H+5,0,none⟩=some (.slice (some ⟨ba,off,none⟩) L cap)∧W9.drew.cell? ⟨H+1,0,none⟩=some (.int .i64 (p:Int))∧W9.drew.cell? ⟨gx,1,none⟩=some (.int .i64 (W:Int))∧W9.drew.cell? ⟨H+2,0,none⟩=some (.int .i64 (M:Int))):=qz ⟨(uh HB9).c5,(uh HB9).c1,cell_below (uh HBL9) (uh HX1) hgxH,(uh HB9).c2⟩
  clear hcase
  go_upto_region 7 with fail
  refine wp_region_noPanic ?_
  refine wp_region_held_drew (S:=fun y=>y.cell? ⟨H+5,0,none⟩=some (.slice (some ⟨ba,off,none⟩) L cap)∧y.cell? ⟨H+1,0,none⟩=some (.int .i64 (p:Int))∧y.cell? ⟨gx,1,none⟩=some (.int .i64 (W:Int))∧y.cell? ⟨H+2,0,none⟩=some (.int .i64 (M:Int))) (by kernel_rfl) (uh HS7) (fun hHeld=>?_)
  refine hT 0 53 rfl rfl hHeld nPp (v:=?_) (fun x' hSx=>?_) ?_
  rotate_left 1
  ·(obtain ⟨q1,q2,q3,q4⟩:=hSx;go_simp<;>with_reducible rfl)
  simp only [sA,sB]
  refine hT 1 54 rfl rfl hHeld nPp (v:=?_) (fun x' hSx=>?_) ?_
  rotate_left 1
  ·(obtain ⟨q1,q2,q3,q4⟩:=hSx;go_simp<;>with_reducible rfl)
  simp only [sA,sB]
  refine hT 2 55 rfl rfl hHeld nPp (v:=?_) (fun x' hSx=>?_) ?_
  rotate_left 1
  ·(obtain ⟨q1,q2,q3,q4⟩:=hSx;go_simp<;>with_reducible rfl)
  simp only [sA,sB]
  refine hT 3 56 rfl rfl hHeld nPp (v:=?_) (fun x' hSx=>?_) ?_
  rotate_left 1
  ·(obtain ⟨q1,q2,q3,q4⟩:=hSx;go_simp<;>with_reducible rfl)
  simp only [sA,sB]
  refine hT 4 57 rfl rfl hHeld nPp (v:=?_) (fun x' hSx=>?_) ?_
  rotate_left 1
  ·(obtain ⟨q1,q2,q3,q4⟩:=hSx;go_simp<;>with_reducible rfl)
  simp only [sA,sB]
  refine hT 5 58 rfl rfl hHeld nPp (v:=?_) (fun x' hSx=>?_) ?_
  rotate_left 1
  ·(obtain ⟨q1,q2,q3,q4⟩:=hSx;go_simp<;>with_reducible rfl)
  simp only [sA,sB]
  refine hT 6 59 rfl rfl hHeld nPp (v:=?_) (fun x' hSx=>?_) ?_
  rotate_left 1
  ·(obtain ⟨q1,q2,q3,q4⟩:=hSx;go_simp<;>with_reducible rfl)
  simp only [sA,sB]
  obtain ⟨T,t,hlk⟩:=uh HLK
  refine z0u 7 60 (by kernel_rfl) rfl rfl (by rfl) (by go_simp<;>exact ⟨rfl,rfl⟩) ?_
  refine hlk.mono ?_
  rintro e w' ⟨a',rfl,hww,hsk⟩
  replace hww:=hww.symm
  subst hww
  refine ⟨_,rfl,hHeld,?_⟩
  simp only [sA,sB]
  refine hT 8 61 rfl rfl hHeld nPp (v:=?_) (fun x' hSx=>?_) ?_
  rotate_left 1
  ·(go_simp<;>with_reducible rfl)
  simp only [sA,sB]
  refine hT 9 62 rfl rfl hHeld nPp (v:=?_) (fun x' hSx=>?_) ?_
  rotate_left 1
  ·(go_simp<;>with_reducible rfl)
  simp only [sA,sB]
  have HSK:=qz (hsk 0)
  clear hsk hlk
  refine z0u 10 63 (by kernel_rfl) rfl rfl (by rfl) (by go_simp<;>exact ⟨rfl,rfl⟩) ?_
  refine (uh HSK).mono ?_
  rintro e w' ⟨n2,d2,rfl,hbest,q,rfl⟩
  refine ⟨_,rfl,hHeld,?_⟩
  simp only [sA,sB]
  refine hT 11 64 rfl rfl hHeld nPp (v:=?_) (fun x' hSx=>?_) ?_
  rotate_left 1
  ·(go_simp<;>with_reducible rfl)
  simp only [sA,sB]
  refine hT 12 65 rfl rfl hHeld nPp (v:=?_) (fun x' hSx=>?_) ?_
  rotate_left 1
  ·(go_simp<;>with_reducible rfl)
  simp only [sA,sB]
  obtain ⟨Wy,hWy⟩:∃Wy,Wy=W9.drew.drewN q:=⟨_,rfl⟩
  have HBy:Hid (WB H (.slice (some ⟨ba,off,none⟩) L cap) (.slice (some ⟨ba,off+p,none⟩) M M) p M left n d Wy):=qz (by rw [hWy];exact (uh HB9).same rfl)
  have HKy:Hid (Below H w Wy):=qz (by rw [hWy];exact ⟨(uh HBL9).os,(uh HBL9).tape,(uh HBL9).output,(uh HBL9).size,(uh HBL9).block⟩)
  replace hHeld:Wy.cell? ⟨gx,1,none⟩=some (.int .i64 (W:Int)):=by rw [hWy];exact hHeld.2.2.1
  rw [←hWy]
  clear hWy
  have hx3:=(uh HBy).len' n2
  have hx4:=hx3.dist' d2
  refine hKk 13 rfl rfl (w':=Wy.setCell ⟨H+3,0,none⟩ (.int .i64 (n2:Int))) ?_ ⟨hx3.c5,hx3.c1,(by rw [World.cell?_of_block (heap_setCell_other _ _ _ _ (by show gx≠H+3;omega))];exact hHeld),hx3.c2⟩ ?_
  ·(have q1:=(uh HBy).c3;have q2:=(uh HBy).f3;go_simp)
  refine hKk 14 rfl rfl (w':=(Wy.setCell ⟨H+3,0,none⟩ (.int .i64 (n2:Int))).setCell ⟨H+4,0,none⟩ (.int .i64 (d2:Int))) ?_ ⟨hx4.c5,hx4.c1,(by rw [World.cell?_of_block (heap_setCell_other _ _ _ _ (by show gx≠H+4;omega)),World.cell?_of_block (heap_setCell_other _ _ _ _ (by show gx≠H+3;omega))];exact hHeld),hx4.c2⟩ ?_
  ·(have q1:=hx3.c4;have q2:=hx3.f4;go_simp)
  refine dN ?_
  have HBX:=qz hbest
  have HX4:=qz hx4
  have HBE:Hid (Below H w ((Wy.setCell ⟨H+3,0,none⟩ (.int .i64 (n2:Int))).setCell ⟨H+4,0,none⟩ (.int .i64 (d2:Int)))):=qz (((uh HKy).setCell (by show H≤H+3;omega) _).setCell (by show H≤H+4;omega) _)
  clear hbest hx3 hx4 hHeld
  go_wp2_with fail
  refine bodyPost_ret (z4f rfl _ _ ⟨H+3,0,none⟩ ⟨H+4,0,none⟩ rfl rfl _ _ (uh HX4).c3 (uh HX4).c4) rfl ⟨n2,d2,rfl,uh HBX,by rw [←uh HHW];exact uh HBE⟩
 ·have HBX:Hid (IsBest (zf zs) p u M n d):=qz (by
   rcases hcase with h|h
   ·exact absurd h ht
   ·rw [hpf] at h;exact h)
  have HS8:Hid (W9.drew.cell? ⟨H+3,0,none⟩=some (.int .i64 (n:Int))∧W9.drew.cell? ⟨H+4,0,none⟩=some (.int .i64 (d:Int))):=qz ⟨(uh HB9).c3,(uh HB9).c4⟩
  have ht':(¬ (n:Int)<(M:Int))∨((n:Int)<(M:Int)∧¬left≤0):=by omega
  clear hcase ht
  rcases ht' with h1|⟨h1,h2⟩
  all_goals go_upto_region 8 with fail
  ·refine wp_region_noPanic ?_
   refine wp_region_held_drew (S:=fun y=>y.cell? ⟨H+3,0,none⟩=some (.int .i64 (n:Int))∧y.cell? ⟨H+4,0,none⟩=some (.int .i64 (d:Int))) (by kernel_rfl) (uh HS8) (fun hHeld=>?_)
   refine hT 0 66 rfl rfl hHeld nPp (v:=?_) (fun x' hSx=>?_) ?_
   rotate_left 1
   ·(obtain ⟨q1,q2⟩:=hSx;go_simp<;>with_reducible rfl)
   simp only [sA,sB]
   refine hT 1 67 rfl rfl hHeld nPp (v:=?_) (fun x' hSx=>?_) ?_
   rotate_left 1
   ·(obtain ⟨q1,q2⟩:=hSx;go_simp<;>with_reducible rfl)
   simp only [sA,sB]
   obtain ⟨Wy,hWy⟩:∃Wy,Wy=W9.drew:=⟨_,rfl⟩
   have HBy:Hid (WB H (.slice (some ⟨ba,off,none⟩) L cap) (.slice (some ⟨ba,off+p,none⟩) M M) p M left n d Wy):=qz (by rw [hWy];exact (uh HB9).same rfl)
   have HKy:Hid (Below H w Wy):=qz (by rw [hWy];exact ⟨(uh HBL9).os,(uh HBL9).tape,(uh HBL9).output,(uh HBL9).size,(uh HBL9).block⟩)
   rw [←hWy] at hHeld ⊢
   clear hWy
   have hx3:=(uh HBy).len' n
   have hx4:=hx3.dist' d
   refine hKk 2 rfl rfl (w':=Wy.setCell ⟨H+3,0,none⟩ (.int .i64 (n:Int))) ?_ ⟨hx3.c3,hx3.c4⟩ ?_
   ·(have q1:=(uh HBy).c3;have q2:=(uh HBy).f3;go_simp)
   refine hKk 3 rfl rfl (w':=(Wy.setCell ⟨H+3,0,none⟩ (.int .i64 (n:Int))).setCell ⟨H+4,0,none⟩ (.int .i64 (d:Int))) ?_ ⟨hx4.c3,hx4.c4⟩ ?_
   ·(have q1:=hx3.c4;have q2:=hx3.f4;go_simp)
   refine dN ?_
   have HX4:=qz hx4
   have HBE:Hid (Below H w ((Wy.setCell ⟨H+3,0,none⟩ (.int .i64 (n:Int))).setCell ⟨H+4,0,none⟩ (.int .i64 (d:Int)))):=qz (((uh HKy).setCell (by show H≤H+3;omega) _).setCell (by show H≤H+4;omega) _)
   clear hx3 hx4 hHeld
   go_wp2_with fail
   refine bodyPost_ret (z4f rfl _ _ ⟨H+3,0,none⟩ ⟨H+4,0,none⟩ rfl rfl _ _ (uh HX4).c3 (uh HX4).c4) rfl ⟨n,d,rfl,uh HBX,by rw [←uh HHW];exact uh HBE⟩
  ·refine wp_region_noPanic ?_
   refine wp_region_held_drew (S:=fun y=>y.cell? ⟨H+3,0,none⟩=some (.int .i64 (n:Int))∧y.cell? ⟨H+4,0,none⟩=some (.int .i64 (d:Int))) (by kernel_rfl) (uh HS8) (fun hHeld=>?_)
   refine hT 0 66 rfl rfl hHeld nPp (v:=?_) (fun x' hSx=>?_) ?_
   rotate_left 1
   ·(obtain ⟨q1,q2⟩:=hSx;go_simp<;>with_reducible rfl)
   simp only [sA,sB]
   refine hT 1 67 rfl rfl hHeld nPp (v:=?_) (fun x' hSx=>?_) ?_
   rotate_left 1
   ·(obtain ⟨q1,q2⟩:=hSx;go_simp<;>with_reducible rfl)
   simp only [sA,sB]
   obtain ⟨Wy,hWy⟩:∃Wy,Wy=W9.drew:=⟨_,rfl⟩
   have HBy:Hid (WB H (.slice (some ⟨ba,off,none⟩) L cap) (.slice (some ⟨ba,off+p,none⟩) M M) p M left n d Wy):=qz (by rw [hWy];exact (uh HB9).same rfl)
   have HKy:Hid (Below H w Wy):=qz (by rw [hWy];exact ⟨(uh HBL9).os,(uh HBL9).tape,(uh HBL9).output,(uh HBL9).size,(uh HBL9).block⟩)
   rw [←hWy] at hHeld ⊢
   clear hWy
   have hx3:=(uh HBy).len' n
   have hx4:=hx3.dist' d
   refine hKk 2 rfl rfl (w':=Wy.setCell ⟨H+3,0,none⟩ (.int .i64 (n:Int))) ?_ ⟨hx3.c3,hx3.c4⟩ ?_
   ·(have q1:=(uh HBy).c3;have q2:=(uh HBy).f3;go_simp)
   refine hKk 3 rfl rfl (w':=(Wy.setCell ⟨H+3,0,none⟩ (.int .i64 (n:Int))).setCell ⟨H+4,0,none⟩ (.int .i64 (d:Int))) ?_ ⟨hx4.c3,hx4.c4⟩ ?_
   ·(have q1:=hx3.c4;have q2:=hx3.f4;go_simp)
   refine dN ?_
   have HX4:=qz hx4
   have HBE:Hid (Below H w ((Wy.setCell ⟨H+3,0,none⟩ (.int .i64 (n:Int))).setCell ⟨H+4,0,none⟩ (.int .i64 (d:Int)))):=qz (((uh HKy).setCell (by show H≤H+3;omega) _).setCell (by show H≤H+4;omega) _)
   clear hx3 hx4 hHeld
   go_wp2_with fail
   refine bodyPost_ret (z4f rfl _ _ ⟨H+3,0,none⟩ ⟨H+4,0,none⟩ rfl rfl _ _ (uh HX4).c3 (uh HX4).c4) rfl ⟨n,d,rfl,uh HBX,by rw [←uh HHW];exact uh HBE⟩
end T6
namespace T6
open Go.RowKit
variable {F:Fence} {P:Program}
theorem z4d {W:World} {l:Nat} {o o':Obj} (h:W.heap[l]?=some o):(W.putObj l o').heap[l]?=some o':=World.putObj_heap_same (Array.getElem?_eq_some_iff.1 h).1
theorem w2c {m l:Nat} {r:Loop} {args:Array Value} {W:World} {I' X:World→Prop} (hfn:F.fn r.fn) (hl:W.heap[l]?=some (.loop r)) (hr:r.state=.ready) (hp:r.pending=none) (hs:args.size=r.params.size)
  (h:r.assign.wpIn (F.inRound l) m P (Exit.then (fun a' W'=>W'.heap[l]?=some (.loop r)∧r.body.wpIn (F.inRound l) m P (fun e _ W''=>W''.heap[l]?=some (.loop { r with state:=.busy })∧((e=.normal∧I' (W''.putObj l (.loop r)))∨(e=.ret∧X (W''.putObj l (.loop { r with state:=.done,pending:=some .ret }))))) a' (W'.putObj l (.loop { r with state:=.busy }))) (fun _ _ _=>False))
   { tmps:=(r.params.zip args).foldl (fun t (p,v)=>t.setIfInBounds p v) r.tmps,defers:=[] } W) :
  YieldAt F m P l args W fun e W'=>(e=.returned (.bool true)∧I' W'∧W'.heap[l]?=some (.loop r))∨(e=.returned (.bool false)∧X W'∧W'.heap[l]?=some (.loop { r with state:=.done,pending:=some .ret })):=by
 refine ⟨r.fn,_,r.assign,r.body,run_yield hl hs,roundIn_of_wpIn hfn (wpIn_mono h ?_)⟩
 rintro e a' W' hq
 cases e with
 | normal =>
  obtain ⟨h1,h2⟩:=hq
  refine ⟨_,run_beginRound h1 hr,wpIn_mono h2 ?_⟩
  rintro e a'' W'' ⟨h3,⟨rfl,h4⟩|⟨rfl,h4⟩⟩
  ·have h5:=run_endRound (P:=P) none h3
   have e2:({ { r with state:=.busy } with state:=if (none:Option Go.Code).isNone then .ready else .done,pending:=none }:Loop)=r:=by
    cases r
    simp at hr hp
    subst hr hp
    rfl
   rw [e2] at h5
   exact ⟨_,_,h5,.inl ⟨rfl,h4,z4d h3⟩⟩
  ·have h5:=run_endRound (P:=P) (some .ret) h3
   exact ⟨_,_,h5,.inr ⟨rfl,h4,z4d h3⟩⟩
 | _=>exact hq.elim
theorem x3q {n:Nat} {g:Operand} {ps:Array Tmp} {assign body:Go.Code} {Q:Exit→Act→World→Prop} {a:Act} {w:World} (hro:F.round=none) (h1:1≤n) {gf:Nat} {lb:Array Value} (hg:a.eval g=.func (.func gf) #[] lb) (hFg:F.fn gf)
  (eg:∀args w,(callFunc gf args).run P w=.ok (.enter gf args) w) (encs:Nat→Array Value) (N:Nat) (hps:∀k,(encs k).size=ps.size) (I:Nat→World→Prop) (X:World→Prop) (hI:OwnFrom w.heap.size I) (hX:OwnFrom w.heap.size (fun (_:Unit) W=>X W)) (h0:I 0 w)
  (hseq:∀ (l:Nat) (J:Nat→World→Prop) (Y:World→Prop) (W:World),(∀k W,J k W→I k W)→J 0 W→(∀k W1,k<N→J k W1→YieldAt F (n-1-1) P l (encs k) W1 fun e W'=>(e=.returned (.bool true)∧J (k+1) W')∨(e=.returned (.bool false)∧Y W')) →
   CallsIn F (n-1) P gf (#[.func (.yield l) #[] #[]]++lb) W fun e W'=>(∃v,e=.returned v)∧(J N W'∨Y W'))
  (Ax:Nat→Act→World→Prop) (hAx:∀k a',OwnFrom w.heap.size (fun (_:Unit) W=>Ax k a' W))
  (hassign:∀ (l k:Nat) (W:World) (K:Act→World→Prop),k<N→I k W→(∀a' W',KeepsOthers W W'→I k W'→Ax k a' W'→K a' W') →
   assign.wpIn (F.inRound l) (n-1-1) P (Exit.then K (fun _ _ _=>False)) { tmps:=(ps.zip (encs k)).foldl (fun t (p,v)=>t.setIfInBounds p v) a.tmps,defers:=[] } W)
  (hbody:∀ (l k:Nat) (a':Act) (W:World),k<N→I k W→Ax k a' W→body.wpIn (F.inRound l) (n-1-1) P (fun e _ W''=>KeepsOthers W W''∧((e=.normal∧I (k+1) W'')∨(e=.ret∧X W''))) a' W)
  (hdone:∀ (D:Nat) (W:World),w.heap.size≤D→I N W→W.heap[D]?=some (.deferred (some []))→Q .normal { a with defers:={ target:=.collected D,args:=#[] } :: a.defers } W)
  (hstop:∀ (D:Nat) (W:World),w.heap.size≤D→X W→W.heap[D]?=some (.deferred (some []))→Q .ret { a with defers:={ target:=.collected D,args:=#[] } :: a.defers } W) :
  (Go.Code.rangeFunc g ps assign body).wpIn F n P Q a w:=by
 refine wpIn_rangeFunc fun fn hfn=>?_
 rw [hro]
 obtain ⟨r,hr⟩:∃r:Loop,r={ state:=.ready,pending:=none,fn:=fn,tmps:=a.tmps,params:=ps,assign:=assign,body:=body,defers:=w.heap.size }:=⟨_,rfl⟩
 have hL:((w.alloc (.deferred (some []))).alloc (.loop r)).heap[w.heap.size+1]?=some (.loop r):=by
  have:=World.alloc_heap_new (w.alloc (.deferred (some []))) (.loop r)
  rwa [World.size_alloc] at this
 have hD:((w.alloc (.deferred (some []))).alloc (.loop r)).heap[w.heap.size]?=some (.deferred (some [])):=(Below.heap_alloc _ _ _ (by simp)).trans (World.alloc_heap_new w _)
 have hI1:I 0 ((w.alloc (.deferred (some []))).alloc (.loop r)):=hI.alloc _ (hI.alloc _ h0)
 obtain ⟨W1,hW1⟩:∃W1,W1=(w.alloc (.deferred (some []))).alloc (.loop r):=⟨_,rfl⟩
 rw [←hW1] at hL hD hI1
 refine ⟨w.heap.size+1,[{ target:=.collected w.heap.size,args:=#[] }],W1,{ target:=.fn (.func gf) lb,args:=#[.func (.yield (w.heap.size+1)) #[] #[]] },W1,gf,#[.func (.yield (w.heap.size+1)) #[] #[]]++lb,W1,
  (by rw [hW1,hr];exact run_enterLoop_outer _ _ _ _ _),(by simp only [resolve,hg];simp [go_sem]),(fun f' hf'=>by simp [Target.leads] at hf';subst hf';exact hFg),(by simp [invoke,go_sem,eg]),fun _=>h1,?_⟩
 refine (hseq (w.heap.size+1) (fun k W=>I k W∧W.heap[w.heap.size]?=some (.deferred (some []))∧W.heap[w.heap.size+1]?=some (.loop r)) (fun W=>X W∧W.heap[w.heap.size]?=some (.deferred (some []))∧W.heap[w.heap.size+1]?=some (.loop { r with state:=.done,pending:=some .ret })) _ (fun k W h=>h.1) ⟨hI1,hD,hL⟩ ?_).mono ?_
 ·rintro k W hk ⟨hi,hd,hl⟩
  have hrd:=w2c (F:=F) (P:=P) (m:=n-1-1) (l:=w.heap.size+1) (r:=r) (args:=encs k) (W:=W) (I':=fun W'=>I (k+1) W'∧W'.heap[w.heap.size]?=some (.deferred (some []))) (X:=fun W'=>X W'∧W'.heap[w.heap.size]?=some (.deferred (some []))) (by rw [hr];exact hfn) hl (by rw [hr]) (by rw [hr]) (by rw [hr];exact hps k) (by
   have e1:r.assign=assign:=by rw [hr]
   have e2:r.body=body:=by rw [hr]
   have e3:r.params=ps:=by rw [hr]
   have e4:r.tmps=a.tmps:=by rw [hr]
   have hassign':=hassign
   have hbody':=hbody
   rw [←e1,←e3,←e4] at hassign'
   rw [←e2] at hbody'
   refine hassign' _ k W _ hk hi fun a' W' kp hi' hax=>?_
   have hl':=kp.same (w.heap.size+1) (.loop r) hl rfl
   have hd':=kp.same w.heap.size (.deferred (some [])) hd rfl
   refine ⟨hl',wpIn_mono (hbody' _ k a' _ hk (hI.putObj _ hi' (by omega) hl' rfl) ((hAx k a').putObj (s:=()) _ hax (by omega) hl' rfl)) ?_⟩
   rintro e a'' W'' ⟨kp2,hor⟩
   have hl2:=kp2.same (w.heap.size+1) (.loop { r with state:=.busy }) (z4d hl') rfl
   have hd2:=kp2.same w.heap.size (.deferred (some [])) ((World.putObj_heap_other (by omega)).trans hd') rfl
   refine ⟨hl2,?_⟩
   rcases hor with ⟨rfl,hi2⟩|⟨rfl,hx2⟩
   ·exact .inl ⟨rfl,hI.putObj _ hi2 (by omega) hl2 rfl,(World.putObj_heap_other (by omega)).trans hd2⟩
   ·exact .inr ⟨rfl,hX.putObj (s:=()) _ hx2 (by omega) hl2 rfl,(World.putObj_heap_other (by omega)).trans hd2⟩)
  obtain ⟨f',t',as',b',hy,hR⟩:=hrd
  refine ⟨f',t',as',b',hy,hR.mono ?_⟩
  rintro e W' (⟨x1,⟨x2,x3⟩,x4⟩|⟨x1,⟨x2,x3⟩,x4⟩)
  ·exact .inl ⟨x1,x2,x3,x4⟩
  ·exact .inr ⟨x1,x2,x3,x4⟩
 ·rintro e W2 ⟨⟨v,rfl⟩,⟨hi,hd,hl⟩|⟨hx,hd,hl⟩⟩
  ·have h2:=run_endLoop (P:=P) hl (by rw [hr];simp)
   have e2:r.pending=none:=by rw [hr]
   rw [e2] at h2
   exact ⟨none,_,h2,hdone _ _ (Nat.le_refl _) (hI.putObj _ hi (by omega) hl rfl) ((World.putObj_heap_other (by omega)).trans hd)⟩
  ·have h2:=run_endLoop (P:=P) hl (by simp)
   exact ⟨some .ret,_,h2,wpIn_ret (hstop _ _ (Nat.le_refl _) (hX.putObj (s:=()) _ hx (by omega) hl rfl) ((World.putObj_heap_other (by omega)).trans hd))⟩
end T6
namespace T6
open Go.RowKit Go.Shelf
attribute [local go_sem] Oper.semAt_some
structure BackR (Bs gr M cap:Nat) (v0 v1 v2:Nat→Value) (W:World):Prop where
 box:W.cell? ⟨Bs,0,none⟩=some (.slice (some ⟨gr,0,none⟩) M cap)
 one:∀j,j<M→W.cell? ⟨gr,j*3,none⟩=some (v0 j)
 two:∀j,j<M→W.cell? ⟨gr,j*3+1,none⟩=some (v1 j)
 thr:∀j,j<M→W.cell? ⟨gr,j*3+2,none⟩=some (v2 j)
def encB (M:Nat) (v0 v1 v2:Nat→Value) (k:Nat):Array Value:=#[.int .i64 ((M-1-k:Nat):Int),.agg #[v0 (M-1-k),v1 (M-1-k),v2 (M-1-k)]]
theorem y4m (F:Fence) (m:Nat) (h43:F.fn 126) (hro:F.round=none) (hm:1≤m) (l Bs gr M cap:Nat) (hM:M≤20) (v0 v1 v2:Nat→Value) (J:Nat→World→Prop) (Y:World→Prop) (hJ:∀k W,J k W→BackR Bs gr M cap v0 v1 v2 W)
  (hY:∀k W,k<M→J k W→YieldAt F (m-1) Tryz.prog l (encB M v0 v1 v2 k) W fun e W'=>(e=.returned (.bool true)∧J (k+1) W')∨(e=.returned (.bool false)∧Y W')) (W:World) (h0:J 0 W) :
  CallsIn F m Tryz.prog 126 #[.func (.yield l) #[] #[],.pointer (some ⟨Bs,0,none⟩)] W fun e W'=>(∃v,e=.returned v)∧(J M W'∨Y W'):=by
 have hb0:=(hJ 0 W h0).box
 refine callsIn_of_wp Tryz.func126 rfl h43 ?_ hro
 simp only [Tryz.ntmps126,List.size_toArray,List.length_cons,List.length_nil,Nat.reduceAdd,Nat.reduceSub,Array.replicate_succ,Array.replicate_zero,List.push_toArray,List.append_toArray,List.nil_append,List.cons_append]
 gi_wp2
 gi_loopw [3] (fun i wr=>∃k:Nat,k≤M∧i=.int .i64 ((M:Int)-1-(k:Int))∧J k wr) (fun i _=>(intOf i+1).toNat)
 case atStart=>exact ⟨0,Nat.zero_le _,by simp,h0⟩
 case round =>
  obtain ⟨k,hk,rfl,hJs⟩:=hrel
  by_cases hlt:k<M
  ·obtain ⟨j,hj⟩:∃j:Nat,j=M-1-k:=⟨_,rfl⟩
   have e:(M:Int)-1-(k:Int)=(j:Int):=by omega
   have hR:=hJ k wr hJs
   have c0:=hR.box
   have c1:=hR.one j (by omega)
   have c2:=hR.two j (by omega)
   have c3:=hR.thr j (by omega)
   obtain ⟨fn,tmps,assign,body,hy,hRd⟩:=hY k wr hlt hJs
   unfold encB at hy
   rw [←hj] at hy
   have hjM:(j:Int)<(M:Int):=by omega
   have hj0:(0:Int)≤(j:Int):=by omega
   rw [e]
   have HE:=qz e
   clear hR hj e
   gi_wp2
   refine hRd.mono ?_
   rintro e W3 (⟨rfl,hJ3⟩|⟨rfl,hY3⟩)
   ·gi_wp2
    go_roundw
    case rel=>exact ⟨k+1,by omega,by have:=uh HE;congr 1;omega,hJ3⟩
    case measure=>have:=uh HE;simp [intOf];try omega
   ·gi_wp2
    refine bodyPost_ret (results_none rfl _ _ _) rfl ?_
    exact ⟨⟨_,rfl⟩,.inr hY3⟩
  ·obtain rfl:k=M:=by omega
   have e:(k:Int)-1-(k:Int) = -1:=by omega
   rw [e]
   gi_wp2
   go_end0
   exact ⟨⟨_,rfl⟩,.inl hJs⟩
attribute [local go_sem ↓] wp_at_zero wp_at_succ
theorem w3t (a:Option Addr) (len cap:Nat) (w:World) :
  Calls Tryz.prog 97 #[.slice a len cap] w fun e w'=>e=.returned (.func (.func 126) #[] #[.pointer (some ⟨w.heap.size,0,none⟩)])∧w'=w.alloc (.cells #[.slice a len cap] 121):=by
 go_enter Tryz.func97,Tryz.ntmps97
 go_wp2_with fail
 go_ret
 exact ⟨rfl,rfl⟩
end T6
namespace T6
open Go.RowKit Go.Maps
attribute [local go_sem ↓] wp_at_zero wp_at_succ
theorem x3e (zs:List Nat) (a:Option Addr) (B cap p W M gx:Nat) (w:World) (hr:z0m B w (.slice a zs.length cap) zs) (hcap:zs.length≤cap) (hz:∀c∈zs,c<256) (hl:zs.length≤100000000) (hp:p≤zs.length) (hB:B≤w.heap.size) (hW:W≤9223372036854775807) (hM:M≤9223372036854775807)
  (hx0:w.cell? ⟨gx,0,none⟩=some (.slice a zs.length cap)) (hx1:w.cell? ⟨gx,1,none⟩=some (.int .i64 (W:Int))) (hx2:w.cell? ⟨gx,2,none⟩=some (.int .i64 (M:Int))) (hx3:w.cell? ⟨gx,3,none⟩=some (.slice none 0 0)) (hm:ML w) :
  Calls Tryz.prog 65 #[.pointer (some ⟨gx,0,none⟩),.int .i64 (p:Int)] w fun e w'=>x4s zs p (min p W) (min M (zs.length-p)) w e w':=by
 obtain ⟨H,hH⟩:∃H,H=w.heap.size:=⟨_,rfl⟩
 have HHW:=qz hH
 have hgxH:gx<H:=by rw [hH];exact z1e hx0
 have HX0:=qz hx0
 have HX1:=qz hx1
 have HX2:=qz hx2
 have HX3:=qz hx3
 have HR:=qz hr
 have HZ:=qz hz
 have HML:=qz hm
 obtain ⟨L,htx⟩:∃L,L=zs.length:=⟨_,rfl⟩
 rw [←htx] at HX0 HR hcap hl hp ⊢
 have HTX:=qz htx
 obtain ⟨m0,hm0⟩:∃m0,m0=min M (L-p):=⟨_,rfl⟩
 obtain ⟨u,hu⟩:∃u,u=min p W:=⟨_,rfl⟩
 rw [←hm0,←hu]
 have HU:=qz hu
 have HM0:=qz hm0
 have hx3':(((((w.alloc (.cells #[.pointer (some ⟨gx,0,none⟩)] 119)).alloc (.cells #[.int .i64 (p:Int)] 3)).alloc (.cells #[.int .i64 0] 3)).alloc (.cells #[.int .i64 0] 3))).cell? ⟨gx,3,none⟩=some (.slice none 0 0):=by
  have hbl:Below w.heap.size w ((((w.alloc (.cells #[.pointer (some ⟨gx,0,none⟩)] 119)).alloc (.cells #[.int .i64 (p:Int)] 3)).alloc (.cells #[.int .i64 0] 3)).alloc (.cells #[.int .i64 0] 3)):=((((Below.refl _ _).alloc (by omega) _).alloc (by simp) _).alloc (by simp;omega) _).alloc (by simp;omega) _
  exact z0a hbl hx3
 clear hr hz hm htx hx0 hx1 hx2 hx3 hH hu hm0
 go_enter Tryz.func65,Tryz.ntmps65
 go_upto_region 2 with fail
 have e3:w.heap.size+1+1+1=H+3:=by rw [uh HHW]
 have e2:w.heap.size+1+1=H+2:=by rw [uh HHW]
 have e1:w.heap.size+1=H+1:=by rw [uh HHW]
 have e0:w.heap.size=H:=(uh HHW).symm
 rw [e3,e2,e1,e0]
 generalize hW4:(((w.alloc (.cells #[.pointer (some ⟨gx,0,none⟩)] 119)).alloc (.cells #[.int .i64 (p:Int)] 3)).alloc (.cells #[.int .i64 0] 3)).alloc (.cells #[.int .i64 0] 3)=W4
 have HB0:Hid (W4.heap[H]?=some (.cells #[.pointer (some ⟨gx,0,none⟩)] 119 (0,0))∧W4.heap[H+1]?=some (.cells #[.int .i64 (p:Int)] 3 (0,0))):=qz (by
  rw [←hW4,uh HHW]
  refine ⟨?_,?_⟩<;>simp only [z0k,World.size_alloc]<;>(repeat (first|rw [if_pos (by omega)]|rw [if_neg (by omega)]))<;>rfl)
 have HA:Hid (W4.heap[H+2]?=some (.cells #[.int .i64 0] 3 (0,0))∧W4.heap[H+3]?=some (.cells #[.int .i64 0] 3 (0,0))):=qz (by
  rw [←hW4,uh HHW]
  refine ⟨?_,?_⟩<;>simp only [z0k,World.size_alloc]<;>(repeat (first|rw [if_pos (by omega)]|rw [if_neg (by omega)]))<;>rfl)
 have HBL:Hid (Below H w W4):=qz (by
  rw [←hW4]
  exact ((((Below.refl _ _).alloc (by omega) _).alloc (by simp;omega) _).alloc (by simp;omega) _).alloc (by simp;omega) _)
 clear hW4 e0 e1 e2 e3 hx3'
 have HS:Hid (W4.drew.cell? ⟨H,0,none⟩=some (.pointer (some ⟨gx,0,none⟩))∧W4.drew.cell? ⟨H+1,0,none⟩=some (.int .i64 (p:Int))∧W4.drew.cell? ⟨gx,0,none⟩=some (.slice a L cap)∧W4.drew.cell? ⟨gx,1,none⟩=some (.int .i64 (W:Int))∧W4.drew.cell? ⟨gx,2,none⟩=some (.int .i64 (M:Int))):=qz (by
  refine ⟨?_,?_,?_,?_,?_⟩
  ·show W4.cell? _=_
   simp [World.cell?,(uh HB0).1]
  ·show W4.cell? _=_
   simp [World.cell?,(uh HB0).2]
  ·exact cell_below (uh HBL) (uh HX0) hgxH
  ·exact cell_below (uh HBL) (uh HX1) hgxH
  ·exact cell_below (uh HBL) (uh HX2) hgxH)
 have HKS:Hid (∀ (y:World) (k:Nat) (x:Value),(k=H+2∨k=H+3)→(y.cell? ⟨H,0,none⟩=some (.pointer (some ⟨gx,0,none⟩))∧y.cell? ⟨H+1,0,none⟩=some (.int .i64 (p:Int))∧y.cell? ⟨gx,0,none⟩=some (.slice a L cap)∧y.cell? ⟨gx,1,none⟩=some (.int .i64 (W:Int))∧y.cell? ⟨gx,2,none⟩=some (.int .i64 (M:Int))) →
   (y.setCell ⟨k,0,none⟩ x).cell? ⟨H,0,none⟩=some (.pointer (some ⟨gx,0,none⟩))∧(y.setCell ⟨k,0,none⟩ x).cell? ⟨H+1,0,none⟩=some (.int .i64 (p:Int))∧(y.setCell ⟨k,0,none⟩ x).cell? ⟨gx,0,none⟩=some (.slice a L cap)∧(y.setCell ⟨k,0,none⟩ x).cell? ⟨gx,1,none⟩=some (.int .i64 (W:Int))∧(y.setCell ⟨k,0,none⟩ x).cell? ⟨gx,2,none⟩=some (.int .i64 (M:Int))):=qz fun y k x hk h=>by
  have kp:∀ (g i:Nat),g≠k→(y.setCell ⟨k,0,none⟩ x).cell? ⟨g,i,none⟩=y.cell? ⟨g,i,none⟩:=fun g i hg=>World.cell?_of_block (heap_setCell_other _ _ _ _ (by exact hg))
  rw [kp _ _ (by omega),kp _ _ (by omega),kp _ _ (by omega),kp _ _ (by omega),kp _ _ (by omega)]
  exact h
 have HLK:Hid (∃T t:Nat,Calls Tryz.prog 62 #[.slice a L cap,.int .i64 (p:Int),.int .i64 (W:Int),.int .i64 (M:Int)] W4.drew fun e w'=>∃a',e=.returned (.tuple #[.slice a' T T,.int .i64 (t:Int)])∧w'=W4.drew ∧
   ∀q,Calls Tryz.prog 95 #[.slice a' T T,.int .i64 (t:Int)] (W4.drew.drewN q) fun e w'=>∃n d:Nat,e=.returned (.tuple #[.int .i64 (n:Int),.int .i64 (d:Int)])∧IsBest (zf zs) p u m0 n d∧∃q,w'=W4.drew.drewN q):=qz (by
  have hml:ML W4.drew:=by
   obtain ⟨m,hm⟩:=uh HML
   exact ⟨m,cell_below (uh HBL) hm (by have:=z1e hm;rw [uh HHW];exact this)⟩
  have hr1:z0m B W4.drew (.slice a zs.length cap) zs:=by
   have h:=uh HR
   rw [uh HTX] at h
   exact h.stays ⟨(uh HBL).os,(uh HBL).tape,(uh HBL).output,(uh HBL).size,fun k hk=>(uh HBL).block k (by rw [uh HHW];omega)⟩
  have:=y7g zs a cap B p W M W4.drew hr1 (by rw [←uh HTX];exact hcap) (uh HZ) (by rw [←uh HTX];omega) (by rw [←uh HTX];omega) hW hM hml
  rw [←uh HU,←uh HTX,←uh HM0] at this
  exact this)
 refine wp_region_noPanic ?_
 refine wp_region_held_drew (S:=fun y=>y.cell? ⟨H,0,none⟩=some (.pointer (some ⟨gx,0,none⟩))∧y.cell? ⟨H+1,0,none⟩=some (.int .i64 (p:Int))∧y.cell? ⟨gx,0,none⟩=some (.slice a L cap)∧y.cell? ⟨gx,1,none⟩=some (.int .i64 (W:Int))∧y.cell? ⟨gx,2,none⟩=some (.int .i64 (M:Int))) (by kernel_rfl) (uh HS) (fun hHeld=>?_)
 refine hT 0 17 rfl rfl hHeld nPp (v:=?_) (fun x' hSx=>?_) ?_
 rotate_left 1
 ·(obtain ⟨q1,q2,q3,q4,q5⟩:=hSx;go_simp<;>with_reducible rfl)
 simp only [sA,sB]
 refine hT 1 18 rfl rfl hHeld nPp (v:=?_) (fun x' hSx=>?_) ?_
 rotate_left 1
 ·(obtain ⟨q1,q2,q3,q4,q5⟩:=hSx;go_simp<;>with_reducible rfl)
 simp only [sA,sB]
 refine hT 2 19 rfl rfl hHeld nPp (v:=?_) (fun x' hSx=>?_) ?_
 rotate_left 1
 ·(obtain ⟨q1,q2,q3,q4,q5⟩:=hSx;go_simp<;>with_reducible rfl)
 simp only [sA,sB]
 refine hT 3 20 rfl rfl hHeld nPp (v:=?_) (fun x' hSx=>?_) ?_
 rotate_left 1
 ·(obtain ⟨q1,q2,q3,q4,q5⟩:=hSx;go_simp<;>with_reducible rfl)
 simp only [sA,sB]
 refine hT 4 21 rfl rfl hHeld nPp (v:=?_) (fun x' hSx=>?_) ?_
 rotate_left 1
 ·(obtain ⟨q1,q2,q3,q4,q5⟩:=hSx;go_simp<;>with_reducible rfl)
 simp only [sA,sB]
 refine hT 5 22 rfl rfl hHeld nPp (v:=?_) (fun x' hSx=>?_) ?_
 rotate_left 1
 ·(obtain ⟨q1,q2,q3,q4,q5⟩:=hSx;go_simp<;>with_reducible rfl)
 simp only [sA,sB]
 refine hT 6 23 rfl rfl hHeld nPp (v:=?_) (fun x' hSx=>?_) ?_
 rotate_left 1
 ·(obtain ⟨q1,q2,q3,q4,q5⟩:=hSx;go_simp<;>with_reducible rfl)
 simp only [sA,sB]
 refine hT 7 24 rfl rfl hHeld nPp (v:=?_) (fun x' hSx=>?_) ?_
 rotate_left 1
 ·(obtain ⟨q1,q2,q3,q4,q5⟩:=hSx;go_simp<;>with_reducible rfl)
 simp only [sA,sB]
 refine hT 8 25 rfl rfl hHeld nPp (v:=?_) (fun x' hSx=>?_) ?_
 rotate_left 1
 ·(obtain ⟨q1,q2,q3,q4,q5⟩:=hSx;go_simp<;>with_reducible rfl)
 simp only [sA,sB]
 refine hT 9 26 rfl rfl hHeld nPp (v:=?_) (fun x' hSx=>?_) ?_
 rotate_left 1
 ·(obtain ⟨q1,q2,q3,q4,q5⟩:=hSx;go_simp<;>with_reducible rfl)
 simp only [sA,sB]
 refine hT 10 27 rfl rfl hHeld nPp (v:=?_) (fun x' hSx=>?_) ?_
 rotate_left 1
 ·(obtain ⟨q1,q2,q3,q4,q5⟩:=hSx;go_simp<;>with_reducible rfl)
 simp only [sA,sB]
 refine hT 11 28 rfl rfl hHeld nPp (v:=?_) (fun x' hSx=>?_) ?_
 rotate_left 1
 ·(obtain ⟨q1,q2,q3,q4,q5⟩:=hSx;go_simp<;>with_reducible rfl)
 simp only [sA,sB]
 refine hT 12 29 rfl rfl hHeld nPp (v:=?_) (fun x' hSx=>?_) ?_
 rotate_left 1
 ·(obtain ⟨q1,q2,q3,q4,q5⟩:=hSx;go_simp<;>with_reducible rfl)
 simp only [sA,sB]
 obtain ⟨T,t,hlk⟩:=uh HLK
 refine z0u 13 30 (by kernel_rfl) rfl rfl (by rfl) (by go_simp<;>exact ⟨rfl,rfl⟩) ?_
 refine hlk.mono ?_
 rintro e w' ⟨a',rfl,hww,hsk⟩
 replace hww:=hww.symm
 subst hww
 refine ⟨_,rfl,hHeld,?_⟩
 simp only [sA,sB]
 refine hT 14 31 rfl rfl hHeld nPp (v:=?_) (fun x' hSx=>?_) ?_
 rotate_left 1
 ·go_simp<;>with_reducible rfl
 simp only [sA,sB]
 refine hT 15 32 rfl rfl hHeld nPp (v:=?_) (fun x' hSx=>?_) ?_
 rotate_left 1
 ·go_simp<;>with_reducible rfl
 simp only [sA,sB]
 have HSK:=qz (hsk 0)
 clear hsk hlk
 refine z0u 16 33 (by kernel_rfl) rfl rfl (by rfl) (by go_simp<;>exact ⟨rfl,rfl⟩) ?_
 refine (uh HSK).mono ?_
 rintro e w' ⟨n2,d2,rfl,hbest,q,rfl⟩
 refine ⟨_,rfl,hHeld,?_⟩
 simp only [sA,sB]
 refine hT 17 34 rfl rfl hHeld nPp (v:=?_) (fun x' hSx=>?_) ?_
 rotate_left 1
 ·go_simp<;>with_reducible rfl
 simp only [sA,sB]
 refine hT 18 35 rfl rfl hHeld nPp (v:=?_) (fun x' hSx=>?_) ?_
 rotate_left 1
 ·go_simp<;>with_reducible rfl
 simp only [sA,sB]
 obtain ⟨Wy,hWy⟩:∃Wy,Wy=W4.drew.drewN q:=⟨_,rfl⟩
 have hA2:Wy.heap[H+2]?=some (.cells #[.int .i64 0] 3 (0,0)):=by rw [hWy];exact (uh HA).1
 have hA3:Wy.heap[H+3]?=some (.cells #[.int .i64 0] 3 (0,0)):=by rw [hWy];exact (uh HA).2
 have HKy:Hid (Below H w Wy):=qz (by rw [hWy];exact ⟨(uh HBL).os,(uh HBL).tape,(uh HBL).output,(uh HBL).size,(uh HBL).block⟩)
 have hHy:(fun y=>y.cell? ⟨H,0,none⟩=some (.pointer (some ⟨gx,0,none⟩))∧y.cell? ⟨H+1,0,none⟩=some (.int .i64 (p:Int))∧y.cell? ⟨gx,0,none⟩=some (.slice a L cap)∧y.cell? ⟨gx,1,none⟩=some (.int .i64 (W:Int))∧y.cell? ⟨gx,2,none⟩=some (.int .i64 (M:Int))) Wy:=by rw [hWy];exact hHeld
 rw [←hWy]
 clear hWy hHeld
 have hHy3:(fun y=>y.cell? ⟨H,0,none⟩=some (.pointer (some ⟨gx,0,none⟩))∧y.cell? ⟨H+1,0,none⟩=some (.int .i64 (p:Int))∧y.cell? ⟨gx,0,none⟩=some (.slice a L cap)∧y.cell? ⟨gx,1,none⟩=some (.int .i64 (W:Int))∧y.cell? ⟨gx,2,none⟩=some (.int .i64 (M:Int))) (Wy.setCell ⟨H+2,0,none⟩ (.int .i64 (n2:Int))):=uh HKS _ _ _ (.inl rfl) hHy
 have hHy4:(fun y=>y.cell? ⟨H,0,none⟩=some (.pointer (some ⟨gx,0,none⟩))∧y.cell? ⟨H+1,0,none⟩=some (.int .i64 (p:Int))∧y.cell? ⟨gx,0,none⟩=some (.slice a L cap)∧y.cell? ⟨gx,1,none⟩=some (.int .i64 (W:Int))∧y.cell? ⟨gx,2,none⟩=some (.int .i64 (M:Int))) ((Wy.setCell ⟨H+2,0,none⟩ (.int .i64 (n2:Int))).setCell ⟨H+3,0,none⟩ (.int .i64 (d2:Int))):=uh HKS _ _ _ (.inr rfl) hHy3
 have q1:Wy.cell? ⟨H+2,0,none⟩=some (.int .i64 0):=by simp [World.cell?,hA2]
 have q2:Wy.frozen? ⟨H+2,0,none⟩=false:=by simp [World.frozen?,hA2]
 have hB3:(Wy.setCell ⟨H+2,0,none⟩ (.int .i64 (n2:Int))).heap[H+3]?=some (.cells #[.int .i64 0] 3 (0,0)):=by rw [heap_setCell_other _ _ _ _ (by show H+3≠H+2;omega)];exact hA3
 have q3:(Wy.setCell ⟨H+2,0,none⟩ (.int .i64 (n2:Int))).cell? ⟨H+3,0,none⟩=some (.int .i64 0):=by simp [World.cell?,hB3]
 have q4:(Wy.setCell ⟨H+2,0,none⟩ (.int .i64 (n2:Int))).frozen? ⟨H+3,0,none⟩=false:=by simp [World.frozen?,hB3]
 refine hKk 19 rfl rfl (w':=Wy.setCell ⟨H+2,0,none⟩ (.int .i64 (n2:Int))) ?_ hHy3 ?_
 ·go_simp
 refine hKk 20 rfl rfl (w':=(Wy.setCell ⟨H+2,0,none⟩ (.int .i64 (n2:Int))).setCell ⟨H+3,0,none⟩ (.int .i64 (d2:Int))) ?_ hHy4 ?_
 ·go_simp
 refine dN ?_
 have HBX:=qz hbest
 have HBE:Hid (Below H w ((Wy.setCell ⟨H+2,0,none⟩ (.int .i64 (n2:Int))).setCell ⟨H+3,0,none⟩ (.int .i64 (d2:Int)))):=qz (((uh HKy).setCell (by show H≤H+2;omega) _).setCell (by show H≤H+3;omega) _)
 have HC2:Hid (((Wy.setCell ⟨H+2,0,none⟩ (.int .i64 (n2:Int))).setCell ⟨H+3,0,none⟩ (.int .i64 (d2:Int))).cell? ⟨H+2,0,none⟩=some (.int .i64 (n2:Int))∧((Wy.setCell ⟨H+2,0,none⟩ (.int .i64 (n2:Int))).setCell ⟨H+3,0,none⟩ (.int .i64 (d2:Int))).cell? ⟨H+3,0,none⟩=some (.int .i64 (d2:Int))):=qz ⟨by rw [World.cell?_of_block (heap_setCell_other _ _ _ _ (by show H+2≠H+3;omega))];simp only [World.cell?,heap_setCell_same _ (H+2) 0 _ 3 _ hA2];rfl,by simp only [World.cell?,heap_setCell_same _ (H+3) 0 _ 3 _ hB3];rfl⟩
 clear hbest hHy hHy3 hHy4 q1 q2 q3 q4 hA2 hA3 hB3
 go_wp2_with fail
 refine bodyPost_ret (z4f rfl _ _ ⟨H+2,0,none⟩ ⟨H+3,0,none⟩ rfl rfl _ _ (uh HC2).1 (uh HC2).2) rfl ⟨n2,d2,rfl,uh HBX,by rw [←uh HHW];exact uh HBE⟩
end T6
namespace T6
open Go.RowKit Go.Maps Go.Shelf
def z3y (M0 N:Nat) (sz:Nat→Nat):Nat→Nat
 | 0=>M0
 | k+1=>min (z3y M0 N sz k) (sz (N-1-k)-1)
theorem y7p (M0 N:Nat) (sz:Nat→Nat):∀k,z3y M0 N sz k≤M0
 | 0=>Nat.le_refl _
 | k+1=>by have:=y7p M0 N sz k;rw [z3y];omega
theorem y7o {M0 N K:Nat} {sz:Nat→Nat} (hd:∀j,j+1<N→sz (j+1)=2*sz j) (h1:∀j,j<N→1≤sz j) (h0:min (sz (N-1)) K≤M0):∀k,k<N→min (sz (N-1-k)) K≤z3y M0 N sz k
 | 0,_=>h0
 | k+1,hk=>by
  have ih:=y7o hd h1 h0 k (by omega)
  have h2:=hd (N-1-(k+1)) (by omega)
  have h3:=h1 (N-1-(k+1)) (by omega)
  rw [show N-1-(k+1)+1=N-1-k by omega] at h2
  rw [z3y]
  omega
theorem w6n {N:Nat} {sz:Nat→Nat} (hd:∀j,j+1<N→sz (j+1)=2*sz j):∀j,j<N→sz 0≤sz j
 | 0,_=>Nat.le_refl _
 | j+1,h=>by have:=w6n hd j (by omega);have:=hd j h;omega
structure MS (H gx p W M:Nat) (tx:Value) (y:World):Prop where
 c0:y.cell? ⟨H,0,none⟩=some (.pointer (some ⟨gx,0,none⟩))
 c1:y.cell? ⟨H+1,0,none⟩=some (.int .i64 (p:Int))
 x0:y.cell? ⟨gx,0,none⟩=some tx
 x1:y.cell? ⟨gx,1,none⟩=some (.int .i64 (W:Int))
 x2:y.cell? ⟨gx,2,none⟩=some (.int .i64 (M:Int))
theorem MS.same {H gx p W M:Nat} {tx:Value} {y z:World} (h:MS H gx p W M tx y) (e:z.heap=y.heap):MS H gx p W M tx z:=by
 have k:∀a,z.cell? a=y.cell? a:=fun a=>World.cell?_of_block (by rw [e])
 exact ⟨by rw [k];exact h.c0,by rw [k];exact h.c1,by rw [k];exact h.x0,by rw [k];exact h.x1,by rw [k];exact h.x2⟩
theorem MS.alloc {H gx p W M:Nat} {tx:Value} {y:World} (h:MS H gx p W M tx y) (o:Obj):MS H gx p W M tx (y.alloc o):=by
 have hb:=(Below.refl y.heap.size y).alloc (Nat.le_refl _) o
 exact ⟨z0a hb h.c0,z0a hb h.c1,z0a hb h.x0,z0a hb h.x1,z0a hb h.x2⟩
theorem MS.set {H gx p W M k:Nat} {tx:Value} {y:World} (h:MS H gx p W M tx y) (hk:H+1<k) (hg:gx≠k) (u:Value):MS H gx p W M tx (y.setCell ⟨k,0,none⟩ u):=by
 have kp:∀ (g i:Nat),g≠k→(y.setCell ⟨k,0,none⟩ u).cell? ⟨g,i,none⟩=y.cell? ⟨g,i,none⟩:=fun g i hg=>World.cell?_of_block (heap_setCell_other _ _ _ _ (by exact hg))
 exact ⟨by rw [kp _ _ (by omega)];exact h.c0,by rw [kp _ _ (by omega)];exact h.c1,by rw [kp _ _ hg];exact h.x0,by rw [kp _ _ hg];exact h.x1,by rw [kp _ _ hg];exact h.x2⟩
structure MB (H b6 gx gl N lc p f Mk n d:Nat) (W:World):Prop where
 h0:W.heap[H]?=some (.cells #[.pointer (some ⟨gx,0,none⟩)] 119 (0,0))
 h1:W.heap[H+1]?=some (.cells #[.int .i64 (p:Int)] 3 (0,0))
 h2:W.heap[H+2]?=some (.cells #[.int .i64 (n:Int)] 3 (0,0))
 h3:W.heap[H+3]?=some (.cells #[.int .i64 (d:Int)] 3 (0,0))
 h6:W.heap[b6]?=some (.cells #[.int .i64 (f:Int)] 3 (0,0))
 h7:W.heap[b6+1]?=some (.cells #[.int .i64 (Mk:Int)] 3 (0,0))
 h8:W.heap[b6+2]?=some (.cells #[.slice (some ⟨gl,0,none⟩) N lc] 121 (0,0))
 le:H+4≤b6
structure KP (H b6:Nat) (W1 W:World):Prop where
 os:W.os=W1.os
 tape:W.tape=W1.tape
 output:W.output=W1.output
 size:b6+3≤W.heap.size
 kp:∀x:Nat,x<b6→(x<H∨H+4≤x)→W.heap[x]?=W1.heap[x]?
theorem y1u {W W':World} {row:Option Nat} {c:Nat} (hs:c≤W.heap.size) (hg:W.grownBy W' row) (hr:∀r,row=some r→c≤r):∀x,x<c→W'.heap[x]?=W.heap[x]?:=fun x hx=>hg.block x (by omega) (fun e=>by have:=hr x e.symm;omega)
theorem MB.keep {H b6 gx gl N lc p f Mk n d:Nat} {W W':World} (h:MB H b6 gx gl N lc p f Mk n d W) (hk:∀x,x<b6+3→W'.heap[x]?=W.heap[x]?):MB H b6 gx gl N lc p f Mk n d W':=by
 have hl:=h.le
 exact ⟨by rw [hk _ (by omega)];exact h.h0,by rw [hk _ (by omega)];exact h.h1,by rw [hk _ (by omega)];exact h.h2,by rw [hk _ (by omega)];exact h.h3,by rw [hk _ (by omega)];exact h.h6,by rw [hk _ (by omega)];exact h.h7,by rw [hk _ (by omega)];exact h.h8,hl⟩
theorem KP.keep {H b6:Nat} {W1 W W':World} (h:KP H b6 W1 W) (ho:W'.os=W.os) (ht:W'.tape=W.tape) (hu:W'.output=W.output) (hs:W.heap.size≤W'.heap.size) (hk:∀x,x<b6→(x<H∨H+4≤x)→W'.heap[x]?=W.heap[x]?):KP H b6 W1 W' :=
 ⟨ho.trans h.os,ht.trans h.tape,hu.trans h.output,by have:=h.size;omega,fun x hx hd=>by rw [hk x hx hd];exact h.kp x hx hd⟩
attribute [local go_sem ↓] wp_at_zero wp_at_succ
attribute [local go_sem] Oper.semAt_some
structure SameW (x y:World):Prop where
 heap:y.heap=x.heap
 os:y.os=x.os
 tape:y.tape=x.tape
 output:y.output=x.output
theorem SameW.cell {x y:World} (h:SameW x y) (a:Addr):y.cell? a=x.cell? a:=World.cell?_of_block (by rw [h.heap])
theorem SameW.frozen {x y:World} (h:SameW x y) (a:Addr):y.frozen? a=x.frozen? a:=by simp [World.frozen?,h.heap]
def MRes (zs:List Nat) (p u M0 s0 n d:Nat):Prop:=IsBest (zf zs) p u M0 n d∨(n=0∧d=0∧(z4v (zf zs) p u s0∨zs.length<p+s0))
def MIs (zs:List Nat) (H b6 gx gl N lc p f u m0:Nat) (sz:Nat→Nat) (W1:World) (k:Nat) (W:World):Prop:=MB H b6 gx gl N lc p f (z3y m0 N sz k) 0 0 W∧KP H b6 W1 W∧Hid (z3y m0 N sz k<m0→z4v (zf zs) p u (z3y m0 N sz k+1))
def MXs (zs:List Nat) (H b6 p u m0:Nat) (W1:World) (W:World):Prop:=∃n d:Nat,W.heap[H+2]?=some (.cells #[.int .i64 (n:Int)] 3 (0,0))∧W.heap[H+3]?=some (.cells #[.int .i64 (d:Int)] 3 (0,0))∧IsBest (zf zs) p u m0 n d∧KP H b6 W1 W
theorem KP.two {H b6:Nat} {W1 W:World} (h:KP H b6 W1 W) (n d:Int):KP H b6 W1 ((W.setCell ⟨H+2,0,none⟩ (.int .i64 n)).setCell ⟨H+3,0,none⟩ (.int .i64 d)) :=
 h.keep rfl rfl rfl (by simp) (fun x hx hd=>by rw [heap_setCell_other _ _ _ _ (by show x≠H+3;omega),heap_setCell_other _ _ _ _ (by show x≠H+2;omega)])
theorem z9i {H:Nat} {W:World} {x y:Value} (h2:W.heap[H+2]?=some (.cells #[x] 3 (0,0))) (h3:W.heap[H+3]?=some (.cells #[y] 3 (0,0))) (n d:Value) :
  ((W.setCell ⟨H+2,0,none⟩ n).setCell ⟨H+3,0,none⟩ d).heap[H+2]?=some (.cells #[n] 3 (0,0))∧((W.setCell ⟨H+2,0,none⟩ n).setCell ⟨H+3,0,none⟩ d).heap[H+3]?=some (.cells #[d] 3 (0,0))∧∀k,k≠H+2→k≠H+3→((W.setCell ⟨H+2,0,none⟩ n).setCell ⟨H+3,0,none⟩ d).heap[k]?=W.heap[k]?:=by
 refine ⟨?_,?_,fun k e1 e2=>by rw [heap_setCell_other _ _ _ _ (by exact e2),heap_setCell_other _ _ _ _ (by exact e1)]⟩
 ·rw [heap_setCell_other _ _ _ _ (by show H+2≠H+3;omega),heap_setCell_same W (H+2) 0 _ 3 _ h2];rfl
 ·rw [heap_setCell_same _ (H+3) 0 #[y] 3 _ (by rw [heap_setCell_other _ _ _ _ (by show H+3≠H+2;omega)];exact h3)];rfl
theorem x7m {zs:List Nat} {p u M M0 N:Nat} {sz:Nat→Nat} (hM0:M0=min M (zs.length-p)) (hN:1≤N) (h1:1≤sz 0) (hsM:sz 0≤M) (h:z3y M0 N sz N<M0→z4v (zf zs) p u (z3y M0 N sz N+1)):z4v (zf zs) p u (sz 0)∨zs.length<p+sz 0:=by
 obtain ⟨k,rfl⟩:∃k,N=k+1:=⟨N-1,by omega⟩
 have hm:z3y M0 (k+1) sz (k+1)≤sz 0-1:=by
  rw [z3y,show k+1-1-k=0 by omega]
  omega
 by_cases hc:z3y M0 (k+1) sz (k+1)<M0
 ·exact .inl ((h hc).mono (by omega))
 ·exact .inr (by omega)
theorem y7l {zs:List Nat} {B N:Nat} {sz b:Nat→Nat} {v:Nat→Value} {m:Nat→Nat} {gx gl lc W M p H b6 n d D:Nat} {tx:Value} {w W1 Wz:World} (hx:IdxAt zs B N sz b v m gx gl lc W M p tx W1) (hk:Keeps B [3,123,162] w W1) (hH:H=w.heap.size) (hb:H+4≤b6) (hgx:gx<H) (hgl:gl<H) (hbj:∀j,j<N→b j<H)
  (hrow:∀j q,j<N→(v j).ownBlock=some q→q<b6∧(q<H∨H+4≤q)) (hkp:KP H b6 W1 Wz) (h2:Wz.heap[H+2]?=some (.cells #[.int .i64 (n:Int)] 3 (0,0))) (h3:Wz.heap[H+3]?=some (.cells #[.int .i64 (d:Int)] 3 (0,0))) (hD:Wz.heap[D]?=some (.deferred (some []))) (hDb:b6+3≤D) :
  Wz.heap[D]?=some (.deferred (some []))∧((Wz.putObj D (.deferred none)).cell? ⟨H+2,0,none⟩=some (.int .i64 (n:Int))∧(Wz.putObj D (.deferred none)).cell? ⟨H+3,0,none⟩=some (.int .i64 (d:Int)))∧IdxAt zs B N sz b v m gx gl lc W M p tx (Wz.putObj D (.deferred none))∧Keeps B [3,123,162] w (Wz.putObj D (.deferred none)):=by
 have hg:=grownBy_putObj' Wz D (.deferred none)
 have kk:∀x,x<b6+3→(Wz.putObj D (.deferred none)).heap[x]?=Wz.heap[x]?:=y1u hkp.size hg (fun r e=>by injection e with e;omega)
 have k1:∀x,x<b6→(x<H∨H+4≤x)→(Wz.putObj D (.deferred none)).heap[x]?=W1.heap[x]?:=fun x hx hd=>by rw [kk x (by omega),hkp.kp x hx hd]
 refine ⟨hD,⟨?_,?_⟩,⟨?_,?_,hx.xB⟩,⟨?_,?_,?_,?_,fun x hx hB=>?_,fun x cs t f hx ht=>?_⟩⟩
 ·rw [World.cell?_of_block (kk (H+2) (by omega))];simp [World.cell?,h2]
 ·rw [World.cell?_of_block (kk (H+3) (by omega))];simp [World.cell?,h3]
 ·rw [k1 gx (by omega) (.inl hgx)];exact hx.xb
 ·exact hx.lvs.kept (k1 gl (by omega) (.inl hgl)) (fun j hj=>k1 _ (by have:=hbj j hj;omega) (.inl (hbj j hj))) (fun j q hj hq=>k1 q (hrow j q hj hq).1 (hrow j q hj hq).2)
 ·rw [hg.os,hkp.os];exact hk.os
 ·rw [hg.tape,hkp.tape];exact hk.tape
 ·rw [hg.output,hkp.output];exact hk.output
 ·have:=hg.size;have:=hkp.size;omega
 ·rw [k1 x (by omega) (.inl (by omega))];exact hk.low x hx hB
 ·have:=z0b hx
  rw [k1 x (by omega) (.inl (by omega))];exact hk.typ x cs t f hx ht
def x4o (zs:List Nat) (B N:Nat) (sz b:Nat→Nat) (gx gl lc W M p u M0:Nat) (tx:Value) (w:World) (e:Ending) (w':World):Prop :=
 ∃n d:Nat,e=.returned (.tuple #[.int .i64 (n:Int),.int .i64 (d:Int)])∧MRes zs p u M0 (sz 0) n d∧(∃v,IdxAt zs B N sz b v (fun j=>cnt zs.length (sz j) p) gx gl lc W M p tx w')∧Keeps B [3,123,162] w w'
theorem x7c (zs:List Nat) (B N:Nat) (sz b:Nat→Nat) (v0:Nat→Value) (gx gl lc W M f0 p cap ba off:Nat) (w:World) (hN:N≤4) (hN1:1≤N) (hlc:N≤lc) (hsz:∀j,j<N→1≤sz j∧sz j≤8) (hsd:∀j,j+1<N→sz (j+1)=2*sz j) (hsM:sz (N-1)≤M) (hr:z0m B w (.slice (some ⟨ba,off,none⟩) zs.length cap) zs) (hcap:zs.length≤cap) (hz:∀c∈zs,c<256) (hp:p<zs.length) (hf:f0≤p) (hl:zs.length≤100000000) (hB:B≤w.heap.size) (hB0:0<B) (hW:W≤9223372036854775807) (hM:M≤9223372036854775807)
  (hx:IdxAt zs B N sz b v0 (fun j=>cnt zs.length (sz j) f0) gx gl lc W M f0 (.slice (some ⟨ba,off,none⟩) zs.length cap) w) (hm:ML w) :
  Calls Tryz.prog 65 #[.pointer (some ⟨gx,0,none⟩),.int .i64 (p:Int)] w fun e w'=>x4o zs B N sz b gx gl lc W M p (min p W) (min M (zs.length-p)) (.slice (some ⟨ba,off,none⟩) zs.length cap) w e w':=by
 obtain ⟨H,hH⟩:∃H,H=w.heap.size:=⟨_,rfl⟩
 have HHW:=qz hH
 have hgxH:gx<H:=by rw [hH];exact z0b hx.xb
 have hglH:gl<H:=by obtain ⟨cs,hcs⟩:=hx.lvs.blk;rw [hH];exact z0b hcs
 have HBJ:Hid (∀j,j<N→b j<H):=qz fun j hj=>by obtain ⟨es,ck,hb⟩:=(hx.lvs.lv j hj).mp.is;rw [hH];exact z0b hb
 have HX:=qz hx
 have HR:=qz hr
 have HZ:=qz hz
 have HML:=qz hm
 have HSZ:=qz hsz
 have HSD:=qz hsd
 have HSZM:Hid (sz 0≤sz (N-1)):=qz (w6n hsd (N-1) (by omega))
 have hBH:B≤H:=by rw [hH];exact hB
 obtain ⟨L,htx⟩:∃L,L=zs.length:=⟨_,rfl⟩
 rw [←htx] at HX HR hcap hl hp ⊢
 have HTX:=qz htx
 obtain ⟨m0,hm0⟩:∃m0,m0=min M (L-p):=⟨_,rfl⟩
 obtain ⟨u,hu⟩:∃u,u=min p W:=⟨_,rfl⟩
 rw [←hm0,←hu]
 have HU:=qz hu
 have HM0:=qz hm0
 have m1:=z2y (A:=(p:Int)) (B:=(W:Int)) rfl rfl hu
 have m2:=z2y (A:=(M:Int)) (B:=(L:Int)-(p:Int)) rfl (by omega) hm0
 obtain ⟨f,hff⟩:∃f:Nat,(p:Int)-(u:Int)=(f:Int):=⟨p-u,by omega⟩
 have hwf:IntKind.i64.wrap (f:Int)=(f:Int):=IntWalk.i64_in _ (by omega)
 have hwL:IntKind.i64.wrap ((L:Int)-(p:Int))=(L:Int)-(p:Int):=IntWalk.i64_in _ (by omega)
 have HF:Hid (f=p-u):=qz (by omega)
 have hm0L:m0≤L-p:=by omega
 have hN0:((N:Int) == 0)=false:=by simp;omega
 clear hu hm0
 obtain ⟨W4,hW4⟩:∃W4,W4=(((w.alloc (.cells #[.pointer (some ⟨gx,0,none⟩)] 119)).alloc (.cells #[.int .i64 (p:Int)] 3)).alloc (.cells #[.int .i64 0] 3)).alloc (.cells #[.int .i64 0] 3):=⟨_,rfl⟩
 have HA:Hid (W4.heap[H]?=some (.cells #[.pointer (some ⟨gx,0,none⟩)] 119 (0,0))∧W4.heap[H+1]?=some (.cells #[.int .i64 (p:Int)] 3 (0,0))∧W4.heap[H+2]?=some (.cells #[.int .i64 ((0:Nat):Int)] 3 (0,0))∧W4.heap[H+3]?=some (.cells #[.int .i64 ((0:Nat):Int)] 3 (0,0))):=qz (by
  rw [hW4,hH]
  refine ⟨?_,?_,?_,?_⟩<;>simp only [z0k,World.size_alloc]<;>(repeat (first|rw [if_pos (by omega)]|rw [if_neg (by omega)]))<;>rfl)
 have HBL:Hid (Below H w W4):=qz (by
  rw [hW4]
  exact ((((Below.refl _ _).alloc (by omega) _).alloc (by simp;omega) _).alloc (by simp;omega) _).alloc (by simp;omega) _)
 have HS4:Hid (W4.heap.size=H+4):=qz (by rw [hW4,hH];simp)
 have hx4:IdxAt zs B N sz b v0 (fun j=>cnt L (sz j) f0) gx gl lc W M f0 (.slice (some ⟨ba,off,none⟩) L cap) W4:=(uh HX).grown (fun i hi=>(uh HBL).block i (by rw [hH];exact hi))
 have c3:=hx4.x3
 have c0:W4.cell? ⟨H,0,none⟩=some (.pointer (some ⟨gx,0,none⟩)):=by simp [World.cell?,(uh HA).1]
 have c1:W4.cell? ⟨H+1,0,none⟩=some (.int .i64 (p:Int)):=by simp [World.cell?,(uh HA).2.1]
 have HFC:=qz (w4f (fun x=>H≤x∧x<H+4) zs B N sz b v0 gx gl lc W M f0 p cap ba off W4 hN hlc (uh HSZ) (by
   have h:=uh HR
   rw [uh HTX] at h
   exact h.stays ⟨(uh HBL).os,(uh HBL).tape,(uh HBL).output,(uh HBL).size,fun k hk=>(uh HBL).block k (by omega)⟩) (by rw [←uh HTX];exact hcap) (uh HZ) (by rw [←uh HTX];omega) hf (by rw [←uh HTX];exact hl) (by rw [uh HS4];omega) (by rw [←uh HTX];exact hx4) (fun x hx=>by
   refine ⟨by rw [uh HS4];exact hx.2,by omega,by omega,fun j hj=>⟨by have:=uh HBJ j hj;omega,fun e=>?_⟩⟩
   obtain ⟨_,cs,ff,hh⟩:=z4k ((uh HX).lvs.lv j hj).row e
   have:=z0b hh
   omega))
 rw [←uh HTX] at HFC
 clear hx hr hz hm hsz hsd htx hx4 hH
 refine (callsIn_wide (n:=4)).1 (callsIn_of_wp_marks Tryz.func65 rfl trivial (wpIn_wide.2 ?_) rfl)
 simp only [Tryz.ntmps65,List.size_toArray,List.length_cons,List.length_nil,Nat.reduceAdd,Nat.reduceSub,Array.replicate_succ,Array.replicate_zero,List.push_toArray,List.append_toArray,List.nil_append,List.cons_append]
 go_upto_region 1 with fail
 have e3:w.heap.size+1+1+1=H+3:=by rw [uh HHW]
 have e2:w.heap.size+1+1=H+2:=by rw [uh HHW]
 have e1:w.heap.size+1=H+1:=by rw [uh HHW]
 have e0:w.heap.size=H:=(uh HHW).symm
 rw [e3,e2,e1,e0,←hW4]
 clear hW4 e0 e1 e2 e3
 go_wp2_with fail
 refine (uh HFC).mono ?_
 rintro e W1 ⟨rfl,⟨v,hx1,hap⟩,hk1,hT1⟩
 obtain ⟨b6,hb6⟩:∃b6,b6=W1.heap.size:=⟨_,rfl⟩
 have hHb:H+4≤b6:=by have:=hk1.size;rw [uh HS4] at this;omega
 have HA1:Hid (W1.heap[H]?=some (.cells #[.pointer (some ⟨gx,0,none⟩)] 119 (0,0))∧W1.heap[H+1]?=some (.cells #[.int .i64 (p:Int)] 3 (0,0))∧W1.heap[H+2]?=some (.cells #[.int .i64 ((0:Nat):Int)] 3 (0,0))∧W1.heap[H+3]?=some (.cells #[.int .i64 ((0:Nat):Int)] 3 (0,0))):=qz (by
  have h:=uh HA
  refine ⟨?_,?_,?_,?_⟩
  ·rw [hT1 _ (by omega)];exact h.1
  ·rw [hT1 _ (by omega)];exact h.2.1
  ·rw [hT1 _ (by omega)];exact h.2.2.1
  ·rw [hT1 _ (by omega)];exact h.2.2.2)
 have HSW1:Hid (MS H gx p W M (.slice (some ⟨ba,off,none⟩) L cap) W1):=qz ⟨by simp [World.cell?,(uh HA1).1],by simp [World.cell?,(uh HA1).2.1],hx1.x0,hx1.x1,hx1.x2⟩
 have HSZW1:Hid (W1.heap.size=b6):=qz hb6.symm
 have HKW1:Hid (Keeps B [3,123,162] w W1):=qz (Keeps.trans (Keeps.of_below (by rw [←uh HHW];exact uh HBL)) hk1)
 have HROW:Hid (∀j q,j<N→(v j).ownBlock=some q→q<b6∧(q<H∨H+4≤q)):=qz fun j q hj hq=>by
  obtain ⟨_,cs,ff,hh⟩:=z4k (hx1.lvs.lv j hj).row hq
  have h1:=z0b hh
  refine ⟨by omega,?_⟩
  rcases Nat.lt_or_ge q H with h|h
  ·exact .inl h
  ·refine .inr (Nat.le_of_not_lt fun h2=>?_)
   exact ((hap q ⟨h,h2⟩).2.2.2 j hj).2 hq
 have HVS:Hid (∀j,j<N→∃va vn vc,v j=.slice va vn vc):=qz fun j hj=>by
  rcases (hx1.lvs.lv j hj).row.2 with ⟨e,_⟩|⟨g,cap,cur,e,_⟩
  ·exact ⟨_,_,_,e⟩
  ·exact ⟨_,_,_,e⟩
 have HML1:Hid (ML W1):=qz (by
  obtain ⟨mm,hmm⟩:=uh HML
  have h0:=z1e hmm
  refine ⟨mm,?_⟩
  rw [World.cell?_of_block ((uh HKW1).low 0 h0 hB0)]
  exact hmm)
 have HX1:=qz hx1
 clear hb6 hx1 hap hk1 hT1 c0 c1 c3 HA HBL HS4 HFC HX
 go_upto_region 4 with fail
 refine wp_region_noPanic ?_
 refine wp_region_held_drew (S:=MS H gx p W M (.slice (some ⟨ba,off,none⟩) L cap)) (by kernel_rfl) ((uh HSW1).same rfl) (fun hHeld=>?_)
 refine hT 0 39 rfl rfl hHeld nPp (v:=?_) (fun x' hSx=>?_) ?_
 rotate_left 1
 ·(obtain ⟨q1,q2,q3,q4,q5⟩:=hSx;go_simp<;>with_reducible rfl)
 simp only [sA,sB]
 refine hT 1 40 rfl rfl hHeld nPp (v:=?_) (fun x' hSx=>?_) ?_
 rotate_left 1
 ·(obtain ⟨q1,q2,q3,q4,q5⟩:=hSx;go_simp<;>with_reducible rfl)
 simp only [sA,sB]
 refine hT 2 41 rfl rfl hHeld nPp (v:=?_) (fun x' hSx=>?_) ?_
 rotate_left 1
 ·(obtain ⟨q1,q2,q3,q4,q5⟩:=hSx;go_simp<;>with_reducible rfl)
 simp only [sA,sB]
 refine hT 3 42 rfl rfl hHeld nPp (v:=?_) (fun x' hSx=>?_) ?_
 rotate_left 1
 ·(obtain ⟨q1,q2,q3,q4,q5⟩:=hSx;go_simp<;>with_reducible rfl)
 simp only [sA,sB]
 refine hT 4 43 rfl rfl hHeld nPp (v:=?_) (fun x' hSx=>?_) ?_
 rotate_left 1
 ·(obtain ⟨q1,q2,q3,q4,q5⟩:=hSx;go_simp<;>with_reducible rfl)
 simp only [sA,sB]
 refine hT 5 44 rfl rfl hHeld nPp (v:=?_) (fun x' hSx=>?_) ?_
 rotate_left 1
 ·(obtain ⟨q1,q2,q3,q4,q5⟩:=hSx;go_simp<;>with_reducible rfl)
 simp only [sA,sB]
 refine hT 6 45 rfl rfl hHeld nPp (v:=?_) (fun x' hSx=>?_) ?_
 rotate_left 1
 ·(obtain ⟨q1,q2,q3,q4,q5⟩:=hSx;go_simp<;>with_reducible rfl)
 simp only [sA,sB]
 refine hT 7 46 rfl rfl hHeld nPp (v:=?_) (fun x' hSx=>?_) ?_
 rotate_left 1
 ·(obtain ⟨q1,q2,q3,q4,q5⟩:=hSx;go_simp<;>with_reducible rfl)
 simp only [sA,sB]
 obtain ⟨Wd,hWd⟩:∃Wd,Wd=W1.drew:=⟨_,rfl⟩
 rw [←hWd] at hHeld ⊢
 have HHd:Hid (Wd.heap.size=b6):=qz (by rw [hWd];exact uh HSZW1)
 have HWd:Hid (Wd.heap=W1.heap∧Wd.os=W1.os∧Wd.tape=W1.tape∧Wd.output=W1.output):=qz (by rw [hWd];exact ⟨rfl,rfl,rfl,rfl⟩)
 clear hWd
 refine hO 8 6 rfl rfl (v:=.pointer (some ⟨Wd.heap.size,0,none⟩)) (w':=Wd.alloc (.cells #[.int .i64 0] 3)) ?_ (hHeld.alloc _) ?_
 ·go_simp<;>exact ⟨rfl,rfl⟩
 simp only [sA,sB]
 rw [uh HHd]
 have hS2:=(hHeld.alloc (.cells #[.int .i64 0] 3)).set (k:=b6) (by omega) (by omega) (.int .i64 (f:Int))
 refine hKk 9 rfl rfl (w':=(Wd.alloc (.cells #[.int .i64 0] 3)).setCell ⟨b6,0,none⟩ (.int .i64 (f:Int))) ?_ hS2 ?_
 ·(have q1:(Wd.alloc (.cells #[.int .i64 0] 3)).cell? ⟨b6,0,none⟩=some (.int .i64 0):=(by rw [←uh HHd];exact z4b _ _);have q2:(Wd.alloc (.cells #[.int .i64 0] 3)).frozen? ⟨b6,0,none⟩=false:=(by rw [←uh HHd];simp only [World.frozen?,heap_alloc_new];simp);go_simp)
 refine dN ?_
 obtain ⟨W2,hW2⟩:∃W2,W2=(Wd.alloc (.cells #[.int .i64 0] 3)).setCell ⟨b6,0,none⟩ (.int .i64 (f:Int)):=⟨_,rfl⟩
 rw [←hW2] at hS2 ⊢
 have HSW2:=qz hS2
 have HBW2:Hid (W2.heap[b6]?=some (.cells #[.int .i64 (f:Int)] 3 (0,0))∧(∀x,x<b6→W2.heap[x]?=W1.heap[x]?)∧W2.os=W1.os∧W2.tape=W1.tape∧W2.output=W1.output):=qz (by
  refine ⟨?_,fun x hx=>?_,?_,?_,?_⟩
  ·rw [hW2,heap_setCell_same _ (b6) 0 #[.int .i64 0] 3 _ (by rw [←uh HHd];exact heap_alloc_new _ _)];rfl
  ·rw [hW2,heap_setCell_other _ _ _ _ (by show x≠b6;omega),Below.heap_alloc _ _ _ (by rw [uh HHd];exact hx),(uh HWd).1]
  ·rw [hW2];exact (uh HWd).2.1
  ·rw [hW2];exact (uh HWd).2.2.1
  ·rw [hW2];exact (uh HWd).2.2.2)
 have HSZW2:Hid (W2.heap.size=b6+1):=qz (by rw [hW2];simp [uh HHd])
 clear hW2 hHeld hS2 HHd HWd HSW1 HSZW1
 go_upto_region 5 with fail
 refine wp_region_noPanic ?_
 refine wp_region_held_drew (S:=MS H gx p W M (.slice (some ⟨ba,off,none⟩) L cap)) (by kernel_rfl) ((uh HSW2).same rfl) (fun hHeld=>?_)
 refine hT 0 47 rfl rfl hHeld nPp (v:=?_) (fun x' hSx=>?_) ?_
 rotate_left 1
 ·(obtain ⟨q1,q2,q3,q4,q5⟩:=hSx;go_simp<;>with_reducible rfl)
 simp only [sA,sB]
 refine hT 1 48 rfl rfl hHeld nPp (v:=?_) (fun x' hSx=>?_) ?_
 rotate_left 1
 ·(obtain ⟨q1,q2,q3,q4,q5⟩:=hSx;go_simp<;>with_reducible rfl)
 simp only [sA,sB]
 refine hT 2 49 rfl rfl hHeld nPp (v:=?_) (fun x' hSx=>?_) ?_
 rotate_left 1
 ·(obtain ⟨q1,q2,q3,q4,q5⟩:=hSx;go_simp<;>with_reducible rfl)
 simp only [sA,sB]
 refine hT 3 50 rfl rfl hHeld nPp (v:=?_) (fun x' hSx=>?_) ?_
 rotate_left 1
 ·(obtain ⟨q1,q2,q3,q4,q5⟩:=hSx;go_simp<;>with_reducible rfl)
 simp only [sA,sB]
 refine hT 4 51 rfl rfl hHeld nPp (v:=?_) (fun x' hSx=>?_) ?_
 rotate_left 1
 ·(obtain ⟨q1,q2,q3,q4,q5⟩:=hSx;go_simp<;>with_reducible rfl)
 simp only [sA,sB]
 refine hT 5 52 rfl rfl hHeld nPp (v:=?_) (fun x' hSx=>?_) ?_
 rotate_left 1
 ·(obtain ⟨q1,q2,q3,q4,q5⟩:=hSx;go_simp<;>with_reducible rfl)
 simp only [sA,sB]
 refine hT 6 53 rfl rfl hHeld nPp (v:=?_) (fun x' hSx=>?_) ?_
 rotate_left 1
 ·(obtain ⟨q1,q2,q3,q4,q5⟩:=hSx;go_simp<;>with_reducible rfl)
 simp only [sA,sB]
 refine hT 7 54 rfl rfl hHeld nPp (v:=?_) (fun x' hSx=>?_) ?_
 rotate_left 1
 ·(obtain ⟨q1,q2,q3,q4,q5⟩:=hSx;go_simp<;>with_reducible rfl)
 simp only [sA,sB]
 refine hT 8 55 rfl rfl hHeld nPp (v:=?_) (fun x' hSx=>?_) ?_
 rotate_left 1
 ·(obtain ⟨q1,q2,q3,q4,q5⟩:=hSx;go_simp<;>with_reducible rfl)
 simp only [sA,sB]
 refine hT 9 56 rfl rfl hHeld nPp (v:=?_) (fun x' hSx=>?_) ?_
 rotate_left 1
 ·(obtain ⟨q1,q2,q3,q4,q5⟩:=hSx;go_simp<;>with_reducible rfl)
 simp only [sA,sB]
 refine hT 10 57 rfl rfl hHeld nPp (v:=?_) (fun x' hSx=>?_) ?_
 rotate_left 1
 ·(obtain ⟨q1,q2,q3,q4,q5⟩:=hSx;go_simp<;>with_reducible rfl)
 simp only [sA,sB]
 refine hT 11 58 rfl rfl hHeld nPp (v:=?_) (fun x' hSx=>?_) ?_
 rotate_left 1
 ·(obtain ⟨q1,q2,q3,q4,q5⟩:=hSx;go_simp<;>with_reducible rfl)
 simp only [sA,sB]
 obtain ⟨Wd,hWd⟩:∃Wd,Wd=W2.drew:=⟨_,rfl⟩
 rw [←hWd] at hHeld ⊢
 have HHd:Hid (Wd.heap.size=b6+1):=qz (by rw [hWd];exact uh HSZW2)
 have HWd:Hid (Wd.heap=W2.heap∧Wd.os=W2.os∧Wd.tape=W2.tape∧Wd.output=W2.output):=qz (by rw [hWd];exact ⟨rfl,rfl,rfl,rfl⟩)
 clear hWd
 refine hO 12 7 rfl rfl (v:=.pointer (some ⟨Wd.heap.size,0,none⟩)) (w':=Wd.alloc (.cells #[.int .i64 0] 3)) ?_ (hHeld.alloc _) ?_
 ·go_simp<;>exact ⟨rfl,rfl⟩
 simp only [sA,sB]
 rw [uh HHd]
 have hS2:=(hHeld.alloc (.cells #[.int .i64 0] 3)).set (k:=b6+1) (by omega) (by omega) (.int .i64 (m0:Int))
 refine hKk 13 rfl rfl (w':=(Wd.alloc (.cells #[.int .i64 0] 3)).setCell ⟨b6+1,0,none⟩ (.int .i64 (m0:Int))) ?_ hS2 ?_
 ·(have q1:(Wd.alloc (.cells #[.int .i64 0] 3)).cell? ⟨b6+1,0,none⟩=some (.int .i64 0):=(by rw [←uh HHd];exact z4b _ _);have q2:(Wd.alloc (.cells #[.int .i64 0] 3)).frozen? ⟨b6+1,0,none⟩=false:=(by rw [←uh HHd];simp only [World.frozen?,heap_alloc_new];simp);go_simp)
 refine dN ?_
 obtain ⟨W3,hW3⟩:∃W3,W3=(Wd.alloc (.cells #[.int .i64 0] 3)).setCell ⟨b6+1,0,none⟩ (.int .i64 (m0:Int)):=⟨_,rfl⟩
 rw [←hW3] at hS2 ⊢
 have HSW3:=qz hS2
 have HBW3:Hid (W3.heap[b6+1]?=some (.cells #[.int .i64 (m0:Int)] 3 (0,0))∧(∀x,x<b6+1→W3.heap[x]?=W2.heap[x]?)∧W3.os=W2.os∧W3.tape=W2.tape∧W3.output=W2.output):=qz (by
  refine ⟨?_,fun x hx=>?_,?_,?_,?_⟩
  ·rw [hW3,heap_setCell_same _ (b6+1) 0 #[.int .i64 0] 3 _ (by rw [←uh HHd];exact heap_alloc_new _ _)];rfl
  ·rw [hW3,heap_setCell_other _ _ _ _ (by show x≠b6+1;omega),Below.heap_alloc _ _ _ (by rw [uh HHd];exact hx),(uh HWd).1]
  ·rw [hW3];exact (uh HWd).2.1
  ·rw [hW3];exact (uh HWd).2.2.1
  ·rw [hW3];exact (uh HWd).2.2.2)
 have HSZW3:Hid (W3.heap.size=b6+1+1):=qz (by rw [hW3];simp [uh HHd])
 clear hW3 hHeld hS2 HHd HWd HSW2 HSZW2
 have c0:=(uh HSW3).c0
 have c3:W3.cell? ⟨gx,3,none⟩=some (.slice (some ⟨gl,0,none⟩) N lc):=by
  rw [World.cell?_of_block ((uh HBW3).2.1 gx (by omega)),World.cell?_of_block ((uh HBW2).2.1 gx (by omega))]
  exact (uh HX1).x3
 go_wp2_with fail
 refine (w3t _ _ _ _).mono ?_
 rintro e W5 ⟨rfl,hW5⟩
 rw [uh HSZW3]
 have HMB0:Hid (MB H b6 gx gl N lc p f m0 0 0 W5):=qz (by
  have k3:∀x,x<b6+2→W5.heap[x]?=W3.heap[x]?:=fun x hx=>by rw [hW5,z0k,if_neg (by rw [uh HSZW3];omega)]
  have k2:∀x,x<b6→W5.heap[x]?=W1.heap[x]?:=fun x hx=>by rw [k3 x (by omega),(uh HBW3).2.1 x (by omega),(uh HBW2).2.1 x hx]
  have h:=uh HA1
  refine ⟨by rw [k2 _ (by omega)];exact h.1,by rw [k2 _ (by omega)];exact h.2.1,by rw [k2 _ (by omega)];exact h.2.2.1,by rw [k2 _ (by omega)];exact h.2.2.2,by rw [k3 _ (by omega),(uh HBW3).2.1 _ (by omega)];exact (uh HBW2).1,by rw [k3 _ (by omega)];exact (uh HBW3).1,?_,hHb⟩
  rw [hW5,z0k,if_pos (by rw [uh HSZW3])])
 have HKP0:Hid (KP H b6 W1 W5):=qz (by
  have k3:∀x,x<b6+2→W5.heap[x]?=W3.heap[x]?:=fun x hx=>by rw [hW5,z0k,if_neg (by rw [uh HSZW3];omega)]
  refine ⟨?_,?_,?_,?_,fun x hx _=>by rw [k3 x (by omega),(uh HBW3).2.1 x (by omega),(uh HBW2).2.1 x hx]⟩
  ·rw [hW5];exact (uh HBW3).2.2.1.trans (uh HBW2).2.2.1
  ·rw [hW5];exact (uh HBW3).2.2.2.1.trans (uh HBW2).2.2.2.1
  ·rw [hW5];exact (uh HBW3).2.2.2.2.trans (uh HBW2).2.2.2.2
  ·rw [hW5,World.size_alloc,uh HSZW3];omega)
 have HS5:Hid (W5.heap.size=b6+3):=qz (by rw [hW5,World.size_alloc,uh HSZW3])
 clear hW5 c0 c3 HSW3 HSZW3 HBW3 HBW2 HA1
 go_wp2_with fail
 rw [show b6+1+1=b6+2 from rfl]
 refine (wpIn_wide (n:=4)).1 ?_
 have hm1:Tryz.prog.follows .mixedOrders=true:=by kernel_rfl
 refine x3q (F:=Fence.wide) rfl (by omega) (gf:=126) (lb:=#[.pointer (some ⟨b6+2,0,none⟩)]) rfl trivial (enters_of Tryz.func126 (by kernel_rfl) rfl) (encB N (fun j=>.int .i64 (sz j:Int)) (fun j=>.map (some (b j))) v) N (fun _=>rfl)
  (fun k W=>MIs zs H b6 gx gl N lc p f u m0 sz W1 k W)
  (fun W=>MXs zs H b6 p u m0 W1 W)
  (fun k W W' row h hg hr=>by
   have kk:=y1u h.2.1.size hg (fun r e=>by have:=(hr r e).1;rw [uh HS5] at this;exact this)
   exact ⟨h.1.keep kk,h.2.1.keep hg.os hg.tape hg.output hg.size (fun x hx _=>kk x (by omega)),h.2.2⟩)
  (fun _ W W' row h hg hr=>by
   obtain ⟨n,d,h2,h3,hb,hk⟩:=h
   have kk:=y1u hk.size hg (fun r e=>by have:=(hr r e).1;rw [uh HS5] at this;exact this)
   exact ⟨n,d,by rw [kk _ (by omega)];exact h2,by rw [kk _ (by omega)];exact h3,hb,hk.keep hg.os hg.tape hg.output hg.size (fun x hx _=>kk x (by omega))⟩)
  ⟨uh HMB0,uh HKP0,qz fun h=>absurd h (by rw [z3y];omega)⟩
  (fun l J Y W hJ h0 hY=>y4m Fence.wide (4-1) trivial rfl (by omega) l (b6+2) gl N lc (by omega) _ _ _ J Y (fun k W h=>by
   obtain ⟨hmb,hkp,_⟩:=hJ k W h
   have kg:∀i,W.cell? ⟨gl,i,none⟩=W1.cell? ⟨gl,i,none⟩:=fun i=>World.cell?_of_block (hkp.kp gl (by omega) (.inl hglH))
   refine ⟨by simp [World.cell?,hmb.h8],fun j hj=>?_,fun j hj=>?_,fun j hj=>?_⟩
   ·rw [kg];exact ((uh HX1).lvs.lv j hj).c0
   ·rw [kg];exact ((uh HX1).lvs.lv j hj).c1
   ·rw [kg];exact ((uh HX1).lvs.lv j hj).c2) hY W h0)
  (fun k a' Wx=>∃Bx,Wx.heap[Bx]?=some (.cells #[.int .i64 (sz (N-1-k):Int),.map (some (b (N-1-k))),v (N-1-k)] 162 (0,0))∧b6+3≤Bx∧a'={ tmps:=((.pointer (some ⟨gx,0,none⟩)) :: (.int .i64 (p:Int)) :: (.pointer (some ⟨H,0,none⟩)) :: (.pointer (some ⟨H+1,0,none⟩)) :: (.pointer (some ⟨H+2,0,none⟩)) :: (.pointer (some ⟨H+3,0,none⟩)) :: (.pointer (some ⟨b6,0,none⟩)) :: (.pointer (some ⟨b6+1,0,none⟩)) :: undef :: (.pointer (some ⟨Bx,0,none⟩)) :: undef :: (.pointer (some ⟨gx,0,none⟩)) :: (.pointer (some ⟨gx,0,none⟩)) :: (.pointer (some ⟨gx,3,none⟩)) :: (.slice (some ⟨gl,0,none⟩) N lc) :: (.int .i64 (N:Int)) :: (.bool false) :: undef :: undef :: undef :: undef :: undef :: undef :: undef :: undef :: undef :: undef :: undef :: undef :: undef :: undef :: undef :: undef :: undef :: undef :: undef :: (.pointer (some ⟨gx,0,none⟩)) :: (.int .i64 (p:Int)) :: (.tuple #[]) :: (.int .i64 (p:Int)) :: (.int .i64 (p:Int)) :: (.pointer (some ⟨gx,0,none⟩)) :: (.pointer (some ⟨gx,0,none⟩)) :: (.pointer (some ⟨gx,1,none⟩)) :: (.int .i64 (W:Int)) :: (.int .i64 (u:Int)) :: (.int .i64 (f:Int)) :: (.pointer (some ⟨gx,0,none⟩)) :: (.pointer (some ⟨gx,0,none⟩)) :: (.pointer (some ⟨gx,2,none⟩)) :: (.int .i64 (M:Int)) :: (.pointer (some ⟨gx,0,none⟩)) :: (.pointer (some ⟨gx,0,none⟩)) :: (.pointer (some ⟨gx,0,none⟩)) :: (.slice (some ⟨ba,off,none⟩) L cap) :: (.int .i64 (L:Int)) :: (.int .i64 (p:Int)) :: (.int .i64 ((L:Int)-(p:Int))) :: (.int .i64 (m0:Int)) :: (.pointer (some ⟨gx,0,none⟩)) :: (.pointer (some ⟨gx,0,none⟩)) :: (.pointer (some ⟨gx,3,none⟩)) :: (.slice (some ⟨gl,0,none⟩) N lc) :: (.func (.func 126) #[] #[.pointer (some ⟨b6+2,0,none⟩)]) :: (.int .i64 ((N-1-k:Nat):Int)) :: (.agg #[.int .i64 (sz (N-1-k):Int),.map (some (b (N-1-k))),v (N-1-k)]) :: undef :: undef :: undef :: undef :: undef :: undef :: undef :: undef :: undef :: undef :: undef :: undef :: undef :: undef :: undef :: undef :: undef :: undef :: undef :: undef :: undef :: undef :: []).toArray,defers:=[] })
  (fun k a' _ W W' row h hg hr=>by
   obtain ⟨Bx,hb,hB3,e⟩:=h
   refine ⟨Bx,?_,hB3,e⟩
   rw [hg.block Bx (z0b hb) (fun e'=>by
    obtain ⟨_,o,ho',hc⟩:=hr Bx e'.symm
    rw [hb] at ho'
    injection ho' with ho'
    subst ho'
    simp [Obj.isCells] at hc)]
   exact hb) ?assign ?body ?done ?stop
 case assign =>
  intro l k Wx K hk hi hK
  have HK:=qz hK
  have HI:=qz hi
  obtain ⟨va,vn,vc,hvv⟩:=uh HVS (N-1-k) (by omega)
  clear hK hi
  simp only [encB]
  rw [hvv] at HK ⊢
  gi_wp2
  have hI:=uh HI
  have kk:∀x,x<b6+3→∀o,(Wx.alloc o).heap[x]?=Wx.heap[x]?:=fun x hx o=>Below.heap_alloc _ _ _ (by have:=hI.2.1.size;omega)
  exact uh HK _ _ (KeepsOthers.alloc _ _) ⟨hI.1.keep (fun x hx=>kk x hx _),hI.2.1.keep rfl rfl rfl (by simp) (fun x hx _=>kk x (by omega) _),hI.2.2⟩ ⟨Wx.heap.size,heap_alloc_new _ _,hI.2.1.size,rfl⟩
 case body =>
  rintro l k a' Wx hk ⟨hmb,hkp,HNN⟩ ⟨Bx,hbx,hB3,rfl⟩
  have hj:N-1-k<N:=by omega
  have hs18:=uh HSZ (N-1-k) hj
  have hlv1:=(uh HX1).lvs.lv (N-1-k) hj
  have hrow1:=uh HROW (N-1-k)
  have hMk:=y7p m0 N sz k
  have hMg:=y7o (M0:=m0) (K:=L-p) (uh HSD) (fun j hj=>(uh HSZ j hj).1) (by rw [uh HM0];omega) k hk
  have hMn:z3y m0 N sz (k+1)=min (z3y m0 N sz k) (sz (N-1-k)-1):=rfl
  have hbj:=uh HBJ _ hj
  obtain ⟨s,hs⟩:∃s,s=sz (N-1-k):=⟨_,rfl⟩
  obtain ⟨bj,hbjj⟩:∃bj,bj=b (N-1-k):=⟨_,rfl⟩
  obtain ⟨va,vn,vc,hvv⟩:=uh HVS (N-1-k) hj
  obtain ⟨Mk,hMkk⟩:∃Mk,Mk=z3y m0 N sz k:=⟨_,rfl⟩
  obtain ⟨Mn,hMnn⟩:∃Mn,Mn=z3y m0 N sz (k+1):=⟨_,rfl⟩
  rw [←hs] at hs18 hlv1 hMg hMn
  rw [←hMkk] at hMk hMg hMn hmb HNN
  rw [←hMnn] at hMn
  have HMnn:=qz hMnn
  have HMn:=qz hMn
  rw [←hbjj] at hlv1 hbj
  have hb0:Wx.heap[Bx]?=some (.cells #[.int .i64 (s:Int),.map (some bj),.slice va vn vc] 162 (0,0)):=by rw [hs,hbjj,←hvv];exact hbx
  rw [←hs,←hbjj,hvv]
  rw [hvv] at hlv1 hrow1
  clear hbx hMkk hMnn hbjj hs hMn
  have c0:Wx.cell? ⟨H,0,none⟩=some (.pointer (some ⟨gx,0,none⟩)):=by simp [World.cell?,hmb.h0]
  have c1:Wx.cell? ⟨H+1,0,none⟩=some (.int .i64 (p:Int)):=by simp [World.cell?,hmb.h1]
  have kgx:∀i,Wx.cell? ⟨gx,i,none⟩=W1.cell? ⟨gx,i,none⟩:=fun i=>World.cell?_of_block (hkp.kp gx (by omega) (.inl hgxH))
  have x0:Wx.cell? ⟨gx,0,none⟩=some (.slice (some ⟨ba,off,none⟩) L cap):=by rw [kgx];exact (uh HX1).x0
  have x1:Wx.cell? ⟨gx,1,none⟩=some (.int .i64 (W:Int)):=by rw [kgx];exact (uh HX1).x1
  clear kgx
  have c6:Wx.cell? ⟨b6,0,none⟩=some (.int .i64 (f:Int)):=by simp [World.cell?,hmb.h6]
  have c7:Wx.cell? ⟨b6+1,0,none⟩=some (.int .i64 (Mk:Int)):=by simp [World.cell?,hmb.h7]
  have f7:Wx.frozen? ⟨b6+1,0,none⟩=false:=by simp [World.frozen?,hmb.h7]
  have d0:Wx.cell? ⟨Bx,0,none⟩=some (.int .i64 (s:Int)):=by simp [World.cell?,hb0]
  have d1:Wx.cell? ⟨Bx,1,none⟩=some (.map (some bj)):=by simp [World.cell?,hb0]
  have d2:Wx.cell? ⟨Bx,2,none⟩=some (.slice va vn vc):=by simp [World.cell?,hb0]
  have hlvx:cnt L s p=p→LvlAt zs s p B Wx Bx 0 bj (.slice va vn vc):=fun hc=>by
   have h:=hlv1
   simp only [hc] at h
   exact ⟨d0,d1,d2,h.mp.block (hkp.kp bj (by omega) (.inl hbj)),z0y h.row (fun q hq=>hkp.kp q (hrow1 q hj hq).1 (hrow1 q hj hq).2)⟩
  have hrx:z0m B Wx (.slice (some ⟨ba,off,none⟩) zs.length cap) zs:=by
   have h:=uh HR
   rw [uh HTX] at h
   have kB:∀x,x<B→Wx.heap[x]?=w.heap[x]?:=fun x hx=>by
    rw [hkp.kp x (by omega) (.inl (by omega))]
    exact (uh HKW1).low x (by rw [←uh HHW];omega) hx
   exact h.stays ⟨hkp.os.trans (uh HKW1).os,hkp.tape.trans (uh HKW1).tape,hkp.output.trans (uh HKW1).output,by rw [←uh HHW];have:=hkp.size;omega,kB⟩
  have hmlx:ML Wx:=by
   obtain ⟨mm,hmm⟩:=uh HML1
   exact ⟨mm,by rw [World.cell?_of_block (hkp.kp 0 (by omega) (.inl (by omega)))];exact hmm⟩
  have HMBx:=qz hmb
  have HKPx:=qz hkp
  have hkk:∀x,x<b6+3→x<Wx.heap.size:=fun x hx=>by have:=hkp.size;omega
  by_cases hcase:p+s≤L∧f<lastOf zs s p (z1o zs s p)
  ·obtain ⟨hps,hfc⟩:=hcase
   have hcp:cnt L s p=p:=by unfold cnt;omega
   have hlv:=hlvx hcp
   obtain ⟨cc,hcc⟩:∃cc,cc=lastOf zs s p (z1o zs s p):=⟨_,rfl⟩
   have hccp:cc≤p:=by rw [hcc];exact z5b _ _ _ _
   rw [←hcc] at hfc
   have HC:Hid (Calls Tryz.prog 98 #[.pointer (some ⟨Bx,0,none⟩),.slice (some ⟨ba,off,none⟩) L cap,.int .i64 (p:Int)] Wx.drew fun e w'=>e=.returned (.int .i64 ((cc:Int)-1))∧SameW Wx w'):=qz (by
    have h:=x1z zs s p p B B Bx 0 bj cap ba off (.slice va vn vc) Wx.drew hs18.1 hs18.2 (hrx.drewN 1) (by rw [←uh HTX];exact hcap) (uh HZ) (by rw [←uh HTX];exact hps) (by rw [←uh HTX];exact hl) (hlv.same rfl) (by rw [←uh HTX];omega)
    rw [←uh HTX,←hcc] at h
    refine h.mono ?_
    rintro e w' ⟨rfl,q,rfl⟩
    exact ⟨rfl,rfl,rfl,rfl,rfl⟩)
   have HWK:Hid (∀w',SameW Wx w'→Calls Tryz.prog 99 #[.pointer (some ⟨gx,0,none⟩),.agg #[.int .i64 (s:Int),.map (some bj),.slice va vn vc],.int .i64 ((cc:Int)-1),.int .i64 (p:Int),.int .i64 (Mk:Int)] w' fun e w''=>x4s zs p u Mk w' e w''):=qz fun w' hsw=>by
    have hml:ML w':=by
     obtain ⟨mm,hmm⟩:=hmlx
     exact ⟨mm,by rw [hsw.cell];exact hmm⟩
    have h:=w5i zs B ba off cap p W Mk s bj cc gx Bx 0 (.slice va vn vc) w' (hrx.stays ⟨hsw.os,hsw.tape,hsw.output,by rw [hsw.heap];exact Nat.le_refl _,fun k _=>by rw [hsw.heap]⟩) (by rw [←uh HTX];exact hcap) (uh HZ) (by rw [←uh HTX];exact hl) (by rw [←uh HTX];omega) hs18.1 (by omega) (by rw [hsw.heap];have:=hkp.size;omega) hW (by rw [hsw.cell,←uh HTX];exact x0) (by rw [hsw.cell];exact x1) (hlv.same hsw.heap) hcc (by rw [←uh HU,←uh HF];exact hfc) hml
    rw [←uh HU] at h
    exact h
   have hge:(f:Int)≤(cc:Int)-1:=by omega
   have hf32:Fence.wide.fn 98:=trivial
   have hf33:Fence.wide.fn 99:=trivial
   have HNN':=HNN
   clear hlv hlvx hcc hlv1 hrow1 hrx hmb hkp HNN hbj HMB0 HKP0
   gi_wp2
   gi_region_with_o (first|(gi_at_call 98;refine ((callsIn_wide.2 (uh HC)).inRound l).mono ?_;rintro e w' ⟨rfl,hsw⟩))
   all_goals
    have y0:=(hsw.cell ⟨H,0,none⟩).trans c0
    have y1:=(hsw.cell ⟨H+1,0,none⟩).trans c1
    have y6:=(hsw.cell ⟨b6,0,none⟩).trans c6
    have y7:=(hsw.cell ⟨b6+1,0,none⟩).trans c7
    have z0:=(hsw.cell ⟨Bx,0,none⟩).trans d0
    have z1:=(hsw.cell ⟨Bx,1,none⟩).trans d1
    have z2:=(hsw.cell ⟨Bx,2,none⟩).trans d2
    gi_wp2_with (gi_at_call 99;refine ((callsIn_wide.2 (uh HWK _ hsw)).inRound l).mono ?_;rintro e w'' ⟨n,d,rfl,hbest,hbel⟩;have q2:w''.heap[H+2]?=some (.cells #[.int .i64 ((0:Nat):Int)] 3 (0,0)):=(by rw [hbel.block _ (by rw [hsw.heap];exact hkk _ (by omega)),hsw.heap];exact (uh HMBx).h2);have q3:w''.heap[H+3]?=some (.cells #[.int .i64 ((0:Nat):Int)] 3 (0,0)):=(by rw [hbel.block _ (by rw [hsw.heap];exact hkk _ (by omega)),hsw.heap];exact (uh HMBx).h3);have r2:w''.cell? ⟨H+2,0,none⟩=some (.int .i64 ((0:Nat):Int)):=(by simp [World.cell?,q2]);have r3:w''.cell? ⟨H+3,0,none⟩=some (.int .i64 ((0:Nat):Int)):=(by simp [World.cell?,q3]);have t2:w''.frozen? ⟨H+2,0,none⟩=false:=(by simp [World.frozen?,q2]);have t3:w''.frozen? ⟨H+3,0,none⟩=false:=(by simp [World.frozen?,q3]);have HW5:=qz (And.intro hbest (And.intro hbel (And.intro q2 q3)));clear hbest hbel q2 q3)
    obtain ⟨hbest,hbel,q2,q3⟩:=uh HW5
    have hko:KeepsOthers Wx w'':=⟨by have:=hbel.size;rw [hsw.heap] at this;exact this,fun k o hk ho=>by rw [hbel.block k (by rw [hsw.heap];exact z0b hk),hsw.heap];exact hk⟩
    have hkx:KP H b6 W1 w'':=(uh HKPx).keep (hbel.os.trans hsw.os) (hbel.tape.trans hsw.tape) (hbel.output.trans hsw.output) (by have:=hbel.size;rw [hsw.heap] at this;exact this) (fun x hx _=>by rw [hbel.block x (by rw [hsw.heap];exact hkk x (by omega)),hsw.heap])
    have h2:=z9i q2 q3 (.int .i64 (n:Int)) (.int .i64 (d:Int))
    refine ⟨(hko.trans (KeepsOthers.setCell _ _ _)).trans (KeepsOthers.setCell _ _ _),n,d,h2.1,h2.2.1,hbest.wide hMk (uh HNN'),hkx.two _ _⟩
  ·have HC:Hid (∃r:Int,r<(f:Int)∧Calls Tryz.prog 98 #[.pointer (some ⟨Bx,0,none⟩),.slice (some ⟨ba,off,none⟩) L cap,.int .i64 (p:Int)] Wx.drew fun e w'=>e=.returned (.int .i64 r)∧SameW Wx w'):=qz (by
    by_cases hps:p+s≤L
    ·have hcp:cnt L s p=p:=by unfold cnt;omega
     have h:=x1z zs s p p B B Bx 0 bj cap ba off (.slice va vn vc) Wx.drew hs18.1 hs18.2 (hrx.drewN 1) (by rw [←uh HTX];exact hcap) (uh HZ) (by rw [←uh HTX];exact hps) (by rw [←uh HTX];exact hl) ((hlvx hcp).same rfl) (by rw [←uh HTX];omega)
     rw [←uh HTX] at h
     refine ⟨((lastOf zs s p (z1o zs s p):Nat):Int)-1,?_,h.mono ?_⟩
     ·have:¬f<lastOf zs s p (z1o zs s p):=fun h=>hcase ⟨hps,h⟩
      omega
     ·rintro e w' ⟨rfl,q,rfl⟩
      exact ⟨rfl,rfl,rfl,rfl,rfl⟩
    ·refine ⟨-1,by omega,(x0f L s p Bx 0 _ cap Wx.drew hs18.2 (by omega) hl (by omega) d0).mono ?_⟩
     rintro e w' ⟨rfl,rfl⟩
     exact ⟨rfl,rfl,rfl,rfl,rfl⟩)
   have HNN':Hid (Mn<m0→z4v (zf zs) p u (Mn+1)):=qz fun hlt=>by
    by_cases hc:Mn=Mk
    ·rw [hc] at hlt ⊢;exact uh HNN hlt
    ·have hMn:=uh HMn
     have hps:p+s≤L:=by omega
     have hnone:=x3x (uh HZ) (f:=f) (by rw [←uh HTX];exact hps) rfl (Nat.le_of_not_lt fun h=>hcase ⟨hps,h⟩) (by omega)
     rw [show p-f=u by omega] at hnone
     rw [show Mn+1=s by omega]
     exact hnone
   obtain ⟨r,hrf,hcall⟩:=uh HC
   have HCC:=qz hcall
   obtain ⟨s1,hs1⟩:∃s1:Nat,(s:Int)-1=(s1:Int):=⟨s-1,by omega⟩
   have m3:=z2y (A:=(Mk:Int)) (B:=(s1:Int)) rfl rfl (show Mn=min Mk s1 by have:=uh HMn;omega)
   have hge:¬ (f:Int)≤r:=by omega
   have hf32:Fence.wide.fn 98:=trivial
   have hws:IntKind.i64.wrap (s1:Int)=(s1:Int):=IntWalk.i64_in _ (by omega)
   clear hcall HC hlvx hlv1 hrow1 hrx hmb hkp HNN hbj HMB0 HKP0 hcase
   gi_wp2
   gi_region_with_o (first|(gi_at_call 98;refine ((callsIn_wide.2 (uh HCC)).inRound l).mono ?_;rintro e w' ⟨rfl,hsw⟩))
   all_goals
    have y6:=(hsw.cell ⟨b6,0,none⟩).trans c6
    have y7:=(hsw.cell ⟨b6+1,0,none⟩).trans c7
    have g7:=(hsw.frozen ⟨b6+1,0,none⟩).trans f7
    have z0:=(hsw.cell ⟨Bx,0,none⟩).trans d0
    gi_wp2
    have hko:KeepsOthers Wx w':=⟨by rw [hsw.heap];exact Nat.le_refl _,fun k o hk ho=>by rw [hsw.heap];exact hk⟩
    refine ⟨hko.trans (KeepsOthers.setCell _ _ _),?_⟩
    unfold MIs
    rw [←uh HMnn]
    refine ⟨?_,?_,HNN'⟩
    ·have hmb:=uh HMBx
     have hle:=hmb.le
     have o:∀k,k≠b6+1→(w'.setCell ⟨b6+1,0,none⟩ (.int .i64 (Mn:Int))).heap[k]?=Wx.heap[k]?:=fun k hk=>by rw [heap_setCell_other _ _ _ _ (by exact hk),hsw.heap]
     exact ⟨by rw [o _ (by omega)];exact hmb.h0,by rw [o _ (by omega)];exact hmb.h1,by rw [o _ (by omega)];exact hmb.h2,by rw [o _ (by omega)];exact hmb.h3,by rw [o _ (by omega)];exact hmb.h6,by rw [heap_setCell_same w' (b6+1) 0 _ 3 _ (by rw [hsw.heap];exact hmb.h7)];rfl,by rw [o _ (by omega)];exact hmb.h8,hle⟩
    ·exact (uh HKPx).keep hsw.os hsw.tape hsw.output (by simp [hsw.heap]) (fun x hx _=>by rw [heap_setCell_other _ _ _ _ (by show x≠b6+1;omega),hsw.heap])
 case done =>
  rintro D Wx hD ⟨hmb,hkp,HNN⟩ hDD
  have c2:Wx.cell? ⟨H+2,0,none⟩=some (.int .i64 ((0:Nat):Int)):=by simp [World.cell?,hmb.h2]
  have c3:Wx.cell? ⟨H+3,0,none⟩=some (.int .i64 ((0:Nat):Int)):=by simp [World.cell?,hmb.h3]
  have f2:Wx.frozen? ⟨H+2,0,none⟩=false:=by simp [World.frozen?,hmb.h2]
  have f3:Wx.frozen? ⟨H+3,0,none⟩=false:=by simp [World.frozen?,hmb.h3]
  rw [uh HS5] at hD
  have HFE:=qz (y7l (n:=0) (d:=0) (uh HX1) (uh HKW1) (uh HHW) hHb hgxH hglH (uh HBJ) (uh HROW) (D:=D) (hkp.two 0 0) (z9i hmb.h2 hmb.h3 _ _).1 (z9i hmb.h2 hmb.h3 _ _).2.1 (by rw [(z9i hmb.h2 hmb.h3 _ _).2.2 D (by omega) (by omega)];exact hDD) hD)
  have HMR:Hid (MRes zs p u m0 (sz 0) 0 0):=qz (.inr ⟨rfl,rfl,x7m (by rw [uh HM0,uh HTX]) hN1 (uh HSZ 0 (by omega)).1 (Nat.le_trans (uh HSZM) hsM) (uh HNN)⟩)
  clear hmb hkp HNN HMB0 HKP0
  go_wp2_with fail
  obtain ⟨q1,q2,q3,q4⟩:=uh HFE
  exact ⟨by simp,.inl ⟨_,_,rfl,run_takeDeferred q1,⟨_,z4f rfl _ _ ⟨H+2,0,none⟩ ⟨H+3,0,none⟩ rfl rfl _ _ q2.1 q2.2,0,0,rfl,uh HMR,⟨v,by rw [←uh HTX];exact q3⟩,q4⟩⟩⟩
 case stop =>
  rintro D Wx hD ⟨n,d,h2,h3,hbest,hkp⟩ hDD
  rw [uh HS5] at hD
  have HFE:=qz (y7l (uh HX1) (uh HKW1) (uh HHW) hHb hgxH hglH (uh HBJ) (uh HROW) (D:=D) hkp h2 h3 hDD hD)
  have HBE:=qz hbest
  clear h2 h3 hbest hkp HMB0 HKP0
  go_wp2_with fail
  obtain ⟨q1,q2,q3,q4⟩:=uh HFE
  exact ⟨by simp,.inl ⟨_,_,rfl,run_takeDeferred q1,⟨_,z4f rfl _ _ ⟨H+2,0,none⟩ ⟨H+3,0,none⟩ rfl rfl _ _ q2.1 q2.2,n,d,rfl,.inl (uh HBE),⟨v,by rw [←uh HTX];exact q3⟩,q4⟩⟩⟩
end T6
namespace T6
open Go.RowKit Go.Maps
attribute [local go_sem ↓] wp_at_zero wp_at_succ
theorem w5y:(Tryz.prog.info? 162).map (fun i=>(i.zero,i.size,i.bytes))=some (some (.agg #[.int .i64 0,.map none,.slice none 0 0]),3,40):=by kernel_rfl
def lcs (s0:Nat) (b:Nat→Nat):Nat→List Value
 | 0=>[]
 | k+1=>lcs s0 b k++[.int .i64 ((s0*2^k:Nat):Int),.map (some (b k)),.slice none 0 0]
theorem y3q (s0:Nat) (b:Nat→Nat):∀k,(lcs s0 b k).length=k*3
 | 0=>rfl
 | k+1=>by simp [lcs,y3q s0 b k];omega
theorem x6u (s0:Nat) (b:Nat→Nat):∀k j,j<k→(lcs s0 b k)[j*3]?=some (.int .i64 ((s0*2^j:Nat):Int))∧(lcs s0 b k)[j*3+1]?=some (.map (some (b j)))∧(lcs s0 b k)[j*3+2]?=some (.slice none 0 0)
 | 0,j,h=>by omega
 | k+1,j,h=>by
  have hl:=y3q s0 b k
  by_cases e:j=k
  ·subst e
   refine ⟨?_,?_,?_⟩
   ·rw [lcs,List.getElem?_append_right (by omega),hl];simp
   ·rw [lcs,List.getElem?_append_right (by omega),hl,show j*3+1-j*3=1 by omega];rfl
   ·rw [lcs,List.getElem?_append_right (by omega),hl,show j*3+2-j*3=2 by omega];rfl
  ·have ih:=x6u s0 b k j (by omega)
   refine ⟨?_,?_,?_⟩
   ·rw [lcs,List.getElem?_append_left (by omega)];exact ih.1
   ·rw [lcs,List.getElem?_append_left (by omega)];exact ih.2.1
   ·rw [lcs,List.getElem?_append_left (by omega)];exact ih.2.2
theorem x6v (s0:Nat) (b:Nat→Nat) (k x:Nat):∀j,j≤k→lcs s0 (upf b k x) j=lcs s0 b j
 | 0,_=>rfl
 | j+1,h=>by rw [lcs,lcs,x6v s0 b k x j (by omega),show upf b k x j=b j by simp [upf];omega]
structure NewAt (H W M s0 k:Nat) (tx:Value) (b:Nat→Nat) (v:Value) (w ws:World):Prop where
 xb:ws.heap[H]?=some (.cells #[tx,.int .i64 (W:Int),.int .i64 (M:Int),v,.int .i64 0] 123 (0,0))
 row:ws.ownsRow (H+1) 162 3 v k (lcs s0 b k)
 mp:∀j,j<k→z7u ws (b j) 0 (fun _=>0)
 ap:∀i j,i<k→j<k→i≠j→b i≠b j
 bB:∀j,j<k→H≤b j
 bel:Below H w ws
theorem y3y {w:World} {B e size n:Nat} {v:Value} {xs:List Value} (h:w.ownsRow B e size v n xs) {x:Nat} (hx:v.ownBlock=some x):B≤x∧∃cs,w.heap[x]?=some (.cells cs e (0,0)):=by
 rcases h.2 with ⟨e',_⟩|⟨g,cap,cur,e',hb,hh,_⟩
 ·rw [e'] at hx;simp [Value.ownBlock] at hx
 ·rw [e'] at hx
  simp [Value.ownBlock] at hx
  subst hx
  exact ⟨hb,_,hh⟩
theorem NewAt.x3 {H W M s0 k:Nat} {tx:Value} {b:Nat→Nat} {v:Value} {w ws:World} (h:NewAt H W M s0 k tx b v w ws):ws.cell? ⟨H,3,none⟩=some v:=by simp [World.cell?,h.xb]
theorem NewAt.f3 {H W M s0 k:Nat} {tx:Value} {b:Nat→Nat} {v:Value} {w ws:World} (h:NewAt H W M s0 k tx b v w ws):ws.frozen? ⟨H,3,none⟩=false:=by simp [World.frozen?,h.xb]
theorem NewAt.next {H W M s0 k:Nat} {tx:Value} {b:Nat→Nat} {v v':Value} {w ws w2:World} (h:NewAt H W M s0 k tx b v w ws) (hH:H<ws.heap.size)
  (hown:w2.ownsRow (H+1) 162 3 v' (k+1) (lcs s0 b k++[.int .i64 ((s0*2^k:Nat):Int),.map (some ws.heap.size),.slice none 0 0]))
  (hg:((ws.alloc (.map #[] 0)).alloc (.cells #[.int .i64 ((s0*2^k:Nat):Int),.map (some ws.heap.size),.slice none 0 0] 162)).grownBy w2 v.ownBlock) :
  NewAt H W M s0 (k+1) tx (upf b k ws.heap.size) v' w (w2.setCell ⟨H,3,none⟩ v'):=by
 have hv:∀x,v.ownBlock=some x→H+1≤x∧∃cs,ws.heap[x]?=some (.cells cs 162 (0,0)):=fun x hx=>y3y h.row hx
 have k2:∀x,x≤ws.heap.size→v.ownBlock≠some x→w2.heap[x]?=(ws.alloc (.map #[] 0)).heap[x]?:=fun x hx hr=>by
  rw [hg.block x (by simp;omega) (fun e=>hr e.symm)]
  exact Below.heap_alloc _ _ _ (by simp;omega)
 have k1:∀x,x<ws.heap.size→v.ownBlock≠some x→w2.heap[x]?=ws.heap[x]?:=fun x hx hr=>by
  rw [k2 x (by omega) hr];exact Below.heap_alloc _ _ _ hx
 have hvH:v.ownBlock≠some H:=fun e=>by have:=(hv H e).1;omega
 have hxb2:w2.heap[H]?=some (.cells #[tx,.int .i64 (W:Int),.int .i64 (M:Int),v,.int .i64 0] 123 (0,0)):=by rw [k1 H hH hvH];exact h.xb
 have o:∀x,x≠H→(w2.setCell ⟨H,3,none⟩ v').heap[x]?=w2.heap[x]?:=fun x hx=>heap_setCell_other _ _ _ _ (by exact hx)
 have hvn:v.ownBlock≠some ws.heap.size:=fun e=>by
  obtain ⟨_,cs,hcs⟩:=hv _ e
  have:=z0b hcs
  omega
 refine ⟨?_,?_,fun j hj=>?_,fun i j hi hj hne=>?_,fun j hj=>?_,⟨?_,?_,?_,?_,fun x hx=>?_⟩⟩
 ·rw [heap_setCell_same w2 H 3 _ 123 v' hxb2];rfl
 ·have e:lcs s0 (upf b k ws.heap.size) (k+1)=lcs s0 b k++[.int .i64 ((s0*2^k:Nat):Int),.map (some ws.heap.size),.slice none 0 0]:=by
   rw [lcs,x6v s0 b k ws.heap.size k (Nat.le_refl _),show upf b k ws.heap.size k=ws.heap.size by simp [upf]]
  rw [e]
  refine z0y hown (fun q hq=>o q (fun e=>?_))
  have:=(y3y hown hq).1
  omega
 ·by_cases e:j=k
  ·rw [show upf b k ws.heap.size j=ws.heap.size by simp [upf,e]]
   refine (z7u.made ws).block ?_
   rw [o _ (by omega),k2 _ (Nat.le_refl _) hvn]
  ·rw [show upf b k ws.heap.size j=b j by simp [upf,e]]
   obtain ⟨es,ck,hb⟩:=(h.mp j (by omega)).is
   refine (h.mp j (by omega)).block ?_
   rw [o _ (fun e2=>by rw [e2,h.xb] at hb;cases hb),k1 _ (z0b hb) (fun e2=>by
    obtain ⟨_,cs,hcs⟩:=hv _ e2
    rw [hcs] at hb
    cases hb)]
 ·have lt:∀i,i<k→b i<ws.heap.size:=fun i hi=>by obtain ⟨es,ck,hb⟩:=(h.mp i hi).is;exact z0b hb
  unfold upf
  by_cases e:i=k
  ·rw [if_pos e,if_neg (by omega)]
   have:=lt j (by omega)
   omega
  ·by_cases e2:j=k
   ·rw [if_neg e,if_pos e2]
    have:=lt i (by omega)
    omega
   ·rw [if_neg e,if_neg e2]
    exact h.ap i j (by omega) (by omega) hne
 ·unfold upf
  by_cases e:j=k
  ·rw [if_pos e];omega
  ·rw [if_neg e];exact h.bB j (by omega)
 ·exact hg.os.trans h.bel.os
 ·exact hg.tape.trans h.bel.tape
 ·exact hg.output.trans h.bel.output
 ·have h1:=hg.size
  have h2:=h.bel.size
  simp at h1 ⊢
  omega
 ·rw [o x (by omega),k1 x (by omega) (fun e=>by have:=(hv x e).1;omega)]
  exact h.bel.block x hx
theorem NewAt.idx {zs:List Nat} {H W M s0 N:Nat} {tx:Value} {b:Nat→Nat} {v:Value} {w ws:World} (h:NewAt H W M s0 N tx b v w ws) (hN:1≤N):∃gl lc,N≤lc∧v=.slice (some ⟨gl,0,none⟩) N lc∧IdxAt zs H N (fun j=>s0*2^j) b (fun _=>.slice none 0 0) (fun j=>cnt zs.length (s0*2^j) 0) H gl lc W M 0 tx ws:=by
 rcases h.row.2 with ⟨_,e⟩|⟨g,cap,cur,e,hb,hh,hle,_,hcs,ht⟩
 ·omega
 ·refine ⟨g,cap,hle,e,?_,⟨⟨cur,hh⟩,fun j hj=>?_,h.ap,fun i j _ _ _ x hx=>by simp [Value.ownBlock] at hx,by omega,h.bB⟩,Nat.le_refl _⟩
  ·rw [h.xb,e];rfl
  ·have hget:∀i,i<N*3→cur[i]?=(lcs s0 b N)[i]?:=fun i hi=>by
    rw [←ht,List.getElem?_take,if_pos hi];simp
   obtain ⟨g0,g1,g2⟩:=x6u s0 b N j hj
   have hc:cnt zs.length (s0*2^j) 0=0:=by unfold cnt;omega
   rw [hc]
   refine ⟨?_,?_,?_,(h.mp j hj),?_⟩
   ·simp only [World.cell?,hh];rw [hget _ (by omega)];exact g0
   ·simp only [World.cell?,hh];rw [hget _ (by omega)];exact g1
   ·simp only [World.cell?,hh];rw [hget _ (by omega)];exact g2
   ·exact World.ownsRow_nil _ _ _ _
end T6
end Go.Proofs.YtabeanealkopbaaGreat
