/- For every window and all pieces that hold together at most 1048576 values, hamperlaw14.LzmaText returns true (what can be looked back at is the last bytes of all that came by Copy and by Pack, as many as the window has; a state that has forgotten has none; a window that may not be gives no state), and all reads behind the call as it read before. Texts of one proof, one behind the other: Rk, Rl, Rm, Rn, Ro, Rp, Tx, Rq, Rr, TextFrame. -/
import Derived.Test.YtoicnlmfgembiaaGreatMD
import Derived.ProofKit
import Derived.OpenShut
import Derived.ChangeOld
import Derived.SizedLaws
import Derived.JoinedCond

set_option linter.unusedVariables false
set_option maxRecDepth 100000
set_option maxHeartbeats 24000000
namespace Go.Proofs.YtoicnlmfgembiaaGreat
namespace D
open Go.RowKit Rang
attribute [local go_sem ↓] wp_at_zero wp_at_succ
/- pieces, one behind the other -/
def LS.run:LS→List (Pc × List Nat)→LS
 | s,[]=>s
 | s,x :: l=>((s.afterP x.1).come x.2).run l
def LS.runA:LS→List (Pc × List Nat)→List A4
 | s,[]=>[]
 | s,x :: l=>s.actsP x.1++((s.afterP x.1).come x.2).runA l
def LS.runOk:LS→List (Pc × List Nat)→Prop
 | s,[]=>True
 | s,x :: l=>s.Says x.1 x.2∧1≤x.2.length∧((s.afterP x.1).come x.2).runOk l
theorem z1r:∀ (l:List (Pc × List Nat)) (s:LS) (x:Pc × List Nat),s.run (l++[x])=((s.run l).afterP x.1).come x.2
 | [],s,x=>rfl
 | y :: l,s,x=>z1r l _ x
theorem z3l:∀ (l:List (Pc × List Nat)) (s:LS) (x:Pc × List Nat),s.runA (l++[x])=s.runA l++(s.run l).actsP x.1
 | [],s,x=>by simp [LS.runA,LS.run]
 | y :: l,s,x=>by
  have h:=z3l l ((s.afterP y.1).come y.2) x
  show s.actsP y.1++LS.runA ((s.afterP y.1).come y.2) (l++[x])=(s.actsP y.1++LS.runA ((s.afterP y.1).come y.2) l)++LS.actsP (LS.run ((s.afterP y.1).come y.2) l) x.1
  rw [h,List.append_assoc]
theorem z3z:∀ (l:List (Pc × List Nat)) (s:LS) (x:Pc × List Nat),s.runOk l→(s.run l).Says x.1 x.2→1≤x.2.length→s.runOk (l++[x])
 | [],s,x,_,h2,h3=>⟨h2,h3,trivial⟩
 | y :: l,s,x,h1,h2,h3=>⟨h1.1,h1.2.1,z3z l _ x h1.2.2 h2 h3⟩
structure SameP (s t:LS):Prop where
 W:t.W=s.W
 lc:t.lc=s.lc
 lp:t.lp=s.lp
 pb:t.pb=s.pb
 place:t.place+s.text.length=s.place+t.text.length
theorem SameP.refl (s:LS):SameP s s:=⟨rfl,rfl,rfl,rfl,rfl⟩
theorem SameP.next {s t:LS} (h:SameP s t) (p:Pc) (b:List Nat):SameP s ((t.afterP p).come b):=by
 have e1:(t.afterP p).W=t.W∧(t.afterP p).lc=t.lc∧(t.afterP p).lp=t.lp∧(t.afterP p).pb=t.pb∧(t.afterP p).place=t.place∧(t.afterP p).text=t.text:=by cases p<;>exact ⟨rfl,rfl,rfl,rfl,rfl,rfl⟩
 obtain ⟨a1,a2,a3,a4,a5,a6⟩:=e1
 refine ⟨a1.trans h.W,a2.trans h.lc,a3.trans h.lp,a4.trans h.pb,?_⟩
 show (t.afterP p).place+b.length+_=_+((t.afterP p).text++b).length
 rw [a5,a6,List.length_append]
 have:=h.place
 omega
theorem z2j (aa:Option Addr) (n n' c:Nat):(Value.slice aa n c).ownBlock=(Value.slice aa n' c).ownBlock:=by cases aa<;>rfl
theorem TAt.pre {w:World} {a:Option Addr} {N cap:Nat} {xs:List Nat} (h:TAt w (.slice a N cap) xs) (hN:xs.length=N) (m:Nat) (hm:m≤N):TAt w (.slice a m cap) (xs.take m):=by
 obtain ⟨a',c',e,hc,hs⟩:=h
 injection e with e1 e2 e3
 subst e1 e3
 have hl:(xs.take m).length=m:=by rw [List.length_take];omega
 refine ⟨_,cap,by rw [hl],by rw [hl];omega,fun h0=>?_⟩
 obtain ⟨g,off,cur,e,hg,hz,ht⟩:=hs h0
 refine ⟨g,off,cur,e,hg,hz,?_⟩
 rw [hl,List.map_take,←ht,List.take_take,show min m xs.length=m by omega]
section
variable {B:Nat} {W w w':World} {wb pb gc:Nat} {ov0 ov ov':Value} {s s':LS} {chv tv:Value} {σ σ':Sta} {aa:Option Addr} {N cap:Nat} {zs:List Nat} {so so':Nat} {iv iv':Value}
theorem WX.came (h:WX B W w wb pb gc ov0 ov s chv tv σ aa N cap zs so iv) (n:Nat) (hn:s.text.length+n≤N) (hs:SAt w' wb 73 [.pointer (some ⟨pb,0,none⟩),.slice aa N cap,.int .i64 (so:Int),iv] (s.come ((zs.drop s.text.length).take n)) chv (.slice aa (s.text.length+n) cap)) (hc:Ch1 wb w w') :
  WX B W w' wb pb gc ov0 ov (s.come ((zs.drop s.text.length).take n)) chv (.slice aa (s.text.length+n) cap) σ aa N cap zs so iv:=by
 obtain ⟨l1,l2,l3,l4,l5⟩:=h.wc.lts
 obtain ⟨b1,b2,b3⟩:=h.wc.low
 obtain ⟨n1,n2,n3⟩:=h.wc.ne
 have hB1:=h.B1
 have hBw:=h.Bw
 have hz:=h.zl
 have hw:=hc.wt pb gc ov
 have hx:(s.come ((zs.drop s.text.length).take n)).text=zs.take (s.text.length+n):=by
  show s.text++_=_
  rw [z5f,←h.pre]
 have hxl:(s.come ((zs.drop s.text.length).take n)).text.length=s.text.length+n:=by rw [hx,List.length_take];omega
 have hal:TAt w' (.slice aa N cap) zs:=h.al.of (fun g cur e hg=>hc.keep g (h.ab g e).2.1)
 refine ⟨⟨hs,h.wc.enc.of (hc.keep _ (Ne.symm n1)) (hc.keep _ (Ne.symm n2)) (fun g e=>hc.keep g (fun e'=>n3 (e'▸e))) (Nat.le_of_eq hc.size.symm),by rw [hx];exact hal.pre hz _ hn,fun g e e2=>h.ap g e (by rw [z2j aa N (s.text.length+n)];exact e2),h.wc.ok.come (fun x hx=>h.bytes x (List.mem_of_mem_drop (List.mem_of_mem_take hx))),h.wc.chl,by rw [hxl];have:=h.small;omega,fun g e=>by rw [hc.size];exact (h.ab g (by rw [z2j aa N (s.text.length+n)];exact e)).1⟩,h.wt.trans hw,hal,hz,h.ap,by rw [hxl,hx],by rw [hxl];exact hn,h.bytes,h.small,?_,?_,h.B1,h.W1,h.Bw,fun b e=>by rw [hc.size];exact h.ab b e⟩
 ·obtain ⟨mm,hmm⟩:=h.ml
  exact ⟨mm,by rw [World.cell?_of_block (hc.keep 0 (by omega))];exact hmm⟩
 ·rw [hxl]
  rcases h.ix with e|⟨x,c4,room,F,e,hix,hF,hs⟩
  ·exact .inl e
  ·refine .inr ⟨x,c4,room,F,e,hix.keep (fun k hk=>hc.keep k (hs k hk).2.1),by omega,fun k hk=>?_⟩
   obtain ⟨s1,s2,s3,s4,s5,s6,s7⟩:=hs k hk
   exact ⟨s1,s2,s3,s4,s5,s6,by rw [z2j aa (s.text.length+n) N];exact s5⟩
def y2d (B:Nat) (W:World) (wb pb gc:Nat) (ov0:Value) (s:LS) (chv tv:Value) (σ:Sta) (aa:Option Addr) (N cap:Nat) (zs:List Nat) (e:Ending) (w':World):Prop :=
 e=.returned (.tuple #[])∧∃ (l:List (Pc × List Nat)) (ov' tv':Value) (so':Nat) (iv':Value),s.runOk l∧(s.run l).text=zs∧SameP s (s.run l)∧WX B W w' wb pb gc ov0 ov' (s.run l) chv tv' (z0s (s.runA l) σ) aa N cap zs so' iv'∧(z0s (s.runA l) σ).k≤σ.k+372*N∧(zs=[]→tv'=tv)∧∀k,tv'.ownBlock=some k→tv.ownBlock=some k∨(Value.slice aa N cap).ownBlock=some k
end
end D
namespace D
open Go.RowKit Rang
attribute [local go_sem ↓] wp_at_zero wp_at_succ
section
variable {B:Nat} {W w w':World} {wb pb gc:Nat} {ov0 ov ov':Value} {s s':LS} {chv tv:Value} {σ σ':Sta} {aa:Option Addr} {N cap:Nat} {zs:List Nat} {so so':Nat} {iv iv':Value}
structure PA (B:Nat) (W:World) (wb pb gc:Nat) (ov0:Value) (s:LS) (chv tv0:Value) (σ:Sta) (aa:Option Addr) (N cap:Nat) (zs:List Nat) (so:Nat) (l:List (Pc × List Nat)) (ov tv:Value) (so':Nat) (iv:Value) (w:World):Prop where
 ok:s.runOk l
 same:SameP s (s.run l)
 wx:WX B W w wb pb gc ov0 ov (s.run l) chv tv (z0s (s.runA l) σ) aa N cap zs so' iv
 k:(z0s (s.runA l) σ).k+372*s.text.length≤σ.k+372*(s.run l).text.length
 so:so'+s.text.length≤so+(s.run l).text.length
 nil:(s.run l).text=[]→tv=tv0
 tb:∀k,tv.ownBlock=some k→tv0.ownBlock=some k∨(Value.slice aa N cap).ownBlock=some k
theorem WX.drewN (h:WX B W w wb pb gc ov0 ov s chv tv σ aa N cap zs so iv) (q:Nat):WX B W (w.drewN q) wb pb gc ov0 ov s chv tv σ aa N cap zs so iv :=
 h.step (h.wc.below (z1v w q)) (z4r (z1v w q) wb pb gc ov) rfl rfl
theorem PA.drewN {tv0:Value} {l:List (Pc × List Nat)} (h:PA B W wb pb gc ov0 s chv tv0 σ aa N cap zs so l ov tv so' iv w) (q:Nat):PA B W wb pb gc ov0 s chv tv0 σ aa N cap zs so l ov tv so' iv (w.drewN q):=⟨h.ok,h.same,h.wx.drewN q,h.k,h.so,h.nil,h.tb⟩
theorem z7i (s:LS) (p:Pc):(s.afterP p).text=s.text∧(s.afterP p).place=s.place:=by cases p<;>exact ⟨rfl,rfl⟩
theorem PA.next {tv0:Value} {l:List (Pc × List Nat)} {p:Pc} {n m so1 so2 tc:Nat} {ov1 ov2 iv1 iv2:Value} {w1 w2:World} {ta:Option Addr} (h:PA B W wb pb gc ov0 s chv tv0 σ aa N cap zs so l ov1 (.slice ta m tc) so1 iv1 w1) (hm:m=(s.run l).text.length) (hn1:1≤n) (hn2:m+n≤N) (hsay:(s.run l).Says p ((zs.drop m).take n))
  (hx:WX B W w2 wb pb gc ov0 ov2 ((s.run l).afterP p) chv (.slice ta m tc) (z0s ((s.run l).actsP p) (z0s (s.runA l) σ)) aa N cap zs so2 iv2) (hso:so2≤so1+1) (hk:(z0s ((s.run l).actsP p) (z0s (s.runA l) σ)).k≤(z0s (s.runA l) σ).k+372) (hpl:s.place≤1000000000000) :
  Calls Tryz.prog 36 #[.pointer (some ⟨wb,0,none⟩),.slice aa (m+n) cap] w2 fun e w3=>e=.returned (.tuple #[])∧∃l' ov' tv' so' iv' m',m<m'∧m'=(s.run l').text.length∧m'≤N∧PA B W wb pb gc ov0 s chv tv0 σ aa N cap zs so l' ov' tv' so' iv' w3:=by
 obtain ⟨t1,t2⟩:=z7i (s.run l) p
 have hN:=h.wx.small
 have hz:=h.wx.zl
 have hp:=h.same.place
 have hbl:((zs.drop m).take n).length=n:=by rw [List.length_take,List.length_drop];omega
 have ht:((s.run l).afterP p).text.length=m:=by rw [t1,hm]
 refine (hx.wc.st.come2 ⟨ta,tc,by rw [ht]⟩ aa (m+n) cap ((zs.drop m).take n) (by rw [ht,hbl]) (by omega) (by rw [t2];omega)).mono ?_
 rintro e w3 ⟨rfl,h3,hc⟩
 have hx3:=hx.came (w':=w3) n (by rw [ht];exact hn2) (by rw [ht];exact h3) hc
 rw [ht] at hx3
 have hl:(((s.run l).afterP p).come ((zs.drop m).take n)).text.length=m+n:=by
  show (((s.run l).afterP p).text++_).length=_
  rw [List.length_append,ht,hbl]
 refine ⟨rfl,l++[(p,(zs.drop m).take n)],_,_,_,_,m+n,by omega,by rw [z1r];exact hl.symm,hn2,⟨z3z l s _ h.ok hsay (by show 1≤((zs.drop m).take n).length;omega),by rw [z1r];exact h.same.next _ _,by rw [z1r,z3l,z0t];exact hx3,?_,?_,fun e=>?_,fun k e=>.inr (by rw [z2j aa N (m+n)];exact e)⟩⟩
 ·rw [z1r,z3l,z0t]
  show (z0s ((s.run l).actsP p) (z0s (s.runA l) σ)).k+_≤_+372*(((s.run l).afterP p).come ((zs.drop m).take n)).text.length
  rw [hl]
  have:=h.k
  rw [←hm] at this
  omega
 ·rw [z1r]
  show so2+_≤_+(((s.run l).afterP p).come ((zs.drop m).take n)).text.length
  rw [hl]
  have:=h.so
  rw [←hm] at this
  omega
 ·rw [z1r] at e
  rw [e] at hl
  simp at hl
  omega
theorem z9r (h:WX B W w wb pb gc ov0 ov s chv tv σ aa N cap zs so iv) (hso:so≤1099511627) (hk:σ.k≤10000000000000) (hpl:s.place≤1000000000000) :
  Calls Tryz.prog 29 #[.pointer (some ⟨wb,0,none⟩)] w (y2d B W wb pb gc ov0 s chv tv σ aa N cap zs):=by
 have hN:=h.small
 have hzl:=qz h.zl
 have H0:Hid (PA B W wb pb gc ov0 s chv tv σ aa N cap zs so [] ov tv so iv w):=qz ⟨trivial,SameP.refl s,h,Nat.le_refl _,Nat.le_refl _,fun _=>rfl,fun _ e=>.inl e⟩
 have hle:=h.len
 have HP:Hid (∀l ov' tv' so' iv' w',PA B W wb pb gc ov0 s chv tv σ aa N cap zs so l ov' tv' so' iv' w'→(s.run l).text.length=N→y2d B W wb pb gc ov0 s chv tv σ aa N cap zs (.returned (.tuple #[])) w'):=qz fun l ov' tv' so' iv' w' h1 h2=>by
  refine ⟨rfl,l,ov',tv',so',iv',h1.ok,?_,h1.same,h1.wx,?_,?_,h1.tb⟩
  ·rw [h1.wx.pre,h2,←h1.wx.zl,List.take_length]
  ·have:=h1.k;rw [h2] at this;omega
  ·exact fun e=>h1.nil (List.eq_nil_of_length_eq_zero (by rw [h2,←h1.wx.zl,e];rfl))
 clear h
 generalize y2d B W wb pb gc ov0 s chv tv σ aa N cap zs=POST at HP ⊢
 go_enter Tryz.func29,Tryz.ntmps29
 go_wp2_with fail
 go_loopg [] (N-s.text.length) (fun gk ws=>∃l ov' tv' so' iv' m,gk=N-m∧m=(s.run l).text.length∧m≤N∧s.text.length≤m∧Hid (PA B W wb pb gc ov0 s chv tv σ aa N cap zs so l ov' tv' so' iv' ws))
 case atStart=>exact ⟨[],ov,tv,so,iv,_,rfl,rfl,hle,Nat.le_refl _,H0⟩
 case round =>
  obtain ⟨l,ov1,tv1,so1,iv1,m,rfl,hm,hmN,hm0,HPA⟩:=hrel
  obtain ⟨ta,tc,htv,htc,_⟩:=id (uh HPA).wx.wc.tx
  rw [←hm] at htv
  subst htv
  clear htc
  have c10:=(uh HPA).wx.wc.st.c10
  have c13:wr.cell? ⟨wb,13,none⟩=some (.slice aa N cap):=(uh HPA).wx.wc.st.cell 13
  have HMM:=qz hm
  clear hm
  by_cases hlt:m<N
  ·have hi:(m:Int)<(N:Int):=by omega
   obtain ⟨aa',cc',e,hcc,hs⟩:=id (uh HPA).wx.al
   injection e with e1 e2 e3
   obtain ⟨g,off,cur,haa,_,_⟩:=hs (by have:=uh hzl;omega)
   rw [←e1] at haa
   subst haa
   have hcN:N≤cap:=by have:=uh hzl;omega
   clear e1 e2 e3 hs hcc
   go_wp2_with fail
   go_quiet (fail)
   go_wp2_with fail
   have HPB:=qz ((uh HPA).drewN nq)
   clear HPA c10 c13 H0
   generalize wr.drewN nq=w1 at *
   have hw1:=(uh HPB).wx
   have d10:w1.drew.cell? ⟨wb,10,none⟩=some (.slice ta m tc):=by have:=hw1.wc.st.c10;exact this
   have d13:w1.drew.cell? ⟨wb,13,none⟩=some (.slice (some ⟨g,off,none⟩) N cap):=hw1.wc.st.cell 13
   have HPUT:=qz (y3s (hw1.drewN 1) (by rw [←uh HMM];exact hlt) (by have:=(uh HPB).so;have:=uh HMM;omega) (by have:=(uh HPB).k;have:=uh HMM;omega))
   clear hw1 hi
   go_upto_region 1 with fail
   go_region_law (first
    | (
     refine z0z 51 #[.pointer (some ⟨wb,0,none⟩)] rfl (by go_simp) ?_
     refine (uh HPUT).mono ?_
     rintro e w2 ⟨p,n,ov2,so2,iv2,rfl,hn1,hn2,hsay,hx2,hso2,hk2⟩
     rw [←uh HMM] at hn2 hsay
     have f10:w2.cell? ⟨wb,10,none⟩=some (.slice ta m tc):=by have:=hx2.wc.st.c10;exact this
     have f13:w2.cell? ⟨wb,13,none⟩=some (.slice (some ⟨g,off,none⟩) N cap):=hx2.wc.st.cell 13
     have a1:IntKind.i64.wrap ((m:Int)+(n:Int))=(m:Int)+(n:Int):=wi64 (by omega) (by omega)
     have a2:(0:Int)≤(m:Int)+(n:Int):=by omega
     have a3:((m:Int)+(n:Int)).toNat=m+n:=by omega
     have a4:(m:Int)+(n:Int)≤(cap:Int):=by omega
     have a5:m+n≤cap:=by omega
     have HCO:=qz ((uh HPB).next (uh HMM) hn1 hn2 hsay hx2 hso2 hk2 hpl)
     clear hsay hx2 hso2 hk2
     refine ⟨_,rfl,?_⟩)
    | (
     refine z0z 36 #[.pointer (some ⟨wb,0,none⟩),.slice (some ⟨g,off,none⟩) (m+n) cap] rfl (by go_simp) ?_
     refine (uh HCO).mono ?_
     rintro e w3 ⟨rfl,l',ov',tv',so',iv',m',k1,k2,k3,k4⟩
     have HK2:=qz k2
     have HK4:=qz k4
     clear k2 k4 HCO
     refine ⟨_,rfl,?_⟩))
   all_goals (
    clear d10 d13 f10 f13 a1 a2 a3 a4 a5
    go_wp2_with fail
    go_roundg (N-m')
    case measure=>omega
    case rel=>exact ⟨l',ov',tv',so',iv',m',rfl,uh HK2,k3,by omega,HK4⟩)
  ·obtain rfl:m=N:=by omega
   have hi:¬ (m:Int)<(m:Int):=by omega
   clear hlt
   go_wp2_with fail
   go_quiet (fail)
   go_wp2_with fail
   have HE:=qz (uh HP l ov1 _ so1 iv1 _ ((uh HPA).drewN nq) (uh HMM).symm)
   go_end0
   exact uh HE
end
end D
namespace D
open Go.RowKit Rang
attribute [local go_sem ↓] wp_at_zero wp_at_succ
theorem y1m {w:World} (ty:TypeId) (tv:Value) (xs:List Nat) (hx:TAt w tv xs) (hnil:xs=[]→tv=.slice none 0 0)
  (xa:Option Addr) (c:Nat) (ys:List Nat) (hsrc:SrcB w xa c ys) (hlen:xs.length+ys.length≤140737488355328) :
  ∃v' w',(Builtin.append_ #[32,32] ty #[tv,.slice xa ys.length c]).run Tryz.prog w=.ok v' w'∧AppT w w' tv v' (xs++ys)∧TAt w' tv xs:=by
 obtain ⟨i0,hi,hz0,hz1,hz2⟩:=y2a
 have h1:∀u∈ys.map bv,u.oneCell'=true:=by
  intro u hu
  obtain ⟨y,_,rfl⟩:=List.mem_map.1 hu
  rfl
 have hself:ys=[]→AppT w w tv tv (xs++ys):=fun e=>by
  subst e
  rw [List.append_nil]
  exact ⟨hx,rfl,rfl,rfl,Nat.le_refl _,fun _ _ _=>rfl,fun _ e=>.inl e,hnil⟩
 by_cases hys:ys=[]
 ·have hh:=hself hys
  refine ⟨tv,w,?_,hh,hx⟩
  subst hys
  have hu:=Tryz.underlying32
  rcases hsrc with ⟨rfl,rfl,_⟩|⟨ad,rfl,_⟩
  ·by_cases hemp:xs=[]
   ·obtain rfl:=hnil hemp
    simp [Builtin.append_,run_underlying hu,sizeOf,typeInfo,hi,Builtin.lenOf,Builtin.firstCells]
   ·obtain ⟨a0,cap,rfl,hcap,hb⟩:=id hx
    have hpos:0<xs.length:=List.length_pos_iff.2 hemp
    obtain ⟨g,off,cur,rfl,_⟩:=hb (by omega)
    simp [Builtin.append_,run_underlying hu,sizeOf,typeInfo,hi,Builtin.lenOf,Builtin.firstCells,hcap,storeCells]
  ·have hl0:(loadCells ad 0).run Tryz.prog w=.ok #[] w:=by simp [loadCells,loadCellsFrom]
   by_cases hemp:xs=[]
   ·obtain rfl:=hnil hemp
    simp [Builtin.append_,run_underlying hu,sizeOf,typeInfo,hi,Builtin.lenOf,Builtin.firstCells,hl0,Result.andThen]
   ·obtain ⟨a0,cap,rfl,hcap,hb⟩:=id hx
    have hpos:0<xs.length:=List.length_pos_iff.2 hemp
    obtain ⟨g,off,cur,rfl,_⟩:=hb (by omega)
    simp [Builtin.append_,run_underlying hu,sizeOf,typeInfo,hi,Builtin.lenOf,Builtin.firstCells,hcap,storeCells,hl0,Result.andThen]
 ·obtain ⟨ad,rfl,hcells⟩:∃ad,xa=some ad∧∀ (j:Nat) u,(ys.map bv)[j]?=some u→w.cell? (ad.add j)=some u:=by
   rcases hsrc with ⟨_,_,e⟩|h2
   ·exact absurd e hys
   ·exact h2
  have hne:xs++ys≠[]:=by simp [hys]
  by_cases hemp:xs=[]
  ·obtain rfl:=hnil hemp
   subst hemp
   obtain ⟨v',w',hrun,r1,r2,_⟩:=run_append_own (P:=Tryz.prog) w w.heap.size 32 ty 5 i0 (.int .u8 0) 1 1 Tryz.underlying32 hi hz0 hz1 hz2 rfl (by decide) (.slice none 0 0) 0 [] (World.ownsRow_nil w _ 5 1) ad ys.length c (ys.map bv) (by simp) hcells h1 (by unfold maxLen;omega) (by omega) (Nat.le_refl _)
   exact ⟨v',w',hrun,z4p (by simpa using r1) r2 (by simpa using hys),hx.of (fun g cur e hg=>r2.block g (z0c hg) (by simp [Value.ownBlock]))⟩
  ·obtain ⟨a0,cap,rfl,hcap,hb⟩:=id hx
   have hpos:0<xs.length:=List.length_pos_iff.2 hemp
   obtain ⟨g,off,cur,rfl,hg,hz,htk⟩:=hb (by omega)
   obtain ⟨_,_,e,_,hrd⟩:=hx.rd
   obtain ⟨g',off',e',hcell⟩:=hrd hpos
   injection e with e1 _ _
   rw [e'] at e1
   injection e1 with e1
   injection e1 with e4 e5
   subst e4 e5
   have hold:∀ (j:Nat) u,(xs.map bv)[j]?=some u→w.cell? ⟨g,off+j,none⟩=some u:=by
    intro j u hj
    have hj2:j<xs.length:=by
     have:=(List.getElem?_eq_some_iff.1 hj).1
     simpa using this
    rw [hcell j hj2,←hj]
    simp [bv,List.getD_eq_getElem?_getD,List.getElem?_eq_getElem hj2]
   by_cases hr:xs.length+ys.length≤cap
   ·have hsp:∀j,j<(ys.map bv).length→(w.cell? ⟨g,off+xs.length*i0.size+j,none⟩).isSome=true∧w.frozen? ⟨g,off+xs.length*i0.size+j,none⟩=false:=by
     intro j hj
     rw [hz1,Nat.mul_one]
     have hj2:off+xs.length+j<cur.size:=by simp at hj;omega
     exact ⟨by simp only [World.cell?,hg];simp [hj2],by simp [World.frozen?,hg]⟩
    have hrun:=run_append_room_cells (P:=Tryz.prog) w 32 ty 5 i0 Tryz.underlying32 hi g off xs.length cap ad ys.length c (ys.map bv) (by rw [hz1];simp) hcells h1 hr (fun j hj=>(hsp j hj).1) (fun j hj=>(hsp j hj).2)
    refine ⟨_,_,hrun,?_⟩
    rw [hz1]
    obtain ⟨cur',hg',hsz'⟩:=z1q (ys.map bv) (off+xs.length*1) w cur hg
    obtain ⟨q1,q2,q3,q4,q5⟩:=z1o g (ys.map bv) (off+xs.length*1) w
    have htx:TAt (w.setCells g (off+xs.length*1) (ys.map bv)) (.slice (some ⟨g,off,none⟩) (xs++ys).length cap) (xs++ys):=by
     refine z2v hg' (by omega) (by simpa using hr) fun j hj=>?_
     by_cases hjx:j<xs.length
     ·rw [World.cell?_setCells_out g _ _ _ _ (fun _ _=>.inl (by show off+j<_;omega)),hcell j hjx]
      simp [bv,List.getD_eq_getElem?_getD,List.getElem?_append_left hjx]
     ·have hj3:j-xs.length<(ys.map bv).length:=by simp at hj ⊢;omega
      have:=World.cell?_setCells_in g (ys.map bv) (off+xs.length*1) w (fun k hk=>by
       have hk2:off+xs.length+k<cur.size:=by simp at hk;omega
       simp [World.cell?,hg,hk2]) (j-xs.length) hj3
      rw [show off+xs.length*1+(j-xs.length)=off+j by omega] at this
      have hj4:j-xs.length<ys.length:=by simpa using hj3
      have e6:(xs++ys).getD j 0=ys.getD (j-xs.length) 0:=by simp [List.getD_eq_getElem?_getD,List.getElem?_append_right (show xs.length≤j by omega)]
      rw [this,e6]
      simp [List.getD_eq_getElem?_getD,List.getElem?_eq_getElem hj4]
    rw [List.length_append] at htx
    refine ⟨⟨htx,q2,q3,q4,Nat.le_of_eq q1.symm,fun k _ hk=>q5 k (fun e=>hk (by rw [e];rfl)),fun k e=>.inl e,fun e=>absurd e hne⟩,?_⟩
    have:=htx.pre (m:=xs.length) (by rw [List.length_append]) (by omega)
    rw [List.take_left] at this
    exact this
   ·obtain ⟨v',w',hrun,r1,r2⟩:=run_append_arg_grows (P:=Tryz.prog) w 32 ty 5 i0 (.int .u8 0) 1 1 Tryz.underlying32 hi hz0 hz1 hz2 rfl (by decide) ⟨g,off,none⟩ xs.length cap (xs.map bv) (by simp) (fun j u hj=>by rw [Addr.add_lit];exact hold j u hj) ad ys.length c (ys.map bv) (by simp) hcells (by omega) (by unfold maxLen;omega) (by omega)
    exact ⟨v',w',hrun,z4p (by simpa using r1) r2 hne,hx.of (fun g cur e hg=>r2.block g (z0c hg) (by simp))⟩
end D
namespace D
open Go.RowKit Rang
attribute [local go_sem ↓] wp_at_zero wp_at_succ
def NewW (b:Nat) (s:LS) (chl:List Nat) (chv tv:Value) (zs:List Nat) (w:World) (e:Ending) (w':World):Prop :=
 ∃ (wb pb gc N cap:Nat) (aa:Option Addr),e=.returned (.pointer (some ⟨wb,0,none⟩))∧WX w.heap.size w' w' wb pb gc (.slice none 0 0) (.slice none 0 0) s chv tv ⟨enc0,0,0,chl⟩ aa N cap zs 0 (.pointer none)∧SAt w' b 47 [] s chv tv ∧
  (w'.os=w.os∧w'.tape=w.tape∧w'.output=w.output∧w.heap.size≤w'.heap.size)∧(∀k,k<w.heap.size→tv.ownBlock≠some k→w'.heap[k]?=w.heap[k]?)∧(∀k,(Value.slice aa N cap).ownBlock=some k→tv.ownBlock=some k∨w.heap.size≤k)
section
variable {w:World} {b:Nat} {s:LS} {tv:Value}
theorem z1g {w:World} {v:Value} {xs:List Nat} (h:TAt w v xs) (hnil:xs=[]→v=.slice none 0 0):∀k,v.ownBlock=some k→∃cur,w.heap[k]?=some (.cells cur 5 (0,0)):=fun k e=>by
 by_cases h0:xs=[]
 ·rw [hnil h0] at e;cases e
 ·obtain ⟨g,cur,e2,hg⟩:=h.block h0
  rw [e] at e2
  obtain rfl:k=g:=Option.some.inj e2
  exact ⟨cur,hg⟩
theorem y1d {w2 w3:World} {pb N cap:Nat} {chl zs:List Nat} {chv:Value} {a3:Option Addr} (hs:SAt w b 47 [] s chv tv) (hs3:SAt w3 b 47 [] s chv tv) (hps:PS w.heap.size w2 pb w.heap.size (.slice none 0 0) enc0 chl 0) (kp:∀k,k<w.heap.size→w2.heap[k]?=w.heap[k]?)
  (ho2:w2.os=w.os∧w2.tape=w.tape∧w2.output=w.output∧w.heap.size≤w2.heap.size) (ha:AppT w2.drew w3 tv (.slice a3 N cap) zs) (htx:TAt w3 tv s.text) (hx:TAt w tv s.text) (hnil:s.text=[]→tv=.slice none 0 0) (hpre:s.text=zs.take s.text.length) (hzl:zs.length=N) (hle:s.text.length≤N) (hN:N≤1073741824) (hb:∀z∈zs,z<256)
  (ho:LOk s) (hchl:chl.length=s.chances) (hml:T6.ML w) (ht0:tv.ownBlock≠some 0) :
  NewW b s chl chv tv zs w (.returned (.pointer (some ⟨w3.heap.size,0,none⟩))) (w3.alloc (.cells #[.int .i64 (s.W:Int),.int .i64 (s.lc:Int),.int .i64 (s.lp:Int),.int .i64 (s.pb:Int),chv,.int .u32 (s.f0:Int),.int .u32 (s.f1:Int),.int .u32 (s.f2:Int),.int .u32 (s.f3:Int),.int .i64 (s.z:Int),tv,.int .i64 (s.place:Int),.pointer (some ⟨pb,0,none⟩),.slice a3 N cap,.int .i64 0,.pointer none] 73)):=by
 obtain ⟨w4,hw4⟩:∃w4,w4=(w3.alloc (.cells #[.int .i64 (s.W:Int),.int .i64 (s.lc:Int),.int .i64 (s.lp:Int),.int .i64 (s.pb:Int),chv,.int .u32 (s.f0:Int),.int .u32 (s.f1:Int),.int .u32 (s.f2:Int),.int .u32 (s.f3:Int),.int .i64 (s.z:Int),tv,.int .i64 (s.place:Int),.pointer (some ⟨pb,0,none⟩),.slice a3 N cap,.int .i64 0,.pointer none] 73)):=⟨_,rfl⟩
 have hbel:Below w3.heap.size w3 w4:=by rw [hw4];exact (Below.refl _ _).alloc (Nat.le_refl _) _
 have hnew:SAt w4 w3.heap.size 73 [.pointer (some ⟨pb,0,none⟩),.slice a3 N cap,.int .i64 ((0:Nat):Int),.pointer none] s chv tv:=by rw [hw4];exact heap_alloc_new _ _
 have hsz:w4.heap.size=w3.heap.size+1:=by rw [hw4];simp
 rw [←hw4]
 clear hw4
 have hw23:w2.heap.size≤w3.heap.size:=ha.size
 have hpc:=hps.pc
 have hlo:=hpc.enc.lo
 have hpl:pb<w2.heap.size:=z0c hpc.enc.cells
 have hgl:w.heap.size<w2.heap.size:=hpc.chs.lt
 have htb:=z1g hx hnil
 have htlt:∀k,tv.ownBlock=some k→k<w.heap.size:=fun k e=>by obtain ⟨cur,hc⟩:=htb k e;exact z0c hc
 have k3:∀k,k<w2.heap.size→tv.ownBlock≠some k→w4.heap[k]?=w2.heap[k]?:=fun k hk h=>(hbel.block k (by omega)).trans (ha.keep k hk h)
 have k0:∀k,k<w.heap.size→tv.ownBlock≠some k→w4.heap[k]?=w.heap[k]?:=fun k hk h=>(k3 k (by omega) h).trans (kp k hk)
 have hab:=z1g ha.tx ha.nil
 have hal4:TAt w4 (.slice a3 N cap) zs:=ha.tx.of (fun g cur _ hg=>hbel.block g (z0c hg))
 have htx4:TAt w4 tv s.text:=htx.of (fun g cur _ hg=>hbel.block g (z0c hg))
 have hPS:PSta w.heap.size w4 pb w.heap.size (.slice none 0 0) ⟨enc0,0,0,chl⟩:=(show PSta w.heap.size w2 pb w.heap.size (.slice none 0 0) ⟨enc0,0,0,chl⟩ from ⟨hpc,⟨y4g,hps.chs⟩,hps.base⟩).of (k3 pb hpl (fun e=>by have:=htlt _ e;omega)) (k3 _ hgl (fun e=>by have:=htlt _ e;omega)) (fun g e=>by cases e) (by omega)
 have h0:0<w.heap.size:=by obtain ⟨mm,hmm⟩:=hml;exact Nat.lt_of_le_of_lt (Nat.zero_le _) (z0i hmm)
 have hm4:T6.ML w4:=by
  obtain ⟨mm,hmm⟩:=hml
  exact ⟨mm,by rw [World.cell?_of_block (k0 0 h0 ht0)];exact hmm⟩
 refine ⟨w3.heap.size,pb,w.heap.size,N,cap,a3,rfl,⟨⟨hnew,hPS,htx4,fun g e=>(by cases e),ho,hchl,by omega,fun g e=>by have:=htlt g e;omega⟩,WT.refl _ _ _ _ _,hal4,hzl,fun b e=>(by cases e),hpre,hle,hb,hN,hm4,.inl rfl,h0,by omega,by omega,fun k e=>?_⟩,hs3.keepM (hbel.block b hs3.lt),⟨hbel.os.trans (ha.os.trans ho2.1),hbel.tape.trans (ha.tape.trans ho2.2.1),hbel.output.trans (ha.output.trans ho2.2.2.1),by omega⟩,k0,fun k e=>?_⟩
 ·obtain ⟨cur,hc⟩:=hab k e
  have hk3:=z0c hc
  have hc4:w4.heap[k]?=some (.cells cur 5 (0,0)):=by rw [hbel.block k hk3];exact hc
  exact ⟨by omega,by omega,z0e hc4 hPS.1.enc.cells (by decide),z0e hc4 hPS.1.chs (by decide)⟩
 ·rcases ha.lies k e with h|h
  ·exact .inl h
  ·have h:w2.heap.size≤k:=h
   exact .inr (by omega)
theorem z4m (gv:Nat) (chl:List Nat) (h:SAt w b 47 [] s (.slice (some ⟨gv,0,none⟩) chl.length chl.length) tv) (hcl:chl.length=s.chances) (hch:Chs chl) (hgv:Ints w gv chl) (ho:LOk s) (hx:TAt w tv s.text) (hnil:s.text=[]→tv=.slice none 0 0) (hln:s.text.length≤536870912)
  (xa:Option Addr) (c:Nat) (ys:List Nat) (hsrc:SrcB w xa c ys) (hy:ys.length≤1048576) (hyb:∀y∈ys,y<256) (hml:T6.ML w) (ht0:tv.ownBlock≠some 0) :
  Calls Tryz.prog 28 #[.pointer (some ⟨b,0,none⟩),.slice xa ys.length c] w (NewW b s chl (.slice (some ⟨gv,0,none⟩) chl.length chl.length) tv (s.text++ys) w):=by
 have hsm:=z0x ho
 obtain ⟨n,hn⟩:∃n,n=chl.length:=⟨_,rfl⟩
 have hn65:n≤65536:=by omega
 have HNEW:=qz (y3d n w hn65)
 have HGV:=qz hgv
 rw [←hn] at h hcl ⊢
 have H:=qz h
 have HN:=qz hn
 have c4:=h.c4
 have HX:=qz hx
 have HNIL:=qz hnil
 have HSRC:=qz hsrc
 have HCH:=qz hch
 have HO:=qz ho
 have HML:=qz hml
 have HYB:=qz hyb
 have HLN:Hid (s.text.length+ys.length≤140737488355328):=qz (by omega)
 have HLL:=qz hln
 have HT0:=qz ht0
 have hbt:∀w',SAt w' b 47 [] s (.slice (some ⟨gv,0,none⟩) n n) tv→TAt w' tv s.text→tv.ownBlock≠some b:=fun w' h1 h2 e=>by
  by_cases h0:s.text=[]
  ·rw [hnil h0] at e;cases e
  ·obtain ⟨g,cur,e2,hg⟩:=h2.block h0
   rw [e] at e2
   obtain rfl:b=g:=Option.some.inj e2
   exact z0e hg h1 (by decide) rfl
 have HBT:=qz (hbt w h hx)
 have HCL:=qz hcl
 clear hcl h hgv hn hx hnil hsrc hch ho hml hyb hln hbt ht0
 go_enter Tryz.func28,Tryz.ntmps28
 go_wp2_with fail
 refine (uh HNEW).mono ?_
 rintro e w1 ⟨pb,rfl,hps,hb1⟩
 have c4':=(uh H).stays hb1
 have d4:=c4'.c4
 have HB1:=qz hb1
 have HSET:=qz (y3g w.heap.size pb w.heap.size w1 (.slice none 0 0) enc0 (List.replicate n 1024) 0 (chl.map fun p:Nat=>(p:Int)) (some ⟨gv,0,none⟩) n hps (fun j hj=>by
  rw [List.length_map] at hj
  have hg1:Ints w1 gv chl:=by unfold Ints;rw [hb1.block gv (z0c (uh HGV))];exact uh HGV
  refine ⟨gv,0,rfl,?_⟩
  rw [Nat.zero_add,hg1.cell j hj]
  simp [List.getD_eq_getElem?_getD,List.getElem?_eq_getElem hj]) (by rw [List.length_map,←uh HN];simp) (fun p hp=>by
  obtain ⟨q,hq,rfl⟩:=List.mem_map.1 hp
  have:=uh HCH q hq
  unfold Fit1
  omega) (by simpa using hn65))
 have e1:(chl.map fun p:Nat=>(p:Int)).length=n:=by rw [List.length_map];exact (uh HN).symm
 have e2:(chl.map fun p:Nat=>(p:Int)).map Int.toNat=chl:=by
  rw [List.map_map]
  exact (List.map_congr_left (g:=id) (fun a _=>by simp)).trans (List.map_id chl)
 rw [e1,e2] at HSET
 have HPB:Hid (w.heap.size≤pb):=qz hps.pc.enc.lo
 have HS1:=qz c4'
 clear hps hb1 c4' e1 e2 c4 HNEW
 go_wp2_with fail
 refine (uh HSET).mono ?_
 rintro e w2 ⟨rfl,hps2,hts⟩
 have hbw:b<w.heap.size:=(uh H).lt
 have kp:∀k,k<w.heap.size→w2.heap[k]?=w.heap[k]?:=fun k hk=>by
  rw [hts.keep k (by have:=(uh HB1).size;omega) (by have:=uh HPB;omega) (by omega) (by simp [Value.ownBlock])]
  exact (uh HB1).block k hk
 have hs2:SAt w2 b 47 [] s (.slice (some ⟨gv,0,none⟩) n n) tv:=by unfold SAt;rw [kp b hbw];exact uh H
 have htlt:∀g cur,tv.ownBlock=some g→w.heap[g]?=some (.cells cur 5 (0,0))→w2.heap[g]?=w.heap[g]?:=fun g cur _ hg=>kp g (z0c hg)
 have hx2:TAt w2 tv s.text:=(uh HX).of htlt
 have hsr2:SrcB w2 xa c ys:=by
  rcases uh HSRC with h|⟨ad,e,hh⟩
  ·exact .inl h
  ·exact .inr ⟨ad,e,fun j u hj=>by
    have:=hh j u hj
    rw [World.cell?_of_block (kp _ (by have:=z0i this;exact this))]
    exact this⟩
 have HAP:=qz (y1m (w:=w2.drew) 32 tv s.text hx2 (uh HNIL) xa c ys hsr2 (uh HLN))
 have HS2:=qz hs2
 have HPS2:=qz hps2
 have HTS:=qz hts
 have HKP:=qz kp
 have HHX2:=qz hx2
 have HZZ:Hid (w.heap.size≤w2.heap.size):=qz (Nat.le_trans (uh HB1).size hts.size)
 clear hps2 hts hs2 hx2 hsr2 htlt kp HSET d4
 obtain ⟨ta,n0,tc,rfl,hn0⟩:∃ta n0 tc,tv=.slice ta n0 tc∧n0=s.text.length:=by
  obtain ⟨a,cap,e,_⟩:=uh HX
  exact ⟨a,_,cap,e,rfl⟩
 have c0:=(uh HS2).c0
 have c1:=(uh HS2).c1
 have c2:=(uh HS2).c2
 have c3:=(uh HS2).c3
 have c4:=(uh HS2).c4
 have c5:=(uh HS2).c5
 have c6:=(uh HS2).c6
 have c7:=(uh HS2).c7
 have c8:=(uh HS2).c8
 have c9:=(uh HS2).c9
 have c10:=(uh HS2).c10
 have c11:=(uh HS2).c11
 have HN0:=qz hn0
 clear hn0
 go_upto_region 3 with fail
 go_region_law (
  refine z3m rfl _ _ 32 rfl (.slice ta n0 tc) (.slice xa ys.length c) (by rfl) (by rfl) ?_
  obtain ⟨v3,w3,hr,ha,hta⟩:=uh HAP
  obtain ⟨a3,cap3,hv3,_⟩:=id ha.tx
  obtain ⟨N3,hN3⟩:∃N3,N3=(s.text++ys).length:=⟨_,rfl⟩
  rw [←hN3] at hv3
  subst hv3
  refine ⟨_,w3,hr,?_⟩
  have HA:=qz ha
  have HN3:=qz hN3
  have HTA:=qz hta
  have ks:w3.heap[b]?=w2.heap[b]?:=ha.keep b (uh HS2).lt (uh HBT)
  have hs3:SAt w3 b 47 [] s (.slice (some ⟨gv,0,none⟩) n n) (.slice ta n0 tc):=(uh HS2).keepM ks
  have e0:=hs3.c0
  have e1:=hs3.c1
  have e2:=hs3.c2
  have e3:=hs3.c3
  have e4:=hs3.c4
  have e5:=hs3.c5
  have e6:=hs3.c6
  have e7:=hs3.c7
  have e8:=hs3.c8
  have e9:=hs3.c9
  have e10:=hs3.c10
  have e11:=hs3.c11
  have HS3:=qz hs3
  clear ha hr ks hs3 hN3 hta)
 all_goals (
  have HE:=qz (y1d (uh H) (uh HS3) (uh HPS2) (uh HKP) (by
   have h1:=uh HB1
   have h2:=uh HTS
   exact ⟨h2.os.trans h1.os,h2.tape.trans h1.tape,h2.output.trans h1.output,uh HZZ⟩) (uh HA) (uh HTA) (uh HX) (uh HNIL) (by rw [List.take_left]) (uh HN3).symm (by rw [uh HN3,List.length_append];omega) (by rw [uh HN3,List.length_append];have:=uh HLL;omega) (fun z hz=>by
   rcases List.mem_append.1 hz with h|h
   ·exact (uh HO).text z h
   ·exact uh HYB z h) (uh HO) (by rw [←uh HN];exact uh HCL) (uh HML) (uh HT0))
  clear c0 c1 c2 c3 c4 c5 c6 c7 c8 c9 c10 c11 e0 e1 e2 e3 e4 e5 e6 e7 e8 e9 e10 e11
  go_wp2_with fail
  go_ret
  exact uh HE)
end
end D
namespace D
open Go.RowKit Rang
attribute [local go_sem ↓] wp_at_zero wp_at_succ
def z6h (wb:Nat) (s:LS) (tv:Value) (ch:List Nat) (w:World) (e:Ending) (w':World):Prop :=
 ∃ (g:Nat) (tv':Value),e=.returned (.agg (z0v { s with text:=cutT s } (.slice (some ⟨g,0,none⟩) ch.length ch.length) tv').toArray)∧w.heap.size≤g∧Ints w' g ch∧TAt w' tv' (cutT s)∧(cutT s=[]→tv'=.slice none 0 0)∧(∀k,tv'.ownBlock=some k→tv.ownBlock=some k∨w.heap.size≤k) ∧
  (w'.os=w.os∧w'.tape=w.tape∧w'.output=w.output∧w.heap.size≤w'.heap.size)∧(∀k,k<w.heap.size→k≠wb→w'.heap[k]?=w.heap[k]?)∧w'.cell? ⟨wb,12,none⟩=w.cell? ⟨wb,12,none⟩
section
variable {B:Nat} {W w w':World} {wb pb gc:Nat} {ov0 ov ov':Value} {s s':LS} {chv tv:Value} {σ σ':Sta} {aa:Option Addr} {N cap:Nat} {zs:List Nat} {so so':Nat} {iv iv':Value}
theorem row_of {w:World} {r:Nat} {cs:Array Value} {t:TypeId} (hr:w.heap[r]?=some (.cells cs t (0,0))) (i:Nat):w.cell? ⟨r,i,none⟩=cs[i]?∧w.frozen? ⟨r,i,none⟩=false:=⟨by simp only [World.cell?,hr];rfl,by simp [World.frozen?,hr]⟩
theorem z4d {w:World} {r:Nat} {t:TypeId} {a0 a1 a2 a3 a4 a5 a6 a7 a8 a9 a10 a11:Value} (hr:w.heap[r]?=some (.cells #[a0,a1,a2,a3,a4,a5,a6,a7,a8,a9,a10,a11] t (0,0))) (b0 b1 b2 b3 b4 b5 b6 b7 b8 b9 b10 b11:Value) :
  (((((((((((((w.setCell ⟨r,0,none⟩ b0).setCell ⟨r,1,none⟩ b1).setCell ⟨r,2,none⟩ b2).setCell ⟨r,3,none⟩ b3).setCell ⟨r,4,none⟩ b4).setCell ⟨r,5,none⟩ b5).setCell ⟨r,6,none⟩ b6).setCell ⟨r,7,none⟩ b7).setCell ⟨r,8,none⟩ b8).setCell ⟨r,9,none⟩ b9).setCell ⟨r,10,none⟩ b10).setCell ⟨r,11,none⟩ b11).heap[r]?=some (.cells #[b0,b1,b2,b3,b4,b5,b6,b7,b8,b9,b10,b11] t (0,0))) ∧
  Ch1 r w ((((((((((((w.setCell ⟨r,0,none⟩ b0).setCell ⟨r,1,none⟩ b1).setCell ⟨r,2,none⟩ b2).setCell ⟨r,3,none⟩ b3).setCell ⟨r,4,none⟩ b4).setCell ⟨r,5,none⟩ b5).setCell ⟨r,6,none⟩ b6).setCell ⟨r,7,none⟩ b7).setCell ⟨r,8,none⟩ b8).setCell ⟨r,9,none⟩ b9).setCell ⟨r,10,none⟩ b10).setCell ⟨r,11,none⟩ b11):=by
 refine ⟨?_,((((((((((((Ch1.refl r w).set 0 b0).set 1 b1).set 2 b2).set 3 b3).set 4 b4).set 5 b5).set 6 b6).set 7 b7).set 8 b8).set 9 b9).set 10 b10).set 11 b11⟩
 have h0:(w.setCell ⟨r,0,none⟩ b0).heap[r]?=some (.cells #[b0,a1,a2,a3,a4,a5,a6,a7,a8,a9,a10,a11] t (0,0)):=heap_setCell_same _ r 0 _ t b0 hr
 have h1:((w.setCell ⟨r,0,none⟩ b0).setCell ⟨r,1,none⟩ b1).heap[r]?=some (.cells #[b0,b1,a2,a3,a4,a5,a6,a7,a8,a9,a10,a11] t (0,0)):=heap_setCell_same _ r 1 _ t b1 h0
 have h2:(((w.setCell ⟨r,0,none⟩ b0).setCell ⟨r,1,none⟩ b1).setCell ⟨r,2,none⟩ b2).heap[r]?=some (.cells #[b0,b1,b2,a3,a4,a5,a6,a7,a8,a9,a10,a11] t (0,0)):=heap_setCell_same _ r 2 _ t b2 h1
 have h3:((((w.setCell ⟨r,0,none⟩ b0).setCell ⟨r,1,none⟩ b1).setCell ⟨r,2,none⟩ b2).setCell ⟨r,3,none⟩ b3).heap[r]?=some (.cells #[b0,b1,b2,b3,a4,a5,a6,a7,a8,a9,a10,a11] t (0,0)):=heap_setCell_same _ r 3 _ t b3 h2
 have h4:(((((w.setCell ⟨r,0,none⟩ b0).setCell ⟨r,1,none⟩ b1).setCell ⟨r,2,none⟩ b2).setCell ⟨r,3,none⟩ b3).setCell ⟨r,4,none⟩ b4).heap[r]?=some (.cells #[b0,b1,b2,b3,b4,a5,a6,a7,a8,a9,a10,a11] t (0,0)):=heap_setCell_same _ r 4 _ t b4 h3
 have h5:((((((w.setCell ⟨r,0,none⟩ b0).setCell ⟨r,1,none⟩ b1).setCell ⟨r,2,none⟩ b2).setCell ⟨r,3,none⟩ b3).setCell ⟨r,4,none⟩ b4).setCell ⟨r,5,none⟩ b5).heap[r]?=some (.cells #[b0,b1,b2,b3,b4,b5,a6,a7,a8,a9,a10,a11] t (0,0)):=heap_setCell_same _ r 5 _ t b5 h4
 have h6:(((((((w.setCell ⟨r,0,none⟩ b0).setCell ⟨r,1,none⟩ b1).setCell ⟨r,2,none⟩ b2).setCell ⟨r,3,none⟩ b3).setCell ⟨r,4,none⟩ b4).setCell ⟨r,5,none⟩ b5).setCell ⟨r,6,none⟩ b6).heap[r]?=some (.cells #[b0,b1,b2,b3,b4,b5,b6,a7,a8,a9,a10,a11] t (0,0)):=heap_setCell_same _ r 6 _ t b6 h5
 have h7:((((((((w.setCell ⟨r,0,none⟩ b0).setCell ⟨r,1,none⟩ b1).setCell ⟨r,2,none⟩ b2).setCell ⟨r,3,none⟩ b3).setCell ⟨r,4,none⟩ b4).setCell ⟨r,5,none⟩ b5).setCell ⟨r,6,none⟩ b6).setCell ⟨r,7,none⟩ b7).heap[r]?=some (.cells #[b0,b1,b2,b3,b4,b5,b6,b7,a8,a9,a10,a11] t (0,0)):=heap_setCell_same _ r 7 _ t b7 h6
 have h8:(((((((((w.setCell ⟨r,0,none⟩ b0).setCell ⟨r,1,none⟩ b1).setCell ⟨r,2,none⟩ b2).setCell ⟨r,3,none⟩ b3).setCell ⟨r,4,none⟩ b4).setCell ⟨r,5,none⟩ b5).setCell ⟨r,6,none⟩ b6).setCell ⟨r,7,none⟩ b7).setCell ⟨r,8,none⟩ b8).heap[r]?=some (.cells #[b0,b1,b2,b3,b4,b5,b6,b7,b8,a9,a10,a11] t (0,0)):=heap_setCell_same _ r 8 _ t b8 h7
 have h9:((((((((((w.setCell ⟨r,0,none⟩ b0).setCell ⟨r,1,none⟩ b1).setCell ⟨r,2,none⟩ b2).setCell ⟨r,3,none⟩ b3).setCell ⟨r,4,none⟩ b4).setCell ⟨r,5,none⟩ b5).setCell ⟨r,6,none⟩ b6).setCell ⟨r,7,none⟩ b7).setCell ⟨r,8,none⟩ b8).setCell ⟨r,9,none⟩ b9).heap[r]?=some (.cells #[b0,b1,b2,b3,b4,b5,b6,b7,b8,b9,a10,a11] t (0,0)):=heap_setCell_same _ r 9 _ t b9 h8
 have h10:(((((((((((w.setCell ⟨r,0,none⟩ b0).setCell ⟨r,1,none⟩ b1).setCell ⟨r,2,none⟩ b2).setCell ⟨r,3,none⟩ b3).setCell ⟨r,4,none⟩ b4).setCell ⟨r,5,none⟩ b5).setCell ⟨r,6,none⟩ b6).setCell ⟨r,7,none⟩ b7).setCell ⟨r,8,none⟩ b8).setCell ⟨r,9,none⟩ b9).setCell ⟨r,10,none⟩ b10).heap[r]?=some (.cells #[b0,b1,b2,b3,b4,b5,b6,b7,b8,b9,b10,a11] t (0,0)):=heap_setCell_same _ r 10 _ t b10 h9
 have h11:((((((((((((w.setCell ⟨r,0,none⟩ b0).setCell ⟨r,1,none⟩ b1).setCell ⟨r,2,none⟩ b2).setCell ⟨r,3,none⟩ b3).setCell ⟨r,4,none⟩ b4).setCell ⟨r,5,none⟩ b5).setCell ⟨r,6,none⟩ b6).setCell ⟨r,7,none⟩ b7).setCell ⟨r,8,none⟩ b8).setCell ⟨r,9,none⟩ b9).setCell ⟨r,10,none⟩ b10).setCell ⟨r,11,none⟩ b11).heap[r]?=some (.cells #[b0,b1,b2,b3,b4,b5,b6,b7,b8,b9,b10,b11] t (0,0)):=heap_setCell_same _ r 11 _ t b11 h10
 exact h11
theorem z7q {tmps:Array Value} {w:World} {r:Nat} {cs:Array Value} (hp:tmps.getD 2 undef=.pointer (some ⟨r,0,none⟩)) (hr:w.heap[r]?=some (.cells cs 47 (0,0))) (hs:cs.size=12) :
  (results Tryz.f30 tmps).run Tryz.prog w=.ok (.agg cs) w:=by
 have hld:=run_loadVar_row (P:=Tryz.prog) w r 47 47 cs (0,0) _ hr Tryz.underlying47 rfl (by rw [hs];kernel_rfl)
 have hres:Tryz.f30.results=#[.cell 2 47]:=rfl
 simp only [results,hres]
 simp only [List.mapM_toArray,List.mapM_cons,List.mapM_nil]
 simp only [hp]
 simp [asAddr,hld]
theorem z9e (h:WX B W w wb pb gc ov0 ov s chv tv σ aa N cap zs so iv) (hnil:s.text=[]→tv=.slice none 0 0) :
  Calls Tryz.prog 30 #[.pointer (some ⟨wb,0,none⟩)] w (z6h wb s tv σ.ch w):=by
 obtain ⟨W0,hW0⟩:∃W0,W0=w.alloc (.cells #[.int .i64 0,.int .i64 0,.int .i64 0,.int .i64 0,.slice none 0 0,.int .u32 0,.int .u32 0,.int .u32 0,.int .u32 0,.int .i64 0,.slice none 0 0,.int .i64 0] 47):=⟨_,rfl⟩
 have hb0:Below w.heap.size w W0:=by rw [hW0];exact (Below.refl _ _).alloc (Nat.le_refl _) _
 have hr0:W0.heap[w.heap.size]?=some (.cells #[.int .i64 0,.int .i64 0,.int .i64 0,.int .i64 0,.slice none 0 0,.int .u32 0,.int .u32 0,.int .u32 0,.int .u32 0,.int .i64 0,.slice none 0 0,.int .i64 0] 47 (0,0)):=by rw [hW0];exact heap_alloc_new _ _
 have hz0:W0.heap.size=w.heap.size+1:=by rw [hW0];simp
 obtain ⟨r,hr⟩:∃r,r=w.heap.size:=⟨_,rfl⟩
 have hw0:=h.wc.below hb0
 have HCH:=qz (z5y B pb gc W0 ov σ.c σ.ch hw0.enc.1 h.wc.enc.2.1.2 (by rw [h.wc.chl];have:=z0x h.wc.ok;omega))
 obtain ⟨n,hn⟩:∃n,n=σ.ch.length:=⟨_,rfl⟩
 rw [←hn] at HCH
 have HN:=qz hn
 have HNIL:=qz hnil
 have H:=qz h
 have HW0:=qz hw0
 have HB0:=qz hb0
 have HR0:=qz hr0
 have HZ0:=qz hz0
 have HR:=qz hr
 have c12:W0.cell? ⟨wb,12,none⟩=some (.pointer (some ⟨pb,0,none⟩)):=hw0.st.cell 12
 clear hb0 hr0 hz0 h hw0 hn hnil
 go_enter Tryz.func30,Tryz.ntmps30
 go_upto_region 1 with fail
 rw [←hW0,←hr]
 clear hW0 hr
 go_wp2_with (go_at_call 52;refine (uh HCH).mono ?_;rintro e w1 ⟨rfl,hi1,hb1⟩;have hs1:SAt w1 wb 73 [.pointer (some ⟨pb,0,none⟩),.slice aa N cap,.int .i64 (so:Int),iv] s chv tv:=(uh HW0).st.stays hb1;have c4:=hs1.c4;have f4:=hs1.free 4;have HI1:=qz hi1;have HB1:=qz hb1;have HS1:=qz hs1;clear hi1 hb1 hs1)
 obtain ⟨g,hg⟩:∃g,g=W0.heap.size:=⟨_,rfl⟩
 rw [←hg]
 obtain ⟨w2,hw2⟩:∃w2,w2=w1.setCell ⟨wb,4,none⟩ (.slice (some ⟨g,0,none⟩) n n):=⟨_,rfl⟩
 rw [←hw2]
 have hrr:=uh HR
 have hz:=uh HZ0
 have hb1:=uh HB1
 have hb0:=uh HB0
 have hwbl:wb<w.heap.size:=(uh H).wc.st.lt
 have hs2:SAt w2 wb 73 [.pointer (some ⟨pb,0,none⟩),.slice aa N cap,.int .i64 (so:Int),iv] s (.slice (some ⟨g,0,none⟩) n n) tv:=by rw [hw2];exact (uh HS1).setI 4 _ rfl
 have o2:∀k,k≠wb→w2.heap[k]?=w1.heap[k]?:=fun k hk=>by rw [hw2];exact heap_setCell_other _ _ _ _ hk
 have hsz2:w2.heap.size=w1.heap.size:=by rw [hw2];simp
 have kw:∀k,k<w.heap.size→k≠wb→w2.heap[k]?=w.heap[k]?:=fun k hk hne=>by rw [o2 k hne,hb1.block k (by omega),hb0.block k hk]
 have hx2:TAt w2 tv s.text:=(uh H).wc.tx.of (fun g cur e hg=>kw g (z0c hg) (z0e hg (uh H).wc.st (by decide)))
 have hi2:Ints w2 g σ.ch:=by unfold Ints;rw [o2 g (by omega),hg];exact uh HI1
 have hr2:w2.heap[r]?=some (.cells #[.int .i64 0,.int .i64 0,.int .i64 0,.int .i64 0,.slice none 0 0,.int .u32 0,.int .u32 0,.int .u32 0,.int .u32 0,.int .i64 0,.slice none 0 0,.int .i64 0] 47 (0,0)):=by
  rw [o2 r (by omega),hb1.block r (by omega),hrr]
  exact uh HR0
 have HCUT:=qz (hs2.cut hx2 (by decide) ⟨(uh H).wc.ok.W1,(uh H).wc.ok.W2⟩ (uh H).wc.hn (uh HNIL))
 have hos:w2.os=w.os∧w2.tape=w.tape∧w2.output=w.output:=by rw [hw2];exact ⟨hb1.os.trans hb0.os,hb1.tape.trans hb0.tape,hb1.output.trans hb0.output⟩
 have hg1:g<w2.heap.size:=z0c hi2
 have HG:Hid (r<g∧w.heap.size=r∧g<w2.heap.size∧wb<r∧w.heap.size≤w2.heap.size):=qz ⟨by omega,hrr.symm,hg1,by omega,by have:=hb1.size;omega⟩
 have HKW:=qz kw
 have HI2:=qz hi2
 have HR2:=qz hr2
 have HOS:=qz hos
 clear hw2 hg hrr hz hb1 hb0 hwbl hs2 o2 hsz2 kw hx2 hi2 hr2 hos hg1 c4 f4 c12
 refine (uh HCUT).mono ?_
 rintro e w3 ⟨rfl,tv3,k1,k2,k3,k4,k5⟩
 have d0:=k1.c0
 have d1:=k1.c1
 have d2:=k1.c2
 have d3:=k1.c3
 have d4:=k1.c4
 have d5:=k1.c5
 have d6:=k1.c6
 have d7:=k1.c7
 have d8:=k1.c8
 have d9:=k1.c9
 have d10:=k1.c10
 have d11:=k1.c11
 obtain ⟨q1,q2,q3,q4,q5⟩:=uh HG
 have hr3:=(k3.keep r (by omega) (by omega)).trans (uh HR2)
 have HI3:Hid (Ints w3 g σ.ch):=qz (by unfold Ints;rw [k3.keep g q3 (by omega)];exact uh HI2)
 have HK:=qz (And.intro k2 (And.intro k4 k5))
 have HC12:Hid (w3.cell? ⟨wb,12,none⟩=some (.pointer (some ⟨pb,0,none⟩))):=qz (k1.cell 12)
 have HC3:=qz k3
 have HR3:=qz hr3
 obtain ⟨ta,n3,tc,rfl⟩:∃ta n3 tc,tv3=.slice ta n3 tc:=by
  obtain ⟨a,cap,e,_⟩:=k2
  exact ⟨_,_,_,e⟩
 have z0:=(row_of hr3 0).1
 have y0:=(row_of hr3 0).2
 have z1:=(row_of hr3 1).1
 have y1:=(row_of hr3 1).2
 have z2:=(row_of hr3 2).1
 have y2:=(row_of hr3 2).2
 have z3:=(row_of hr3 3).1
 have y3:=(row_of hr3 3).2
 have z4:=(row_of hr3 4).1
 have y4:=(row_of hr3 4).2
 have z5:=(row_of hr3 5).1
 have y5:=(row_of hr3 5).2
 have z6:=(row_of hr3 6).1
 have y6:=(row_of hr3 6).2
 have z7:=(row_of hr3 7).1
 have y7:=(row_of hr3 7).2
 have z8:=(row_of hr3 8).1
 have y8:=(row_of hr3 8).2
 have z9:=(row_of hr3 9).1
 have y9:=(row_of hr3 9).2
 have z10:=(row_of hr3 10).1
 have y10:=(row_of hr3 10).2
 have z11:=(row_of hr3 11).1
 have y11:=(row_of hr3 11).2
 simp only [List.getElem?_toArray,List.getElem?_cons_zero,List.getElem?_cons_succ] at z0 z1 z2 z3 z4 z5 z6 z7 z8 z9 z10 z11
 clear k1 k2 k3 k4 k5 q1 q2 q3 q4 q5 HCUT hr3
 have HFIN:Hid (∀w4,Ch1 r w3 w4→z6h wb s tv σ.ch w (.returned (.agg #[.int .i64 (s.W:Int),.int .i64 (s.lc:Int),.int .i64 (s.lp:Int),.int .i64 (s.pb:Int),.slice (some ⟨g,0,none⟩) n n,.int .u32 (s.f0:Int),.int .u32 (s.f1:Int),.int .u32 (s.f2:Int),.int .u32 (s.f3:Int),.int .i64 (s.z:Int),.slice ta n3 tc,.int .i64 (s.place:Int)])) w4):=qz fun w4 hch=>by
  obtain ⟨q1,q2,q3,q4,q5⟩:=uh HG
  have k3:=uh HC3
  obtain ⟨k2,k4,k5⟩:=uh HK
  obtain ⟨o1,o2,o3⟩:=uh HOS
  refine ⟨g,.slice ta n3 tc,by rw [←uh HN];rfl,by omega,?_,k2.of (fun x cur _ hx=>hch.keep x (z0e hx (uh HR3) (by decide))),k5,fun k e=>?_,⟨hch.os.trans (k3.os.trans o1),hch.tape.trans (k3.tape.trans o2),hch.output.trans (k3.output.trans o3),by rw [hch.size];have:=k3.size;omega⟩,fun k hk hne=>?_,?_⟩
  ·unfold Ints
   rw [hch.keep g (by omega)]
   exact uh HI3
  ·rcases k4 k e with h|h
   ·exact .inl h
   ·exact .inr (by omega)
  ·rw [hch.keep k (by omega),k3.keep k (by omega) hne]
   exact uh HKW k hk hne
  ·have e:w4.cell? ⟨wb,12,none⟩=w3.cell? ⟨wb,12,none⟩:=World.cell?_of_block (hch.keep wb (by omega))
   rw [e,uh HC12]
   exact ((uh H).wc.st.cell 12).symm
 go_wp2_with fail
 clear d0 d1 d2 d3 d4 d5 d6 d7 d8 d9 d10 d11 z0 z1 z2 z3 z4 z5 z6 z7 z8 z9 z10 z11 y0 y1 y2 y3 y4 y5 y6 y7 y8 y9 y10 y11
 obtain ⟨hrow,hch⟩:=z4d (uh HR3) (.int .i64 (s.W:Int)) (.int .i64 (s.lc:Int)) (.int .i64 (s.lp:Int)) (.int .i64 (s.pb:Int)) (.slice (some ⟨g,0,none⟩) n n) (.int .u32 (s.f0:Int)) (.int .u32 (s.f1:Int)) (.int .u32 (s.f2:Int)) (.int .u32 (s.f3:Int)) (.int .i64 (s.z:Int)) (.slice ta n3 tc) (.int .i64 (s.place:Int))
 exact bodyPost_ret (z7q rfl hrow rfl) rfl (uh HFIN _ hch)
end
end D
namespace D
open Go.RowKit Rang
attribute [local go_sem ↓] wp_at_zero wp_at_succ
structure StM (w:World) (b:Nat) (s:LS) (ch:List Nat) (g:Nat) (tv:Value):Prop where
 st:SAt w b 47 [] s (.slice (some ⟨g,0,none⟩) ch.length ch.length) tv
 chl:ch.length=s.chances
 chs:Chs ch
 ints:Ints w g ch
 tx:TAt w tv s.text
 nil:s.text=[]→tv=.slice none 0 0
 ok:LOk s
 cut:s.text.length≤s.W
 t0:tv.ownBlock≠some 0
 b0:b≠0
 ml:T6.ML w
structure StK (b:Nat) (tv tv':Value) (w w':World):Prop where
 os:w'.os=w.os
 tape:w'.tape=w.tape
 output:w'.output=w.output
 size:w.heap.size≤w'.heap.size
 keep:∀k,k<w.heap.size→k≠b→tv.ownBlock≠some k→w'.heap[k]?=w.heap[k]?
 lies:∀k,tv'.ownBlock=some k→tv.ownBlock=some k∨w.heap.size≤k
def y1x (b:Nat) (s:LS) (ch:List Nat) (tv:Value) (ys:List Nat) (w:World) (e:Ending) (w':World):Prop :=
 ∃ (l:List (Pc × List Nat)) (v tv':Value) (g':Nat) (w2:World),e=.returned (.tuple #[v,.int .i64 0])∧s.runOk l∧(s.run l).text=s.text++ys∧SameP s (s.run l)∧StB w2 w' v (y1z (z0s (s.runA l) ⟨enc0,0,0,ch⟩).c)∧w.heap.size≤w2.heap.size∧w2.heap.size≤w'.heap.size ∧
  StM w' b { s.run l with text:=cutT (s.run l) } (z0s (s.runA l) ⟨enc0,0,0,ch⟩).ch g' tv'∧(∀k,tv'.ownBlock=some k→k<w2.heap.size)∧g'<w2.heap.size∧StK b tv tv' w w'
theorem LOk.cutted {s:LS} (h:LOk s):LOk { s with text:=cutT s }:=⟨h.W1,h.W2,h.props,h.pb,h.f0,h.f1,h.f2,h.f3,h.z,fun x hx=>h.text x (List.mem_of_mem_drop hx)⟩
theorem z6m (s:LS):(cutT s).length≤s.W:=by unfold cutT;rw [List.length_drop];omega
section
variable {w:World} {b:Nat} {s:LS} {ch:List Nat} {g:Nat} {tv:Value}
theorem y2z (h:StM w b s ch g tv) (hpl:s.place≤1000000000) (xa:Option Addr) (c:Nat) (ys:List Nat) (hsrc:SrcB w xa c ys) (hy:ys.length≤1048576) (hyb:∀y∈ys,y<256) :
  Calls Tryz.prog 13 #[.pointer (some ⟨b,0,none⟩),.slice xa ys.length c] w (y1x b s ch tv ys w):=by
 have hcb:=z2c s
 have HGOOD:=qz (z3d h.st h.ok.W1)
 have HPRO:=qz (z5t h.st (by have:=h.chl;omega))
 have HNW:=qz (z4m g ch h.st h.chl h.chs h.ints h.ok h.tx h.nil (by have:=h.cut;have:=h.ok.W2;omega) xa c ys hsrc hy hyb h.ml h.t0)
 have H:=qz h
 have HSRC:=qz hsrc
 have hyi:¬ (1048576:Int)<(ys.length:Int):=by omega
 clear h hsrc
 go_enter Tryz.func13,Tryz.ntmps13
 go_wp2_with fail
 refine (uh HGOOD).mono ?_
 rintro e w0 ⟨rfl,rfl⟩
 go_wp2_with fail
 refine (uh HPRO).mono ?_
 rintro e w1 ⟨rfl,rfl⟩
 go_wp2_with fail
 refine (uh HNW).mono ?_
 rintro e w2 ⟨wb,pb,gc,N,cap,aa,rfl,hx2,hs2,ho2,hk2,hl2⟩
 have HX2:=qz hx2
 have HS2:=qz hs2
 have HK2:=qz (And.intro ho2 (And.intro hk2 hl2))
 have HPUT:=qz (z9r hx2 (by omega) (by show (0:Nat)≤_;omega) (by omega))
 clear hx2 hs2 ho2 hk2 hl2 HGOOD HPRO HNW
 go_wp2_with fail
 refine (uh HPUT).mono ?_
 rintro e w3 ⟨rfl,l,ov3,tv3,so3,iv3,hl1,hl2,hl3,hx3,hk3,hn3,hb3⟩
 have HX3:=qz hx3
 have HL3:=qz (And.intro hl1 (And.intro hl2 (And.intro hl3 (And.intro hk3 (And.intro hn3 hb3)))))
 have HLE:=qz (z9e hx3 (fun e=>by
  rw [hl2] at e
  rw [hn3 e]
  exact (uh H).nil (List.append_eq_nil_iff.1 e).1))
 clear hl1 hl2 hl3 hx3 hk3 hn3 hb3 HPUT
 go_wp2_with fail
 refine (uh HLE).mono ?_
 rintro e w4 ⟨g4,tv4,rfl,hg4,hi4,ht4,hn4,hb4,ho4,hk4,hc12⟩
 obtain ⟨t,ht⟩:∃t,t=({ s.run l with text:=cutT (s.run l) }:LS):=⟨_,rfl⟩
 obtain ⟨σ,hσ⟩:∃σ,σ=z0s (s.runA l) ⟨enc0,0,0,ch⟩:=⟨_,rfl⟩
 obtain ⟨n4,hn4'⟩:∃n4,n4=σ.ch.length:=⟨_,rfl⟩
 have ht4':TAt w4 tv4 t.text:=by rw [ht];exact ht4
 have hi4':Ints w4 g4 σ.ch:=by rw [hσ];exact hi4
 have hn4t:t.text=[]→tv4=.slice none 0 0:=by rw [ht];exact hn4
 rw [←hσ,←ht,←hn4']
 have HT:=qz ht
 have HSI:=qz hσ
 have HN4:=qz hn4'
 have hbw:b<w1.heap.size:=(uh H).st.lt
 obtain ⟨p1,p2,p3,p4⟩:=(uh HK2).1
 have hlow:=(uh HX3).wc.low
 have hBw:=(uh HX3).Bw
 have hwt:=(uh HX3).wt
 have hw3:∀k,k<w1.heap.size→w3.heap[k]?=w2.heap[k]?:=fun k hk=>hwt.keep k (by omega) (by omega) (by omega) (by omega) (by simp [Value.ownBlock])
 have hs4:SAt w4 b 47 [] s (.slice (some ⟨g,0,none⟩) ch.length ch.length) tv:=by
  unfold SAt
  rw [hk4 b (by have:=hwt.size;omega) (by omega),hw3 b hbw]
  exact uh HS2
 have c12:w4.cell? ⟨wb,12,none⟩=some (.pointer (some ⟨pb,0,none⟩)):=by rw [hc12];exact (uh HX3).wc.st.cell 12
 have z0:=hs4.c0
 have y0:=hs4.free 0
 have z1:=hs4.c1
 have y1:=hs4.free 1
 have z2:=hs4.c2
 have y2:=hs4.free 2
 have z3:=hs4.c3
 have y3:=hs4.free 3
 have z4:=hs4.c4
 have y4:=hs4.free 4
 have z5:=hs4.c5
 have y5:=hs4.free 5
 have z6:=hs4.c6
 have y6:=hs4.free 6
 have z7:=hs4.c7
 have y7:=hs4.free 7
 have z8:=hs4.c8
 have y8:=hs4.free 8
 have z9:=hs4.c9
 have y9:=hs4.free 9
 have z10:=hs4.c10
 have y10:=hs4.free 10
 have z11:=hs4.c11
 have y11:=hs4.free 11
 obtain ⟨a4,m4,q4,rfl⟩:∃a4 m4 q4,tv4=.slice a4 m4 q4:=by
  obtain ⟨a,cap,e,_⟩:=ht4
  exact ⟨_,_,_,e⟩
 have HR4:Hid (w4.heap[b]?=some (.cells #[.int .i64 (s.W:Int),.int .i64 (s.lc:Int),.int .i64 (s.lp:Int),.int .i64 (s.pb:Int),.slice (some ⟨g,0,none⟩) ch.length ch.length,.int .u32 (s.f0:Int),.int .u32 (s.f1:Int),.int .u32 (s.f2:Int),.int .u32 (s.f3:Int),.int .i64 (s.z:Int),tv,.int .i64 (s.place:Int)] 47 (0,0))):=qz hs4
 have HF4:=qz (And.intro hg4 (And.intro hi4' (And.intro ht4' (And.intro hn4t (And.intro hb4 (And.intro ho4 hk4))))))
 have hbwb:b≠wb:=by omega
 have HWB:Hid (w1.heap.size≤wb∧w1.heap.size≤pb∧w1.heap.size≤gc∧w2.heap.size≤w3.heap.size):=qz ⟨hBw,hlow.1,hlow.2.1,hwt.size⟩
 obtain ⟨nc,hnc⟩:∃nc,nc=ch.length:=⟨_,rfl⟩
 rw [←hnc] at z4
 clear ht hσ hn4' ht4' hi4' hn4t hlow hBw hwt hs4 hc12 ht4 hi4 hn4 hb4 ho4 hk4 hg4 HLE p1 p2 p3 p4 hnc
 have HFIN:Hid (∀w5,w5.heap[b]?=some (.cells #[.int .i64 (t.W:Int),.int .i64 (t.lc:Int),.int .i64 (t.lp:Int),.int .i64 (t.pb:Int),.slice (some ⟨g4,0,none⟩) n4 n4,.int .u32 (t.f0:Int),.int .u32 (t.f1:Int),.int .u32 (t.f2:Int),.int .u32 (t.f3:Int),.int .i64 (t.z:Int),.slice a4 m4 q4,.int .i64 (t.place:Int)] 47 (0,0))→Ch1 b w4 w5 →
   Calls Tryz.prog 31 #[.pointer (some ⟨pb,0,none⟩)] w5 fun e w'=>∃v,e=.returned v∧y1x b s ch tv ys w1 (.returned (.tuple #[v,.int .i64 0])) w'):=qz fun w5 hrow hch=>by
  obtain ⟨hg4,hi4,ht4,hn4,hb4,ho4,hk4⟩:=uh HF4
  obtain ⟨q1,q2,q3,q4'⟩:=uh HWB
  obtain ⟨hl1,hl2,hl3,hk3,hn3,hb3⟩:=uh HL3
  obtain ⟨ho2,hk2,hl2'⟩:=uh HK2
  have hx3:=uh HX3
  have hM:=uh H
  obtain ⟨n1,n2,n3⟩:=hx3.wc.ne
  obtain ⟨l1,l2,l3,l4,l5⟩:=hx3.wc.lts
  have hov:=hx3.wc.ovB
  have h53:∀k,k<w3.heap.size→k≠wb→k≠b→w5.heap[k]?=w3.heap[k]?:=fun k a1 a2 a3=>by rw [hch.keep k a3,hk4 k a1 a2]
  have h51:∀k,k<w1.heap.size→k≠b→tv.ownBlock≠some k→w5.heap[k]?=w1.heap[k]?:=fun k a1 a2 a3=>by rw [h53 k (by omega) (by omega) a2,hw3 k a1,hk2 k a1 a3]
  have hps:=hx3.wc.enc.of (w':=w5) (h53 pb l2 (Ne.symm n1) (by omega)) (h53 gc l3 (Ne.symm n2) (by omega)) (fun k e=>h53 k (l4 k e) (fun e'=>n3 (e'▸e)) (by have:=hov k e;omega)) (by rw [hch.size];omega)
  have hkk:(z0s (s.runA l) ⟨enc0,0,0,ch⟩).k≤90000000000000:=by have:=hx3.small;have hz:(⟨enc0,0,0,ch⟩:Sta).k=0:=rfl;omega
  refine (z9o w1.heap.size pb w5 _ ov3 _ _ _ hps.1.enc hps.2.1.1 hkk _ _ _ rfl).mono ?_
  rintro e w6 ⟨v,rfl,hst⟩
  have h65:=hst.bel
  have ht:t=({ s.run l with text:=cutT (s.run l) }:LS):=uh HT
  have hσ:=uh HSI
  have hb0:0<w1.heap.size:=by omega
  have hgw:g4<w5.heap.size:=by rw [hch.size];exact z0c hi4
  have hgb:g4≠b:=by omega
  have htl:∀k,(Value.slice a4 m4 q4).ownBlock=some k→tv.ownBlock=some k∨w1.heap.size≤k:=fun k e=>by
   rcases hb4 k e with h|h
   ·rcases hb3 k h with h|h
    ·exact .inl h
    ·exact hl2' k h
   ·exact .inr (by omega)
  have ht5:TAt w5 (.slice a4 m4 q4) t.text:=ht4.of (fun x cur _ hx=>hch.keep x (z0e hx (uh HR4) (by decide)))
  have hs5:SAt w5 b 47 [] t (.slice (some ⟨g4,0,none⟩) n4 n4) (.slice a4 m4 q4):=hrow
  have hml:T6.ML w6:=by
   obtain ⟨mm,hmm⟩:=hM.ml
   exact ⟨mm,by rw [World.cell?_of_block (h65.block 0 (by rw [hch.size];omega)),World.cell?_of_block (h51 0 hb0 (Ne.symm hM.b0) hM.t0)];exact hmm⟩
  refine ⟨v,rfl,l,v,.slice a4 m4 q4,g4,w5,rfl,hl1,hl2,hl3,hst,by rw [hch.size];omega,h65.size,⟨?_,?_,?_,?_,?_,?_,?_,?_,?_,hM.b0,hml⟩,fun k e=>?_,hgw,⟨?_,?_,?_,?_,fun k a1 a2 a3=>?_,htl⟩⟩
  ·rw [←ht,←hσ,←uh HN4];exact hs5.stays h65
  ·rw [hx3.wc.chl];rfl
  ·exact hps.2.1.2
  ·rw [←hσ]
   unfold Ints
   rw [h65.block g4 hgw,hch.keep g4 hgb]
   exact hi4
  ·rw [←ht];exact ht5.of (fun x cur _ hx=>h65.block x (z0c hx))
  ·rw [←ht];exact hn4
  ·exact hx3.wc.ok.cutted
  ·exact z6m _
  ·intro e
   rcases htl 0 e with h|h
   ·exact hM.t0 h
   ·omega
  ·obtain ⟨cur,hc⟩:=z1g ht5 hn4 k e
   exact z0c hc
  ·exact h65.os.trans (hch.os.trans (ho4.1.trans (hx3.wt.os.trans ho2.1)))
  ·exact h65.tape.trans (hch.tape.trans (ho4.2.1.trans (hx3.wt.tape.trans ho2.2.1)))
  ·exact h65.output.trans (hch.output.trans (ho4.2.2.1.trans (hx3.wt.output.trans ho2.2.2.1)))
  ·have:=h65.size;rw [hch.size] at this;omega
  ·rw [h65.block k (by rw [hch.size];omega)];exact h51 k a1 a2 a3
 have HW3:=qz hw3
 clear hw3
 have hsc:(z0v t (.slice (some ⟨g4,0,none⟩) n4 n4) (.slice a4 m4 q4)).toArray=#[.int .i64 (t.W:Int),.int .i64 (t.lc:Int),.int .i64 (t.lp:Int),.int .i64 (t.pb:Int),.slice (some ⟨g4,0,none⟩) n4 n4,.int .u32 (t.f0:Int),.int .u32 (t.f1:Int),.int .u32 (t.f2:Int),.int .u32 (t.f3:Int),.int .i64 (t.z:Int),.slice a4 m4 q4,.int .i64 (t.place:Int)]:=rfl
 rw [hsc]
 clear hsc
 go_wp2_with fail
 clear z0 y0 z1 y1 z2 y2 z3 y3 z4 y4 z5 y5 z6 y6 z7 y7 z8 y8 z9 y9 z10 y10 z11 y11 c12
 obtain ⟨hrow,hch⟩:=z4d (uh HR4) (.int .i64 (t.W:Int)) (.int .i64 (t.lc:Int)) (.int .i64 (t.lp:Int)) (.int .i64 (t.pb:Int)) (.slice (some ⟨g4,0,none⟩) n4 n4) (.int .u32 (t.f0:Int)) (.int .u32 (t.f1:Int)) (.int .u32 (t.f2:Int)) (.int .u32 (t.f3:Int)) (.int .i64 (t.z:Int)) (.slice a4 m4 q4) (.int .i64 (t.place:Int))
 refine (uh HFIN _ hrow hch).mono ?_
 rintro e w6 ⟨v,rfl,hp⟩
 have HP:=qz hp
 clear hrow hch hp HFIN
 go_wp2_with fail
 go_ret2
 exact uh HP
end
end D
namespace D
open Go.RowKit Rang
attribute [local go_sem ↓] wp_at_zero wp_at_succ
theorem z8j (w:World):Calls Tryz.prog 26 #[.slice none 0 0] w fun e w'=>e=.returned (.slice none 0 0)∧w'=w:=by
 have hnil:(binOp .eql 32 (.slice none 0 0) (.slice none 0 0)).run Tryz.prog w=.ok (.bool true) w:=Lib.run_eql_slice_nil w 32 5 none 0 0 0 0 Tryz.underlying32
 go_enter Tryz.func26,Tryz.ntmps26
 go_wp2_with fail
 go_ret
 exact ⟨rfl,rfl⟩
theorem y3l {w:World} {a:Option Addr} {n cap:Nat} {xs:List Nat} (h:TAt w (.slice a n cap) xs) (h0:xs≠[]):n=xs.length∧∃g off,a=some ⟨g,off,none⟩∧SrcB w (some ⟨g,off,none⟩) cap xs:=by
 obtain ⟨a',cap',e,hc',hs'⟩:=h.rd
 obtain ⟨g',off',e',hcell⟩:=hs' (List.length_pos_iff.2 h0)
 injection e with e1 e2 e3
 subst e1 e3
 refine ⟨e2,g',off',e',.inr ⟨_,rfl,fun j u hj=>?_⟩⟩
 have hj2:j<xs.length:=by
  have:=(List.getElem?_eq_some_iff.1 hj).1
  simpa using this
 rw [Addr.add_lit,hcell j hj2,←hj]
 have e6:(xs.map bv)[j]?=some (bv (xs.getD j 0)):=by simp [List.getD_eq_getElem?_getD,List.getElem?_eq_getElem hj2]
 rw [e6]
 rfl
def OutB (w:World) (xs:List Nat) (e:Ending) (w':World):Prop:=(xs=[]∧e=.returned (.slice none 0 0)∧w'=w)∨(xs≠[]∧∃v,e=.returned v∧CopyB w w' v xs)
section
variable {w:World} {b:Nat} {t:TypeId} {tl:List Value} {s:LS} {chv tv:Value}
theorem z6f (h:SAt w b t tl s chv tv) (hx:TAt w tv s.text) (hW:1≤s.W) (hn:s.text.length≤1099511627776) (hnil:s.text=[]→tv=.slice none 0 0):Calls Tryz.prog 12 #[.pointer (some ⟨b,0,none⟩)] w (OutB w s.text):=by
 have HG:=qz (z3d h hW)
 have c10:=h.c10
 by_cases h0:s.text=[]
 ·obtain rfl:=hnil h0
  have HF:Hid (OutB w s.text (.returned (.slice none 0 0)) w):=qz (.inl ⟨h0,rfl,rfl⟩)
  generalize OutB w s.text=POST at HF ⊢
  clear h hx hnil
  go_enter Tryz.func12,Tryz.ntmps12
  go_wp2_with fail
  refine (uh HG).mono ?_
  rintro e w1 ⟨rfl,rfl⟩
  go_wp2_with fail
  refine (z8j _).mono ?_
  rintro e w2 ⟨rfl,rfl⟩
  go_wp2_with fail
  first
  | exact uh HF
  | (go_ret;exact uh HF)
 ·obtain ⟨a,cap,rfl,_,_⟩:=id hx
  obtain ⟨e1,g,off,rfl,hs⟩:=y3l hx h0
  have HC:=qz (z6k g off s.text.length cap s.text w rfl hs (by omega))
  have HF:Hid (∀v w',CopyB w w' v s.text→OutB w s.text (.returned v) w'):=qz fun v w' hh=>.inr ⟨h0,v,rfl,hh⟩
  generalize OutB w s.text=POST at HF ⊢
  clear h hx hnil hs
  go_enter Tryz.func12,Tryz.ntmps12
  go_wp2_with fail
  refine (uh HG).mono ?_
  rintro e w1 ⟨rfl,rfl⟩
  go_wp2_with fail
  refine (uh HC).mono ?_
  rintro e w2 ⟨v,rfl,hc⟩
  have HFF:=qz (uh HF _ _ hc)
  clear hc
  go_wp2_with fail
  first
  | exact uh HFF
  | (go_ret;exact uh HFF)
end
end D
namespace D
open Go.RowKit Rang
attribute [local go_sem ↓] wp_at_zero wp_at_succ
theorem y0q (xs ys:List Nat) (W:Nat):((xs.drop (xs.length-W))++ys).drop (((xs.drop (xs.length-W))++ys).length-W)=(xs++ys).drop ((xs++ys).length-W):=by
 rw [List.length_append,List.length_append,List.length_drop]
 rcases Nat.le_total xs.length W with h|h
 ·rw [show xs.length-W=0 by omega,List.drop_zero,Nat.sub_zero]
 ·rw [show xs.length-(xs.length-W)+ys.length-W=ys.length by omega,show xs.length+ys.length-W=(xs.length-W)+ys.length by omega,←List.drop_drop,List.drop_append_of_le_length (show xs.length-W≤xs.length by omega)]
section
variable {w w':World} {b:Nat} {s:LS} {ch:List Nat} {g:Nat} {tv:Value}
theorem StM.tvb (h:StM w b s ch g tv):∀k,tv.ownBlock=some k→∃cur,w.heap[k]?=some (.cells cur 5 (0,0)):=z1g h.tx h.nil
theorem StM.bne (h:StM w b s ch g tv):tv.ownBlock≠some b:=fun e=>by
 obtain ⟨cur,hc⟩:=h.tvb b e
 exact z0e hc h.st (by decide) rfl
def y3t (b:Nat) (s:LS) (ch:List Nat) (g:Nat) (tv:Value) (ys:List Nat) (w:World) (e:Ending) (w':World):Prop :=
 e=.returned (.int .i64 0)∧∃tv',StM w' b { s.come ys with text:=cutT (s.come ys) } ch g tv'∧StK b tv tv' w w'
theorem StM.copy (h:StM w b s ch g tv) (hpl:s.place≤1000000000) (xa:Option Addr) (c:Nat) (ys:List Nat) (hsrc:SrcB w xa c ys) (hy:ys.length≤1048576) (hyb:∀y∈ys,y<256) :
  Calls Tryz.prog 18 #[.pointer (some ⟨b,0,none⟩),.slice xa ys.length c] w (y3t b s ch g tv ys w):=by
 refine (y2n h.st h.tx (by decide) ⟨h.ok.W1,h.ok.W2⟩ (by have:=h.cut;have:=h.ok.W2;omega) (by omega) h.nil xa c ys hsrc hy h.bne).mono ?_
 rintro e w' ⟨rfl,tv',h1,h2,⟨o1,o2,o3,o4⟩,hk,hl,hn⟩
 have hg:=h.ints
 have hgt:tv.ownBlock≠some g:=fun e=>by
  obtain ⟨cur,hc⟩:=h.tvb g e
  exact z0e hc hg (by decide) rfl
 refine ⟨rfl,tv',⟨h1,h.chl,h.chs,?_,h2,hn,(h.ok.come hyb).cutted,z6m _,fun e=>?_,h.b0,?_⟩,⟨o1,o2,o3,o4,hk,hl⟩⟩
 ·unfold Ints
  rw [hk g (z0c hg) (z0e hg h.st (by decide)) hgt]
  exact hg
 ·rcases hl 0 e with h3|h3
  ·exact h.t0 h3
  ·obtain ⟨mm,hmm⟩:=h.ml;have:=z0i hmm;omega
 ·obtain ⟨mm,hmm⟩:=h.ml
  exact ⟨mm,by rw [World.cell?_of_block (hk 0 (z0i hmm) (Ne.symm h.b0) h.t0)];exact hmm⟩
theorem StM.of (h:StM w b s ch g tv) (hb:w'.heap[b]?=w.heap[b]?) (hg:w'.heap[g]?=w.heap[g]?) (ht:∀k,tv.ownBlock=some k→w'.heap[k]?=w.heap[k]?) (h0:w'.heap[0]?=w.heap[0]?):StM w' b s ch g tv:=by
 refine ⟨h.st.keepM hb,h.chl,h.chs,by unfold Ints;rw [hg];exact h.ints,h.tx.of (fun k cur e _=>ht k e),h.nil,h.ok,h.cut,h.t0,h.b0,?_⟩
 obtain ⟨mm,hmm⟩:=h.ml
 exact ⟨mm,by rw [World.cell?_of_block h0];exact hmm⟩
end
structure TL (W0 w:World) (b:Nat) (V:Nat) (allb:List Nat) (av:Value):Prop where
 bel:Below W0.heap.size W0 w
 bB:W0.heap.size≤b
 W1:1≤W0.heap.size
 al:TAt w av allb
 nil:allb=[]→av=.slice none 0 0
 avB:∀k,av.ownBlock=some k→W0.heap.size≤k
 st:∃s ch g tv,StM w b s ch g tv∧s.W=V∧s.text=allb.drop (allb.length-V)∧s.place=allb.length∧(∀k,tv.ownBlock=some k→W0.heap.size≤k)∧(∀k,av.ownBlock=some k→tv.ownBlock≠some k)
theorem TL.next {W0 w w1:World} {b V:Nat} {allb ys:List Nat} {av tv tv':Value} {s s':LS} {ch ch':List Nat} {g g':Nat} (h:TL W0 w b V allb av) (hs:StM w b s ch g tv) (hW:s.W=V) (hx:s.text=allb.drop (allb.length-V)) (htB:∀k,tv.ownBlock=some k→W0.heap.size≤k) (hap:∀k,av.ownBlock=some k→tv.ownBlock≠some k)
  (hs':StM w1 b s' ch' g' tv') (hW':s'.W=V) (hx':s'.text=(s.text++ys).drop ((s.text++ys).length-V)) (hp':s'.place=allb.length+ys.length) (hk:StK b tv tv' w w1) :
  TAt w1 av allb∧Below W0.heap.size W0 w1∧∀w2 av',AppT w1 w2 av av' (allb++ys)→TL W0 w2 b V (allb++ys) av':=by
 have hab:=z1g h.al h.nil
 have habw:∀k,av.ownBlock=some k→k<w.heap.size:=fun k e=>by obtain ⟨cur,hc⟩:=hab k e;exact z0c hc
 have hanb:∀k,av.ownBlock=some k→k≠b:=fun k e=>by obtain ⟨cur,hc⟩:=hab k e;exact z0e hc hs.st (by decide)
 have hal1:TAt w1 av allb:=h.al.of (fun k cur e _=>hk.keep k (habw k e) (hanb k e) (hap k e))
 have hb1:Below W0.heap.size W0 w1:=⟨hk.os.trans h.bel.os,hk.tape.trans h.bel.tape,hk.output.trans h.bel.output,Nat.le_trans h.bel.size hk.size,fun k hk'=>by
  have:=h.bel.size
  have:=h.bB
  rw [hk.keep k (by omega) (by omega) (fun e=>by have:=htB k e;omega)]
  exact h.bel.block k hk'⟩
 have hts:∀k,tv'.ownBlock=some k→W0.heap.size≤k:=fun k e=>by
  rcases hk.lies k e with h1|h1
  ·exact htB k h1
  ·have:=h.bel.size;omega
 have hap1:∀k,av.ownBlock=some k→tv'.ownBlock≠some k:=fun k e e2=>by
  rcases hk.lies k e2 with h1|h1
  ·exact hap k e h1
  ·have:=habw k e;omega
 refine ⟨hal1,hb1,fun w2 av' ha=>?_⟩
 have hab1:=z1g hal1 h.nil
 have htb1:=hs'.tvb
 have kp:∀k,k<w1.heap.size→av.ownBlock≠some k→w2.heap[k]?=w1.heap[k]?:=ha.keep
 refine ⟨⟨ha.os.trans hb1.os,ha.tape.trans hb1.tape,ha.output.trans hb1.output,Nat.le_trans hb1.size ha.size,fun k hk'=>by
  have:=hb1.size
  rw [kp k (by omega) (fun e=>by have:=h.avB k e;omega)]
  exact hb1.block k hk'⟩,h.bB,h.W1,ha.tx,ha.nil,fun k e=>?_,s',ch',g',tv',hs'.of ?_ ?_ (fun k e=>?_) ?_,hW',?_,by rw [hp',List.length_append],hts,fun k e e2=>?_⟩
 ·rcases ha.lies k e with h1|h1
  ·exact h.avB k h1
  ·have:=hb1.size;omega
 ·exact kp b hs'.st.lt (fun e=>hanb b e rfl)
 ·exact kp g' (z0c hs'.ints) (fun e=>by obtain ⟨cur,hc⟩:=hab1 g' e;exact z0e hc hs'.ints (by decide) rfl)
 ·obtain ⟨cur,hc⟩:=htb1 k e
  exact kp k (z0c hc) (fun e2=>hap1 k e2 e)
 ·have:=h.W1;have:=hb1.size
  exact kp 0 (by omega) (fun e=>by have:=h.avB 0 e;omega)
 ·rw [hx',hx]
  exact y0q allb ys V
 ·rcases ha.lies k e with h1|h1
  ·exact hap1 k h1 e2
  ·obtain ⟨cur,hc⟩:=htb1 k e2
   have:=z0c hc
   omega
end D
namespace D
open Go.RowKit Rang
attribute [local go_sem ↓] wp_at_zero wp_at_succ
structure InP where
 a:Option Addr
 c:Nat
 ys:List Nat
structure InAt (w:World) (pa:Option Addr) (L:List InP):Prop where
 cell:∀j,j<L.length→∃g off,pa=some ⟨g,off,none⟩∧w.cell? ⟨g,off+j,none⟩=some (.slice (L.getD j ⟨none,0,[]⟩).a (L.getD j ⟨none,0,[]⟩).ys.length (L.getD j ⟨none,0,[]⟩).c)
 src:∀x∈L,SrcB w x.a x.c x.ys
 small:∀x∈L,∀y∈x.ys,y<256
def z1c (L:List InP) (i:Nat):List Nat:=((L.take i).map InP.ys).flatten
theorem z7j {L:List InP} {i:Nat} (h:i<L.length):z1c L (i+1)=z1c L i++(L.getD i ⟨none,0,[]⟩).ys:=by
 unfold z1c
 have e:L.take (i+1)=L.take i++[L[i]]:=by rw [List.take_add_one,List.getElem?_eq_getElem h];rfl
 rw [e,List.map_append,List.flatten_append]
 simp [List.getD_eq_getElem?_getD,List.getElem?_eq_getElem h]
theorem z8f (L:List InP) (i:Nat):(z1c L i).length≤(z1c L L.length).length:=by
 unfold z1c
 rw [List.take_length,List.length_flatten,List.length_flatten]
 conv=>rhs;rw [←List.take_append_drop i L]
 rw [List.map_append,List.map_append,List.sum_append]
 omega
theorem y1a {N v D:Nat} (hD:D=N-v) (x:World):(Builtin.max_ #[3,3] 3 #[.int .i64 0,.int .i64 ((N:Int)-(v:Int))]).run Tryz.prog x=.ok (.int .i64 (D:Int)) x:=by
 rw [run_max_int2]
 congr 2
 split<;>omega
theorem z5l {N v:Nat} (h:N≤1048576) (hv:v≤268435456):IntKind.i64.wrap ((N:Int)-(v:Int))=(N:Int)-(v:Int):=by
 rw [IntKind.wrap_i64]
 omega
theorem z1f {P:Program} {ops:Array Oper} {o:Oper} {a:Act} {w:World} {K:Act→World→Prop} {Q:Exit→Act→World→Prop} {E:Prop} (f:FuncId) (args:Array Value)
  (hw:Region.wanted o (yielded ops a.tmps)=true) (hrun:(execOp (Act.eval a) o).run P w=.ok (.enter f args) w)
  (h:Calls P f args w fun e w'=>∃v,e=.returned v∧K (a.put o.dst v) w'):if Region.wanted o (yielded ops a.tmps)=true then Oper.wp P o a w K Q else E:=by
 rw [if_pos hw]
 unfold Oper.wp
 rw [hrun,Oper.upon_enter]
 refine h.mono ?_
 rintro e w' ⟨v,rfl,h2⟩
 exact h2
theorem z3y {w w':World} {xs:List Nat} {e:Ending} (h:OutB w xs e w'):∃a cap,e=.returned (.slice a xs.length cap)∧Reads w' (.slice a xs.length cap) xs∧Below w.heap.size w w':=by
 rcases h with ⟨rfl,rfl,rfl⟩|⟨h0,v,rfl,hc⟩
 ·exact ⟨none,0,rfl,⟨none,0,rfl,fun h=>by simp at h⟩,Below.refl _ _⟩
 ·obtain ⟨g,cap,sp,rfl,h1,h2,h3⟩:=hc.shape
  refine ⟨_,cap,rfl,⟨_,cap,rfl,fun _=>⟨_,rfl,fun j u hj=>?_⟩⟩,hc.bel⟩
  have hjl:j<xs.length:=by have:=(List.getElem?_eq_some_iff.1 hj).1;simpa using this
  have e:(⟨g,0,none⟩:Addr).add j=⟨g,j,none⟩:=by rw [Addr.add_mid,Nat.zero_add]
  rw [e]
  simp only [World.cell?,h3]
  rw [←hj]
  simp [List.getElem?_append_left,hjl]
theorem z6v {w w':World} {e:Ending} (h:OutB w [] e w'):e=.returned (.slice none 0 0)∧w'=w:=by
 rcases h with ⟨_,h1,h2⟩|⟨h,_⟩
 ·exact ⟨h1,h2⟩
 ·exact absurd rfl h
theorem TRd.reads {w:World} {v:Value} {xs:List Nat} (h:TRd w v xs):Reads w v xs:=by
 obtain ⟨a,cap,rfl,_,hs⟩:=h
 refine ⟨a,cap,rfl,fun h0=>?_⟩
 obtain ⟨g,off,rfl,hc⟩:=hs h0
 refine ⟨_,rfl,fun j u hj=>?_⟩
 have hjl:j<xs.length:=by have:=(List.getElem?_eq_some_iff.1 hj).1;simpa using this
 have e:(⟨g,off,none⟩:Addr).add j=⟨g,off+j,none⟩:=by rw [Addr.add_mid]
 rw [e,hc j hjl,←hj]
 simp [bv,List.getD_eq_getElem?_getD,List.getElem?_eq_getElem hjl]
theorem y1s {W0 w:World} {b V g:Nat} (hb:Below W0.heap.size W0 w) (hbB:W0.heap.size≤b) (hml:T6.ML W0) (hV:1≤V∧V≤268435456) (hs:SAt w b 47 [] ((LS.new V).reset 0 0 0) (.slice (some ⟨g,0,none⟩) (1856+768*2^(0+0)) (1856+768*2^(0+0))) (.slice none 0 0)) (hi:Ints w g (List.replicate (1856+768*2^(0+0)) 1024)) :
  TL W0 w b V [] (.slice none 0 0):=by
 have h0:0<W0.heap.size:=by obtain ⟨mm,hmm⟩:=hml;have:=z0i hmm;omega
 refine ⟨hb,hbB,h0,⟨none,0,rfl,Nat.le_refl _,fun h=>by omega⟩,fun _=>rfl,fun k e=>(by cases e),(LS.new V).reset 0 0 0,List.replicate (1856+768*2^(0+0)) 1024,g,.slice none 0 0,⟨?_,?_,?_,hi,⟨none,0,rfl,Nat.le_refl _,fun h=>by omega⟩,fun _=>rfl,⟨hV.1,hV.2,Nat.zero_le _,Nat.zero_le _,by show (0:Nat)<_;omega,by show (0:Nat)<_;omega,by show (0:Nat)<_;omega,by show (0:Nat)<_;omega,by show (0:Nat)<_;omega,fun x hx=>by cases hx⟩,Nat.zero_le _,fun e=>(by cases e),by omega,hml.stays hb⟩,rfl,(by show ([]:List Nat)=_;simp),rfl,fun k e=>(by cases e),fun k e=>(by cases e)⟩
 ·rw [List.length_replicate];exact hs
 ·rw [List.length_replicate];rfl
 ·intro p hp
  rw [(List.mem_replicate.1 hp).2]
  omega
theorem y1q (V:Int) (w:World) (pa:Option Addr) (pc:Nat) (L:List InP) (hin:InAt w pa L) (hsum:(z1c L L.length).length≤1048576) (hL:L.length≤1048576) (hml:T6.ML w) :
  Calls Tryz.prog 6 #[.int .i64 V,.slice pa L.length pc] w fun e w'=>e=.returned (.bool true)∧Below w.heap.size w w':=by
 by_cases hV:V<1∨268435456<V
 ·have HN:=qz (y0y V w hV)
  rcases (show V<1∨(¬V<1∧268435456<V) by omega) with h1|⟨h1,h2⟩
  all_goals (
   clear hV
   go_enter Tryz.func6,Tryz.ntmps6
   go_wp2_with fail
   refine (uh HN).mono ?_
   rintro e w1 ⟨rfl,rfl⟩
   go_wp2_with fail
   go_ret
   exact ⟨rfl,Below.refl _ _⟩)
 ·obtain ⟨v,rfl⟩:=Int.eq_ofNat_of_zero_le (show 0≤V by omega)
  have hv:1≤v∧v≤268435456:=by omega
  have HN:=qz (y2t v w hv)
  have HIN:=qz hin
  have HML:=qz hml
  obtain ⟨m,hm⟩:∃m,m=L.length:=⟨_,rfl⟩
  rw [←hm]
  rw [←hm] at hL hsum
  have HM:=qz hm
  have HSUM:=qz hsum
  clear hV hin hml hm hsum
  go_enter Tryz.func6,Tryz.ntmps6
  go_wp2_with fail
  refine (uh HN).mono ?_
  rintro e w1 ⟨b,rfl,hb,hs1,hb1⟩
  have HRE:=qz (y1j hs1 hv.1 0 0 0 (by omega) (by omega) (by decide))
  have HB1:=qz (And.intro hb hb1)
  clear hb hs1 hb1 HN
  go_wp2_with fail
  refine (uh HRE).mono ?_
  rintro e w2 ⟨rfl,g,hg,hs2,hi2,hc2⟩
  have HTL:Hid (TL w w2 b v [] (.slice none 0 0)):=qz (by
   obtain ⟨h1,h2⟩:=uh HB1
   refine y1s ⟨hc2.os.trans h2.os,hc2.tape.trans h2.tape,hc2.output.trans h2.output,Nat.le_trans h2.size hc2.size,fun k hk=>?_⟩ h1 (uh HML) hv hs2 hi2
   rw [hc2.keep k (by have:=h2.size;omega) (by omega)]
   exact h2.block k hk)
  clear hg hs2 hi2 hc2 HRE HB1
  go_wp2_with fail
  go_loopg [7,8,9,10] m (fun gk a7 a8 a9 a10 ws=>∃i:Nat,gk=m-i∧i≤m∧a8=.int .i64 (i:Int)∧(∃aa n cap,a7=.slice aa n cap)∧Hid (TL w ws b v (z1c L i) a7))
  case atStart=>exact ⟨0,rfl,Nat.zero_le _,rfl,⟨_,_,_,rfl⟩,HTL⟩
  case round =>
   obtain ⟨i,rfl,hi,rfl,⟨aa,n,cap,rfl⟩,HT⟩:=hrel
   clear HTL
   have hbel:=qz (uh HT).bel
   by_cases hlt:i<m
   ·have hii:(i:Int)<(m:Int):=by omega
    have hiL:i<L.length:=by rw [←uh HM];exact hlt
    obtain ⟨pg,poff,hpa,hcell⟩:=(uh HIN).cell i hiL
    have hmem:L.getD i ⟨none,0,[]⟩∈L:=by rw [List.getD_eq_getElem?_getD,List.getElem?_eq_getElem hiL];exact List.getElem_mem hiL
    have hsr0:=(uh HIN).src _ hmem
    have hsm0:=(uh HIN).small _ hmem
    have hnx:=z7j hiL
    have hlen1:=z8f L (i+1)
    rw [hnx,List.length_append] at hlen1
    rw [uh HM] at HSUM
    have hsum:=uh HSUM
    generalize L.getD i ⟨none,0,[]⟩=x at *
    obtain ⟨xa,xc,ys⟩:=x
    subst hpa
    have hyl:ys.length≤1048576:=by have h:(z1c L i).length+ys.length≤_:=hlen1;omega
    have hal:(z1c L i).length≤1048576:=by have h:(z1c L i).length+ys.length≤_:=hlen1;omega
    have hyi:¬ (1048576:Int)<(ys.length:Int):=by omega
    have hbl:=(uh HT).bel
    have c0:wr.cell? ⟨pg,poff+i,none⟩=some (.slice xa ys.length xc):=by rw [hbl.cell (z0i hcell)];exact hcell
    have hsr:SrcB wr xa xc ys:=hsr0.stays hbl
    have HSM:Hid (∀y∈ys,y<256):=qz hsm0
    have HNX:Hid (z1c L (i+1)=z1c L i++ys):=qz hnx
    have HAL:=qz hal
    have HSRC:=qz hsr
    have HSRC0:=qz hsr0
    have HCELL:=qz hcell
    clear hsr0 hsm0 hnx hlen1 hmem hcell hsum hal hbl hsr hiL hlt HIN hbel HSUM HM
    obtain ⟨s,ch,g,tv,hst,hW,hx,hpl,htB,hap⟩:=(uh HT).st
    have HST:=qz (And.intro hst (And.intro hW (And.intro hx (And.intro hpl (And.intro htB hap)))))
    rcases Nat.mod_two_eq_zero_or_one i with hpar|hpar
    ·have r1:((i:Int)%2)=0:=by omega
     have r2:(((i:Int)%2 == 0))=true:=by simp;omega
     have HCP:=qz (hst.copy (by rw [hpl];have:=uh HAL;omega) xa xc ys (uh HSRC) hyl (uh HSM))
     clear hst hW hx hpl htB hap hpar
     go_wp2_with fail
     refine (uh HCP).mono ?_
     rintro e w1 ⟨rfl,tv',hs',hk'⟩
     obtain ⟨k1,k2,k3,k4,k5,k6⟩:=uh HST
     obtain ⟨hal1,hb1,hfin⟩:=(uh HT).next (ys:=ys) k1 k2 k3 k5 k6 hs' k2 (by show (s.text++ys).drop ((s.text++ys).length-s.W)=_;rw [k2]) (by show s.place+ys.length=_;rw [k4]) hk'
     have HAL1:=qz hal1
     have HFIN:=qz hfin
     have HSR1:=qz ((uh HSRC0).stays hb1)
     have c1:w1.cell? ⟨pg,poff+i,none⟩=some (.slice xa ys.length xc):=by rw [hb1.cell (z0i (uh HCELL))];exact uh HCELL
     have HNIL:=qz (uh HT).nil
     have i9:IntKind.i64.wrap ((i:Int)+1)=(i:Int)+1:=wi64 (by omega) (by omega)
     clear hal1 hb1 hfin hs' hk' k1 k2 k3 k4 k5 k6 HCP HT HST c0 r1 r2
     go_wp2_with (at_builtin;refine z6g rfl (.tmp 65) (.tmp 69) rfl (.slice aa n cap) (z1c L i) (by simp [go_sem]) (uh HAL1) (uh HNIL) xa xc ys (by simp [go_sem]) (uh HSR1) (by have:=uh HAL;omega) ?_;intro v2 w2 h2;obtain ⟨a2,cap2,e2,hc2,_⟩:=id h2.tx;have H2:=qz (uh HFIN w2 v2 h2);obtain ⟨n2,hn2⟩:∃n2,n2=(z1c L i++ys).length:=⟨_,rfl⟩;rw [←hn2] at e2;subst e2;clear h2 hc2 hn2)
     rw [←uh HNX] at H2
     go_roundg (m-(i+1))
     case measure=>omega
     case rel=>exact ⟨i+1,rfl,by omega,by go_num,⟨_,_,_,rfl⟩,H2⟩
    ·have r1:((i:Int)%2)=1:=by omega
     have r2:(((i:Int)%2 == 0))=false:=by simp;omega
     have HCP:=qz (y2z hst (by rw [hpl];have:=uh HAL;omega) xa xc ys (uh HSRC) hyl (uh HSM))
     clear hst hW hx hpl htB hap hpar
     go_wp2_with fail
     refine (uh HCP).mono ?_
     rintro e w1 ⟨l,pv,tv',g',wm,rfl,q1,q2,q3,q4,q5,q6,hs',q7,q8,hk'⟩
     obtain ⟨k1,k2,k3,k4,k5,k6⟩:=uh HST
     obtain ⟨hal1,hb1,hfin⟩:=(uh HT).next (ys:=ys) k1 k2 k3 k5 k6 hs' (by show (s.run l).W=v;rw [q3.W,k2]) (by show ((s.run l).text).drop ((s.run l).text.length-(s.run l).W)=_;rw [q2,q3.W,k2]) (by show (s.run l).place=_;have h:=q3.place;rw [q2,List.length_append] at h;omega) hk'
     clear q1 q2 q3 q4 q5 q6 q7 q8
     have HAL1:=qz hal1
     have HFIN:=qz hfin
     have HSR1:=qz ((uh HSRC0).stays hb1)
     have c1:w1.cell? ⟨pg,poff+i,none⟩=some (.slice xa ys.length xc):=by rw [hb1.cell (z0i (uh HCELL))];exact uh HCELL
     have HNIL:=qz (uh HT).nil
     have i9:IntKind.i64.wrap ((i:Int)+1)=(i:Int)+1:=wi64 (by omega) (by omega)
     clear hal1 hb1 hfin hs' hk' k1 k2 k3 k4 k5 k6 HCP HT HST c0 r1 r2
     go_wp2_with (at_builtin;refine z6g rfl (.tmp 65) (.tmp 69) rfl (.slice aa n cap) (z1c L i) (by simp [go_sem]) (uh HAL1) (uh HNIL) xa xc ys (by simp [go_sem]) (uh HSR1) (by have:=uh HAL;omega) ?_;intro v2 w2 h2;obtain ⟨a2,cap2,e2,hc2,_⟩:=id h2.tx;have H2:=qz (uh HFIN w2 v2 h2);obtain ⟨n2,hn2⟩:∃n2,n2=(z1c L i++ys).length:=⟨_,rfl⟩;rw [←hn2] at e2;subst e2;clear h2 hc2 hn2)
     rw [←uh HNX] at H2
     go_roundg (m-(i+1))
     case measure=>omega
     case rel=>exact ⟨i+1,rfl,by omega,by go_num,⟨_,_,_,rfl⟩,H2⟩
   ·obtain rfl:i=m:=by omega
    have hii:¬ (i:Int)<(i:Int):=by omega
    have HT2:Hid (TL w wr b v (z1c L L.length) (.slice aa n cap)):=qz (by have h:=uh HT;rw [uh HM] at h;exact h)
    have HAL:Hid ((z1c L L.length).length≤1048576):=qz (by have:=uh HSUM;rw [uh HM] at this;exact this)
    have HSM:Hid (∀z∈z1c L L.length,z<256):=qz (fun z hz=>by
     unfold z1c at hz
     obtain ⟨ys,h1,h2⟩:=List.mem_flatten.1 hz
     obtain ⟨x,h3,rfl⟩:=List.mem_map.1 h1
     exact (uh HIN).small x (List.mem_of_mem_take h3) z h2)
    clear HT hlt HIN hbel HSUM HM hi
    generalize z1c L L.length=zs at *
    obtain ⟨s,ch,g,tv,hst,hW,hx,hpl,htB,hap⟩:=(uh HT2).st
    obtain ⟨N,hN⟩:∃N,N=zs.length:=⟨_,rfl⟩
    obtain ⟨D,hD⟩:∃D,D=N-v:=⟨_,rfl⟩
    rw [←hN,←hD] at hx
    have hal:=(uh HT2).al
    obtain ⟨aa',cap',e,hcc,hs⟩:=id hal
    injection e with e1 e2 e3
    subst e1 e3
    rw [←hN] at e2
    replace e2:=e2.symm
    subst e2
    have hNc:N≤cap:=by rw [hN];exact hcc
    have hDN:D≤N:=by omega
    have hDv:0<N→D<N:=by omega
    have hsm:=uh HSM
    have hXs:∀z∈zs.drop D,z<256:=fun z hz=>hsm z (List.mem_of_mem_drop hz)
    have hlX:(zs.drop D).length=N-D:=by rw [List.length_drop,hN]
    have HRD:Hid (∀x,Below wr.heap.size wr x→(N=0→Reads x (.slice none 0 0) (zs.drop D))∧(∀ag aoff,aa=some ⟨ag,aoff,none⟩→0<N→Reads x (.slice (some ⟨ag,aoff+D,none⟩) (N-D) (cap-D)) (zs.drop D))):=qz fun x hb=>by
     refine ⟨fun h0=>?_,fun ag aoff ha h0=>?_⟩
     ·have e:zs.drop D=[]:=List.eq_nil_of_length_eq_zero (by rw [hlX];omega)
      rw [e]
      exact ⟨none,0,rfl,fun h=>by simp at h⟩
     ·obtain ⟨ag',aoff',cur,e,hg,hz,ht⟩:=hs (by omega)
      rw [ha] at e
      injection e with e
      injection e with e1 e2
      subst e1 e2
      exact TRd.reads (TAt.rd (TAt.sub hN (by rw [hb.block ag (z0c hg)];exact hg) hz (by rw [hN];exact ht) (by omega) D (by omega)))
    have hsW:s.W=v:=hW
    have HTX:=qz (z6f (show SAt wr.drew b 47 [] s _ tv from hst.st) (show TAt wr.drew tv s.text from hst.tx) hst.ok.W1 (by have:=hst.cut;have:=hst.ok.W2;omega) hst.nil)
    rw [hx] at HTX
    have HSTM:=qz hst
    have hbb:=(uh HT2).bB
    have HBL:=qz (uh HT2).bel
    have hshape:(N=0∧aa=none∧cap=0)∨(0<N∧∃ag aoff,aa=some ⟨ag,aoff,none⟩):=by
     rcases Nat.eq_zero_or_pos N with h0|h0
     ·left
      have:=(uh HT2).nil (List.eq_nil_of_length_eq_zero (by omega))
      injection this with e1 e2 e3
      exact ⟨h0,e1,e3⟩
     ·right
      obtain ⟨ag,aoff,cur,e,_⟩:=hs (by omega)
      exact ⟨h0,ag,aoff,e⟩
    have hNv:N≤1048576:=by have:=uh HAL;omega
    have m3:∀x,(Builtin.max_ #[3,3] 3 #[.int .i64 0,.int .i64 ((N:Int)-(v:Int))]).run Tryz.prog x=.ok (.int .i64 (D:Int)) x:=fun x=>y1a hD x
    have i1:IntKind.i64.wrap ((N:Int)-(v:Int))=(N:Int)-(v:Int):=z5l hNv hv.2
    have HX:=qz hx
    have HXS:=qz hXs
    clear hst hW hx hpl htB hap hal hs hcc hN hsm hXs HT2 HSM HAL hsW
    generalize zs.drop D=X at *
    have HLX:=qz hlX
    clear hlX
    clear hD
    rcases hshape with ⟨h0,rfl,rfl⟩|⟨h0,ag,aoff,rfl⟩
    ·subst h0
     obtain rfl:D=0:=by omega
     have i0:IntKind.i64.wrap (-(v:Int)) = -(v:Int):=by have h:=z5l (N:=0) (v:=v) (by omega) hv.2;rw [show ((0:Nat):Int)-(v:Int) = -(v:Int) by omega] at h;exact h
     have i4:max (0:Int) (-(v:Int))=0:=by omega
     go_upto_region 18 with fail
     have r1:=z0u ((uh HRD wr.drew ((Below.refl _ _).drew)).1 rfl) (uh HXS)
     go_region_law (first
      | (
       refine z1f 12 #[.pointer (some ⟨b,0,none⟩)] ?_ ?_ ?_
       focus rfl
       focus (go_simp;done)
       refine (uh HTX2).mono ?_
       rintro e w4 ho
       obtain ⟨rfl,rfl⟩:=z6v ho
       clear ho
       refine ⟨_,rfl,?_⟩)
      | (
       refine z1f 17 #[.pointer (some ⟨b,0,none⟩)] ?_ ?_ ?_
       focus rfl
       focus (go_simp;done)
       refine (uh HFG).mono ?_
       rintro e w3 ⟨rfl,hs3,hc3⟩
       have HTX2:=qz (z6f hs3 ⟨none,0,rfl,Nat.le_refl _,fun h=>by omega⟩ (uh HSTM).ok.W1 (Nat.zero_le _) (fun _=>rfl))
       have HC3:=qz hc3
       clear hs3 hc3
       refine ⟨_,rfl,?_⟩)
      | (
       refine z1f 12 #[.pointer (some ⟨b,0,none⟩)] ?_ ?_ ?_
       focus rfl
       focus (go_simp;done)
       refine (uh HTX).mono ?_
       rintro e w2 ho
       obtain ⟨a5,c5,rfl,hr5,hb5⟩:=z3y ho
       have hb5':Below wr.heap.size wr w2:=⟨hb5.os,hb5.tape,hb5.output,hb5.size,hb5.block⟩
       have r2:=z0u hr5 (uh HXS)
       have r3:=z0u ((uh HRD w2 hb5').1 rfl) (uh HXS)
       have HFG:=qz (z4t ((uh HSTM).st.stays hb5') (uh HSTM).ok.W1)
       have HB5:=qz hb5'
       clear ho hr5 hb5 hb5'
       refine ⟨_,rfl,?_⟩))
     all_goals (
      go_wp2_with fail
      go_ret
      have h5:=uh HB5
      have h3:=uh HC3
      have h0:=uh HBL
      refine ⟨rfl,h3.os.trans (h5.os.trans h0.os),h3.tape.trans (h5.tape.trans h0.tape),h3.output.trans (h5.output.trans h0.output),by rw [h3.size];exact Nat.le_trans h0.size h5.size,fun k hk=>?_⟩
      have:=h0.size
      rw [h3.keep k (by omega),h5.block k (by omega)]
      exact h0.block k hk)
    ·have hDN2:=hDv h0
     have j1:¬cap=D:=by omega
     have j2:(D:Int)≤(N:Int):=by omega
     go_upto_region 18 with fail
     have r1:=z0u ((uh HRD wr.drew ((Below.refl _ _).drew)).2 ag aoff rfl h0) (uh HXS)
     go_region_law (first
      | (
       refine z1f 12 #[.pointer (some ⟨b,0,none⟩)] ?_ ?_ ?_
       focus rfl
       focus (go_simp;done)
       refine (uh HTX2).mono ?_
       rintro e w4 ho
       obtain ⟨rfl,rfl⟩:=z6v ho
       clear ho
       refine ⟨_,rfl,?_⟩)
      | (
       refine z1f 17 #[.pointer (some ⟨b,0,none⟩)] ?_ ?_ ?_
       focus rfl
       focus (go_simp;done)
       refine (uh HFG).mono ?_
       rintro e w3 ⟨rfl,hs3,hc3⟩
       have HTX2:=qz (z6f hs3 ⟨none,0,rfl,Nat.le_refl _,fun h=>by omega⟩ (uh HSTM).ok.W1 (Nat.zero_le _) (fun _=>rfl))
       have HC3:=qz hc3
       clear hs3 hc3
       refine ⟨_,rfl,?_⟩)
      | (
       refine z1f 12 #[.pointer (some ⟨b,0,none⟩)] ?_ ?_ ?_
       focus rfl
       focus (go_simp;done)
       refine (uh HTX).mono ?_
       rintro e w2 ho
       obtain ⟨a5,c5,rfl,hr5,hb5⟩:=z3y ho
       have hb5':Below wr.heap.size wr w2:=⟨hb5.os,hb5.tape,hb5.output,hb5.size,hb5.block⟩
       have r2:=z0u hr5 (uh HXS)
       have r3:=z0u ((uh HRD w2 hb5').2 ag aoff rfl h0) (uh HXS)
       have HFG:=qz (z4t ((uh HSTM).st.stays hb5') (uh HSTM).ok.W1)
       have HB5:=qz hb5'
       clear ho hr5 hb5 hb5'
       refine ⟨_,rfl,?_⟩))
     all_goals (
      go_wp2_with fail
      go_ret
      have h5:=uh HB5
      have h3:=uh HC3
      have h0:=uh HBL
      refine ⟨rfl,h3.os.trans (h5.os.trans h0.os),h3.tape.trans (h5.tape.trans h0.tape),h3.output.trans (h5.output.trans h0.output),by rw [h3.size];exact Nat.le_trans h0.size h5.size,fun k hk=>?_⟩
      have:=h0.size
      rw [h3.keep k (by omega),h5.block k (by omega)]
      exact h0.block k hk)
end D
end Go.Proofs.YtoicnlmfgembiaaGreat
section
namespace Go.Proofs.YtoicnlmfgembiaaGreat.LzmaTextFrame
open Go.ChangeShapes Go.WideShapes Go.ChangeAt Go.RowKit Go.Deep Go.Joins
open Go.Proofs.YtoicnlmfgembiaaGreat.D
theorem own:ownKnob Tryz.prog.godebug=none:=by kernel_rfl
theorem laidOut:laidOutB Tryz.prog=true:=by kernel_rfl
theorem cells5:Tryz.prog.cellsOf 5=1:=by kernel_rfl
theorem y2l:Tryz.prog.cellsOf 32=1:=by kernel_rfl
theorem z5r {H:Type} {enc:TypeId × Value→H} {a:Assume} {C:Checked} {os:Os} {f:FuncId} {fn:Func} {s:OpenSpec} {k:(H:Type)→List (DataW H)→Bool} (hk:s.cond=some k) {F:Stop.Interp} {conds:List PathCond} {apart fresh handsOn again:Bool}
  (own:ownKnob C.prog.godebug=none) (started:os.Started) (noInit:C.prog.inits.idxOf? f=none) (hfn:C.prog.funcs[f]?=some fn)
  (witness:∃ (w:World) (tape:Tape) (i:Input),w.os=os∧(w.forCall tape i).Shaped C.prog∧i.vars=[]∧Input.okWide C.prog (w.forCall tape i) .any w.heap.size f i ∧
   s.pre6 enc C.prog fn conds apart (w.forCall tape i).memory i.args∧a.holds C.prog (lone (Frame.enter C.prog f i.args .normal) [] (w.forCall tape i)))
  (contract:∀ (W:World) (base:Nat) (args:Array Value) (ds gs:List (DataW H)) (before:List MemPlace),
   (∀ (j:Nat) t v,fn.params[j]?=some t→args[j]?=some v→Value.okWide C.prog W .any base t v) →
   DataW.Whole enc C.prog fn.params.toList s.vars apart W args.toList ds gs before →
   conds.all (PathCond.test C.prog ⟨fn.params.toList,ds,s.bare.plain.varTypes C.prog,gs⟩)=true→k H (ds++gs)=true→W.ShapedOpen C.prog →
   a.holds C.prog (lone (Frame.enter C.prog f args .normal) [] W) →
   Calls C.prog f args W fun e W'=>∃v,e=.returned v∧(s.at F).post enc C.prog fn apart fresh handsOn again W args v W') :
  ReturnsInHanded a C os f .any (s.pre6 enc C.prog fn conds apart) ((s.at F).post enc C.prog fn apart fresh handsOn again):=by
 refine returnsInHanded_of_calls own started noInit witness ?_
 intro w tape i _ hsh _ hok hpre hholds
 obtain ⟨_,_,_,fn',hfn',_,_,_,_,hval⟩:=hok
 have e:fn'=fn:=Option.some.inj (hfn'.symm.trans hfn)
 subst e
 obtain ⟨ds,gs,before,hw,hc,hkk⟩:=(OpenSpec.pre_some hk conds apart _ _).1 hpre.1
 have hw':=DataW.Whole.of_heap (w':=w.forCall tape i) (by rfl) hw
 refine (contract (w.forCall tape i) w.heap.size i.args ds gs before hval hw' hc hkk hsh hholds).mono fun e W' ⟨v,he,hp⟩=>?_
 subst he
 exact ChangeSpec.post_blind hp
theorem y4w {W:World} (h:W.ShapedOpen Tryz.prog):T6.ML W:=Tryz.laysM185.s1_3 W h
theorem y0o {H:Type} (d:DataW H):1≤Rows.uptoBulk d:=by
 cases d with
 | lit l=>cases l<;>simp [Rows.uptoBulk]
 | _=>simp [Rows.uptoBulk]
theorem z6j {H:Type} (l:List (DataW H)):l.length≤Rows.uptoBulkAll l:=by
 induction l with
 | nil=>simp [Rows.uptoBulkAll]
 | cons x r ih=>have:=y0o x;simp only [Rows.uptoBulkAll,List.length_cons];omega
theorem z6i {H:Type} (elems spare:List (DataW H)):Rows.uptoBulkAll elems≤Rows.uptoBulk (.slice elems spare):=by
 simp only [Rows.uptoBulk];omega
variable {H:Type} {enc:TypeId × Value→H} {W:World}
theorem y1g {n:Nat} {cs:List Value} {y:DataW H × List MemPlace} (h:DataW.trod enc Tryz.prog W 0 (fun _=>true) true n 32 cs=some y) :
  ∃q:InP,cs=[.slice q.a q.ys.length q.c]∧SrcB W q.a q.c q.ys∧(∀z∈q.ys,z<256)∧q.ys.length≤Rows.uptoBulk y.1:=by
 rcases open_ints Tryz.underlying32 Tryz.underlying5 cells5 h with ⟨hcs,hy⟩|⟨x,l,c,ys,hcs,_,hl,hm,hz,hx,hcell,hwz⟩
 ·exact ⟨⟨none,0,[]⟩,hcs,.inl ⟨rfl,rfl,rfl⟩,by simp,Nat.zero_le _⟩
 ·have hyl:l≤ys.length:=by rw [hz];split<;>omega
  have hb:∀y∈ys,0≤y∧y≤255:=fun y hy=>bounds_u8 (hwz y hy)
  have hlen:((ys.take l).map Int.toNat).length=l:=by simp;omega
  refine ⟨⟨some x,c,(ys.take l).map Int.toNat⟩,by rw [hlen];exact hcs,.inr ⟨x,rfl,fun j u hj=>?_⟩,fun z hz'=>?_,?_⟩
  ·have hj2:j<l:=by
    have:=(List.getElem?_eq_some_iff.1 hj).1
    simp at this;omega
   rw [hcell j (by omega)]
   rw [List.getElem?_map,List.getElem?_map,List.getElem?_take,if_pos hj2,List.getElem?_eq_getElem (by omega)] at hj
   simp [bv] at hj
   rw [←hj]
   have:=hb ys[j] (List.getElem_mem _)
   simp [show j<ys.length by omega]
   omega
  ·obtain ⟨y,hy,rfl⟩:=List.mem_map.1 hz'
   have:=hb y (List.mem_of_mem_take hy)
   omega
  ·rw [hlen,hx]
   refine Nat.le_trans ?_ (z6i _ _)
   refine Nat.le_trans ?_ (z6j _)
   simp [lits];omega
theorem choose_lt {α:Type} (z:α) {n:Nat} {p:Nat→α→Prop} (h:∀i,i<n→∃a,p i a):∃F:Nat→α,∀i,i<n→p i (F i):=by
 refine ⟨fun i=>if hi:i<n then Classical.choose (h i hi) else z,fun i hi=>?_⟩
 simp only [dif_pos hi]
 exact Classical.choose_spec (h i hi)
theorem z7h (F:Nat→InP) (D:Nat→DataW H):∀ (l:List Nat),(∀i∈l,(F i).ys.length≤Rows.uptoBulk (D i))→(((l.map F).map InP.ys).flatten).length≤Rows.uptoBulkAll (l.map D)
 | [],_=>by simp [Rows.uptoBulkAll]
 | i :: l,h=>by
  have h1:=h i (List.mem_cons_self)
  have h2:=z7h F D l (fun j hj=>h j (List.mem_cons_of_mem _ hj))
  simp only [List.map_cons,List.flatten_cons,List.length_append,Rows.uptoBulkAll]
  omega
theorem z9p {a:Option Addr} {len cap:Nat} {d:DataW H} {p:List MemPlace} (h:DataW.Trod enc Tryz.prog W 0 (fun _=>true) true 59 (.slice a len cap) d p) :
  ∃L:List InP,L.length=len∧InAt W a L∧(z1c L L.length).length≤Rows.uptoBulk d∧len≤Rows.uptoBulk d:=by
 obtain ⟨fuel,hf⟩:=h
 rcases open_slice Tryz.underlying59 hf with ⟨hcs,_⟩|⟨x,l,c,m,n,D,Pl,hcs,_,hl,hm,hmm,hx,hcell⟩
 ·simp [Value.cells] at hcs
  obtain ⟨rfl,rfl,rfl⟩:=hcs
  exact ⟨[],rfl,⟨fun j hj=>by simp at hj,fun x hx=>by simp at hx,fun x hx=>by simp at hx⟩,by simp [z1c],Nat.zero_le _⟩
 ·simp [Value.cells] at hcs
  obtain ⟨rfl,rfl,rfl⟩:=hcs
  simp only [Prod.mk.injEq] at hx
  have hmm':len≤m:=by rw [hmm];split<;>omega
  have hc:∀i,i<len→∃q:InP,W.cell? (x.add i)=some (.slice q.a q.ys.length q.c)∧SrcB W q.a q.c q.ys∧(∀z∈q.ys,z<256)∧q.ys.length≤Rows.uptoBulk (D i):=fun i hi=>by
   obtain ⟨cs,hc1,hc2⟩:=hcell i (by omega)
   rw [y2l,Nat.mul_one] at hc1
   obtain ⟨_,hcl,hc3⟩:=World.cells?_some hc1
   obtain ⟨q,rfl,h2,h3,h4⟩:=y1g hc2
   refine ⟨q,?_,h2,h3,h4⟩
   have:=hc3 0 (by omega)
   have e0:(x.add i).add 0=x.add i:=by simp [Addr.add]
   rw [e0] at this
   exact this
  obtain ⟨F,hF⟩:=choose_lt ⟨none,0,[]⟩ hc
  have hlen2:((List.range len).map F).length=len:=by simp
  have hbk:Rows.uptoBulkAll ((List.range len).map D)≤Rows.uptoBulk d:=by rw [hx.1];exact z6i _ _
  refine ⟨(List.range len).map F,hlen2,⟨fun j hj=>?_,fun y hy=>?_,fun y hy=>?_⟩,?_,?_⟩
  ·rw [hlen2] at hj
   obtain ⟨xb,xo,xs⟩:=x
   have hs:xs=none:=by
    have:=(hF 0 (by omega)).1
    simpa [Addr.add] using World.cell?_spot this
   subst hs
   refine ⟨xb,xo,rfl,?_⟩
   have e:((List.range len).map F).getD j ⟨none,0,[]⟩=F j:=by
    rw [List.getD_eq_getElem?_getD,List.getElem?_map,List.getElem?_range hj]
    rfl
   rw [e]
   have:=(hF j hj).1
   rw [Addr.add_mid] at this
   exact this
  ·obtain ⟨i,hi,rfl⟩:=List.mem_map.1 hy
   exact (hF i (List.mem_range.1 hi)).2.1
  ·obtain ⟨i,hi,rfl⟩:=List.mem_map.1 hy
   exact (hF i (List.mem_range.1 hi)).2.2.1
  ·refine Nat.le_trans ?_ hbk
   unfold z1c
   rw [List.take_length]
   exact z7h F D (List.range len) (fun i hi=>(hF i (List.mem_range.1 hi)).2.2.2)
  ·refine Nat.le_trans ?_ hbk
   have:=z6j ((List.range len).map D)
   simpa using this
theorem contract (H:Type) (enc:TypeId × Value→H) (W:World) (base:Nat) (args:Array Value) (ds gs:List (DataW H)) (before:List MemPlace)
  (hval:∀ (j:Nat) t v,Tryz.f6.params[j]?=some t→args[j]?=some v→Value.okWide Tryz.prog W .any base t v)
  (hW:DataW.Whole enc Tryz.prog Tryz.f6.params.toList Rows.lzmaTextSpec.vars false W args.toList ds gs before) (hk:Rows.uptoSmall H (ds++gs)=true) (hm:T6.ML W) :
  Calls Tryz.prog 6 args W fun e W'=>∃v,e=.returned v∧Rows.lzmaTextSpec.post enc Tryz.prog Tryz.f6 false true false false W args v W':=by
 have hW':=hW
 obtain ⟨p,q,hA0,hV,rfl,hfz,hnd⟩:=hW
 have hA:DataW.TrodAll enc Tryz.prog W 0 (fun _=>true) true Tryz.f6.params.toList args.toList ds p:=hA0
 rw [Tryz.params6] at hA hval
 obtain ⟨v0,vs0,d0,ds0,p0,q0,hargs,rfl,rfl,h0,r0⟩:=trodAll_cons hA
 obtain ⟨v1,vs1,d1,ds1,p1,q1,rfl,rfl,rfl,h1,r1⟩:=trodAll_cons r0
 obtain ⟨rfl,rfl,rfl⟩:=trodAll_nil r1
 obtain rfl:args=#[v0,v1]:=by cases args;simp_all
 obtain ⟨rfl,rfl⟩:=trodVars_none hV
 have hbulk:Rows.uptoBulk d0+Rows.uptoBulk d1≤1048576:=by
  have:=of_decide_eq_true hk
  simp only [List.append_nil,Rows.uptoBulkAll] at this
  omega
 obtain ⟨I0,rfl,rfl,rfl,w0⟩:=open_int Tryz.underlying3 (hval 0 3 v0 rfl rfl) h0
 obtain ⟨a1,len1,cap1,rfl⟩:=okWide_slice Tryz.underlying59 (hval 1 59 v1 rfl rfl)
 have k1:=h1
 have lt1:∀x∈p1,x.block<W.heap.size:=by obtain ⟨m,hm⟩:=k1;exact DataW.trod_lt m _ _ _ hm
 obtain ⟨L,hlen,hin,hsum,hll⟩:=z9p h1
 clear hA0
 subst hlen
 refine (y1q I0 W a1 cap1 L hin (by omega) (by omega) hm).mono fun e W' ⟨he,bel⟩=>?_
 subst he
 exact ⟨_,rfl,_,_,_,[],_,[],hW',trodAll_mk1 (shut_bool Tryz.underlying4 _),(trodAll_cons_mk (shut_int Tryz.underlying3 w0) (trodAll_cons_mk (Below.trod laidOut (by kernel_rfl) (of_decide_eq_true (by kernel_rfl)) k1 bel lt1) trodAll_mk0)),rfl,bel.frame _,fun h=>by cases h⟩
theorem lifted (os:Os) (started:os.Started) (H:Type) (enc:TypeId × Value→H) (F:Stop.Interp) :
  ReturnsInHanded {} Tryz.checked os 6 .any ((Rows.OpenSpec.upto Rows.lzmaTextSpec).pre6 enc Tryz.prog Tryz.f6 Rows.lzmaTextUptoRow.domain false) (((Rows.OpenSpec.upto Rows.lzmaTextSpec).at F).post enc Tryz.prog Tryz.f6 false true false false):=by
 refine z5r (C:=Tryz.checked) (s:=Rows.OpenSpec.upto Rows.lzmaTextSpec) (k:=Rows.uptoSmall) rfl own started (by kernel_rfl) Tryz.func6
  (OpenSpec.witness (enc:=enc) (C:=Tryz.checked) (s:=Rows.OpenSpec.upto Rows.lzmaTextSpec) (k:=Rows.uptoSmall) rfl false ⟨#[],#[.int .i64 0,.slice none 0 0],[]⟩ 8 (by kernel_rfl) (by kernel_rfl) (by kernel_rfl)
   (x:=([.lit (.int .i64 0),.nil],[],[])) (by kernel_rfl) rfl (by kernel_rfl)) ?_
 intro W base args ds gs before hval hW _ hk hsh _
 exact contract H enc W base args ds gs before hval hW hk (y4w hsh)
theorem proved:Rows.LzmaTextUptoSaid :=
 OpenClaim.holds_of_cond 6 Tryz.f6 rfl rfl rfl rfl rfl rfl rfl ⟨rfl,rfl,rfl,rfl,rfl⟩ rfl rfl rfl rfl rfl (by kernel_rfl) Tryz.func6 (by kernel_rfl)
  (of_decide_eq_true (by kernel_rfl)) (by unfold Func.isWrapper;first|(rw [if_pos (by decide +kernel)];kernel_rfl)|(rw [if_neg (by decide +kernel)];exact ⟨rfl,rfl⟩))
  (fun os started H enc _ F=>lifted os started H enc F)
end Go.Proofs.YtoicnlmfgembiaaGreat.LzmaTextFrame
namespace Go.Proofs.YtoicnlmfgembiaaGreat
theorem lzmaTextUpto_holds:Rows.LzmaTextUptoSaid:=LzmaTextFrame.proved
end Go.Proofs.YtoicnlmfgembiaaGreat
end
namespace Go.Proofs.YtoicnlmfgembiaaGreat
end Go.Proofs.YtoicnlmfgembiaaGreat
