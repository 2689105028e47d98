/- Texts of one proof, one behind the other: RgM, DBa, DSh, DPt, DBi, DTr, DBy, DNw, DEr, DDe, T6Tok, T6Base, T6Kit, T6Meas, T6Rep, T6Look, T6Last, T6RK, T6LastI, T6Shelf, T6Index, T6Key, T6Seek, T6Match, Ih, Im, In, Sh, Pw, Pg, Pp. -/
import Derived.Test.YtoicnlmfgembiaaGreatProg
import Derived.BigQuiet
import Derived.Deep.AppendLies
import Derived.Deep.DeepCutAuto
import Derived.Deep.DeepMust
import Derived.Deep.DrawnRows
import Derived.Deep.LoopGhost
import Derived.Deep.QuietTactic
import Derived.Deep.WholeRow
import Derived.Deep.RegionHeld3
import Derived.Handy
import Derived.KernelRfl
import Derived.Laws.AppendOwnNone
import Derived.Laws.BytesArg
import Derived.Laws.CopyOwn
import Derived.Laws.Rows
import Derived.Lib.SmallJoins
import Derived.Maps.AppendAt
import Derived.OwnWalk
import Derived.WalkKit
import Derived.WalkMore
import Derived.WalkSpells
import Derived.Deep.CutBlock
import Derived.Deep.RegionLaw
import Derived.StillTailTactics
import Derived.Laws.MakeOwn
import Derived.Test.YtoicnlmfgembiaaGreatRows
import Derived.Laws.BitsAllLaws
import Derived.Laws.BytesString
import Derived.Laws.IdiomStrings
import Derived.Lib.LastIndexLaws
import Derived.Lib.SlBytesRow
import Derived.Lib.Bytealg
import Derived.Shelf.Bytes.SlIndexWhole
import Derived.Shelf.LaysM
import Derived.Lib.IndexMore

set_option linter.unusedVariables false
set_option maxRecDepth 100000
set_option maxHeartbeats 24000000
namespace Go.Proofs.YtoicnlmfgembiaaGreat
theorem dN {P : Program} {md : Region.Mode} {ops : Array Oper} {Q : Exit → Act → World → Prop} {S : World → Prop} {listed : Array Bool} {a : Act} {w : World} {fuel : Nat} (h : Q .normal a w) (hr : Region.ready md ops listed = [] := by kernel_rfl) : wpAnyH P md ops (NoPanic Q) S fuel listed a w := wpAnyH_done hr (NoPanic.normal h) fuel
theorem sA {α : Type _} (a b : α) (l : List α) : (a :: l).set 0 b = b :: l := rfl
theorem sB {α : Type _} (a b : α) (l : List α) (n : Nat) : (a :: l).set (n + 1) b = a :: l.set n b := rfl
end Go.Proofs.YtoicnlmfgembiaaGreat
namespace Go.Proofs.YtoicnlmfgembiaaGreat
namespace Rang
structure Enc where
 low:Nat
 rng:Nat
 kept:Nat
 wait:Nat
 out:List Nat
def enc0:Enc:=⟨0,4294967295,0,1,[]⟩
def z0w (c:Enc):Enc :=
 if c.low<4278190080∨4294967295<c.low then
  ⟨c.low%16777216*256,c.rng,c.low/16777216%256,1,c.out++(match c.wait with|0=>[]|n+1=>(c.kept+c.low/4294967296)%256 :: List.replicate n ((255+c.low/4294967296)%256))⟩
 else ⟨c.low%16777216*256,c.rng,c.kept,c.wait+1,c.out⟩
def z1n (c:Enc):Enc:=if c.rng<16777216 then z0w { c with rng:=c.rng*256 } else c
def after (p:Nat) (bit:Bool):Nat:=if bit then p-p/32 else p+(2048-p)/32
theorem y0h {p:Nat} (h:31≤p∧p≤2017) (bit:Bool):31≤after p bit∧after p bit≤2017:=by
 unfold after
 cases bit
 ·simp;omega
 ·simp;omega
def putE (c:Enc) (p:Nat) (bit:Bool):Enc :=
 z1n (if bit then { c with low:=c.low+c.rng/2048*p,rng:=c.rng-c.rng/2048*p } else { c with rng:=c.rng/2048*p })
def dirE (c:Enc) (bit:Bool):Enc :=
 z1n (if bit then { c with low:=c.low+c.rng/2,rng:=c.rng/2 } else { c with rng:=c.rng/2 })
def y1z (c:Enc):List Nat:=(z0w (z0w (z0w (z0w (z0w c))))).out
def num:List Nat→Nat:=List.foldl (fun v b=>v*256+b) 0
theorem z8r (l:List Nat) (a:Nat):l.foldl (fun v b=>v*256+b) a=a*256^l.length+num l:=by
 unfold num
 induction l generalizing a with
 | nil=>simp
 | cons x l ih =>
  rw [List.foldl_cons,List.foldl_cons,ih,ih (0*256+x),List.length_cons,Nat.pow_succ]
  rw [Nat.zero_mul,Nat.zero_add,Nat.add_mul,Nat.mul_assoc,Nat.mul_comm 256]
  omega
theorem z2p (a b:List Nat):num (a++b)=num a*256^b.length+num b:=by
 rw [show num (a++b)=b.foldl (fun v b=>v*256+b) (num a) by unfold num;rw [List.foldl_append],z8r]
theorem z3x (x:Nat):num [x]=x:=by simp [num]
theorem z4n (x:Nat) (l:List Nat):num (x :: l)=x*256^l.length+num l:=by
 rw [←List.singleton_append,z2p,z3x]
theorem y2b:∀n,num (List.replicate n 255)+1=256^n
 | 0=>by simp [num]
 | n+1=>by
  have:=y2b n
  rw [List.replicate_succ,z4n,List.length_replicate,Nat.pow_succ]
  omega
theorem z6u:∀n,num (List.replicate n 0)=0
 | 0=>by simp [num]
 | n+1=>by rw [List.replicate_succ,z4n,z6u n,Nat.zero_mul]
structure z0h (c:Enc) (T k r:Nat):Prop where
 wait:1≤c.wait
 len:c.out.length+c.wait=k+1
 kept:c.kept<256
 small:∀z∈c.out,z<256
 val:(num c.out*256^c.wait+c.kept*256^(c.wait-1)+num (List.replicate (c.wait-1) 255))*4294967296+c.low=T
 pos:1≤r
 lo:c.low+r≤8589934592
 hi:T+r≤(num c.out+1)*256^c.wait*4294967296
 room:T+r≤256^k*4294967296
theorem y3m:z0h enc0 0 0 4294967295:=⟨by decide,rfl,by decide,by simp [enc0],by simp [enc0,num],by decide,by decide,by decide,by decide⟩
theorem z1j {c:Enc} {T k r:Nat} (h:z0h c T k r) (r' x:Nat) (h1:1≤r') (h2:r'≤r):z0h { c with rng:=x } T k r' :=
 ⟨h.wait,h.len,h.kept,h.small,h.val,h1,by have:=h.lo;simp only;omega,by have:=h.hi;simp only;omega,by have:=h.room;omega⟩
theorem z4c {c:Enc} {T k r:Nat} (h:z0h c T k r) (b r' x:Nat) (h1:1≤r') (h2:b+r'≤r):z0h { c with low:=c.low+b,rng:=x } (T+b) k r' :=
 ⟨h.wait,h.len,h.kept,h.small,by have:=h.val;simp only;omega,h1,by have:=h.lo;simp only;omega,by have:=h.hi;simp only;omega,by have:=h.room;omega⟩
theorem ar1 (Z cy tp rs:Nat):(Z+cy)*4294967296+(tp*16777216+rs)=Z*4294967296+(cy*4294967296+tp*16777216+rs):=by omega
theorem ar2 (Z tp rs:Nat):(Z*256+tp+0)*4294967296+rs*256=(Z*4294967296+(tp*16777216+rs))*256:=by omega
theorem ar3 (P Q Z rs:Nat):(P*256*256+Q*256+(Z*256+255))*4294967296+rs*256=((P*256+Q+Z)*4294967296+(255*16777216+rs))*256:=by omega
theorem ar4 (T r Y:Nat) (h:T+r≤Y*4294967296):T*256+r*256≤Y*256*4294967296:=by omega
theorem z2u {c:Enc} {T k r:Nat} (h:z0h c T k r) (hr:r≤16777216):z0h (z0w c) (T*256) (k+1) (r*256):=by
 obtain ⟨low,rng,kept,wait,out⟩:=c
 obtain ⟨hw,hlen,hk,hsm,hval,hpos,hlo,hhi,hroom⟩:=h
 simp only at hw hlen hk hsm hlo hval hhi
 have hroom':T*256+r*256≤256^(k+1)*4294967296:=by
  rw [Nat.pow_succ,Nat.mul_assoc,Nat.mul_comm 256,←Nat.mul_assoc]
  omega
 obtain ⟨w,rfl⟩:∃w,wait=w+1:=⟨wait-1,by omega⟩
 rw [Nat.add_sub_cancel] at hval
 have hf:=y2b w
 unfold z0w
 by_cases hc:low<4278190080∨4294967295<low
 ·simp only [if_pos hc]
  obtain ⟨cy,hcy⟩:∃cy,cy=low/4294967296:=⟨_,rfl⟩
  obtain ⟨tp,htp⟩:∃tp,tp=low/16777216%256:=⟨_,rfl⟩
  obtain ⟨rs,hrs⟩:∃rs,rs=low%16777216:=⟨_,rfl⟩
  have hlow:low=cy*4294967296+tp*16777216+rs:=by omega
  have hc1:cy≤1:=by omega
  have htp2:tp<256:=by omega
  have hrs2:rs<16777216:=by omega
  have hcl:cy=0→low<4278190080:=by omega
  rw [←hcy,←htp,←hrs]
  obtain ⟨news,hnews⟩:∃news,news=(kept+cy)%256 :: List.replicate w ((255+cy)%256):=⟨_,rfl⟩
  have hnl:news.length=w+1:=by rw [hnews];simp
  have hns:∀z∈news,z<256:=by
   rw [hnews]
   intro z hz
   rcases List.mem_cons.1 hz with rfl|hz
   ·omega
   ·rw [List.mem_replicate] at hz;omega
  obtain ⟨O,hO⟩:∃O,O=num out*256^(w+1):=⟨_,rfl⟩
  obtain ⟨X,hX⟩:∃X,X=256^w:=⟨_,rfl⟩
  have hX1:256^(w+1)=X*256:=by rw [Nat.pow_succ,hX]
  have hhi':T+r≤(O+X*256)*4294967296:=by
   rw [Nat.add_mul,Nat.one_mul,←hO,hX1] at hhi
   exact hhi
  have hnum:num news+O=O+kept*X+num (List.replicate w 255)+cy:=by
   rw [hnews,z4n,List.length_replicate,←hX]
   rcases Nat.lt_or_ge cy 1 with h0|h0
   ·obtain rfl:cy=0:=by omega
    rw [show (255+0)%256=255 from rfl,Nat.add_zero,Nat.mod_eq_of_lt hk,Nat.add_zero]
    omega
   ·obtain rfl:cy=1:=by omega
    rw [show (255+1)%256=0 by omega,z6u]
    by_cases hk2:kept=255
    ·exfalso
     subst hk2
     rw [←hO,←hX] at hval
     rw [←hX] at hf
     omega
    ·rw [Nat.mod_eq_of_lt (by omega),Nat.add_mul]
     rw [←hX] at hf
     omega
  have hval2:(num news+O)*4294967296+(tp*16777216+rs)=T:=by
   rw [hnum,←hval,←hO,hlow,←hX]
   exact ar1 _ _ _ _
  have hall:num (out++news)=num news+O:=by
   rw [z2p,hnl,←hO,Nat.add_comm]
  rw [←hnews]
  refine ⟨by simp,?_,htp2,?_,?_,by omega,?_,?_,hroom'⟩
  ·simp only [List.length_append,hnl];omega
  ·intro z hz
   rcases List.mem_append.1 hz with h|h
   ·exact hsm z h
   ·exact hns z h
  ·simp only [hall,Nat.pow_one,Nat.sub_self,Nat.pow_zero,Nat.mul_one,List.replicate_zero]
   show ((num news+O)*256+tp+num [])*4294967296+rs*256=_
   rw [show num []=0 from rfl,←hval2]
   exact ar2 _ _ _
  ·simp only;omega
  ·simp only [hall,Nat.pow_one]
   rw [←hval2]
   have:tp*16777216+rs+r≤4294967296:=by
    rcases Nat.lt_or_ge cy 1 with h0|h0
    ·have:=hcl (by omega);omega
    ·omega
   omega
 ·simp only [if_neg hc]
  have hl1:low/16777216=255:=by omega
  obtain ⟨rs,hrs⟩:∃rs,rs=low%16777216:=⟨_,rfl⟩
  have hlow:low=255*16777216+rs:=by omega
  rw [←hrs]
  have hrs2:rs<16777216:=by omega
  obtain ⟨X,hX⟩:∃X,X=256^w:=⟨_,rfl⟩
  have hX1:256^(w+1)=X*256:=by rw [Nat.pow_succ,hX]
  have hX2:256^(w+1+1)=X*256*256:=by rw [Nat.pow_succ,hX1]
  obtain ⟨P,hP⟩:∃P,P=num out*X:=⟨_,rfl⟩
  have hP1:num out*(X*256)=P*256:=by rw [←Nat.mul_assoc,hP]
  have hP2:num out*(X*256*256)=P*256*256:=by rw [←Nat.mul_assoc,hP1]
  refine ⟨by simp,by simp only;omega,hk,hsm,?_,by omega,by simp only;omega,?_,hroom'⟩
  ·simp only [Nat.add_sub_cancel]
   have hff:num (List.replicate (w+1) 255)=num (List.replicate w 255)*256+255:=by
    rw [List.replicate_succ',z2p,z3x]
    rfl
   rw [hff,hX2,hX1,hP2,←hval,hX1,hP1,hlow,←hX]
   obtain ⟨Q,hQ⟩:∃Q,Q=kept*X:=⟨_,rfl⟩
   rw [←Nat.mul_assoc kept,←hQ]
   exact ar3 _ _ _ _
  ·simp only
   rw [hX2]
   rw [hX1] at hhi
   have e:(num out+1)*(X*256*256)=(num out+1)*(X*256)*256:=by rw [←Nat.mul_assoc]
   rw [e]
   exact ar4 _ _ _ hhi
theorem z5e (c:Enc):(z0w c).low=c.low%16777216*256∧(z0w c).rng=c.rng:=by
 unfold z0w
 split<;>exact ⟨rfl,rfl⟩
structure Wide (c:Enc) (T k:Nat):Prop where
 st:z0h c T k c.rng
 lo:16777216≤c.rng
 hi:c.rng<4294967296
theorem y4g:Wide enc0 0 0:=⟨y3m,by decide,by decide⟩
def stepT (r T:Nat):Nat:=if r<16777216 then T*256 else T
def stepK (r k:Nat):Nat:=if r<16777216 then k+1 else k
theorem z1t {c:Enc} {T k:Nat} (h:z0h c T k c.rng) (h1:65536≤c.rng) (h2:c.rng<4294967296):Wide (z1n c) (stepT c.rng T) (stepK c.rng k)∧(z1n c).rng=stepT c.rng c.rng:=by
 unfold z1n stepT stepK
 by_cases hr:c.rng<16777216
 ·simp only [if_pos hr]
  have h3:=z1j h c.rng (c.rng*256) (by omega) (Nat.le_refl _)
  have h4:=z2u h3 (by omega)
  have h5:=(z5e { c with rng:=c.rng*256 }).2
  simp only at h5
  exact ⟨⟨by rw [h5];exact h4,by rw [h5];omega,by rw [h5];omega⟩,h5⟩
 ·simp only [if_neg hr]
  exact ⟨⟨h,by omega,h2⟩,trivial⟩
def putT (r T p:Nat) (bit:Bool):Nat:=if bit then T+r/2048*p else T
def putR (r p:Nat) (bit:Bool):Nat:=if bit then r-r/2048*p else r/2048*p
theorem z2t {r p:Nat} (h1:16777216≤r) (hp:31≤p∧p≤2017):253952≤r/2048*p∧r/2048*p+253952≤r:=by
 obtain ⟨q,hq⟩:∃q,q=r/2048:=⟨_,rfl⟩
 rw [←hq]
 have h2:8192≤q:=by omega
 have h3:q*31≤q*p:=Nat.mul_le_mul_left _ hp.1
 have h4:q*p≤q*2017:=Nat.mul_le_mul_left _ hp.2
 have h5:q*2048≤r:=by omega
 omega
theorem z6y {c:Enc} {T k p:Nat} (h:Wide c T k) (hp:31≤p∧p≤2017) (bit:Bool) :
  Wide (putE c p bit) (stepT (putR c.rng p bit) (putT c.rng T p bit)) (stepK (putR c.rng p bit) k)∧(putE c p bit).rng=stepT (putR c.rng p bit) (putR c.rng p bit):=by
 have hs:=z2t h.lo hp
 have hhi:=h.hi
 unfold putE putT putR
 cases bit
 ·simp only [if_neg Bool.false_ne_true]
  exact z1t (c:={ c with rng:=c.rng/2048*p }) (z1j h.st (c.rng/2048*p) (c.rng/2048*p) (by omega) (by omega)) (by simp only;omega) (by simp only;omega)
 ·simp only [if_true]
  exact z1t (c:={ c with low:=c.low+c.rng/2048*p,rng:=c.rng-c.rng/2048*p }) (z4c h.st (c.rng/2048*p) (c.rng-c.rng/2048*p) (c.rng-c.rng/2048*p) (by omega) (by omega)) (by simp only;omega) (by simp only;omega)
def dirT (r T:Nat) (bit:Bool):Nat:=if bit then T+r/2 else T
theorem z6n {c:Enc} {T k:Nat} (h:Wide c T k) (bit:Bool) :
  Wide (dirE c bit) (stepT (c.rng/2) (dirT c.rng T bit)) (stepK (c.rng/2) k)∧(dirE c bit).rng=stepT (c.rng/2) (c.rng/2):=by
 have hlo:=h.lo
 have hhi:=h.hi
 unfold dirE dirT
 cases bit
 ·simp only [if_neg Bool.false_ne_true]
  exact z1t (c:={ c with rng:=c.rng/2 }) (z1j h.st (c.rng/2) (c.rng/2) (by omega) (by omega)) (by simp only;omega) (by simp only;omega)
 ·simp only [if_true]
  exact z1t (c:={ c with low:=c.low+c.rng/2,rng:=c.rng/2 }) (z4c h.st (c.rng/2) (c.rng/2) (c.rng/2) (by omega) (by omega)) (by simp only;omega) (by simp only;omega)
structure Dec where
 code:Nat
 rng:Nat
 at_:Nat
 over:Bool
def y0b (B:List Nat) (d:Dec):Dec :=
 if d.rng<16777216∧d.over=false then (if d.at_=B.length then { d with over:=true } else ⟨(d.code*256+B.getD d.at_ 0)%4294967296,d.rng*256,d.at_+1,d.over⟩) else d
def getD (B:List Nat) (d:Dec) (p:Nat):Bool × Dec :=
 if d.code<d.rng/2048*p then (false,y0b B { d with rng:=d.rng/2048*p }) else (true,y0b B { d with code:=d.code-d.rng/2048*p,rng:=d.rng-d.rng/2048*p })
end Rang
namespace D
open Go.RowKit Rang
theorem qz {p:Prop} (h:p):Hid p:=h
theorem uh {p:Prop} (h:Hid p):p:=h
theorem info3':(Tryz.prog.info? 3).map (fun i=>(i.zero,i.size,i.bytes))=some (some (.int .i64 0),1,8):=by kernel_rfl
theorem z0i {w:World} {p:Addr} {u:Value} (h:w.cell? p=some u):p.block<w.heap.size:=by
 rcases Nat.lt_or_ge p.block w.heap.size with h'|h'
 ·exact h'
 ·simp [World.cell?,Array.getElem?_eq_none h'] at h
def bv (z:Nat):Value:=.int .u8 (z:Int)
theorem info5:(Tryz.prog.info? 5).map (fun i=>(i.zero,i.size,i.bytes))=some (some (.int .u8 0),1,1):=by kernel_rfl
structure StB (w0 w:World) (v:Value) (xs:List Nat):Prop where
 own:w.ownsRow w0.heap.size 5 1 v xs.length (xs.map bv)
 bel:Below w0.heap.size w0 w
theorem z1k {w w':World} {base e size n:Nat} {v:Value} {xs:List Value} (h:w.ownsRow base e size v n xs) (h2:∀g,v.ownBlock=some g→w'.heap[g]?=w.heap[g]?):w'.ownsRow base e size v n xs:=by
 obtain ⟨hl,hr⟩:=h
 refine ⟨hl,?_⟩
 rcases hr with e|⟨g,cap,cur,e,hb,hh,r⟩
 ·exact .inl e
 ·exact .inr ⟨g,cap,cur,e,hb,by rw [h2 g (by rw [e];rfl)];exact hh,r⟩
theorem z6p {l:List Nat} {r:Nat} (h:r<l.length):l.getD r 0∈l:=by
 rw [List.getD_eq_getElem?_getD,List.getElem?_eq_getElem h]
 exact List.getElem_mem h
theorem z0q {B:Nat} {w x:World} (h:Below B w x) (q:Nat):Below B w (x.drewN q):=⟨h.os,h.tape,h.output,h.size,h.block⟩
end D
namespace D
open Go.RowKit Rang
attribute [local go_sem ↓] wp_at_zero wp_at_succ
theorem z0c {w:World} {k:Nat} {o:Obj} (h:w.heap[k]?=some o):k<w.heap.size:=by
 rcases Nat.lt_or_ge k w.heap.size with h'|h'
 ·exact h'
 ·rw [Array.getElem?_eq_none h'] at h;cases h
structure Touch (w w':World) (pb:Nat) (ov ov':Value):Prop where
 os:w'.os=w.os
 tape:w'.tape=w.tape
 output:w'.output=w.output
 size:w.heap.size≤w'.heap.size
 keep:∀k,k<w.heap.size→k≠pb→ov.ownBlock≠some k→w'.heap[k]?=w.heap[k]?
 lies:∀b,ov'.ownBlock=some b→ov.ownBlock=some b∨w.heap.size≤b
theorem Touch.refl (w:World) (pb:Nat) (ov:Value):Touch w w pb ov ov:=⟨rfl,rfl,rfl,Nat.le_refl _,fun _ _ _ _=>rfl,fun b e=>.inl e⟩
theorem Touch.trans {w w1 w2:World} {pb:Nat} {v v1 v2:Value} (h:Touch w w1 pb v v1) (h':Touch w1 w2 pb v1 v2):Touch w w2 pb v v2:=by
 refine ⟨h'.os.trans h.os,h'.tape.trans h.tape,h'.output.trans h.output,Nat.le_trans h.size h'.size,fun k hk h1 h2=>?_,fun b e=>?_⟩
 ·rw [h'.keep k (Nat.lt_of_lt_of_le hk h.size) h1 (fun e=>?_)]
  ·exact h.keep k hk h1 h2
  ·rcases h.lies k e with h3|h3
   ·exact h2 h3
   ·omega
 ·rcases h'.lies b e with h3|h3
  ·exact h.lies b h3
  ·exact .inr (Nat.le_trans h.size h3)
theorem Touch.drewN {w w1:World} {pb:Nat} {v v1:Value} (h:Touch w w1 pb v v1) (q:Nat):Touch w (w1.drewN q) pb v v1:=⟨h.os,h.tape,h.output,h.size,h.keep,h.lies⟩
section
variable {B:Nat} {w:World} {pb:Nat} {chv ov:Value} {c:Enc}
end
theorem y0c {ops:Array Oper} {o:Oper} {a:Act} {K:Act→World→Prop} {Q:Exit→Act→World→Prop} {E:Prop} {ws:World} (hgd:o.guard=none) (s x:Operand)
  (ho:o.op=.call { callee:=.builtin .append,args:=#[s,x],argTypes:=#[32,32] }) (B:Nat) (va:Value) (xs:List Nat) (X:Nat) (hs:a.eval s=va) (hx:a.eval x=.slice (some ⟨ws.heap.size,0,none⟩) 1 1)
  (hA:ws.ownsRow B 5 1 va xs.length (xs.map bv)) (hB:B≤ws.heap.size) (hlen:xs.length+1≤140737488355328)
  (h:∀v' w',w'.ownsRow B 5 1 v' (xs++[X]).length ((xs++[X]).map bv)→(∀k,k<ws.heap.size→va.ownBlock≠some k→w'.heap[k]?=ws.heap[k]?)→ws.heap.size≤w'.heap.size→(w'.os=ws.os∧w'.tape=ws.tape∧w'.output=ws.output)→(∀b,v'.ownBlock=some b→va.ownBlock=some b∨ws.heap.size≤b)→K (a.put o.dst v') w') :
  if Region.wanted o (yielded ops a.tmps)=true then Oper.wp Tryz.prog o a (ws.alloc (.cells #[bv X] 5)) K Q else E:=by
 have hw:Region.wanted o (yielded ops a.tmps)=true:=by simp [Region.wanted,hgd]
 rw [if_pos hw]
 obtain ⟨i0,hi,hz0,hz1,hz2⟩:=info_parts info5
 obtain ⟨v',w',hr',h2,h3,_,h5⟩:=run_append_own_at (P:=Tryz.prog) (ws.alloc (.cells #[bv X] 5)) B 32 o.type 5 i0 (.int .u8 0) 1 1 Tryz.underlying32 hi hz0 hz1 hz2 rfl (by decide) va xs.length (xs.map bv) (hA.alloc _) ⟨ws.heap.size,0,none⟩ 1 1 [bv X] rfl (by
  intro j u hj
  cases j with
  | zero =>
   have e:(⟨ws.heap.size,0,none⟩:Addr).add 0=⟨ws.heap.size,0,none⟩:=by simp [Addr.add]
   rw [e]
   simp only [World.cell?,heap_alloc_new]
   simpa using hj
  | succ j=>simp at hj) (by intro u hu;rw [List.mem_singleton] at hu;subst hu;rfl) (by unfold maxLen;omega) (by omega) (by simp;omega)
 unfold Oper.wp
 simp [execOp,ho,resolve,invoke,builtin,hs,hx,hr',Result.andThen]
 refine h v' w' (by rw [List.length_append,List.map_append];exact h2) (fun k hk hne=>?_) (by have:=h3.size;simp at this;omega) ⟨h3.os,h3.tape,h3.output⟩ (fun b e=>?_)
 ·rw [h3.block k (by simp;omega) (fun e=>hne e.symm),Below.heap_alloc _ _ _ hk]
 ·rcases h5 with h5|h5
  ·exact .inl (by rw [←h5,e])
  ·rw [e] at h5;have:=Option.some.inj h5;simp at this;exact .inr (by omega)
theorem z3h {w:World} {B t n:Nat} {v:Value} {xs:List Value} (h:w.ownsRow B t 1 v n xs):∃a m c,v=.slice a m c:=by
 rcases h.2 with ⟨e,_⟩|⟨g,cap,cur,e,_⟩
 ·exact ⟨_,_,_,e⟩
 ·exact ⟨_,_,_,e⟩
def y4f:Nat→Nat→Nat→List Nat
 | 0,_,_=>[]
 | n+1,k,cy=>(k+cy)%256 :: List.replicate n ((255+cy)%256)
theorem z7x {low rng kept wait:Nat} {out:List Nat} (hc:low<4278190080∨4294967295<low):z0w ⟨low,rng,kept,wait,out⟩=⟨low%16777216*256,rng,low/16777216%256,1,out++y4f wait kept (low/4294967296)⟩:=by
 unfold z0w
 rw [if_pos hc]
 cases wait<;>rfl
end D
namespace D
open Go.RowKit Rang
attribute [local go_sem ↓] wp_at_zero wp_at_succ
theorem z1d {P:Program} {id:Nat} {Q:Exit→Act→World→Prop} {a:Act} {w:World} {l:List Oper} (n:Nat) (hm:P.follows .mixedOrders=true) (hB:Region.lexTailB .any l.toArray n=true)
  (h:wpStill P l.toArray w.drew (fun a'=>wpList P l.toArray Q (l.drop n) a' w.drew) (l.take n) a):(Code.region id l.toArray true).wp P Q a w:=wp_region_still_tail n hm hB h
theorem size_set (w:World) (a:Addr) (v:Value) (q:Nat):((w.drewN q).setCell a v).heap.size=w.heap.size:=by
 rw [World.size_setCell]
 rfl
structure Tch (w w':World) (pb gc cc:Nat) (ov ov':Value):Prop where
 os:w'.os=w.os
 tape:w'.tape=w.tape
 output:w'.output=w.output
 size:w.heap.size≤w'.heap.size
 keep:∀k,k<w.heap.size→k≠pb→k≠gc→ov.ownBlock≠some k→w'.heap[k]?=w.heap[k]?
 lies:∀b,ov'.ownBlock=some b→ov.ownBlock=some b∨w.heap.size≤b
theorem Tch.refl (w:World) (pb gc cc:Nat) (ov:Value):Tch w w pb gc cc ov ov:=⟨rfl,rfl,rfl,Nat.le_refl _,fun _ _ _ _ _=>rfl,fun b e=>.inl e⟩
theorem Touch.wide {w w':World} {pb:Nat} {ov ov':Value} (h:Touch w w' pb ov ov') (gc cc:Nat):Tch w w' pb gc cc ov ov':=⟨h.os,h.tape,h.output,h.size,fun k hk h1 _ h2=>h.keep k hk h1 h2,h.lies⟩
theorem Tch.trans {w w1 w2:World} {pb gc cc:Nat} {v v1 v2:Value} (h:Tch w w1 pb gc cc v v1) (h':Tch w1 w2 pb gc cc v1 v2):Tch w w2 pb gc cc v v2:=by
 refine ⟨h'.os.trans h.os,h'.tape.trans h.tape,h'.output.trans h.output,Nat.le_trans h.size h'.size,fun k hk h1 hg h2=>?_,fun b e=>?_⟩
 ·rw [h'.keep k (Nat.lt_of_lt_of_le hk h.size) h1 hg (fun e=>?_)]
  ·exact h.keep k hk h1 hg h2
  ·rcases h.lies k e with h3|h3
   ·exact h2 h3
   ·omega
 ·rcases h'.lies b e with h3|h3
  ·exact h.lies b h3
  ·exact .inr (Nat.le_trans h.size h3)
theorem Tch.drewN {w w1:World} {pb gc cc:Nat} {v v1:Value} (h:Tch w w1 pb gc cc v v1) (q:Nat):Tch w (w1.drewN q) pb gc cc v v1:=⟨h.os,h.tape,h.output,h.size,h.keep,h.lies⟩
end D
namespace D
open Go.RowKit Rang
attribute [local go_sem ↓] wp_at_zero wp_at_succ
def Chs (ch:List Nat):Prop:=∀p∈ch,31≤p∧p≤2017
theorem Chs.at {ch:List Nat} (h:Chs ch) {i:Nat} (hi:i<ch.length):31≤ch.getD i 0∧ch.getD i 0≤2017:=h _ (z6p hi)
theorem Chs.set {ch:List Nat} (h:Chs ch) {i:Nat} (hi:i<ch.length) (bit:Bool):Chs (ch.set i (after (ch.getD i 0) bit)):=fun p hp=>by
 rcases List.mem_or_eq_of_mem_set hp with h1|h1
 ·exact h p h1
 ·rw [h1];exact y0h (h.at hi) bit
theorem z7g (r k:Nat):stepK r k≤k+1:=by unfold stepK;split<;>omega
def z8m (v:Nat):Nat→Enc→Enc
 | 0,c=>c
 | n+1,c=>z8m v n (dirE c (v.testBit n))
theorem y2j (v i:Nat):((v/2^i:Nat))%2=(v.testBit i).toNat:=by
 rw [Nat.testBit,Nat.shiftRight_eq_div_pow,Nat.and_comm,Nat.and_one_is_mod]
 rcases Nat.mod_two_eq_zero_or_one (v/2^i) with h|h<;>rw [h]<;>rfl
end D
namespace D
open Go.RowKit Rang
attribute [local go_sem ↓] wp_at_zero wp_at_succ
def z1m (base:Nat):Nat→List Bool→Enc × List Nat→Enc × List Nat
 | _,[],s=>s
 | m,b :: bs,s=>z1m base (2*m+b.toNat) bs (putE s.1 (s.2.getD (base+m) 0) b,s.2.set (base+m) (after (s.2.getD (base+m) 0) b))
def z1e (v n:Nat) (high:Bool):List Bool:=(List.range n).map fun i=>v.testBit (if high then n-1-i else i)
theorem z3p (v n:Nat) (high:Bool) (i:Nat) (hi:i<n):(z1e v n high).drop i=v.testBit (if high then n-1-i else i) :: (z1e v n high).drop (i+1):=by
 rw [List.drop_eq_getElem_cons (by simpa [z1e] using hi)]
 congr 1
 simp [z1e]
end D
namespace D
open Go.RowKit Rang
attribute [local go_sem ↓] wp_at_zero wp_at_succ
def shN:Nat→Enc→Enc
 | 0,c=>c
 | n+1,c=>z0w (shN n c)
theorem z4a {c:Enc} {T k:Nat} (h:z0h c T k 1):∀n,z0h (shN n c) (T*256^n) (k+n) 1
 | 0=>by simpa [shN] using h
 | n+1=>by
  have h1:=z4a h n
  have h2:=z1j (z2u h1 (by omega)) 1 (z0w (shN n c)).rng (by omega) (by omega)
  rw [shN,Nat.pow_succ,←Nat.mul_assoc]
  exact h2
end D
namespace D
open Go.RowKit Rang
attribute [local go_sem ↓] wp_at_zero wp_at_succ
theorem z4v (w:World) (n:Nat) (hn:n≤2000000):(Instr.makeSlice 40 (.int .i64 (n:Int)) (.int .i64 (n:Int))).run Tryz.prog w=.ok (.slice (some ⟨w.heap.size,0,none⟩) n n) (w.alloc (.cells ((List.replicate n 0).map fun p:Nat=>Value.int .i64 (p:Int)).toArray 3)):=by
 obtain ⟨i0,hi,hz0,hz1,hz2⟩:=info_parts info3'
 have:=run_make (P:=Tryz.prog) w 40 3 i0 (.int .i64 0) Tryz.underlying40 hi hz0 .i64 .i64 (n:Int) (n:Int) (by omega) (by omega) (by rw [hz2];omega) (by omega)
 rw [hz1] at this
 rw [this]
 congr 3
 apply Array.ext (by simp [madeCells])
 intro k k1 k2
 simp [madeCells,Value.cells,Nat.mod_one]
def z1h (n i:Nat):List Nat:=List.replicate i 1024++List.replicate (n-i) 0
theorem z3r (n i:Nat) (h:i<n):(z1h n i).set i 1024=z1h n (i+1):=by
 unfold z1h
 rw [show n-i=(n-(i+1))+1 by omega,List.replicate_succ,List.set_append_right _ _ (by simp),List.length_replicate,Nat.sub_self,List.set_cons_zero,List.replicate_succ',List.append_assoc]
 rfl
theorem z3q (n i:Nat) (h:i≤n):(z1h n i).length=n:=by simp [z1h];omega
def IntsIn (w:World) (a0:Option Addr) (l:List Int):Prop:=∀j,j<l.length→∃g off,a0=some ⟨g,off,none⟩∧w.cell? ⟨g,off+j,none⟩=some (.int .i64 (l.getD j 0))
end D
namespace D
open Go.RowKit Rang
attribute [local go_sem ↓] wp_at_zero wp_at_succ
def y4m (v n:Int):Prop:=0≤n∧n≤31∧0≤v∧v<2^n.toNat
def MayB (base n N:Int):Prop:=0≤base∧0≤n∧n≤16∧base+2^n.toNat≤N
end D
namespace D
open Go.RowKit Rang
attribute [local go_sem ↓] wp_at_zero wp_at_succ
structure DT (w w':World) (pb gc cc:Nat):Prop where
 os:w'.os=w.os
 tape:w'.tape=w.tape
 output:w'.output=w.output
 size:w'.heap.size=w.heap.size
 keep:∀k,k≠pb→k≠gc→w'.heap[k]?=w.heap[k]?
theorem DT.refl (w:World) (pb gc cc:Nat):DT w w pb gc cc:=⟨rfl,rfl,rfl,rfl,fun _ _ _=>rfl⟩
theorem DT.trans {w w1 w2:World} {pb gc cc:Nat} (h:DT w w1 pb gc cc) (h':DT w1 w2 pb gc cc):DT w w2 pb gc cc:=⟨h'.os.trans h.os,h'.tape.trans h.tape,h'.output.trans h.output,h'.size.trans h.size,fun k a b=>(h'.keep k a b).trans (h.keep k a b)⟩
section
variable {w:World} {pb gc cc:Nat} {ba:Option Addr} {bc:Nat} {Bs:List Nat} {d:Dec} {ch:List Nat}
end
end D
namespace T6
theorem z9i {A B:List Nat} (h:A.length=B.length) (h2:∀i,i<A.length→A.getD i 0=B.getD i 0):A=B:=by
 apply List.ext_getElem h
 intro i h1 h3
 have:=h2 i h1
 simpa [h1,h3] using this
theorem z0o (P:List Nat) (f n i:Nat) (h:i<n):((P.drop f).take n).getD i 0=P.getD (f+i) 0:=by
 simp only [List.getD_eq_getElem?_getD]
 rw [List.getElem?_take,if_pos h,List.getElem?_drop]
end T6
namespace T6
open Go.RowKit
theorem qz {p:Prop} (h:p):Hid p:=h
theorem uh {p:Prop} (h:Hid p):p:=h
def bv (z:Nat):Value:=.int .u8 (z:Int)
def Reads (w:World) (v:Value) (zs:List Nat):Prop :=
 ∃a cap,v=.slice a zs.length cap∧(0<zs.length→∃ad,a=some ad∧∀ (j:Nat) u,(zs.map bv)[j]?=some u→w.cell? (ad.add j)=some u)
theorem z0i {w:World} {p:Addr} {u:Value} (h:w.cell? p=some u):p.block<w.heap.size:=by
 rcases Nat.lt_or_ge p.block w.heap.size with h'|h'
 ·exact h'
 ·simp [World.cell?,Array.getElem?_eq_none h'] at h
theorem z1p {w w1:World} (hb:Below w.heap.size w w1) {p:Addr} {u:Value} (h:w.cell? p=some u):w1.cell? p=some u:=by
 rw [hb.cell (z0i h)];exact h
theorem Reads.stays {w w1:World} (hb:Below w.heap.size w w1) {v:Value} {zs:List Nat} (h:Reads w v zs):Reads w1 v zs:=by
 obtain ⟨a,cap,rfl,hs⟩:=h
 refine ⟨a,cap,rfl,fun h0=>?_⟩
 obtain ⟨ad,rfl,h2⟩:=hs h0
 exact ⟨ad,rfl,fun j u hj=>z1p hb (h2 j u hj)⟩
theorem z3c (w:World) (a:Option Addr) (cap:Nat):(convert 32 9 (.slice a 0 cap)).run Tryz.prog w=.ok (.string ⟨#[]⟩) w:=by
 rw [run_convert_bytes_string w 32 9 5 a 0 cap Tryz.underlying32 Tryz.underlying5 Tryz.underlying9]
 cases a<;>simp [Conv.bytesToString,loadCells]<;>rfl
theorem z0u {w:World} {v:Value} {zs:List Nat} (h:Reads w v zs) (hs:∀z∈zs,z<256):(convert 32 9 v).run Tryz.prog w=.ok (.string ⟨(zs.map UInt8.ofNat).toArray⟩) w:=by
 by_cases h0:zs.length=0
 ·obtain ⟨a,cap,rfl,_⟩:=h
  obtain rfl:zs=[]:=List.eq_nil_of_length_eq_zero h0
  exact z3c w a cap
 ·obtain ⟨a,cap,rfl,hc⟩:=h
  obtain ⟨ad,rfl,hc2⟩:=hc (by omega)
  have:=run_convert_bytes_back w 32 9 5 ad cap (zs.map UInt8.ofNat) Tryz.underlying32 Tryz.underlying5 Tryz.underlying9 (by
   intro j hj
   simp at hj
   have hzj:=hs zs[j] (List.getElem_mem hj)
   rw [hc2 j (bv zs[j]) (by simp [hj])]
   simp [bv,Nat.mod_eq_of_lt hzj])
  simpa using this
theorem z0c {w:World} {k:Nat} {o:Obj} (h:w.heap[k]?=some o):k<w.heap.size:=by
 rcases Nat.lt_or_ge k w.heap.size with h'|h'
 ·exact h'
 ·rw [Array.getElem?_eq_none h'] at h;cases h
end T6
namespace T6
open Go.RowKit
def z0f (B:Nat) (w:World) (v:Value) (zs:List Nat):Prop :=
 ∃a cap,v=.slice a zs.length cap∧zs.length≤cap∧(0<zs.length→∃b off,a=some ⟨b,off,none⟩∧b<B∧∀j,j<zs.length→w.cell? ⟨b,off+j,none⟩=some (.int .u8 (zs.getD j 0:Int)))
theorem cell_below {B:Nat} {w w1:World} (hb:Below B w w1) {p:Addr} {u:Value} (h:w.cell? p=some u) (hp:p.block<B):w1.cell? p=some u:=by
 rw [World.cell?_of_block (hb.block _ hp)];exact h
theorem z0f.stays {B:Nat} {w w1:World} {v:Value} {zs:List Nat} (h:z0f B w v zs) (hb:Below B w w1):z0f B w1 v zs:=by
 obtain ⟨a,cap,rfl,hc,hs⟩:=h
 refine ⟨a,cap,rfl,hc,fun h0=>?_⟩
 obtain ⟨b,off,rfl,h1,h2⟩:=hs h0
 exact ⟨b,off,rfl,h1,fun j hj=>cell_below hb (h2 j hj) h1⟩
theorem z0f.reads {B:Nat} {w:World} {v:Value} {zs:List Nat} (h:z0f B w v zs):Reads w v zs:=by
 obtain ⟨a,cap,rfl,hc,hs⟩:=h
 refine ⟨a,cap,rfl,fun h0=>?_⟩
 obtain ⟨b,off,rfl,h1,h2⟩:=hs h0
 refine ⟨_,rfl,fun j u hj=>?_⟩
 have hl:j<zs.length:=by
  rcases Nat.lt_or_ge j zs.length with h|h
  ·exact h
  ·rw [List.getElem?_eq_none (by simpa using h)] at hj;cases hj
 have e:(⟨b,off,none⟩:Addr).add j=⟨b,off+j,none⟩:=by by_cases hq:j=0<;>simp [Addr.add,hq]
 rw [e,h2 j hl]
 simpa [bv,hl] using hj
end T6
namespace T6
open Go.RowKit
attribute [local go_sem ↓] wp_at_zero wp_at_succ
end T6
namespace T6
open Go.RowKit
attribute [local go_sem ↓] wp_at_zero wp_at_succ
theorem z1i {a b x:Nat} {A B:Int} (hA:A=(a:Int)) (hB:B=(b:Int)) (h:x=min a b) (w:World):(Builtin.min_ #[3,3] 3 #[.int .i64 A,.int .i64 B]).run Tryz.prog w=.ok (.int .i64 (x:Int)) w:=by
 rw [run_min_int2,hA,hB]
 congr 2
 split<;>omega
end T6
namespace T6
open Go.RowKit
attribute [local go_sem ↓] wp_at_zero wp_at_succ
def Eqs (z:Nat→Nat) (p d n:Nat):Prop:=∀i,i<n→z (p+i)=z (p+i-d)
theorem Eqs.mono {z:Nat→Nat} {p d n k:Nat} (h:Eqs z p d n) (hk:k≤n):Eqs z p d k:=fun i hi=>h i (by omega)
structure IsBest (z:Nat→Nat) (p w m n d:Nat):Prop where
 le:n≤m
 one:(n=0∧d=0)∨(1≤n∧1≤d∧d≤w∧Eqs z p d n∧∀d',1≤d'→d'<d→¬Eqs z p d' n)
 max:n<m→∀d',1≤d'→d'≤w→¬Eqs z p d' (n+1)
theorem IsBest.len {z:Nat→Nat} {p w m n d n' d':Nat} (h:IsBest z p w m n d) (h':IsBest z p w m n' d'):n'≤n:=by
 refine Classical.byContradiction fun hc=>?_
 rcases h'.one with ⟨e,_⟩|⟨h1,h2,h3,h4,_⟩
 ·omega
 ·exact h.max (by have:=h'.le;omega) d' h2 h3 (h4.mono (by omega))
theorem IsBest.eq {z:Nat→Nat} {p w m n d n' d':Nat} (h:IsBest z p w m n d) (h':IsBest z p w m n' d'):n=n'∧d=d':=by
 have e:n=n':=Nat.le_antisymm (h'.len h) (h.len h')
 subst e
 refine ⟨rfl,?_⟩
 rcases h.one with ⟨e,e1⟩|⟨h1,h2,h3,h4,h5⟩<;>rcases h'.one with ⟨e',e1'⟩|⟨k1,k2,k3,k4,k5⟩
 ·omega
 ·omega
 ·omega
 ·rcases Nat.lt_trichotomy d d' with hl|e|hl
  ·exact absurd h4 (k5 d h2 hl)
  ·exact e
  ·exact absurd k4 (h5 d' k2 hl)
theorem IsBest.shift {z z':Nat→Nat} {p f w m n d:Nat} (h:IsBest z' p w m n d) (hw:w≤p) (hz:∀i,i<p+m→z' i=z (f+i)):IsBest z (f+p) w m n d:=by
 have key:∀d' k,1≤d'→d'≤w→k≤m→(Eqs z' p d' k↔Eqs z (f+p) d' k):=fun d' k h1 h2 h3=>by
  constructor
  ·intro he i hi
   have:=he i hi
   rw [hz _ (by omega),hz _ (by omega)] at this
   rw [show f+p+i=f+(p+i) by omega,show f+(p+i)-d'=f+(p+i-d') by omega]
   exact this
  ·intro he i hi
   have:=he i hi
   rw [hz _ (by omega),hz _ (by omega)]
   rw [show f+p+i=f+(p+i) by omega,show f+(p+i)-d'=f+(p+i-d') by omega] at this
   exact this
 refine ⟨h.le,?_,fun hl d' h1 h2 he=>h.max hl d' h1 h2 ((key d' (n+1) h1 h2 (by omega)).2 he)⟩
 rcases h.one with e|⟨h1,h2,h3,h4,h5⟩
 ·exact .inl e
 ·exact .inr ⟨h1,h2,h3,(key d n h2 h3 h.le).1 h4,fun d' k1 k2 he=>h5 d' k1 k2 ((key d' n k1 (by omega) h.le).2 he)⟩
theorem z0f.sub {B:Nat} {w:World} {a:Option Addr} {cap:Nat} {zs:List Nat} (h:z0f B w (.slice a zs.length cap) zs) {b off:Nat} (ha:a=some ⟨b,off,none⟩) (f k c:Nat) (hk:f+k≤zs.length) (hc:k≤c):z0f B w (.slice (some ⟨b,off+f,none⟩) k c) ((zs.drop f).take k):=by
 obtain ⟨a',cap',e,_,hs⟩:=h
 injection e with e1 e2 e3
 subst e1 e3
 subst ha
 have hl:((zs.drop f).take k).length=k:=by simp;omega
 refine ⟨_,c,by rw [hl],by rw [hl];exact hc,fun h0=>?_⟩
 rw [hl] at h0 ⊢
 obtain ⟨b',off',e,hb,hcell⟩:=hs (by omega)
 injection e with e
 injection e with e1 e2
 subst e1 e2
 refine ⟨b,off+f,rfl,hb,fun j hj=>?_⟩
 rw [z0o _ _ _ _ hj,Nat.add_assoc]
 exact hcell (f+j) (by omega)
theorem z0f.none {B:Nat} (w:World) (a:Option Addr) (c:Nat) (l:List Nat) (h:l=[]):z0f B w (.slice a 0 c) l:=by
 subst h
 exact ⟨a,c,rfl,Nat.zero_le _,fun h0=>by simp at h0⟩
theorem look_ok (zs:List Nat) (a:Option Addr) (cap B p W M:Nat) (w:World) (hr:z0f B w (.slice a zs.length cap) zs) (hcap:zs.length≤cap) (hp:p≤zs.length) (hl:zs.length≤140737488355328) (hW:W≤9223372036854775807) (hM:M≤9223372036854775807) :
  Calls Tryz.prog 139 #[.slice a zs.length cap,.int .i64 (p:Int),.int .i64 (W:Int),.int .i64 (M:Int)] w fun e w'=>∃a',e=.returned (.tuple #[.slice a' (min p W+min M (zs.length-p)) (min p W+min M (zs.length-p)),.int .i64 ((min p W:Nat):Int)])∧z0f B w (.slice a' (min p W+min M (zs.length-p)) (min p W+min M (zs.length-p))) ((zs.drop (p-min p W)).take (min p W+min M (zs.length-p)))∧w'=w:=by
 have HR:=qz hr
 clear hr
 obtain ⟨n,hn⟩:∃n,n=zs.length:=⟨_,rfl⟩
 rw [←hn] at HR hp hl hcap ⊢
 have HN:=qz hn
 clear hn
 obtain ⟨u,hu⟩:∃u,u=min p W:=⟨_,rfl⟩
 obtain ⟨t,ht⟩:∃t,t=min M (n-p):=⟨_,rfl⟩
 rw [←hu,←ht]
 have m1:=z1i (A:=(p:Int)) (B:=(W:Int)) rfl rfl hu
 have m2:=z1i (A:=(M:Int)) (B:=(n:Int)-(p:Int)) rfl (by omega) ht
 obtain ⟨f,hf⟩:∃f:Nat,(p:Int)-(u:Int)=(f:Int):=⟨p-u,by omega⟩
 obtain ⟨e,he⟩:∃e:Nat,(p:Int)+(t:Int)=(e:Int):=⟨p+t,by omega⟩
 have hpf:(p:Int)-(f:Int)=(u:Int):=by omega
 have hfe:f≤e:=by omega
 have hec:e≤cap:=by omega
 have hef:e-f=u+t:=by omega
 have hpu:p-u=f:=by omega
 have hen:e≤n:=by omega
 have HF:Hid (f=p-u):=qz (by omega)
 rw [hpu]
 have HEF:=qz hef
 have hfe2:f≤e∧e≤cap:=⟨hfe,hec⟩
 clear hu ht hef hpu
 obtain ⟨T,hT⟩:∃T,T=u+t:=⟨_,rfl⟩
 have hTe:e-f=T:=by rw [hT];exact uh HEF
 rw [←hT]
 clear hT
 by_cases h0:T=0
 ·subst h0
  have hfe3:e=f:=by omega
  have HRD:Hid (z0f B w (.slice a 0 0) ((zs.drop f).take 0)):=qz (z0f.none w a 0 _ (by simp))
  go_enter Tryz.func139,Tryz.ntmps139
  go_wp2_with fail
  go_ret2
  exact ⟨a,rfl,uh HRD,rfl⟩
 ·have hT0:0<T:=by omega
  obtain ⟨b,off,rfl⟩:∃b off,a=some ⟨b,off,none⟩:=by
   obtain ⟨a',cap',e',_,hs⟩:=uh HR
   injection e' with e1 e2 e3
   subst e1
   obtain ⟨b,off,e,_⟩:=hs (by rw [←uh HN];omega)
   exact ⟨b,off,e⟩
  have HRD:Hid (z0f B w (.slice (some ⟨b,off+f,none⟩) T T) ((zs.drop f).take T)):=qz (by
   have h1:=uh HR
   rw [uh HN] at h1
   exact h1.sub rfl f T T (by rw [←uh HN];omega) (Nat.le_refl _))
  go_enter Tryz.func139,Tryz.ntmps139
  go_wp2_with fail
  go_ret2
  exact ⟨_,rfl,uh HRD,rfl⟩
structure IsCommon (xs ys:List Nat) (n:Nat):Prop where
 l1:n≤xs.length
 l2:n≤ys.length
 eq:∀i,i<n→xs.getD i 0=ys.getD i 0
 ne:n<xs.length→n<ys.length→xs.getD n 0≠ys.getD n 0
theorem z5q (xs ys:List Nat) (a b:Option Addr) (ca cb B B':Nat) (w:World) (h1:z0f B w (.slice a xs.length ca) xs) (h2:z0f B' w (.slice b ys.length cb) ys) (hl:xs.length≤140737488355328) :
  Calls Tryz.prog 160 #[.slice a xs.length ca,.slice b ys.length cb] w fun e w'=>∃n:Nat,e=.returned (.int .i64 (n:Int))∧IsCommon xs ys n∧∃q,w'=w.drewN q:=by
 have H1:=qz h1
 have H2:=qz h2
 clear h1 h2
 obtain ⟨n,hn⟩:∃n,n=xs.length:=⟨_,rfl⟩
 obtain ⟨m,hm⟩:∃m,m=ys.length:=⟨_,rfl⟩
 rw [←hn] at H1 hl ⊢
 rw [←hm] at H2 ⊢
 have HN:=qz hn
 have HM:=qz hm
 clear hn hm
 go_enter Tryz.func160,Tryz.ntmps160
 go_wp2_with fail
 go_loopg [5] n (fun gk d ws=>∃ (k q:Nat),gk=n-k∧k≤n∧k≤m∧Hid (∀i,i<k→xs.getD i 0=ys.getD i 0)∧d=.int .i64 (k:Int)∧ws=w.drewN q)
 case atStart=>exact ⟨0,0,by omega,by omega,by omega,qz fun i h=>by omega,rfl,rfl⟩
 case round =>
  obtain ⟨k,q,rfl,hk,hkm,hgood,rfl,rfl⟩:=hrel
  have HEND:Hid ((k<n→k<m→xs.getD k 0≠ys.getD k 0)→IsCommon xs ys k):=qz fun h=>⟨by rw [←uh HN];exact hk,by rw [←uh HM];exact hkm,uh hgood,by rw [←uh HN,←uh HM];exact h⟩
  by_cases hlt:k<n
  ·have hki:(k:Int)<(n:Int):=by omega
   by_cases hltm:k<m
   ·have hkj:(k:Int)<(m:Int):=by omega
    obtain ⟨a',c',e,_,hs⟩:=uh H1
    injection e with e1 e2 e3
    subst e1 e3
    clear e2
    obtain ⟨b1,off1,rfl,_,hcell1⟩:=hs (by rw [←uh HN];omega)
    obtain ⟨a',c',e,_,hs2⟩:=uh H2
    injection e with e1 e2 e3
    subst e1 e3
    clear e2
    obtain ⟨b2,off2,rfl,_,hcell2⟩:=hs2 (by rw [←uh HM];omega)
    have k1:=hcell1 k (by rw [←uh HN];exact hlt)
    have k2:=hcell2 k (by rw [←uh HM];exact hltm)
    obtain ⟨x,hx⟩:∃x,x=xs.getD k 0:=⟨_,rfl⟩
    obtain ⟨y,hy⟩:∃y,y=ys.getD k 0:=⟨_,rfl⟩
    rw [←hx] at k1 HEND
    rw [←hy] at k2 HEND
    by_cases hxy:x=y
    ·have HG:Hid (∀i,i<k+1→xs.getD i 0=ys.getD i 0):=qz fun i hi=>by
      by_cases e:i=k
      ·rw [e,←hx,←hy];exact hxy
      ·exact uh hgood i (by omega)
     have e1:((x:Int) == (y:Int))=true:=by simp [hxy]
     have e1':(x == y)=true:=by simp [hxy]
     clear hcell1 hcell2 hx hy hgood hs hs2 hxy HEND
     go_wp2_with fail
     go_quiet (fail)
     go_wp2_with fail
     go_roundg (n-(k+1))
     case measure=>omega
     case rel=>exact ⟨k+1,q+nq,rfl,by omega,by omega,HG,by go_num,by first|rfl|(rw [World.drewN_drewN])⟩
    ·have e1:((x:Int) == (y:Int))=false:=by simp;omega
     have e1':(x == y)=false:=by simp [hxy]
     have HE:=qz (uh HEND fun _ _=>hxy)
     clear hcell1 hcell2 hx hy hgood hs hs2 hxy HEND
     go_wp2_with fail
     go_quiet (fail)
     go_wp2_with fail
     go_ret
     exact ⟨k,rfl,uh HE,q+nq,by first|rfl|(rw [World.drewN_drewN])⟩
   ·have hkj:¬ (k:Int)<(m:Int):=by omega
    have HE:=qz (uh HEND fun _ h=>by omega)
    clear HEND hgood
    go_wp2_with fail
    go_quiet (fail)
    go_wp2_with fail
    go_ret
    exact ⟨k,rfl,uh HE,q+nq,by first|rfl|(rw [World.drewN_drewN])⟩
  ·have hki:¬ (k:Int)<(n:Int):=by omega
   have HE:=qz (uh HEND fun h=>by omega)
   clear HEND hgood
   go_wp2_with fail
   go_quiet (fail)
   go_wp2_with fail
   go_ret
   exact ⟨k,rfl,uh HE,q+nq,by first|rfl|(rw [World.drewN_drewN])⟩
theorem z8l (xs ys:List Nat) (v u:Value) (B B':Nat) (w:World) (h1:z0f B w v xs) (h2:z0f B' w u ys) (hl:xs.length≤140737488355328) :
  Calls Tryz.prog 160 #[v,u] w fun e w'=>∃n:Nat,e=.returned (.int .i64 (n:Int))∧IsCommon xs ys n∧∃q,w'=w.drewN q:=by
 obtain ⟨a,ca,rfl,hs1⟩:=id h1
 obtain ⟨b,cb,rfl,hs2⟩:=id h2
 exact z5q xs ys a b ca cb B B' w h1 h2 hl
end T6
namespace T6
open Go.RowKit Go.Lib
attribute [local go_sem ↓] wp_at_zero wp_at_succ
theorem z7d (s:ByteArray) (K:Nat) (hK:K<s.size) {h:Int} (hh:h=RK.H (s.data.toList.drop (K+1)).reverse%4294967296) :
  (h*16777619%4294967296+((s[K]).toNat:Int)%4294967296)%4294967296=RK.H (s.data.toList.drop K).reverse%4294967296:=LastIndex.hashrev_step s (K+1) (by omega) (by omega) hh
theorem z7p (b o c:Nat) (sep:ByteArray) (hs:sep.size≤140737488355328) (w:World) (hc:Lib.Bytes w b o sep) :
  Calls Tryz.prog 192 #[.slice (some ⟨b,o,none⟩) sep.size c] w fun e w'=>e=.returned (.tuple #[.int .u32 (RK.H sep.data.toList.reverse%4294967296),.int .u32 (16777619^sep.size%4294967296)])∧w'=w:=by
 have HC:=qz hc
 clear hc
 obtain ⟨n,hn⟩:∃n,n=sep.size:=⟨_,rfl⟩
 rw [←hn] at hs ⊢
 have HN:=qz hn
 clear hn
 go_enter Tryz.func192,Tryz.ntmps192
 go_wp2_with fail
 go_loopg [4,5] n (fun gk vh vi ws=>∃ (k:Nat) (h:Int),k=gk∧k≤n∧vi=.int .i64 ((k:Int)-1)∧vh=.int .u32 h∧Hid (h=RK.H (sep.data.toList.drop k).reverse%4294967296)∧w=ws)
 case atStart=>exact ⟨n,0,rfl,Nat.le_refl _,rfl,rfl,qz (by rw [List.drop_of_length_le (by rw [uh HN];simp)];rfl),rfl⟩
 case round =>
  obtain ⟨k,h,rfl,hk,rfl,rfl,hh,rfl⟩:=hrel
  by_cases hk1:1≤k
  ·obtain ⟨K,hK⟩:∃K:Nat,(k:Int)-1=(K:Int):=⟨k-1,by omega⟩
   have hK0:K<sep.size:=by rw [←uh HN];omega
   have c1:=uh HC K hK0
   have HST:=qz (z7d sep K hK0 (h:=h) (by have:=uh hh;rw [show k=K+1 by omega] at this;exact this))
   have hKn:K<n:=by omega
   clear hh
   go_wp2_with fail
   go_roundg K
   case measure=>omega
   case rel=>exact ⟨K,_,rfl,by omega,rfl,rfl,HST,rfl⟩
  ·obtain rfl:k=0:=by omega
   have HH:Hid (h=RK.H sep.data.toList.reverse%4294967296):=qz (by have:=uh hh;rwa [List.drop_zero] at this)
   clear hh
   go_wp2_with fail
   go_loopg [6,7,8] n (fun gk vp vq vi ws=>∃ (i:Nat) (pw sq:Int),i=gk∧vi=.int .i64 (i:Int)∧vp=.int .u32 pw∧vq=.int .u32 sq∧0≤pw∧pw<4294967296∧i≤n∧Hid (RK.PowInv sep.size i pw sq)∧w=ws)
   case atStart=>exact ⟨n,1,16777619,rfl,rfl,rfl,rfl,by omega,by omega,Nat.le_refl _,qz (by rw [uh HN];exact RK.pow_start _),rfl⟩
   case round =>
    obtain ⟨i,pw,sq,rfl,rfl,rfl,rfl,p0,p1,hi,hinv,rfl⟩:=hrel
    have ea:=and_one i (by omega)
    by_cases hi0:0<i
    ·have hii:(0:Int)<(i:Int):=by omega
     obtain ⟨i2,hi2⟩:∃i2,i2=i/2:=⟨_,rfl⟩
     by_cases hodd:i%2=1
     ·have ht:((i:Int)%2 != 0)=true:=by simp;omega
      have HPW:=qz (RK.pow_odd (uh hinv) hodd)
      rw [←hi2] at HPW
      have hi2b:i2<i:=by omega
      have HI2:=qz hi2
      clear hinv hi2
      go_wp2_with fail
      go_roundg i2
      case measure=>omega
      case rel=>exact ⟨i2,_,_,rfl,by rw [uh HI2];first|rfl|(congr 1;omega),rfl,rfl,by omega,by omega,by omega,HPW,rfl⟩
     ·have ht:((i:Int)%2 != 0)=false:=by simp;omega
      have HPW:=qz (RK.pow_even (uh hinv) (show i%2=0 by omega))
      rw [←hi2] at HPW
      have hi2b:i2<i:=by omega
      have HI2:=qz hi2
      clear hinv hi2
      go_wp2_with fail
      go_roundg i2
      case measure=>omega
      case rel=>exact ⟨i2,_,_,rfl,by rw [uh HI2];first|rfl|(congr 1;omega),rfl,rfl,p0,p1,by omega,HPW,rfl⟩
    ·obtain rfl:i=0:=by omega
     have e2:=RK.pow_end (uh hinv) p0 p1
     have HE:Hid (pw=16777619^n%4294967296):=qz (by rw [uh HN];exact e2)
     clear hinv e2
     go_wp2_with fail
     go_ret2
     rw [uh HH,uh HE]
     exact ⟨rfl,rfl⟩
def z0h (zs ys:List Nat) (j:Nat):Prop:=∀i,i<ys.length→zs.getD (j+i) 0=ys.getD i 0
def z0k (zs ys:List Nat) (k:Nat) (r:Int):Prop:=(r = -1∧∀j,j<k→¬z0h zs ys j)∨∃j:Nat,r=(j:Int)∧j<k∧z0h zs ys j∧∀j',j<j'→j'<k→¬z0h zs ys j'
theorem z0k.step {zs ys:List Nat} {k:Nat} {r:Int} (h:z0k zs ys k r) (hn:¬z0h zs ys k):z0k zs ys (k+1) r:=by
 rcases h with ⟨h1,h2⟩|⟨j,h1,h2,h3,h4⟩
 ·exact .inl ⟨h1,fun j hj=>by by_cases e:j=k;(subst e;exact hn);exact h2 j (by omega)⟩
 ·exact .inr ⟨j,h1,by omega,h3,fun j' a b=>by by_cases e:j'=k;(subst e;exact hn);exact h4 j' a (by omega)⟩
theorem z0k.hit {zs ys:List Nat} {k:Nat} (h:z0h zs ys k):z0k zs ys (k+1) (k:Int):=.inr ⟨k,rfl,by omega,h,fun j' a b=>by omega⟩
theorem z0k.up {zs ys:List Nat} {j m:Nat} {r:Int} (h:z0k zs ys j r) (hj:j≤m) (hn:∀i,j≤i→i<m→¬z0h zs ys i):z0k zs ys m r:=by
 rcases h with ⟨h1,h2⟩|⟨i,h1,h2,h3,h4⟩
 ·exact .inl ⟨h1,fun x hx=>by by_cases e:x<j;exact h2 x e;exact hn x (by omega) hx⟩
 ·exact .inr ⟨i,h1,by omega,h3,fun x a b=>by by_cases e:x<j;exact h4 x a e;exact hn x (by omega) b⟩
theorem z5w (zs:List Nat) (a:Option Addr) (cap B x:Nat) (w:World) (hr:z0f B w (.slice a zs.length cap) zs) (hl:zs.length≤140737488355328) :
  Calls Tryz.prog 184 #[.slice a zs.length cap,.int .u8 (x:Int)] w fun e w'=>∃r:Int,e=.returned (.int .i64 r)∧z0k zs [x] zs.length r∧w'=w:=by
 have HR:=qz hr
 clear hr
 obtain ⟨n,hn⟩:∃n,n=zs.length:=⟨_,rfl⟩
 rw [←hn] at HR hl ⊢
 have HN:=qz hn
 clear hn
 go_enter Tryz.func184,Tryz.ntmps184
 go_wp2_with fail
 go_loopg [5] n (fun gk vi ws=>∃ (k:Nat),k=gk∧k≤n∧vi=.int .i64 ((k:Int)-1)∧Hid (∀j,k≤j→j<n→¬z0h zs [x] j)∧w=ws)
 case atStart=>exact ⟨n,rfl,Nat.le_refl _,rfl,qz fun j a b=>by omega,rfl⟩
 case round =>
  obtain ⟨k,rfl,hk,rfl,hno,rfl⟩:=hrel
  by_cases hk1:1≤k
  ·obtain ⟨K,hK⟩:∃K:Nat,(k:Int)-1=(K:Int):=⟨k-1,by omega⟩
   have hKn:K<n:=by omega
   have hkK:k=K+1:=by omega
   obtain ⟨a',c',e,_,hs⟩:=uh HR
   injection e with e1 e2 e3
   subst e1 e3
   clear e2
   obtain ⟨b,off,rfl,_,hcell⟩:=hs (by rw [←uh HN];omega)
   have c1:=hcell K (by rw [←uh HN];exact hKn)
   obtain ⟨y,hy⟩:∃y,y=zs.getD K 0:=⟨_,rfl⟩
   rw [←hy] at c1
   have HST:Hid (z0h zs [x] K↔y=x):=qz (by
    constructor
    ·intro h
     have:=h 0 (by simp)
     rw [Nat.add_zero,←hy] at this
     simpa using this
    ·intro h i hi
     have:i=0:=by simpa using hi
     subst this
     rw [Nat.add_zero,←hy,h]
     rfl)
   have HKK:=qz hkK
   clear hcell hs hy hkK
   by_cases hxy:y=x
   ·have HE:=qz ((z0k.hit ((uh HST).2 hxy)).up (m:=n) (by omega) (fun i a b=>uh hno i (by have:=uh HKK;omega) b))
    have e1:((y:Int) == (x:Int))=true:=by simp [hxy]
    have e1':(y == x)=true:=by simp [hxy]
    clear hno HST hxy
    go_wp2_with fail
    go_ret
    exact ⟨_,rfl,by rw [hK];exact uh HE,rfl⟩
   ·have HG:Hid (∀j,K≤j→j<n→¬z0h zs [x] j):=qz fun j a b=>by
     by_cases e:j=K
     ·subst e;exact fun h=>hxy ((uh HST).1 h)
     ·exact uh hno j (by have:=uh HKK;omega) b
    have e1:((y:Int) == (x:Int))=false:=by simp;omega
    have e1':(y == x)=false:=by simp [hxy]
    clear hno HST hxy
    go_wp2_with fail
    go_roundg K
    case measure=>have:=uh HKK;omega
    case rel=>exact ⟨K,rfl,by omega,rfl,HG,rfl⟩
  ·obtain rfl:k=0:=by omega
   have HE:Hid (z0k zs [x] n (-1)):=qz (.inl ⟨rfl,fun j hj=>uh hno j (Nat.zero_le _) hj⟩)
   clear hno
   go_wp2_with fail
   go_ret
   exact ⟨_,rfl,uh HE,rfl⟩
def sb (zs:List Nat):ByteArray:=⟨(zs.map UInt8.ofNat).toArray⟩
theorem z1s (zs:List Nat):(sb zs).size=zs.length:=by simp [sb,ByteArray.size]
theorem z6d (zs:List Nat):(sb zs).data.toList=zs.map UInt8.ofNat:=by simp [sb]
theorem z9x {zs:List Nat} (hs:∀z∈zs,z<256) (i:Nat) (h:i<(sb zs).size):((sb zs)[i]).toNat=zs.getD i 0:=by
 have hl:i<zs.length:=by rw [z1s] at h;exact h
 have h1:(sb zs)[i]=UInt8.ofNat zs[i]:=by
  show (sb zs).data[i]=_
  simp [sb]
 rw [h1]
 have h2:=hs zs[i] (List.getElem_mem hl)
 simp [hl,Nat.mod_eq_of_lt h2]
theorem z9y {a b:List Nat} (ha:∀z∈a,z<256) (hb:∀z∈b,z<256) (h:sb a=sb b):a=b:=by
 have hl:a.length=b.length:=by rw [←z1s,←z1s,h]
 refine z9i hl fun i hi=>?_
 have h1:=z9x ha i (by rw [z1s];exact hi)
 have h2:=z9x hb i (by rw [z1s];omega)
 rw [←h1,←h2]
 congr 1
 simp only [h]
theorem z7e {B:Nat} {w:World} {a:Option Addr} {cap:Nat} {zs:List Nat} (h:z0f B w (.slice a zs.length cap) zs) (hs:∀z∈zs,z<256) (h0:0<zs.length):∃b off,a=some ⟨b,off,none⟩∧Lib.Bytes w b off (sb zs):=by
 obtain ⟨a',c',e,_,hc⟩:=h
 injection e with e1 e2 e3
 subst e1
 obtain ⟨b,off,rfl,_,hcell⟩:=hc h0
 refine ⟨b,off,rfl,fun i hi=>?_⟩
 rw [z9x hs i hi]
 exact hcell i (by rw [z1s] at hi;exact hi)
theorem z1y {zs ys:List Nat} {j:Nat} (hj:j+ys.length≤zs.length):z0h zs ys j↔(zs.drop j).take ys.length=ys:=by
 constructor
 ·intro h
  refine z9i (by simp;omega) fun i hi=>?_
  have hi':i<ys.length:=by simp at hi;omega
  rw [z0o _ _ _ _ hi']
  exact h i hi'
 ·intro h i hi
  rw [←z0o zs j ys.length i hi,h]
theorem z6e {zs ys:List Nat} {j:Nat} (hj:j+ys.length≤zs.length) (h:z0h zs ys j):RK.win (sb zs).data.toList j ys.length=(sb ys).data.toList:=by
 rw [z6d,z6d]
 unfold RK.win
 rw [←List.map_drop,←List.map_take,(z1y hj).1 h]
end T6
namespace T6
open Go.RowKit Go.Lib
attribute [local go_sem ↓] wp_at_zero wp_at_succ
theorem z4f {B:Nat} {w:World} {v:Value} {zs:List Nat} (h:z0f B w v zs) (hs:∀z∈zs,z<256) (q:Nat):(convert 32 9 v).run Tryz.prog (w.drewN q)=.ok (.string (sb zs)) (w.drewN q):=z0u (h.reads.stays ⟨rfl,rfl,rfl,Nat.le_refl _,fun _ _=>rfl⟩) hs
theorem z9b (zs ys:List Nat) (b off c b2 off2 c2 B:Nat) (w:World) (hr:z0f B w (.slice (some ⟨b,off,none⟩) zs.length c) zs) (hr2:z0f B w (.slice (some ⟨b2,off2,none⟩) ys.length c2) ys) (hz:∀z∈zs,z<256) (hy:∀z∈ys,z<256)
  (h1:1≤ys.length) (h2:ys.length<zs.length) (hl:zs.length≤140737488355328) (hcap:zs.length≤c) :
  Calls Tryz.prog 185 #[.slice (some ⟨b,off,none⟩) zs.length c,.slice (some ⟨b2,off2,none⟩) ys.length c2] w fun e w'=>∃r:Int,e=.returned (.int .i64 r)∧z0k zs ys (zs.length-ys.length+1) r∧∃q,w'=w.drewN q:=by
 obtain ⟨_,_,e1,hB1⟩:=z7e hr hz (by omega)
 injection e1 with e1
 injection e1 with e1 e1'
 subst e1 e1'
 obtain ⟨_,_,e2,hB2⟩:=z7e hr2 hy (by omega)
 injection e2 with e2
 injection e2 with e2 e2'
 subst e2 e2'
 have HC:=qz (z7p b2 off2 c2 (sb ys) (by rw [z1s];omega) w hB2)
 rw [z1s] at HC
 obtain ⟨hh,Hh⟩:∃hh:Int,hh=RK.H (sb ys).data.toList.reverse%4294967296:=⟨_,rfl⟩
 obtain ⟨pw,Hp⟩:∃pw:Int,pw=16777619^ys.length%4294967296:=⟨_,rfl⟩
 rw [←Hh,←Hp] at HC
 have HH:=qz Hh
 have HP:=qz Hp
 have HBY:=qz hB1
 have hcy:=z4f hr2 hy
 have HRS:=qz hr
 have HZ:=qz hz
 have HY:=qz hy
 have HSB:=qz (z1s zs)
 obtain ⟨n,hn⟩:∃n,n=zs.length:=⟨_,rfl⟩
 obtain ⟨m,hm⟩:∃m,m=ys.length:=⟨_,rfl⟩
 rw [←hn] at h2 hl hcap HRS HSB ⊢
 rw [←hm] at h1 h2 HC HP hcy ⊢
 have HN:=qz hn
 have HM:=qz hm
 obtain ⟨last,hlast⟩:∃last:Nat,(n:Int)-(m:Int)=(last:Int):=⟨n-m,by omega⟩
 have hlm:last+m=n:=by omega
 have HLM:=qz hlm
 rw [show n-m+1=last+1 by omega]
 have hlast0:0<last:=by omega
 clear hn hm hB1 hB2 hr hr2 hz hy Hh Hp hlm
 -- at a place: the strings are one just where the piece stands
 have HEQ:Hid (∀j,j≤last→(z0h zs ys j∧((sb ((zs.drop j).take m)).toList == (sb ys).toList)=true)∨(¬z0h zs ys j∧((sb ((zs.drop j).take m)).toList == (sb ys).toList)=false)):=qz fun j hj=>by
  have hjl:j+ys.length≤zs.length:=by rw [←uh HM,←uh HN];have:=uh HLM;omega
  have hs:=z1y (ys:=ys) hjl
  by_cases h:z0h zs ys j
  ·refine .inl ⟨h,?_⟩
   rw [uh HM,hs.1 h]
   simp
  ·refine .inr ⟨h,?_⟩
   have:(sb ((zs.drop j).take m)).toList≠(sb ys).toList:=fun e=>h (hs.2 (by
    rw [←uh HM]
    refine z9y (fun z hz=>uh HZ z (List.mem_of_mem_drop (List.mem_of_mem_take hz))) (uh HY) ?_
    rw [ByteArray.toList_eq,ByteArray.toList_eq] at e
    apply ByteArray.ext
    exact Array.toList_inj.1 e))
   simpa using this
 have HCV:Hid (∀j,j≤last→0<m→∀cc,m≤cc→∀q,(convert 32 9 (.slice (some ⟨b,off+j,none⟩) m cc)).run Tryz.prog (w.drewN q)=.ok (.string (sb ((zs.drop j).take m))) (w.drewN q)):=qz fun j hj h0 cc hcc q=>by
  have h3:=uh HRS
  rw [uh HN] at h3
  exact z4f (h3.sub rfl j m cc (by rw [←uh HN];have:=uh HLM;omega) hcc) (fun z hz=>uh HZ z (List.mem_of_mem_drop (List.mem_of_mem_take hz))) q
 have HNOH:Hid (∀j g,j≤last→g=RK.H (RK.win (sb zs).data.toList j m).reverse%4294967296→¬g=hh→¬z0h zs ys j):=qz fun j g hj hg hne hs=>hne (by
  have:=z6e (ys:=ys) (by rw [←uh HM,←uh HN];have:=uh HLM;omega) hs
  rw [uh HM] at hg
  rw [hg,uh HH,this])
 go_enter Tryz.func185,Tryz.ntmps185
 go_upto_region 2 with (go_at_call 192;go_must (refine (uh HC).mono ?_;rintro e w' ⟨rfl,hww⟩;replace hww:=hww.symm;subst hww))
 clear HC
 go_wp2_with fail
 go_loopg [9,10] n (fun gk vh vi ws=>∃ (k:Nat) (h:Int),k=gk∧last≤k∧k≤n∧vi=.int .i64 ((k:Int)-1)∧vh=.int .u32 h∧Hid (h=RK.H ((sb zs).data.toList.drop k).reverse%4294967296)∧w=ws)
 case atStart=>exact ⟨n,0,rfl,by omega,Nat.le_refl _,rfl,rfl,qz (by rw [List.drop_of_length_le (by rw [←uh HSB];simp)];rfl),rfl⟩
 case round =>
  obtain ⟨k,h,rfl,hk1,hk,rfl,rfl,hk2,rfl⟩:=hrel
  by_cases hgo:last<k
  ·obtain ⟨K,hK⟩:∃K:Nat,(k:Int)-1=(K:Int):=⟨k-1,by omega⟩
   have hK0:K<(sb zs).size:=by rw [uh HSB];omega
   have c1:=uh HBY K hK0
   have HST:=qz (z7d (sb zs) K hK0 (h:=h) (by have:=uh hk2;rw [show k=K+1 by omega] at this;exact this))
   have hKn:K<n:=by omega
   have hlK:(last:Int)≤(K:Int):=by omega
   have hlK2:last≤K:=by omega
   have hKk:K<k:=by omega
   clear hk2
   go_wp2_with fail
   go_roundg K
   case measure=>omega
   case rel=>exact ⟨K,_,rfl,by omega,by omega,rfl,rfl,HST,rfl⟩
  ·have hkl:k=last:=by omega
   have hni:¬ (last:Int)≤(k:Int)-1:=by omega
   have HW:Hid (h=RK.H (RK.win (sb zs).data.toList last m).reverse%4294967296):=qz (by
    have:=uh hk2
    rw [hkl] at this
    rwa [show (sb zs).data.toList.drop last=RK.win (sb zs).data.toList last m from (List.take_of_length_le (by rw [List.length_drop,z6d,List.length_map,←uh HN];have:=uh HLM;omega)).symm] at this)
   clear hk2
   have hcl:=uh HCV last (Nat.le_refl _) (by omega) (c-last) (by have:=uh HLM;omega)
   have HEL:=uh HEQ last (Nat.le_refl _)
   have hnl:n-last=m:=by have:=uh HLM;omega
   have hlc:¬c-last=0:=by have:=uh HLM;omega
   have hlc2:last≤n:=by have:=uh HLM;omega
   rcases HEL with ⟨hst,hbe⟩|⟨hst,hbe⟩
   ·have ehh:h=hh:=by
     refine Classical.byContradiction fun hne=>?_
     exact uh HNOH last h (Nat.le_refl _) (uh HW) hne hst
    have ehb:(h == hh)=true:=by simp [ehh]
    have HE:=qz (z0k.hit hst)
    clear hst HW ehh
    go_wp2_with fail
    go_quiet (fail)
    go_wp2_with fail
    go_ret
    exact ⟨_,rfl,uh HE,nq,rfl⟩
   ·have HNS:=qz hst
    by_cases ehh:h=hh
    ·have ehb:(h == hh)=true:=by simp [ehh]
     clear hst ehh
     go_wp2_with fail
     go_quiet (fail)
     go_wp2_with fail
     go_loopg [9,11] last (fun gk vh vi ws=>∃ (j q:Nat) (g:Int),j=gk∧j≤last∧vi=.int .i64 ((j:Int)-1)∧vh=.int .u32 g∧Hid (g=RK.H (RK.win (sb zs).data.toList j m).reverse%4294967296)∧Hid (∀i,j≤i→i≤last→¬z0h zs ys i)∧ws=w.drewN q)
     case atStart=>exact ⟨last,_,_,rfl,Nat.le_refl _,rfl,rfl,HW,qz fun i a b=>by (obtain rfl:i=last:=by omega);exact uh HNS,rfl⟩
     case round =>
      obtain ⟨j,q,g,rfl,hj,rfl,rfl,hg,hno,rfl⟩:=hrel
      by_cases hj1:1≤j
      ·obtain ⟨J,hJ⟩:∃J:Nat,(j:Int)-1=(J:Int):=⟨j-1,by omega⟩
       obtain ⟨JM,hJM⟩:∃JM:Nat,(J:Int)+(m:Int)=(JM:Int):=⟨J+m,by omega⟩
       have hJn:J<n:=by have:=uh HLM;omega
       have hJMn:JM<n:=by have:=uh HLM;omega
       have hJ0:J<(sb zs).size:=by rw [uh HSB];omega
       have hJM0:J+m<(sb zs).size:=by rw [uh HSB];omega
       have c1:=uh HBY J hJ0
       have d2:=uh HBY (J+m) hJM0
       have HROLL:=qz (LastIndex.rollrev_step (sb zs) m J h1 (by rw [uh HSB];omega) (h:=g) (by have:=uh hg;rw [show j=J+1 by omega] at this;exact this) (uh HP))
       obtain ⟨x1,hx1⟩:∃x,x=((sb zs)[J]).toNat:=⟨_,rfl⟩
       obtain ⟨x2,hx2⟩:∃x,x=((sb zs)[J+m]).toNat:=⟨_,rfl⟩
       rw [←hx1] at c1 HROLL
       rw [←hx2] at d2 HROLL
       rw [show off+(J+m)=off+JM by omega] at d2
       have hjJ:j=J+1:=by omega
       have HJJ:=qz hjJ
       have hJj:J<j:=by omega
       have hJl:J≤last:=by omega
       have hcJ:=uh HCV J hJl (by omega) (c-J) (by have:=uh HLM;omega)
       have HEJ:=qz (uh HEQ J hJl)
       have hJc:¬c-J=0:=by have:=uh HLM;omega
       have hJM1:JM≤c:=by omega
       have hJMJ:JM-J=m:=by omega
       clear hg hx1 hx2 hjJ
       go_upto_region 17 with fail
       obtain ⟨g2,hg2⟩:∃g2:Int,g2=(((g*16777619+(x1:Int))%4294967296-pw*((x2:Int)%4294967296)%4294967296)%4294967296):=⟨_,rfl⟩
       rw [←hg2]
       have HW2:Hid (g2=RK.H (RK.win (sb zs).data.toList J m).reverse%4294967296):=qz (by rw [hg2,←Int.sub_emod];exact uh HROLL)
       clear hg2 HROLL c1 d2
       rcases uh HEJ with ⟨hstJ,hbJ⟩|⟨hstJ,hbJ⟩
       ·have ehh2:g2=hh:=by
         refine Classical.byContradiction fun hne=>?_
         exact uh HNOH J g2 hJl (uh HW2) hne hstJ
        have ehb2:(g2 == hh)=true:=by simp [ehh2]
        have HE:Hid (z0k zs ys (last+1) (J:Int)):=qz ((z0k.hit hstJ).up (by omega) (fun i a b=>uh hno i (by have:=uh HJJ;omega) (by omega)))
        clear hstJ HW2 ehh2 hno
        go_quiet (fail)
        go_wp2_with fail
        go_ret
        exact ⟨_,rfl,by rw [hJ];exact uh HE,q+nq,by first|rfl|(rw [World.drewN_drewN])⟩
       ·have HNO2:Hid (∀i,J≤i→i≤last→¬z0h zs ys i):=qz fun i a b=>by
         by_cases e:i=J
         ·subst e;exact hstJ
         ·exact uh hno i (by have:=uh HJJ;omega) b
        by_cases ehh2:g2=hh
        ·have ehb2:(g2 == hh)=true:=by simp [ehh2]
         clear hstJ ehh2 hno
         go_quiet (fail)
         go_wp2_with fail
         go_roundg J
         case measure=>omega
         case rel=>exact ⟨J,q+nq,_,rfl,by omega,rfl,rfl,HW2,HNO2,by first|rfl|(rw [World.drewN_drewN])⟩
        ·have ehb2:(g2 == hh)=false:=by simp [ehh2]
         clear hstJ ehh2 hno
         go_quiet (fail)
         go_wp2_with fail
         go_roundg J
         case measure=>omega
         case rel=>exact ⟨J,q+nq,_,rfl,by omega,rfl,rfl,HW2,HNO2,by first|rfl|(rw [World.drewN_drewN])⟩
      ·obtain rfl:j=0:=by omega
       have HE:Hid (z0k zs ys (last+1) (-1)):=qz (.inl ⟨rfl,fun i hi=>uh hno i (Nat.zero_le _) (by omega)⟩)
       clear hno hg
       go_wp2_with fail
       go_ret
       exact ⟨_,rfl,uh HE,q,rfl⟩
    ·have ehb:(h == hh)=false:=by simp [ehh]
     clear hst ehh
     go_wp2_with fail
     go_quiet (fail)
     go_wp2_with fail
     go_loopg [9,11] last (fun gk vh vi ws=>∃ (j q:Nat) (g:Int),j=gk∧j≤last∧vi=.int .i64 ((j:Int)-1)∧vh=.int .u32 g∧Hid (g=RK.H (RK.win (sb zs).data.toList j m).reverse%4294967296)∧Hid (∀i,j≤i→i≤last→¬z0h zs ys i)∧ws=w.drewN q)
     case atStart=>exact ⟨last,_,_,rfl,Nat.le_refl _,rfl,rfl,HW,qz fun i a b=>by (obtain rfl:i=last:=by omega);exact uh HNS,rfl⟩
     case round =>
      obtain ⟨j,q,g,rfl,hj,rfl,rfl,hg,hno,rfl⟩:=hrel
      by_cases hj1:1≤j
      ·obtain ⟨J,hJ⟩:∃J:Nat,(j:Int)-1=(J:Int):=⟨j-1,by omega⟩
       obtain ⟨JM,hJM⟩:∃JM:Nat,(J:Int)+(m:Int)=(JM:Int):=⟨J+m,by omega⟩
       have hJn:J<n:=by have:=uh HLM;omega
       have hJMn:JM<n:=by have:=uh HLM;omega
       have hJ0:J<(sb zs).size:=by rw [uh HSB];omega
       have hJM0:J+m<(sb zs).size:=by rw [uh HSB];omega
       have c1:=uh HBY J hJ0
       have d2:=uh HBY (J+m) hJM0
       have HROLL:=qz (LastIndex.rollrev_step (sb zs) m J h1 (by rw [uh HSB];omega) (h:=g) (by have:=uh hg;rw [show j=J+1 by omega] at this;exact this) (uh HP))
       obtain ⟨x1,hx1⟩:∃x,x=((sb zs)[J]).toNat:=⟨_,rfl⟩
       obtain ⟨x2,hx2⟩:∃x,x=((sb zs)[J+m]).toNat:=⟨_,rfl⟩
       rw [←hx1] at c1 HROLL
       rw [←hx2] at d2 HROLL
       rw [show off+(J+m)=off+JM by omega] at d2
       have hjJ:j=J+1:=by omega
       have HJJ:=qz hjJ
       have hJj:J<j:=by omega
       have hJl:J≤last:=by omega
       have hcJ:=uh HCV J hJl (by omega) (c-J) (by have:=uh HLM;omega)
       have HEJ:=qz (uh HEQ J hJl)
       have hJc:¬c-J=0:=by have:=uh HLM;omega
       have hJM1:JM≤c:=by omega
       have hJMJ:JM-J=m:=by omega
       clear hg hx1 hx2 hjJ
       go_upto_region 17 with fail
       obtain ⟨g2,hg2⟩:∃g2:Int,g2=(((g*16777619+(x1:Int))%4294967296-pw*((x2:Int)%4294967296)%4294967296)%4294967296):=⟨_,rfl⟩
       rw [←hg2]
       have HW2:Hid (g2=RK.H (RK.win (sb zs).data.toList J m).reverse%4294967296):=qz (by rw [hg2,←Int.sub_emod];exact uh HROLL)
       clear hg2 HROLL c1 d2
       rcases uh HEJ with ⟨hstJ,hbJ⟩|⟨hstJ,hbJ⟩
       ·have ehh2:g2=hh:=by
         refine Classical.byContradiction fun hne=>?_
         exact uh HNOH J g2 hJl (uh HW2) hne hstJ
        have ehb2:(g2 == hh)=true:=by simp [ehh2]
        have HE:Hid (z0k zs ys (last+1) (J:Int)):=qz ((z0k.hit hstJ).up (by omega) (fun i a b=>uh hno i (by have:=uh HJJ;omega) (by omega)))
        clear hstJ HW2 ehh2 hno
        go_quiet (fail)
        go_wp2_with fail
        go_ret
        exact ⟨_,rfl,by rw [hJ];exact uh HE,q+nq,by first|rfl|(rw [World.drewN_drewN])⟩
       ·have HNO2:Hid (∀i,J≤i→i≤last→¬z0h zs ys i):=qz fun i a b=>by
         by_cases e:i=J
         ·subst e;exact hstJ
         ·exact uh hno i (by have:=uh HJJ;omega) b
        by_cases ehh2:g2=hh
        ·have ehb2:(g2 == hh)=true:=by simp [ehh2]
         clear hstJ ehh2 hno
         go_quiet (fail)
         go_wp2_with fail
         go_roundg J
         case measure=>omega
         case rel=>exact ⟨J,q+nq,_,rfl,by omega,rfl,rfl,HW2,HNO2,by first|rfl|(rw [World.drewN_drewN])⟩
        ·have ehb2:(g2 == hh)=false:=by simp [ehh2]
         clear hstJ ehh2 hno
         go_quiet (fail)
         go_wp2_with fail
         go_roundg J
         case measure=>omega
         case rel=>exact ⟨J,q+nq,_,rfl,by omega,rfl,rfl,HW2,HNO2,by first|rfl|(rw [World.drewN_drewN])⟩
      ·obtain rfl:j=0:=by omega
       have HE:Hid (z0k zs ys (last+1) (-1)):=qz (.inl ⟨rfl,fun i hi=>uh hno i (Nat.zero_le _) (by omega)⟩)
       clear hno hg
       go_wp2_with fail
       go_ret
       exact ⟨_,rfl,uh HE,q,rfl⟩
end T6
namespace T6
open Go.RowKit Go.Lib
attribute [local go_sem ↓] wp_at_zero wp_at_succ
theorem y0r (zs ys:List Nat) (v u:Value) (B:Nat) (w:World) (h1:z0f B w v zs) (h2:z0f B w u ys) (hz:∀z∈zs,z<256) (hy:∀z∈ys,z<256) :
  Calls Tryz.prog 180 #[v,u] w fun e w'=>(e=.returned (.bool true)∧zs=ys∨e=.returned (.bool false)∧zs≠ys)∧∃q,w'=w.drewN q:=by
 have c1:=z4f h1 hz
 have c2:=z4f h2 hy
 have HI:Hid (sb zs=sb ys→zs=ys):=qz (z9y hz hy)
 clear h1 h2 hz hy
 by_cases h:zs=ys
 ·have e1:((sb zs).toList == (sb ys).toList)=true:=by rw [h];simp
  have c1':=c1 0
  have c2':=c2 0
  rw [World.drewN_zero] at c1' c2'
  go_enter Tryz.func180,Tryz.ntmps180
  go_wp2_with fail
  go_ret
  exact ⟨.inl ⟨rfl,h⟩,0,rfl⟩
 ·have e1:((sb zs).toList == (sb ys).toList)=false:=by
   have:(sb zs).toList≠(sb ys).toList:=fun e=>h (uh HI (by
    rw [ByteArray.toList_eq,ByteArray.toList_eq] at e
    apply ByteArray.ext
    exact Array.toList_inj.1 e))
   simpa using this
  have c1':=c1 0
  have c2':=c2 0
  rw [World.drewN_zero] at c1' c2'
  go_enter Tryz.func180,Tryz.ntmps180
  go_wp2_with fail
  go_ret
  exact ⟨.inr ⟨rfl,h⟩,0,rfl⟩
theorem y0u (zs ys:List Nat) (b off c b2 off2 c2 B:Nat) (w:World) (hr:z0f B w (.slice (some ⟨b,off,none⟩) zs.length c) zs) (hr2:z0f B w (.slice (some ⟨b2,off2,none⟩) ys.length c2) ys) (hz:∀z∈zs,z<256) (hy:∀z∈ys,z<256)
  (h1:1≤ys.length) (h2:ys.length≤zs.length) (hl:zs.length≤140737488355328) (hcap:zs.length≤c) :
  Calls Tryz.prog 161 #[.slice (some ⟨b,off,none⟩) zs.length c,.slice (some ⟨b2,off2,none⟩) ys.length c2] w fun e w'=>∃r:Int,e=.returned (.int .i64 r)∧z0k zs ys (zs.length-ys.length+1) r∧∃q,w'=w.drewN q:=by
 have HE:=qz (y0r zs ys _ _ B w hr hr2 hz hy)
 have HRK:Hid (ys.length<zs.length→Calls Tryz.prog 185 #[.slice (some ⟨b,off,none⟩) zs.length c,.slice (some ⟨b2,off2,none⟩) ys.length c2] w fun e w'=>∃r:Int,e=.returned (.int .i64 r)∧z0k zs ys (zs.length-ys.length+1) r∧∃q,w'=w.drewN q):=qz fun h=>z9b zs ys b off c b2 off2 c2 B w hr hr2 hz hy h1 h hl hcap
 have HLB:=qz fun x=>z5w zs (some ⟨b,off,none⟩) c B x w hr hl
 have k1:w.cell? ⟨b2,off2,none⟩=some (.int .u8 (ys.getD 0 0:Int)):=by
  obtain ⟨a',c',e,_,hs⟩:=hr2
  injection e with e1 e2 e3
  subst e1
  obtain ⟨_,_,e,_,hc⟩:=hs (by omega)
  injection e with e
  injection e with e1 e2
  subst e1 e2
  have:=hc 0 (by omega)
  rw [Nat.add_zero] at this
  exact this
 have HONE:Hid (ys.length=1→ys=[ys.getD 0 0]):=qz fun h=>by
  obtain ⟨x,rfl⟩:=List.length_eq_one_iff.1 h
  rfl
 have HST:Hid (ys.length=zs.length→(z0h zs ys 0↔zs=ys)):=qz fun h=>by
  rw [z1y (by omega),List.drop_zero,List.take_of_length_le (by omega)]
 clear hr hr2 hz hy
 obtain ⟨n,hn⟩:∃n,n=zs.length:=⟨_,rfl⟩
 obtain ⟨m,hm⟩:∃m,m=ys.length:=⟨_,rfl⟩
 rw [←hn] at HE HRK HLB HST h2 hl hcap ⊢
 rw [←hm] at HE HRK HST HONE h1 h2 ⊢
 clear hn hm
 have hm0:((m:Int) == 0)=false:=by simp;omega
 obtain ⟨y,hy⟩:∃y,y=ys.getD 0 0:=⟨_,rfl⟩
 rw [←hy] at k1 HONE
 clear hy
 by_cases hm1:m=1
 ·subst hm1
  have HLY:=qz (uh HLB y)
  have hys:=uh HONE rfl
  have HYS:=qz hys
  clear HLB HRK HE hys
  go_enter Tryz.func161,Tryz.ntmps161
  go_wp2_with (go_at_call 184;go_must (refine (uh HLY).mono ?_;rintro e w' ⟨r,rfl,hr,hww⟩;replace hww:=hww.symm;subst hww;have HR2:=qz hr;clear hr))
  go_ret
  exact ⟨r,rfl,by rw [uh HYS,show n-1+1=n by omega];exact uh HR2,0,rfl⟩
 ·have e1:((m:Int) == 1)=false:=by simp;omega
  by_cases hmn:m=n
  ·subst hmn
   have e2:((m:Int) == (m:Int))=true:=by simp
   have HS0:=qz (uh HST rfl)
   clear HLB HRK
   go_enter Tryz.func161,Tryz.ntmps161
   go_wp2_with fail
   refine (uh HE).mono ?_
   rintro e w' ⟨⟨rfl,heq⟩|⟨rfl,heq⟩,q,rfl⟩
   ·have HF:Hid (z0k zs ys (m-m+1) 0):=qz (by rw [Nat.sub_self];exact z0k.hit ((uh HS0).2 heq))
    go_wp2_with fail
    go_ret
    exact ⟨_,rfl,uh HF,q,rfl⟩
   ·have HF:Hid (z0k zs ys (m-m+1) (-1)):=qz (.inl ⟨rfl,fun j hj h=>by
     obtain rfl:j=0:=by omega
     exact heq ((uh HS0).1 h)⟩)
    go_wp2_with fail
    go_ret
    exact ⟨_,rfl,uh HF,q,rfl⟩
  ·have e2:((m:Int) == (n:Int))=false:=by simp;omega
   have e2':(m == n)=false:=by simp [hmn]
   have e3:¬ (n:Int)<(m:Int):=by omega
   have HC:=qz (uh HRK (by omega))
   clear HLB HRK HE
   go_enter Tryz.func161,Tryz.ntmps161
   go_wp2_with fail
   refine (uh HC).mono ?_
   rintro e w' ⟨r,rfl,hr,q,rfl⟩
   have HR2:=qz hr
   clear hr
   go_wp2_with fail
   go_ret
   exact ⟨r,rfl,uh HR2,q,rfl⟩
end T6
end Go.Proofs.YtoicnlmfgembiaaGreat
section
namespace Go.Proofs
open Go.Shelf
def Tryz.laysM185_ren:Go.Shelf.Ren:=⟨fun|185=>159|187=>179|115=>180|253=>181|224=>182|254=>183|255=>190|291=>191|n=>n,fun|37=>32|3=>3|4=>4|0=>0|5=>5|46=>106|9=>9|146=>191|51=>44|n=>n,fun|1=>0|n=>n⟩
theorem Tryz.laysM185:Go.Proofs.LaysM.n185 Tryz.prog Tryz.laysM185_ren:={
 mixed:=by kernel_rfl
 f115:=Tryz.func180.trans (congrArg some (by kernel_rfl))
 f185:=Tryz.func159.trans (congrArg some (by kernel_rfl))
 f187:=Tryz.func179.trans (congrArg some (by kernel_rfl))
 f224:=Tryz.func182.trans (congrArg some (by kernel_rfl))
 f253:=Tryz.func181.trans (congrArg some (by kernel_rfl))
 f254:=Tryz.func183.trans (congrArg some (by kernel_rfl))
 f255:=Tryz.func190.trans (congrArg some (by kernel_rfl))
 f291:=Tryz.func191.trans (congrArg some (by kernel_rfl))
 t0:=Tryz.underlying0
 a0:=Tryz.isAgg0
 z0:=Tryz.sizeOf0
 v0:=Tryz.zeroValue0
 t3:=Tryz.underlying3
 a3:=Tryz.isAgg3
 z3:=Tryz.sizeOf3
 v3:=Tryz.zeroValue3
 t4:=Tryz.underlying4
 a4:=Tryz.isAgg4
 z4:=Tryz.sizeOf4
 v4:=Tryz.zeroValue4
 t5:=Tryz.underlying5
 a5:=Tryz.isAgg5
 z5:=Tryz.sizeOf5
 v5:=Tryz.zeroValue5
 t9:=Tryz.underlying9
 a9:=Tryz.isAgg9
 z9:=Tryz.sizeOf9
 v9:=Tryz.zeroValue9
 t37:=Tryz.underlying32
 a37:=Tryz.isAgg32
 z37:=Tryz.sizeOf32
 v37:=Tryz.zeroValue32
 t46:=Tryz.underlying106
 a46:=Tryz.isAgg106
 z46:=Tryz.sizeOf106
 v46:=Tryz.zeroValue106
 t51:=Tryz.underlying44
 a51:=Tryz.isAgg44
 z51:=Tryz.sizeOf44
 v51:=Tryz.zeroValue44
 t146:=Tryz.underlying191
 a146:=Tryz.isAgg191
 z146:=Tryz.sizeOf191
 v146:=Tryz.zeroValue191
 g1:=by kernel_rfl
 i0:=by kernel_rfl
 i3:=by kernel_rfl
 i4:=by kernel_rfl
 i5:=by kernel_rfl
 i9:=by kernel_rfl
 i37:=by kernel_rfl
 i46:=by kernel_rfl
 i51:=by kernel_rfl
 i146:=by kernel_rfl
 m1:=by kernel_rfl
 s1_3:=fun w h=>Go.Proofs.cell_of_shapedOpen_int (zero:=#[.int .i64 0]) (t:=3) h (of_decide_eq_true (by kernel_rfl)) (by kernel_rfl) rfl (by kernel_rfl) (by kernel_rfl) Tryz.underlying3 }
end Go.Proofs
end
namespace Go.Proofs.YtoicnlmfgembiaaGreat
namespace T6
open Go.RowKit Go.Lib
def ML (w:World):Prop:=∃m:Int,w.cell? ⟨0,0,none⟩=some (.int .i64 m)
theorem ML.stays {w w1:World} (hb:Below w.heap.size w w1) (h:ML w):ML w1:=by
 obtain ⟨m,h⟩:=h
 exact ⟨m,z1p hb h⟩
theorem ML.drewN {w:World} (q:Nat) (h:ML w):ML (w.drewN q):=h
def z2m (zs ys:List Nat) (r:Int):Prop:=(r = -1∧∀j,j+ys.length≤zs.length→¬z0h zs ys j)∨∃j:Nat,r=(j:Int)∧j+ys.length≤zs.length∧z0h zs ys j∧∀j',j'<j→¬z0h zs ys j'
theorem z2q {zs ys:List Nat} (hz:∀z∈zs,z<256) (hy:∀z∈ys,z<256) {j:Nat} (hj:j+ys.length≤zs.length):occAt (zs.map UInt8.ofNat) (ys.map UInt8.ofNat) j=true↔z0h zs ys j:=by
 rw [RK.occAt_win _ _ _ (by simpa using hj),z1y hj]
 unfold RK.win
 rw [List.length_map,←List.map_drop,←List.map_take]
 constructor
 ·intro h
  have h1:((zs.drop j).take ys.length).map UInt8.ofNat=ys.map UInt8.ofNat:=by simpa using h
  refine z9y (fun z hz'=>hz z (List.mem_of_mem_drop (List.mem_of_mem_take hz'))) hy ?_
  unfold sb
  rw [h1]
 ·intro h
  rw [h]
  simp
theorem z9n {s sub:List UInt8} {j:Nat} (h:occAt s sub j=true):sub.length≤s.length-j:=by
 unfold occAt at h
 have:=List.isPrefixOf_iff_prefix.1 h
 have:=this.length_le
 simpa using this
theorem z4g {zs ys:List Nat} (hz:∀z∈zs,z<256) (hy:∀z∈ys,z<256) (h1:1≤ys.length):z2m zs ys (index (zs.map UInt8.ofNat) (ys.map UInt8.ofNat)):=by
 rcases index_spec (zs.map UInt8.ofNat) (ys.map UInt8.ofNat) with ⟨e,hn⟩|⟨i,e,hi,ho,hno⟩
 ·refine .inl ⟨e,fun j hj hs=>?_⟩
  have:=hn j (by simp;omega)
  rw [(z2q hz hy hj).2 hs] at this
  cases this
 ·have hl:=z9n ho
  simp at hl hi
  have hil:i+ys.length≤zs.length:=by omega
  refine .inr ⟨i,e,hil,(z2q hz hy hil).1 ho,fun j' hj hs=>?_⟩
  have:=hno j' hj
  rw [(z2q hz hy (by omega)).2 hs] at this
  cases this
theorem z2s (zs:List Nat):bytesOf (zs.map Int.ofNat)=zs.map UInt8.ofNat:=by
 unfold bytesOf
 rw [List.map_map]
 rfl
theorem z4j (zs ys:List Nat) (b off c b2 off2 c2 B:Nat) (w:World) (hr:z0f B w (.slice (some ⟨b,off,none⟩) zs.length c) zs) (hr2:z0f B w (.slice (some ⟨b2,off2,none⟩) ys.length c2) ys) (hz:∀z∈zs,z<256) (hy:∀z∈ys,z<256)
  (h1:1≤ys.length) (hl:zs.length<4294967281) (hly:ys.length≤140737488355328) (hcap:zs.length≤c) (hm:ML w) :
  Calls Tryz.prog 159 #[.slice (some ⟨b,off,none⟩) zs.length c,.slice (some ⟨b2,off2,none⟩) ys.length c2] w fun e w'=>∃r:Int,e=.returned (.int .i64 r)∧z2m zs ys r∧∃q,w'=w.drewN q:=by
 obtain ⟨m,hm⟩:=hm
 have hcell:∀{zs:List Nat} {b off c:Nat},z0f B w (.slice (some ⟨b,off,none⟩) zs.length c) zs→∀i,i<zs.length→w.cell? ((⟨b,off,none⟩:Addr).add i)=some (.int .u8 ((zs.map Int.ofNat).getD i 0)):=fun {zs b off c} h i hi=>by
  obtain ⟨a',c',e,_,hs⟩:=h
  injection e with e1 e2 e3
  subst e1
  obtain ⟨_,_,e,_,hc⟩:=hs (by omega)
  injection e with e
  injection e with e1 e2
  subst e1 e2
  have ea:(⟨b,off,none⟩:Addr).add i=⟨b,off+i,none⟩:=by by_cases hq:i=0<;>simp [Addr.add,hq]
  rw [ea,hc i hi]
  simp [hi]
 have hr':∀{zs:List Nat},(∀z∈zs,z<256)→∀x∈zs.map Int.ofNat,0≤x∧x<256:=fun {zs} h x hx=>by
  obtain ⟨z,hz,rfl⟩:=List.mem_map.1 hx
  have:=h z hz
  simp
  omega
 refine (Any.bytes_Index_at { Tryz.laysM185 with } ⟨b,off,none⟩ ⟨b2,off2,none⟩ zs.length c ys.length c2 (zs.map Int.ofNat) (ys.map Int.ofNat) m w (by simp) (by simp) (hr' hz) (hr' hy) (hcell hr) (hcell hr2) hcap hl (by omega) hm).mono ?_
 rintro e w' ⟨rfl,hq⟩
 refine ⟨_,rfl,?_,hq⟩
 rw [z2s,z2s]
 exact z4g hz hy h1
end T6
namespace T6
open Go.RowKit
attribute [local go_sem ↓] wp_at_zero wp_at_succ
def Same (z:Nat→Nat) (p x k:Nat):Prop:=∀i,i<k→z (x+i)=z (p+i)
theorem Same.mono {z:Nat→Nat} {p x k j:Nat} (h:Same z p x k) (hj:j≤k):Same z p x j:=fun i hi=>h i (by omega)
theorem z3a {z:Nat→Nat} {p x k:Nat} (hx:x≤p):Same z p x k↔Eqs z p (p-x) k:=by
 constructor
 ·intro h i hi
  rw [show p+i-(p-x)=x+i by omega]
  exact (h i hi).symm
 ·intro h i hi
  have:=h i hi
  rw [show p+i-(p-x)=x+i by omega] at this
  exact this.symm
def keyOf:List Nat→Nat:=List.foldl (fun k c=>k*256+c) 0
theorem z3t (l:List Nat) (c:Nat):keyOf (l++[c])=keyOf l*256+c:=by simp [keyOf]
theorem z3u (l:List Nat) (k:Nat) (hk:k<l.length):keyOf (l.take (k+1))=keyOf (l.take k)*256+l.getD k 0:=by
 rw [List.take_add_one,List.getElem?_eq_getElem hk]
 simp only [Option.toList_some]
 rw [z3t]
 simp [List.getD,List.getElem?_eq_getElem hk]
theorem z2y:∀ (n:Nat) (l:List Nat),l.length=n→(∀c∈l,c<256)→keyOf l<256^n
 | 0,l,h,_=>by
  have:l=[]:=List.eq_nil_of_length_eq_zero h
  subst this
  decide
 | n+1,l,h,hb=>by
  rcases List.eq_nil_or_concat l with rfl|⟨l',c,rfl⟩
  ·simp at h
  ·rw [List.concat_eq_append] at *
   rw [z3t,Nat.pow_succ]
   have h1:=z2y n l' (by simpa using h) (fun x hx=>hb x (by simp [hx]))
   have h2:=hb c (by simp)
   omega
theorem y2y (V c u:Nat) (hV:V*256+256≤18446744073709551616) (hc:c<256) (hu:u=V*256+c):bits .or .u64 ((V:Int)*256) (c:Int)=(u:Int):=by
 have h:=u64_or_nat (V*256) c (by omega) (by omega)
 have e:((V:Int)*256)=((V*256:Nat):Int):=by simp
 rw [e,h,hu]
 have:=Nat.two_pow_add_eq_or_of_lt (i:=8) (b:=c) (by omega) V
 rw [show (2:Nat)^8=256 from rfl,Nat.mul_comm] at this
 rw [←this]
end T6
namespace T6
open Go.RowKit Go.Lib
attribute [local go_sem ↓] wp_at_zero wp_at_succ
theorem z0k.has (zs ys:List Nat):∀k,∃r,z0k zs ys k r
 | 0=>⟨-1,.inl ⟨rfl,fun j h=>by omega⟩⟩
 | k+1=>by
  by_cases h:z0h zs ys k
  ·exact ⟨_,z0k.hit h⟩
  ·obtain ⟨r,hr⟩:=z0k.has zs ys k
   exact ⟨r,hr.step h⟩
theorem z0k.eq {zs ys:List Nat} {k:Nat} {r r':Int} (h:z0k zs ys k r) (h':z0k zs ys k r'):r=r':=by
 rcases h with ⟨e,h1⟩|⟨j,e,h1,h2,h3⟩<;>rcases h' with ⟨e',k1⟩|⟨j',e',k1,k2,k3⟩
 ·omega
 ·exact absurd k2 (h1 j' k1)
 ·exact absurd h2 (k1 j h1)
 ·rcases Nat.lt_trichotomy j j' with hl|hl|hl
  ·exact absurd k2 (h3 j' hl k1)
  ·omega
  ·exact absurd h2 (k3 j hl h1)
theorem z0f.drewN {B:Nat} {w:World} {v:Value} {zs:List Nat} (h:z0f B w v zs) (q:Nat):z0f B (w.drewN q) v zs:=h.stays ⟨rfl,rfl,rfl,Nat.le_refl _,fun _ _=>rfl⟩
theorem z4x (zs ys:List Nat) (b off c b2 off2 c2 B:Nat) (w:World) (hr:z0f B w (.slice (some ⟨b,off,none⟩) zs.length c) zs) (hr2:z0f B w (.slice (some ⟨b2,off2,none⟩) ys.length c2) ys) (hz:∀z∈zs,z<256) (hy:∀z∈ys,z<256)
  (h1:1≤ys.length) (h2:ys.length≤zs.length) (hl:zs.length≤140737488355328) (hcap:zs.length≤c) :
  ∃r:Int,z0k zs ys (zs.length-ys.length+1) r∧∀q,Calls Tryz.prog 161 #[.slice (some ⟨b,off,none⟩) zs.length c,.slice (some ⟨b2,off2,none⟩) ys.length c2] (w.drewN q) fun e w'=>e=.returned (.int .i64 r)∧∃m,w'=w.drewN m:=by
 obtain ⟨r,hr0⟩:=z0k.has zs ys (zs.length-ys.length+1)
 refine ⟨r,hr0,fun q=>(y0u zs ys b off c b2 off2 c2 B (w.drewN q) (hr.drewN q) (hr2.drewN q) hz hy h1 h2 hl hcap).mono ?_⟩
 rintro e w' ⟨r',rfl,h,q',rfl⟩
 obtain rfl:=hr0.eq h
 exact ⟨rfl,q+q',by rw [World.drewN_drewN]⟩
theorem z2m.eq {zs ys:List Nat} {r r':Int} (h:z2m zs ys r) (h':z2m zs ys r'):r=r':=by
 rcases h with ⟨e,h1⟩|⟨j,e,h1,h2,h3⟩<;>rcases h' with ⟨e',k1⟩|⟨j',e',k1,k2,k3⟩
 ·omega
 ·exact absurd k2 (h1 j' k1)
 ·exact absurd h2 (k1 j h1)
 ·rcases Nat.lt_trichotomy j j' with hl|hl|hl
  ·exact absurd h2 (k3 j hl)
  ·omega
  ·exact absurd k2 (h3 j' hl)
theorem z8z (zs ys:List Nat) (b off c b2 off2 c2 B:Nat) (w:World) (hr:z0f B w (.slice (some ⟨b,off,none⟩) zs.length c) zs) (hr2:z0f B w (.slice (some ⟨b2,off2,none⟩) ys.length c2) ys) (hz:∀z∈zs,z<256) (hy:∀z∈ys,z<256)
  (h1:1≤ys.length) (hl:zs.length<4294967281) (hly:ys.length≤140737488355328) (hcap:zs.length≤c) (hm:ML w) :
  ∃r:Int,z2m zs ys r∧∀q,Calls Tryz.prog 159 #[.slice (some ⟨b,off,none⟩) zs.length c,.slice (some ⟨b2,off2,none⟩) ys.length c2] (w.drewN q) fun e w'=>e=.returned (.int .i64 r)∧∃m,w'=w.drewN m:=by
 refine ⟨_,z4g hz hy h1,fun q=>(z4j zs ys b off c b2 off2 c2 B (w.drewN q) (hr.drewN q) (hr2.drewN q) hz hy h1 hl hly hcap (hm.drewN q)).mono ?_⟩
 rintro e w' ⟨r',rfl,h,q',rfl⟩
 obtain rfl:=(z4g hz hy h1).eq h
 exact ⟨rfl,q+q',by rw [World.drewN_drewN]⟩
structure SeekAt (z:Nat→Nat) (p m n pl:Nat):Prop where
 nle:n≤m
 ple:pl≤p
 has:0<n→∃x,x<p∧Same z p x n
 no:n<m→∀x,x<pl→¬Same z p x (n+1)
theorem SeekAt.start (z:Nat→Nat) (p m:Nat):SeekAt z p m 0 0:=⟨by omega,by omega,fun h=>by omega,fun _ x hx=>by omega⟩
theorem SeekAt.next {z:Nat→Nat} {p m n pl x n':Nat} (h:SeekAt z p m n pl) (hn:n<m) (hx1:pl≤x) (hx2:x<p) (hno:∀y,pl≤y→y<x→¬Same z p y (n+1)) (hs:Same z p x n') (hgt:n<n') (hle:n'≤m) (hne:n'<m→¬Same z p x (n'+1)):SeekAt z p m n' (x+1):=by
 refine ⟨hle,by omega,fun _=>⟨x,hx2,hs⟩,fun hlt y hy=>?_⟩
 by_cases e:y=x
 ·subst e;exact hne hlt
 ·by_cases hl:y<pl
  ·exact fun hc=>h.no hn y hl (hc.mono (by omega))
  ·exact fun hc=>hno y (by omega) (by omega) (hc.mono (by omega))
theorem SeekAt.best {z:Nat→Nat} {p m n pl j:Nat} (h:SeekAt z p m n pl) (hn:1≤n) (hall:n<m→∀x,x<p→¬Same z p x (n+1)) (hj:j<p) (hs:Same z p j n) (hlast:∀x,j<x→x<p→¬Same z p x n):IsBest z p p m n (p-j):=by
 refine ⟨h.nle,.inr ⟨hn,by omega,by omega,(z3a (by omega)).1 hs,fun d' h1 h2 he=>?_⟩,fun hlt d' h1 h2 he=>?_⟩
 ·have e:d'=p-(p-d'):=by omega
  rw [e] at he
  exact hlast (p-d') (by omega) (by omega) ((z3a (by omega)).2 he)
 ·have e:d'=p-(p-d'):=by omega
  rw [e] at he
  exact hall hlt (p-d') (by omega) ((z3a (by omega)).2 he)
theorem SeekAt.none {z:Nat→Nat} {p m pl:Nat} (h:SeekAt z p m 0 pl) (hall:0<m→∀x,x<p→¬Same z p x 1):IsBest z p p m 0 0:=by
 refine ⟨h.nle,.inl ⟨rfl,rfl⟩,fun hlt d' h1 h2 he=>?_⟩
 have e:d'=p-(p-d'):=by omega
 rw [e] at he
 exact hall hlt (p-d') (by omega) ((z3a (by omega)).2 he)
theorem z0n {zs:List Nat} {f l p k j:Nat} (hk:p+k≤zs.length) (hj:j+k≤l):z0h ((zs.drop f).take l) ((zs.drop p).take k) j↔Same (fun i=>zs.getD i 0) p (f+j) k:=by
 have hl:((zs.drop p).take k).length=k:=by simp;omega
 unfold z0h Same
 rw [hl]
 constructor
 ·intro h i hi
  have:=h i hi
  rw [z0o _ _ _ _ (show j+i<l by omega),z0o _ _ _ _ hi] at this
  show zs.getD (f+j+i) 0=zs.getD (p+i) 0
  rw [Nat.add_assoc]
  exact this
 ·intro h i hi
  have:zs.getD (f+j+i) 0=zs.getD (p+i) 0:=h i hi
  rw [z0o _ _ _ _ (show j+i<l by omega),z0o _ _ _ _ hi,←Nat.add_assoc]
  exact this
theorem z9z (zs:List Nat) (b off cap B p:Nat) (w:World) (hr:z0f B w (.slice (some ⟨b,off,none⟩) zs.length cap) zs) (hz:∀z∈zs,z<256) (hp:p<zs.length) (hl:zs.length<4294967281) (hcap:zs.length≤cap) (hm:ML w) :
  Calls Tryz.prog 138 #[.slice (some ⟨b,off,none⟩) zs.length cap,.int .i64 (p:Int)] w fun e w'=>∃n d:Nat,e=.returned (.tuple #[.int .i64 (n:Int),.int .i64 (d:Int)])∧IsBest (fun i=>zs.getD i 0) p p (zs.length-p) n d∧∃q,w'=w.drewN q:=by
 have HR:=qz hr
 have HZ:=qz hz
 have HML:=qz hm
 clear hr hz hm
 obtain ⟨L,hL⟩:∃L,L=zs.length:=⟨_,rfl⟩
 rw [←hL] at HR hp hl hcap ⊢
 have HL:=qz hL
 clear hL
 have HSUB:Hid (∀f k c',f+k≤L→k≤c'→z0f B w (.slice (some ⟨b,off+f,none⟩) k c') ((zs.drop f).take k)):=qz fun f k c' h1 h2=>by
  have h3:=uh HR
  rw [uh HL] at h3
  exact h3.sub rfl f k c' (by rw [←uh HL];exact h1) h2
 have HSM:Hid (∀f k,∀z∈(zs.drop f).take k,z<256):=qz fun f k z h=>uh HZ z (List.mem_of_mem_drop (List.mem_of_mem_take h))
 have HLEN:Hid (∀f k,f+k≤L→((zs.drop f).take k).length=k):=qz fun f k h=>by rw [uh HL] at h;simp;omega
 obtain ⟨m,hm⟩:∃m:Nat,m=L-p:=⟨_,rfl⟩
 rw [←hm]
 have hpm:p+m=L:=by omega
 have HPM:=qz hpm
 have hLp:L-p=m:=hm.symm
 have hcp:¬cap-p=0:=by omega
 have hpc:p≤cap:=by omega
 have hpL:p≤L:=by omega
 have hm0:0<m:=by omega
 clear hm hpm
 go_enter Tryz.func138,Tryz.ntmps138
 go_wp2_with fail
 go_loopg [4,7] (p+1) (fun gk vn vp ws=>∃ (n pl q:Nat),gk=p+1-pl∧n≤m∧pl≤p∧vn=.int .i64 (n:Int)∧vp=.int .i64 (pl:Int)∧Hid (SeekAt (fun i=>zs.getD i 0) p m n pl)∧ws=w.drewN q)
 case atStart=>exact ⟨0,0,0,by omega,by omega,by omega,rfl,rfl,qz (SeekAt.start _ _ _),rfl⟩
 case round =>
  obtain ⟨n,pl,q,rfl,hn,hpl,rfl,rfl,hat,rfl⟩:=hrel
  by_cases hnm:n<m
  ·have hni:(n:Int)<(m:Int):=by omega
   obtain ⟨E,hE⟩:∃E:Nat,(p:Int)+(n:Int)=(E:Int):=⟨p+n,by omega⟩
   obtain ⟨T,hT⟩:∃T:Nat,E-pl=T:=⟨_,rfl⟩
   have hEL:E≤L:=by have:=uh HPM;omega
   have hplE:pl≤E:=by omega
   have hEc:E≤cap:=by omega
   have hplc:¬cap-pl=0:=by omega
   have hcpl:¬cap=pl:=by omega
   obtain ⟨n1,hn1⟩:∃n1:Nat,(n:Int)+1=(n1:Int):=⟨n+1,by omega⟩
   have hn1c:n1≤cap-p:=by have:=uh HPM;omega
   obtain ⟨r,hf,hcall⟩:=z8z ((zs.drop pl).take T) ((zs.drop p).take n1) b (off+pl) (cap-pl) b (off+p) (cap-p) B (w.drewN q) (by rw [uh HLEN pl T (by omega)];exact (uh HSUB pl T _ (by omega) (by omega)).drewN q) (by rw [uh HLEN p n1 (by have:=uh HPM;omega)];exact (uh HSUB p n1 _ (by have:=uh HPM;omega) hn1c).drewN q) (uh HSM pl T) (uh HSM p n1) (by rw [uh HLEN p n1 (by have:=uh HPM;omega)];omega) (by rw [uh HLEN pl T (by omega)];omega) (by rw [uh HLEN p n1 (by have:=uh HPM;omega)];omega) (by rw [uh HLEN pl T (by omega)];omega) ((uh HML).drewN q)
   rw [uh HLEN pl T (by omega),uh HLEN p n1 (by have:=uh HPM;omega)] at hcall
   have HCALL:=qz hcall
   have HF:Hid ((r = -1∧∀x,pl≤x→x<p→¬Same (fun i=>zs.getD i 0) p x (n+1))∨∃x:Nat,(pl:Int)+r=(x:Int)∧¬r<0∧pl≤x∧x<p∧Same (fun i=>zs.getD i 0) p x (n+1)∧∀y,pl≤y→y<x→¬Same (fun i=>zs.getD i 0) p y (n+1)):=qz (by
    have hn1':n1=n+1:=by omega
    have hpn:p+n1≤zs.length:=by rw [←uh HL];have:=uh HPM;omega
    rcases hf with ⟨e,h1⟩|⟨j,e,h1,h2,h3⟩
    ·refine .inl ⟨e,fun x hx1 hx2 hs=>?_⟩
     have hj:(x-pl)+n1≤T:=by omega
     refine h1 (x-pl) (by rw [uh HLEN pl T (by omega),uh HLEN p n1 (by have:=uh HPM;omega)];exact hj) ((z0n hpn hj).2 ?_)
     rw [show pl+(x-pl)=x by omega,hn1']
     exact hs
    ·rw [uh HLEN pl T (by omega),uh HLEN p n1 (by have:=uh HPM;omega)] at h1
     refine .inr ⟨pl+j,by omega,by omega,by omega,by omega,?_,fun y hy1 hy2 hs=>?_⟩
     ·have:=(z0n hpn h1).1 h2
      rw [hn1'] at this
      exact this
     ·have hj:(y-pl)+n1≤T:=by omega
      refine h3 (y-pl) (by omega) ((z0n hpn hj).2 ?_)
      rw [show pl+(y-pl)=y by omega,hn1']
      exact hs)
   have hwE:IntKind.i64.wrap (E:Int)=(E:Int):=IntWalk.i64_in _ (by omega)
   have hwn1:IntKind.i64.wrap (n1:Int)=(n1:Int):=IntWalk.i64_in _ (by omega)
   obtain ⟨wq,hwq⟩:∃wq,wq=w.drewN q:=⟨_,rfl⟩
   rw [←hwq] at HCALL
   clear hf hcall
   go_wp2_with fail
   rw [←hwq]
   have HWQ0:=qz hwq
   clear hwq
   go_quiet (first|(go_at_call 159;exact uh HCALL _))
   have HWQ:Hid (wq.drewN nq=w.drewN (q+nq)):=qz (by rw [uh HWQ0,World.drewN_drewN])
   rw [uh HWQ]
   clear HCALL HWQ HWQ0
   rcases uh HF with ⟨rfl,hno⟩|⟨x,hx1,hr0,hx2,hx3,hx4,hx5⟩
   ·have HALL:Hid (n<m→∀x,x<p→¬Same (fun i=>zs.getD i 0) p x (n+1)):=qz fun _ x hx=>by
     by_cases h:x<pl
     ·exact (uh hat).no hnm x h
     ·exact hno x (by omega) hx
    clear HF hno
    obtain ⟨QQ,hQQ⟩:∃QQ,QQ=q+nq:=⟨_,rfl⟩
    rw [←hQQ]
    clear hQQ hE hT hn1
    by_cases hn0:n=0
    ·have HB:Hid (IsBest (fun i=>zs.getD i 0) p p m 0 0):=qz (by
      have h1:=uh hat
      have h2:=uh HALL
      rw [hn0] at h1 h2
      exact h1.none h2)
     subst hn0
     clear hat HALL
     go_wp2_with fail
     go_ret2
     exact ⟨0,0,rfl,uh HB,QQ,rfl⟩
    ·have hn0b:((n:Int) == 0)=false:=by simp;omega
     obtain ⟨E2,hE2⟩:∃E2:Nat,(p:Int)+(n:Int)-1=(E2:Int):=⟨p+n-1,by omega⟩
     obtain ⟨pn,hpn⟩:∃pn:Nat,(p:Int)+(n:Int)=(pn:Int):=⟨p+n,by omega⟩
     have hE3:(pn:Int)-1=(E2:Int):=by omega
     obtain ⟨x0,hx0,hs0⟩:=(uh hat).has (by omega)
     have hE2L:E2≤L:=by have:=uh HPM;omega
     have hE2c:E2≤cap:=by omega
     have hnc:n≤cap-p:=by have:=uh HPM;omega
     have hpnL:p+n≤L:=by have:=uh HPM;omega
     obtain ⟨r2,hf2,hcall2⟩:=z4x ((zs.drop 0).take E2) ((zs.drop p).take n) b off cap b (off+p) (cap-p) B (w.drewN QQ) (by rw [uh HLEN 0 E2 (by omega)];exact (uh HSUB 0 E2 _ (by omega) hE2c).drewN QQ) (by rw [uh HLEN p n hpnL];exact (uh HSUB p n _ hpnL hnc).drewN QQ) (uh HSM 0 E2) (uh HSM p n) (by rw [uh HLEN p n hpnL];omega) (by rw [uh HLEN 0 E2 (by omega),uh HLEN p n hpnL];omega) (by rw [uh HLEN 0 E2 (by omega)];omega) (by rw [uh HLEN 0 E2 (by omega)];exact hE2c)
     rw [uh HLEN 0 E2 (by omega),uh HLEN p n hpnL] at hf2 hcall2
     have hk:E2-n+1=p:=by omega
     rw [hk] at hf2
     have hzl:p+n≤zs.length:=by rw [←uh HL];exact hpnL
     have HR2:Hid (∃j:Nat,r2=(j:Int)∧j<p∧IsBest (fun i=>zs.getD i 0) p p m n (p-j)):=qz (by
      rcases hf2 with ⟨_,h1⟩|⟨j,e,h1,h2,h3⟩
      ·exact absurd ((z0n (f:=0) (l:=E2) hzl (show x0+n≤E2 by omega)).2 (by rw [Nat.zero_add];exact hs0)) (h1 x0 hx0)
      ·have hj:=(z0n (f:=0) (l:=E2) hzl (show j+n≤E2 by omega)).1 h2
       rw [Nat.zero_add] at hj
       refine ⟨j,e,h1,(uh hat).best (by omega) (uh HALL) h1 hj fun x hx1 hx2 hs=>?_⟩
       exact h3 x hx1 hx2 ((z0n (f:=0) (l:=E2) hzl (show x+n≤E2 by omega)).2 (by rw [Nat.zero_add];exact hs)))
     have HC2:=qz hcall2
     have hwp:IntKind.i64.wrap (pn:Int)=(pn:Int):=IntWalk.i64_in _ (by omega)
     have hwe:IntKind.i64.wrap (E2:Int)=(E2:Int):=IntWalk.i64_in _ (by omega)
     obtain ⟨j,hj1,hj2,hj3⟩:=uh HR2
     subst hj1
     obtain ⟨dd,hdd⟩:∃dd:Nat,(p:Int)-(j:Int)=(dd:Int):=⟨p-j,by omega⟩
     have hwd:IntKind.i64.wrap (dd:Int)=(dd:Int):=IntWalk.i64_in _ (by omega)
     have HB:Hid (IsBest (fun i=>zs.getD i 0) p p m n dd):=qz (by rw [show dd=p-j by omega];exact hj3)
     obtain ⟨wq2,hwq2⟩:∃wq2,wq2=w.drewN QQ:=⟨_,rfl⟩
     rw [←hwq2] at HC2
     clear hat HALL hf2 hcall2 hs0 hx0 hj3 HR2 hk hzl hE2
     go_upto_region 11 with fail
     rw [←hwq2]
     have HWQ2:=qz hwq2
     clear hwq2
     go_quiet (first|(go_at_call 161;exact uh HC2 _))
     go_wp2_with fail
     go_ret2
     exact ⟨n,dd,rfl,uh HB,QQ+nq,by rw [uh HWQ2,World.drewN_drewN]⟩
   ·have hxc:¬cap-x=0:=by omega
    have hxcc:¬cap=x:=by omega
    have hxL:x≤L:=by omega
    have hxcap:x≤cap:=by omega
    have HCM:=qz (z8l ((zs.drop x).take (L-x)) ((zs.drop p).take m) (.slice (some ⟨b,off+x,none⟩) (L-x) (cap-x)) (.slice (some ⟨b,off+p,none⟩) m (cap-p)) B B (w.drewN (q+nq)) ((uh HSUB x (L-x) _ (by omega) (by omega)).drewN _) ((uh HSUB p m _ (by have:=uh HPM;omega) (by have:=uh HPM;omega)).drewN _) (by rw [uh HLEN x (L-x) (by omega)];omega))
    have HNX:Hid (∀n',IsCommon ((zs.drop x).take (L-x)) ((zs.drop p).take m) n'→n'≤m∧SeekAt (fun i=>zs.getD i 0) p m n' (x+1)):=qz fun n' hc=>by
     have l1:=hc.l1
     have l2:=hc.l2
     rw [uh HLEN x (L-x) (by omega)] at l1
     rw [uh HLEN p m (by have:=uh HPM;omega)] at l2
     have hs:Same (fun i=>zs.getD i 0) p x n':=fun i hi=>by
      have:=hc.eq i hi
      rw [z0o _ _ _ _ (show i<L-x by omega),z0o _ _ _ _ (show i<m by omega)] at this
      exact this
     have hne:n'<m→zs.getD (x+n') 0≠zs.getD (p+n') 0:=fun h=>by
      have hxl:n'<L-x:=by have:=uh HPM;omega
      have:=hc.ne (by rw [uh HLEN x (L-x) (by omega)];exact hxl) (by rw [uh HLEN p m (by have:=uh HPM;omega)];exact h)
      rw [z0o _ _ _ _ hxl,z0o _ _ _ _ h] at this
      exact this
     refine ⟨l2,(uh hat).next hnm hx2 hx3 hx5 hs ?_ l2 fun h hc'=>hne h (hc' n' (by omega))⟩
     refine Classical.byContradiction fun hlt=>?_
     exact hne (by omega) (hx4 n' (by omega))
    obtain ⟨QQ,hQQ⟩:∃QQ,QQ=q+nq:=⟨_,rfl⟩
    rw [←hQQ] at HCM ⊢
    clear HF hx4 hx5 hE hT hn1 hat hQQ
    go_wp2_with fail
    refine (uh HCM).mono ?_
    rintro e w' ⟨n',rfl,hcom,q3,rfl⟩
    obtain ⟨hn'm,hat2⟩:=uh HNX n' hcom
    have HAT2:=qz hat2
    clear HCM HNX hcom hat2
    go_wp2_with fail
    go_roundg (p+1-(x+1))
    case measure=>omega
    case rel=>exact ⟨n',x+1,QQ+q3,rfl,hn'm,by omega,rfl,by go_num,HAT2,by first|rfl|(rw [World.drewN_drewN])⟩
  ·have hni:¬ (n:Int)<(m:Int):=by omega
   have HALL:Hid (n<m→∀x,x<p→¬Same (fun i=>zs.getD i 0) p x (n+1)):=qz fun h=>absurd h hnm
   obtain ⟨QQ,hQQ⟩:∃QQ,QQ=q:=⟨_,rfl⟩
   rw [←hQQ]
   clear hQQ
   by_cases hn0:n=0
   ·exfalso;omega
   ·have hn0b:((n:Int) == 0)=false:=by simp;omega
    obtain ⟨E2,hE2⟩:∃E2:Nat,(p:Int)+(n:Int)-1=(E2:Int):=⟨p+n-1,by omega⟩
    obtain ⟨pn,hpn⟩:∃pn:Nat,(p:Int)+(n:Int)=(pn:Int):=⟨p+n,by omega⟩
    have hE3:(pn:Int)-1=(E2:Int):=by omega
    obtain ⟨x0,hx0,hs0⟩:=(uh hat).has (by omega)
    have hE2L:E2≤L:=by have:=uh HPM;omega
    have hE2c:E2≤cap:=by omega
    have hnc:n≤cap-p:=by have:=uh HPM;omega
    have hpnL:p+n≤L:=by have:=uh HPM;omega
    obtain ⟨r2,hf2,hcall2⟩:=z4x ((zs.drop 0).take E2) ((zs.drop p).take n) b off cap b (off+p) (cap-p) B (w.drewN QQ) (by rw [uh HLEN 0 E2 (by omega)];exact (uh HSUB 0 E2 _ (by omega) hE2c).drewN QQ) (by rw [uh HLEN p n hpnL];exact (uh HSUB p n _ hpnL hnc).drewN QQ) (uh HSM 0 E2) (uh HSM p n) (by rw [uh HLEN p n hpnL];omega) (by rw [uh HLEN 0 E2 (by omega),uh HLEN p n hpnL];omega) (by rw [uh HLEN 0 E2 (by omega)];omega) (by rw [uh HLEN 0 E2 (by omega)];exact hE2c)
    rw [uh HLEN 0 E2 (by omega),uh HLEN p n hpnL] at hf2 hcall2
    have hk:E2-n+1=p:=by omega
    rw [hk] at hf2
    have hzl:p+n≤zs.length:=by rw [←uh HL];exact hpnL
    have HR2:Hid (∃j:Nat,r2=(j:Int)∧j<p∧IsBest (fun i=>zs.getD i 0) p p m n (p-j)):=qz (by
     rcases hf2 with ⟨_,h1⟩|⟨j,e,h1,h2,h3⟩
     ·exact absurd ((z0n (f:=0) (l:=E2) hzl (show x0+n≤E2 by omega)).2 (by rw [Nat.zero_add];exact hs0)) (h1 x0 hx0)
     ·have hj:=(z0n (f:=0) (l:=E2) hzl (show j+n≤E2 by omega)).1 h2
      rw [Nat.zero_add] at hj
      refine ⟨j,e,h1,(uh hat).best (by omega) (uh HALL) h1 hj fun x hx1 hx2 hs=>?_⟩
      exact h3 x hx1 hx2 ((z0n (f:=0) (l:=E2) hzl (show x+n≤E2 by omega)).2 (by rw [Nat.zero_add];exact hs)))
    have HC2:=qz hcall2
    have hwp:IntKind.i64.wrap (pn:Int)=(pn:Int):=IntWalk.i64_in _ (by omega)
    have hwe:IntKind.i64.wrap (E2:Int)=(E2:Int):=IntWalk.i64_in _ (by omega)
    obtain ⟨j,hj1,hj2,hj3⟩:=uh HR2
    subst hj1
    obtain ⟨dd,hdd⟩:∃dd:Nat,(p:Int)-(j:Int)=(dd:Int):=⟨p-j,by omega⟩
    have hwd:IntKind.i64.wrap (dd:Int)=(dd:Int):=IntWalk.i64_in _ (by omega)
    have HB:Hid (IsBest (fun i=>zs.getD i 0) p p m n dd):=qz (by rw [show dd=p-j by omega];exact hj3)
    obtain ⟨wq2,hwq2⟩:∃wq2,wq2=w.drewN QQ:=⟨_,rfl⟩
    rw [←hwq2] at HC2
    clear hat HALL hf2 hcall2 hs0 hx0 hj3 HR2 hk hzl hE2
    go_upto_region 11 with fail
    rw [←hwq2]
    have HWQ2:=qz hwq2
    clear hwq2
    go_quiet (first|(go_at_call 161;exact uh HC2 _))
    go_wp2_with fail
    go_ret2
    exact ⟨n,dd,rfl,uh HB,QQ+nq,by rw [uh HWQ2,World.drewN_drewN]⟩
end T6
namespace T6
open Go.RowKit Go.Lib
attribute [local go_sem ↓] wp_at_zero wp_at_succ
theorem z8g (z:Nat→Nat) (p w:Nat):IsBest z p w 0 0 0:=⟨Nat.le_refl _,.inl ⟨rfl,rfl⟩,fun h=>by omega⟩
theorem y1n (a:Option Addr) (p:Nat) (w:World) (hp:p≤140737488355328) (ha:a=none→p=0) :
  Calls Tryz.prog 138 #[.slice a p p,.int .i64 (p:Int)] w fun e w'=>e=.returned (.tuple #[.int .i64 0,.int .i64 0])∧w'=w:=by
 cases a with
 | none =>
  obtain rfl:=ha rfl
  go_enter Tryz.func138,Tryz.ntmps138
  go_wp2_with fail
  go_loopg [4,7] 0 (fun gk vn vp ws=>gk=0∧vn=.int .i64 0∧vp=.int .i64 0∧w=ws)
  case atStart=>exact ⟨rfl,rfl,rfl,rfl⟩
  case round =>
   obtain ⟨-,rfl,rfl,rfl⟩:=hrel
   go_wp2_with fail
   go_ret2
   exact ⟨rfl,rfl⟩
 | some x =>
  go_enter Tryz.func138,Tryz.ntmps138
  go_wp2_with fail
  go_loopg [4,7] 0 (fun gk vn vp ws=>gk=0∧vn=.int .i64 0∧vp=.int .i64 0∧w=ws)
  case atStart=>exact ⟨rfl,rfl,rfl,rfl⟩
  case round =>
   obtain ⟨-,rfl,rfl,rfl⟩:=hrel
   go_wp2_with fail
   go_ret2
   exact ⟨rfl,rfl⟩
theorem y3i (zs:List Nat) (a:Option Addr) (B p:Nat) (w:World) (hr:z0f B w (.slice a zs.length zs.length) zs) (hz:∀z∈zs,z<256) (hp:p≤zs.length) (hl:zs.length<4294967281) (hm:ML w) :
  Calls Tryz.prog 138 #[.slice a zs.length zs.length,.int .i64 (p:Int)] w fun e w'=>∃n d:Nat,e=.returned (.tuple #[.int .i64 (n:Int),.int .i64 (d:Int)])∧IsBest (fun i=>zs.getD i 0) p p (zs.length-p) n d∧∃q,w'=w.drewN q:=by
 obtain ⟨a',c',e,_,hs⟩:=id hr
 injection e with e1 e2 e3
 subst e1
 by_cases h:p<zs.length
 ·obtain ⟨b,off,rfl,_⟩:=hs (by omega)
  exact z9z zs b off zs.length B p w hr hz h hl (Nat.le_refl _) hm
 ·have e:zs.length=p:=by omega
  rw [e] at hs ⊢
  refine (y1n a p w (by omega) (fun h=>?_)).mono ?_
  ·rcases Nat.eq_zero_or_pos p with h0|h0
   ·exact h0
   ·obtain ⟨b,off,e,_⟩:=hs h0
    rw [h] at e
    cases e
  ·rintro e w' ⟨rfl,rfl⟩
   exact ⟨0,0,rfl,by rw [Nat.sub_self];exact z8g _ _ _,0,rfl⟩
def z5m (zs:List Nat) (p W M:Int) (n d e:Int):Prop :=
 (¬ (0≤p∧p≤zs.length∧1≤W∧1≤M)∧n=0∧d=0∧e=2) ∨
 ((0≤p∧p≤zs.length∧1≤W∧1≤M)∧e=0∧∃n' d':Nat,n=(n':Int)∧d=(d':Int)∧IsBest (fun i=>zs.getD i 0) p.toNat (min p.toNat W.toNat) (min M.toNat (zs.length-p.toNat)) n' d')
theorem y0k (zl:Nat) (p W M:Int) (h:¬ (0≤p∧p≤zl∧1≤W∧1≤M)):(p<0)∨(¬p<0∧(zl:Int)<p)∨(¬p<0∧¬ (zl:Int)<p∧W<1)∨(¬p<0∧¬ (zl:Int)<p∧¬W<1∧M<1):=by omega
theorem y0z (zs:List Nat) (a:Option Addr) (cap B:Nat) (p W M:Int) (w:World) (hr:z0f B w (.slice a zs.length cap) zs) (hcap:zs.length≤cap) (hz:∀z∈zs,z<256) (hl:zs.length<4294967281) (hW:W≤9223372036854775807) (hM:M≤9223372036854775807) (hm:ML w) :
  Calls Tryz.prog 109 #[.slice a zs.length cap,.int .i64 p,.int .i64 W,.int .i64 M] w fun e w'=>∃n d x:Int,e=.returned (.tuple #[.int .i64 n,.int .i64 d,.int .i64 x])∧z5m zs p W M n d x∧∃q,w'=w.drewN q:=by
 by_cases hok:0≤p∧p≤zs.length∧1≤W∧1≤M
 ·obtain ⟨h1,h2,h3,h4⟩:=hok
  obtain ⟨P,rfl⟩:=Int.eq_ofNat_of_zero_le h1
  obtain ⟨V,rfl⟩:=Int.eq_ofNat_of_zero_le (show 0≤W by omega)
  obtain ⟨K,rfl⟩:=Int.eq_ofNat_of_zero_le (show 0≤M by omega)
  have HLK:=qz (look_ok zs a cap B P V K w hr hcap (by omega) (by omega) (by omega) (by omega))
  have HSK:Hid (∀a',z0f B w (.slice a' (min P V+min K (zs.length-P)) (min P V+min K (zs.length-P))) ((zs.drop (P-min P V)).take (min P V+min K (zs.length-P)))→Calls Tryz.prog 138 #[.slice a' (min P V+min K (zs.length-P)) (min P V+min K (zs.length-P)),.int .i64 ((min P V:Nat):Int)] w fun e w'=>∃n d:Nat,e=.returned (.tuple #[.int .i64 (n:Int),.int .i64 (d:Int)])∧IsBest (fun i=>zs.getD i 0) P (min P V) (min K (zs.length-P)) n d∧∃q,w'=w.drewN q):=qz fun a' ha=>by
   have hln:((zs.drop (P-min P V)).take (min P V+min K (zs.length-P))).length=min P V+min K (zs.length-P):=by simp;omega
   have:=y3i ((zs.drop (P-min P V)).take (min P V+min K (zs.length-P))) a' B (min P V) w (by rw [hln];exact ha) (fun z h=>hz z (List.mem_of_mem_drop (List.mem_of_mem_take h))) (by rw [hln];omega) (by rw [hln];omega) hm
   rw [hln] at this
   refine this.mono ?_
   rintro e w' ⟨n,d,rfl,hb,hq⟩
   refine ⟨n,d,rfl,?_,hq⟩
   rw [show min P V+min K (zs.length-P)-min P V=min K (zs.length-P) by omega] at hb
   have h5:=hb.shift (z:=fun i=>zs.getD i 0) (f:=P-min P V) (Nat.le_refl _) (fun i hi=>z0o _ _ _ _ hi)
   rw [show P-min P V+min P V=P by omega] at h5
   exact h5
  have HIS:Hid (∀n' d':Nat,IsBest (fun i=>zs.getD i 0) P (min P V) (min K (zs.length-P)) n' d'→z5m zs (P:Int) (V:Int) (K:Int) (n':Int) (d':Int) 0):=qz fun n' d' h=>.inr ⟨⟨h1,h2,h3,h4⟩,rfl,n',d',rfl,rfl,by simpa using h⟩
  have t1:¬ (P:Int)<0:=by omega
  have t2:¬ (zs.length:Int)<(P:Int):=by omega
  have t3:¬ (V:Int)<1:=by omega
  have t4:¬ (K:Int)<1:=by omega
  obtain ⟨n0,hn0⟩:∃n0,n0=zs.length:=⟨_,rfl⟩
  rw [←hn0] at t2 HLK HSK HIS ⊢
  obtain ⟨u,hu⟩:∃u,u=min P V:=⟨_,rfl⟩
  obtain ⟨T,hT⟩:∃T,T=u+min K (n0-P):=⟨_,rfl⟩
  rw [←hu,←hT] at HLK HSK
  rw [←hu] at HIS
  clear hr hz hm h1 h2 h3 h4 hT hu hn0
  go_enter Tryz.func109,Tryz.ntmps109
  go_wp2_with fail
  refine (uh HLK).mono ?_
  rintro e w' ⟨a',rfl,ha,hww⟩
  replace hww:=hww.symm
  subst hww
  have HS2:=qz (uh HSK a' ha)
  clear ha HLK HSK
  go_wp2_with fail
  refine (uh HS2).mono ?_
  rintro e w' ⟨n,d,rfl,hb,q,rfl⟩
  have HF:=qz (uh HIS n d hb)
  clear hb HS2 HIS
  go_wp2_with fail
  go_ret3
  exact ⟨n,d,0,rfl,uh HF,q,rfl⟩
 ·have HF:Hid (z5m zs p W M 0 0 2):=qz (.inl ⟨hok,rfl,rfl,rfl⟩)
  have hb:=y0k zs.length p W M hok
  obtain ⟨n0,hn0⟩:∃n0,n0=zs.length:=⟨_,rfl⟩
  rw [←hn0] at hb ⊢
  clear hr hz hm hok hn0
  rcases hb with t1|⟨t1,t2⟩|⟨t1,t2,t3⟩|⟨t1,t2,t3,t4⟩
  all_goals go_enter Tryz.func109,Tryz.ntmps109
  all_goals go_wp2_with fail
  all_goals go_ret3
  all_goals exact ⟨0,0,2,rfl,uh HF,0,rfl⟩
end T6
namespace D
open Go.RowKit Rang
attribute [local go_sem ↓] wp_at_zero wp_at_succ
def z4h (s sh a c:Nat):Nat :=
 if s≤8 then a/2^(8*(8-s))*11400714819323198485%18446744073709551616/2^sh
 else ((a*11400714819323198485%18446744073709551616) ^^^ c)*11400714819323198485%18446744073709551616/2^sh
theorem z6q (s sh a c r:Nat) (h:sh+r=64):z4h s sh a c<2^r:=by
 have e:18446744073709551616=2^sh*2^r:=by rw [←Nat.pow_add,h]
 unfold z4h
 split
 ·rw [Nat.div_lt_iff_lt_mul (Nat.pow_pos (by omega)),Nat.mul_comm (2^r),←e]
  exact Nat.mod_lt _ (by omega)
 ·rw [Nat.div_lt_iff_lt_mul (Nat.pow_pos (by omega)),Nat.mul_comm (2^r),←e]
  exact Nat.mod_lt _ (by omega)
theorem y3w (x S M p:Nat):((x*S%M/p:Nat):Int)=(x:Int)*(S:Int)%(M:Int)/(p:Int):=by simp only [Int.natCast_ediv,Int.natCast_emod,Int.natCast_mul]
theorem y4p (x S M:Nat):((x*S%M:Nat):Int)=(x:Int)*(S:Int)%(M:Int):=by simp only [Int.natCast_emod,Int.natCast_mul]
theorem y2k (k:Nat):((2^k:Nat):Int)=2^k:=by simp
theorem z7o (s sh a c:Nat) (h:s≤8):IntKind.u64.wrap ((a:Int)/2^(8*(8-s))*11400714819323198485)/2^sh=(z4h s sh a c:Int):=by
 rw [IntKind.wrap_u64,z4h,if_pos h,y3w,y2k,Int.natCast_ediv,y2k]
 rfl
theorem z8t (s sh a c:Nat) (h:¬s≤8) (hc:c<18446744073709551616):IntKind.u64.wrap (bits .xor .u64 (IntKind.u64.wrap ((a:Int)*11400714819323198485)) (c:Int)*11400714819323198485)/2^sh=(z4h s sh a c:Int):=by
 have e:IntKind.u64.wrap ((a:Int)*11400714819323198485)=((a*11400714819323198485%18446744073709551616:Nat):Int):=by rw [IntKind.wrap_u64,y4p];rfl
 rw [e,u64_xor_nat _ _ (Nat.mod_lt _ (by omega)) hc,IntKind.wrap_u64,z4h,if_neg h,y3w,y2k]
 rfl
theorem z8u (b o s sh a c:Nat) (w:World) (h0:w.cell? ⟨b,o,none⟩=some (.int .i64 (s:Int))) (h1:w.cell? ⟨b,o+1,none⟩=some (.int .i64 (sh:Int))) (hs:s≤16) (hsh:sh≤64) (ha:a<18446744073709551616) (hc:c<18446744073709551616) :
  Calls Tryz.prog 167 #[.pointer (some ⟨b,o,none⟩),.int .u64 (a:Int),.int .u64 (c:Int)] w fun e w'=>e=.returned (.int .u64 (z4h s sh a c:Int))∧∃q,w'=w.drewN q:=by
 by_cases h8:s≤8
 ·have h8i:(s:Int)≤8:=by omega
  have g0:(0:Int)≤8*(8-(s:Int)):=by omega
  have g1:(0:Int)≤(sh:Int):=by omega
  go_enter Tryz.func167,Tryz.ntmps167
  obtain ⟨k8,hk8⟩:∃k8:Nat,k8=8*(8-s):=⟨_,rfl⟩
  have hk:8*(8-(s:Int))=(k8:Int):=by omega
  have g2:(0:Int)≤(k8:Int):=by omega
  go_wp2_with fail
  go_quiet (fail)
  go_wp2_with fail
  go_ret
  refine ⟨?_,nq,rfl⟩
  rw [←z7o s sh a c h8]
  rfl
 ·have h8n:=h8
  have h8i:¬ (s:Int)≤8:=by omega
  have g1:(0:Int)≤(sh:Int):=by omega
  go_enter Tryz.func167,Tryz.ntmps167
  go_wp2_with fail
  go_ret
  refine ⟨?_,0,rfl⟩
  rw [←z8t s sh a c h8n hc]
  rfl
end D
namespace D
open Go.RowKit Rang
attribute [local go_sem ↓] wp_at_zero wp_at_succ
def Pls (w:World) (b n:Nat) (f:Nat→Nat):Prop:=∃cs,w.heap[b]?=some (.cells cs 21 (0,0))∧cs.size=n∧∀j,j<n→∃v:Nat,cs[j]?=some (.int .i32 (v:Int))∧v≤f j
theorem Pls.cell {w:World} {b n j:Nat} {f:Nat→Nat} (h:Pls w b n f) (hj:j<n):∃v:Nat,w.cell? ⟨b,j,none⟩=some (.int .i32 (v:Int))∧v≤f j:=by
 obtain ⟨cs,h1,_,h3⟩:=h
 obtain ⟨v,h4,h5⟩:=h3 j hj
 exact ⟨v,by simp only [World.cell?,h1];exact h4,h5⟩
theorem Pls.free {w:World} {b n:Nat} {f:Nat→Nat} (h:Pls w b n f) (j:Nat):w.frozen? ⟨b,j,none⟩=false:=by
 obtain ⟨cs,h1,_,_⟩:=h
 simp [World.frozen?,h1]
theorem Pls.lt {w:World} {b n:Nat} {f:Nat→Nat} (h:Pls w b n f):b<w.heap.size:=by
 obtain ⟨cs,h1,_,_⟩:=h
 exact z0c h1
theorem Pls.set {w:World} {b n j v:Nat} {f g:Nat→Nat} (h:Pls w b n f) (hv:v≤g j) (hg:∀i,i<n→i≠j→f i≤g i):Pls (w.setCell ⟨b,j,none⟩ (.int .i32 (v:Int))) b n g:=by
 obtain ⟨cs,h1,h2,h3⟩:=h
 refine ⟨_,heap_setCell_same w b j cs 21 _ h1,by simp [h2],fun i hi=>?_⟩
 by_cases e:i=j
 ·subst e
  exact ⟨v,by rw [Array.getElem?_setIfInBounds_self_of_lt (by omega)],hv⟩
 ·obtain ⟨u,h4,h5⟩:=h3 i hi
  exact ⟨u,by rw [Array.getElem?_setIfInBounds_ne (by omega)];exact h4,Nat.le_trans h5 (hg i hi e)⟩
theorem Pls.keep {w w':World} {b n:Nat} {f:Nat→Nat} (h:Pls w b n f) (e:w'.heap[b]?=w.heap[b]?):Pls w' b n f:=by
 obtain ⟨cs,h1,h2,h3⟩:=h
 exact ⟨cs,by rw [e];exact h1,h2,h3⟩
theorem Pls.mono {w:World} {b n:Nat} {f g:Nat→Nat} (h:Pls w b n f) (hg:∀i,i<n→f i≤g i):Pls w b n g:=by
 obtain ⟨cs,h1,h2,h3⟩:=h
 refine ⟨cs,h1,h2,fun i hi=>?_⟩
 obtain ⟨u,h4,h5⟩:=h3 i hi
 exact ⟨u,h4,Nat.le_trans h5 (hg i hi)⟩
structure IxB where
 xb:Nat
 lb:Nat
 la:Nat→Nat
 be:Nat→Nat
def IxB.own (x:IxB) (k:Nat):Prop:=k=x.xb∨∃i,i<4∧(k=x.la i∨k=x.be i)
structure ICh (x:IxB) (w w':World):Prop where
 os:w'.os=w.os
 tape:w'.tape=w.tape
 output:w'.output=w.output
 size:w.heap.size≤w'.heap.size
 keep:∀k,k<w.heap.size→¬x.own k→w'.heap[k]?=w.heap[k]?
theorem ICh.refl (x:IxB) (w:World):ICh x w w:=⟨rfl,rfl,rfl,Nat.le_refl _,fun _ _ _=>rfl⟩
theorem ICh.trans {x:IxB} {a b c:World} (h:ICh x a b) (k:ICh x b c):ICh x a c :=
 ⟨k.os.trans h.os,k.tape.trans h.tape,k.output.trans h.output,Nat.le_trans h.size k.size,fun i hi hn=>(k.keep i (Nat.lt_of_lt_of_le hi h.size) hn).trans (h.keep i hi hn)⟩
theorem ICh.of_below {x:IxB} {w w':World} (h:Below w.heap.size w w'):ICh x w w':=⟨h.os,h.tape,h.output,h.size,fun k hk _=>h.block k hk⟩
theorem ICh.drewN {x:IxB} {w w':World} (h:ICh x w w') (n:Nat):ICh x w (w'.drewN n):=⟨h.os,h.tape,h.output,h.size,h.keep⟩
theorem ICh.set {x:IxB} {w w':World} (h:ICh x w w') {b:Nat} (hb:x.own b) (j:Nat) (v:Value):ICh x w (w'.setCell ⟨b,j,none⟩ v) :=
 ⟨h.os,h.tape,h.output,by simpa using h.size,fun k hk hn=>by rw [heap_setCell_other _ _ _ _ (by show k≠b;intro e;subst e;exact hn hb)];exact h.keep k hk hn⟩
structure IxAt (w:World) (x:IxB) (tv:Value) (W c4 room N F:Nat) (M:Nat→Nat):Prop where
 cells:w.heap[x.xb]?=some (.cells #[tv,.int .i64 (W:Int),.slice (some ⟨x.lb,0,none⟩) 4 c4,.int .i64 (F:Int)] 164 (0,0))
 size:∀i,i<4→w.cell? ⟨x.lb,i*4,none⟩=some (.int .i64 ((2^(i+1):Nat):Int))
 shift:∀i,i<4→w.cell? ⟨x.lb,i*4+1,none⟩=some (.int .i64 ((64-room:Nat):Int))
 last:∀i,i<4→w.cell? ⟨x.lb,i*4+2,none⟩=some (.slice (some ⟨x.la i,0,none⟩) (2^room) (2^room))
 before:∀i,i<4→w.cell? ⟨x.lb,i*4+3,none⟩=some (.slice (some ⟨x.be i,0,none⟩) N N)
 ls:∀i,i<4→Pls w (x.la i) (2^room) (fun _=>M i)
 bs:∀i,i<4→Pls w (x.be i) N (fun j=>j)
 lbn:∀k,x.own k→x.lb≠k
 xn:∀i,i<4→x.la i≠x.xb∧x.be i≠x.xb
 ln:∀i j,i<4→j<4→x.la i≠x.be j∧(i≠j→x.la i≠x.la j∧x.be i≠x.be j)
 c4:4≤c4
 room:room≤20∧1≤room
 small:N≤1073741824
 fits:F≤N
theorem IxAt.keep {w w':World} {x:IxB} {tv:Value} {W c4 room N F:Nat} {M:Nat→Nat} (h:IxAt w x tv W c4 room N F M) (hk:∀k,x.own k∨k=x.lb→w'.heap[k]?=w.heap[k]?):IxAt w' x tv W c4 room N F M:=by
 have hc:∀o,w'.cell? ⟨x.lb,o,none⟩=w.cell? ⟨x.lb,o,none⟩:=fun o=>by simp only [World.cell?];rw [hk _ (.inr rfl)]
 exact ⟨by rw [hk _ (.inl (.inl rfl))];exact h.cells,fun i hi=>by rw [hc];exact h.size i hi,fun i hi=>by rw [hc];exact h.shift i hi,fun i hi=>by rw [hc];exact h.last i hi,fun i hi=>by rw [hc];exact h.before i hi,
  fun i hi=>(h.ls i hi).keep (hk _ (.inl (.inr ⟨i,hi,.inl rfl⟩))),fun i hi=>(h.bs i hi).keep (hk _ (.inl (.inr ⟨i,hi,.inr rfl⟩))),h.lbn,h.xn,h.ln,h.c4,h.room,h.small,h.fits⟩
theorem IxAt.own_lt {w:World} {x:IxB} {tv:Value} {W c4 room N F:Nat} {M:Nat→Nat} (h:IxAt w x tv W c4 room N F M):∀k,x.own k∨k=x.lb→k<w.heap.size:=by
 rintro k ((rfl|⟨i,hi,rfl|rfl⟩)|rfl)
 ·exact z0c h.cells
 ·exact (h.ls i hi).lt
 ·exact (h.bs i hi).lt
 ·exact z0i (h.size 0 (by omega))
theorem IxAt.below {w w':World} {x:IxB} {tv:Value} {W c4 room N F:Nat} {M:Nat→Nat} (h:IxAt w x tv W c4 room N F M) (hb:Below w.heap.size w w'):IxAt w' x tv W c4 room N F M :=
 h.keep (fun k hk=>hb.block k (h.own_lt k hk))
theorem IxAt.setB {w:World} {x:IxB} {tv:Value} {W c4 room N F:Nat} {M:Nat→Nat} (h:IxAt w x tv W c4 room N F M) (i p v:Nat) (hi:i<4) (hv:v≤p):IxAt (w.setCell ⟨x.be i,p,none⟩ (.int .i32 (v:Int))) x tv W c4 room N F M:=by
 have ho:∀k,k≠x.be i→(w.setCell ⟨x.be i,p,none⟩ (.int .i32 (v:Int))).heap[k]?=w.heap[k]?:=fun k hk=>heap_setCell_other _ _ _ _ hk
 have hc:∀o,(w.setCell ⟨x.be i,p,none⟩ (.int .i32 (v:Int))).cell? ⟨x.lb,o,none⟩=w.cell? ⟨x.lb,o,none⟩:=fun o=>by simp only [World.cell?];rw [ho _ (h.lbn _ (.inr ⟨i,hi,.inr rfl⟩))]
 refine ⟨by rw [ho _ (fun e=>(h.xn i hi).2 e.symm)];exact h.cells,fun i hi=>by rw [hc];exact h.size i hi,fun i hi=>by rw [hc];exact h.shift i hi,fun i hi=>by rw [hc];exact h.last i hi,fun i hi=>by rw [hc];exact h.before i hi,
  fun j hj=>(h.ls j hj).keep (ho _ (h.ln j i hj hi).1),fun j hj=>?_,h.lbn,h.xn,h.ln,h.c4,h.room,h.small,h.fits⟩
 by_cases e:j=i
 ·subst e
  exact (h.bs j hj).set hv (fun _ _ _=>Nat.le_refl _)
 ·exact (h.bs j hj).keep (ho _ ((h.ln j i hj hi).2 e).2)
theorem IxAt.setL {w:World} {x:IxB} {tv:Value} {W c4 room N F:Nat} {M M':Nat→Nat} (h:IxAt w x tv W c4 room N F M) (i q v:Nat) (hi:i<4) (hv:v≤M' i) (hM:∀j,j<4→M j≤M' j):IxAt (w.setCell ⟨x.la i,q,none⟩ (.int .i32 (v:Int))) x tv W c4 room N F M':=by
 have ho:∀k,k≠x.la i→(w.setCell ⟨x.la i,q,none⟩ (.int .i32 (v:Int))).heap[k]?=w.heap[k]?:=fun k hk=>heap_setCell_other _ _ _ _ hk
 have hc:∀o,(w.setCell ⟨x.la i,q,none⟩ (.int .i32 (v:Int))).cell? ⟨x.lb,o,none⟩=w.cell? ⟨x.lb,o,none⟩:=fun o=>by simp only [World.cell?];rw [ho _ (h.lbn _ (.inr ⟨i,hi,.inl rfl⟩))]
 refine ⟨by rw [ho _ (fun e=>(h.xn i hi).1 e.symm)];exact h.cells,fun i hi=>by rw [hc];exact h.size i hi,fun i hi=>by rw [hc];exact h.shift i hi,fun i hi=>by rw [hc];exact h.last i hi,fun i hi=>by rw [hc];exact h.before i hi,
  fun j hj=>?_,fun j hj=>(h.bs j hj).keep (ho _ (fun e=>(h.ln i j hi hj).1 e.symm)),h.lbn,h.xn,h.ln,h.c4,h.room,h.small,h.fits⟩
 by_cases e:j=i
 ·subst e
  exact (h.ls j hj).set hv (fun _ _ _=>hM j hj)
 ·exact ((h.ls j hj).keep (ho _ ((h.ln j i hj hi).2 e).1)).mono (fun _ _=>hM j hj)
theorem IxAt.setF {w:World} {x:IxB} {tv:Value} {W c4 room N F:Nat} {M:Nat→Nat} (h:IxAt w x tv W c4 room N F M) (F':Nat) (hF:F'≤N):IxAt (w.setCell ⟨x.xb,3,none⟩ (.int .i64 (F':Int))) x tv W c4 room N F' M:=by
 have ho:∀k,k≠x.xb→(w.setCell ⟨x.xb,3,none⟩ (.int .i64 (F':Int))).heap[k]?=w.heap[k]?:=fun k hk=>heap_setCell_other _ _ _ _ hk
 have hc:∀o,(w.setCell ⟨x.xb,3,none⟩ (.int .i64 (F':Int))).cell? ⟨x.lb,o,none⟩=w.cell? ⟨x.lb,o,none⟩:=fun o=>by simp only [World.cell?];rw [ho _ (h.lbn _ (.inl rfl))]
 exact ⟨by have:=heap_setCell_same w x.xb 3 _ 164 (.int .i64 (F':Int)) h.cells;exact this,fun i hi=>by rw [hc];exact h.size i hi,fun i hi=>by rw [hc];exact h.shift i hi,fun i hi=>by rw [hc];exact h.last i hi,fun i hi=>by rw [hc];exact h.before i hi,
  fun i hi=>(h.ls i hi).keep (ho _ (h.xn i hi).1),fun i hi=>(h.bs i hi).keep (ho _ (h.xn i hi).2),h.lbn,h.xn,h.ln,h.c4,h.room,h.small,hF⟩
end D
namespace D
open Go.RowKit Rang
attribute [local go_sem ↓] wp_at_zero wp_at_succ
def updM (M:Nat→Nat) (i v:Nat):Nat→Nat:=fun j=>if j=i then v else M j
theorem y4e {M:Nat→Nat} {i p:Nat} (h:M i≤p) (j:Nat):M j≤updM M i (p+1) j:=by
 unfold updM
 by_cases e:j=i
 ·rw [if_pos e,e];omega
 ·rw [if_neg e];exact Nat.le_refl _
theorem z2z {i:Nat} (hi:i<4):2^(i+1)≤16:=by
 have:2^(i+1)≤2^4:=Nat.pow_le_pow_right (by omega) (by omega)
 omega
theorem IxAt.drewN {w:World} {x:IxB} {tv:Value} {W c4 room N F:Nat} {M:Nat→Nat} (h:IxAt w x tv W c4 room N F M) (n:Nat):IxAt (w.drewN n) x tv W c4 room N F M:=h.keep (fun _ _=>rfl)
theorem y3v (x:IxB) (tv:Value) (W c4 room N F i p a c:Nat) (M:Nat→Nat) (w:World) (h:IxAt w x tv W c4 room N F M) (hi:i<4) (hp:p<N) (hM:M i≤p) (ha:a<18446744073709551616) (hc:c<18446744073709551616) :
  Calls Tryz.prog 165 #[.pointer (some ⟨x.lb,i*4,none⟩),.int .u64 (a:Int),.int .u64 (c:Int),.int .i64 (p:Int)] w fun e w'=>e=.returned (.tuple #[])∧IxAt w' x tv W c4 room N F (updM M i (p+1))∧ICh x w w':=by
 have HH:=qz (z8u x.lb (i*4) (2^(i+1)) (64-room) a c w (h.size i hi) (h.shift i hi) (z2z hi) (by omega) ha hc)
 have hlt:=z6q (2^(i+1)) (64-room) a c room (by have:=h.room;omega)
 have hr20:2^room≤2^20:=Nat.pow_le_pow_right (by omega) h.room.1
 generalize z4h (2^(i+1)) (64-room) a c=q at *
 obtain ⟨R,hR⟩:∃R,R=2^room:=⟨_,rfl⟩
 rw [←hR] at hlt hr20
 have HR:=qz hR
 have H:=qz h
 have hN:=h.small
 clear hR h
 go_enter Tryz.func165,Tryz.ntmps165
 go_wp2_with fail
 refine (uh HH).mono ?_
 rintro e w1 ⟨rfl,q0,h1⟩
 have HI:=qz ((uh H).drewN q0)
 have HC:Hid (ICh x w w1):=qz (by rw [h1];exact (ICh.refl x w).drewN q0)
 rw [←h1] at HI
 have d2:w1.drew.cell? ⟨x.lb,i*4+2,none⟩=_:=(uh HI).last i hi
 have d3:w1.drew.cell? ⟨x.lb,i*4+3,none⟩=_:=(uh HI).before i hi
 obtain ⟨v,d4,hv⟩:=((uh HI).ls i hi).cell (j:=q) (by rw [←uh HR];exact hlt)
 have d4':w1.drew.cell? ⟨x.la i,q,none⟩=_:=d4
 obtain ⟨v2,d5,_⟩:=((uh HI).bs i hi).cell (j:=p) hp
 have d5':w1.drew.cell? ⟨x.be i,p,none⟩=_:=d5
 have d6:w1.drew.frozen? ⟨x.be i,p,none⟩=false:=((uh HI).bs i hi).free p
 rw [←uh HR] at d2
 have hvp:v≤p:=by omega
 have hqi:(q:Int)<(R:Int):=by omega
 have hpi:(p:Int)<(N:Int):=by omega
 have HJ:Hid (IxAt (w1.setCell ⟨x.be i,p,none⟩ (.int .i32 (v:Int))).drew x tv W c4 room N F M):=qz (((uh HI).setB i p v hi hvp).drewN 1)
 have HD:Hid (ICh x w (w1.setCell ⟨x.be i,p,none⟩ (.int .i32 (v:Int))).drew):=qz (((uh HC).set (b:=x.be i) (.inr ⟨i,hi,.inr rfl⟩) p (.int .i32 (v:Int))).drewN 1)
 have e2:=(uh HJ).last i hi
 rw [←uh HR] at e2
 obtain ⟨v3,e4,_⟩:=((uh HJ).ls i hi).cell (j:=q) (by rw [←uh HR];exact hlt)
 have e6:=((uh HJ).ls i hi).free q
 have HK:Hid (IxAt _ x tv W c4 room N F (updM M i (p+1))):=qz ((uh HJ).setL (M':=updM M i (p+1)) i q (p+1) hi (by unfold updM;rw [if_pos rfl];exact Nat.le_refl _) (fun j _=>y4e hM j))
 have HE:=qz ((uh HD).set (b:=x.la i) (.inr ⟨i,hi,.inl rfl⟩) q (.int .i32 ((p+1:Nat):Int)))
 have fp:IntKind.i32.wrap ((p:Int)+1)=((p+1:Nat):Int):=by rw [IntKind.wrap_i32];omega
 have fq:((p+1:Nat):Int)=(p:Int)+1:=by omega
 rw [fq] at HK HE fp
 clear H HH h1 d4 d5
 go_wp2_with fail
 go_region_law (fail)
 all_goals (
  clear d2 d3 d4' d5' d6
  go_wp2_with fail
  go_end0
  exact ⟨rfl,uh HK,uh HE⟩)
end D
namespace D
open Go.RowKit Rang
attribute [local go_sem ↓] wp_at_zero wp_at_succ
def z0m (chv ov:Value) (c:Enc):Array Value:=#[.bool true,chv,.int .u64 (c.low:Int),.int .u32 (c.rng:Int),.int .u8 (c.kept:Int),.int .i64 (c.wait:Int),ov]
structure PAt (B:Nat) (w:World) (pb:Nat) (chv ov:Value) (c:Enc):Prop where
 cells:w.heap[pb]?=some (.cells (z0m chv ov c) 115 (0,0))
 row:w.ownsRow B 5 1 ov c.out.length (c.out.map bv)
 lo:B≤pb
section
variable {B:Nat} {w:World} {pb:Nat} {chv ov:Value} {c:Enc}
theorem PAt.apart (h:PAt B w pb chv ov c):ov.ownBlock≠some pb:=by
 intro e
 rcases h.row.2 with ⟨e1,e2⟩|⟨g,cap,cur,e1,hb,hh,_⟩
 ·rw [e1] at e;cases e
 ·rw [e1] at e
  obtain rfl:g=pb:=Option.some.inj e
  have:=h.cells
  rw [hh] at this
  injection this with this
  injection this with _ h2
  cases h2
theorem PAt.free (h:PAt B w pb chv ov c) (i:Nat):w.frozen? ⟨pb,i,none⟩=false:=by simp [World.frozen?,h.cells]
theorem PAt.made (h:PAt B w pb chv ov c):w.cell? ⟨pb,0,none⟩=some (.bool true):=by simp [World.cell?,h.cells,z0m]
theorem PAt.chs (h:PAt B w pb chv ov c):w.cell? ⟨pb,1,none⟩=some chv:=by simp [World.cell?,h.cells,z0m]
theorem PAt.low (h:PAt B w pb chv ov c):w.cell? ⟨pb,2,none⟩=some (.int .u64 (c.low:Int)):=by simp [World.cell?,h.cells,z0m]
theorem PAt.rng (h:PAt B w pb chv ov c):w.cell? ⟨pb,3,none⟩=some (.int .u32 (c.rng:Int)):=by simp [World.cell?,h.cells,z0m]
theorem PAt.kept (h:PAt B w pb chv ov c):w.cell? ⟨pb,4,none⟩=some (.int .u8 (c.kept:Int)):=by simp [World.cell?,h.cells,z0m]
theorem PAt.wait (h:PAt B w pb chv ov c):w.cell? ⟨pb,5,none⟩=some (.int .i64 (c.wait:Int)):=by simp [World.cell?,h.cells,z0m]
theorem PAt.out (h:PAt B w pb chv ov c):w.cell? ⟨pb,6,none⟩=some ov:=by simp [World.cell?,h.cells,z0m]
theorem PAt.setField (h:PAt B w pb chv ov c) (i:Nat) (v:Value) (c':Enc) (hc:(z0m chv ov c).setIfInBounds i v=z0m chv ov c') (ho:c'.out=c.out):PAt B (w.setCell ⟨pb,i,none⟩ v) pb chv ov c'∧Touch w (w.setCell ⟨pb,i,none⟩ v) pb ov ov:=by
 refine ⟨⟨?_,?_,h.lo⟩,⟨rfl,rfl,rfl,by simp,fun k hk h1 h2=>heap_setCell_other _ _ _ _ h1,fun b e=>.inl e⟩⟩
 ·rw [heap_setCell_same w pb i _ 115 v h.cells,hc]
 ·rw [ho]
  exact z1k h.row fun g e=>heap_setCell_other _ _ _ _ (fun e'=>h.apart (by rw [e,show g=pb from e']))
theorem PAt.drewN (h:PAt B w pb chv ov c) (q:Nat):PAt B (w.drewN q) pb chv ov c:=⟨h.cells,h.row,h.lo⟩
end
theorem PAt.grown {B:Nat} {w w':World} {pb:Nat} {chv ov v':Value} {c:Enc} {X:Nat} (h:PAt B w pb chv ov c) (h1:w'.ownsRow B 5 1 v' (c.out++[X]).length ((c.out++[X]).map bv)) (h2:∀k,k<w.heap.size→ov.ownBlock≠some k→w'.heap[k]?=w.heap[k]?) (h3:w.heap.size≤w'.heap.size) (h4:w'.os=w.os∧w'.tape=w.tape∧w'.output=w.output) (h5:∀b,v'.ownBlock=some b→ov.ownBlock=some b∨w.heap.size≤b) :
  PAt B (w'.setCell ⟨pb,6,none⟩ v') pb chv v' { c with out:=c.out++[X] }∧Touch w (w'.setCell ⟨pb,6,none⟩ v') pb ov v'∧w'.cell? ⟨pb,6,none⟩=some ov∧w'.frozen? ⟨pb,6,none⟩=false:=by
 have hlt:=z0c h.cells
 have hc:w'.heap[pb]?=some (.cells (z0m chv ov c) 115 (0,0)):=by rw [h2 pb hlt h.apart];exact h.cells
 refine ⟨⟨?_,?_,h.lo⟩,⟨h4.1,h4.2.1,h4.2.2,by simpa using h3,fun k hk e1 e2=>?_,h5⟩,by simp [World.cell?,hc,z0m],by simp [World.frozen?,hc]⟩
 ·rw [heap_setCell_same w' pb 6 _ 115 v' hc]
  rfl
 ·refine z1k h1 fun g e=>heap_setCell_other _ _ _ _ ?_
  show g≠pb
  rintro rfl
  rcases h5 g e with h6|h6
  ·exact h.apart h6
  ·omega
 ·rw [heap_setCell_other _ _ _ _ e1];exact h2 k hk e2
theorem y3r {ops:Array Oper} {rest:List Oper} {o:Oper} {a:Act} {Q:Exit→Act→World→Prop} {ws:World} (hgd:o.guard=none) (s x:Operand)
  (ho:o.op=.call { callee:=.builtin .append,args:=#[s,x],argTypes:=#[32,32] }) (B:Nat) (va:Value) (xs:List Nat) (X:Nat) (hs:a.eval s=va) (hx:a.eval x=.slice (some ⟨ws.heap.size,0,none⟩) 1 1)
  (hA:ws.ownsRow B 5 1 va xs.length (xs.map bv)) (hB:B≤ws.heap.size) (hlen:xs.length+1≤140737488355328)
  (h:∀v' w',w'.ownsRow B 5 1 v' (xs++[X]).length ((xs++[X]).map bv)→(∀k,k<ws.heap.size→va.ownBlock≠some k→w'.heap[k]?=ws.heap[k]?)→ws.heap.size≤w'.heap.size→(w'.os=ws.os∧w'.tape=ws.tape∧w'.output=ws.output)→(∀b,v'.ownBlock=some b→va.ownBlock=some b∨ws.heap.size≤b)→wpList Tryz.prog ops Q rest (a.put o.dst v') w') :
  wpList Tryz.prog ops Q (o :: rest) a (ws.alloc (.cells #[bv X] 5)):=by
 obtain ⟨i0,hi,hz0,hz1,hz2⟩:=info_parts info5
 refine wpList_append_own_at (ws.alloc (.cells #[bv X] 5)) hgd s x 32 ho B 5 i0 (.int .u8 0) 1 1 Tryz.underlying32 hi hz0 hz1 hz2 rfl (by decide) va xs.length (xs.map bv) hs (hA.alloc _) ⟨ws.heap.size,0,none⟩ 1 1 [bv X] hx rfl ?_ (by intro u hu;rw [List.mem_singleton] at hu;subst hu;rfl) (by unfold maxLen;omega) (by omega) (by simp;omega) ?_
 ·intro j u hj
  cases j with
  | zero =>
   have e:(⟨ws.heap.size,0,none⟩:Addr).add 0=⟨ws.heap.size,0,none⟩:=by simp [Addr.add]
   rw [e]
   simp only [World.cell?,heap_alloc_new]
   simpa using hj
  | succ j=>simp at hj
 ·intro v' w' h2 h3 _ h5
  refine h v' w' (by rw [List.length_append,List.map_append];exact h2) (fun k hk hne=>?_) (by have:=h3.size;simp at this;omega) ⟨h3.os,h3.tape,h3.output⟩ (fun b e=>?_)
  ·rw [h3.block k (by simp;omega) (fun e=>hne e.symm),Below.heap_alloc _ _ _ hk]
  ·rcases h5 with h5|h5
   ·exact .inl (by rw [←h5,e])
   ·rw [e] at h5;have:=Option.some.inj h5;simp at this;exact .inr (by omega)
theorem z5a (B pb:Nat) (w:World) (chv ov:Value) (c:Enc) (h:PAt B w pb chv ov c) (hlow:c.low<8589934592) (hk:c.kept<256) (hw:1≤c.wait∧c.out.length+c.wait≤100000000000001) (hB:B≤w.heap.size) :
  Calls Tryz.prog 54 #[.pointer (some ⟨pb,0,none⟩)] w fun e w'=>e=.returned (.tuple #[])∧∃ov',PAt B w' pb chv ov' (z0w c)∧Touch w w' pb ov ov':=by
 have c1:=h.low
 obtain ⟨low,rng,kept,wait,out⟩:=c
 simp only at hlow hk hw c1
 obtain ⟨rs,hrs⟩:∃rs,rs=low%16777216:=⟨_,rfl⟩
 have hrs2:rs<16777216:=by omega
 have HRS:=qz hrs
 have HE:=qz h
 have hand:bits .and .u64 (low:Int) 16777215=(rs:Int):=by
  rw [show (16777215:Int)=((16777215:Nat):Int) from rfl,u64_and_nat low 16777215 (by omega) (by decide),hrs]
  exact congrArg Int.ofNat (Nat.and_two_pow_sub_one_eq_mod low 24)
 clear h
 by_cases hc:low<4278190080∨4294967295<low
 ·obtain ⟨cy,hcy⟩:∃cy,cy=low/4294967296:=⟨_,rfl⟩
  have fcy:(low:Int)/4294967296=(cy:Int):=by omega
  have hcy1:cy≤1:=by omega
  obtain ⟨tp,htp⟩:∃tp,tp=low/16777216%256:=⟨_,rfl⟩
  have ftp:(low:Int)/16777216%256=(tp:Int):=by omega
  have htp2:tp<256:=by omega
  have HSH:=qz (z7x (rng:=rng) (kept:=kept) (wait:=wait) (out:=out) hc)
  rw [←hcy,←htp,←hrs] at HSH
  clear hrs hcy htp
  go_enter Tryz.func54,Tryz.ntmps54
  go_upto_region 0 with fail
  go_cut [14] from 3 to 13 (fun v wc=>v=.bool true∧w=wc)
  case first =>
   by_cases h1:low<4278190080
   ·have t2:(low:Int)<4278190080:=by omega
    go_wp2_with fail
    go_meet
    exact ⟨rfl,rfl⟩
   ·have t2:¬ (low:Int)<4278190080:=by omega
    have t3:(4294967296:Int)≤(low:Int):=by omega
    go_wp2_with fail
    go_meet
    exact ⟨rfl,rfl⟩
  case rest =>
   obtain ⟨rfl,rfl⟩:=hcut
   obtain ⟨X,hX⟩:∃X,X=(kept+cy)%256:=⟨_,rfl⟩
   obtain ⟨Y,hY⟩:∃Y,Y=(255+cy)%256:=⟨_,rfl⟩
   have f2:((kept:Int)+(cy:Int))%256=(X:Int):=by omega
   have f3:(255+(cy:Int))%256=(Y:Int):=by omega
   have f4:IntKind.u8.wrap ((kept:Int)+(cy:Int))=(X:Int):=by rw [IntKind.wrap_u8'];omega
   have f5:IntKind.u8.wrap (255+(cy:Int))=(Y:Int):=by rw [IntKind.wrap_u8'];omega
   have d4:w.drew.cell? ⟨pb,4,none⟩=some (.int .u8 (kept:Int)):=(uh HE).kept
   have d6:w.drew.cell? ⟨pb,6,none⟩=some ov:=(uh HE).out
   have e6:∀O,(w.alloc O).drew.cell? ⟨pb,6,none⟩=some ov:=fun O=>by
    show (w.alloc O).cell? _=_
    simp only [World.cell?]
    rw [Below.heap_alloc w O pb (z0c (uh HE).cells)]
    exact (uh HE).out
   have e4:∀O,(w.alloc O).drew.cell? ⟨pb,4,none⟩=some (.int .u8 (kept:Int)):=fun O=>by
    show (w.alloc O).cell? _=_
    simp only [World.cell?]
    rw [Below.heap_alloc w O pb (z0c (uh HE).cells)]
    exact (uh HE).kept
   have HXX:=qz hX
   have HYY:=qz hY
   clear hX hY
   go_upto_region 2 with fail
   go_cut [2] from 21 to 35 (fun v wc=>v=.int .u8 (cy:Int)∧Hid (∃ov2,PAt B wc pb chv ov2 ⟨low,rng,kept,wait,out++[X]⟩∧Touch w wc pb ov ov2))
   case first =>
    go_region_law (refine y0c (ws:=w.drew) rfl (.tmp 25) (.tmp 32) rfl B ov out X (by simp [go_sem]) (by simp [go_sem]) (uh HE).row hB (by omega) ?_;intro v3 w3 h1 h2 h3 h4 h5;obtain ⟨a3,n3,k3,e3⟩:=z3h h1;subst e3;have HG:=qz ((uh HE).drewN 1 |>.grown h1 h2 h3 h4 h5);have g1:=(uh HG).2.2.1;have g2:=(uh HG).2.2.2;clear h1 h2 h3 h4 h5)
    all_goals (go_wp2_with fail;go_meet;exact ⟨rfl,qz ⟨_,(uh HG).1,((Touch.refl _ _ _).drewN 1).trans (uh HG).2.1⟩⟩)
   case rest =>
    obtain ⟨rfl,hcut⟩:=hcut
    obtain ⟨ov2,h1,h2⟩:=uh hcut
    have H1:=qz h1
    have H2:=qz h2
    have c5:=h1.wait
    clear h1 h2 hcut d4 d6 e6 e4 c1 f2 f4 HE
    obtain ⟨m,hm⟩:∃m,wait=m+1:=⟨wait-1,by omega⟩
    have fm:IntKind.i64.wrap ((wait:Int)-1)=(m:Int):=by rw [IntKind.wrap_i64];omega
    have fm2:wrap64 ((wait:Int)-1)=(m:Int):=by rw [IntWalk.wrap64_in _ (by omega)];omega
    have fm3:(wait:Int)-1=(m:Int):=by omega
    have HM:=qz hm
    have hmb:out.length+m≤100000000000000:=by omega
    clear hm
    go_upto_region 4 with fail
    go_loopg [41] m (fun gk d ws=>∃ (i:Nat) (ov':Value),i+gk=m∧d=.int .i64 (i:Int)∧Hid (PAt B ws pb chv ov' ⟨low,rng,kept,wait,out++(X :: List.replicate i Y)⟩)∧Hid (Touch w ws pb ov ov'))
    case atStart=>exact ⟨0,ov2,by omega,rfl,H1,H2⟩
    case round =>
     clear H1 H2
     obtain ⟨i,ov',hi,rfl,HE,HT⟩:=hrel
     by_cases h0:i<m
     ·have t0:(i:Int)<(m:Int):=by omega
      have e6:=(uh HE).out
      have HL:Hid ((out++(X :: List.replicate i Y)).length+1≤140737488355328∧B≤wr.heap.size):=qz ⟨by simp;omega,Nat.le_trans hB (uh HT).size⟩
      go_wp2_with (at_builtin;refine y3r (ws:=wr) rfl (.tmp 47) (.tmp 50) rfl B ov' (out++(X :: List.replicate i Y)) Y (by simp [go_sem]) (by simp [go_sem]) (uh HE).row (uh HL).2 (uh HL).1 ?_;intro v3 w3 h1 h2 h3 h4 h5;obtain ⟨a3,n3,k3,e3⟩:=z3h h1;subst e3;have HG:=qz ((uh HE).grown h1 h2 h3 h4 h5);have g1:=(uh HG).2.2.1;have g2:=(uh HG).2.2.2;clear h1 h2 h3 h4 h5)
      go_roundg (m-(i+1))
      case measure=>omega
      case rel =>
       refine ⟨i+1,_,by omega,by go_num,qz ?_,qz ((uh HT).trans (uh HG).2.1)⟩
       have:=(uh HG).1
       rw [List.replicate_succ',←List.cons_append,←List.append_assoc]
       exact this
     ·obtain rfl:m=i:=by omega
      have t0:¬ (m:Int)<(m:Int):=by omega
      have c2:=(uh HE).low
      have c5':=(uh HE).wait
      have f2:=(uh HE).free 2
      have f4:=(uh HE).free 4
      have f5':=(uh HE).free 5
      have c4:=(uh HE).kept
      have h3:=(uh HE).setField 4 (.int .u8 (tp:Int)) ⟨low,rng,tp,wait,out++(X :: List.replicate m Y)⟩ rfl rfl
      have h4:=h3.1.setField 5 (.int .i64 0) ⟨low,rng,tp,0,out++(X :: List.replicate m Y)⟩ rfl rfl
      have h5:=h4.1.setField 5 (.int .i64 1) ⟨low,rng,tp,1,out++(X :: List.replicate m Y)⟩ rfl rfl
      have h6:=h5.1.setField 2 (.int .u64 ((rs:Int)*256)) ⟨rs*256,rng,tp,1,out++(X :: List.replicate m Y)⟩ (by simp [z0m]) rfl
      have H6:=qz h6.1
      have H7:=qz (((((uh HT).trans h3.2).trans h4.2).trans h5.2).trans h6.2)
      have fs:(rs:Int)*256%18446744073709551616=(rs:Int)*256:=by omega
      have ft:(low:Int)/16777216%18446744073709551616=(low:Int)/16777216:=by omega
      clear h3 h4 h5 h6
      go_wp2_with fail
      go_end0
      rw [uh HSH]
      refine ⟨rfl,ov',?_,uh H7⟩
      have h8:=uh H6
      rw [uh HXX,uh HYY] at h8
      rw [uh HM]
      exact h8
 ·have t2:¬ (low:Int)<4278190080:=by omega
  have t3:¬ (4294967296:Int)≤(low:Int):=by omega
  have HSH:Hid (z0w ⟨low,rng,kept,wait,out⟩=⟨rs*256,rng,kept,wait+1,out⟩):=qz (by unfold z0w;rw [if_neg hc,hrs])
  have c4:=(uh HE).wait
  have f4:=(uh HE).free 5
  have f1:=(uh HE).free 2
  have h4:=(uh HE).setField 5 (.int .i64 ((wait:Int)+1)) ⟨low,rng,kept,wait+1,out⟩ (by simp [z0m]) rfl
  have h5:=h4.1.setField 2 (.int .u64 ((rs:Int)*256)) ⟨rs*256,rng,kept,wait+1,out⟩ (by simp [z0m]) rfl
  have H6:=qz h5.1
  have H7:=qz (h4.2.trans h5.2)
  have fs:(rs:Int)*256%18446744073709551616=(rs:Int)*256:=by omega
  have fw:IntKind.i64.wrap ((wait:Int)+1)=(wait:Int)+1:=by rw [IntKind.wrap_i64];omega
  clear h4 h5 hrs
  go_enter Tryz.func54,Tryz.ntmps54
  go_wp2_with fail
  go_end0
  rw [uh HSH]
  exact ⟨rfl,ov,uh H6,uh H7⟩
end D
namespace D
open Go.RowKit Rang
attribute [local go_sem ↓] wp_at_zero wp_at_succ
structure PTame (c:Enc):Prop where
 low:c.low<8589934592
 kept:c.kept<256
 wait:1≤c.wait∧c.out.length+c.wait≤100000000000001
theorem z2i (B pb:Nat) (w:World) (chv ov:Value) (c:Enc) (h:PAt B w pb chv ov c) (ht:PTame c) (h1:65536≤c.rng) (h2:c.rng<4294967296) (hB:B≤w.heap.size) :
  Calls Tryz.prog 168 #[.pointer (some ⟨pb,0,none⟩)] w fun e w'=>e=.returned (.tuple #[])∧∃ov',PAt B w' pb chv ov' (z1n c)∧Touch w w' pb ov ov':=by
 obtain ⟨low,rng,kept,wait,out⟩:=c
 simp only at h1 h2
 have HT:=qz ht
 have HE:=qz h
 clear h ht
 by_cases hr:rng<16777216
 ·have HS:Hid (z1n ⟨low,rng,kept,wait,out⟩=z0w ⟨low,rng*256,kept,wait,out⟩):=qz (by unfold z1n;rw [if_pos hr])
  go_enter Tryz.func168,Tryz.ntmps168
  go_wp2_with fail
  go_loopg [] 1 (fun gk ws=>(gk=1∧w=ws)∨(gk=0∧Hid (∃ov' c',PAt B ws pb chv ov' c'∧c'=z0w ⟨low,rng*256,kept,wait,out⟩∧c'.rng=rng*256∧Touch w ws pb ov ov')))
  case atStart=>exact .inl ⟨rfl,rfl⟩
  case round =>
   rcases hrel with ⟨rfl,rfl⟩|⟨rfl,HR⟩
   ·have c2:=(uh HE).rng
    have f2:=(uh HE).free 3
    have t2:(rng:Int)<16777216:=by omega
    have fs:(rng:Int)*256%4294967296=(rng:Int)*256:=by omega
    have h3:=(uh HE).setField 3 (.int .u32 ((rng:Int)*256)) ⟨low,rng*256,kept,wait,out⟩ (by simp [z0m]) rfl
    have HC:=qz (z5a B pb _ chv ov _ h3.1 (uh HT).low (uh HT).kept (uh HT).wait (by simpa using hB))
    have HT3:=qz h3.2
    clear h3
    go_wp2_with fail
    refine (uh HC).mono ?_
    rintro e w1 ⟨rfl,ov',h4,h5⟩
    have H4:=qz h4
    have H5:=qz ((uh HT3).trans h5)
    clear h4 h5 HC
    go_wp2_with fail
    go_roundg 0
    case measure=>omega
    case rel=>exact .inr ⟨rfl,qz ⟨ov',_,uh H4,rfl,(z5e _).2,uh H5⟩⟩
   ·obtain ⟨ov',c',h3,h4,h5,h6⟩:=uh HR
    have c2:=h3.rng
    rw [h5] at c2
    have t2:¬ ((rng*256:Nat):Int)<16777216:=by omega
    have H3:=qz h3
    have H4:=qz h4
    have H6:=qz h6
    clear h3 h4 h5 h6 HR
    obtain ⟨R,hR⟩:∃R,R=rng*256:=⟨_,rfl⟩
    rw [←hR] at c2 t2
    clear hR
    go_wp2_with fail
    go_end0
    rw [uh HS,←uh H4]
    exact ⟨rfl,ov',uh H3,uh H6⟩
 ·have HS:Hid (z1n ⟨low,rng,kept,wait,out⟩=⟨low,rng,kept,wait,out⟩):=qz (by unfold z1n;rw [if_neg hr])
  have c2:=(uh HE).rng
  have t2:¬ (rng:Int)<16777216:=by omega
  have t3:decide ((rng:Int)<16777216)=false:=decide_eq_false t2
  clear h1 h2 hr t2
  go_enter Tryz.func168,Tryz.ntmps168
  go_wp2_with fail
  go_loopg [] 0 (fun gk ws=>w=ws∧gk=0)
  case atStart=>exact ⟨rfl,rfl⟩
  case round =>
   obtain ⟨rfl,hgk⟩:=hrel
   clear hgk
   go_wp2_with fail
   go_end0
   rw [uh HS]
   exact ⟨rfl,ov,uh HE,Touch.refl _ _ _⟩
def PCh (w:World) (gc:Nat) (ch:List Nat):Prop:=w.heap[gc]?=some (.cells (ch.map fun p:Nat=>Value.int .u16 (p:Int)).toArray 148 (0,0))
theorem PCh.cell {w:World} {gc:Nat} {ch:List Nat} (h:PCh w gc ch) (i:Nat) (hi:i<ch.length):w.cell? ⟨gc,i,none⟩=some (.int .u16 ((ch.getD i 0:Nat):Int)):=by
 simp only [World.cell?,show w.heap[gc]?=_ from h]
 simp [List.getElem?_map,List.getElem?_eq_getElem hi,List.getD_eq_getElem?_getD]
theorem PCh.free {w:World} {gc:Nat} {ch:List Nat} (h:PCh w gc ch) (i:Nat):w.frozen? ⟨gc,i,none⟩=false:=by simp [World.frozen?,show w.heap[gc]?=_ from h]
theorem PCh.set {w:World} {gc:Nat} {ch:List Nat} (h:PCh w gc ch) (i x:Nat):PCh (w.setCell ⟨gc,i,none⟩ (.int .u16 (x:Int))) gc (ch.set i x):=by
 unfold PCh
 rw [heap_setCell_same w gc i _ 148 _ h]
 simp [List.map_set]
theorem PCh.of {w w':World} {gc:Nat} {ch:List Nat} (h:PCh w gc ch) (e:w'.heap[gc]?=w.heap[gc]?):PCh w' gc ch:=by
 unfold PCh
 rw [e]
 exact h
theorem PCh.lt {w:World} {gc:Nat} {ch:List Nat} (h:PCh w gc ch):gc<w.heap.size:=z0c h
theorem PAt.notch {B:Nat} {w:World} {pb gc:Nat} {chv ov:Value} {c:Enc} {ch:List Nat} (h:PAt B w pb chv ov c) (h':PCh w gc ch):gc≠pb∧ov.ownBlock≠some gc:=by
 constructor
 ·rintro rfl
  have:=h.cells
  rw [show w.heap[gc]?=_ from h'] at this
  injection this with this
  injection this with _ h2
  cases h2
 ·intro e
  rcases h.row.2 with ⟨e1,e2⟩|⟨g,cap,cur,e1,hb,hh,_⟩
  ·rw [e1] at e;cases e
  ·rw [e1] at e
   obtain rfl:g=gc:=Option.some.inj e
   rw [show w.heap[g]?=_ from h'] at hh
   injection hh with hh
   injection hh with _ h2
   cases h2
structure PC (B:Nat) (w:World) (pb gc:Nat) (ov:Value) (c:Enc) (ch:List Nat):Prop where
 enc:PAt B w pb (.slice (some ⟨gc,0,none⟩) ch.length ch.length) ov c
 chs:PCh w gc ch
 lo:B≤gc
theorem PC.step {B:Nat} {w w':World} {pb gc:Nat} {ov ov':Value} {c c':Enc} {ch:List Nat} (h:PC B w pb gc ov c ch) (h1:PAt B w' pb (.slice (some ⟨gc,0,none⟩) ch.length ch.length) ov' c') (h2:Touch w w' pb ov ov'):PC B w' pb gc ov' c' ch∧Tch w w' pb gc 0 ov ov':=by
 have h3:=h.enc.notch h.chs
 exact ⟨⟨h1,h.chs.of (h2.keep gc h.chs.lt h3.1 h3.2),h.lo⟩,h2.wide gc 0⟩
theorem PC.setCh {B:Nat} {w:World} {pb gc:Nat} {ov:Value} {c:Enc} {ch:List Nat} (h:PC B w pb gc ov c ch) (i x:Nat):PC B (w.setCell ⟨gc,i,none⟩ (.int .u16 (x:Int))) pb gc ov c (ch.set i x)∧Tch w (w.setCell ⟨gc,i,none⟩ (.int .u16 (x:Int))) pb gc 0 ov ov:=by
 have h3:=h.enc.notch h.chs
 refine ⟨⟨?_,h.chs.set i x,h.lo⟩,⟨rfl,rfl,rfl,by simp,fun k hk _ h1 _=>heap_setCell_other _ _ _ _ h1,fun b e=>.inl e⟩⟩
 rw [List.length_set]
 exact ⟨by rw [heap_setCell_other _ _ _ _ (show pb≠gc from fun e=>h3.1 e.symm)];exact h.enc.cells,z1k h.enc.row fun g e=>heap_setCell_other _ _ _ _ (show g≠gc from fun e'=>h3.2 (by rw [e,e'])),h.enc.lo⟩
theorem PC.drewN {B:Nat} {w:World} {pb gc:Nat} {ov:Value} {c:Enc} {ch:List Nat} (h:PC B w pb gc ov c ch) (q:Nat):PC B (w.drewN q) pb gc ov c ch:=⟨h.enc.drewN q,h.chs,h.lo⟩
theorem y0n (w:World) (gc:Nat) (ch:List Nat) (rng i:Nat) (h:PCh w gc ch) (hi:i<ch.length) (hr:rng<4294967296) (hp:ch.getD i 0≤2017) :
  Calls Tryz.prog 149 #[.slice (some ⟨gc,0,none⟩) ch.length ch.length,.int .u32 (rng:Int),.int .i64 (i:Int)] w fun e w'=>e=.returned (.int .u32 ((rng/2048*ch.getD i 0:Nat):Int))∧w'=w:=by
 obtain ⟨n,hn⟩:∃n,n=ch.length:=⟨_,rfl⟩
 obtain ⟨p,hpp⟩:∃p,p=ch.getD i 0:=⟨_,rfl⟩
 have cp:=h.cell i hi
 rw [←hpp] at cp hp ⊢
 rw [←hn] at hi ⊢
 obtain ⟨q,hq⟩:∃q,q=rng/2048:=⟨_,rfl⟩
 rw [←hq]
 have fq:(rng:Int)/2048=(q:Int):=by omega
 have hq2:q<2097152:=by omega
 have hb:q*p≤q*2017:=Nat.mul_le_mul_left _ hp
 obtain ⟨b,hb2⟩:∃b,b=q*p:=⟨_,rfl⟩
 rw [←hb2] at hb ⊢
 have fb:(q:Int)*(p:Int)=(b:Int):=by rw [hb2];simp
 have fbm:(b:Int)%4294967296=(b:Int):=by omega
 have fpm:(p:Int)%4294967296=(p:Int):=by omega
 have ti:(i:Int)<(n:Int):=by omega
 clear hb2 hq hpp hn h hb hq2
 go_enter Tryz.func149,Tryz.ntmps149
 go_wp2_with fail
 go_ret
 exact ⟨rfl,rfl⟩
theorem y0v (w:World) (gc:Nat) (ch:List Nat) (i:Nat) (bit:Bool) (h:PCh w gc ch) (hi:i<ch.length) (hp:31≤ch.getD i 0∧ch.getD i 0≤2017) :
  Calls Tryz.prog 151 #[.slice (some ⟨gc,0,none⟩) ch.length ch.length,.int .i64 (i:Int),.int .i64 (bit.toNat:Int)] w fun e w'=>e=.returned (.tuple #[])∧∃q,w'=(w.drewN q).setCell ⟨gc,i,none⟩ (.int .u16 ((after (ch.getD i 0) bit:Nat):Int)):=by
 obtain ⟨n,hn⟩:∃n,n=ch.length:=⟨_,rfl⟩
 obtain ⟨p,hpp⟩:∃p,p=ch.getD i 0:=⟨_,rfl⟩
 have cp:w.drew.cell? ⟨gc,i,none⟩=some (.int .u16 (p:Int)):=by rw [hpp];exact h.cell i hi
 have cf:w.drew.frozen? ⟨gc,i,none⟩=false:=h.free i
 rw [←hpp] at hp ⊢
 rw [←hn] at hi ⊢
 have ti:(i:Int)<(n:Int):=by omega
 clear hpp hn h
 cases bit
 ·have e:after p false=p+(2048-p)/32:=rfl
  rw [e]
  obtain ⟨q,hq⟩:∃q,q=(2048-p)/32:=⟨_,rfl⟩
  rw [←hq]
  have f1:IntKind.u16.wrap (2048-(p:Int))=2048-(p:Int):=by rw [IntKind.wrap_u16];omega
  have f2:(2048-(p:Int))/32=(q:Int):=by omega
  have f2':(2048-(p:Int)).tdiv 32=(q:Int):=by rw [Int.tdiv_eq_ediv_of_nonneg (by omega)];exact f2
  have f3:IntKind.u16.wrap (q:Int)=(q:Int):=by rw [IntKind.wrap_u16];omega
  have f4:IntKind.u16.wrap ((p:Int)+(q:Int))=(p:Int)+(q:Int):=by rw [IntKind.wrap_u16];omega
  clear hq
  go_enter Tryz.func151,Tryz.ntmps151
  go_upto_region 1 with fail
  refine z1d 12 (by kernel_rfl) (by kernel_rfl) ?_
  simp only [List.take_succ_cons,List.take_zero,List.drop_succ_cons,List.drop_zero]
  repeat still_step
  try refine wpStill_nil ?_
  go_wp2_with fail
  go_end0
  exact ⟨rfl,1,by rw [Int.natCast_add];rfl⟩
 ·have e:after p true=p-p/32:=rfl
  rw [e]
  obtain ⟨q,hq⟩:∃q,q=p/32:=⟨_,rfl⟩
  rw [←hq]
  have f2:(p:Int)/32=(q:Int):=by omega
  have f2':(p:Int).tdiv 32=(q:Int):=by rw [Int.tdiv_eq_ediv_of_nonneg (by omega)];exact f2
  have f3:IntKind.u16.wrap (q:Int)=(q:Int):=by rw [IntKind.wrap_u16];omega
  have f4:IntKind.u16.wrap ((p:Int)-(q:Int))=(p:Int)-(q:Int):=by rw [IntKind.wrap_u16];omega
  have f5:((p-q:Nat):Int)=(p:Int)-(q:Int):=by omega
  rw [f5]
  clear hq f5
  go_enter Tryz.func151,Tryz.ntmps151
  go_upto_region 2 with fail
  refine z1d 11 (by kernel_rfl) (by kernel_rfl) ?_
  simp only [List.take_succ_cons,List.take_zero,List.drop_succ_cons,List.drop_zero]
  repeat still_step
  try refine wpStill_nil ?_
  go_wp2_with fail
  go_end0
  exact ⟨rfl,1,rfl⟩
end D
namespace D
open Go.RowKit Rang
attribute [local go_sem ↓] wp_at_zero wp_at_succ
theorem z2d (pb:Nat) (w:World) (b:Bool) (h:w.cell? ⟨pb,0,none⟩=some (.bool b)):Calls Tryz.prog 53 #[.pointer (some ⟨pb,0,none⟩)] w fun e w'=>e=.returned (.bool b)∧w'=w:=by
 go_enter Tryz.func53,Tryz.ntmps53
 go_wp2_with fail
 go_ret
 exact ⟨rfl,rfl⟩
theorem z5v (n:Nat) (w:World) (hn:n≤65536):Calls Tryz.prog 73 #[.int .i64 (n:Int)] w fun e w'=>e=.returned (.bool true)∧w'=w:=by
 have t1:(n:Int)≤65536:=by omega
 have t2:(0:Int)≤(n:Int):=by omega
 go_enter Tryz.func73,Tryz.ntmps73
 go_wp2_with fail
 go_ret
 exact ⟨rfl,rfl⟩
theorem z4w (n:Nat) (w:World) (hn:n≤31):Calls Tryz.prog 172 #[.int .i64 (n:Int)] w fun e w'=>e=.returned (.bool true)∧w'=w:=by
 have t1:(n:Int)≤31:=by omega
 have t2:(0:Int)≤(n:Int):=by omega
 go_enter Tryz.func172,Tryz.ntmps172
 go_wp2_with fail
 go_ret
 exact ⟨rfl,rfl⟩
theorem y3y (a0:Option Addr) (n c:Nat) (i:Int) (b:Bool) (w:World) (hb:b=true↔0≤i∧i<(n:Int)):Calls Tryz.prog 116 #[.slice a0 n c,.int .i64 i] w fun e w'=>e=.returned (.bool b)∧w'=w:=by
 by_cases h1:0≤i
 ·have d1:decide (0≤i)=true:=decide_eq_true h1
  by_cases h2:i<(n:Int)
  ·have d2:decide (i<(n:Int))=true:=decide_eq_true h2
   obtain rfl:b=true:=hb.2 ⟨h1,h2⟩
   clear hb
   go_enter Tryz.func116,Tryz.ntmps116
   go_wp2_with fail
   go_ret
   exact ⟨rfl,rfl⟩
  ·have d2:decide (i<(n:Int))=false:=decide_eq_false h2
   obtain rfl:b=false:=by cases b with|false=>rfl|true=>exact absurd (hb.1 rfl).2 h2
   clear hb
   go_enter Tryz.func116,Tryz.ntmps116
   go_wp2_with fail
   go_ret
   exact ⟨rfl,rfl⟩
 ·have d1:decide (0≤i)=false:=decide_eq_false h1
  obtain rfl:b=false:=by cases b with|false=>rfl|true=>exact absurd (hb.1 rfl).1 h1
  clear hb
  go_enter Tryz.func116,Tryz.ntmps116
  go_wp2_with fail
  go_ret
  exact ⟨rfl,rfl⟩
theorem z2e (v n:Nat) (w:World) (hn:n≤31) (hv:v<2^n):Calls Tryz.prog 173 #[.int .i64 (v:Int),.int .i64 (n:Int)] w fun e w'=>e=.returned (.bool true)∧w'=w:=by
 have t1:(v:Int)/2^n=0:=by rw [show ((v:Int)/2^n)=((v/2^n:Nat):Int) by simp,Nat.div_eq_of_lt hv];rfl
 have t2:(0:Int)≤(v:Int):=by omega
 have t3:¬ (n:Int)<0:=by omega
 have t4:min n 64=n:=by omega
 clear hv
 go_enter Tryz.func173,Tryz.ntmps173
 go_wp2_with fail
 go_ret
 exact ⟨rfl,rfl⟩
theorem z3f (a0:Option Addr) (N c:Nat) (base n:Int) (w:World) (hN:N≤140737488355328) (h:MayB base n N) :
  Calls Tryz.prog 187 #[.slice a0 N c,.int .i64 base,.int .i64 n] w fun e w'=>e=.returned (.bool true)∧w'=w:=by
 obtain ⟨b,rfl⟩:=Int.eq_ofNat_of_zero_le h.1
 obtain ⟨m,rfl⟩:=Int.eq_ofNat_of_zero_le h.2.1
 have h4:=h.2.2.2
 have hm:m≤16:=by have:=h.2.2.1;omega
 have hp:2^m≤2^16:=Nat.pow_le_pow_right (by omega) hm
 obtain ⟨P,hP⟩:∃P,P=2^m:=⟨_,rfl⟩
 have e1:(2:Int)^m=(P:Int):=by rw [hP];simp
 rw [show (m:Int).toNat=m from rfl,e1] at h4
 rw [←hP] at hp
 have fP:wrap64 (P:Int)=(P:Int):=IntWalk.wrap64_in _ (by omega)
 have t1:(0:Int)≤(b:Int):=by omega
 have t0:(0:Int)≤(m:Int):=by omega
 have t2:(m:Int)≤16:=by omega
 have t4:(b:Int)≤(N:Int)-(P:Int):=by omega
 have fs:wrap64 ((N:Int)-(P:Int))=(N:Int)-(P:Int):=IntWalk.wrap64_in _ (by omega)
 have hn2:m<64:=by omega
 clear hP hp h h4
 go_enter Tryz.func187,Tryz.ntmps187
 go_wp2_with fail
 go_ret
 exact ⟨rfl,rfl⟩
end D
namespace D
open Go.RowKit Rang
attribute [local go_sem ↓] wp_at_zero wp_at_succ
theorem PC.learnt {B:Nat} {w:World} {pb gc:Nat} {ov:Value} {c:Enc} {ch:List Nat} (h:PC B w pb gc ov c ch) (i:Nat) (bit:Bool) (hi:i<ch.length) (hp:31≤ch.getD i 0∧ch.getD i 0≤2017) :
  Calls Tryz.prog 151 #[.slice (some ⟨gc,0,none⟩) ch.length ch.length,.int .i64 (i:Int),.int .i64 (bit.toNat:Int)] w fun e w'=>e=.returned (.tuple #[])∧PC B w' pb gc ov c (ch.set i (after (ch.getD i 0) bit))∧Tch w w' pb gc 0 ov ov∧w'.heap.size=w.heap.size:=by
 refine (y0v w gc ch i bit h.chs hi hp).mono ?_
 rintro e w' ⟨rfl,q,rfl⟩
 have h1:=(h.drewN q).setCh i (after (ch.getD i 0) bit)
 exact ⟨rfl,h1.1,((Tch.refl w pb gc 0 ov).drewN q).trans h1.2,by rw [World.size_setCell];rfl⟩
theorem y3e (B pb gc:Nat) (w:World) (ov:Value) (c:Enc) (ch:List Nat) (i:Nat) (bit:Bool) (h:PC B w pb gc ov c ch) (hi:i<ch.length) (hp:31≤ch.getD i 0∧ch.getD i 0≤2017) (ht:PTame c) (hlr:c.low+c.rng≤8589934592) (h1:16777216≤c.rng) (h2:c.rng<4294967296) (hB:B≤w.heap.size) :
  Calls Tryz.prog 144 #[.pointer (some ⟨pb,0,none⟩),.int .i64 (i:Int),.int .i64 (bit.toNat:Int)] w fun e w'=>e=.returned (.tuple #[])∧∃ov',PC B w' pb gc ov' (putE c (ch.getD i 0) bit) (ch.set i (after (ch.getD i 0) bit))∧Tch w w' pb gc 0 ov ov':=by
 have hs:=z2t h1 hp
 obtain ⟨low,rng,kept,wait,out⟩:=c
 simp only at h1 h2 hlr hs
 have HBo:∀q,Calls Tryz.prog 149 #[.slice (some ⟨gc,0,none⟩) ch.length ch.length,.int .u32 (rng:Int),.int .i64 (i:Int)] (w.drewN q) fun e w'=>e=.returned (.int .u32 ((rng/2048*ch.getD i 0:Nat):Int))∧w'=w.drewN q:=fun q=>y0n (w.drewN q) gc ch rng i (h.drewN q).chs hi h2 hp.2
 obtain ⟨b,hb⟩:∃b,b=rng/2048*ch.getD i 0:=⟨_,rfl⟩
 rw [←hb] at hs HBo
 have c1:∀q,(w.drewN q).cell? ⟨pb,1,none⟩=some (.slice (some ⟨gc,0,none⟩) ch.length ch.length):=fun q=>h.enc.chs
 have c3:∀q,(w.drewN q).cell? ⟨pb,3,none⟩=some (.int .u32 (rng:Int)):=fun q=>h.enc.rng
 have HBo:=qz HBo
 have HE:=qz h
 have HT:=qz ht
 have HB:=qz hb
 have HP:=qz hp
 have HI:=qz hi
 obtain ⟨n,hn⟩:∃n,n=ch.length:=⟨_,rfl⟩
 have HN:=qz hn
 rw [←hn] at c1 HBo
 clear hb h ht hp hi hn
 cases bit
 ·go_enter Tryz.func144,Tryz.ntmps144
  go_upto_region 0 with fail
  go_quiet (first|(go_at_call 149;refine Calls.quiet_of_same (uh HBo _)))
  have HE1:=qz ((uh HE).drewN nq)
  have HD:Hid (Tch w (w.drewN nq) pb gc 0 ov ov):=qz ((Tch.refl w pb gc 0 ov).drewN nq)
  have hsz:(w.drewN nq).heap.size=w.heap.size:=rfl
  obtain ⟨W1,hW1⟩:∃W1,W1=w.drewN nq:=⟨_,rfl⟩
  rw [←hW1] at HE1 HD hsz ⊢
  clear hW1 c1 c3
  have c3:=(uh HE1).enc.rng
  have f3:=(uh HE1).enc.free 3
  have h3:=(uh HE1).enc.setField 3 (.int .u32 (b:Int)) ⟨low,b,kept,wait,out⟩ rfl rfl
  have h4:=(uh HE1).step h3.1 h3.2
  have HE2:=qz h4.1
  have HD2:=qz ((uh HD).trans h4.2)
  clear h3 h4
  go_upto_region 5 with fail
  obtain ⟨W2,hW2⟩:∃W2,W2=W1.setCell ⟨pb,3,none⟩ (.int .u32 (b:Int)):=⟨_,rfl⟩
  have hsz2:W2.heap.size=w.heap.size:=by rw [hW2];simpa using hsz
  rw [←hW2] at HE2 HD2 ⊢
  clear hW2 c3 f3 HE1 HD hsz
  have k1:=(uh HE2).enc.chs
  have HC:=qz ((uh HE2).learnt i false (uh HI) (uh HP))
  rw [←uh HN] at k1 HC
  go_wp2_with fail
  refine (uh HC).mono ?_
  rintro e w3 ⟨rfl,h5,h6,h7⟩
  have HE3:=qz h5
  have HD3:=qz ((uh HD2).trans h6)
  have hsz3:w3.heap.size=w.heap.size:=h7.trans hsz2
  clear h5 h6 h7 HC k1
  go_wp2_with fail
  refine (z2i B pb _ _ ov _ (uh HE3).enc ⟨(uh HT).low,(uh HT).kept,(uh HT).wait⟩ (by simp only;omega) (by simp only;omega) (by omega)).mono ?_
  rintro e w5 ⟨rfl,ov5,h6,h7⟩
  have h8:=(uh HE3).step h6 h7
  have HE4:=qz h8.1
  have HD4:=qz ((uh HD3).trans h8.2)
  clear h6 h7 h8
  go_wp2_with fail
  go_end0
  refine ⟨rfl,ov5,?_,uh HD4⟩
  have h9:=uh HE4
  rw [uh HB] at h9
  exact h9
 ·go_enter Tryz.func144,Tryz.ntmps144
  go_upto_region 0 with fail
  go_quiet (first|(go_at_call 149;refine Calls.quiet_of_same (uh HBo _)))
  have HE1:=qz ((uh HE).drewN nq)
  have HD:Hid (Tch w (w.drewN nq) pb gc 0 ov ov):=qz ((Tch.refl w pb gc 0 ov).drewN nq)
  have hsz:(w.drewN nq).heap.size=w.heap.size:=rfl
  obtain ⟨W1,hW1⟩:∃W1,W1=w.drewN nq:=⟨_,rfl⟩
  rw [←hW1] at HE1 HD hsz ⊢
  clear hW1 c1 c3
  have c2:=(uh HE1).enc.low
  have f2:=(uh HE1).enc.free 2
  have c3:=(uh HE1).enc.rng
  have f3:=(uh HE1).enc.free 3
  have h3:=(uh HE1).enc.setField 2 (.int .u64 ((low:Int)+(b:Int))) ⟨low+b,rng,kept,wait,out⟩ (by simp [z0m]) rfl
  have h4:=(uh HE1).step h3.1 h3.2
  have h3':=h4.1.enc.setField 3 (.int .u32 ((rng:Int)-(b:Int))) ⟨low+b,rng-b,kept,wait,out⟩ (by simp [z0m];omega) rfl
  have h4':=h4.1.step h3'.1 h3'.2
  have HE2:=qz h4'.1
  have HD2:=qz (((uh HD).trans h4.2).trans h4'.2)
  have fl:((low:Int)+(b:Int))%18446744073709551616=(low:Int)+(b:Int):=by omega
  have fr:((rng:Int)-(b:Int))%4294967296=(rng:Int)-(b:Int):=by omega
  have fb:(b:Int)%18446744073709551616=(b:Int):=by omega
  clear h3 h4 h3' h4'
  go_upto_region 5 with fail
  obtain ⟨W2,hW2⟩:∃W2,W2=(W1.setCell ⟨pb,2,none⟩ (.int .u64 ((low:Int)+(b:Int)))).setCell ⟨pb,3,none⟩ (.int .u32 ((rng:Int)-(b:Int))):=⟨_,rfl⟩
  have hsz2:W2.heap.size=w.heap.size:=by rw [hW2];simpa using hsz
  rw [←hW2] at HE2 HD2 ⊢
  clear hW2 c3 f3 c2 f2 HE1 HD hsz
  have k1:=(uh HE2).enc.chs
  have HC:=qz ((uh HE2).learnt i true (uh HI) (uh HP))
  rw [←uh HN] at k1 HC
  go_wp2_with fail
  refine (uh HC).mono ?_
  rintro e w3 ⟨rfl,h5,h6,h7⟩
  have HE3:=qz h5
  have HD3:=qz ((uh HD2).trans h6)
  have hsz3:w3.heap.size=w.heap.size:=h7.trans hsz2
  clear h5 h6 h7 HC k1
  go_wp2_with fail
  refine (z2i B pb _ _ ov _ (uh HE3).enc ⟨by simp only;omega,(uh HT).kept,(uh HT).wait⟩ (by simp only;omega) (by simp only;omega) (by omega)).mono ?_
  rintro e w5 ⟨rfl,ov5,h6,h7⟩
  have h8:=(uh HE3).step h6 h7
  have HE4:=qz h8.1
  have HD4:=qz ((uh HD3).trans h8.2)
  clear h6 h7 h8
  go_wp2_with fail
  go_end0
  refine ⟨rfl,ov5,?_,uh HD4⟩
  have h9:=uh HE4
  rw [uh HB] at h9
  exact h9
theorem y3b (B pb gc:Nat) (w:World) (ov:Value) (c:Enc) (ch:List Nat) (bit:Bool) (h:PC B w pb gc ov c ch) (ht:PTame c) (hlr:c.low+c.rng≤8589934592) (h1:16777216≤c.rng) (h2:c.rng<4294967296) (hB:B≤w.heap.size) :
  Calls Tryz.prog 174 #[.pointer (some ⟨pb,0,none⟩),.int .i64 (bit.toNat:Int)] w fun e w'=>e=.returned (.tuple #[])∧∃ov',PC B w' pb gc ov' (dirE c bit) ch∧Tch w w' pb gc 0 ov ov':=by
 obtain ⟨low,rng,kept,wait,out⟩:=c
 simp only at h1 h2 hlr
 obtain ⟨b,hb⟩:∃b,b=rng/2:=⟨_,rfl⟩
 have fb:(rng:Int)/2=(b:Int):=by omega
 have hb1:8388608≤b:=by omega
 have hb2:b<4294967296:=by omega
 have hb3:low+b+b≤8589934592:=by omega
 have HB:=qz hb
 have HE:=qz h
 have HT:=qz ht
 have c3:=h.enc.rng
 have f3:=h.enc.free 3
 have h3:=h.enc.setField 3 (.int .u32 (b:Int)) ⟨low,b,kept,wait,out⟩ rfl rfl
 have h4:=h.step h3.1 h3.2
 have HE2:=qz h4.1
 have HD2:=qz h4.2
 clear hb h ht h3 h4
 cases bit
 ·go_enter Tryz.func174,Tryz.ntmps174
  go_upto_region 3 with fail
  obtain ⟨W2,hW2⟩:∃W2,W2=w.setCell ⟨pb,3,none⟩ (.int .u32 (b:Int)):=⟨_,rfl⟩
  have hsz2:W2.heap.size=w.heap.size:=by rw [hW2];simp
  rw [←hW2] at HE2 HD2 ⊢
  clear hW2 c3 f3
  go_wp2_with fail
  refine (z2i B pb _ _ ov _ (uh HE2).enc ⟨(uh HT).low,(uh HT).kept,(uh HT).wait⟩ (by simp only;omega) (by simp only;omega) (by omega)).mono ?_
  rintro e w5 ⟨rfl,ov5,h6,h7⟩
  have h8:=(uh HE2).step h6 h7
  have HE4:=qz h8.1
  have HD4:=qz ((uh HD2).trans h8.2)
  clear h6 h7 h8
  go_wp2_with fail
  go_end0
  refine ⟨rfl,ov5,?_,uh HD4⟩
  have h9:=uh HE4
  rw [uh HB] at h9
  exact h9
 ·go_enter Tryz.func174,Tryz.ntmps174
  go_upto_region 2 with fail
  obtain ⟨W2,hW2⟩:∃W2,W2=w.setCell ⟨pb,3,none⟩ (.int .u32 (b:Int)):=⟨_,rfl⟩
  have hsz2:W2.heap.size=w.heap.size:=by rw [hW2];simp
  rw [←hW2] at HE2 HD2 ⊢
  clear hW2 c3 f3
  have c2:W2.drew.cell? ⟨pb,2,none⟩=some (.int .u64 (low:Int)):=(uh HE2).enc.low
  have c3:W2.drew.cell? ⟨pb,3,none⟩=some (.int .u32 (b:Int)):=(uh HE2).enc.rng
  have f2:W2.drew.frozen? ⟨pb,2,none⟩=false:=(uh HE2).enc.free 2
  have fl:((low:Int)+(b:Int))%18446744073709551616=(low:Int)+(b:Int):=by omega
  have fl2:IntKind.u64.wrap ((low:Int)+(b:Int))=(low:Int)+(b:Int):=by rw [IntKind.wrap_u64];omega
  have fb1:(b:Int)%18446744073709551616=(b:Int):=by omega
  have fb2:IntKind.u64.wrap (b:Int)=(b:Int):=by rw [IntKind.wrap_u64];omega
  have h3:=((uh HE2).drewN 1).enc.setField 2 (.int .u64 ((low:Int)+(b:Int))) ⟨low+b,b,kept,wait,out⟩ (by simp [z0m]) rfl
  have h4:=((uh HE2).drewN 1).step h3.1 h3.2
  have HE3:=qz h4.1
  have HD3:=qz (((uh HD2).drewN 1).trans h4.2)
  clear h3 h4
  refine z1d 12 (by kernel_rfl) (by kernel_rfl) ?_
  simp only [List.take_succ_cons,List.take_zero,List.drop_succ_cons,List.drop_zero]
  repeat still_step
  try refine wpStill_nil ?_
  go_wp2_with fail
  refine (z2i B pb _ _ ov _ (uh HE3).enc ⟨by simp only;omega,(uh HT).kept,(uh HT).wait⟩ (by simp only;omega) (by simp only;omega) (by rw [size_set];omega)).mono ?_
  rintro e w5 ⟨rfl,ov5,h6,h7⟩
  have h8:=(uh HE3).step h6 h7
  have HE4:=qz h8.1
  have HD4:=qz ((uh HD3).trans h8.2)
  clear h6 h7 h8
  go_wp2_with fail
  go_end0
  refine ⟨rfl,ov5,?_,uh HD4⟩
  have h9:=uh HE4
  rw [uh HB] at h9
  exact h9
end D
end Go.Proofs.YtoicnlmfgembiaaGreat
