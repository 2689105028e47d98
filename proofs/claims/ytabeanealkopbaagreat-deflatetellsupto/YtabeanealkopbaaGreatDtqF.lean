/- A part of the proof. -/
import Derived.Test.YtabeanealkopbaaGreatDtqE

set_option linter.unusedVariables false
set_option maxRecDepth 100000
set_option maxHeartbeats 24000000
namespace Go.Proofs.YtabeanealkopbaaGreat
section
open Go.RowKit Infl
attribute [local go_sem ↓] wp_at_zero wp_at_succ
theorem z0k (w:World) (o:Obj) (k:Nat):(w.alloc o).heap[k]?=if k=w.heap.size then some o else w.heap[k]?:=by
 simp only [World.alloc,Array.getElem?_push]
theorem z3l (w:World) (o:Obj):(w.alloc o).heap.size=w.heap.size+1:=by simp
theorem z2g {fn:Func} {p:Tmp} {ty:TypeId} (h:fn.results=#[.cell p ty]) (tmps:Array Value) (P:Program) (w:World) :
  (results fn tmps).run P w=((asAddr (tmps.getD p undef)).run P w).andThen fun a w₁=>(loadVar ty a).run P w₁:=by
 simp only [results,h]
 simp [Sem.run_bind,Result.andThen]
def w2u (N first last:Nat) (le ex:Nat→Nat):Prop:=∀ (s:Nat) (w:World),first≤s→s≤last→Calls Tryz.prog N #[.int .i64 (s:Int)] w fun e w'=>e=.returned (.tuple #[.int .i64 (le s:Int),.int .i64 (ex s:Int),.int .i64 0])∧w'=w
theorem y7f:w2u 138 257 285 (fun s=>(lenOf s).1) (fun s=>(lenOf s).2):=fun s w h1 h2=>by
 have:=y3r (s:Int) w
 unfold y0n at this
 rwa [if_neg (by omega)] at this
theorem y3s:w2u 139 0 29 (fun s=>(z0h s).1) (fun s=>(z0h s).2):=fun s w h1 h2=>by
 have:=w4c (s:Int) w
 unfold z6m at this
 rwa [if_neg (by omega)] at this
def z7w (le:Nat→Nat) (first v i:Nat):Bool:=decide (v<le (first+i))
theorem w2n (i:Nat) (hi:257+i≤285) (v pf p1 pv:Nat) (w:World) (h1:w.cell? ⟨pf,0,none⟩=some (.func (.func 138) #[] #[])) (h2:w.cell? ⟨p1,0,none⟩=some (.int .i64 257)) (h3:w.cell? ⟨pv,0,none⟩=some (.int .i64 (v:Int))) :
  Calls Tryz.prog 156 #[.int .i64 (i:Int),.pointer (some ⟨pf,0,none⟩),.pointer (some ⟨p1,0,none⟩),.pointer (some ⟨pv,0,none⟩)] w fun e w'=>e=.returned (.bool (z7w (fun s=>(lenOf s).1) 257 v i))∧w'=w:=by
 have HL:=qz (y7f (257+i) w (by omega) (by omega))
 have e1:((257+i:Nat):Int)=257+(i:Int):=by omega
 rw [e1] at HL
 clear e1
 obtain ⟨b,hb2⟩:∃b,b=z7w (fun s=>(lenOf s).1) 257 v i:=⟨_,rfl⟩
 have hb3:decide (v<(lenOf (257+i)).1)=b:=by rw [hb2];unfold z7w;rfl
 rw [←hb2]
 simp only at HL
 generalize (lenOf (257+i)).1=l at HL hb3
 generalize (lenOf (257+i)).2=x at HL
 have HB3:=qz hb3
 clear hb2 hb3
 go_enter Tryz.func156,Tryz.ntmps156
 go_wp2_with fail
 refine (uh HL).mono ?_
 rintro e w1 ⟨rfl,rfl⟩
 go_wp2_with fail
 go_ret
 exact ⟨by rw [uh HB3];rfl,rfl⟩
theorem x9f (i:Nat) (hi:0+i≤29) (v pf p1 pv:Nat) (w:World) (h1:w.cell? ⟨pf,0,none⟩=some (.func (.func 139) #[] #[])) (h2:w.cell? ⟨p1,0,none⟩=some (.int .i64 0)) (h3:w.cell? ⟨pv,0,none⟩=some (.int .i64 (v:Int))) :
  Calls Tryz.prog 156 #[.int .i64 (i:Int),.pointer (some ⟨pf,0,none⟩),.pointer (some ⟨p1,0,none⟩),.pointer (some ⟨pv,0,none⟩)] w fun e w'=>e=.returned (.bool (z7w (fun s=>(z0h s).1) 0 v i))∧w'=w:=by
 have HL:=qz (y3s (i) w (by omega) (by omega))
 obtain ⟨b,hb2⟩:∃b,b=z7w (fun s=>(z0h s).1) 0 v i:=⟨_,rfl⟩
 have hb3:decide (v<(z0h (i)).1)=b:=by rw [hb2];unfold z7w;simp
 rw [←hb2]
 simp only at HL
 generalize (z0h (i)).1=l at HL hb3
 generalize (z0h (i)).2=x at HL
 have HB3:=qz hb3
 clear hb2 hb3
 go_enter Tryz.func156,Tryz.ntmps156
 go_wp2_with fail
 refine (uh HL).mono ?_
 rintro e w1 ⟨rfl,rfl⟩
 go_wp2_with fail
 go_ret
 exact ⟨by rw [uh HB3];rfl,rfl⟩
theorem y8b (n:Nat) (hn:n≤1000) (p:Nat→Bool) (caps:Array Value) (w:World) (hf:∀i,i<n→Calls Tryz.prog 156 (#[.int .i64 (i:Int)]++caps) w fun e w'=>e=.returned (.bool (p i))∧w'=w) (hm:∀i j,i≤j→j<n→p i=true→p j=true) :
  Calls Tryz.prog 155 #[.int .i64 (n:Int),.func (.func 156) #[] caps] w fun e w'=>(∃k:Nat,e=.returned (.int .i64 (k:Int))∧k≤n∧(∀i,i<k→p i=false)∧∀i,k≤i→i<n→p i=true)∧w'=w:=by
 have HF:=qz hf
 have HM:=qz hm
 clear hf hm
 go_enter Tryz.func155,Tryz.ntmps155
 go_wp2_with fail
 go_loopg [5,6] n (fun gk iv jv ws=>∃i j:Nat,gk=j-i∧iv=.int .i64 (i:Int)∧jv=.int .i64 (j:Int)∧i≤j∧j≤n∧ws=w∧Hid ((∀t,t<i→p t=false)∧∀t,j≤t→t<n→p t=true))
 case atStart=>exact ⟨0,n,rfl,rfl,rfl,by omega,by omega,rfl,fun t h=>by omega,fun t h h2=>by omega⟩
 case round =>
  obtain ⟨i,j,rfl,rfl,rfl,hij,hjn,rfl,hp⟩:=hrel
  by_cases hlt:i<j
  ·have e1:(i:Int)<(j:Int):=by omega
   obtain ⟨h,hh⟩:∃h,h=(i+j)/2:=⟨_,rfl⟩
   have e2:((i:Int)+(j:Int))/2=(h:Int):=by omega
   have hi1:i≤h:=by omega
   have hi2:h<j:=by omega
   have HC:=qz (uh HF h (by omega))
   obtain ⟨b,hb⟩:∃b,b=p h:=⟨_,rfl⟩
   rw [←hb] at HC
   have HBB:=qz hb
   clear hh hb
   go_wp2_with fail
   refine (uh HC).mono ?_
   rintro e w1 ⟨rfl,rfl⟩
   cases b with
   | true =>
    go_wp2_with fail
    go_roundg (h-i)
    case measure=>omega
    case rel=>exact ⟨i,h,rfl,rfl,rfl,by omega,by omega,rfl,(uh hp).1,fun t h1 h2=>uh HM h t h1 h2 (uh HBB).symm⟩
   | false =>
    go_wp2_with fail
    go_roundg (j-(h+1))
    case measure=>omega
    case rel =>
     refine ⟨h+1,j,rfl,by go_num,rfl,by omega,by omega,rfl,fun t ht=>?_,(uh hp).2⟩
     cases hc:p t with
     | false=>rfl
     | true=>have:=uh HM t h (by omega) (by omega) hc;rw [←uh HBB] at this;cases this
  ·have e1:¬ (i:Int)<(j:Int):=by omega
   obtain rfl:i=j:=by omega
   go_wp2_with fail
   go_ret
   exact ⟨⟨i,rfl,hjn,(uh hp).1,(uh hp).2⟩,rfl⟩
structure Found (f:Nat→Nat) (first last v s:Nat):Prop where
 lo:first≤s
 hi:s≤last
 le:f s≤v
 next:∀t,s<t→t≤last→v<f t
theorem Found.eq {f:Nat→Nat} {first last v s s':Nat} (h:Found f first last v s) (h':Found f first last v s'):s=s':=by
 rcases Nat.lt_trichotomy s s' with e|e|e
 ·have:=h.next s' e h'.hi;have:=h'.le;omega
 ·exact e
 ·have:=h'.next s e h.hi;have:=h.le;omega
def z5v (s m x:Nat):Value:=.agg #[.int .i64 (s:Int),.int .i64 (m:Int),.int .i64 (x:Int)]
theorem x6e (v:Nat) (h1:3≤v):Found (fun s=>(lenOf s).1) 257 285 v (symL v):=by
 obtain ⟨a,b,c⟩:=y1k (fun s=>(lenOf s).1) v 257 (by show (lenOf 257).1≤v;exact h1) 285 (by omega)
 exact ⟨a,y1l _ _ _,b,c⟩
theorem w1j:∀j,j<29→∀i,i<j+1→(lenOf (257+i)).1≤(lenOf (257+j)).1:=by decide
theorem w0v (v:Nat) (w:World) (h1:3≤v) (h2:v≤258) :
  Calls Tryz.prog 137 #[.int .i64 (v:Int),.int .i64 257,.int .i64 285,.func (.func 138) #[] #[]] w fun e w'=>e=.returned (z5v (symL v) (v-(lenOf (symL v)).1) (lenOf (symL v)).2)∧Below w.heap.size w w':=by
 have HFD:=qz (x6e v h1)
 obtain ⟨s,hs⟩:∃s,s=symL v:=⟨_,rfl⟩
 rw [←hs] at HFD ⊢
 clear hs
 have hle:(lenOf s).1≤v:=(uh HFD).le
 have e2:((v-(lenOf s).1:Nat):Int)=(v:Int)-((lenOf s).1:Int):=by omega
 unfold z5v
 rw [e2]
 clear e2
 obtain ⟨le,hl1⟩:∃le,le=(lenOf s).1:=⟨_,rfl⟩
 obtain ⟨ex,hl2⟩:∃ex,ex=(lenOf s).2:=⟨_,rfl⟩
 rw [←hl1] at hle ⊢
 rw [←hl2]
 have HL1:=qz hl1
 have HL2:=qz hl2
 clear hl1 hl2
 go_enter Tryz.func137,Tryz.ntmps137
 go_wp2_with fail
 generalize hw4:World.alloc _ _=w4
 have HB:Hid (Below w.heap.size w w4):=qz (by
  rw [←hw4]
  exact ((((Below.refl _ _).alloc (by simp) _).alloc (by simp) _).alloc (by simp;omega) _).alloc (by simp;omega) _)
 have c0:w4.cell? ⟨w.heap.size,0,none⟩=some (.int .i64 (v:Int)):=by rw [←hw4];simp only [World.cell?,z0k,z3l];(repeat (first|rw [if_pos (by omega)]|rw [if_neg (by omega)]));rfl
 have c1:w4.cell? ⟨w.heap.size+1,0,none⟩=some (.int .i64 257):=by rw [←hw4];simp only [World.cell?,z0k,z3l];(repeat (first|rw [if_pos (by omega)]|rw [if_neg (by omega)]));rfl
 have c2:w4.cell? ⟨w.heap.size+1+1,0,none⟩=some (.func (.func 138) #[] #[]):=by rw [←hw4];simp only [World.cell?,z0k,z3l];(repeat (first|rw [if_pos (by omega)]|rw [if_neg (by omega)]));rfl
 have c3:w4.heap[w.heap.size+1+1+1]?=some (.cells #[.int .i64 0,.int .i64 0,.int .i64 0] 141 (0,0)):=by rw [←hw4];simp only [z0k,z3l];rw [if_pos trivial]
 have d0:w4.cell? ⟨w.heap.size+1+1+1,0,none⟩=some (.int .i64 0):=by simp only [World.cell?,c3];rfl
 have d1:w4.cell? ⟨w.heap.size+1+1+1,1,none⟩=some (.int .i64 0):=by simp only [World.cell?,c3];rfl
 have d2:w4.cell? ⟨w.heap.size+1+1+1,2,none⟩=some (.int .i64 0):=by simp only [World.cell?,c3];rfl
 have f0:∀o,w4.frozen? ⟨w.heap.size+1+1+1,o,none⟩=false:=fun o=>by simp [World.frozen?,c3]
 clear hw4 c3
 have HS:=qz (y8b 29 (by omega) (z7w (fun s=>(lenOf s).1) 257 v) #[.pointer (some ⟨w.heap.size+1+1,0,none⟩),.pointer (some ⟨w.heap.size+1,0,none⟩),.pointer (some ⟨w.heap.size,0,none⟩)] w4 (fun i hi=>w2n i (by omega) v _ _ _ w4 c2 c1 c0) (fun i j hij hj h=>by
  have:=w1j j hj i (by omega)
  unfold z7w at h ⊢
  simp only [decide_eq_true_eq] at h ⊢
  omega))
 refine (uh HS).mono ?_
 rintro e w5 ⟨⟨k,rfl,hk,hk1,hk2⟩,rfl⟩
 have hks:k+257=s+1:=by
  have h0:1≤k:=by
   rcases Nat.eq_zero_or_pos k with e|e
   ·have:=hk2 0 (by omega) (by omega)
    unfold z7w at this
    simp only [decide_eq_true_eq] at this
    have:(lenOf (257+0)).1=3:=by decide
    omega
   ·exact e
  have hf:Found (fun s=>(lenOf s).1) 257 285 v (257+(k-1)):=by
   refine ⟨by omega,by omega,?_,fun t h1 h2=>?_⟩
   ·have:=hk1 (k-1) (by omega)
    unfold z7w at this
    simp only [decide_eq_false_iff_not] at this
    show (lenOf (257+(k-1))).1≤v
    omega
   ·have:=hk2 (t-257) (by omega) (by omega)
    unfold z7w at this
    simp only [decide_eq_true_eq] at this
    rw [show 257+(t-257)=t by omega] at this
    exact this
  have:=hf.eq (uh HFD)
  omega
 have e1:(257:Int)+(k:Int)-1=(s:Int):=by omega
 have hk3:k≤29:=hk
 have HLK:=qz (y7f s w5 (uh HFD).lo (uh HFD).hi)
 simp only at HLK
 rw [←uh HL1,←uh HL2] at HLK
 clear hk hk1 hk2 hks HS HFD HL1 HL2
 go_wp2_with fail
 refine (uh HLK).mono ?_
 rintro e w6 ⟨rfl,rfl⟩
 go_wp2_with fail
 refine bodyPost_ret (v:=.agg #[.int .i64 (s:Int),.int .i64 ((v:Int)-(le:Int)),.int .i64 (ex:Int)]) ?_ rfl ⟨rfl,(((uh HB).setCell (show w.heap.size≤w.heap.size+1+1+1 by omega) _).setCell (show w.heap.size≤w.heap.size+1+1+1 by omega) _).setCell (show w.heap.size≤w.heap.size+1+1+1 by omega) _⟩
 rw [z2g rfl]
 go_simp
theorem x2y (v:Nat) (h1:1≤v):Found (fun s=>(z0h s).1) 0 29 v (symD v):=by
 obtain ⟨a,b,c⟩:=y1k (fun s=>(z0h s).1) v 0 (by show (z0h 0).1≤v;exact h1) 29 (by omega)
 exact ⟨a,y1l _ _ _,b,c⟩
theorem x7d:∀j,j<30→∀i,i<j+1→(z0h (0+i)).1≤(z0h (0+j)).1:=by decide
theorem x6a (v:Nat) (w:World) (h1:1≤v) (h2:v≤32768) :
  Calls Tryz.prog 137 #[.int .i64 (v:Int),.int .i64 0,.int .i64 29,.func (.func 139) #[] #[]] w fun e w'=>e=.returned (z5v (symD v) (v-(z0h (symD v)).1) (z0h (symD v)).2)∧Below w.heap.size w w':=by
 have HFD:=qz (x2y v h1)
 obtain ⟨s,hs⟩:∃s,s=symD v:=⟨_,rfl⟩
 rw [←hs] at HFD ⊢
 clear hs
 have hle:(z0h s).1≤v:=(uh HFD).le
 have e2:((v-(z0h s).1:Nat):Int)=(v:Int)-((z0h s).1:Int):=by omega
 unfold z5v
 rw [e2]
 clear e2
 obtain ⟨le,hl1⟩:∃le,le=(z0h s).1:=⟨_,rfl⟩
 obtain ⟨ex,hl2⟩:∃ex,ex=(z0h s).2:=⟨_,rfl⟩
 rw [←hl1] at hle ⊢
 rw [←hl2]
 have HL1:=qz hl1
 have HL2:=qz hl2
 clear hl1 hl2
 go_enter Tryz.func137,Tryz.ntmps137
 go_wp2_with fail
 generalize hw4:World.alloc _ _=w4
 have HB:Hid (Below w.heap.size w w4):=qz (by
  rw [←hw4]
  exact ((((Below.refl _ _).alloc (by simp) _).alloc (by simp) _).alloc (by simp;omega) _).alloc (by simp;omega) _)
 have c0:w4.cell? ⟨w.heap.size,0,none⟩=some (.int .i64 (v:Int)):=by rw [←hw4];simp only [World.cell?,z0k,z3l];(repeat (first|rw [if_pos (by omega)]|rw [if_neg (by omega)]));rfl
 have c1:w4.cell? ⟨w.heap.size+1,0,none⟩=some (.int .i64 0):=by rw [←hw4];simp only [World.cell?,z0k,z3l];(repeat (first|rw [if_pos (by omega)]|rw [if_neg (by omega)]));rfl
 have c2:w4.cell? ⟨w.heap.size+1+1,0,none⟩=some (.func (.func 139) #[] #[]):=by rw [←hw4];simp only [World.cell?,z0k,z3l];(repeat (first|rw [if_pos (by omega)]|rw [if_neg (by omega)]));rfl
 have c3:w4.heap[w.heap.size+1+1+1]?=some (.cells #[.int .i64 0,.int .i64 0,.int .i64 0] 141 (0,0)):=by rw [←hw4];simp only [z0k,z3l];rw [if_pos trivial]
 have d0:w4.cell? ⟨w.heap.size+1+1+1,0,none⟩=some (.int .i64 0):=by simp only [World.cell?,c3];rfl
 have d1:w4.cell? ⟨w.heap.size+1+1+1,1,none⟩=some (.int .i64 0):=by simp only [World.cell?,c3];rfl
 have d2:w4.cell? ⟨w.heap.size+1+1+1,2,none⟩=some (.int .i64 0):=by simp only [World.cell?,c3];rfl
 have f0:∀o,w4.frozen? ⟨w.heap.size+1+1+1,o,none⟩=false:=fun o=>by simp [World.frozen?,c3]
 clear hw4 c3
 have HS:=qz (y8b 30 (by omega) (z7w (fun s=>(z0h s).1) 0 v) #[.pointer (some ⟨w.heap.size+1+1,0,none⟩),.pointer (some ⟨w.heap.size+1,0,none⟩),.pointer (some ⟨w.heap.size,0,none⟩)] w4 (fun i hi=>x9f i (by omega) v _ _ _ w4 c2 c1 c0) (fun i j hij hj h=>by
  have:=x7d j hj i (by omega)
  unfold z7w at h ⊢
  simp only [decide_eq_true_eq] at h ⊢
  omega))
 refine (uh HS).mono ?_
 rintro e w5 ⟨⟨k,rfl,hk,hk1,hk2⟩,rfl⟩
 have hks:k+0=s+1:=by
  have h0:1≤k:=by
   rcases Nat.eq_zero_or_pos k with e|e
   ·have:=hk2 0 (by omega) (by omega)
    unfold z7w at this
    simp only [decide_eq_true_eq] at this
    have:(z0h (0+0)).1=1:=by decide
    omega
   ·exact e
  have hf:Found (fun s=>(z0h s).1) 0 29 v (0+(k-1)):=by
   refine ⟨by omega,by omega,?_,fun t h1 h2=>?_⟩
   ·have:=hk1 (k-1) (by omega)
    unfold z7w at this
    simp only [decide_eq_false_iff_not] at this
    show (z0h (0+(k-1))).1≤v
    omega
   ·have:=hk2 (t-0) (by omega) (by omega)
    unfold z7w at this
    simp only [decide_eq_true_eq] at this
    rw [show 0+(t-0)=t by omega] at this
    exact this
  have:=hf.eq (uh HFD)
  omega
 have e1:(k:Int)-1=(s:Int):=by omega
 have hk3:k≤30:=hk
 have HLK:=qz (y3s s w5 (uh HFD).lo (uh HFD).hi)
 simp only at HLK
 rw [←uh HL1,←uh HL2] at HLK
 clear hk hk1 hk2 hks HS HFD HL1 HL2
 go_wp2_with fail
 refine (uh HLK).mono ?_
 rintro e w6 ⟨rfl,rfl⟩
 go_wp2_with fail
 refine bodyPost_ret (v:=.agg #[.int .i64 (s:Int),.int .i64 ((v:Int)-(le:Int)),.int .i64 (ex:Int)]) ?_ rfl ⟨rfl,(((uh HB).setCell (show w.heap.size≤w.heap.size+1+1+1 by omega) _).setCell (show w.heap.size≤w.heap.size+1+1+1 by omega) _).setCell (show w.heap.size≤w.heap.size+1+1+1 by omega) _⟩
 rw [z2g rfl]
 go_simp
end
section
open Go.RowKit Infl
theorem z9u (v:Nat) (w:World) (h1:3≤v) (h2:v≤258) :
  Calls Tryz.prog 107 #[.int .i64 (v:Int)] w fun e w'=>e=.returned (z5v (symL v) (v-(lenOf (symL v)).1) (lenOf (symL v)).2)∧Below w.heap.size w w':=by
 have HF:=qz (fun w=>w0v v w h1 h2)
 generalize (v-(lenOf (symL v)).1)=m at HF ⊢
 generalize (lenOf (symL v)).2=x at HF ⊢
 generalize symL v=s at HF ⊢
 unfold z5v at HF ⊢
 go_enter Tryz.func107,Tryz.ntmps107
 go_wp2_with fail
 obtain ⟨w1,hw1⟩:∃w1,w1=w.alloc (.cells #[.int .i64 0,.int .i64 0,.int .i64 0] 141):=⟨_,rfl⟩
 have hs1:w1.heap.size=w.heap.size+1:=by rw [hw1];simp
 have c3:w1.heap[w.heap.size]?=some (.cells #[.int .i64 0,.int .i64 0,.int .i64 0] 141 (0,0)):=by rw [hw1];exact heap_alloc_new _ _
 have HB1:Hid (Below w.heap.size w w1):=qz (by rw [hw1];exact (Below.refl _ _).alloc (by simp) _)
 rw [←hw1]
 clear hw1
 refine (uh HF w1).mono ?_
 rintro e w2 ⟨rfl,hb2⟩
 have c4:w2.heap[w.heap.size]?=some (.cells #[.int .i64 0,.int .i64 0,.int .i64 0] 141 (0,0)):=by rw [hb2.block _ (by omega)];exact c3
 have HB2:Hid (Below w.heap.size w w2):=qz ((uh HB1).trans (hb2.mono (by omega)))
 have d0:w2.cell? ⟨w.heap.size,0,none⟩=some (.int .i64 0):=by simp only [World.cell?,c4];rfl
 have d1:w2.cell? ⟨w.heap.size,1,none⟩=some (.int .i64 0):=by simp only [World.cell?,c4];rfl
 have d2:w2.cell? ⟨w.heap.size,2,none⟩=some (.int .i64 0):=by simp only [World.cell?,c4];rfl
 have f0:∀o,w2.frozen? ⟨w.heap.size,o,none⟩=false:=fun o=>by simp [World.frozen?,c4]
 clear HF HB1 hb2 c3 c4 hs1
 go_wp2_with fail
 refine bodyPost_ret (v:=.agg #[.int .i64 (s:Int),.int .i64 (m:Int),.int .i64 (x:Int)]) ?_ rfl ⟨rfl,(((uh HB2).setCell (Nat.le_refl _) _).setCell (Nat.le_refl _) _).setCell (Nat.le_refl _) _⟩
 rw [z2g rfl]
 go_simp
theorem z8d (v:Nat) (w:World) (h1:1≤v) (h2:v≤32768) :
  Calls Tryz.prog 108 #[.int .i64 (v:Int)] w fun e w'=>e=.returned (z5v (symD v) (v-(z0h (symD v)).1) (z0h (symD v)).2)∧Below w.heap.size w w':=by
 have HF:=qz (fun w=>x6a v w h1 h2)
 generalize (v-(z0h (symD v)).1)=m at HF ⊢
 generalize (z0h (symD v)).2=x at HF ⊢
 generalize symD v=s at HF ⊢
 unfold z5v at HF ⊢
 go_enter Tryz.func108,Tryz.ntmps108
 go_wp2_with fail
 obtain ⟨w1,hw1⟩:∃w1,w1=w.alloc (.cells #[.int .i64 0,.int .i64 0,.int .i64 0] 141):=⟨_,rfl⟩
 have hs1:w1.heap.size=w.heap.size+1:=by rw [hw1];simp
 have c3:w1.heap[w.heap.size]?=some (.cells #[.int .i64 0,.int .i64 0,.int .i64 0] 141 (0,0)):=by rw [hw1];exact heap_alloc_new _ _
 have HB1:Hid (Below w.heap.size w w1):=qz (by rw [hw1];exact (Below.refl _ _).alloc (by simp) _)
 rw [←hw1]
 clear hw1
 refine (uh HF w1).mono ?_
 rintro e w2 ⟨rfl,hb2⟩
 have c4:w2.heap[w.heap.size]?=some (.cells #[.int .i64 0,.int .i64 0,.int .i64 0] 141 (0,0)):=by rw [hb2.block _ (by omega)];exact c3
 have HB2:Hid (Below w.heap.size w w2):=qz ((uh HB1).trans (hb2.mono (by omega)))
 have d0:w2.cell? ⟨w.heap.size,0,none⟩=some (.int .i64 0):=by simp only [World.cell?,c4];rfl
 have d1:w2.cell? ⟨w.heap.size,1,none⟩=some (.int .i64 0):=by simp only [World.cell?,c4];rfl
 have d2:w2.cell? ⟨w.heap.size,2,none⟩=some (.int .i64 0):=by simp only [World.cell?,c4];rfl
 have f0:∀o,w2.frozen? ⟨w.heap.size,o,none⟩=false:=fun o=>by simp [World.frozen?,c4]
 clear HF HB1 hb2 c3 c4 hs1
 go_wp2_with fail
 refine bodyPost_ret (v:=.agg #[.int .i64 (s:Int),.int .i64 (m:Int),.int .i64 (x:Int)]) ?_ rfl ⟨rfl,(((uh HB2).setCell (Nat.le_refl _) _).setCell (Nat.le_refl _) _).setCell (Nat.le_refl _) _⟩
 rw [z2g rfl]
 go_simp
end
namespace W4
open Go.RowKit Mth Infl Defl
attribute [local go_sem ↓] wp_at_zero wp_at_succ
abbrev Ev:=Bool × Nat × Nat × Nat
def z4h (t:T):List Ev:=if t.n=0 then [(true,t.b,0,0)] else [(true,symL t.n,t.n-(lenOf (symL t.n)).1,(lenOf (symL t.n)).2),(false,symD t.d,t.d-(z0h (symD t.d)).1,(z0h (symD t.d)).2)]
def evs (ts:List T):List Ev:=(ts.map z4h).flatten
def z3f (ts:List T):List Ev:=evs ts++[(true,256,0,0)]
theorem w0s (ts:List T) (t:T):evs (ts++[t])=evs ts++z4h t:=by simp [evs]
def z3e (w:World) (a:Option Addr) (ts:List T):Prop:=∀i,i<ts.length→∃b off,a=some ⟨b,off,none⟩∧w.cell? ⟨b,off+i*3,none⟩=some (.int .i64 ((ts.getD i ⟨0,0,0⟩).n:Int))∧w.cell? ⟨b,off+i*3+1,none⟩=some (.int .i64 ((ts.getD i ⟨0,0,0⟩).d:Int))∧w.cell? ⟨b,off+i*3+2,none⟩=some (.int .u8 ((ts.getD i ⟨0,0,0⟩).b:Int))
def y4i (ts:List T):Prop:=∀t∈ts,t.n=0∧t.b<256∨3≤t.n∧t.n≤258∧1≤t.d∧t.d≤32768
def wv (s m x:Nat):Value:=.agg #[.int .i64 (s:Int),.int .i64 (m:Int),.int .i64 (x:Int)]
theorem y0d (ts:List T) (i:Nat) (hi:i<ts.length):evs (ts.take (i+1))=evs (ts.take i)++z4h (ts.getD i ⟨0,0,0⟩):=by
 rw [List.take_succ_eq_append_getElem hi,w0s]
 congr 2
 simp [List.getD_eq_getElem?_getD,hi]
theorem z4s (ts:List T) (i:Nat) (hi:i<ts.length):∃r,z3f ts=evs (ts.take i)++(z4h (ts.getD i ⟨0,0,0⟩)++r):=by
 refine ⟨evs (ts.drop (i+1))++[(true,256,0,0)],?_⟩
 unfold z3f
 have h:ts=ts.take i++(ts.getD i ⟨0,0,0⟩ :: ts.drop (i+1)):=by
  conv=>lhs;rw [←List.take_append_drop i ts,List.drop_eq_getElem_cons hi]
  simp [List.getD_eq_getElem?_getD,hi]
 conv=>lhs;rw [h]
 simp [evs]
theorem w0p (ts:List T) (a:Option Addr) (cap:Nat) (k1 k2:Array Value) (J:List Ev→World→Prop) (w:World) (hok:y4i ts) (hlen:ts.length≤1000000000)
  (hb:∀l x x',J l x→Below x.heap.size x x'→J l x') (hr:∀l x,J l x→z3e x a ts)
  (hn:∀l s m y r x0 x,z3f ts=l++(true,s,m,y) :: r→J l x0→Below x0.heap.size x0 x→Calls Tryz.prog 83 (#[wv s m y]++k1) x fun e x'=>e=.returned (.tuple #[])∧J (l++[(true,s,m,y)]) x'∧∀kb o,x0.heap.size≤kb→x.heap[kb]?=some o→x'.heap[kb]?=some o)
  (hf:∀l s m y r x0 x,z3f ts=l++(false,s,m,y) :: r→J l x0→Below x0.heap.size x0 x→Calls Tryz.prog 85 (#[wv s m y]++k2) x fun e x'=>e=.returned (.tuple #[])∧J (l++[(false,s,m,y)]) x'∧∀kb o,x0.heap.size≤kb→x.heap[kb]?=some o→x'.heap[kb]?=some o) (h0:J [] w) :
  Calls Tryz.prog 79 #[.slice a ts.length cap,.func (.func 83) #[] k1,.func (.func 85) #[] k2] w fun e w'=>e=.returned (.tuple #[])∧J (z3f ts) w':=by
 have HEND:Hid (∀x,J (evs ts) x→Calls Tryz.prog 83 (#[.agg #[.int .i64 256,.int .i64 0,.int .i64 0]]++k1) x fun e x'=>e=.returned (.tuple #[])∧J (z3f ts) x'):=qz (fun x hx=>(hn (evs ts) 256 0 0 [] x x rfl hx (Below.refl _ _)).mono fun e x' h=>⟨h.1,h.2.1⟩)
 have HTK:Hid (∀i x,i<ts.length→J (evs (ts.take i)) x→(ts.getD i ⟨0,0,0⟩).n=0→Calls Tryz.prog 83 (#[.agg #[.int .i64 ((ts.getD i ⟨0,0,0⟩).b:Int),.int .i64 0,.int .i64 0]]++k1) x fun e x'=>e=.returned (.tuple #[])∧J (evs (ts.take (i+1))) x'):=qz (fun i x hi hx h0=>by
  obtain ⟨r,hr⟩:=z4s ts i hi
  have et:z4h (ts.getD i ⟨0,0,0⟩)=[(true,(ts.getD i ⟨0,0,0⟩).b,0,0)]:=by unfold z4h;rw [if_pos h0]
  rw [y0d ts i hi]
  rw [et] at hr ⊢
  exact (hn _ _ _ _ _ x x hr hx (Below.refl _ _)).mono fun e x' h=>⟨h.1,h.2.1⟩)
 have HT1:Hid (∀i x0 x,i<ts.length→J (evs (ts.take i)) x0→Below x0.heap.size x0 x→¬ (ts.getD i ⟨0,0,0⟩).n=0→Calls Tryz.prog 83 (#[z5v (symL (ts.getD i ⟨0,0,0⟩).n) ((ts.getD i ⟨0,0,0⟩).n-(lenOf (symL (ts.getD i ⟨0,0,0⟩).n)).1) (lenOf (symL (ts.getD i ⟨0,0,0⟩).n)).2]++k1) x fun e x'=>e=.returned (.tuple #[])∧J (evs (ts.take i)++[(true,symL (ts.getD i ⟨0,0,0⟩).n,(ts.getD i ⟨0,0,0⟩).n-(lenOf (symL (ts.getD i ⟨0,0,0⟩).n)).1,(lenOf (symL (ts.getD i ⟨0,0,0⟩).n)).2)]) x'∧∀kb o,x0.heap.size≤kb→x.heap[kb]?=some o→x'.heap[kb]?=some o):=qz (fun i x0 x hi hx hbx h0=>by
  obtain ⟨r,hr⟩:=z4s ts i hi
  unfold z4h at hr
  rw [if_neg h0] at hr
  exact hn _ _ _ _ _ x0 x hr hx hbx)
 have HT2:Hid (∀i x,i<ts.length→J (evs (ts.take i)++[(true,symL (ts.getD i ⟨0,0,0⟩).n,(ts.getD i ⟨0,0,0⟩).n-(lenOf (symL (ts.getD i ⟨0,0,0⟩).n)).1,(lenOf (symL (ts.getD i ⟨0,0,0⟩).n)).2)]) x→¬ (ts.getD i ⟨0,0,0⟩).n=0→Calls Tryz.prog 85 (#[z5v (symD (ts.getD i ⟨0,0,0⟩).d) ((ts.getD i ⟨0,0,0⟩).d-(z0h (symD (ts.getD i ⟨0,0,0⟩).d)).1) (z0h (symD (ts.getD i ⟨0,0,0⟩).d)).2]++k2) x fun e x'=>e=.returned (.tuple #[])∧J (evs (ts.take (i+1))) x'):=qz (fun i x hi hx h0=>by
  obtain ⟨r,hr⟩:=z4s ts i hi
  rw [y0d ts i hi]
  unfold z4h at hr ⊢
  rw [if_neg h0] at hr ⊢
  have:=hf _ _ _ _ _ x x (by rw [hr];simp only [List.append_assoc,List.cons_append,List.nil_append];rfl) hx (Below.refl _ _)
  simp only [List.append_assoc,List.cons_append,List.nil_append] at this
  exact this.mono fun e x' h=>⟨h.1,h.2.1⟩)
 have HTO:Hid (∀i,i<ts.length→(ts.getD i ⟨0,0,0⟩).n=0∧(ts.getD i ⟨0,0,0⟩).b<256∨3≤(ts.getD i ⟨0,0,0⟩).n∧(ts.getD i ⟨0,0,0⟩).n≤258∧1≤(ts.getD i ⟨0,0,0⟩).d∧(ts.getD i ⟨0,0,0⟩).d≤32768):=qz (fun i hi=>hok _ (by simp [List.getD_eq_getElem?_getD,hi]))
 have HFIN:Hid (∀x,J (evs (ts.take ts.length)) x→J (evs ts) x):=qz (fun x h=>by rwa [List.take_length] at h)
 obtain ⟨n,hN⟩:∃n,n=ts.length:=⟨_,rfl⟩
 have HN:=qz hN
 rw [←hN] at hlen HTK HT1 HT2 HTO HFIN ⊢
 have HB:=qz hb
 have HR:Hid (∀l x i,J l x→i<n→∃b off,a=some ⟨b,off,none⟩∧x.cell? ⟨b,off+i*3,none⟩=some (.int .i64 ((ts.getD i ⟨0,0,0⟩).n:Int))∧x.cell? ⟨b,off+i*3+1,none⟩=some (.int .i64 ((ts.getD i ⟨0,0,0⟩).d:Int))∧x.cell? ⟨b,off+i*3+2,none⟩=some (.int .u8 ((ts.getD i ⟨0,0,0⟩).b:Int))):=qz (fun l x i hx hi=>hr l x hx i (by rw [←hN];exact hi))
 have H0:Hid (J (evs (ts.take 0)) w):=qz h0
 clear hok hb hr hn hf h0 hN
 go_enter Tryz.func79,Tryz.ntmps79
 go_wp2_with fail
 go_loopg [10] n (fun gk iv' ws=>∃i:Nat,gk=n-i∧i≤n∧iv'=.int .i64 (i:Int)∧Hid (J (evs (ts.take i)) ws))
 case atStart=>exact ⟨0,by omega,by omega,rfl,H0⟩
 case round =>
  clear H0
  obtain ⟨i,rfl,hin,rfl,hj⟩:=hrel
  by_cases hlt:i<n
  ·have e1:(i:Int)<(n:Int):=by omega
   obtain ⟨b,off,rfl,q1,q2,q3⟩:=uh HR _ wr i (uh hj) hlt
   have hto:=uh HTO i hlt
   have HTKi:=qz (fun x=>uh HTK i x hlt)
   have HT1i:=qz (fun x0 x=>uh HT1 i x0 x hlt)
   have HT2i:=qz (fun x=>uh HT2 i x hlt)
   have HW1:Hid (∀v x,3≤v→v≤258→_):=qz (fun v x h1 h2=>z9u v x h1 h2)
   have HW2:Hid (∀v x,1≤v→v≤32768→_):=qz (fun v x h1 h2=>z8d v x h1 h2)
   generalize ts.getD i ⟨0,0,0⟩=t at q1 q2 q3 hto HTKi HT1i HT2i
   obtain ⟨tn,td,tb⟩:=t
   simp only at q1 q2 q3 hto HTKi HT1i HT2i
   obtain ⟨W1,hW1⟩:∃W1,W1=wr.alloc (.cells #[.int .i64 (tn:Int),.int .i64 (td:Int),.int .u8 (tb:Int)] 76):=⟨_,rfl⟩
   have HB1:Hid (Below wr.heap.size wr W1):=qz (by rw [hW1];exact (Below.refl _ _).alloc (Nat.le_refl _) _)
   have x1:W1.heap[wr.heap.size]?=some (.cells #[.int .i64 (tn:Int),.int .i64 (td:Int),.int .u8 (tb:Int)] 76 (0,0)):=by rw [hW1];exact heap_alloc_new _ _
   have HJ1:Hid (J (evs (ts.take i)) W1):=qz (uh HB _ _ _ (uh hj) (uh HB1))
   have d0:W1.cell? ⟨wr.heap.size,0,none⟩=some (.int .i64 (tn:Int)):=by simp only [World.cell?,x1];rfl
   have d2:W1.cell? ⟨wr.heap.size,2,none⟩=some (.int .u8 (tb:Int)):=by simp only [World.cell?,x1];rfl
   have d0':=d0
   have d2':=d2
   rw [hW1] at d0' d2'
   by_cases ht0:tn=0
   ·subst ht0
    have hb256:tb<256:=by omega
    have HC:=qz (uh HTKi W1 (uh HJ1) rfl)
    clear HT1i HT2i HTKi hto
    go_wp2_with fail
    rw [show wr.alloc (.cells #[.int .i64 0,.int .i64 (td:Int),.int .u8 (tb:Int)] 76)=W1 from hW1.symm]
    clear hW1 d0' d2'
    refine (uh HC).mono ?_
    rintro e W2 ⟨rfl,j2⟩
    have HJ2:=qz j2
    clear j2 HC
    go_wp2_with fail
    go_roundg (n-(i+1))
    case measure=>omega
    case rel=>exact ⟨i+1,rfl,by omega,by go_num,HJ2⟩
   ·have ht0':((tn:Int) == 0)=false:=by simp;omega
    have hti:¬ (tn:Int)=0:=by omega
    have hto2:3≤tn∧tn≤258∧1≤td∧td≤32768:=by omega
    have HL1:=qz (uh HW1 tn W1 hto2.1 hto2.2.1)
    have HL2:Hid (∀x,_):=qz (fun x=>uh HW2 td x hto2.2.2.1 hto2.2.2.2)
    have HC1:Hid (∀x,Below wr.heap.size wr x→_):=qz (fun x hx=>uh HT1i wr x (uh hj) hx ht0)
    have HC2:Hid (∀x,_→_):=qz (fun x hx=>uh HT2i x hx ht0)
    generalize z5v (symL tn) (tn-(lenOf (symL tn)).1) (lenOf (symL tn)).2=V1 at HL1 HC1
    generalize z5v (symD td) (td-(z0h (symD td)).1) (z0h (symD td)).2=V2 at HL2 HC2
    clear HT1i HT2i HTKi hto HW1 HW2
    go_wp2_with fail
    rw [←hW1]
    clear hW1 d0' d2'
    refine (uh HL1).mono ?_
    rintro e W2 ⟨rfl,b2⟩
    have hs2:wr.heap.size<W2.heap.size:=Nat.lt_of_lt_of_le (z0b x1) b2.size
    have x2:W2.heap[wr.heap.size]?=some (.cells #[.int .i64 (tn:Int),.int .i64 (td:Int),.int .u8 (tb:Int)] 76 (0,0)):=by rw [b2.block _ (z0b x1)];exact x1
    have HB2:Hid (Below wr.heap.size wr W2):=qz ((uh HB1).trans (b2.mono (uh HB1).size))
    clear b2 HL1 x1
    go_wp2_with fail
    refine (uh HC1 W2 (uh HB2)).mono ?_
    rintro e W3 ⟨rfl,j3,k3⟩
    have x3:=k3 wr.heap.size _ (Nat.le_refl _) x2
    have e3:W3.cell? ⟨wr.heap.size,1,none⟩=some (.int .i64 (td:Int)):=by simp only [World.cell?,x3];rfl
    have HJ3:=qz j3
    clear j3 k3 HC1 x2 x3 d0 d2
    go_wp2_with fail
    refine (uh HL2 W3).mono ?_
    rintro e W4 ⟨rfl,b4⟩
    have HJ4:=qz (uh HB _ _ _ (uh HJ3) b4)
    clear b4 HJ3 HL2
    go_wp2_with fail
    refine (uh HC2 W4 (uh HJ4)).mono ?_
    rintro e W5 ⟨rfl,j5⟩
    have HJ5:=qz j5
    clear j5 HC2 HJ4
    go_wp2_with fail
    go_roundg (n-(i+1))
    case measure=>omega
    case rel=>exact ⟨i+1,rfl,by omega,by go_num,HJ5⟩
  ·obtain rfl:i=n:=by omega
   have HE:=qz (uh HEND wr (uh HFIN wr (uh hj)))
   clear hj
   go_wp2_with fail
   refine (uh HE).mono ?_
   rintro e W2 ⟨rfl,j2⟩
   have HJ2:=qz j2
   clear j2 HE
   go_wp2_with fail
   go_end0
   exact ⟨rfl,uh HJ2⟩
end W4
namespace W4
open Go.RowKit Mth Infl Defl
attribute [local go_sem ↓] wp_at_zero wp_at_succ
theorem x2v (ts:List T) (a:Option Addr) (cap:Nat) (k1 k2:Array Value) (J:List Ev→World→Prop) (w:World) (hok:y4i ts) (hlen:ts.length≤1000000000)
  (hb:∀l x x',J l x→Below x.heap.size x x'→J l x') (hr:∀l x,J l x→z3e x a ts)
  (hn:∀l s m y r x0 x,z3f ts=l++(true,s,m,y) :: r→J l x0→Below x0.heap.size x0 x→Calls Tryz.prog 80 (#[wv s m y]++k1) x fun e x'=>e=.returned (.tuple #[])∧J (l++[(true,s,m,y)]) x'∧∀kb o,x0.heap.size≤kb→x.heap[kb]?=some o→x'.heap[kb]?=some o)
  (hf:∀l s m y r x0 x,z3f ts=l++(false,s,m,y) :: r→J l x0→Below x0.heap.size x0 x→Calls Tryz.prog 82 (#[wv s m y]++k2) x fun e x'=>e=.returned (.tuple #[])∧J (l++[(false,s,m,y)]) x'∧∀kb o,x0.heap.size≤kb→x.heap[kb]?=some o→x'.heap[kb]?=some o) (h0:J [] w) :
  Calls Tryz.prog 79 #[.slice a ts.length cap,.func (.func 80) #[] k1,.func (.func 82) #[] k2] w fun e w'=>e=.returned (.tuple #[])∧J (z3f ts) w':=by
 have HEND:Hid (∀x,J (evs ts) x→Calls Tryz.prog 80 (#[.agg #[.int .i64 256,.int .i64 0,.int .i64 0]]++k1) x fun e x'=>e=.returned (.tuple #[])∧J (z3f ts) x'):=qz (fun x hx=>(hn (evs ts) 256 0 0 [] x x rfl hx (Below.refl _ _)).mono fun e x' h=>⟨h.1,h.2.1⟩)
 have HTK:Hid (∀i x,i<ts.length→J (evs (ts.take i)) x→(ts.getD i ⟨0,0,0⟩).n=0→Calls Tryz.prog 80 (#[.agg #[.int .i64 ((ts.getD i ⟨0,0,0⟩).b:Int),.int .i64 0,.int .i64 0]]++k1) x fun e x'=>e=.returned (.tuple #[])∧J (evs (ts.take (i+1))) x'):=qz (fun i x hi hx h0=>by
  obtain ⟨r,hr⟩:=z4s ts i hi
  have et:z4h (ts.getD i ⟨0,0,0⟩)=[(true,(ts.getD i ⟨0,0,0⟩).b,0,0)]:=by unfold z4h;rw [if_pos h0]
  rw [y0d ts i hi]
  rw [et] at hr ⊢
  exact (hn _ _ _ _ _ x x hr hx (Below.refl _ _)).mono fun e x' h=>⟨h.1,h.2.1⟩)
 have HT1:Hid (∀i x0 x,i<ts.length→J (evs (ts.take i)) x0→Below x0.heap.size x0 x→¬ (ts.getD i ⟨0,0,0⟩).n=0→Calls Tryz.prog 80 (#[z5v (symL (ts.getD i ⟨0,0,0⟩).n) ((ts.getD i ⟨0,0,0⟩).n-(lenOf (symL (ts.getD i ⟨0,0,0⟩).n)).1) (lenOf (symL (ts.getD i ⟨0,0,0⟩).n)).2]++k1) x fun e x'=>e=.returned (.tuple #[])∧J (evs (ts.take i)++[(true,symL (ts.getD i ⟨0,0,0⟩).n,(ts.getD i ⟨0,0,0⟩).n-(lenOf (symL (ts.getD i ⟨0,0,0⟩).n)).1,(lenOf (symL (ts.getD i ⟨0,0,0⟩).n)).2)]) x'∧∀kb o,x0.heap.size≤kb→x.heap[kb]?=some o→x'.heap[kb]?=some o):=qz (fun i x0 x hi hx hbx h0=>by
  obtain ⟨r,hr⟩:=z4s ts i hi
  unfold z4h at hr
  rw [if_neg h0] at hr
  exact hn _ _ _ _ _ x0 x hr hx hbx)
 have HT2:Hid (∀i x,i<ts.length→J (evs (ts.take i)++[(true,symL (ts.getD i ⟨0,0,0⟩).n,(ts.getD i ⟨0,0,0⟩).n-(lenOf (symL (ts.getD i ⟨0,0,0⟩).n)).1,(lenOf (symL (ts.getD i ⟨0,0,0⟩).n)).2)]) x→¬ (ts.getD i ⟨0,0,0⟩).n=0→Calls Tryz.prog 82 (#[z5v (symD (ts.getD i ⟨0,0,0⟩).d) ((ts.getD i ⟨0,0,0⟩).d-(z0h (symD (ts.getD i ⟨0,0,0⟩).d)).1) (z0h (symD (ts.getD i ⟨0,0,0⟩).d)).2]++k2) x fun e x'=>e=.returned (.tuple #[])∧J (evs (ts.take (i+1))) x'):=qz (fun i x hi hx h0=>by
  obtain ⟨r,hr⟩:=z4s ts i hi
  rw [y0d ts i hi]
  unfold z4h at hr ⊢
  rw [if_neg h0] at hr ⊢
  have:=hf _ _ _ _ _ x x (by rw [hr];simp only [List.append_assoc,List.cons_append,List.nil_append];rfl) hx (Below.refl _ _)
  simp only [List.append_assoc,List.cons_append,List.nil_append] at this
  exact this.mono fun e x' h=>⟨h.1,h.2.1⟩)
 have HTO:Hid (∀i,i<ts.length→(ts.getD i ⟨0,0,0⟩).n=0∧(ts.getD i ⟨0,0,0⟩).b<256∨3≤(ts.getD i ⟨0,0,0⟩).n∧(ts.getD i ⟨0,0,0⟩).n≤258∧1≤(ts.getD i ⟨0,0,0⟩).d∧(ts.getD i ⟨0,0,0⟩).d≤32768):=qz (fun i hi=>hok _ (by simp [List.getD_eq_getElem?_getD,hi]))
 have HFIN:Hid (∀x,J (evs (ts.take ts.length)) x→J (evs ts) x):=qz (fun x h=>by rwa [List.take_length] at h)
 obtain ⟨n,hN⟩:∃n,n=ts.length:=⟨_,rfl⟩
 have HN:=qz hN
 rw [←hN] at hlen HTK HT1 HT2 HTO HFIN ⊢
 have HB:=qz hb
 have HR:Hid (∀l x i,J l x→i<n→∃b off,a=some ⟨b,off,none⟩∧x.cell? ⟨b,off+i*3,none⟩=some (.int .i64 ((ts.getD i ⟨0,0,0⟩).n:Int))∧x.cell? ⟨b,off+i*3+1,none⟩=some (.int .i64 ((ts.getD i ⟨0,0,0⟩).d:Int))∧x.cell? ⟨b,off+i*3+2,none⟩=some (.int .u8 ((ts.getD i ⟨0,0,0⟩).b:Int))):=qz (fun l x i hx hi=>hr l x hx i (by rw [←hN];exact hi))
 have H0:Hid (J (evs (ts.take 0)) w):=qz h0
 clear hok hb hr hn hf h0 hN
 go_enter Tryz.func79,Tryz.ntmps79
 go_wp2_with fail
 go_loopg [10] n (fun gk iv' ws=>∃i:Nat,gk=n-i∧i≤n∧iv'=.int .i64 (i:Int)∧Hid (J (evs (ts.take i)) ws))
 case atStart=>exact ⟨0,by omega,by omega,rfl,H0⟩
 case round =>
  clear H0
  obtain ⟨i,rfl,hin,rfl,hj⟩:=hrel
  by_cases hlt:i<n
  ·have e1:(i:Int)<(n:Int):=by omega
   obtain ⟨b,off,rfl,q1,q2,q3⟩:=uh HR _ wr i (uh hj) hlt
   have hto:=uh HTO i hlt
   have HTKi:=qz (fun x=>uh HTK i x hlt)
   have HT1i:=qz (fun x0 x=>uh HT1 i x0 x hlt)
   have HT2i:=qz (fun x=>uh HT2 i x hlt)
   have HW1:Hid (∀v x,3≤v→v≤258→_):=qz (fun v x h1 h2=>z9u v x h1 h2)
   have HW2:Hid (∀v x,1≤v→v≤32768→_):=qz (fun v x h1 h2=>z8d v x h1 h2)
   generalize ts.getD i ⟨0,0,0⟩=t at q1 q2 q3 hto HTKi HT1i HT2i
   obtain ⟨tn,td,tb⟩:=t
   simp only at q1 q2 q3 hto HTKi HT1i HT2i
   obtain ⟨W1,hW1⟩:∃W1,W1=wr.alloc (.cells #[.int .i64 (tn:Int),.int .i64 (td:Int),.int .u8 (tb:Int)] 76):=⟨_,rfl⟩
   have HB1:Hid (Below wr.heap.size wr W1):=qz (by rw [hW1];exact (Below.refl _ _).alloc (Nat.le_refl _) _)
   have x1:W1.heap[wr.heap.size]?=some (.cells #[.int .i64 (tn:Int),.int .i64 (td:Int),.int .u8 (tb:Int)] 76 (0,0)):=by rw [hW1];exact heap_alloc_new _ _
   have HJ1:Hid (J (evs (ts.take i)) W1):=qz (uh HB _ _ _ (uh hj) (uh HB1))
   have d0:W1.cell? ⟨wr.heap.size,0,none⟩=some (.int .i64 (tn:Int)):=by simp only [World.cell?,x1];rfl
   have d2:W1.cell? ⟨wr.heap.size,2,none⟩=some (.int .u8 (tb:Int)):=by simp only [World.cell?,x1];rfl
   have d0':=d0
   have d2':=d2
   rw [hW1] at d0' d2'
   by_cases ht0:tn=0
   ·subst ht0
    have hb256:tb<256:=by omega
    have HC:=qz (uh HTKi W1 (uh HJ1) rfl)
    clear HT1i HT2i HTKi hto
    go_wp2_with fail
    rw [show wr.alloc (.cells #[.int .i64 0,.int .i64 (td:Int),.int .u8 (tb:Int)] 76)=W1 from hW1.symm]
    clear hW1 d0' d2'
    refine (uh HC).mono ?_
    rintro e W2 ⟨rfl,j2⟩
    have HJ2:=qz j2
    clear j2 HC
    go_wp2_with fail
    go_roundg (n-(i+1))
    case measure=>omega
    case rel=>exact ⟨i+1,rfl,by omega,by go_num,HJ2⟩
   ·have ht0':((tn:Int) == 0)=false:=by simp;omega
    have hti:¬ (tn:Int)=0:=by omega
    have hto2:3≤tn∧tn≤258∧1≤td∧td≤32768:=by omega
    have HL1:=qz (uh HW1 tn W1 hto2.1 hto2.2.1)
    have HL2:Hid (∀x,_):=qz (fun x=>uh HW2 td x hto2.2.2.1 hto2.2.2.2)
    have HC1:Hid (∀x,Below wr.heap.size wr x→_):=qz (fun x hx=>uh HT1i wr x (uh hj) hx ht0)
    have HC2:Hid (∀x,_→_):=qz (fun x hx=>uh HT2i x hx ht0)
    generalize z5v (symL tn) (tn-(lenOf (symL tn)).1) (lenOf (symL tn)).2=V1 at HL1 HC1
    generalize z5v (symD td) (td-(z0h (symD td)).1) (z0h (symD td)).2=V2 at HL2 HC2
    clear HT1i HT2i HTKi hto HW1 HW2
    go_wp2_with fail
    rw [←hW1]
    clear hW1 d0' d2'
    refine (uh HL1).mono ?_
    rintro e W2 ⟨rfl,b2⟩
    have hs2:wr.heap.size<W2.heap.size:=Nat.lt_of_lt_of_le (z0b x1) b2.size
    have x2:W2.heap[wr.heap.size]?=some (.cells #[.int .i64 (tn:Int),.int .i64 (td:Int),.int .u8 (tb:Int)] 76 (0,0)):=by rw [b2.block _ (z0b x1)];exact x1
    have HB2:Hid (Below wr.heap.size wr W2):=qz ((uh HB1).trans (b2.mono (uh HB1).size))
    clear b2 HL1 x1
    go_wp2_with fail
    refine (uh HC1 W2 (uh HB2)).mono ?_
    rintro e W3 ⟨rfl,j3,k3⟩
    have x3:=k3 wr.heap.size _ (Nat.le_refl _) x2
    have e3:W3.cell? ⟨wr.heap.size,1,none⟩=some (.int .i64 (td:Int)):=by simp only [World.cell?,x3];rfl
    have HJ3:=qz j3
    clear j3 k3 HC1 x2 x3 d0 d2
    go_wp2_with fail
    refine (uh HL2 W3).mono ?_
    rintro e W4 ⟨rfl,b4⟩
    have HJ4:=qz (uh HB _ _ _ (uh HJ3) b4)
    clear b4 HJ3 HL2
    go_wp2_with fail
    refine (uh HC2 W4 (uh HJ4)).mono ?_
    rintro e W5 ⟨rfl,j5⟩
    have HJ5:=qz j5
    clear j5 HC2 HJ4
    go_wp2_with fail
    go_roundg (n-(i+1))
    case measure=>omega
    case rel=>exact ⟨i+1,rfl,by omega,by go_num,HJ5⟩
  ·obtain rfl:i=n:=by omega
   have HE:=qz (uh HEND wr (uh HFIN wr (uh hj)))
   clear hj
   go_wp2_with fail
   refine (uh HE).mono ?_
   rintro e W2 ⟨rfl,j2⟩
   have HJ2:=qz j2
   clear j2 HE
   go_wp2_with fail
   go_end0
   exact ⟨rfl,uh HJ2⟩
end W4
namespace W4
open Go.RowKit Mth Infl Defl
attribute [local go_sem ↓] wp_at_zero wp_at_succ
theorem z9p (ts:List T) (a:Option Addr) (cap:Nat) (k1 k2:Array Value) (J:List Ev→World→Prop) (w:World) (hok:y4i ts) (hlen:ts.length≤1000000000)
  (hb:∀l x x',J l x→Below x.heap.size x x'→J l x') (hr:∀l x,J l x→z3e x a ts)
  (hn:∀l s m y r x0 x,z3f ts=l++(true,s,m,y) :: r→J l x0→Below x0.heap.size x0 x→Calls Tryz.prog 111 (#[wv s m y]++k1) x fun e x'=>e=.returned (.tuple #[])∧J (l++[(true,s,m,y)]) x'∧∀kb o,x0.heap.size≤kb→x.heap[kb]?=some o→x'.heap[kb]?=some o)
  (hf:∀l s m y r x0 x,z3f ts=l++(false,s,m,y) :: r→J l x0→Below x0.heap.size x0 x→Calls Tryz.prog 112 (#[wv s m y]++k2) x fun e x'=>e=.returned (.tuple #[])∧J (l++[(false,s,m,y)]) x'∧∀kb o,x0.heap.size≤kb→x.heap[kb]?=some o→x'.heap[kb]?=some o) (h0:J [] w) :
  Calls Tryz.prog 79 #[.slice a ts.length cap,.func (.func 111) #[] k1,.func (.func 112) #[] k2] w fun e w'=>e=.returned (.tuple #[])∧J (z3f ts) w':=by
 have HEND:Hid (∀x,J (evs ts) x→Calls Tryz.prog 111 (#[.agg #[.int .i64 256,.int .i64 0,.int .i64 0]]++k1) x fun e x'=>e=.returned (.tuple #[])∧J (z3f ts) x'):=qz (fun x hx=>(hn (evs ts) 256 0 0 [] x x rfl hx (Below.refl _ _)).mono fun e x' h=>⟨h.1,h.2.1⟩)
 have HTK:Hid (∀i x,i<ts.length→J (evs (ts.take i)) x→(ts.getD i ⟨0,0,0⟩).n=0→Calls Tryz.prog 111 (#[.agg #[.int .i64 ((ts.getD i ⟨0,0,0⟩).b:Int),.int .i64 0,.int .i64 0]]++k1) x fun e x'=>e=.returned (.tuple #[])∧J (evs (ts.take (i+1))) x'):=qz (fun i x hi hx h0=>by
  obtain ⟨r,hr⟩:=z4s ts i hi
  have et:z4h (ts.getD i ⟨0,0,0⟩)=[(true,(ts.getD i ⟨0,0,0⟩).b,0,0)]:=by unfold z4h;rw [if_pos h0]
  rw [y0d ts i hi]
  rw [et] at hr ⊢
  exact (hn _ _ _ _ _ x x hr hx (Below.refl _ _)).mono fun e x' h=>⟨h.1,h.2.1⟩)
 have HT1:Hid (∀i x0 x,i<ts.length→J (evs (ts.take i)) x0→Below x0.heap.size x0 x→¬ (ts.getD i ⟨0,0,0⟩).n=0→Calls Tryz.prog 111 (#[z5v (symL (ts.getD i ⟨0,0,0⟩).n) ((ts.getD i ⟨0,0,0⟩).n-(lenOf (symL (ts.getD i ⟨0,0,0⟩).n)).1) (lenOf (symL (ts.getD i ⟨0,0,0⟩).n)).2]++k1) x fun e x'=>e=.returned (.tuple #[])∧J (evs (ts.take i)++[(true,symL (ts.getD i ⟨0,0,0⟩).n,(ts.getD i ⟨0,0,0⟩).n-(lenOf (symL (ts.getD i ⟨0,0,0⟩).n)).1,(lenOf (symL (ts.getD i ⟨0,0,0⟩).n)).2)]) x'∧∀kb o,x0.heap.size≤kb→x.heap[kb]?=some o→x'.heap[kb]?=some o):=qz (fun i x0 x hi hx hbx h0=>by
  obtain ⟨r,hr⟩:=z4s ts i hi
  unfold z4h at hr
  rw [if_neg h0] at hr
  exact hn _ _ _ _ _ x0 x hr hx hbx)
 have HT2:Hid (∀i x,i<ts.length→J (evs (ts.take i)++[(true,symL (ts.getD i ⟨0,0,0⟩).n,(ts.getD i ⟨0,0,0⟩).n-(lenOf (symL (ts.getD i ⟨0,0,0⟩).n)).1,(lenOf (symL (ts.getD i ⟨0,0,0⟩).n)).2)]) x→¬ (ts.getD i ⟨0,0,0⟩).n=0→Calls Tryz.prog 112 (#[z5v (symD (ts.getD i ⟨0,0,0⟩).d) ((ts.getD i ⟨0,0,0⟩).d-(z0h (symD (ts.getD i ⟨0,0,0⟩).d)).1) (z0h (symD (ts.getD i ⟨0,0,0⟩).d)).2]++k2) x fun e x'=>e=.returned (.tuple #[])∧J (evs (ts.take (i+1))) x'):=qz (fun i x hi hx h0=>by
  obtain ⟨r,hr⟩:=z4s ts i hi
  rw [y0d ts i hi]
  unfold z4h at hr ⊢
  rw [if_neg h0] at hr ⊢
  have:=hf _ _ _ _ _ x x (by rw [hr];simp only [List.append_assoc,List.cons_append,List.nil_append];rfl) hx (Below.refl _ _)
  simp only [List.append_assoc,List.cons_append,List.nil_append] at this
  exact this.mono fun e x' h=>⟨h.1,h.2.1⟩)
 have HTO:Hid (∀i,i<ts.length→(ts.getD i ⟨0,0,0⟩).n=0∧(ts.getD i ⟨0,0,0⟩).b<256∨3≤(ts.getD i ⟨0,0,0⟩).n∧(ts.getD i ⟨0,0,0⟩).n≤258∧1≤(ts.getD i ⟨0,0,0⟩).d∧(ts.getD i ⟨0,0,0⟩).d≤32768):=qz (fun i hi=>hok _ (by simp [List.getD_eq_getElem?_getD,hi]))
 have HFIN:Hid (∀x,J (evs (ts.take ts.length)) x→J (evs ts) x):=qz (fun x h=>by rwa [List.take_length] at h)
 obtain ⟨n,hN⟩:∃n,n=ts.length:=⟨_,rfl⟩
 have HN:=qz hN
 rw [←hN] at hlen HTK HT1 HT2 HTO HFIN ⊢
 have HB:=qz hb
 have HR:Hid (∀l x i,J l x→i<n→∃b off,a=some ⟨b,off,none⟩∧x.cell? ⟨b,off+i*3,none⟩=some (.int .i64 ((ts.getD i ⟨0,0,0⟩).n:Int))∧x.cell? ⟨b,off+i*3+1,none⟩=some (.int .i64 ((ts.getD i ⟨0,0,0⟩).d:Int))∧x.cell? ⟨b,off+i*3+2,none⟩=some (.int .u8 ((ts.getD i ⟨0,0,0⟩).b:Int))):=qz (fun l x i hx hi=>hr l x hx i (by rw [←hN];exact hi))
 have H0:Hid (J (evs (ts.take 0)) w):=qz h0
 clear hok hb hr hn hf h0 hN
 go_enter Tryz.func79,Tryz.ntmps79
 go_wp2_with fail
 go_loopg [10] n (fun gk iv' ws=>∃i:Nat,gk=n-i∧i≤n∧iv'=.int .i64 (i:Int)∧Hid (J (evs (ts.take i)) ws))
 case atStart=>exact ⟨0,by omega,by omega,rfl,H0⟩
 case round =>
  clear H0
  obtain ⟨i,rfl,hin,rfl,hj⟩:=hrel
  by_cases hlt:i<n
  ·have e1:(i:Int)<(n:Int):=by omega
   obtain ⟨b,off,rfl,q1,q2,q3⟩:=uh HR _ wr i (uh hj) hlt
   have hto:=uh HTO i hlt
   have HTKi:=qz (fun x=>uh HTK i x hlt)
   have HT1i:=qz (fun x0 x=>uh HT1 i x0 x hlt)
   have HT2i:=qz (fun x=>uh HT2 i x hlt)
   have HW1:Hid (∀v x,3≤v→v≤258→_):=qz (fun v x h1 h2=>z9u v x h1 h2)
   have HW2:Hid (∀v x,1≤v→v≤32768→_):=qz (fun v x h1 h2=>z8d v x h1 h2)
   generalize ts.getD i ⟨0,0,0⟩=t at q1 q2 q3 hto HTKi HT1i HT2i
   obtain ⟨tn,td,tb⟩:=t
   simp only at q1 q2 q3 hto HTKi HT1i HT2i
   obtain ⟨W1,hW1⟩:∃W1,W1=wr.alloc (.cells #[.int .i64 (tn:Int),.int .i64 (td:Int),.int .u8 (tb:Int)] 76):=⟨_,rfl⟩
   have HB1:Hid (Below wr.heap.size wr W1):=qz (by rw [hW1];exact (Below.refl _ _).alloc (Nat.le_refl _) _)
   have x1:W1.heap[wr.heap.size]?=some (.cells #[.int .i64 (tn:Int),.int .i64 (td:Int),.int .u8 (tb:Int)] 76 (0,0)):=by rw [hW1];exact heap_alloc_new _ _
   have HJ1:Hid (J (evs (ts.take i)) W1):=qz (uh HB _ _ _ (uh hj) (uh HB1))
   have d0:W1.cell? ⟨wr.heap.size,0,none⟩=some (.int .i64 (tn:Int)):=by simp only [World.cell?,x1];rfl
   have d2:W1.cell? ⟨wr.heap.size,2,none⟩=some (.int .u8 (tb:Int)):=by simp only [World.cell?,x1];rfl
   have d0':=d0
   have d2':=d2
   rw [hW1] at d0' d2'
   by_cases ht0:tn=0
   ·subst ht0
    have hb256:tb<256:=by omega
    have HC:=qz (uh HTKi W1 (uh HJ1) rfl)
    clear HT1i HT2i HTKi hto
    go_wp2_with fail
    rw [show wr.alloc (.cells #[.int .i64 0,.int .i64 (td:Int),.int .u8 (tb:Int)] 76)=W1 from hW1.symm]
    clear hW1 d0' d2'
    refine (uh HC).mono ?_
    rintro e W2 ⟨rfl,j2⟩
    have HJ2:=qz j2
    clear j2 HC
    go_wp2_with fail
    go_roundg (n-(i+1))
    case measure=>omega
    case rel=>exact ⟨i+1,rfl,by omega,by go_num,HJ2⟩
   ·have ht0':((tn:Int) == 0)=false:=by simp;omega
    have hti:¬ (tn:Int)=0:=by omega
    have hto2:3≤tn∧tn≤258∧1≤td∧td≤32768:=by omega
    have HL1:=qz (uh HW1 tn W1 hto2.1 hto2.2.1)
    have HL2:Hid (∀x,_):=qz (fun x=>uh HW2 td x hto2.2.2.1 hto2.2.2.2)
    have HC1:Hid (∀x,Below wr.heap.size wr x→_):=qz (fun x hx=>uh HT1i wr x (uh hj) hx ht0)
    have HC2:Hid (∀x,_→_):=qz (fun x hx=>uh HT2i x hx ht0)
    generalize z5v (symL tn) (tn-(lenOf (symL tn)).1) (lenOf (symL tn)).2=V1 at HL1 HC1
    generalize z5v (symD td) (td-(z0h (symD td)).1) (z0h (symD td)).2=V2 at HL2 HC2
    clear HT1i HT2i HTKi hto HW1 HW2
    go_wp2_with fail
    rw [←hW1]
    clear hW1 d0' d2'
    refine (uh HL1).mono ?_
    rintro e W2 ⟨rfl,b2⟩
    have hs2:wr.heap.size<W2.heap.size:=Nat.lt_of_lt_of_le (z0b x1) b2.size
    have x2:W2.heap[wr.heap.size]?=some (.cells #[.int .i64 (tn:Int),.int .i64 (td:Int),.int .u8 (tb:Int)] 76 (0,0)):=by rw [b2.block _ (z0b x1)];exact x1
    have HB2:Hid (Below wr.heap.size wr W2):=qz ((uh HB1).trans (b2.mono (uh HB1).size))
    clear b2 HL1 x1
    go_wp2_with fail
    refine (uh HC1 W2 (uh HB2)).mono ?_
    rintro e W3 ⟨rfl,j3,k3⟩
    have x3:=k3 wr.heap.size _ (Nat.le_refl _) x2
    have e3:W3.cell? ⟨wr.heap.size,1,none⟩=some (.int .i64 (td:Int)):=by simp only [World.cell?,x3];rfl
    have HJ3:=qz j3
    clear j3 k3 HC1 x2 x3 d0 d2
    go_wp2_with fail
    refine (uh HL2 W3).mono ?_
    rintro e W4 ⟨rfl,b4⟩
    have HJ4:=qz (uh HB _ _ _ (uh HJ3) b4)
    clear b4 HJ3 HL2
    go_wp2_with fail
    refine (uh HC2 W4 (uh HJ4)).mono ?_
    rintro e W5 ⟨rfl,j5⟩
    have HJ5:=qz j5
    clear j5 HC2 HJ4
    go_wp2_with fail
    go_roundg (n-(i+1))
    case measure=>omega
    case rel=>exact ⟨i+1,rfl,by omega,by go_num,HJ5⟩
  ·obtain rfl:i=n:=by omega
   have HE:=qz (uh HEND wr (uh HFIN wr (uh hj)))
   clear hj
   go_wp2_with fail
   refine (uh HE).mono ?_
   rintro e W2 ⟨rfl,j2⟩
   have HJ2:=qz j2
   clear j2 HE
   go_wp2_with fail
   go_end0
   exact ⟨rfl,uh HJ2⟩
end W4
namespace W4
open Go.RowKit Mth Infl Defl
attribute [local go_sem ↓] wp_at_zero wp_at_succ
theorem w1k (w:World):Calls Tryz.prog 94 #[.int .u64 1,.int .u64 32] w fun e w'=>e=.returned (.tuple #[.int .u64 0,.int .u64 32])∧w'=w:=by
 go_enter Tryz.func94,Tryz.ntmps94
 go_wp2_with fail
 go_ret2
 exact ⟨rfl,rfl⟩
theorem w6e (w:World):Calls Tryz.prog 61 #[.int .u64 1,.int .u64 32] w fun e w'=>e=.returned (.tuple #[.int .u64 0,.int .u64 32])∧w'=w:=by
 have H:=qz (w1k w)
 go_enter Tryz.func61,Tryz.ntmps61
 go_wp2_with fail
 refine (uh H).mono ?_
 rintro e w' ⟨rfl,rfl⟩
 go_wp2_with fail
 go_ret2
 exact ⟨rfl,rfl⟩
def fv (n:Nat):List Value:=List.replicate n (.int .i64 5)++List.replicate (32-n) (.int .i64 0)
theorem w3k:(Tryz.prog.info? 3).map (·.size)=some 1:=by kernel_rfl
theorem x8m (g0:Nat) (w:World) (h0:w.heap[g0]?=some (.cells #[.int .i64 5] 3 (0,0))) :
  Calls Tryz.prog 28 #[.slice (some ⟨g0,0,none⟩) 1 1,.int .i64 32] w fun e w'=>e=.returned (.slice (some ⟨w.heap.size,0,none⟩) 32 32)∧z0c w' .i64 3 w.heap.size 32 (fun _=>5)∧Below w.heap.size w w':=by
 have HM:=qz (w6e w)
 have hmk:∀w,(Instr.makeSlice 45 (.int .i64 32) (.int .i64 32)).run Tryz.prog w=.ok (.slice (some ⟨w.heap.size,0,none⟩) 32 32) (w.alloc (.cells (z0d .i64 32 (fun _=>0)) 3)):=fun w=>z2c w 32 (by decide)
 have H0:=qz h0
 clear h0
 go_enter Tryz.func28,Tryz.ntmps28
 go_wp2_with fail
 refine (uh HM).mono ?_
 rintro e w' ⟨rfl,rfl⟩
 have HZ:Hid ((w'.alloc (.cells (z0d .i64 32 (fun _=>0)) 3)).heap[w'.heap.size]?=some (.cells (List.replicate 32 (Value.int .i64 0)).toArray 3 (0,0))):=qz (by rw [heap_alloc_new];rfl)
 have HSRC:Hid (∀ (j:Nat) v,[Value.int .i64 5][j]?=some v→(w'.alloc (.cells (z0d .i64 32 (fun _=>0)) 3)).cell? ((⟨g0,0,none⟩:Addr).add j)=some v):=qz (fun j v hj=>by
  have hg:=z0b (uh H0)
  have ea:(⟨g0,0,none⟩:Addr).add j=⟨g0,j,none⟩:=by by_cases hq:j=0<;>simp [Addr.add,hq]
  rw [ea]
  simp only [World.cell?,Below.heap_alloc _ _ _ hg,uh H0]
  simpa using hj)
 have HBL:Hid (Below w'.heap.size w' (w'.alloc (.cells (z0d .i64 32 (fun _=>0)) 3))):=qz ((Below.refl _ _).alloc (Nat.le_refl _) _)
 go_wp2_with (first|(refine wpList_copy_splice rfl (.tmp 31) (.tmp 32) 45 45 rfl 3 Tryz.underlying45 w3k _ _ _ _ _ _ (by rfl) (by rfl) w'.heap.size 0 _ 3 (uh HZ) [.int .i64 5] rfl (fun _=>⟨rfl,_,rfl,uh HSRC⟩) (by simp) (by intro v hv;simp at hv;subst hv;rfl) w'.heap.size w' (uh HBL) (Nat.le_refl _) ?_;intro w2 h2 hb2;have H2:Hid (w2.heap[w'.heap.size]?=some (.cells (fv 1).toArray 3 (0,0))):=qz (by rw [uh h2];rfl);have HB2:=qz hb2;clear h2 hb2))
 obtain ⟨g,hg⟩:∃g,g=w'.heap.size:=⟨_,rfl⟩
 have HG:=qz hg
 rw [←hg] at H2 ⊢
 clear HM HZ HSRC HBL hmk hg
 go_loopg [8] 31 (fun gk nv ws=>∃n:Nat,gk=32-n∧nv=.int .i64 (n:Int)∧(n=32∨1≤n∧n≤16)∧Hid (n=1∨n=2∨n=4∨n=8∨n=16∨n=32)∧Hid (ws.heap[g]?=some (.cells (fv n).toArray 3 (0,0)))∧Hid (Below w'.heap.size w' ws))
 case atStart=>exact ⟨1,by omega,rfl,.inr ⟨by omega,by omega⟩,qz (.inl rfl),H2,HB2⟩
 case round =>
  obtain ⟨n,rfl,rfl,hn,hn6,hrow,hbel⟩:=hrel
  clear H2 HB2
  rcases hn with rfl|⟨hn1,hn2⟩
  ·go_wp2_with fail
   go_ret
   refine ⟨by rw [uh HG];rfl,?_,uh hbel⟩
   rw [←uh HG]
   unfold z0c
   rw [uh hrow]
   rfl
  ·have HNEXT:Hid (splice (fv n) n (List.replicate n (Value.int .i64 5))=fv (n+n)):=qz (by
    rcases uh hn6 with rfl|rfl|rfl|rfl|rfl|rfl<;>first|rfl|omega)
   have HSR:Hid (∀q (j:Nat) v,(List.replicate n (Value.int .i64 5))[j]?=some v→(wr.drewN q).cell? ((⟨g,0,none⟩:Addr).add j)=some v):=qz (fun q j v hj=>by
    have ea:(⟨g,0,none⟩:Addr).add j=⟨g,j,none⟩:=by by_cases hq:j=0<;>simp [Addr.add,hq]
    rw [ea]
    have hjn:j<n:=by
     rcases Nat.lt_or_ge j n with h|h
     ·exact h
     ·rw [List.getElem?_eq_none (by simp;omega)] at hj;cases hj
    show wr.cell? ⟨g,j,none⟩=some v
    simp only [World.cell?,uh hrow]
    unfold fv
    simp only [List.getElem?_toArray]
    rw [List.getElem?_append_left (by simpa using hjn)]
    exact hj)
   have hcp:(Builtin.copy_ #[45,45] 3 #[.slice (some ⟨g,n,none⟩) (32-n) (32-n),.slice (some ⟨g,0,none⟩) n 32]).run Tryz.prog wr.drew=.ok (.int .i64 (n:Int)) (wr.drew.setRow g (fv (n+n)).toArray):=by
    have h:=run_copy_row (P:=Tryz.prog) wr.drew 45 45 3 3 g n (32-n) (32-n) ⟨g,0,none⟩ n 32 (fv n).toArray 3 (List.replicate n (.int .i64 5)) Tryz.underlying45 w3k (uh hrow) (by rw [List.length_replicate];exact (Nat.min_eq_left (by omega)).symm) (uh HSR 1) (by simp [fv];omega) (by intro v hv;rw [List.mem_replicate] at hv;rw [hv.2];rfl)
    have e:=uh HNEXT
    unfold splice at e
    simp only [List.length_replicate] at h e
    refine h.trans ?_
    rw [←e,List.append_assoc]
    rfl
   have e1:(n:Int)<32:=by omega
   have e2:¬32=n:=by omega
   have e3:(n:Int)≤32:=by omega
   have e4:((n+n:Nat):Int)=(n:Int)+(n:Int):=by omega
   have e5:IntKind.i64.wrap ((n:Int)+(n:Int))=(n:Int)+(n:Int):=IntWalk.i64_in _ (by omega)
   have HN6:=hn6
   clear HSR HNEXT hn6
   go_wp2_with fail
   refine wp_region_noPanic ?_
   refine wp_region_held_drew (S:=fun _=>True) (by kernel_rfl) True.intro (fun hHeld=>?_)
   refine hT 0 38 rfl rfl hHeld nPp (v:=?_) (fun x hSx=>?_) ?_
   rotate_left 1
   ·go_simp<;>with_reducible rfl
   simp only [sA,sB]
   refine hT 1 39 rfl rfl hHeld nPp (v:=?_) (fun x hSx=>?_) ?_
   rotate_left 1
   ·go_simp<;>with_reducible rfl
   simp only [sA,sB]
   refine hT 2 40 rfl rfl hHeld nPp (v:=?_) (fun x hSx=>?_) ?_
   rotate_left 1
   ·go_simp<;>with_reducible rfl
   simp only [sA,sB]
   refine hT 3 41 rfl rfl hHeld nPp (v:=?_) (fun x hSx=>?_) ?_
   rotate_left 1
   ·go_simp<;>with_reducible rfl
   simp only [sA,sB]
   refine hT 4 42 rfl rfl hHeld nPp (v:=?_) (fun x hSx=>?_) ?_
   rotate_left 1
   ·go_simp<;>with_reducible rfl
   simp only [sA,sB]
   refine hT 5 43 rfl rfl hHeld nPp (v:=?_) (fun x hSx=>?_) ?_
   rotate_left 1
   ·go_simp<;>with_reducible rfl
   simp only [sA,sB]
   refine hT 6 44 rfl rfl hHeld nPp (v:=?_) (fun x hSx=>?_) ?_
   rotate_left 1
   ·go_simp<;>with_reducible rfl
   simp only [sA,sB]
   refine hO 7 45 rfl rfl (v:=.int .i64 (n:Int)) (w':=wr.drew.setRow g (fv (n+n)).toArray) ?_ True.intro ?_
   ·go_simp<;>with_reducible rfl
   simp only [sA,sB]
   refine hO 8 46 rfl rfl (v:=.int .i64 ((n+n:Nat):Int)) (w':=wr.drew.setRow g (fv (n+n)).toArray) ?_ True.intro ?_
   ·go_simp<;>with_reducible rfl
   simp only [sA,sB]
   refine hO 9 8 rfl rfl (v:=.int .i64 ((n+n:Nat):Int)) (w':=wr.drew.setRow g (fv (n+n)).toArray) ?_ True.intro ?_
   ·go_simp<;>with_reducible rfl
   simp only [sA,sB]
   refine dN ?_
   have HR2:Hid ((wr.drew.setRow g (fv (n+n)).toArray).heap[g]?=some (.cells (fv (n+n)).toArray 3 (0,0))):=qz (setRow_heap wr.drew g _ _ 3 _ (uh hrow))
   have HB2:Hid (Below w'.heap.size w' (wr.drew.setRow g (fv (n+n)).toArray)):=qz (below_setRow (below_drewN (uh hbel) 1) (by have:=uh HG;omega) _)
   go_wp2_with fail
   go_roundg (32-(n+n))
   case measure=>omega
   case rel=>exact ⟨n+n,rfl,rfl,(by have:=uh HN6;omega),qz (by have:=uh HN6;omega),HR2,HB2⟩
structure TwoCodes (l1 l2:List Nat) (w:World) (c1 c2 lo hi:Nat):Prop where
 a:∃x y,Code l1 w c1 x y∧lo≤x∧y≤hi
 b:∃x y,Code l2 w c2 x y∧lo≤x∧y≤hi
theorem TwoCodes.keep {l1 l2:List Nat} {w w':World} {c1 c2 lo hi:Nat} (h:TwoCodes l1 l2 w c1 c2 lo hi) (hk:∀k,lo≤k→k<hi→w'.heap[k]?=w.heap[k]?):TwoCodes l1 l2 w' c1 c2 lo hi:=by
 obtain ⟨⟨x,y,h1,h2,h3⟩,⟨x',y',h1',h2',h3'⟩⟩:=h
 exact ⟨⟨x,y,h1.keep fun k hk1 hk2=>hk k (by omega) (by omega),h2,h3⟩,⟨x',y',h1'.keep fun k hk1 hk2=>hk k (by omega) (by omega),h2',h3'⟩⟩
theorem y1z (l1 l2:List Nat) (v1 v2:Value) (w:World) (h1:z3h w v1 l1) (h2:z3h w v2 l2) (hn1:1≤l1.length∧l1.length≤65536) (hn2:1≤l2.length∧l2.length≤65536) (hl1:∀l∈l1,l≤15) (hl2:∀l∈l2,l≤15) (ho1:z2s l1 true) (ho2:z2s l2 true) :
  Calls Tryz.prog 26 #[v1,v2] w fun e w'=>∃c1 c2,e=.returned (.agg #[.pointer (some ⟨c1,0,none⟩),.pointer (some ⟨c2,0,none⟩)])∧TwoCodes l1 l2 w' c1 c2 w.heap.size w'.heap.size∧Below w.heap.size w w':=by
 have HN1:Hid (∀W,Below w.heap.size w W→Calls Tryz.prog 60 #[v1,.int .i64 15,.bool true] W fun e w'=>∃cp,e=.returned (.tuple #[.pointer (some ⟨cp,0,none⟩),.int .i64 0])∧Code l1 w' cp W.heap.size w'.heap.size∧Below W.heap.size W w'):=qz (fun W hb=>by
  refine (rnew l1 15 true v1 W (h1.stays hb) (by decide) hn1 hl1).mono ?_
  rintro e w' ⟨hb,h|⟨_,cp,h3,h4⟩⟩
  ·rw [x5f ho1] at h;cases h.1
  ·exact ⟨cp,h3,h4,hb⟩)
 have HN2:Hid (∀W,Below w.heap.size w W→Calls Tryz.prog 60 #[v2,.int .i64 15,.bool true] W fun e w'=>∃cp,e=.returned (.tuple #[.pointer (some ⟨cp,0,none⟩),.int .i64 0])∧Code l2 w' cp W.heap.size w'.heap.size∧Below W.heap.size W w'):=qz (fun W hb=>by
  refine (rnew l2 15 true v2 W (h2.stays hb) (by decide) hn2 hl2).mono ?_
  rintro e w' ⟨hb,h|⟨_,cp,h3,h4⟩⟩
  ·rw [x5f ho2] at h;cases h.1
  ·exact ⟨cp,h3,h4,hb⟩)
 clear h1 h2 hn1 hn2 hl1 hl2 ho1 ho2
 go_enter Tryz.func26,Tryz.ntmps26
 go_wp2_with fail
 obtain ⟨W1,hW1⟩:∃W1,W1=w.alloc (.cells #[.pointer none,.pointer none] 39):=⟨_,rfl⟩
 have HB1:Hid (Below w.heap.size w W1):=qz (by rw [hW1];exact (Below.refl _ _).alloc (Nat.le_refl _) _)
 have HX1:Hid (W1.heap[w.heap.size]?=some (.cells #[.pointer none,.pointer none] 39 (0,0))):=qz (by rw [hW1];exact heap_alloc_new _ _)
 have hs1:W1.heap.size=w.heap.size+1:=by rw [hW1];simp
 rw [←hW1]
 clear hW1
 refine (uh HN1 W1 (uh HB1)).mono ?_
 rintro e W2 ⟨c1,rfl,q1,b1⟩
 have x2:W2.heap[w.heap.size]?=some (.cells #[.pointer none,.pointer none] 39 (0,0)):=by rw [b1.block _ (by omega)];exact uh HX1
 have d0:W2.cell? ⟨w.heap.size,0,none⟩=some (.pointer none):=by simp [World.cell?,x2]
 have d1:W2.cell? ⟨w.heap.size,1,none⟩=some (.pointer none):=by simp [World.cell?,x2]
 have f0:∀o,W2.frozen? ⟨w.heap.size,o,none⟩=false:=fun o=>by simp [World.frozen?,x2]
 have hs2:=b1.size
 have HC1:Hid (Code l1 W2 c1 W1.heap.size W2.heap.size):=qz q1
 have HB2:Hid (Below w.heap.size w (W2.setCell ⟨w.heap.size,0,none⟩ (.pointer (some ⟨c1,0,none⟩)))):=qz (((uh HB1).trans (b1.mono (by omega))).setCell (Nat.le_refl _) _)
 have HX2:Hid ((W2.setCell ⟨w.heap.size,0,none⟩ (.pointer (some ⟨c1,0,none⟩))).heap[w.heap.size]?=some (.cells #[.pointer (some ⟨c1,0,none⟩),.pointer none] 39 (0,0))):=qz (by rw [heap_setCell_same _ _ 0 _ _ _ x2];rfl)
 have HC2:Hid (Code l1 (W2.setCell ⟨w.heap.size,0,none⟩ (.pointer (some ⟨c1,0,none⟩))) c1 W1.heap.size W2.heap.size):=qz (q1.keep fun k h1 h2=>heap_setCell_other _ _ _ _ (by show k≠w.heap.size;omega))
 have HS3:Hid ((W2.setCell ⟨w.heap.size,0,none⟩ (.pointer (some ⟨c1,0,none⟩))).heap.size=W2.heap.size):=qz (by simp)
 clear q1 b1 HC1
 go_wp2_with fail
 generalize W2.setCell ⟨w.heap.size,0,none⟩ (.pointer (some ⟨c1,0,none⟩))=W3 at HB2 HX2 HC2 HS3 ⊢
 refine (uh HN2 W3 (uh HB2)).mono ?_
 rintro e W4 ⟨c2,rfl,q2,b2⟩
 have x4:W4.heap[w.heap.size]?=some (.cells #[.pointer (some ⟨c1,0,none⟩),.pointer none] 39 (0,0)):=by rw [b2.block _ (by have:=uh HS3;omega)];exact uh HX2
 have g0:W4.cell? ⟨w.heap.size,0,none⟩=some (.pointer (some ⟨c1,0,none⟩)):=by simp [World.cell?,x4]
 have g1:W4.cell? ⟨w.heap.size,1,none⟩=some (.pointer none):=by simp [World.cell?,x4]
 have f1:∀o,W4.frozen? ⟨w.heap.size,o,none⟩=false:=fun o=>by simp [World.frozen?,x4]
 have hs4:=b2.size
 have hs3:=uh HS3
 have HK:Hid (∀k,k≠w.heap.size→(((W4.setCell ⟨w.heap.size,1,none⟩ (.pointer (some ⟨c2,0,none⟩))).setCell ⟨w.heap.size,0,none⟩ (.pointer (some ⟨c1,0,none⟩))).setCell ⟨w.heap.size,1,none⟩ (.pointer (some ⟨c2,0,none⟩))).heap[k]?=W4.heap[k]?):=qz (fun k hk=>by rw [heap_setCell_other _ _ _ _ (by exact hk),heap_setCell_other _ _ _ _ (by exact hk),heap_setCell_other _ _ _ _ (by exact hk)])
 have HT:Hid (TwoCodes l1 l2 (((W4.setCell ⟨w.heap.size,1,none⟩ (.pointer (some ⟨c2,0,none⟩))).setCell ⟨w.heap.size,0,none⟩ (.pointer (some ⟨c1,0,none⟩))).setCell ⟨w.heap.size,1,none⟩ (.pointer (some ⟨c2,0,none⟩))) c1 c2 w.heap.size (((W4.setCell ⟨w.heap.size,1,none⟩ (.pointer (some ⟨c2,0,none⟩))).setCell ⟨w.heap.size,0,none⟩ (.pointer (some ⟨c1,0,none⟩))).setCell ⟨w.heap.size,1,none⟩ (.pointer (some ⟨c2,0,none⟩))).heap.size):=qz (by
  refine ⟨⟨W1.heap.size,W2.heap.size,?_,by omega,by simp;omega⟩,⟨W3.heap.size,W4.heap.size,?_,by omega,by simp⟩⟩
  ·refine ((uh HC2).keep fun k h1 h2=>b2.block k (by omega)).keep fun k h1 h2=>uh HK k (by omega)
  ·exact q2.keep fun k h1 h2=>uh HK k (by omega))
 have HB4:Hid (Below w.heap.size w (((W4.setCell ⟨w.heap.size,1,none⟩ (.pointer (some ⟨c2,0,none⟩))).setCell ⟨w.heap.size,0,none⟩ (.pointer (some ⟨c1,0,none⟩))).setCell ⟨w.heap.size,1,none⟩ (.pointer (some ⟨c2,0,none⟩)))):=qz (((((uh HB2).trans (b2.mono (by omega))).setCell (Nat.le_refl _) _).setCell (Nat.le_refl _) _).setCell (Nat.le_refl _) _)
 clear q2 b2 HC2 HX2 HB2 d0 d1 f0 x2 x4
 go_wp2_with fail
 refine bodyPost_ret (v:=.agg #[.pointer (some ⟨c1,0,none⟩),.pointer (some ⟨c2,0,none⟩)]) ?_ rfl ⟨c1,c2,rfl,uh HT,uh HB4⟩
 rw [z2g rfl]
 go_simp
theorem y6z:z2s z1b true∧z2s z1c true:=⟨.inl y1r,.inl y1p⟩
theorem y2z (l1 l2:List Nat) (w:World) (h1:Hid (l1=z1b)) (h2:Hid (l2=z1c)) :
  Calls Tryz.prog 11 #[] w fun e w'=>∃c1 c2,e=.returned (.agg #[.pointer (some ⟨c1,0,none⟩),.pointer (some ⟨c2,0,none⟩)])∧TwoCodes l1 l2 w' c1 c2 w.heap.size w'.heap.size∧Below w.heap.size w w':=by
 go_enter Tryz.func11,Tryz.ntmps11
 go_wp2_with fail
 obtain ⟨W1,hW1⟩:∃W1,W1=w.alloc (.cells #[.pointer none,.pointer none] 39):=⟨_,rfl⟩
 have HB1:Hid (Below w.heap.size w W1):=qz (by rw [hW1];exact (Below.refl _ _).alloc (Nat.le_refl _) _)
 have x1:W1.heap[w.heap.size]?=some (.cells #[.pointer none,.pointer none] 39 (0,0)):=by rw [hW1];exact heap_alloc_new _ _
 have hs1:w.heap.size<W1.heap.size:=by rw [hW1];simp
 rw [←hW1]
 clear hW1
 refine (y5b W1).mono ?_
 rintro e W2 ⟨rfl,a2,b2⟩
 have HR2:Hid (z3h W2 (.slice (some ⟨W1.heap.size,0,none⟩) 288 288) l1):=qz (by rw [uh h1];exact y3p a2 z1b z4l)
 have x2:W2.heap[w.heap.size]?=some (.cells #[.pointer none,.pointer none] 39 (0,0)):=by rw [b2.block _ (by omega)];exact x1
 have HB2:Hid (Below w.heap.size w W2):=qz ((uh HB1).trans (b2.mono (by omega)))
 have hs2:=b2.size
 clear a2 b2 HB1 x1
 go_wp2_with fail
 obtain ⟨W3,hW3⟩:∃W3,W3=W2.alloc (.cells #[.int .i64 5] 3):=⟨_,rfl⟩
 have hs3:W2.heap.size<W3.heap.size:=by rw [hW3];simp
 have x3:W3.heap[w.heap.size]?=some (.cells #[.pointer none,.pointer none] 39 (0,0)):=by rw [hW3,Below.heap_alloc _ _ _ (by omega)];exact x2
 have y3:W3.heap[W2.heap.size]?=some (.cells #[.int .i64 5] 3 (0,0)):=by rw [hW3];exact heap_alloc_new _ _
 have HB23:Hid (Below W2.heap.size W2 W3):=qz (by rw [hW3];exact (Below.refl _ _).alloc (Nat.le_refl _) _)
 rw [←hW3]
 clear hW3 x2
 refine (x8m W2.heap.size W3 y3).mono ?_
 rintro e W4 ⟨rfl,a4,b4⟩
 have HR4:Hid (z3h W4 (.slice (some ⟨W3.heap.size,0,none⟩) 32 32) l2):=qz (by rw [uh h2];exact y3p a4 z1c (by decide))
 have HR4b:Hid (z3h W4 (.slice (some ⟨W1.heap.size,0,none⟩) 288 288) l1):=qz (((uh HR2).stays (uh HB23)).stays b4)
 have x4:W4.heap[w.heap.size]?=some (.cells #[.pointer none,.pointer none] 39 (0,0)):=by rw [b4.block _ (by omega)];exact x3
 have HB4:Hid (Below w.heap.size w W4):=qz (((uh HB2).trans ((uh HB23).mono (uh HB2).size)).trans (b4.mono (by omega)))
 have hs4:=b4.size
 clear a4 b4 HB2 HB23 HR2 x3 y3
 have HNC:=qz (y1z l1 l2 _ _ W4 (uh HR4b) (uh HR4) (by rw [uh h1,z5r];decide) (by rw [uh h2,z7g];decide) (by rw [uh h1];exact y6y) (by rw [uh h2];exact x6d) (by rw [uh h1];exact y6z.1) (by rw [uh h2];exact y6z.2))
 go_wp2_with fail
 refine (uh HNC).mono ?_
 rintro e W5 ⟨c1,c2,rfl,t5,b5⟩
 have x5:W5.heap[w.heap.size]?=some (.cells #[.pointer none,.pointer none] 39 (0,0)):=by rw [b5.block _ (by omega)];exact x4
 have g0:W5.cell? ⟨w.heap.size,0,none⟩=some (.pointer none):=by simp [World.cell?,x5]
 have g1:W5.cell? ⟨w.heap.size,1,none⟩=some (.pointer none):=by simp [World.cell?,x5]
 have f1:∀o,W5.frozen? ⟨w.heap.size,o,none⟩=false:=fun o=>by simp [World.frozen?,x5]
 have hs5:=b5.size
 have HT:Hid (TwoCodes l1 l2 ((W5.setCell ⟨w.heap.size,0,none⟩ (.pointer (some ⟨c1,0,none⟩))).setCell ⟨w.heap.size,1,none⟩ (.pointer (some ⟨c2,0,none⟩))) c1 c2 w.heap.size ((W5.setCell ⟨w.heap.size,0,none⟩ (.pointer (some ⟨c1,0,none⟩))).setCell ⟨w.heap.size,1,none⟩ (.pointer (some ⟨c2,0,none⟩))).heap.size):=qz (by
  have t6:=t5.keep (w':=(W5.setCell ⟨w.heap.size,0,none⟩ (.pointer (some ⟨c1,0,none⟩))).setCell ⟨w.heap.size,1,none⟩ (.pointer (some ⟨c2,0,none⟩))) (fun k h1 h2=>by rw [heap_setCell_other _ _ _ _ (by show k≠w.heap.size;omega),heap_setCell_other _ _ _ _ (by show k≠w.heap.size;omega)])
  obtain ⟨⟨x,y,q1,q2,q3⟩,⟨x',y',q1',q2',q3'⟩⟩:=t6
  exact ⟨⟨x,y,q1,by omega,by simpa using q3⟩,⟨x',y',q1',by omega,by simpa using q3'⟩⟩)
 have HB6:Hid (Below w.heap.size w ((W5.setCell ⟨w.heap.size,0,none⟩ (.pointer (some ⟨c1,0,none⟩))).setCell ⟨w.heap.size,1,none⟩ (.pointer (some ⟨c2,0,none⟩)))):=qz ((((uh HB4).trans (b5.mono (by omega))).setCell (Nat.le_refl _) _).setCell (Nat.le_refl _) _)
 clear t5 b5 x5 x4 HB4 HR4 HR4b HNC
 go_wp2_with fail
 refine bodyPost_ret (v:=.agg #[.pointer (some ⟨c1,0,none⟩),.pointer (some ⟨c2,0,none⟩)]) ?_ rfl ⟨c1,c2,rfl,uh HT,uh HB6⟩
 rw [z2g rfl]
 go_simp
theorem y5a (w:World) :
  Calls Tryz.prog 11 #[] w fun e w'=>∃c1 c2,e=.returned (.agg #[.pointer (some ⟨c1,0,none⟩),.pointer (some ⟨c2,0,none⟩)])∧TwoCodes z1b z1c w' c1 c2 w.heap.size w'.heap.size∧Below w.heap.size w w' :=
 y2z z1b z1c w (qz rfl) (qz rfl)
end W4
namespace W4
open Go.RowKit Mth Infl Defl
attribute [local go_sem ↓] wp_at_zero wp_at_succ
def evB (l1 l2:List Nat) (e:Ev):List Bool:=wb (if e.1 then l1 else l2) e.2.1++nb e.2.2.1 e.2.2.2
def evsB (l1 l2:List Nat) (l:List Ev):List Bool:=(l.map (evB l1 l2)).flatten
structure EvOk (ls:List Nat) (s m y:Nat):Prop where
 has:s<ls.length
 pos:0<Canon.ln ls s
 most:Canon.ln ls s≤15
 fits:m<2^y
 few:y≤13
theorem z6n (l1 l2:List Nat) (l:List Ev) (e:Ev):evsB l1 l2 (l++[e])=evsB l1 l2 l++evB l1 l2 e:=by simp [evsB]
theorem y0z (l1 l2:List Nat) (ts:List T):evsB l1 l2 (z3f ts)=z2h l1 l2 ts++wb l1 256:=by
 unfold z3f
 rw [z6n]
 congr 1
 ·induction ts with
  | nil=>rfl
  | cons t ts ih =>
   have e1:evs (t :: ts)=z4h t++evs ts:=by simp [evs]
   have e2:z2h l1 l2 (t :: ts)=t.bits l1 l2++z2h l1 l2 ts:=by simp [z2h]
   rw [e1,e2,←ih]
   unfold evsB
   rw [List.map_append,List.flatten_append]
   congr 1
   unfold z4h T.bits
   by_cases h:t.n=0
   ·rw [if_pos h,if_pos h];simp [evB,nb]
   ·rw [if_neg h,if_neg h];simp [evB]
 ·simp [evB,nb]
theorem z6l (ts:List T):(z3f ts).length≤2*ts.length+1:=by
 unfold z3f
 rw [List.length_append]
 have:(evs ts).length≤2*ts.length:=by
  induction ts with
  | nil=>simp [evs]
  | cons t ts ih =>
   have e1:evs (t :: ts)=z4h t++evs ts:=by simp [evs]
   rw [e1,List.length_append,List.length_cons]
   have:(z4h t).length≤2:=by unfold z4h;split<;>simp
   omega
 simp
 omega
theorem y4k {l1 l2:List Nat} {ts:List T} (hok:y4i ts) (hhas:∀t∈ts,t.has l1 l2) (h256:256<l1.length∧0<Canon.ln l1 256) (hl1:∀s,Canon.ln l1 s≤15) (hl2:∀s,Canon.ln l2 s≤15) :
  ∀e∈z3f ts,EvOk (if e.1 then l1 else l2) e.2.1 e.2.2.1 e.2.2.2:=by
 intro e he
 unfold z3f at he
 rw [List.mem_append] at he
 rcases he with he|he
 ·unfold evs at he
  rw [List.mem_flatten] at he
  obtain ⟨l,hl,he⟩:=he
  rw [List.mem_map] at hl
  obtain ⟨t,ht,rfl⟩:=hl
  have h1:=hok t ht
  have h2:=hhas t ht
  unfold z4h at he
  unfold T.has at h2
  by_cases h:t.n=0
  ·rw [if_pos h] at he h2
   simp only [List.mem_singleton] at he
   subst he
   exact ⟨h2.1,h2.2,hl1 _,by simp,by simp⟩
  ·rw [if_neg h] at he h2
   have h3:3≤t.n∧t.n≤258∧1≤t.d∧t.d≤32768:=by rcases h1 with h1|h1;exact absurd h1.1 h;exact h1
   have a:=z6z t.n h3.1 h3.2.1
   have b:=z6y t.d h3.2.2.1 h3.2.2.2
   simp only [List.mem_cons,List.not_mem_nil,or_false] at he
   rcases he with rfl|rfl
   ·exact ⟨h2.1.1,h2.1.2,hl1 _,a.2.2.2,Nat.le_trans (z6b _ a.1 a.2.1).2 (by omega)⟩
   ·exact ⟨h2.2.1,h2.2.2,hl2 _,b.2.2,(z5g _ b.1).2.2⟩
 ·simp only [List.mem_singleton] at he
  subst he
  exact ⟨h256.1,h256.2,hl1 _,by simp,by simp⟩
theorem w4e {l1 l2:List Nat} {e:Ev} (h:EvOk (if e.1 then l1 else l2) e.2.1 e.2.2.1 e.2.2.2):(evB l1 l2 e).length≤28:=by
 unfold evB
 rw [List.length_append,z1i,z0g]
 have:=h.most
 have:=h.few
 omega
theorem y4y {l1 l2:List Nat} {l:List Ev} (h:∀e∈l,EvOk (if e.1 then l1 else l2) e.2.1 e.2.2.1 e.2.2.2):(evsB l1 l2 l).length≤28*l.length:=by
 induction l with
 | nil=>simp [evsB]
 | cons e l ih =>
  have h1:evsB l1 l2 (e :: l)=evB l1 l2 e++evsB l1 l2 l:=by simp [evsB]
  rw [h1,List.length_append,List.length_cons]
  have:=w4e (h e (by simp))
  have:=ih (fun x hx=>h x (by simp [hx]))
  omega
theorem WrAt.rebase {w0 w w1:World} {v0:Value} {pb:Nat} {L:List Bool} (h:WrAt w0 v0 pb L w) (hb:Below w.heap.size w w1):∃v,WrAt w1 v pb L w1∧∀L' w',WrAt w1 v pb L' w'→WrAt w0 v0 pb L' w'∧∀kb o,w.heap.size≤kb→w1.heap[kb]?=some o→w'.heap[kb]?=some o:=by
 obtain ⟨v,m,f,h1,h2,h3⟩:=h
 refine ⟨v,⟨v,m,f,h1.below hb,h2,Chg.refl _ _ _⟩,?_⟩
 rintro L' w' ⟨v',m',f',k1,k2,k3⟩
 refine ⟨⟨v',m',f',k1,k2,(h3.trans (Chg.of_below hb)).trans k3⟩,fun kb o hkb hko=>?_⟩
 have hp:=z0b h1.blk
 rw [k3.keep kb (z0b hko) (by omega) (fun e=>by have:=(h1.row.lt kb e).2;omega)]
 exact hko
theorem x0m {w0 w:World} {v0:Value} {pb:Nat} {L:List Bool} (h:WrAt w0 v0 pb L w) (ls:List Nat) (cp lo hi s m x:Nat) (hc:Code ls w cp lo hi) (hhi:hi≤w.heap.size) (he:EvOk ls s m x) (hb:L.length+40≤1000000000000000) :
  Calls Tryz.prog 84 #[wv s m x,.pointer (some ⟨pb,0,none⟩),.pointer (some ⟨cp,0,none⟩)] w fun e w'=>e=.returned (.tuple #[])∧WrAt w0 v0 pb (L++(wb ls s++nb m x)) w':=by
 obtain ⟨W1,hW1⟩:∃W1,W1=w.alloc (.cells #[.int .i64 (s:Int),.int .i64 (m:Int),.int .i64 (x:Int)] 141):=⟨_,rfl⟩
 have hb1:Below w.heap.size w W1:=by rw [hW1];exact (Below.refl _ _).alloc (Nat.le_refl _) _
 have x1:W1.heap[w.heap.size]?=some (.cells #[.int .i64 (s:Int),.int .i64 (m:Int),.int .i64 (x:Int)] 141 (0,0)):=by rw [hW1];exact heap_alloc_new _ _
 obtain ⟨v,r1,r2⟩:=h.rebase hb1
 have hc1:Code ls W1 cp lo hi:=hc.keep fun k k1 k2=>hb1.block k (by omega)
 have d0:W1.cell? ⟨w.heap.size,0,none⟩=some (.int .i64 (s:Int)):=by simp only [World.cell?,x1];rfl
 have d0':=d0
 rw [hW1] at d0'
 have HW:Hid (Calls Tryz.prog 110 #[.pointer (some ⟨cp,0,none⟩),.pointer (some ⟨pb,0,none⟩),.int .i64 (s:Int)] W1 fun e w'=>e=.returned (.int .i64 0)∧WrAt W1 v pb (L++wb ls s) w'):=qz (r1.word ls cp lo hi s hc1 he.has he.pos (by omega))
 have hm:m<8192:=Nat.lt_of_lt_of_le he.fits (Nat.pow_le_pow_right (by omega) he.few:2^x≤2^13)
 have HK:Hid (∀L' w',WrAt W1 v pb L' w'→w'.cell? ⟨w.heap.size,1,none⟩=some (.int .i64 (m:Int))∧w'.cell? ⟨w.heap.size,2,none⟩=some (.int .i64 (x:Int))):=qz (fun L' w' h'=>by
  have:=(r2 L' w' h').2 w.heap.size _ (Nat.le_refl _) x1
  constructor<;>(simp only [World.cell?,this];rfl))
 have HP:Hid (∀w',WrAt W1 v pb (L++wb ls s) w'→Calls Tryz.prog 53 #[.pointer (some ⟨pb,0,none⟩),.int .u64 (m:Int),.int .i64 (x:Int)] w' fun e w''=>e=.returned (.int .i64 0)∧WrAt w0 v0 pb (L++(wb ls s++nb m x)) w''):=qz (fun w' h'=>by
  have q1:=he.few
  have q2:=he.most
  have:=h'.put m x (by omega) he.fits (by rw [List.length_append,z1i];omega)
  rw [List.append_assoc] at this
  exact this.mono fun e w'' q=>⟨q.1,(r2 _ _ q.2).1⟩)
 have hx13:=he.few
 unfold wv
 clear h hc hc1 he hb r1 r2 hb1
 go_enter Tryz.func84,Tryz.ntmps84
 go_wp2_with fail
 rw [←hW1]
 clear d0' hW1
 refine (uh HW).mono ?_
 rintro e w1 ⟨rfl,h1⟩
 obtain ⟨d1,d2⟩:=uh HK _ _ h1
 have HP1:=qz (uh HP w1 h1)
 clear h1 HW HP HK d0 x1
 go_wp2_with fail
 refine (uh HP1).mono ?_
 rintro e w2 ⟨rfl,h2⟩
 have H2:=qz h2
 clear h2 HP1
 go_wp2_with fail
 go_end0
 exact ⟨rfl,uh H2⟩
theorem y2w (ls:List Nat) (cp lo hi s m x:Nat) (w:World) (hc:Code ls w cp lo hi) (hhi:hi≤w.heap.size) (he:EvOk ls s m x) :
  Calls Tryz.prog 81 #[wv s m x,.pointer (some ⟨cp,0,none⟩)] w fun e w'=>e=.returned (.int .i64 ((wb ls s++nb m x).length:Int))∧Below w.heap.size w w':=by
 obtain ⟨W1,hW1⟩:∃W1,W1=w.alloc (.cells #[.int .i64 (s:Int),.int .i64 (m:Int),.int .i64 (x:Int)] 141):=⟨_,rfl⟩
 have hb1:Below w.heap.size w W1:=by rw [hW1];exact (Below.refl _ _).alloc (Nat.le_refl _) _
 have x1:W1.heap[w.heap.size]?=some (.cells #[.int .i64 (s:Int),.int .i64 (m:Int),.int .i64 (x:Int)] 141 (0,0)):=by rw [hW1];exact heap_alloc_new _ _
 have hc1:Code ls W1 cp lo hi:=hc.keep fun k k1 k2=>hb1.block k (by omega)
 have d0:W1.cell? ⟨w.heap.size,0,none⟩=some (.int .i64 (s:Int)):=by simp only [World.cell?,x1];rfl
 have d0':=d0
 rw [hW1] at d0'
 have HW:=qz (y0f ls cp lo hi s W1 hc1 he.has he.pos)
 have q1:=he.few
 have q2:=he.most
 rw [List.length_append,z1i,z0g]
 obtain ⟨k,hk⟩:∃k,k=Canon.ln ls s:=⟨_,rfl⟩
 rw [←hk] at HW q2 ⊢
 unfold wv
 have HB1:=qz hb1
 clear hc hc1 he hk hb1
 go_enter Tryz.func81,Tryz.ntmps81
 go_wp2_with fail
 rw [←hW1]
 clear d0' hW1
 refine (uh HW).mono ?_
 rintro e w1 ⟨rfl,h1⟩
 have d2:w1.cell? ⟨w.heap.size,2,none⟩=some (.int .i64 (x:Int)):=by
  have:w1.heap[w.heap.size]?=_:=(h1.block _ (z0b x1)).trans x1
  simp only [World.cell?,this];rfl
 have H1:=qz ((uh HB1).trans (h1.mono (uh HB1).size))
 clear h1 HW HB1
 go_wp2_with fail
 go_ret
 exact ⟨by go_num,uh H1⟩
end W4
namespace W4
open Go.RowKit Mth Infl Defl
attribute [local go_sem ↓] wp_at_zero wp_at_succ
theorem w1y {w0 w:World} {v0:Value} {pb:Nat} {L:List Bool} (h:WrAt w0 v0 pb L w) (ls:List Nat) (cp lo hi s m x ub cb:Nat) (v1 v2:Value) (hc:Code ls w cp lo hi) (hhi:hi≤w.heap.size) (he:EvOk ls s m x) (hb:L.length+40≤1000000000000000) (hu:w.heap[ub]?=some (.cells #[.pointer (some ⟨pb,0,none⟩)] 33 (0,0))) (hcb:w.heap[cb]?=some (.cells #[v1,v2] 39 (0,0))) (hv:v1=.pointer (some ⟨cp,0,none⟩)) :
  Calls Tryz.prog 83 #[wv s m x,.pointer (some ⟨ub,0,none⟩),.pointer (some ⟨cb,0,none⟩)] w fun e w'=>e=.returned (.tuple #[])∧WrAt w0 v0 pb (L++(wb ls s++nb m x)) w':=by
 obtain ⟨W1,hW1⟩:∃W1,W1=w.alloc (.cells #[.int .i64 (s:Int),.int .i64 (m:Int),.int .i64 (x:Int)] 141):=⟨_,rfl⟩
 have hb1:Below w.heap.size w W1:=by rw [hW1];exact (Below.refl _ _).alloc (Nat.le_refl _) _
 have x1:W1.heap[w.heap.size]?=some (.cells #[.int .i64 (s:Int),.int .i64 (m:Int),.int .i64 (x:Int)] 141 (0,0)):=by rw [hW1];exact heap_alloc_new _ _
 have hu1:W1.heap[ub]?=some (.cells #[.pointer (some ⟨pb,0,none⟩)] 33 (0,0)):=(hb1.block _ (z0b hu)).trans hu
 have hcb1:W1.heap[cb]?=some (.cells #[v1,v2] 39 (0,0)):=(hb1.block _ (z0b hcb)).trans hcb
 subst hv
 have d1:W1.cell? ⟨ub,0,none⟩=some (.pointer (some ⟨pb,0,none⟩)):=by simp only [World.cell?,hu1];rfl
 have d2:W1.cell? ⟨cb,0,none⟩=some (.pointer (some ⟨cp,0,none⟩)):=by simp only [World.cell?,hcb1];rfl
 have d0:W1.cell? ⟨w.heap.size,0,none⟩=some (.int .i64 (s:Int)):=by simp only [World.cell?,x1];rfl
 rw [hW1] at d1 d2
 have HW:=qz (x0m (h.below hb1) ls cp lo hi s m x (hc.keep fun k k1 k2=>hb1.block k (by omega)) (Nat.le_trans hhi hb1.size) he hb)
 unfold wv at HW ⊢
 clear h hc he hb hhi hb1 x1 hu1 hcb1 hu hcb d0
 go_enter Tryz.func83,Tryz.ntmps83
 go_wp2_with fail
 rw [←hW1]
 clear d1 d2 hW1
 refine (uh HW).mono ?_
 rintro e w2 ⟨rfl,h2⟩
 have H2:=qz h2
 clear h2 HW
 go_wp2_with fail
 go_end0
 exact ⟨rfl,uh H2⟩
theorem w1z {w0 w:World} {v0:Value} {pb:Nat} {L:List Bool} (h:WrAt w0 v0 pb L w) (ls:List Nat) (cp lo hi s m x ub cb:Nat) (v1 v2:Value) (hc:Code ls w cp lo hi) (hhi:hi≤w.heap.size) (he:EvOk ls s m x) (hb:L.length+40≤1000000000000000) (hu:w.heap[ub]?=some (.cells #[.pointer (some ⟨pb,0,none⟩)] 33 (0,0))) (hcb:w.heap[cb]?=some (.cells #[v1,v2] 39 (0,0))) (hv:v2=.pointer (some ⟨cp,0,none⟩)) :
  Calls Tryz.prog 85 #[wv s m x,.pointer (some ⟨ub,0,none⟩),.pointer (some ⟨cb,0,none⟩)] w fun e w'=>e=.returned (.tuple #[])∧WrAt w0 v0 pb (L++(wb ls s++nb m x)) w':=by
 obtain ⟨W1,hW1⟩:∃W1,W1=w.alloc (.cells #[.int .i64 (s:Int),.int .i64 (m:Int),.int .i64 (x:Int)] 141):=⟨_,rfl⟩
 have hb1:Below w.heap.size w W1:=by rw [hW1];exact (Below.refl _ _).alloc (Nat.le_refl _) _
 have x1:W1.heap[w.heap.size]?=some (.cells #[.int .i64 (s:Int),.int .i64 (m:Int),.int .i64 (x:Int)] 141 (0,0)):=by rw [hW1];exact heap_alloc_new _ _
 have hu1:W1.heap[ub]?=some (.cells #[.pointer (some ⟨pb,0,none⟩)] 33 (0,0)):=(hb1.block _ (z0b hu)).trans hu
 have hcb1:W1.heap[cb]?=some (.cells #[v1,v2] 39 (0,0)):=(hb1.block _ (z0b hcb)).trans hcb
 subst hv
 have d1:W1.cell? ⟨ub,0,none⟩=some (.pointer (some ⟨pb,0,none⟩)):=by simp only [World.cell?,hu1];rfl
 have d2:W1.cell? ⟨cb,1,none⟩=some (.pointer (some ⟨cp,0,none⟩)):=by simp only [World.cell?,hcb1];rfl
 have d0:W1.cell? ⟨w.heap.size,0,none⟩=some (.int .i64 (s:Int)):=by simp only [World.cell?,x1];rfl
 rw [hW1] at d1 d2
 have HW:=qz (x0m (h.below hb1) ls cp lo hi s m x (hc.keep fun k k1 k2=>hb1.block k (by omega)) (Nat.le_trans hhi hb1.size) he hb)
 unfold wv at HW ⊢
 clear h hc he hb hhi hb1 x1 hu1 hcb1 hu hcb d0
 go_enter Tryz.func85,Tryz.ntmps85
 go_wp2_with fail
 rw [←hW1]
 clear d1 d2 hW1
 refine (uh HW).mono ?_
 rintro e w2 ⟨rfl,h2⟩
 have H2:=qz h2
 clear h2 HW
 go_wp2_with fail
 go_end0
 exact ⟨rfl,uh H2⟩
structure Chb (sb:Nat) (w x:World):Prop where
 os:x.os=w.os
 tape:x.tape=w.tape
 output:x.output=w.output
 size:w.heap.size≤x.heap.size
 keep:∀k,k<w.heap.size→k≠sb→x.heap[k]?=w.heap[k]?
theorem Chb.of_below {sb:Nat} {w x:World} (h:Below w.heap.size w x):Chb sb w x:=⟨h.os,h.tape,h.output,h.size,fun k hk _=>h.block k hk⟩
theorem Chb.trans {sb:Nat} {w x y:World} (h:Chb sb w x) (k:Chb sb x y):Chb sb w y:=⟨k.os.trans h.os,k.tape.trans h.tape,k.output.trans h.output,Nat.le_trans h.size k.size,fun j hj hn=>(k.keep j (Nat.lt_of_lt_of_le hj h.size) hn).trans (h.keep j hj hn)⟩
theorem Chb.set {sb:Nat} {w:World} {t:TypeId} {u v:Value} (h:w.heap[sb]?=some (.cells #[u] t (0,0))):(w.setCell ⟨sb,0,none⟩ v).heap[sb]?=some (.cells #[v] t (0,0))∧Chb sb w (w.setCell ⟨sb,0,none⟩ v):=by
 have e:w.setCell ⟨sb,0,none⟩ v={ w with heap:=w.heap.setIfInBounds sb (.cells #[v] t (0,0)) }:=by
  have hl:=z0b h
  have hg:w.heap[sb]=.cells #[u] t (0,0):=by rw [Array.getElem?_eq_getElem hl] at h;exact Option.some.inj h
  unfold World.setCell
  congr 1
  apply Array.ext (by simp)
  intro k k1 k2
  by_cases hk:sb=k
  ·subst hk
   simp [Array.getElem_modify,hg]
  ·rw [Array.getElem_modify,if_neg hk,Array.getElem_setIfInBounds,if_neg hk]
 have hl:=z0b h
 refine ⟨by rw [e];simp [hl],?_⟩
 rw [e]
 exact ⟨rfl,rfl,rfl,by simp,fun k hk hn=>by simp [Ne.symm hn]⟩
theorem x4f (w:World) (ls:List Nat) (cp lo hi s m x sb cb S:Nat) (v1 v2:Value) (hc:Code ls w cp lo hi) (hhi:hi≤w.heap.size) (he:EvOk ls s m x) (hS:S≤1000000000000000) (hu:w.heap[sb]?=some (.cells #[.int .i64 (S:Int)] 3 (0,0))) (hcb:w.heap[cb]?=some (.cells #[v1,v2] 39 (0,0))) (hv:v1=.pointer (some ⟨cp,0,none⟩)) :
  Calls Tryz.prog 80 #[wv s m x,.pointer (some ⟨sb,0,none⟩),.pointer (some ⟨cb,0,none⟩)] w fun e w'=>e=.returned (.tuple #[])∧w'.heap[sb]?=some (.cells #[.int .i64 ((S+(wb ls s++nb m x).length:Nat):Int)] 3 (0,0))∧Chb sb w w':=by
 obtain ⟨W1,hW1⟩:∃W1,W1=w.alloc (.cells #[.int .i64 (s:Int),.int .i64 (m:Int),.int .i64 (x:Int)] 141):=⟨_,rfl⟩
 have hb1:Below w.heap.size w W1:=by rw [hW1];exact (Below.refl _ _).alloc (Nat.le_refl _) _
 have x1:W1.heap[w.heap.size]?=some (.cells #[.int .i64 (s:Int),.int .i64 (m:Int),.int .i64 (x:Int)] 141 (0,0)):=by rw [hW1];exact heap_alloc_new _ _
 have hu1:W1.heap[sb]?=some (.cells #[.int .i64 (S:Int)] 3 (0,0)):=(hb1.block _ (z0b hu)).trans hu
 have hcb1:W1.heap[cb]?=some (.cells #[v1,v2] 39 (0,0)):=(hb1.block _ (z0b hcb)).trans hcb
 subst hv
 have hne:cb≠sb:=by rintro rfl;rw [hu1] at hcb1;simp at hcb1
 have hne2:w.heap.size≠sb:=by have:=z0b hu;omega
 have HR:Hid (∀y,Chb sb W1 y→y.cell? ⟨w.heap.size,0,none⟩=some (.int .i64 (s:Int))∧y.cell? ⟨w.heap.size,1,none⟩=some (.int .i64 (m:Int))∧y.cell? ⟨w.heap.size,2,none⟩=some (.int .i64 (x:Int))∧y.cell? ⟨cb,0,none⟩=some (.pointer (some ⟨cp,0,none⟩))):=qz (fun y hy=>by
  have a2:=(hy.keep _ (z0b hcb1) hne).trans hcb1
  have a3:=(hy.keep _ (z0b x1) hne2).trans x1
  refine ⟨?_,?_,?_,?_⟩
  ·simp only [World.cell?,a3];rfl
  ·simp only [World.cell?,a3];rfl
  ·simp only [World.cell?,a3];rfl
  ·simp only [World.cell?,a2];rfl)
 have HR0:Hid (∀y,Below W1.heap.size W1 y→y.heap[sb]?=some (.cells #[.int .i64 (S:Int)] 3 (0,0))∧y.cell? ⟨sb,0,none⟩=some (.int .i64 (S:Int))):=qz (fun y hy=>by
  have a1:=(hy.block _ (z0b hu1)).trans hu1
  refine ⟨a1,?_⟩
  simp only [World.cell?,a1];rfl)
 have HB0:Hid (Below W1.heap.size W1 W1.drew):=qz ⟨rfl,rfl,rfl,Nat.le_refl _,fun _ _=>rfl⟩
 have hlen:(wb ls s++nb m x).length≤28:=by rw [List.length_append,z1i,z0g];have:=he.most;have:=he.few;omega
 have HW:Hid (∀y,Below W1.heap.size W1 y→Calls Tryz.prog 81 #[wv s m x,.pointer (some ⟨cp,0,none⟩)] y fun e w'=>e=.returned (.int .i64 ((wb ls s++nb m x).length:Int))∧Below y.heap.size y w'):=qz (fun y hy=>y2w ls cp lo hi s m x y (hc.keep fun k k1 k2=>((hb1.trans (hy.mono hb1.size)).block k (by omega))) (Nat.le_trans hhi (Nat.le_trans hb1.size hy.size)) he)
 generalize (wb ls s++nb m x).length=n at hlen HW ⊢
 unfold wv at HW ⊢
 have HB1:=qz hb1
 clear hc he hhi hb1 hu1 hcb1 hu hcb x1 hne hne2
 go_enter Tryz.func80,Tryz.ntmps80
 go_wp2_with fail
 rw [←hW1]
 clear hW1
 refine wp_region_noPanic ?_
 refine wp_region_held_drew (S:=fun y=>Chb sb W1 y) (by kernel_rfl) ⟨rfl,rfl,rfl,Nat.le_refl _,fun _ _ _=>rfl⟩ (fun hHeld=>?_)
 refine hT 1 5 rfl rfl hHeld nPp (v:=?_) (fun x hSx=>?_) ?_
 rotate_left 1
 ·obtain ⟨q2,q3,q4,q5⟩:=uh HR x hSx;go_simp<;>with_reducible rfl
 simp only [sA,sB]
 refine hT 2 6 rfl rfl hHeld nPp (v:=?_) (fun x hSx=>?_) ?_
 rotate_left 1
 ·go_simp<;>with_reducible rfl
 simp only [sA,sB]
 refine hT 3 7 rfl rfl hHeld nPp (v:=?_) (fun x hSx=>?_) ?_
 rotate_left 1
 ·obtain ⟨q2,q3,q4,q5⟩:=uh HR x hSx;go_simp<;>with_reducible rfl
 simp only [sA,sB]
 have HS1:=qz hHeld
 refine z1s (i:=0) (j:=4) (by kernel_rfl) rfl rfl (fun K hK=>?_) (fun K hK=>?_)
 ·have p2:=(uh HR0 _ (uh HB0)).2
  refine z0n 0 4 hK rfl (by rfl) (v:=.int .i64 (S:Int)) (w':=W1.drew) ?_ (uh HS1) ?_
  ·first|(go_simp;done)|(go_simp<;>first|exact ⟨rfl,rfl⟩|rfl)
  simp only [sA,sB]
  refine z0u 4 8 (by kernel_rfl) rfl rfl (by rfl) (by go_simp<;>exact ⟨rfl,rfl⟩) ?_
  refine (uh HW _ (uh HB0)).mono ?_
  rintro e w2 ⟨rfl,h2⟩
  have HB2:Hid (Below W1.heap.size W1 w2):=qz ((uh HB0).trans (h2.mono (uh HB0).size))
  have HS2:Hid (Chb sb W1 w2):=qz (Chb.of_below (uh HB2))
  refine ⟨_,rfl,uh HS2,?_⟩
  simp only [sA,sB]
  clear h2
  refine hO 5 9 rfl rfl (v:=.int .i64 ((S:Int)+(n:Int))) (w':=w2) ?_ (uh HS2) ?_
  ·first|(go_simp;done)|(go_simp<;>first|exact ⟨rfl,rfl⟩|rfl|exact IntWalk.i64_in _ (by omega))
  simp only [sA,sB]
  obtain ⟨p1,p2⟩:=uh HR0 w2 (uh HB2)
  have hz:w2.frozen? ⟨sb,0,none⟩=false:=by simp [World.frozen?,p1]
  have HF:=qz (Chb.set (v:=.int .i64 ((S:Int)+(n:Int))) p1)
  refine hKk 6 rfl rfl (w':=w2.setCell ⟨sb,0,none⟩ (.int .i64 ((S:Int)+(n:Int)))) ?_ ((uh HS2).trans (uh HF).2) ?_
  ·first|(go_simp;done)|(go_simp<;>rfl)
  refine dN ?_
  have HG:Hid (Chb sb w (w2.setCell ⟨sb,0,none⟩ (.int .i64 ((S:Int)+(n:Int))))):=qz ((Chb.of_below ((uh HB1).trans ((uh HB2).mono (uh HB1).size))).trans (uh HF).2)
  clear p1 p2 hz
  go_wp2_with fail
  go_end0
  rw [show ((S+n:Nat):Int)=(S:Int)+(n:Int) by omega]
  exact ⟨rfl,(uh HF).1,uh HG⟩
 ·refine z4q 4 8 hK rfl (by rfl) (by go_simp<;>exact ⟨rfl,rfl⟩) ?_
  refine (uh HW _ (uh HB0)).mono ?_
  rintro e w2 ⟨rfl,h2⟩
  have HB2:Hid (Below W1.heap.size W1 w2):=qz ((uh HB0).trans (h2.mono (uh HB0).size))
  have HS2:Hid (Chb sb W1 w2):=qz (Chb.of_below (uh HB2))
  refine ⟨_,rfl,uh HS2,?_⟩
  simp only [sA,sB]
  clear h2
  have p2:=(uh HR0 _ (uh HB2)).2
  refine hO 0 4 rfl rfl (v:=.int .i64 (S:Int)) (w':=w2) ?_ (uh HS2) ?_
  ·first|(go_simp;done)|(go_simp<;>first|exact ⟨rfl,rfl⟩|rfl)
  simp only [sA,sB]
  refine hO 5 9 rfl rfl (v:=.int .i64 ((S:Int)+(n:Int))) (w':=w2) ?_ (uh HS2) ?_
  ·first|(go_simp;done)|(go_simp<;>first|exact ⟨rfl,rfl⟩|rfl|exact IntWalk.i64_in _ (by omega))
  simp only [sA,sB]
  obtain ⟨p1,p2⟩:=uh HR0 w2 (uh HB2)
  have hz:w2.frozen? ⟨sb,0,none⟩=false:=by simp [World.frozen?,p1]
  have HF:=qz (Chb.set (v:=.int .i64 ((S:Int)+(n:Int))) p1)
  refine hKk 6 rfl rfl (w':=w2.setCell ⟨sb,0,none⟩ (.int .i64 ((S:Int)+(n:Int)))) ?_ ((uh HS2).trans (uh HF).2) ?_
  ·first|(go_simp;done)|(go_simp<;>rfl)
  refine dN ?_
  have HG:Hid (Chb sb w (w2.setCell ⟨sb,0,none⟩ (.int .i64 ((S:Int)+(n:Int))))):=qz ((Chb.of_below ((uh HB1).trans ((uh HB2).mono (uh HB1).size))).trans (uh HF).2)
  clear p1 p2 hz
  go_wp2_with fail
  go_end0
  rw [show ((S+n:Nat):Int)=(S:Int)+(n:Int) by omega]
  exact ⟨rfl,(uh HF).1,uh HG⟩
theorem x4g (w:World) (ls:List Nat) (cp lo hi s m x sb cb S:Nat) (v1 v2:Value) (hc:Code ls w cp lo hi) (hhi:hi≤w.heap.size) (he:EvOk ls s m x) (hS:S≤1000000000000000) (hu:w.heap[sb]?=some (.cells #[.int .i64 (S:Int)] 3 (0,0))) (hcb:w.heap[cb]?=some (.cells #[v1,v2] 39 (0,0))) (hv:v2=.pointer (some ⟨cp,0,none⟩)) :
  Calls Tryz.prog 82 #[wv s m x,.pointer (some ⟨sb,0,none⟩),.pointer (some ⟨cb,0,none⟩)] w fun e w'=>e=.returned (.tuple #[])∧w'.heap[sb]?=some (.cells #[.int .i64 ((S+(wb ls s++nb m x).length:Nat):Int)] 3 (0,0))∧Chb sb w w':=by
 obtain ⟨W1,hW1⟩:∃W1,W1=w.alloc (.cells #[.int .i64 (s:Int),.int .i64 (m:Int),.int .i64 (x:Int)] 141):=⟨_,rfl⟩
 have hb1:Below w.heap.size w W1:=by rw [hW1];exact (Below.refl _ _).alloc (Nat.le_refl _) _
 have x1:W1.heap[w.heap.size]?=some (.cells #[.int .i64 (s:Int),.int .i64 (m:Int),.int .i64 (x:Int)] 141 (0,0)):=by rw [hW1];exact heap_alloc_new _ _
 have hu1:W1.heap[sb]?=some (.cells #[.int .i64 (S:Int)] 3 (0,0)):=(hb1.block _ (z0b hu)).trans hu
 have hcb1:W1.heap[cb]?=some (.cells #[v1,v2] 39 (0,0)):=(hb1.block _ (z0b hcb)).trans hcb
 subst hv
 have hne:cb≠sb:=by rintro rfl;rw [hu1] at hcb1;simp at hcb1
 have hne2:w.heap.size≠sb:=by have:=z0b hu;omega
 have HR:Hid (∀y,Chb sb W1 y→y.cell? ⟨w.heap.size,0,none⟩=some (.int .i64 (s:Int))∧y.cell? ⟨w.heap.size,1,none⟩=some (.int .i64 (m:Int))∧y.cell? ⟨w.heap.size,2,none⟩=some (.int .i64 (x:Int))∧y.cell? ⟨cb,1,none⟩=some (.pointer (some ⟨cp,0,none⟩))):=qz (fun y hy=>by
  have a2:=(hy.keep _ (z0b hcb1) hne).trans hcb1
  have a3:=(hy.keep _ (z0b x1) hne2).trans x1
  refine ⟨?_,?_,?_,?_⟩
  ·simp only [World.cell?,a3];rfl
  ·simp only [World.cell?,a3];rfl
  ·simp only [World.cell?,a3];rfl
  ·simp only [World.cell?,a2];rfl)
 have HR0:Hid (∀y,Below W1.heap.size W1 y→y.heap[sb]?=some (.cells #[.int .i64 (S:Int)] 3 (0,0))∧y.cell? ⟨sb,0,none⟩=some (.int .i64 (S:Int))):=qz (fun y hy=>by
  have a1:=(hy.block _ (z0b hu1)).trans hu1
  refine ⟨a1,?_⟩
  simp only [World.cell?,a1];rfl)
 have HB0:Hid (Below W1.heap.size W1 W1.drew):=qz ⟨rfl,rfl,rfl,Nat.le_refl _,fun _ _=>rfl⟩
 have hlen:(wb ls s++nb m x).length≤28:=by rw [List.length_append,z1i,z0g];have:=he.most;have:=he.few;omega
 have HW:Hid (∀y,Below W1.heap.size W1 y→Calls Tryz.prog 81 #[wv s m x,.pointer (some ⟨cp,0,none⟩)] y fun e w'=>e=.returned (.int .i64 ((wb ls s++nb m x).length:Int))∧Below y.heap.size y w'):=qz (fun y hy=>y2w ls cp lo hi s m x y (hc.keep fun k k1 k2=>((hb1.trans (hy.mono hb1.size)).block k (by omega))) (Nat.le_trans hhi (Nat.le_trans hb1.size hy.size)) he)
 generalize (wb ls s++nb m x).length=n at hlen HW ⊢
 unfold wv at HW ⊢
 have HB1:=qz hb1
 clear hc he hhi hb1 hu1 hcb1 hu hcb x1 hne hne2
 go_enter Tryz.func82,Tryz.ntmps82
 go_wp2_with fail
 rw [←hW1]
 clear hW1
 refine wp_region_noPanic ?_
 refine wp_region_held_drew (S:=fun y=>Chb sb W1 y) (by kernel_rfl) ⟨rfl,rfl,rfl,Nat.le_refl _,fun _ _ _=>rfl⟩ (fun hHeld=>?_)
 refine hT 1 5 rfl rfl hHeld nPp (v:=?_) (fun x hSx=>?_) ?_
 rotate_left 1
 ·obtain ⟨q2,q3,q4,q5⟩:=uh HR x hSx;go_simp<;>with_reducible rfl
 simp only [sA,sB]
 refine hT 2 6 rfl rfl hHeld nPp (v:=?_) (fun x hSx=>?_) ?_
 rotate_left 1
 ·go_simp<;>with_reducible rfl
 simp only [sA,sB]
 refine hT 3 7 rfl rfl hHeld nPp (v:=?_) (fun x hSx=>?_) ?_
 rotate_left 1
 ·obtain ⟨q2,q3,q4,q5⟩:=uh HR x hSx;go_simp<;>with_reducible rfl
 simp only [sA,sB]
 have HS1:=qz hHeld
 refine z1s (i:=0) (j:=4) (by kernel_rfl) rfl rfl (fun K hK=>?_) (fun K hK=>?_)
 ·have p2:=(uh HR0 _ (uh HB0)).2
  refine z0n 0 4 hK rfl (by rfl) (v:=.int .i64 (S:Int)) (w':=W1.drew) ?_ (uh HS1) ?_
  ·first|(go_simp;done)|(go_simp<;>first|exact ⟨rfl,rfl⟩|rfl)
  simp only [sA,sB]
  refine z0u 4 8 (by kernel_rfl) rfl rfl (by rfl) (by go_simp<;>exact ⟨rfl,rfl⟩) ?_
  refine (uh HW _ (uh HB0)).mono ?_
  rintro e w2 ⟨rfl,h2⟩
  have HB2:Hid (Below W1.heap.size W1 w2):=qz ((uh HB0).trans (h2.mono (uh HB0).size))
  have HS2:Hid (Chb sb W1 w2):=qz (Chb.of_below (uh HB2))
  refine ⟨_,rfl,uh HS2,?_⟩
  simp only [sA,sB]
  clear h2
  refine hO 5 9 rfl rfl (v:=.int .i64 ((S:Int)+(n:Int))) (w':=w2) ?_ (uh HS2) ?_
  ·first|(go_simp;done)|(go_simp<;>first|exact ⟨rfl,rfl⟩|rfl|exact IntWalk.i64_in _ (by omega))
  simp only [sA,sB]
  obtain ⟨p1,p2⟩:=uh HR0 w2 (uh HB2)
  have hz:w2.frozen? ⟨sb,0,none⟩=false:=by simp [World.frozen?,p1]
  have HF:=qz (Chb.set (v:=.int .i64 ((S:Int)+(n:Int))) p1)
  refine hKk 6 rfl rfl (w':=w2.setCell ⟨sb,0,none⟩ (.int .i64 ((S:Int)+(n:Int)))) ?_ ((uh HS2).trans (uh HF).2) ?_
  ·first|(go_simp;done)|(go_simp<;>rfl)
  refine dN ?_
  have HG:Hid (Chb sb w (w2.setCell ⟨sb,0,none⟩ (.int .i64 ((S:Int)+(n:Int))))):=qz ((Chb.of_below ((uh HB1).trans ((uh HB2).mono (uh HB1).size))).trans (uh HF).2)
  clear p1 p2 hz
  go_wp2_with fail
  go_end0
  rw [show ((S+n:Nat):Int)=(S:Int)+(n:Int) by omega]
  exact ⟨rfl,(uh HF).1,uh HG⟩
 ·refine z4q 4 8 hK rfl (by rfl) (by go_simp<;>exact ⟨rfl,rfl⟩) ?_
  refine (uh HW _ (uh HB0)).mono ?_
  rintro e w2 ⟨rfl,h2⟩
  have HB2:Hid (Below W1.heap.size W1 w2):=qz ((uh HB0).trans (h2.mono (uh HB0).size))
  have HS2:Hid (Chb sb W1 w2):=qz (Chb.of_below (uh HB2))
  refine ⟨_,rfl,uh HS2,?_⟩
  simp only [sA,sB]
  clear h2
  have p2:=(uh HR0 _ (uh HB2)).2
  refine hO 0 4 rfl rfl (v:=.int .i64 (S:Int)) (w':=w2) ?_ (uh HS2) ?_
  ·first|(go_simp;done)|(go_simp<;>first|exact ⟨rfl,rfl⟩|rfl)
  simp only [sA,sB]
  refine hO 5 9 rfl rfl (v:=.int .i64 ((S:Int)+(n:Int))) (w':=w2) ?_ (uh HS2) ?_
  ·first|(go_simp;done)|(go_simp<;>first|exact ⟨rfl,rfl⟩|rfl|exact IntWalk.i64_in _ (by omega))
  simp only [sA,sB]
  obtain ⟨p1,p2⟩:=uh HR0 w2 (uh HB2)
  have hz:w2.frozen? ⟨sb,0,none⟩=false:=by simp [World.frozen?,p1]
  have HF:=qz (Chb.set (v:=.int .i64 ((S:Int)+(n:Int))) p1)
  refine hKk 6 rfl rfl (w':=w2.setCell ⟨sb,0,none⟩ (.int .i64 ((S:Int)+(n:Int)))) ?_ ((uh HS2).trans (uh HF).2) ?_
  ·first|(go_simp;done)|(go_simp<;>rfl)
  refine dN ?_
  have HG:Hid (Chb sb w (w2.setCell ⟨sb,0,none⟩ (.int .i64 ((S:Int)+(n:Int))))):=qz ((Chb.of_below ((uh HB1).trans ((uh HB2).mono (uh HB1).size))).trans (uh HF).2)
  clear p1 p2 hz
  go_wp2_with fail
  go_end0
  rw [show ((S+n:Nat):Int)=(S:Int)+(n:Int) by omega]
  exact ⟨rfl,(uh HF).1,uh HG⟩
end W4
namespace W4
open Go.RowKit Mth Infl Defl
attribute [local go_sem ↓] wp_at_zero wp_at_succ
structure TokBy (l1 l2:List Nat) (ts:List T):Prop where
 ok:y4i ts
 has:∀t∈ts,t.has l1 l2
 fin:256<l1.length∧0<Canon.ln l1 256
 m1:∀s,Canon.ln l1 s≤15
 m2:∀s,Canon.ln l2 s≤15
 few:ts.length≤1000000000
theorem TokBy.ev {l1 l2:List Nat} {ts:List T} (h:TokBy l1 l2 ts) {l r:List Ev} {b:Bool} {s m y:Nat} (e:z3f ts=l++(b,s,m,y) :: r):EvOk (if b then l1 else l2) s m y∧(evsB l1 l2 l).length≤56000000028:=by
 have ho:=y4k h.ok h.has h.fin h.m1 h.m2
 refine ⟨ho (b,s,m,y) (by rw [e];simp),?_⟩
 have h1:(evsB l1 l2 l).length≤28*l.length:=y4y fun x hx=>ho x (by rw [e];simp [hx])
 have h2:=z6l ts
 rw [e] at h2
 simp at h2
 have:=h.few
 omega
theorem z3e.keep {w w':World} {a:Option Addr} {ts:List T} (h:z3e w a ts) (hk:∀ad,a=some ad→0<ts.length→w'.heap[ad.block]?=w.heap[ad.block]?):z3e w' a ts:=by
 intro i hi
 obtain ⟨b,off,ha,q1,q2,q3⟩:=h i hi
 have hh:=hk _ ha (by omega)
 refine ⟨b,off,ha,?_,?_,?_⟩
 ·simp only [World.cell?] at q1 ⊢;rw [hh];exact q1
 ·simp only [World.cell?] at q2 ⊢;rw [hh];exact q2
 ·simp only [World.cell?] at q3 ⊢;rw [hh];exact q3
theorem x2u (l1 l2:List Nat) (ts:List T) (a:Option Addr) (cap c1 c2 lo hi pb ub cb:Nat) (w0 w w2:World) (v0:Value) (L:List Bool) (h:WrAt w0 v0 pb L w) (ht:TwoCodes l1 l2 w0 c1 c2 lo hi) (hhi:hi≤w0.heap.size) (hs:∀k,lo≤k→k<hi→Safe w0 v0 pb k) (hta:z3e w0 a ts) (hts:∀ad,a=some ad→0<ts.length→Safe w0 v0 pb ad.block) (hto:TokBy l1 l2 ts) (hb:L.length≤900000000000000)
  (hw2:Below w.heap.size w w2) (hub:w.heap.size≤ub) (hcb:w.heap.size≤cb) (hu:w2.heap[ub]?=some (.cells #[.pointer (some ⟨pb,0,none⟩)] 33 (0,0))) (hc:w2.heap[cb]?=some (.cells #[.pointer (some ⟨c1,0,none⟩),.pointer (some ⟨c2,0,none⟩)] 39 (0,0))) :
  Calls Tryz.prog 79 #[.slice a ts.length cap,.func (.func 83) #[] #[.pointer (some ⟨ub,0,none⟩),.pointer (some ⟨cb,0,none⟩)],.func (.func 85) #[] #[.pointer (some ⟨ub,0,none⟩),.pointer (some ⟨cb,0,none⟩)]] w2 fun e w'=>e=.returned (.tuple #[])∧WrAt w0 v0 pb (L++(z2h l1 l2 ts++wb l1 256)) w':=by
 obtain ⟨v,r1,r2⟩:=h.rebase hw2
 refine (w0p ts a cap _ _ (fun l x=>WrAt w2 v pb (L++evsB l1 l2 l) x) w2 hto.ok hto.few ?_ ?_ ?_ ?_ ?_).mono ?_
 ·exact fun l x x' h hb=>h.below hb
 ·exact fun l x h=>hta.keep fun ad ha hp=>(r2 _ _ h).1.block (hts ad ha hp)
 ·intro l s m y r x0 x e hJ hbx
  obtain ⟨he,hl⟩:=hto.ev e
  rw [if_pos rfl] at he
  obtain ⟨v',q1,q2⟩:=hJ.rebase hbx
  obtain ⟨g1,g2⟩:=r2 _ _ (hJ.below hbx)
  obtain ⟨xx,yy,k1,k2,k3⟩:=ht.a
  have hcode:Code l1 x c1 xx yy:=k1.keep fun k z1 z2=>g1.block (hs k (by omega) (by omega))
  have hsz:=g1.size
  refine (w1y q1 l1 c1 xx yy s m y ub cb _ _ hcode (by omega) he (by rw [List.length_append];omega) (g2 ub _ hub hu) (g2 cb _ hcb hc) rfl).mono ?_
  rintro e x' ⟨rfl,p⟩
  have eq:L++evsB l1 l2 (l++[(true,s,m,y)])=(L++evsB l1 l2 l)++(wb l1 s++nb m y):=by rw [z6n,List.append_assoc];rfl
  refine ⟨rfl,?_,(q2 _ _ p).2⟩
  show WrAt _ _ _ (L++evsB l1 l2 (l++[(true,s,m,y)])) x'
  rw [eq]
  exact (q2 _ _ p).1
 ·intro l s m y r x0 x e hJ hbx
  obtain ⟨he,hl⟩:=hto.ev e
  rw [if_neg (by decide)] at he
  obtain ⟨v',q1,q2⟩:=hJ.rebase hbx
  obtain ⟨g1,g2⟩:=r2 _ _ (hJ.below hbx)
  obtain ⟨xx,yy,k1,k2,k3⟩:=ht.b
  have hcode:Code l2 x c2 xx yy:=k1.keep fun k z1 z2=>g1.block (hs k (by omega) (by omega))
  have hsz:=g1.size
  refine (w1z q1 l2 c2 xx yy s m y ub cb _ _ hcode (by omega) he (by rw [List.length_append];omega) (g2 ub _ hub hu) (g2 cb _ hcb hc) rfl).mono ?_
  rintro e x' ⟨rfl,p⟩
  have eq:L++evsB l1 l2 (l++[(false,s,m,y)])=(L++evsB l1 l2 l)++(wb l2 s++nb m y):=by rw [z6n,List.append_assoc];rfl
  refine ⟨rfl,?_,(q2 _ _ p).2⟩
  show WrAt _ _ _ (L++evsB l1 l2 (l++[(false,s,m,y)])) x'
  rw [eq]
  exact (q2 _ _ p).1
 ·simpa [evsB] using r1
 ·rintro e w' ⟨rfl,q⟩
  refine ⟨rfl,?_⟩
  rw [←y0z]
  exact (r2 _ _ q).1
theorem y1h (l1 l2:List Nat) (ts:List T) (a:Option Addr) (cap c1 c2 lo hi pb:Nat) (w0 w:World) (v0:Value) (L:List Bool) (h:WrAt w0 v0 pb L w) (ht:TwoCodes l1 l2 w0 c1 c2 lo hi) (hhi:hi≤w0.heap.size) (hs:∀k,lo≤k→k<hi→Safe w0 v0 pb k) (hta:z3e w0 a ts) (hts:∀ad,a=some ad→0<ts.length→Safe w0 v0 pb ad.block) (hto:TokBy l1 l2 ts) (hb:L.length≤900000000000000) :
  Calls Tryz.prog 56 #[.agg #[.pointer (some ⟨c1,0,none⟩),.pointer (some ⟨c2,0,none⟩)],.pointer (some ⟨pb,0,none⟩),.slice a ts.length cap] w fun e w'=>e=.returned (.tuple #[])∧WrAt w0 v0 pb (L++(z2h l1 l2 ts++wb l1 256)) w':=by
 obtain ⟨W2,hW2⟩:∃W2,W2=(w.alloc (.cells #[.pointer (some ⟨c1,0,none⟩),.pointer (some ⟨c2,0,none⟩)] 39)).alloc (.cells #[.pointer (some ⟨pb,0,none⟩)] 33):=⟨_,rfl⟩
 have hb2:Below w.heap.size w W2:=by rw [hW2];exact ((Below.refl _ _).alloc (Nat.le_refl _) _).alloc (by simp) _
 have x1:W2.heap[w.heap.size]?=some (.cells #[.pointer (some ⟨c1,0,none⟩),.pointer (some ⟨c2,0,none⟩)] 39 (0,0)):=by rw [hW2,Below.heap_alloc _ _ _ (by simp)];exact heap_alloc_new _ _
 have x2:W2.heap[w.heap.size+1]?=some (.cells #[.pointer (some ⟨pb,0,none⟩)] 33 (0,0)):=by
  rw [hW2,show w.heap.size+1=(w.alloc (.cells #[.pointer (some ⟨c1,0,none⟩),.pointer (some ⟨c2,0,none⟩)] 39)).heap.size by simp];exact heap_alloc_new _ _
 have HE:=qz (x2u l1 l2 ts a cap c1 c2 lo hi pb (w.heap.size+1) w.heap.size w0 w W2 v0 L h ht hhi hs hta hts hto hb hb2 (by omega) (by omega) x2 x1)
 generalize z2h l1 l2 ts++wb l1 256=B at HE ⊢
 generalize ts.length=n at HE ⊢
 clear h ht hs hta hts hto hb2 x1 x2 hb hhi
 go_enter Tryz.func56,Tryz.ntmps56
 go_wp2_with fail
 rw [←hW2]
 clear hW2
 refine (uh HE).mono ?_
 rintro e w3 ⟨rfl,h3⟩
 have H3:=qz h3
 clear h3 HE
 go_wp2_with fail
 go_end0
 exact ⟨rfl,uh H3⟩
end W4
namespace W4
open Go.RowKit Mth Infl Defl
attribute [local go_sem ↓] wp_at_zero wp_at_succ
theorem y6u (l1 l2:List Nat) (ts:List T) (a:Option Addr) (cap c1 c2 lo hi sb cb:Nat) (w w2:World) (ht:TwoCodes l1 l2 w c1 c2 lo hi) (hhi:hi≤w.heap.size) (hta:z3e w a ts) (hto:TokBy l1 l2 ts)
  (hw2:Below w.heap.size w w2) (hsb:w.heap.size≤sb) (hne:cb≠sb) (hu:w2.heap[sb]?=some (.cells #[.int .i64 0] 3 (0,0))) (hc:w2.heap[cb]?=some (.cells #[.pointer (some ⟨c1,0,none⟩),.pointer (some ⟨c2,0,none⟩)] 39 (0,0))) :
  Calls Tryz.prog 79 #[.slice a ts.length cap,.func (.func 80) #[] #[.pointer (some ⟨sb,0,none⟩),.pointer (some ⟨cb,0,none⟩)],.func (.func 82) #[] #[.pointer (some ⟨sb,0,none⟩),.pointer (some ⟨cb,0,none⟩)]] w2 fun e w'=>e=.returned (.tuple #[])∧w'.heap[sb]?=some (.cells #[.int .i64 ((z2h l1 l2 ts++wb l1 256).length:Int)] 3 (0,0))∧Below w.heap.size w w':=by
 refine (x2v ts a cap _ _ (fun l x=>x.heap[sb]?=some (.cells #[.int .i64 ((evsB l1 l2 l).length:Int)] 3 (0,0))∧Chb sb w2 x) w2 hto.ok hto.few ?_ ?_ ?_ ?_ ?_).mono ?_
 ·exact fun l x x' h hb=>⟨(hb.block _ (z0b h.1)).trans h.1,h.2.trans (Chb.of_below hb)⟩
 ·intro l x h
  refine hta.keep fun ad ha hp=>?_
  obtain ⟨b,off,hab,q1,_⟩:=hta 0 hp
  rw [ha] at hab
  obtain rfl:ad=_:=Option.some.inj hab
  have hlt:b<w.heap.size:=z1e q1
  exact (h.2.keep b (Nat.lt_of_lt_of_le hlt hw2.size) (by omega)).trans (hw2.block b hlt)
 ·intro l s m y r x0 x e hJ hbx
  obtain ⟨he,hl⟩:=hto.ev e
  rw [if_pos rfl] at he
  obtain ⟨j1,j2⟩:=hJ
  have hsx:=z0b j1
  have j1x:x.heap[sb]?=_:=(hbx.block _ hsx).trans j1
  have j2x:Chb sb w2 x:=j2.trans (Chb.of_below hbx)
  have hold:∀k,k<w.heap.size→x.heap[k]?=w.heap[k]?:=fun k hk=>(j2x.keep k (Nat.lt_of_lt_of_le hk hw2.size) (by omega)).trans (hw2.block k hk)
  obtain ⟨xx,yy,k1,k2,k3⟩:=ht.a
  have hcode:Code l1 x c1 xx yy:=k1.keep fun k z1 z2=>hold k (by omega)
  have hsz:=Nat.le_trans hw2.size j2x.size
  refine (x4f x l1 c1 xx yy s m y sb cb (evsB l1 l2 l).length _ _ hcode (by omega) he (by omega) j1x ((j2x.keep cb (z0b hc) hne).trans hc) rfl).mono ?_
  rintro e x' ⟨rfl,p1,p2⟩
  have eq:(evsB l1 l2 (l++[(true,s,m,y)])).length=(evsB l1 l2 l).length+(wb l1 s++nb m y).length:=by rw [z6n,List.length_append];rfl
  refine ⟨rfl,⟨?_,j2x.trans p2⟩,fun kb o hkb hko=>(p2.keep kb (z0b hko) (by omega)).trans hko⟩
  show x'.heap[sb]?=some (.cells #[.int .i64 ((evsB l1 l2 (l++[(true,s,m,y)])).length:Int)] 3 (0,0))
  rw [eq]
  exact p1
 ·intro l s m y r x0 x e hJ hbx
  obtain ⟨he,hl⟩:=hto.ev e
  rw [if_neg (by decide)] at he
  obtain ⟨j1,j2⟩:=hJ
  have hsx:=z0b j1
  have j1x:x.heap[sb]?=_:=(hbx.block _ hsx).trans j1
  have j2x:Chb sb w2 x:=j2.trans (Chb.of_below hbx)
  have hold:∀k,k<w.heap.size→x.heap[k]?=w.heap[k]?:=fun k hk=>(j2x.keep k (Nat.lt_of_lt_of_le hk hw2.size) (by omega)).trans (hw2.block k hk)
  obtain ⟨xx,yy,k1,k2,k3⟩:=ht.b
  have hcode:Code l2 x c2 xx yy:=k1.keep fun k z1 z2=>hold k (by omega)
  have hsz:=Nat.le_trans hw2.size j2x.size
  refine (x4g x l2 c2 xx yy s m y sb cb (evsB l1 l2 l).length _ _ hcode (by omega) he (by omega) j1x ((j2x.keep cb (z0b hc) hne).trans hc) rfl).mono ?_
  rintro e x' ⟨rfl,p1,p2⟩
  have eq:(evsB l1 l2 (l++[(false,s,m,y)])).length=(evsB l1 l2 l).length+(wb l2 s++nb m y).length:=by rw [z6n,List.length_append];rfl
  refine ⟨rfl,⟨?_,j2x.trans p2⟩,fun kb o hkb hko=>(p2.keep kb (z0b hko) (by omega)).trans hko⟩
  show x'.heap[sb]?=some (.cells #[.int .i64 ((evsB l1 l2 (l++[(false,s,m,y)])).length:Int)] 3 (0,0))
  rw [eq]
  exact p1
 ·exact ⟨by simpa [evsB] using hu,Chb.of_below (Below.refl _ _)⟩
 ·rintro e w' ⟨rfl,q1,q2⟩
  rw [y0z] at q1
  exact ⟨rfl,q1,q2.os.trans hw2.os,q2.tape.trans hw2.tape,q2.output.trans hw2.output,Nat.le_trans hw2.size q2.size,fun k hk=>(q2.keep k (Nat.lt_of_lt_of_le hk hw2.size) (by omega)).trans (hw2.block k hk)⟩
theorem z8p (l1 l2:List Nat) (ts:List T) (a:Option Addr) (cap c1 c2 lo hi:Nat) (w:World) (ht:TwoCodes l1 l2 w c1 c2 lo hi) (hhi:hi≤w.heap.size) (hta:z3e w a ts) (hto:TokBy l1 l2 ts) :
  Calls Tryz.prog 55 #[.agg #[.pointer (some ⟨c1,0,none⟩),.pointer (some ⟨c2,0,none⟩)],.slice a ts.length cap] w fun e w'=>e=.returned (.int .i64 ((z2h l1 l2 ts++wb l1 256).length:Int))∧Below w.heap.size w w':=by
 obtain ⟨W2,hW2⟩:∃W2,W2=(w.alloc (.cells #[.pointer (some ⟨c1,0,none⟩),.pointer (some ⟨c2,0,none⟩)] 39)).alloc (.cells #[.int .i64 0] 3):=⟨_,rfl⟩
 have hb2:Below w.heap.size w W2:=by rw [hW2];exact ((Below.refl _ _).alloc (Nat.le_refl _) _).alloc (by simp) _
 have x1:W2.heap[w.heap.size]?=some (.cells #[.pointer (some ⟨c1,0,none⟩),.pointer (some ⟨c2,0,none⟩)] 39 (0,0)):=by rw [hW2,Below.heap_alloc _ _ _ (by simp)];exact heap_alloc_new _ _
 have x2:W2.heap[w.heap.size+1]?=some (.cells #[.int .i64 0] 3 (0,0)):=by
  rw [hW2,show w.heap.size+1=(w.alloc (.cells #[.pointer (some ⟨c1,0,none⟩),.pointer (some ⟨c2,0,none⟩)] 39)).heap.size by simp];exact heap_alloc_new _ _
 have HE:=qz (y6u l1 l2 ts a cap c1 c2 lo hi (w.heap.size+1) w.heap.size w W2 ht hhi hta hto hb2 (by omega) (by omega) x2 x1)
 generalize (z2h l1 l2 ts++wb l1 256).length=B at HE ⊢
 generalize ts.length=n at HE ⊢
 clear ht hta hto hb2 x1 x2 hhi
 go_enter Tryz.func55,Tryz.ntmps55
 go_wp2_with fail
 rw [←hW2]
 clear hW2
 refine (uh HE).mono ?_
 rintro e w3 ⟨rfl,h3,h4⟩
 have d0:w3.cell? ⟨w.heap.size+1,0,none⟩=some (.int .i64 (B:Int)):=by simp [World.cell?,h3]
 have H4:=qz h4
 clear h3 h4 HE
 go_wp2_with fail
 go_ret
 exact ⟨rfl,uh H4⟩
end W4
namespace W4
open Go.RowKit Mth Infl Defl
attribute [local go_sem ↓] wp_at_zero wp_at_succ
theorem w3l {l1 l2:List Nat} {ts:List T} (h:TokBy l1 l2 ts):(z2h l1 l2 ts++wb l1 256).length≤56000000028:=by
 rw [←y0z]
 have h1:=y4y (y4k h.ok h.has h.fin h.m1 h.m2)
 have h2:=z6l ts
 have:=h.few
 omega
theorem y6j (l1 l2:List Nat) (ts:List T) (a:Option Addr) (cap c1 c2 lo hi xb:Nat) (at_:Int) (last:Bool) (plain own:Value) (w:World) (hx:z3j w xb last plain (.slice a ts.length cap) (.pointer (some ⟨c1,0,none⟩)) (.pointer (some ⟨c2,0,none⟩)) own) (ht:TwoCodes l1 l2 w c1 c2 lo hi) (hhi:hi≤w.heap.size) (hta:z3e w a ts) (hto:TokBy l1 l2 ts) :
  Calls Tryz.prog 22 #[.pointer (some ⟨xb,0,none⟩),.int .i64 at_] w fun e w'=>e=.returned (.int .i64 ((3+(z2h l1 l2 ts++wb l1 256).length:Nat):Int))∧Below w.heap.size w w':=by
 obtain ⟨_,_,q2,q3,q4,_⟩:=hx.c
 have HK:Hid (∀y,Below w.heap.size w y→y.cell? ⟨xb,2,none⟩=some (.slice a ts.length cap)∧y.cell? ⟨xb,3,none⟩=some (.pointer (some ⟨c1,0,none⟩))∧y.cell? ⟨xb,4,none⟩=some (.pointer (some ⟨c2,0,none⟩))):=qz (fun y hy=>by
  have:=(hy.block _ (z0b hx)).trans hx
  refine ⟨?_,?_,?_⟩<;>(simp only [World.cell?,this];rfl))
 have HE:Hid (∀y,Below w.heap.size w y→Calls Tryz.prog 55 #[.agg #[.pointer (some ⟨c1,0,none⟩),.pointer (some ⟨c2,0,none⟩)],.slice a ts.length cap] y fun e w'=>e=.returned (.int .i64 ((z2h l1 l2 ts++wb l1 256).length:Int))∧Below y.heap.size y w'):=qz (fun y hy=>z8p l1 l2 ts a cap c1 c2 lo hi y (ht.keep fun k k1 k2=>hy.block k (by omega)) (Nat.le_trans hhi hy.size) (hta.keep fun ad ha hp=>by
  obtain ⟨b,off,hab,q1,_⟩:=hta 0 hp
  rw [ha] at hab
  obtain rfl:ad=_:=Option.some.inj hab
  exact hy.block b (z1e q1)) hto)
 have hB:=w3l hto
 generalize (z2h l1 l2 ts++wb l1 256).length=B at HE hB ⊢
 generalize ts.length=n at HE HK
 clear ht hta hto hhi hx q2 q3 q4
 go_enter Tryz.func22,Tryz.ntmps22
 go_wp2_with fail
 refine wp_region_noPanic ?_
 refine wp_region_held_drew (S:=fun y=>Below w.heap.size w y) (by kernel_rfl) ⟨rfl,rfl,rfl,Nat.le_refl _,fun _ _=>rfl⟩ (fun hHeld=>?_)
 refine hT 0 5 rfl rfl hHeld nPp (v:=?_) (fun x hSx=>?_) ?_
 rotate_left 1
 ·go_simp<;>with_reducible rfl
 simp only [sA,sB]
 refine hT 1 6 rfl rfl hHeld nPp (v:=?_) (fun x hSx=>?_) ?_
 rotate_left 1
 ·go_simp<;>with_reducible rfl
 simp only [sA,sB]
 refine hT 2 7 rfl rfl hHeld nPp (v:=?_) (fun x hSx=>?_) ?_
 rotate_left 1
 ·go_simp<;>with_reducible rfl
 simp only [sA,sB]
 refine hT 3 8 rfl rfl hHeld nPp (v:=?_) (fun x hSx=>?_) ?_
 rotate_left 1
 ·obtain ⟨q2,q3,q4⟩:=uh HK x hSx;go_simp<;>with_reducible rfl
 simp only [sA,sB]
 refine hT 4 9 rfl rfl hHeld nPp (v:=?_) (fun x hSx=>?_) ?_
 rotate_left 1
 ·go_simp<;>with_reducible rfl
 simp only [sA,sB]
 refine hT 5 10 rfl rfl hHeld nPp (v:=?_) (fun x hSx=>?_) ?_
 rotate_left 1
 ·go_simp<;>with_reducible rfl
 simp only [sA,sB]
 refine hT 6 11 rfl rfl hHeld nPp (v:=?_) (fun x hSx=>?_) ?_
 rotate_left 1
 ·go_simp<;>with_reducible rfl
 simp only [sA,sB]
 refine hT 7 12 rfl rfl hHeld nPp (v:=?_) (fun x hSx=>?_) ?_
 rotate_left 1
 ·obtain ⟨q2,q3,q4⟩:=uh HK x hSx;go_simp<;>with_reducible rfl
 simp only [sA,sB]
 refine z0u 8 13 (by kernel_rfl) rfl rfl (by rfl) (by go_simp<;>exact ⟨rfl,rfl⟩) ?_
 refine (uh HE _ hHeld).mono ?_
 rintro e w2 ⟨rfl,h2⟩
 have HB2:Hid (Below w.heap.size w w2):=qz (hHeld.trans (h2.mono hHeld.size))
 refine ⟨_,rfl,uh HB2,?_⟩
 simp only [sA,sB]
 clear h2 HE HK hHeld
 refine hO 9 14 rfl rfl (v:=.int .i64 (3+(B:Int))) (w':=w2) ?_ (uh HB2) ?_
 ·first|(go_simp;done)|(go_simp<;>first|exact ⟨rfl,rfl⟩|rfl|exact IntWalk.i64_in _ (by omega))
 simp only [sA,sB]
 refine hO 10 4 rfl rfl (v:=.int .i64 (3+(B:Int))) (w':=w2) ?_ (uh HB2) ?_
 ·first|(go_simp;done)|(go_simp<;>first|exact ⟨rfl,rfl⟩|rfl)
 simp only [sA,sB]
 refine dN ?_
 go_wp2_with fail
 go_ret
 rw [show ((3+B:Nat):Int)=3+(B:Int) by omega]
 exact ⟨rfl,uh HB2⟩
theorem y9p (l1 l2:List Nat) (ts:List T) (a:Option Addr) (cap c1 c2 lo hi xb pb:Nat) (last:Bool) (plain own:Value) (w0 w:World) (v0:Value) (L:List Bool) (h:WrAt w0 v0 pb L w) (hsx:Safe w0 v0 pb xb) (hx:z3j w0 xb last plain (.slice a ts.length cap) (.pointer (some ⟨c1,0,none⟩)) (.pointer (some ⟨c2,0,none⟩)) own) (ht:TwoCodes l1 l2 w0 c1 c2 lo hi) (hhi:hi≤w0.heap.size) (hs:∀k,lo≤k→k<hi→Safe w0 v0 pb k) (hta:z3e w0 a ts) (hts:∀ad,a=some ad→0<ts.length→Safe w0 v0 pb ad.block) (hto:TokBy l1 l2 ts) (hb:L.length≤800000000000000) :
  Calls Tryz.prog 23 #[.pointer (some ⟨xb,0,none⟩),.pointer (some ⟨pb,0,none⟩)] w fun e w'=>e=.returned (.tuple #[])∧WrAt w0 v0 pb (L++(head last.toNat 1++(z2h l1 l2 ts++wb l1 256))) w':=by
 obtain ⟨q0,_,q2,q3,q4,_⟩:=hx.c
 have HK:Hid (∀L' w',WrAt w0 v0 pb L' w'→w'.cell? ⟨xb,2,none⟩=some (.slice a ts.length cap)∧w'.cell? ⟨xb,3,none⟩=some (.pointer (some ⟨c1,0,none⟩))∧w'.cell? ⟨xb,4,none⟩=some (.pointer (some ⟨c2,0,none⟩))):=qz (fun L' w' h'=>⟨h'.cell (p:=⟨xb,2,none⟩) hsx q2,h'.cell (p:=⟨xb,3,none⟩) hsx q3,h'.cell (p:=⟨xb,4,none⟩) hsx q4⟩)
 have HBG:=qz (y4q xb pb 2 last w0 w v0 L h hsx q0 (by omega) (by omega) (by omega))
 have HE:Hid (∀w',WrAt w0 v0 pb (L++head last.toNat (2-1)) w'→Calls Tryz.prog 56 #[.agg #[.pointer (some ⟨c1,0,none⟩),.pointer (some ⟨c2,0,none⟩)],.pointer (some ⟨pb,0,none⟩),.slice a ts.length cap] w' fun e w''=>e=.returned (.tuple #[])∧WrAt w0 v0 pb (L++(head last.toNat 1++(z2h l1 l2 ts++wb l1 256))) w''):=qz (fun w' h'=>by
  have:=y1h l1 l2 ts a cap c1 c2 lo hi pb w0 w' v0 _ h' ht hhi hs hta hts hto (by simp [head,z0g];omega)
  rwa [List.append_assoc] at this)
 generalize z2h l1 l2 ts++wb l1 256=B at HE ⊢
 generalize ts.length=n at HE HK
 clear ht hta hto hhi hx h hsx hs hts hb q0 q2 q3 q4
 go_enter Tryz.func23,Tryz.ntmps23
 go_wp2_with fail
 refine (uh HBG).mono ?_
 rintro e w1 ⟨rfl,h1⟩
 have HE1:=qz (uh HE _ (h1.below (⟨rfl,rfl,rfl,Nat.le_refl _,fun _ _=>rfl⟩:Below w1.heap.size w1 w1.drew)))
 have hd1:=h1.below (⟨rfl,rfl,rfl,Nat.le_refl _,fun _ _=>rfl⟩:Below w1.heap.size w1 w1.drew)
 clear h1 HBG HE
 go_wp2_with fail
 refine wp_region_noPanic ?_
 refine wp_region_held_drew (S:=fun y=>∃L',WrAt w0 v0 pb L' y) (by kernel_rfl) ⟨_,hd1⟩ (fun hHeld=>?_)
 clear hd1
 refine hT 0 7 rfl rfl hHeld nPp (v:=?_) (fun x hSx=>?_) ?_
 rotate_left 1
 ·go_simp<;>with_reducible rfl
 simp only [sA,sB]
 refine hT 1 8 rfl rfl hHeld nPp (v:=?_) (fun x hSx=>?_) ?_
 rotate_left 1
 ·go_simp<;>with_reducible rfl
 simp only [sA,sB]
 refine hT 2 9 rfl rfl hHeld nPp (v:=?_) (fun x hSx=>?_) ?_
 rotate_left 1
 ·go_simp<;>with_reducible rfl
 simp only [sA,sB]
 refine hT 3 10 rfl rfl hHeld nPp (v:=?_) (fun x hSx=>?_) ?_
 rotate_left 1
 ·obtain ⟨L',hL'⟩:=hSx;obtain ⟨q2,q3,q4⟩:=uh HK L' x hL';go_simp<;>with_reducible rfl
 simp only [sA,sB]
 refine hT 4 11 rfl rfl hHeld nPp (v:=?_) (fun x hSx=>?_) ?_
 rotate_left 1
 ·go_simp<;>with_reducible rfl
 simp only [sA,sB]
 refine hT 5 12 rfl rfl hHeld nPp (v:=?_) (fun x hSx=>?_) ?_
 rotate_left 1
 ·go_simp<;>with_reducible rfl
 simp only [sA,sB]
 refine hT 6 13 rfl rfl hHeld nPp (v:=?_) (fun x hSx=>?_) ?_
 rotate_left 1
 ·go_simp<;>with_reducible rfl
 simp only [sA,sB]
 refine hT 7 14 rfl rfl hHeld nPp (v:=?_) (fun x hSx=>?_) ?_
 rotate_left 1
 ·go_simp<;>with_reducible rfl
 simp only [sA,sB]
 refine hT 8 15 rfl rfl hHeld nPp (v:=?_) (fun x hSx=>?_) ?_
 rotate_left 1
 ·obtain ⟨L',hL'⟩:=hSx;obtain ⟨q2,q3,q4⟩:=uh HK L' x hL';go_simp<;>with_reducible rfl
 simp only [sA,sB]
 refine z0u 9 16 (by kernel_rfl) rfl rfl (by rfl) (by go_simp<;>exact ⟨rfl,rfl⟩) ?_
 refine (uh HE1).mono ?_
 rintro e w2 ⟨rfl,h2⟩
 have H2:=qz h2
 refine ⟨_,rfl,⟨_,h2⟩,?_⟩
 simp only [sA,sB]
 clear h2 HE1 HK hHeld
 refine dN ?_
 go_wp2_with fail
 go_end0
 exact ⟨rfl,uh H2⟩
end W4
namespace W4
open Go.RowKit Mth Infl Defl
attribute [local go_sem ↓] wp_at_zero wp_at_succ
theorem x9k (st n:Nat) (xs:List Nat) (hn:n≤xs.length) (h1:st<n) (h0:xs.getD (n-1) 0=0):trim st n (xs.take n)=trim st (n-1) (xs.take (n-1)):=by
 obtain ⟨m,rfl⟩:∃m,n=m+1:=⟨n-1,by omega⟩
 have hl:(xs.take (m+1)).length=m+1:=by rw [List.length_take];omega
 have hg:(xs.take (m+1)).getD m 0=xs.getD m 0:=by simp [List.getD_eq_getElem?_getD]
 conv=>lhs;unfold trim
 rw [hl,show m+1-1=m from rfl,hg]
 rw [if_pos ⟨h1,h0⟩]
 rw [List.take_take,Nat.min_eq_left (by omega)]
theorem x9l (st n:Nat) (xs:List Nat) (hn:n≤xs.length) (h:¬ (st<n∧xs.getD (n-1) 0=0)):trim st n (xs.take n)=xs.take n:=by
 cases n with
 | zero=>rfl
 | succ m =>
  have hl:(xs.take (m+1)).length=m+1:=by rw [List.length_take];omega
  have hg:(xs.take (m+1)).getD m 0=xs.getD m 0:=by simp [List.getD_eq_getElem?_getD]
  unfold trim
  rw [hl,show m+1-1=m from rfl,hg]
  exact if_neg h
theorem x0j (xs:List Nat) (g off cap st:Nat) (w:World) (hc:∀j,j<xs.length→w.cell? ⟨g,off+j,none⟩=some (.int .i64 (xs.getD j 0:Int))) (hcap:xs.length≤cap) (hcap2:cap≤9223372036854775807) (h1:1≤st) (h2:st≤xs.length) :
  Calls Tryz.prog 113 #[.slice (some ⟨g,off,none⟩) xs.length cap,.int .i64 (st:Int)] w fun e w'=>e=.returned (.slice (some ⟨g,off,none⟩) (trim st xs.length xs).length cap)∧w'=w:=by
 have HST:Hid (∀n,n≤xs.length→st<n→xs.getD (n-1) 0=0→trim st n (xs.take n)=trim st (n-1) (xs.take (n-1))):=qz (fun n a b c=>x9k st n xs a b c)
 have HSP:Hid (∀n,n≤xs.length→¬ (st<n∧xs.getD (n-1) 0=0)→(trim st n (xs.take n)).length=n):=qz (fun n a b=>by rw [x9l st n xs a b,List.length_take];omega)
 have HC:=qz hc
 have H0:Hid (trim st xs.length (xs.take xs.length)=trim st xs.length xs):=qz (by rw [List.take_length])
 generalize trim st xs.length xs=R at H0 ⊢
 obtain ⟨N,hN⟩:∃N,N=xs.length:=⟨_,rfl⟩
 rw [←hN] at HST HSP HC hcap h2 H0 ⊢
 clear hc hN
 go_enter Tryz.func113,Tryz.ntmps113
 go_wp2_with fail
 go_loopg [5] (N-st) (fun gk iv' ws=>∃n:Nat,gk=n-st∧st≤n∧n≤N∧iv'=.int .i64 (n:Int)∧ws=w∧Hid (trim st n (xs.take n)=R))
 case atStart=>exact ⟨N,rfl,h2,Nat.le_refl _,rfl,rfl,H0⟩
 case round =>
  clear H0
  obtain ⟨n,rfl,hn1,hn2,rfl,rfl,ht⟩:=hrel
  by_cases hlt:st<n
  ·have e1:(st:Int)<(n:Int):=by omega
   have q:=uh HC (n-1) (by omega)
   have e2:(off:Int)+((n:Int)-1)=((off+(n-1):Nat):Int):=by omega
   have e3:(n:Int)-1=((n-1:Nat):Int):=by omega
   by_cases hz:xs.getD (n-1) 0=0
   ·have HT2:Hid (trim st (n-1) (xs.take (n-1))=R):=qz (by rw [←uh HST n hn2 hlt hz];exact uh ht)
    rw [hz] at q
    clear ht
    obtain ⟨m,rfl⟩:∃m,n=m+1:=⟨n-1,by omega⟩
    simp only [Nat.add_sub_cancel] at q HT2
    go_wp2_with fail
    go_roundg (m-st)
    case measure=>omega
    case rel=>exact ⟨m,rfl,by omega,by omega,by go_num,rfl,HT2⟩
   ·have HL:=uh HSP n hn2 (fun h=>hz h.2)
    rw [uh ht] at HL
    have hz':¬ ((xs.getD (n-1) 0:Nat):Int)=0:=by omega
    generalize xs.getD (n-1) 0=z at q hz hz'
    obtain ⟨m,rfl⟩:∃m,n=m+1:=⟨n-1,by omega⟩
    simp only [Nat.add_sub_cancel] at q
    have HLH:=qz HL
    clear ht HL
    go_wp2_with fail
    go_ret
    rw [uh HLH]
    exact ⟨rfl,rfl⟩
  ·have HL:=uh HSP n hn2 (fun h=>hlt h.1)
   rw [uh ht] at HL
   have e1:¬ (st:Int)<(n:Int):=by omega
   have HLH:=qz HL
   clear ht HL
   go_wp2_with fail
   go_ret
   rw [uh HLH]
   exact ⟨rfl,rfl⟩
def osOf (f:Nat→Nat) (n:Nat):List Int:=(List.range n).map fun i=>(f i:Int)
theorem z0q (f:Nat→Nat) (n:Nat):(osOf f n).length=n:=by simp [osOf]
theorem z7o (f:Nat→Nat) (n i:Nat) (h:i<n):(osOf f n).getD i 0=(f i:Int):=by simp [osOf,h]
theorem y2e (f:Nat→Nat) (n i:Nat) (h:i<n):L5.wt (osOf f n) i=f i:=by unfold L5.wt;rw [z7o f n i h];simp
open Classical in
noncomputable def bl (f:Nat→Nat) (M n:Nat):List Nat:=if h:∃l,L5.IsOrder (osOf f n) l then (List.range n).map (L5.ans (osOf f n) (Classical.choose h) M) else []
theorem w5o {f:Nat→Nat} {M n:Nat} {l:List Nat} (h:L5.IsOrder (osOf f n) l):bl f M n=(List.range n).map (L5.ans (osOf f n) l M):=by
 have hx:∃l,L5.IsOrder (osOf f n) l:=⟨l,h⟩
 unfold bl
 rw [dif_pos hx,(Classical.choose_spec hx).one h]
theorem x4y (f:Nat→Nat) (M n:Nat) (v:Value) (w:World) (hr:z0w w v (osOf f n)) (hM1:1≤M) (hM2:M≤20) (hn:n≤286) (hpow:n≤2^M) (htot:L5.tot (osOf f n) n≤1099511627776) :
  Calls Tryz.prog 114 #[v,.int .i64 (M:Int)] w fun e w'=>∃l g,e=.returned (.slice (some ⟨g,0,none⟩) n n)∧L5.IsOrder (osOf f n) l∧w.heap.size≤g∧L5.z0c w' .i64 3 g n (L5.ans (osOf f n) l M)∧Below w.heap.size w w':=by
 have HL:=qz (L5.w4o (osOf f n) (M:Int) v w hr)
 have HX:Hid (∀u x w',L5.y3c (osOf f n) (M:Int) u x w.heap.size w'→x=0∧∃l g,u=.slice (some ⟨g,0,none⟩) n n∧L5.IsOrder (osOf f n) l∧w.heap.size≤g∧L5.z0c w' .i64 3 g n (L5.ans (osOf f n) l M)):=qz (fun u x w' h=>by
  have ha:L5.y4h (osOf f n) (M:Int):=⟨by omega,by omega,by rw [z0q];omega,fun i hi=>by
   first|(rw [z0q] at hi;rw [z7o f n i hi];omega)|skip⟩
  rcases h with ⟨h,_⟩|⟨_,h,_⟩|⟨_,_,⟨l,h1,h2⟩,_⟩|⟨_,_,h0,l,g,h1,h2,h3,h4,h5⟩
  ·exact absurd ha h
  ·rw [z0q] at h;omega
  ·exfalso
   have hsub:l.length≤n:=by
    have:=List.Nodup.length_le_of_subset h1.nodup (fun i hi=>by
     have:=(h1.mem i).1 hi
     rw [z0q] at this
     exact List.mem_range.2 this.1:l ⊆ List.range n)
    simpa using this
   simp only [Int.toNat_natCast] at h2
   omega
  ·rw [z0q] at h3 h5
   simp only [Int.toNat_natCast] at h5
   exact ⟨h0,l,g,h3,h1,h4,h5⟩)
 clear hr hpow htot
 generalize osOf f n=os at HL HX ⊢
 go_enter Tryz.func114,Tryz.ntmps114
 go_wp2_with fail
 refine (uh HL).mono ?_
 rintro e w1 ⟨u,x,rfl,h1,h2⟩
 obtain ⟨rfl,l,g,rfl,k1,k2,k3⟩:=uh HX _ _ _ h1
 have HK:=qz (And.intro k1 (And.intro k2 (And.intro k3 h2)))
 clear h1 h2 k1 k2 k3 HL HX
 go_wp2_with fail
 go_ret
 obtain ⟨k1,k2,k3,h2⟩:=uh HK
 exact ⟨l,g,rfl,k1,k2,k3,h2⟩
end W4
namespace W4
open Go.RowKit Mth Infl Defl
attribute [local go_sem ↓] wp_at_zero wp_at_succ
theorem y8y (w:World) (bb g n s m x:Nat) (C:Nat→Nat) (hb:w.heap[bb]?=some (.cells #[.slice (some ⟨g,0,none⟩) n n] 45 (0,0))) (hr:z0c w .i64 3 g n C) (hs:s<n) (hn:n≤1000000) (hC:C s≤1000000000000) :
  Calls Tryz.prog 111 #[wv s m x,.pointer (some ⟨bb,0,none⟩)] w fun e w'=>e=.returned (.tuple #[])∧z0c w' .i64 3 g n (upd C s (C s+1))∧Chb g w w':=by
 obtain ⟨W1,hW1⟩:∃W1,W1=w.alloc (.cells #[.int .i64 (s:Int),.int .i64 (m:Int),.int .i64 (x:Int)] 141):=⟨_,rfl⟩
 have hb1:Below w.heap.size w W1:=by rw [hW1];exact (Below.refl _ _).alloc (Nat.le_refl _) _
 have x1:W1.heap[w.heap.size]?=some (.cells #[.int .i64 (s:Int),.int .i64 (m:Int),.int .i64 (x:Int)] 141 (0,0)):=by rw [hW1];exact heap_alloc_new _ _
 have d0:W1.cell? ⟨w.heap.size,0,none⟩=some (.int .i64 (s:Int)):=by simp only [World.cell?,x1];rfl
 have hr1:z0c W1 .i64 3 g n C:=hr.stays hb1 hr.lt
 have hbb:=(hb1.block _ (z0b hb)).trans hb
 have d1:W1.cell? ⟨bb,0,none⟩=some (.slice (some ⟨g,0,none⟩) n n):=by simp only [World.cell?,hbb];rfl
 have d2:=hr1.cell s hs
 have d3:=hr1.free s
 have HF:Hid (z0c (W1.setCell ⟨g,s,none⟩ (.int .i64 ((C s+1:Nat):Int))) .i64 3 g n (upd C s (C s+1))∧Chb g w (W1.setCell ⟨g,s,none⟩ (.int .i64 ((C s+1:Nat):Int)))):=qz ⟨hr1.set s _,⟨hb1.os,hb1.tape,hb1.output,by rw [World.size_setCell];exact hb1.size,fun k hk hne=>by rw [heap_setCell_other _ _ _ _ hne];exact hb1.block k hk⟩⟩
 have hsn:(s:Int)<(n:Int):=by omega
 have hcs:((C s:Nat):Int)+1=((C s+1:Nat):Int):=by omega
 have HCS:=qz hcs
 generalize hc:C s=c at d2 HF hC HCS ⊢
 rw [hW1] at d0 d1 d2 d3
 unfold wv
 clear hb hr hb1 x1 hr1 hbb hc hcs
 go_enter Tryz.func111,Tryz.ntmps111
 go_wp2_with fail
 go_end0
 refine ⟨rfl,?_⟩
 have:=uh HF
 rw [←uh HCS,hW1] at this
 exact this
theorem y8z (w:World) (bb g n s m x:Nat) (C:Nat→Nat) (hb:w.heap[bb]?=some (.cells #[.slice (some ⟨g,0,none⟩) n n] 45 (0,0))) (hr:z0c w .i64 3 g n C) (hs:s<n) (hn:n≤1000000) (hC:C s≤1000000000000) :
  Calls Tryz.prog 112 #[wv s m x,.pointer (some ⟨bb,0,none⟩)] w fun e w'=>e=.returned (.tuple #[])∧z0c w' .i64 3 g n (upd C s (C s+1))∧Chb g w w':=by
 obtain ⟨W1,hW1⟩:∃W1,W1=w.alloc (.cells #[.int .i64 (s:Int),.int .i64 (m:Int),.int .i64 (x:Int)] 141):=⟨_,rfl⟩
 have hb1:Below w.heap.size w W1:=by rw [hW1];exact (Below.refl _ _).alloc (Nat.le_refl _) _
 have x1:W1.heap[w.heap.size]?=some (.cells #[.int .i64 (s:Int),.int .i64 (m:Int),.int .i64 (x:Int)] 141 (0,0)):=by rw [hW1];exact heap_alloc_new _ _
 have d0:W1.cell? ⟨w.heap.size,0,none⟩=some (.int .i64 (s:Int)):=by simp only [World.cell?,x1];rfl
 have hr1:z0c W1 .i64 3 g n C:=hr.stays hb1 hr.lt
 have hbb:=(hb1.block _ (z0b hb)).trans hb
 have d1:W1.cell? ⟨bb,0,none⟩=some (.slice (some ⟨g,0,none⟩) n n):=by simp only [World.cell?,hbb];rfl
 have d2:=hr1.cell s hs
 have d3:=hr1.free s
 have HF:Hid (z0c (W1.setCell ⟨g,s,none⟩ (.int .i64 ((C s+1:Nat):Int))) .i64 3 g n (upd C s (C s+1))∧Chb g w (W1.setCell ⟨g,s,none⟩ (.int .i64 ((C s+1:Nat):Int)))):=qz ⟨hr1.set s _,⟨hb1.os,hb1.tape,hb1.output,by rw [World.size_setCell];exact hb1.size,fun k hk hne=>by rw [heap_setCell_other _ _ _ _ hne];exact hb1.block k hk⟩⟩
 have hsn:(s:Int)<(n:Int):=by omega
 have hcs:((C s:Nat):Int)+1=((C s+1:Nat):Int):=by omega
 have HCS:=qz hcs
 generalize hc:C s=c at d2 HF hC HCS ⊢
 rw [hW1] at d0 d1 d2 d3
 unfold wv
 clear hb hr hb1 x1 hr1 hbb hc hcs
 go_enter Tryz.func112,Tryz.ntmps112
 go_wp2_with fail
 go_end0
 refine ⟨rfl,?_⟩
 have:=uh HF
 rw [←uh HCS,hW1] at this
 exact this
def cnB (b:Bool) (l:List Ev) (s:Nat):Nat:=((l.filter fun e=>e.1 == b).map fun e=>e.2.1).count s
theorem x5k (b:Bool) (l:List Ev) (s m y:Nat):cnB b (l++[(b,s,m,y)])=upd (cnB b l) s (cnB b l s+1):=by
 funext i
 unfold cnB upd
 rw [List.filter_append,List.map_append,List.count_append]
 by_cases h:i=s
 ·subst h;simp
 ·have:¬s=i:=fun e=>h e.symm
  simp [h,this]
theorem x0w (b b':Bool) (hb:b'≠b) (l:List Ev) (s m y:Nat):cnB b (l++[(b',s,m,y)])=cnB b l:=by
 funext i
 unfold cnB
 rw [List.filter_append,List.map_append,List.count_append]
 simp [hb]
theorem w3w (l:List Ev) (b:Bool) (s:Nat):cnB b l s≤l.length:=by
 unfold cnB
 refine Nat.le_trans List.count_le_length ?_
 rw [List.length_map]
 exact List.length_filter_le _ _
theorem x5j (b:Bool) (t:T) (ts:List T) (i:Nat):cnB b (z3f (t :: ts)) i=List.count i (((z4h t).filter fun e=>e.1 == b).map fun e=>e.2.1)+cnB b (z3f ts) i:=by
 have e1:z3f (t :: ts)=z4h t++z3f ts:=by simp [z3f,evs]
 unfold cnB
 rw [e1,List.filter_append,List.map_append,List.count_append]
theorem y8s (ts:List T):cnB true (z3f ts)=z0l ts:=by
 funext i
 induction ts with
 | nil =>
  show List.count i [256]=(if i=256 then 1 else 0)+List.count i []
  rw [List.count_cons,List.count_nil]
  by_cases h:i=256
  ·subst h;rfl
  ·rw [if_neg h,if_neg (by simp;exact fun e=>h e.symm)]
 | cons t ts ih =>
  rw [x5j,ih]
  unfold z0l z4h
  generalize (if i=256 then 1 else 0)=z
  rw [List.map_cons,List.count_cons]
  by_cases h:t.n=0
  ·rw [if_pos h,if_pos h]
   show List.count i [t.b]+_=_
   rw [List.count_cons,List.count_nil];omega
  ·rw [if_neg h,if_neg h]
   show List.count i [symL t.n]+_=_
   rw [List.count_cons,List.count_nil];omega
theorem w0k (ts:List T):cnB false (z3f ts)=z0i ts:=by
 funext i
 induction ts with
 | nil=>simp [cnB,z3f,evs,z0i]
 | cons t ts ih =>
  rw [x5j,ih]
  unfold z0i z4h
  by_cases h:t.n=0
  ·have e2:(t :: ts).filter (fun t=>decide (t.n≠0))=ts.filter (fun t=>decide (t.n≠0)):=List.filter_cons_of_neg (by simp [h])
   rw [if_pos h,e2]
   show List.count i []+_=_
   rw [List.count_nil,Nat.zero_add]
  ·have e2:(t :: ts).filter (fun t=>decide (t.n≠0))=t :: ts.filter (fun t=>decide (t.n≠0)):=List.filter_cons_of_pos (by simp [h])
   rw [if_neg h,e2,List.map_cons (f:=fun t:T=>symD t.d),List.count_cons]
   show List.count i [symD t.d]+_=_
   rw [List.count_cons,List.count_nil];omega
theorem w2y {ts:List T} (hok:y4i ts):∀e∈z3f ts,if e.1 then e.2.1<286 else e.2.1<30:=by
 intro e he
 unfold z3f at he
 rw [List.mem_append] at he
 rcases he with he|he
 ·unfold evs at he
  rw [List.mem_flatten] at he
  obtain ⟨l,hl,he⟩:=he
  rw [List.mem_map] at hl
  obtain ⟨t,ht,rfl⟩:=hl
  have h1:=hok t ht
  unfold z4h at he
  by_cases h:t.n=0
  ·rw [if_pos h] at he
   simp only [List.mem_singleton] at he
   subst he
   simp;omega
  ·rw [if_neg h] at he
   have h3:3≤t.n∧t.n≤258∧1≤t.d∧t.d≤32768:=by rcases h1 with h1|h1;exact absurd h1.1 h;exact h1
   have a:=z6z t.n h3.1 h3.2.1
   have b:=z6y t.d h3.2.2.1 h3.2.2.2
   simp only [List.mem_cons,List.not_mem_nil,or_false] at he
   rcases he with rfl|rfl
   ·simp;omega
   ·simp;omega
 ·simp only [List.mem_singleton] at he
  subst he
  simp
structure Chd (g1 g2:Nat) (w x:World):Prop where
 os:x.os=w.os
 tape:x.tape=w.tape
 output:x.output=w.output
 size:w.heap.size≤x.heap.size
 keep:∀k,k<w.heap.size→k≠g1→k≠g2→x.heap[k]?=w.heap[k]?
theorem Chd.of_below {g1 g2:Nat} {w x:World} (h:Below w.heap.size w x):Chd g1 g2 w x:=⟨h.os,h.tape,h.output,h.size,fun k hk _ _=>h.block k hk⟩
theorem Chd.of_left {g1 g2:Nat} {w x:World} (h:Chb g1 w x):Chd g1 g2 w x:=⟨h.os,h.tape,h.output,h.size,fun k hk h1 _=>h.keep k hk h1⟩
theorem Chd.of_right {g1 g2:Nat} {w x:World} (h:Chb g2 w x):Chd g1 g2 w x:=⟨h.os,h.tape,h.output,h.size,fun k hk _ h1=>h.keep k hk h1⟩
theorem Chd.trans {g1 g2:Nat} {w x y:World} (h:Chd g1 g2 w x) (k:Chd g1 g2 x y):Chd g1 g2 w y:=⟨k.os.trans h.os,k.tape.trans h.tape,k.output.trans h.output,Nat.le_trans h.size k.size,fun j hj h1 h2=>(k.keep j (Nat.lt_of_lt_of_le hj h.size) h1 h2).trans (h.keep j hj h1 h2)⟩
theorem y6t (ts:List T) (a:Option Addr) (cap bn bd gn gd:Nat) (w w2:World) (hta:z3e w a ts) (hto:y4i ts) (hfew:ts.length≤1000000000) (hw2:Below w.heap.size w w2) (hgn:w.heap.size≤gn) (hgd:w.heap.size≤gd) (hne:gn≠gd) (hb:bn≠gn∧bn≠gd∧bd≠gn∧bd≠gd)
  (hbn:w2.heap[bn]?=some (.cells #[.slice (some ⟨gn,0,none⟩) 286 286] 45 (0,0))) (hbd:w2.heap[bd]?=some (.cells #[.slice (some ⟨gd,0,none⟩) 30 30] 45 (0,0))) (hrn:z0c w2 .i64 3 gn 286 fun _=>0) (hrd:z0c w2 .i64 3 gd 30 fun _=>0) :
  Calls Tryz.prog 79 #[.slice a ts.length cap,.func (.func 111) #[] #[.pointer (some ⟨bn,0,none⟩)],.func (.func 112) #[] #[.pointer (some ⟨bd,0,none⟩)]] w2 fun e w'=>e=.returned (.tuple #[])∧z0c w' .i64 3 gn 286 (z0l ts)∧z0c w' .i64 3 gd 30 (z0i ts)∧Chd gn gd w2 w':=by
 refine (z9p ts a cap _ _ (fun l x=>z0c x .i64 3 gn 286 (cnB true l)∧z0c x .i64 3 gd 30 (cnB false l)∧Chd gn gd w2 x) w2 hto hfew ?_ ?_ ?_ ?_ ?_).mono ?_
 ·exact fun l x x' h hb=>⟨h.1.stays hb h.1.lt,h.2.1.stays hb h.2.1.lt,h.2.2.trans (Chd.of_below hb)⟩
 ·intro l x h
  refine hta.keep fun ad ha hp=>?_
  obtain ⟨b,off,hab,q1,_⟩:=hta 0 hp
  rw [ha] at hab
  obtain rfl:ad=_:=Option.some.inj hab
  have hlt:b<w.heap.size:=z1e q1
  exact (h.2.2.keep b (Nat.lt_of_lt_of_le hlt hw2.size) (by omega) (by omega)).trans (hw2.block b hlt)
 ·intro l s m y r x0 x e hJ hbx
  have hsy:=w2y hto (true,s,m,y) (by rw [e];simp)
  simp only [if_true] at hsy
  have hcl:=w3w l true s
  have hll:l.length≤2*ts.length+1:=by have:=z6l ts;rw [e] at this;simp at this;omega
  obtain ⟨j1,j2,j3⟩:=hJ
  have j1x:z0c x .i64 3 gn 286 (cnB true l):=j1.stays hbx j1.lt
  have j2x:z0c x .i64 3 gd 30 (cnB false l):=j2.stays hbx j2.lt
  have j3x:Chd gn gd w2 x:=j3.trans (Chd.of_below hbx)
  refine (y8y x bn gn 286 s m y _ ((j3x.keep bn (z0b hbn) (by omega) (by omega)).trans hbn) j1x hsy (by omega) (by omega)).mono ?_
  rintro e x' ⟨rfl,p1,p2⟩
  refine ⟨rfl,⟨?_,?_,j3x.trans (Chd.of_left p2)⟩,fun kb o hkb hko=>(p2.keep kb (z0b hko) (by have:=j1.lt;omega)).trans hko⟩
  ·rw [x5k];exact p1
  ·rw [x0w false true (by decide)]
   show _=_
   rw [p2.keep gd j2x.lt (Ne.symm hne)]
   exact j2x
 ·intro l s m y r x0 x e hJ hbx
  have hsy:=w2y hto (false,s,m,y) (by rw [e];simp)
  simp only [Bool.false_eq_true,if_false] at hsy
  have hcl:=w3w l false s
  have hll:l.length≤2*ts.length+1:=by have:=z6l ts;rw [e] at this;simp at this;omega
  obtain ⟨j1,j2,j3⟩:=hJ
  have j1x:z0c x .i64 3 gn 286 (cnB true l):=j1.stays hbx j1.lt
  have j2x:z0c x .i64 3 gd 30 (cnB false l):=j2.stays hbx j2.lt
  have j3x:Chd gn gd w2 x:=j3.trans (Chd.of_below hbx)
  refine (y8z x bd gd 30 s m y _ ((j3x.keep bd (z0b hbd) (by omega) (by omega)).trans hbd) j2x hsy (by omega) (by omega)).mono ?_
  rintro e x' ⟨rfl,p1,p2⟩
  refine ⟨rfl,⟨?_,?_,j3x.trans (Chd.of_right p2)⟩,fun kb o hkb hko=>(p2.keep kb (z0b hko) (by have:=j2.lt;omega)).trans hko⟩
  ·rw [x0w true false (by decide)]
   show _=_
   rw [p2.keep gn j1x.lt hne]
   exact j1x
  ·rw [x5k];exact p1
 ·exact ⟨hrn,hrd,Chd.of_below (Below.refl _ _)⟩
 ·rintro e w' ⟨rfl,q1,q2,q3⟩
  rw [y8s] at q1
  rw [w0k] at q2
  exact ⟨rfl,q1,q2,q3⟩
end W4
section
open Go.RowKit Defl
def Cnt (l:List Int) (a n:Nat) (v:Int):Prop:=z0v v (l.drop a)=n+z0v v (l.drop (a+n))
theorem Cnt.next {l:List Int} {a n:Nat} {v:Int} (h:Cnt l a n v) (hl:a+n<l.length) (hv:l.getD (a+n) 0=v):Cnt l a (n+1) v:=by
 unfold Cnt at *
 rw [h,List.drop_eq_getElem_cons hl]
 rw [List.getD_eq_getElem?_getD,List.getElem?_eq_getElem hl] at hv
 rw [z0v,if_pos (by simpa using hv),show a+(n+1)=a+n+1 from by omega]
 omega
theorem Cnt.stop {l:List Int} {a n:Nat} {v:Int} (h:Cnt l a n v) (hl:a+n<l.length) (hv:¬l.getD (a+n) 0=v):z0v v (l.drop a)=n:=by
 unfold Cnt at h
 rw [h,List.drop_eq_getElem_cons hl,z0v,if_neg (fun e=>hv (by rw [List.getD_eq_getElem?_getD,List.getElem?_eq_getElem hl];simpa using e))]
 rfl
theorem Cnt.fin {l:List Int} {a n:Nat} {v:Int} (h:Cnt l a n v) (hl:l.length≤a+n):z0v v (l.drop a)=n:=by
 unfold Cnt at h
 rw [h,List.drop_of_length_le hl]
 rfl
end
section
open Go.RowKit Infl Defl
attribute [local go_sem ↓] wp_at_zero wp_at_succ
theorem w0l (l:List Int) (h:0<l.length):Cnt l 0 1 (l.getD 0 0):=by
 have h0:Cnt l 0 0 (l.getD 0 0):=by unfold Cnt;simp
 exact h0.next (by simpa using h) rfl
theorem x9x (l:List Int) (most b off cap:Nat) (w:World) (hl:0<l.length) (hl2:l.length≤100000000000000) (hm:1≤most) (hm2:most≤1000) (hc:∀j,j<l.length→w.cell? ⟨b,off+j,none⟩=some (.int .i64 (l.getD j 0))) :
  Calls Tryz.prog 162 #[.slice (some ⟨b,off,none⟩) l.length cap,.int .i64 (most:Int)] w fun e w'=>e=.returned (.int .i64 ((min most (z0v (l.getD 0 0) l):Nat):Int))∧∃q,w'=w.drewN q:=by
 have c0:=hc 0 hl
 have HC:=qz hc
 have HN:=qz (w0l l hl)
 obtain ⟨n,hn⟩:∃n,n=l.length:=⟨_,rfl⟩
 have HLN:=qz hn
 rw [←hn] at hl hl2 ⊢
 obtain ⟨v,hv⟩:∃v,v=l.getD 0 0:=⟨_,rfl⟩
 rw [←hv] at c0 HN ⊢
 have HV:=qz hv
 simp only [Nat.add_zero] at c0
 obtain ⟨r,hr⟩:∃r,r=min most (z0v v l):=⟨_,rfl⟩
 have HR:=qz hr
 rw [←hr]
 obtain ⟨mn,hmn⟩:∃mn,mn=min most n:=⟨_,rfl⟩
 have HMN:=qz hmn
 have hmin:∀w:World,(Builtin.min_ #[3,3] 3 #[.int .i64 (most:Int),.int .i64 (n:Int)]).run Tryz.prog w=.ok (.int .i64 (mn:Int)) w:=fun w=>by
  rw [run_min_int2]
  congr 2
  split<;>omega
 clear hc hn hv hr hmn
 go_enter Tryz.func162,Tryz.ntmps162
 go_wp2_with fail
 go_loopg [5] (mn-1) (fun gk d ws=>∃ (k q:Nat),gk=mn-k∧1≤k∧k≤mn∧d=.int .i64 (k:Int)∧ws=w.drewN q∧Hid (Cnt l 0 k v))
 case atStart=>exact ⟨1,0,rfl,by omega,by have:=uh HMN;omega,rfl,rfl,HN⟩
 case round =>
  clear HN
  obtain ⟨k,q,rfl,hk1,hk2,rfl,rfl,hcnt⟩:=hrel
  have hmnn:mn≤n:=by have:=uh HMN;omega
  by_cases hlt:k<mn
  ·have e1:(k:Int)<(mn:Int):=by omega
   have c1:w.cell? ⟨b,off+k,none⟩=some (.int .i64 (l.getD k 0)):=uh HC k (by have:=uh HLN;omega)
   have e3:(k:Int)<(n:Int):=by omega
   obtain ⟨y,hy⟩:∃y,y=l.getD k 0:=⟨_,rfl⟩
   rw [←hy] at c1
   have HY:=qz hy
   clear hy
   by_cases hyv:y=v
   ·subst hyv
    have HNX:=qz ((uh hcnt).next (by have:=uh HLN;omega) (by rw [Nat.zero_add];exact (uh HY).symm))
    go_wp2_with fail
    go_quiet (fail)
    go_wp2_with fail
    go_roundg (mn-(k+1))
    case measure=>omega
    case rel=>exact ⟨k+1,q+nq,rfl,by omega,by omega,by go_num,by simp,HNX⟩
   ·have t1:(y == v)=false:=by simpa using hyv
    have HE:Hid (z0v v l=k):=qz (by
     have:=(uh hcnt).stop (by have:=uh HLN;omega) (by rw [Nat.zero_add,←uh HY];exact hyv)
     simpa using this)
    go_wp2_with fail
    go_quiet (fail)
    go_wp2_with fail
    go_ret
    exact ⟨by rw [uh HR,uh HE,Nat.min_eq_right (by have:=uh HMN;omega)];rfl,_,by simp;rfl⟩
  ·have e1:¬ (k:Int)<(mn:Int):=by omega
   obtain rfl:k=mn:=by omega
   have HE:Hid (r=k):=qz (by
    rw [uh HR]
    have h1:=uh HMN
    rcases Nat.lt_or_ge most n with e|e
    ·have:k=most:=by omega
     have:=uh hcnt
     unfold Cnt at this
     simp only [List.drop_zero] at this
     omega
    ·have:k=n:=by omega
     have:=(uh hcnt).fin (by have:=uh HLN;omega)
     simp only [List.drop_zero] at this
     omega)
   go_wp2_with fail
   go_quiet (fail)
   go_wp2_with fail
   go_ret
   exact ⟨by rw [uh HE];rfl,_,by simp;rfl⟩
def w2r (s:Int) (m x:Nat):Value:=.agg #[.int .i64 s,.int .i64 (m:Int),.int .i64 (x:Int)]
def stepW (l:List Int) (again:Bool):Int × Nat × Nat × Nat :=
 if l.getD 0 0=0∧11≤z0v (l.getD 0 0) l then (18,min (z0v (l.getD 0 0) l) 138-11,7,min (z0v (l.getD 0 0) l) 138)
 else if l.getD 0 0=0∧3≤z0v (l.getD 0 0) l then (17,z0v (l.getD 0 0) l-3,3,z0v (l.getD 0 0) l)
 else if 0<l.getD 0 0∧again=true∧3≤z0v (l.getD 0 0) l then (16,min (z0v (l.getD 0 0) l) 6-3,2,min (z0v (l.getD 0 0) l) 6)
 else (l.getD 0 0,0,0,1)
theorem z4x {B:Nat} {a w:World} (h:Below B a w) (n:Nat):Below B a (w.drewN n):=⟨h.os,h.tape,h.output,h.size,h.block⟩
theorem z4e {fn:Func} {a b:Tmp} {ty:TypeId} (h:fn.results=#[.cell a ty,.tmp b]) (tmps:Array Value) (P:Program) (w:World) :
  (results fn tmps).run P w=((asAddr (tmps.getD a undef)).run P w).andThen fun ad w₁=>((loadVar ty ad).run P w₁).andThen fun v w₂=>.ok (.tuple #[v,tmps.getD b undef]) w₂:=by
 simp only [results,h]
 simp [Sem.run_bind,Result.andThen]
theorem y9c (l:List Int) (again:Bool) (b off cap:Nat) (w:World) (hl:0<l.length) (hl2:l.length≤100000000000000) (hc:∀j,j<l.length→w.cell? ⟨b,off+j,none⟩=some (.int .i64 (l.getD j 0))) :
  Calls Tryz.prog 142 #[.slice (some ⟨b,off,none⟩) l.length cap,.bool again] w fun e w'=>e=.returned (.tuple #[w2r (stepW l again).1 (stepW l again).2.1 (stepW l again).2.2.1,.int .i64 ((stepW l again).2.2.2:Int)])∧Below w.heap.size w w':=by
 have c0:=hc 0 hl
 simp only [Nat.add_zero] at c0
 have c1:∀o:Obj,(w.alloc o).cell? ⟨b,off,none⟩=some (.int .i64 (l.getD 0 0)):=fun o=>z0a ((Below.refl _ _).alloc (Nat.le_refl _) o) c0
 have HA:Hid (∀most W,Below w.heap.size w W→1≤most→most≤1000→Calls Tryz.prog 162 #[.slice (some ⟨b,off,none⟩) l.length cap,.int .i64 ((most:Nat):Int)] W fun e w'=>e=.returned (.int .i64 ((min most (z0v (l.getD 0 0) l):Nat):Int))∧∃q',w'=W.drewN q'):=qz fun most W hb h1 h2=>x9x l most b off cap W hl hl2 h1 h2 (fun j hj=>z0a hb (hc j hj))
 have h1c:1≤z0v (l.getD 0 0) l:=by have:=y4v l 0 hl;simpa using this
 unfold stepW w2r
 obtain ⟨n,hn⟩:∃n,n=l.length:=⟨_,rfl⟩
 rw [←hn] at hl hl2 HA ⊢
 generalize z0v (l.getD 0 0) l=c at HA h1c ⊢
 generalize l.getD 0 0=v at c1 HA ⊢
 clear c0
 clear hn hc
 have HST:Hid (∀W:World,Below w.heap.size w W→W.heap[w.heap.size]?=some (.cells #[.int .i64 0,.int .i64 0,.int .i64 0] 141 (0,0))→W.cell? ⟨w.heap.size,0,none⟩=some (.int .i64 0)∧W.cell? ⟨w.heap.size,1,none⟩=some (.int .i64 0)∧W.cell? ⟨w.heap.size,2,none⟩=some (.int .i64 0)∧∀o,W.frozen? ⟨w.heap.size,o,none⟩=false):=qz fun W _ c3=>⟨by simp only [World.cell?,c3];rfl,by simp only [World.cell?,c3];rfl,by simp only [World.cell?,c3];rfl,fun o=>by simp [World.frozen?,c3]⟩
 obtain ⟨W1,hW1⟩:∃W1,W1=w.alloc (.cells #[.int .i64 0,.int .i64 0,.int .i64 0] 141):=⟨_,rfl⟩
 have HB1:Hid (Below w.heap.size w W1):=qz (by rw [hW1];exact (Below.refl _ _).alloc (by simp) _)
 have HX1:Hid (W1.heap[w.heap.size]?=some (.cells #[.int .i64 0,.int .i64 0,.int .i64 0] 141 (0,0))):=qz (by rw [hW1];exact heap_alloc_new _ _)
 obtain ⟨d0,d1,d2,f0⟩:=uh HST W1 (uh HB1) (uh HX1)
 have c2:=c1 (.cells #[.int .i64 0,.int .i64 0,.int .i64 0] 141)
 rw [←hW1] at c2
 by_cases hv:v=0
 ·subst hv
  by_cases h11:11≤c
  ·
   rw [if_pos ⟨rfl,h11⟩]
   have e1:((min 138 c:Nat):Int)=((min c 138:Nat):Int):=by omega
   have e2:((min c 138-11:Nat):Int)=((min c 138:Nat):Int)-11:=by omega
   rw [e2]
   obtain ⟨t,ht⟩:∃t,t=min c 138:=⟨_,rfl⟩
   rw [←ht]
   have t1:(11:Int)≤(t:Int):=by omega
   have t2:(t:Int)≤138:=by omega
   have HC:=qz (uh HA 138 W1 (uh HB1) (by decide) (by decide))
   rw [e1,←ht] at HC
   clear HA e1 e2 ht h11
   go_enter Tryz.func142,Tryz.ntmps142
   go_wp2_with fail
   rw [←hW1]
   clear hW1
   refine (uh HC).mono ?_
   rintro e W2 ⟨rfl,q,rfl⟩
   go_wp2_with fail
   refine bodyPost_ret (v:=.tuple #[.agg #[.int .i64 18,.int .i64 ((t:Int)-11),.int .i64 7],.int .i64 (t:Int)]) ?_ rfl ⟨rfl,(((z4x (uh HB1) q).setCell (Nat.le_refl _) _).setCell (Nat.le_refl _) _).setCell (Nat.le_refl _) _⟩
   rw [z4e rfl]
   go_simp
  ·by_cases h3:3≤c
   ·
    rw [if_neg (fun h=>h11 h.2),if_pos ⟨rfl,h3⟩]
    have e1:((min 138 c:Nat):Int)=(c:Int):=by omega
    have e2:((c-3:Nat):Int)=(c:Int)-3:=by omega
    rw [e2]
    have t1:¬ (11:Int)≤(c:Int):=by omega
    have t2:(3:Int)≤(c:Int):=by omega
    have t3:(c:Int)≤138:=by omega
    have HC:=qz (uh HA 138 W1 (uh HB1) (by decide) (by decide))
    rw [e1] at HC
    clear HA e1 e2 h11 h3
    go_enter Tryz.func142,Tryz.ntmps142
    go_wp2_with fail
    rw [←hW1]
    clear hW1
    refine (uh HC).mono ?_
    rintro e W2 ⟨rfl,q,rfl⟩
    go_wp2_with fail
    refine bodyPost_ret (v:=.tuple #[.agg #[.int .i64 17,.int .i64 ((c:Int)-3),.int .i64 3],.int .i64 (c:Int)]) ?_ rfl ⟨rfl,(((z4x (uh HB1) q).setCell (Nat.le_refl _) _).setCell (Nat.le_refl _) _).setCell (Nat.le_refl _) _⟩
    rw [z4e rfl]
    go_simp
   ·
    rw [if_neg (fun h=>h11 h.2),if_neg (fun h=>h3 h.2),if_neg (fun h=>by omega)]
    have e1:((min 138 c:Nat):Int)=(c:Int):=by omega
    have t1:¬ (11:Int)≤(c:Int):=by omega
    have t2:¬ (3:Int)≤(c:Int):=by omega
    have HC:=qz (uh HA 138 W1 (uh HB1) (by decide) (by decide))
    rw [e1] at HC
    clear HA e1 h11 h3
    go_enter Tryz.func142,Tryz.ntmps142
    go_wp2_with fail
    rw [←hW1]
    clear hW1
    refine (uh HC).mono ?_
    rintro e W2 ⟨rfl,q,rfl⟩
    go_wp2_with fail
    refine bodyPost_ret (v:=.tuple #[.agg #[.int .i64 0,.int .i64 0,.int .i64 0],.int .i64 1]) ?_ rfl ⟨rfl,(((z4x (uh HB1) q).setCell (Nat.le_refl _) _).setCell (Nat.le_refl _) _).setCell (Nat.le_refl _) _⟩
    rw [z4e rfl]
    go_simp
 ·have hv0:(v == 0)=false:=by simpa using hv
  by_cases hp:0<v
  ·cases again with
   | true =>
    by_cases h3:3≤c
    ·
     rw [if_neg (fun h=>hv h.1),if_neg (fun h=>hv h.1),if_pos ⟨hp,rfl,h3⟩]
     have e1:((min 6 c:Nat):Int)=((min c 6:Nat):Int):=by omega
     have e2:((min c 6-3:Nat):Int)=((min c 6:Nat):Int)-3:=by omega
     rw [e2]
     obtain ⟨t,ht⟩:∃t,t=min c 6:=⟨_,rfl⟩
     rw [←ht]
     have t1:(3:Int)≤(t:Int):=by omega
     have t2:(t:Int)≤6:=by omega
     have HC:=qz (uh HA 6 W1 (uh HB1) (by decide) (by decide))
     rw [e1,←ht] at HC
     clear HA e1 e2 ht h3
     go_enter Tryz.func142,Tryz.ntmps142
     go_wp2_with fail
     rw [←hW1]
     clear hW1
     refine (uh HC).mono ?_
     rintro e W2 ⟨rfl,q,rfl⟩
     go_wp2_with fail
     refine bodyPost_ret (v:=.tuple #[.agg #[.int .i64 16,.int .i64 ((t:Int)-3),.int .i64 2],.int .i64 (t:Int)]) ?_ rfl ⟨rfl,(((z4x (uh HB1) q).setCell (Nat.le_refl _) _).setCell (Nat.le_refl _) _).setCell (Nat.le_refl _) _⟩
     rw [z4e rfl]
     go_simp
    ·
     rw [if_neg (fun h=>hv h.1),if_neg (fun h=>hv h.1),if_neg (fun h=>h3 h.2.2)]
     have e1:((min 6 c:Nat):Int)=(c:Int):=by omega
     have t1:¬ (3:Int)≤(c:Int):=by omega
     have HC:=qz (uh HA 6 W1 (uh HB1) (by decide) (by decide))
     rw [e1] at HC
     clear HA e1 h3
     go_enter Tryz.func142,Tryz.ntmps142
     go_wp2_with fail
     rw [←hW1]
     clear hW1
     refine (uh HC).mono ?_
     rintro e W2 ⟨rfl,q,rfl⟩
     go_wp2_with fail
     refine bodyPost_ret (v:=.tuple #[.agg #[.int .i64 v,.int .i64 0,.int .i64 0],.int .i64 1]) ?_ rfl ⟨rfl,(((z4x (uh HB1) q).setCell (Nat.le_refl _) _).setCell (Nat.le_refl _) _).setCell (Nat.le_refl _) _⟩
     rw [z4e rfl]
     go_simp
   | false =>
    rw [if_neg (fun h=>hv h.1),if_neg (fun h=>hv h.1),if_neg (fun h=>by cases h.2.1)]
    clear HA
    clear hW1
    go_enter Tryz.func142,Tryz.ntmps142
    go_wp2_with fail
    refine bodyPost_ret (v:=.tuple #[.agg #[.int .i64 v,.int .i64 0,.int .i64 0],.int .i64 1]) ?_ rfl ⟨rfl,(Below.refl _ _).alloc (Nat.le_refl _) _⟩
    rw [z4e rfl]
    go_simp
  ·
   rw [if_neg (fun h=>hv h.1),if_neg (fun h=>hv h.1),if_neg (fun h=>hp h.1)]
   clear HA
   clear hW1
   go_enter Tryz.func142,Tryz.ntmps142
   go_wp2_with fail
   refine bodyPost_ret (v:=.tuple #[.agg #[.int .i64 v,.int .i64 0,.int .i64 0],.int .i64 1]) ?_ rfl ⟨rfl,(Below.refl _ _).alloc (Nat.le_refl _) _⟩
   rw [z4e rfl]
   go_simp
end
end Go.Proofs.YtabeanealkopbaaGreat
