/- A part of the proof. -/
import Derived.Test.YtabeanealkopbaaGreatDtqF
import Derived.Lib.AppendZerosOnto
import Derived.Lib.AppendZeros
import Derived.Laws.Append

set_option linter.unusedVariables false
set_option maxRecDepth 100000
set_option maxHeartbeats 24000000
namespace Go.Proofs.YtabeanealkopbaaGreat
section
open Go.RowKit Infl Defl
attribute [local go_sem ↓] wp_at_zero wp_at_succ
abbrev Wd:=Int × Nat × Nat
def wcs:List Wd→List Value
 | []=>[]
 | r :: rs=>.int .i64 r.1 :: .int .i64 (r.2.1:Int) :: .int .i64 (r.2.2:Int) :: wcs rs
theorem y4d:∀l:List Wd,(wcs l).length=l.length*3
 | []=>rfl
 | r :: rs=>by simp [wcs,y4d rs];omega
theorem y4c:∀a b:List Wd,wcs (a++b)=wcs a++wcs b
 | [],b=>rfl
 | r :: rs,b=>by simp [wcs,y4c rs b]
theorem x9r:∀l:List Wd,∀u∈wcs l,u.oneCell'=true
 | []=>fun u h=>by cases h
 | r :: rs=>fun u h=>by
  simp [wcs] at h
  rcases h with rfl|rfl|rfl|h
  ·rfl
  ·rfl
  ·rfl
  ·exact x9r rs u h
theorem w5s:(Tryz.prog.info? 141).map (fun i=>(i.zero,i.size,i.bytes))=some (some (.agg #[.int .i64 0,.int .i64 0,.int .i64 0]),3,24):=by kernel_rfl
theorem z5o {w:World} {ops:Array Oper} {rest:List Oper} {o:Oper} {a:Act} {Q:Exit→Act→World→Prop} (hgd:o.guard=none) (s x:Operand)
  (ho:o.op=.call { callee:=.builtin .append,args:=#[s,x],argTypes:=#[111,111] })
  (base:Nat) (v:Value) (n:Nat) (xs:List Wd) (hs:a.eval s=v) (hown:w.ownsRow base 141 3 v n (wcs xs))
  (g:Nat) (r:Wd) (hx:a.eval x=.slice (some ⟨g,0,none⟩) 1 1) (hg:w.heap[g]?=some (.cells #[.int .i64 r.1,.int .i64 (r.2.1:Int),.int .i64 (r.2.2:Int)] 141 (0,0))) (h63:(n+1)*24≤140737488355328) (hbase:base≤w.heap.size)
  (h:∀v' w',w'.ownsRow base 141 3 v' (n+1) (wcs (xs++[r]))→w.grownBy w' v.ownBlock→wpList Tryz.prog ops Q rest (a.put o.dst v') w'):wpList Tryz.prog ops Q (o :: rest) a w:=by
 obtain ⟨i0,hii,hz0,hz1,hz2⟩:=info_parts w5s
 refine wpList_append_own (w:=w) hgd s x 111 ho base 141 i0 _ 3 24 Tryz.underlying111 hii hz0 hz1 hz2 rfl (by decide) v n (wcs xs) hs hown ⟨g,0,none⟩ 1 1 (wcs [r]) hx (by rw [y4d];rfl) (fun j u hj=>?_)
   (x9r _) (by unfold maxLen;omega) h63 hbase (fun v' w' h1 h2 h3=>h v' w' (by rw [y4c];exact h1) h2)
 have ea:(⟨g,0,none⟩:Addr).add j=⟨g,j,none⟩:=by by_cases hq:j=0<;>simp [Addr.add,hq]
 rw [ea]
 simp only [World.cell?,hg]
 simpa [wcs] using hj
def y3e (l:List Int) (a:Nat):Bool:=decide (0<a∧l.getD (a-1) 0=l.getD a 0)
def z3g (l:List Int) (a:Nat):Int × Nat × Nat × Nat:=stepW (l.drop a) (y3e l a)
theorem y6h (l:List Int) (a:Nat):(z3g l a).1=(z0z l a).1∧(z3g l a).2.1=(z0z l a).2.1∧(z3g l a).2.2.2=(z0z l a).2.2:=by
 have e:(l.drop a).getD 0 0=l.getD a 0:=by simp [List.getD_eq_getElem?_getD]
 unfold z3g stepW z0z y3e
 rw [e]
 generalize z0v (l.getD a 0) (l.drop a)=c
 generalize l.getD a 0=v
 by_cases h1:v=0∧11≤c
 ·rw [if_pos h1,if_pos h1];exact ⟨rfl,rfl,rfl⟩
 ·rw [if_neg h1,if_neg h1]
  by_cases h2:v=0∧3≤c
  ·rw [if_pos h2,if_pos h2];exact ⟨rfl,rfl,rfl⟩
  ·rw [if_neg h2,if_neg h2]
   by_cases h3:0<v∧0<a∧l.getD (a-1) 0=v∧3≤c
   ·rw [if_pos h3,if_pos ⟨h3.1,decide_eq_true ⟨h3.2.1,h3.2.2.1⟩,h3.2.2.2⟩];exact ⟨rfl,rfl,rfl⟩
   ·rw [if_neg h3,if_neg (fun h=>h3 ⟨h.1,by have:=of_decide_eq_true h.2.1;exact this.1,by have:=of_decide_eq_true h.2.1;exact this.2,h.2.2⟩)];exact ⟨rfl,rfl,rfl⟩
def z5e (l:List Int):Nat→Nat→List Wd
 | 0,_=>[]
 | k+1,a=>if a<l.length then ((z3g l a).1,(z3g l a).2.1,(z3g l a).2.2.1) :: z5e l k (a+(z3g l a).2.2.2) else []
def z5w (l:List Int):List Wd:=z5e l l.length 0
theorem y2v (l:List Int):∀k a,(z5e l k a).map (fun r=>(r.1,r.2.1))=z8z l k a
 | 0,_=>rfl
 | k+1,a=>by
  obtain ⟨h1,h2,h3⟩:=y6h l a
  unfold z5e z8z
  by_cases h:a<l.length
  ·rw [if_pos h,if_pos h,List.map_cons,h1,h2,h3,y2v l k]
  ·rw [if_neg h,if_neg h];rfl
theorem z4i (l:List Int):(z5w l).map (fun r=>(r.1,r.2.1))=z3k l:=y2v l _ _
structure WdAt (w ws:World) (l:List Int) (a:Nat) (rs:List Wd) (v:Value):Prop where
 on:∃k,z5w l=rs++z5e l k a∧l.length≤a+k
 own:ws.ownsRow w.heap.size 141 3 v rs.length (wcs rs)
 bel:Below w.heap.size w ws
 cnt:rs.length≤a
theorem WdAt.start (w:World) (l:List Int):WdAt w w l 0 [] (.slice none 0 0) :=
 ⟨⟨l.length,rfl,by omega⟩,World.ownsRow_nil _ _ _ _,Below.refl _ _,by simp⟩
theorem WdAt.below {w ws ws':World} {l:List Int} {a:Nat} {rs:List Wd} {v:Value} (h:WdAt w ws l a rs v) (hb:Below ws.heap.size ws ws'):WdAt w ws' l a rs v :=
 ⟨h.on,z0y h.own (fun g e=>hb.block _ (h.own.lt g e).2),h.bel.trans (hb.mono h.bel.size),h.cnt⟩
theorem WdAt.next {w ws w':World} {l:List Int} {a:Nat} {rs:List Wd} {v v':Value} (h:WdAt w ws l a rs v) (ha:a<l.length)
  (hown:w'.ownsRow w.heap.size 141 3 v' (rs.length+1) (wcs (rs++[((z3g l a).1,(z3g l a).2.1,(z3g l a).2.2.1)]))) (hg:ws.grownBy w' v.ownBlock) :
  WdAt w w' l (a+(z3g l a).2.2.2) (rs++[((z3g l a).1,(z3g l a).2.1,(z3g l a).2.2.1)]) v':=by
 have hp:=(y2p l a ha).1
 rw [←(y6h l a).2.2] at hp
 refine ⟨?_,by simpa using hown,h.bel.grown hg h.bel.size (fun k e=>(h.own.lt k e).1),by have:=h.cnt;simp;omega⟩
 obtain ⟨k,h1,h2⟩:=h.on
 obtain ⟨k',rfl⟩:∃k',k=k'+1:=⟨k-1,by omega⟩
 refine ⟨k',?_,by omega⟩
 rw [h1,z5e,if_pos ha,List.append_assoc]
 rfl
theorem WdAt.fin {w ws:World} {l:List Int} {a:Nat} {rs:List Wd} {v:Value} (h:WdAt w ws l a rs v) (ha:l.length≤a):rs=z5w l:=by
 obtain ⟨k,h1,h2⟩:=h.on
 rw [h1]
 cases k with
 | zero=>simp [z5e]
 | succ k=>rw [z5e,if_neg (by omega)];simp
theorem z0w.spot {w:World} {a0:Option Addr} {cap:Nat} {l:List Int} (h:z0w w (.slice a0 l.length cap) l) (h0:0<l.length):∃b off,a0=some ⟨b,off,none⟩∧∀j,j<l.length→w.cell? ⟨b,off+j,none⟩=some (.int .i64 (l.getD j 0)):=by
 obtain ⟨a,c,e,hc⟩:=h
 injection e with e1 e2 e3
 subst e1
 exact hc h0
theorem x0b (l:List Int) (a0:Option Addr) (cap:Nat) (w:World) (hr:z0w w (.slice a0 l.length cap) l) (hcap:l.length≤cap) (hlen:l.length*24≤140737488351232) :
  Calls Tryz.prog 115 #[.slice a0 l.length cap] w fun e w'=>∃wv,e=.returned wv∧w'.ownsRow w.heap.size 141 3 wv (z5w l).length (wcs (z5w l))∧Below w.heap.size w w':=by
 have HC:Hid (0<l.length→_):=qz hr.spot
 have HF:Hid (∀ (a b off:Nat) (W:World),a<l.length→Below w.heap.size w W→a0=some ⟨b,off,none⟩→Calls Tryz.prog 142 #[.slice (some ⟨b,off+a,none⟩) (l.length-a) (cap-a),.bool (y3e l a)] W fun e w'=>e=.returned (.tuple #[w2r (z3g l a).1 (z3g l a).2.1 (z3g l a).2.2.1,.int .i64 ((z3g l a).2.2.2:Int)])∧Below W.heap.size W w'):=qz (fun a b off W ha hb e0=>by
  obtain ⟨b',off',e1,hc⟩:=hr.spot (by omega)
  rw [e0] at e1
  injection e1 with e1
  injection e1 with e1 e2
  subst e1 e2
  have:=y9c (l.drop a) (y3e l a) b (off+a) (cap-a) W (by simp;omega) (by simp;omega) (fun j hj=>by
   simp at hj
   rw [Nat.add_assoc]
   have:=z0a hb (hc (a+j) (by omega))
   rw [this]
   simp [List.getD_eq_getElem?_getD])
  rw [List.length_drop] at this
  exact this)
 have HS:Hid (∀a,a<l.length→1≤(z3g l a).2.2.2∧a+(z3g l a).2.2.2≤l.length):=qz (fun a ha=>by
  rw [(y6h l a).2.2]
  have h1:=y2p l a ha
  have h2:=y1f (l.getD a 0) (l.drop a)
  rw [List.length_drop] at h2
  omega)
 obtain ⟨n,hn⟩:∃n,n=l.length:=⟨_,rfl⟩
 have HN:=qz hn
 rw [←hn] at hlen hcap HC HF HS ⊢
 clear hr hn
 go_enter Tryz.func115,Tryz.ntmps115
 go_wp2_with fail
 go_loopg [3,4] n (fun gk wv av ws=>∃ (a:Nat) (rs:List Wd),gk=n-a∧a≤n∧av=.int .i64 (a:Int)∧WdAt w ws l a rs wv)
 case atStart=>exact ⟨0,[],by omega,by omega,rfl,WdAt.start w l⟩
 case round =>
  obtain ⟨a,rs,rfl,han,rfl,hat⟩:=hrel
  by_cases hlt:a<n
  ·have e1:(a:Int)<(n:Int):=by omega
   obtain ⟨b,off,rfl,hc⟩:=uh HC (by omega)
   have k1:=z0a hat.bel (hc a (by have:=uh HN;omega))
   have HF2:Hid (∀W:World,Below w.heap.size w W→_):=qz (fun W hb=>uh HF a b off W hlt hb rfl)
   have hst:=uh HS a hlt
   have HNX:Hid (∀ (W w':World) (v':Value),WdAt w W l a rs u3→w'.ownsRow w.heap.size 141 3 v' (rs.length+1) (wcs (rs++[((z3g l a).1,(z3g l a).2.1,(z3g l a).2.2.1)]))→W.grownBy w' u3.ownBlock→WdAt w w' l (a+(z3g l a).2.2.2) (rs++[((z3g l a).1,(z3g l a).2.1,(z3g l a).2.2.1)]) v'):=qz (fun W w' v' h h1 h2=>h.next (by rw [←uh HN];exact hlt) h1 h2)
   have hcnt:=hat.cnt
   have HAG:Hid (y3e l a=decide (0<a∧l.getD (a-1) 0=l.getD a 0)):=qz rfl
   generalize y3e l a=ag at HF2 HAG
   generalize (z3g l a).2.2.2=t at HF2 HNX hst
   generalize (z3g l a).2.2.1=x at HF2 HNX
   generalize (z3g l a).2.1=m at HF2 HNX
   generalize (z3g l a).1=sy at HF2 HNX
   unfold w2r at HF2
   clear HF HS
   have HAT:=qz hat
   clear hat
   have hca:¬cap=a:=by omega
   by_cases ha0:0<a
   ·have g0:(0:Int)<(a:Int):=by omega
    have k0:=z0a (uh HAT).bel (hc (a-1) (by have:=uh HN;omega))
    have e2:(a:Int)-1=((a-1:Nat):Int):=by omega
    have e3:((a-1:Nat):Int)<(n:Int):=by omega
    obtain ⟨y,hy⟩:∃y,y=l.getD a 0:=⟨_,rfl⟩
    obtain ⟨z,hz⟩:∃z,z=l.getD (a-1) 0:=⟨_,rfl⟩
    rw [←hy] at k1
    rw [←hz] at k0
    obtain ⟨p,hp⟩:∃p,p=a-1:=⟨_,rfl⟩
    rw [←hp] at k0 e2 e3
    have hag:(z == y)=ag:=by
     rw [uh HAG,←hy,←hz]
     by_cases h:z=y
     ·simp [h,ha0]
     ·simp [h]
    have HP:=qz hp
    clear hy hz hc HC hp
    go_wp2_with fail
    go_quiet (fail)
    go_wp2_with fail
    refine (uh HF2 _ (z4x (uh HAT).bel nq)).mono ?_
    rintro e W2 ⟨rfl,hb2⟩
    have HAT3:Hid (WdAt w ((W2.alloc (.cells #[.int .i64 sy,.int .i64 (m:Int),.int .i64 (x:Int)] 141)).alloc (.cells #[.int .i64 sy,.int .i64 (m:Int),.int .i64 (x:Int)] 141)) l a rs u3):=qz (((uh HAT).below ((z4x (Below.refl _ _) nq).trans hb2)).below (((Below.refl _ _).alloc (Nat.le_refl _) _).alloc (by simp) _))
    have HSZ:Hid (w.heap.size≤W2.heap.size):=qz (((uh HAT).below ((z4x (Below.refl _ _) nq).trans hb2)).bel.size)
    have HG:Hid (((W2.alloc (.cells #[.int .i64 sy,.int .i64 (m:Int),.int .i64 (x:Int)] 141)).alloc (.cells #[.int .i64 sy,.int .i64 (m:Int),.int .i64 (x:Int)] 141)).heap[W2.heap.size+1]?=some (.cells #[.int .i64 sy,.int .i64 (m:Int),.int .i64 (x:Int)] 141 (0,0))):=qz (by
     rw [show W2.heap.size+1=(W2.alloc (.cells #[.int .i64 sy,.int .i64 (m:Int),.int .i64 (x:Int)] 141)).heap.size by simp]
     exact heap_alloc_new _ _)
    obtain ⟨K,hK⟩:∃K,K=rs.length:=⟨_,rfl⟩
    have HOWN:=qz (uh HAT3).own
    rw [←hK] at hcnt HNX HOWN
    have hat2:a+t≤n:=hst.2
    have ht1:1≤t:=hst.1
    clear hb2 HAT HF2 hst hK
    obtain ⟨a2,ha2⟩:∃a2,a2=a+t:=⟨_,rfl⟩
    have e9:(a:Int)+(t:Int)=(a2:Int):=by omega
    rw [←ha2] at hat2 HNX
    have ha3:a<a2:=by omega
    clear ha2
    go_wp2_with (at_builtin;go_must (refine z5o rfl _ _ rfl w.heap.size u3 K rs (by rfl) (uh HOWN) (W2.heap.size+1) (sy,m,x) (by rfl) (uh HG) (by omega) (by have:=uh HSZ;simp;omega) ?_;intro v' w' h1 h2;have HN2:=qz (uh HNX _ _ _ (uh HAT3) h1 h2);clear h1 h2 HNX HAT3 HOWN HG))
    go_roundg (n-a2)
    case measure=>omega
    case rel=>exact ⟨a2,_,rfl,by omega,by go_num,uh HN2⟩
   ·obtain rfl:a=0:=by omega
    have hag:ag=false:=by rw [uh HAG];simp
    subst hag
    have kz:wr.cell? ⟨b,off,none⟩=some (.int .i64 (l.getD 0 0)):=by simpa using k1
    clear hc HC k1
    go_wp2_with fail
    go_quiet (fail)
    go_wp2_with fail
    simp only [Nat.add_zero,Nat.sub_zero] at HF2
    rw [Nat.zero_add] at hst
    refine (uh HF2 _ (z4x (uh HAT).bel nq)).mono ?_
    rintro e W2 ⟨rfl,hb2⟩
    have HAT3:Hid (WdAt w ((W2.alloc (.cells #[.int .i64 sy,.int .i64 (m:Int),.int .i64 (x:Int)] 141)).alloc (.cells #[.int .i64 sy,.int .i64 (m:Int),.int .i64 (x:Int)] 141)) l 0 rs u3):=qz (((uh HAT).below ((z4x (Below.refl _ _) nq).trans hb2)).below (((Below.refl _ _).alloc (Nat.le_refl _) _).alloc (by simp) _))
    have HSZ:Hid (w.heap.size≤W2.heap.size):=qz (((uh HAT).below ((z4x (Below.refl _ _) nq).trans hb2)).bel.size)
    have HG:Hid (((W2.alloc (.cells #[.int .i64 sy,.int .i64 (m:Int),.int .i64 (x:Int)] 141)).alloc (.cells #[.int .i64 sy,.int .i64 (m:Int),.int .i64 (x:Int)] 141)).heap[W2.heap.size+1]?=some (.cells #[.int .i64 sy,.int .i64 (m:Int),.int .i64 (x:Int)] 141 (0,0))):=qz (by
     rw [show W2.heap.size+1=(W2.alloc (.cells #[.int .i64 sy,.int .i64 (m:Int),.int .i64 (x:Int)] 141)).heap.size by simp]
     exact heap_alloc_new _ _)
    obtain ⟨K,hK⟩:∃K,K=rs.length:=⟨_,rfl⟩
    have HOWN:=qz (uh HAT3).own
    rw [←hK] at hcnt HNX HOWN
    have hat2:t≤n:=hst.2
    have ht1:1≤t:=hst.1
    clear hb2 HAT HF2 hst hK
    rw [Nat.zero_add] at HNX
    go_wp2_with (at_builtin;go_must (refine z5o rfl _ _ rfl w.heap.size u3 K rs (by rfl) (uh HOWN) (W2.heap.size+1) (sy,m,x) (by rfl) (uh HG) (by omega) (by have:=uh HSZ;simp;omega) ?_;intro v' w' h1 h2;have HN2:=qz (uh HNX _ _ _ (uh HAT3) h1 h2);clear h1 h2 HNX HAT3 HOWN HG))
    go_roundg (n-t)
    case measure=>omega
    case rel=>exact ⟨t,_,rfl,by omega,by go_num,uh HN2⟩
  ·obtain rfl:a=n:=by omega
   have HE:=qz (hat.fin (by rw [←uh HN];omega))
   have HO:=qz hat.own
   have HB:=qz hat.bel
   clear hat
   go_wp2_with fail
   go_ret
   exact ⟨_,rfl,by rw [←uh HE];exact uh HO,uh HB⟩
end
namespace W4
open Go.RowKit Mth Infl Defl
attribute [local go_sem ↓] wp_at_zero wp_at_succ
theorem w4h (n:Nat) (w:World) (h1:1≤n) (h2:n≤1000000) :
  Calls Tryz.prog 143 #[.slice none 0 0,.int .i64 (n:Int)] w fun e w'=>∃G,e=.returned (.slice (some ⟨w.heap.size,0,none⟩) 0 G)∧w'.ownsRow w.heap.size 3 1 (.slice (some ⟨w.heap.size,0,none⟩) 0 G) 0 []∧n≤G∧Below w.heap.size w w':=by
 obtain ⟨i0,hi,hz0,hz1,hz2⟩:=info_parts info3'
 obtain ⟨G,hG⟩:∃G,G=grownCap w (0+n) 0 3:=⟨_,rfl⟩
 obtain ⟨W1,hW1⟩:∃W1,W1=w.drew.alloc (.cells ((([]:List Value)).toArray++Builtin.zeroCells (Value.int .i64 0).cells n++Builtin.zeroCells (Value.int .i64 0).cells (G-(0+n))) 3):=⟨_,rfl⟩
 have hold:(Builtin.firstCells i0.size 0 (.slice none 0 0)).run Tryz.prog w.drew=.ok ([]:List Value).toArray w.drew:=run_firstCells_none w.drew i0.size 0 0 0
 have hge:n≤G:=by rw [hG];have:=grownCap_ge w (0+n) 0 3;omega
 have hle:G≤maxLen:=by rw [hG];exact grownCap_le_maxLen w (0+n) 0 3 (by unfold maxLen;omega)
 have hrz:∀ty,(Builtin.append_ #[45,3] ty #[.slice none 0 0,.int .i64 (n:Int)]).run Tryz.prog w=.ok (.slice (some ⟨w.heap.size,0,none⟩) (0+n) G) W1:=fun ty=>by
  have h:=Lib.run_append_grow_zeros w 45 3 ty 3 i0 (.int .i64 0) .i64 .i64 Tryz.underlying45 Tryz.underlying3 hi hz0 none 0 0 [] hold n (by omega) (by rw [hz1];decide) (by omega) (by omega) (by rw [hz2];omega)
   (growslice_fits (by omega) (by rw [hz2];omega))
  rw [←hG] at h
  rw [hW1]
  exact h
 rw [Nat.zero_add] at hrz
 have HE:Hid (W1.ownsRow w.heap.size 3 1 (.slice (some ⟨w.heap.size,0,none⟩) 0 G) 0 []∧Below w.heap.size w W1):=qz (by
  refine ⟨⟨rfl,.inr ⟨w.heap.size,G,_,rfl,Nat.le_refl _,(by rw [hW1];exact heap_alloc_new _ _),Nat.zero_le _,hle,?_,rfl⟩⟩,?_⟩
  ·simp [Builtin.zeroCells,Value.cells];omega
  ·rw [hW1];exact Below.alloc (⟨rfl,rfl,rfl,Nat.le_refl _,fun _ _=>rfl⟩:Below w.heap.size w w.drew) (Nat.le_refl _) _)
 have hG63:G≤9223372036854775807:=by unfold maxLen at hle;omega
 clear hG hold hW1 hz0 hz1 hz2 hle hi
 go_enter Tryz.func143,Tryz.ntmps143
 go_wp2_with (at_builtin;refine Lib.wpList_append_run _ rfl _ _ _ _ rfl _ _ rfl rfl _ _ (hrz _) ?_)
 all_goals (go_ret;exact ⟨G,rfl,(uh HE).1,hge,(uh HE).2⟩)
end W4
namespace W4
open Go.RowKit Mth Infl Defl
attribute [local go_sem ↓] wp_at_zero wp_at_succ
theorem x1a (xs:List Int):∀u∈xs.map iv,u.oneCell'=true:=by
 intro u hu
 obtain ⟨b,_,rfl⟩:=List.mem_map.1 hu
 rfl
def RowI (w:World) (b o:Nat) (xs:List Int):Prop:=∀ (j:Nat) u,(xs.map iv)[j]?=some u→w.cell? ((⟨b,o,none⟩:Addr).add j)=some u
theorem RowI.keep {w w':World} {b o:Nat} {xs:List Int} (h:RowI w b o xs) (hk:w'.heap[b]?=w.heap[b]?):RowI w' b o xs:=by
 intro j u hj
 have:=h j u hj
 unfold World.cell? at this ⊢
 rw [add_block] at this ⊢
 show _=_
 rw [show (⟨b,o,none⟩:Addr).block=b from rfl] at this ⊢
 rw [hk]
 exact this
theorem x5o (xs ys:List Int) (q b1 o1 k1 b2 o2 k2:Nat) (w:World) (hq:w.heap[q]?=some (.cells #[.slice (some ⟨b1,o1,none⟩) xs.length k1,.slice (some ⟨b2,o2,none⟩) ys.length k2] 45 (0,0)))
  (hx:RowI w b1 o1 xs) (hy:RowI w b2 o2 ys) (hb1:b1<w.heap.size) (hb2:b2<w.heap.size) (hx1:1≤xs.length) (hy1:1≤ys.length) (hx2:xs.length≤1000) (hy2:ys.length≤1000) (hk1:xs.length≤k1) (hk2:ys.length≤k2) :
  Calls Tryz.prog 116 #[.slice (some ⟨q,0,none⟩) 2 2] w fun e w'=>∃v,e=.returned v∧w'.ownsRow w.heap.size 3 1 v (xs++ys).length ((xs++ys).map iv)∧Below w.heap.size w w':=by
 obtain ⟨i0,hi,hz0,hz1,hz2⟩:=info_parts info3'
 have d0:w.cell? ⟨q,0,none⟩=some (.slice (some ⟨b1,o1,none⟩) xs.length k1):=by simp only [World.cell?,hq];rfl
 have d1:w.cell? ⟨q,1,none⟩=some (.slice (some ⟨b2,o2,none⟩) ys.length k2):=by simp only [World.cell?,hq];rfl
 have HD:Hid (∀W,Below w.heap.size w W→W.cell? ⟨q,0,none⟩=some (.slice (some ⟨b1,o1,none⟩) xs.length k1)∧W.cell? ⟨q,1,none⟩=some (.slice (some ⟨b2,o2,none⟩) ys.length k2)∧RowI W b1 o1 xs∧RowI W b2 o2 ys):=qz (fun W hW=>by
  have:=(hW.block _ (z0b hq)).trans hq
  refine ⟨?_,?_,hx.keep (hW.block _ hb1),hy.keep (hW.block _ hb2)⟩<;>(simp only [World.cell?,this];rfl))
 have HGR:=qz (w4h (xs.length+ys.length) w (by omega) (by omega))
 have HA:Hid (∀ (ops:Array Oper) (rest:List Oper) (o:Oper) (a:Act) (Q:Exit→Act→World→Prop) (W:World) (s x:Operand) (va:Value) (us vs:List Int) (b o' k:Nat),o.guard=none→o.op=.call { callee:=.builtin .append,args:=#[s,x],argTypes:=#[45,45] }→a.eval s=va→a.eval x=.slice (some ⟨b,o',none⟩) vs.length k→W.ownsRow w.heap.size 3 1 va us.length (us.map iv)→Below w.heap.size w W→RowI W b o' vs→vs.length≤k→us.length≤1000→vs.length≤1000 →
   (∀v' w',w'.ownsRow w.heap.size 3 1 v' (us++vs).length ((us++vs).map iv)→Below w.heap.size w w'→wpList Tryz.prog ops Q rest (a.put o.dst v') w')→wpList Tryz.prog ops Q (o :: rest) a W):=qz (by
  intro ops rest o a Q W s x va us vs b o' k hgd ho hs hxx hown hbel hrow hkk hu hv h
  refine wpList_append_own_at W hgd s x 45 ho w.heap.size 3 i0 (.int .i64 0) 1 8 Tryz.underlying45 hi hz0 hz1 hz2 rfl (by decide) va us.length (us.map iv) hs hown ⟨b,o',none⟩ vs.length k (vs.map iv) (by rw [hxx]) (by simp) hrow (x1a vs) (by unfold maxLen;omega) (by omega) hbel.size ?_
  intro v' w' h2 h3 _ h5
  refine h v' w' ?_ (hbel.grown h3 hbel.size (fun k e=>(hown.lt k e).1))
  rw [List.length_append,List.map_append]
  exact h2)
 obtain ⟨n1,hn1⟩:∃n1,n1=xs.length:=⟨_,rfl⟩
 obtain ⟨n2,hn2⟩:∃n2,n2=ys.length:=⟨_,rfl⟩
 have HN1:=qz hn1
 have HN2:=qz hn2
 rw [←hn1] at d0 HD HGR hx1 hx2 hk1
 rw [←hn2] at d1 HD HGR hy1 hy2 hk2
 clear hq hx hy hb1 hb2 hn1 hn2 hi hz0 hz1 hz2
 go_enter Tryz.func116,Tryz.ntmps116
 go_wp2_with fail
 go_loopg [3,11] 2 (fun gk sv iv' ws=>(gk=2∧sv=.int .i64 0∧iv'=.int .i64 0∧w=ws)∨(gk=1∧sv=.int .i64 (n1:Int)∧iv'=.int .i64 1∧w=ws)∨(gk=0∧sv=.int .i64 ((n1+n2:Nat):Int)∧iv'=.int .i64 2∧w=ws))
 case atStart=>exact .inl ⟨rfl,rfl,rfl,rfl⟩
 case round =>
  rcases hrel with ⟨rfl,rfl,rfl,rfl⟩|⟨rfl,rfl,rfl,rfl⟩|⟨rfl,rfl,rfl,rfl⟩
  ·go_wp2_with fail
   go_roundg 1
   case measure=>omega
   case rel=>exact .inr (.inl ⟨rfl,by go_num,by go_num,rfl⟩)
  ·go_wp2_with fail
   go_roundg 0
   case measure=>omega
   case rel=>exact .inr (.inr ⟨rfl,by go_num,by go_num,rfl⟩)
  ·go_wp2_with fail
   refine (uh HGR).mono ?_
   rintro e W1 ⟨G,rfl,g1,g2,g3⟩
   have HO1:Hid (W1.ownsRow w.heap.size 3 1 (.slice (some ⟨w.heap.size,0,none⟩) 0 G) ([]:List Int).length (([]:List Int).map iv)):=qz g1
   have HB1:=qz g3
   clear g1 g3 g2 HGR
   go_wp2_with fail
   go_loopg [6,27] 2 (fun gk rv iv' ws=>∃us:List Int,((gk=2∧iv'=.int .i64 0∧us=[])∨(gk=1∧iv'=.int .i64 1∧us=xs)∨(gk=0∧iv'=.int .i64 2∧us=xs++ys))∧Hid (ws.ownsRow w.heap.size 3 1 rv us.length (us.map iv))∧Hid (Below w.heap.size w ws))
   case atStart=>exact ⟨[],.inl ⟨rfl,rfl,rfl⟩,HO1,HB1⟩
   case round =>
    clear HO1 HB1
    obtain ⟨us,hcase,HO,HB⟩:=hrel
    obtain ⟨y0,y1,r1,r2⟩:=uh HD wr (uh HB)
    have HR1:=qz r1
    have HR2:=qz r2
    clear r1 r2 d0 d1
    rcases hcase with ⟨rfl,rfl,rfl⟩|⟨rfl,rfl,rfl⟩|⟨rfl,rfl,rfl⟩
    ·go_wp2_with (at_builtin;refine uh HA _ _ _ _ _ _ _ _ _ [] xs b1 o1 k1 rfl rfl rfl (by rw [←uh HN1];rfl) (uh HO) (uh HB) (uh HR1) (by rw [←uh HN1];exact hk1) (by simp) (by rw [←uh HN1];exact hx2) (fun v' w' p1 p2=>?_);have HO':=qz p1;have HB':=qz p2;clear p1 p2)
     go_roundg 1
     case measure=>omega
     case rel=>exact ⟨xs,.inr (.inl ⟨rfl,by go_num,rfl⟩),HO',HB'⟩
    ·go_wp2_with (at_builtin;refine uh HA _ _ _ _ _ _ _ _ _ us ys b2 o2 k2 rfl rfl rfl (by rw [←uh HN2];rfl) (uh HO) (uh HB) (uh HR2) (by rw [←uh HN2];exact hk2) (by rw [←uh HN1];exact hx2) (by rw [←uh HN2];exact hy2) (fun v' w' p1 p2=>?_);have HO':=qz p1;have HB':=qz p2;clear p1 p2)
     go_roundg 0
     case measure=>omega
     case rel=>exact ⟨us++ys,.inr (.inr ⟨rfl,by go_num,rfl⟩),HO',HB'⟩
    ·go_wp2_with fail
     go_ret
     exact ⟨_,rfl,uh HO,uh HB⟩
end W4
namespace W4
open Go.RowKit Mth Infl Defl
attribute [local go_sem ↓] wp_at_zero wp_at_succ
def z0f (w:World) (a:Option Addr) (rs:List Wd):Prop:=∀i,i<rs.length→∃b off,a=some ⟨b,off,none⟩∧w.cell? ⟨b,off+i*3,none⟩=some (.int .i64 (rs.getD i (0,0,0)).1)∧w.cell? ⟨b,off+i*3+1,none⟩=some (.int .i64 ((rs.getD i (0,0,0)).2.1:Int))∧w.cell? ⟨b,off+i*3+2,none⟩=some (.int .i64 ((rs.getD i (0,0,0)).2.2:Int))
theorem z0f.keep {w w':World} {a:Option Addr} {rs:List Wd} (h:z0f w a rs) (hk:∀ad,a=some ad→0<rs.length→ad.block<w.heap.size→w'.heap[ad.block]?=w.heap[ad.block]?):z0f w' a rs:=by
 intro i hi
 obtain ⟨b,off,ha,q1,q2,q3⟩:=h i hi
 have hbl:b<w.heap.size:=z1e q1
 have hh:=hk _ ha (by omega) hbl
 refine ⟨b,off,ha,?_,?_,?_⟩
 ·simp only [World.cell?] at q1 ⊢;rw [hh];exact q1
 ·simp only [World.cell?] at q2 ⊢;rw [hh];exact q2
 ·simp only [World.cell?] at q3 ⊢;rw [hh];exact q3
def cw (rs:List Wd) (s:Nat):Nat:=(rs.map fun r=>r.1.toNat).count s
theorem w4a (rs:List Wd) (i:Nat) (hi:i<rs.length):cw (rs.take (i+1))=upd (cw (rs.take i)) (rs.getD i (0,0,0)).1.toNat (cw (rs.take i) (rs.getD i (0,0,0)).1.toNat+1):=by
 funext s
 have e:rs.take (i+1)=rs.take i++[rs.getD i (0,0,0)]:=by
  rw [List.take_succ_eq_append_getElem hi]
  simp [List.getD_eq_getElem?_getD,hi]
 unfold cw upd
 rw [e,List.map_append,List.count_append,List.map_cons,List.map_nil,List.count_cons,List.count_nil]
 by_cases h:s=(rs.getD i (0,0,0)).1.toNat
 ·rw [if_pos h,h];simp
 ·rw [if_neg h]
  have:¬ ((rs.getD i (0,0,0)).1.toNat == s)=true:=by simp;exact fun e=>h e.symm
  rw [if_neg this]
  simp
theorem w5r (rs:List Wd) (s:Nat):cw rs s≤rs.length:=by
 unfold cw
 refine Nat.le_trans List.count_le_length ?_
 rw [List.length_map]
 exact Nat.le_refl _
theorem w1a (rs:List Wd) (a:Option Addr) (cap:Nat) (w:World) (hr:z0f w a rs) (hs:∀r∈rs,0≤r.1∧r.1<19) (hlen:rs.length≤1000) (htot:L5.tot (osOf (cw rs) 19) 19≤1099511627776) :
  Calls Tryz.prog 117 #[.slice a rs.length cap] w fun e w'=>∃l g,e=.returned (.slice (some ⟨g,0,none⟩) 19 19)∧L5.IsOrder (osOf (cw rs) 19) l∧w.heap.size≤g∧L5.z0c w' .i64 3 g 19 (L5.ans (osOf (cw rs) 19) l 7)∧Below w.heap.size w w':=by
 have hm:∀w,(Instr.makeSlice 45 (.int .i64 19) (.int .i64 19)).run Tryz.prog w=.ok (.slice (some ⟨w.heap.size,0,none⟩) 19 19) (w.alloc (.cells (z0d .i64 19 (fun _=>0)) 3)):=fun w=>z2c w 19 (by decide)
 have HW:Hid (∀W,Below w.heap.size w W→z0f W a rs):=qz (fun W hW=>hr.keep fun ad ha _ hl=>hW.block _ hl)
 have HS:Hid (∀i,i<rs.length→0≤(rs.getD i (0,0,0)).1∧(rs.getD i (0,0,0)).1<19):=qz (fun i hi=>hs _ (by simp [List.getD_eq_getElem?_getD,hi]))
 have HCN:Hid (∀i,i<rs.length→cw (rs.take (i+1))=upd (cw (rs.take i)) (rs.getD i (0,0,0)).1.toNat (cw (rs.take i) (rs.getD i (0,0,0)).1.toNat+1)):=qz (w4a rs)
 have HCL:Hid (∀i s,cw (rs.take i) s≤1000):=qz (fun i s=>by have:=w5r (rs.take i) s;rw [List.length_take] at this;omega)
 have HBE:Hid (∀W,z0c W .i64 3 w.heap.size 19 (cw rs)→Calls Tryz.prog 114 #[.slice (some ⟨w.heap.size,0,none⟩) 19 19,.int .i64 7] W fun e w'=>∃l g,e=.returned (.slice (some ⟨g,0,none⟩) 19 19)∧L5.IsOrder (osOf (cw rs) 19) l∧W.heap.size≤g∧L5.z0c w' .i64 3 g 19 (L5.ans (osOf (cw rs) 19) l 7)∧Below W.heap.size W w'):=qz (fun W hW=>x4y (cw rs) 7 19 _ W ⟨_,19,by rw [z0q],fun _=>⟨w.heap.size,0,rfl,fun j hj=>by
  rw [z0q] at hj
  rw [z7o _ _ _ hj,Nat.zero_add]
  exact hW.cell j hj⟩⟩ (by decide) (by decide) (by decide) (by decide) htot)
 have HFIN:Hid (rs.take rs.length=rs):=qz (List.take_length ..)
 obtain ⟨n,hn⟩:∃n,n=rs.length:=⟨_,rfl⟩
 rw [←hn] at HS HCN HFIN hlen ⊢
 have HR:Hid (∀W i,Below w.heap.size w W→i<n→∃b off,a=some ⟨b,off,none⟩∧W.cell? ⟨b,off+i*3,none⟩=some (.int .i64 (rs.getD i (0,0,0)).1)∧W.cell? ⟨b,off+i*3+1,none⟩=some (.int .i64 ((rs.getD i (0,0,0)).2.1:Int))∧W.cell? ⟨b,off+i*3+2,none⟩=some (.int .i64 ((rs.getD i (0,0,0)).2.2:Int))):=qz (fun W i hW hi=>uh HW W hW i (by rw [←hn];exact hi))
 have HI0:Hid (z0c (w.alloc (.cells (z0d .i64 19 (fun _=>0)) 3)) .i64 3 w.heap.size 19 (cw (rs.take 0))):=qz (by
  show _=_
  rw [heap_alloc_new]
  rfl)
 have HB0:Hid (Below w.heap.size w (w.alloc (.cells (z0d .i64 19 (fun _=>0)) 3))):=qz ((Below.refl _ _).alloc (Nat.le_refl _) _)
 clear hr hs hn HW htot
 obtain ⟨gl,hgl⟩:∃gl,gl=w.heap.size:=⟨_,rfl⟩
 go_enter Tryz.func117,Tryz.ntmps117
 go_wp2_with fail
 rw [←hgl] at HI0 HBE ⊢
 have HGL:=qz hgl
 clear hgl
 go_loopg [9] n (fun gk iv' ws=>∃i:Nat,gk=n-i∧i≤n∧iv'=.int .i64 (i:Int)∧Hid (z0c ws .i64 3 gl 19 (cw (rs.take i)))∧Hid (Below w.heap.size w ws))
 case atStart=>exact ⟨0,by omega,by omega,rfl,HI0,HB0⟩
 case round =>
  clear HI0 HB0
  obtain ⟨i,rfl,hin,rfl,hI,hB⟩:=hrel
  by_cases hlt:i<n
  ·have e1:(i:Int)<(n:Int):=by omega
   obtain ⟨b,off,rfl,q1,q2,q3⟩:=uh HR wr i (uh hB) hlt
   have hs:=uh HS i hlt
   have HC:=qz (uh HCN i hlt)
   have hcl:=uh HCL i (rs.getD i (0,0,0)).1.toNat
   generalize rs.getD i (0,0,0)=r at q1 q2 q3 hs HC hcl
   obtain ⟨r1,r2,r3⟩:=r
   simp only at q1 q2 q3 hs HC hcl
   obtain ⟨s,rfl⟩:=Int.eq_ofNat_of_zero_le hs.1
   simp only [Int.toNat_natCast] at HC hcl
   obtain ⟨W1,hW1⟩:∃W1,W1=wr.alloc (.cells #[.int .i64 (s:Int),.int .i64 (r2:Int),.int .i64 (r3:Int)] 141):=⟨_,rfl⟩
   have hI1:z0c W1 .i64 3 gl 19 (cw (rs.take i)):=by rw [hW1];exact (uh hI).alloc _
   have x1:W1.heap[wr.heap.size]?=some (.cells #[.int .i64 (s:Int),.int .i64 (r2:Int),.int .i64 (r3:Int)] 141 (0,0)):=by rw [hW1];exact heap_alloc_new _ _
   have d0:W1.cell? ⟨wr.heap.size,0,none⟩=some (.int .i64 (s:Int)):=by simp only [World.cell?,x1];rfl
   have d1:=hI1.cell s (by omega)
   have d2:=hI1.free s
   have hs19:(s:Int)<19:=hs.2
   generalize hcc:cw (rs.take i) s=c at d1 hcl HC
   have HCE:Hid ((c:Int)+1=((c+1:Nat):Int)):=qz (by omega)
   have HI2:Hid (z0c (W1.setCell ⟨gl,s,none⟩ (.int .i64 ((c:Int)+1))) .i64 3 gl 19 (cw (rs.take (i+1)))):=qz (by
    rw [uh HC,uh HCE]
    exact hI1.set s _)
   have HB2:Hid (Below w.heap.size w (W1.setCell ⟨gl,s,none⟩ (.int .i64 ((c:Int)+1)))):=qz (by
    have:Below w.heap.size w W1:=by rw [hW1];exact (uh hB).alloc (uh hB).size _
    exact this.setCell (by show w.heap.size≤gl;rw [uh HGL];exact Nat.le_refl _) _)
   rw [hW1] at d0 d1 d2
   clear hI hB hI1 x1 hcc HC
   go_wp2_with fail
   rw [←hW1]
   go_roundg (n-(i+1))
   case measure=>omega
   case rel=>exact ⟨i+1,rfl,by omega,by go_num,HI2,HB2⟩
  ·obtain rfl:i=n:=by omega
   have HE:Hid (Calls Tryz.prog 114 #[.slice (some ⟨gl,0,none⟩) 19 19,.int .i64 7] wr fun e w'=>∃l g,e=.returned (.slice (some ⟨g,0,none⟩) 19 19)∧L5.IsOrder (osOf (cw rs) 19) l∧wr.heap.size≤g∧L5.z0c w' .i64 3 g 19 (L5.ans (osOf (cw rs) 19) l 7)∧Below wr.heap.size wr w'):=qz (uh HBE wr (by have:=uh hI;rw [uh HFIN] at this;exact this))
   clear hI
   go_wp2_with fail
   refine (uh HE).mono ?_
   rintro e W2 ⟨l,g,rfl,k1,k2,k3,k4⟩
   have HK:=qz (And.intro k1 (And.intro (Nat.le_trans (uh hB).size k2) (And.intro k3 ((uh hB).trans (k4.mono (uh hB).size)))))
   clear k1 k2 k3 k4 HE
   go_wp2_with fail
   go_ret
   obtain ⟨k1,k2,k3,k4⟩:=uh HK
   exact ⟨l,g,rfl,k1,k2,k3,k4⟩
end W4
namespace W4
open Go.RowKit Mth Infl Defl
attribute [local go_sem ↓] wp_at_zero wp_at_succ
def fcs:List (Nat × Nat)→List Value
 | []=>[]
 | r :: rs=>.int .i64 (r.1:Int) :: .int .i64 (r.2:Int) :: fcs rs
theorem y3m:∀a b:List (Nat × Nat),fcs (a++b)=fcs a++fcs b
 | [],b=>rfl
 | r :: rs,b=>by simp [fcs,y3m rs b]
theorem w4i:(Tryz.prog.info? 147).map (fun i=>(i.zero,i.size,i.bytes))=some (some (.agg #[.int .i64 0,.int .i64 0]),2,16):=by kernel_rfl
theorem w5j {ops:Array Oper} {rest:List Oper} {o:Oper} {a:Act} {Q:Exit→Act→World→Prop} {w W:World} (s x:Operand) (va:Value) (us:List Nat) (b z:Nat) (hgd:o.guard=none) (ho:o.op=.call { callee:=.builtin .append,args:=#[s,x],argTypes:=#[45,45] }) (hs:a.eval s=va) (hx:a.eval x=.slice (some ⟨b,0,none⟩) 1 1)
  (hown:W.ownsRow w.heap.size 3 1 va us.length (us.map fun z:Nat=>iv (z:Int))) (hbel:Below w.heap.size w W) (hc:W.cell? ⟨b,0,none⟩=some (.int .i64 (z:Int))) (hu:us.length≤1000)
  (h:∀v' w',w'.ownsRow w.heap.size 3 1 v' (us++[z]).length ((us++[z]).map fun z:Nat=>iv (z:Int))→Below w.heap.size w w'→wpList Tryz.prog ops Q rest (a.put o.dst v') w'):wpList Tryz.prog ops Q (o :: rest) a W:=by
 obtain ⟨i0,hi,hz0,hz1,hz2⟩:=info_parts info3'
 refine wpList_append_own_at W hgd s x 45 ho w.heap.size 3 i0 (.int .i64 0) 1 8 Tryz.underlying45 hi hz0 hz1 hz2 rfl (by decide) va us.length (us.map fun z:Nat=>iv (z:Int)) hs hown ⟨b,0,none⟩ 1 1 [iv (z:Int)] hx rfl (fun j u hj=>?_) (by intro u hu;simp at hu;subst hu;rfl) (by unfold maxLen;omega) (by omega) hbel.size ?_
 ·match j,hj with
  | 0,hj=>simp at hj;subst hj;simpa [Addr.add,iv] using hc
 ·intro v' w' h2 h3 _ h5
  refine h v' w' ?_ (hbel.grown h3 hbel.size (fun k e=>(hown.lt k e).1))
  rw [List.length_append,List.map_append]
  exact h2
theorem x9u {ops:Array Oper} {rest:List Oper} {o:Oper} {a:Act} {Q:Exit→Act→World→Prop} {w W:World} (s x:Operand) (va:Value) (us:List (Nat × Nat)) (b y z:Nat) (hgd:o.guard=none) (ho:o.op=.call { callee:=.builtin .append,args:=#[s,x],argTypes:=#[110,110] }) (hs:a.eval s=va) (hx:a.eval x=.slice (some ⟨b,0,none⟩) 1 1)
  (hown:W.ownsRow w.heap.size 147 2 va us.length (fcs us)) (hbel:Below w.heap.size w W) (hc:W.heap[b]?=some (.cells #[.int .i64 (y:Int),.int .i64 (z:Int)] 147 (0,0))) (hu:us.length≤1000)
  (h:∀v' w',w'.ownsRow w.heap.size 147 2 v' (us++[(y,z)]).length (fcs (us++[(y,z)]))→Below w.heap.size w w'→wpList Tryz.prog ops Q rest (a.put o.dst v') w'):wpList Tryz.prog ops Q (o :: rest) a W:=by
 obtain ⟨i0,hi,hz0,hz1,hz2⟩:=info_parts w4i
 refine wpList_append_own_at W hgd s x 110 ho w.heap.size 147 i0 (.agg #[.int .i64 0,.int .i64 0]) 2 16 Tryz.underlying110 hi hz0 hz1 hz2 rfl (by decide) va us.length (fcs us) hs hown ⟨b,0,none⟩ 1 1 (fcs [(y,z)]) hx rfl (fun j u hj=>?_) (by intro u hu;simp [fcs] at hu;rcases hu with rfl|rfl<;>rfl) (by unfold maxLen;omega) (by omega) hbel.size ?_
 ·match j,hj with
  | 0,hj=>simp [fcs] at hj;subst hj;simp [Addr.add,World.cell?,hc]
  | 1,hj=>simp [fcs] at hj;subst hj;simp [Addr.add,World.cell?,hc]
 ·intro v' w' h2 h3 _ h5
  refine h v' w' ?_ (hbel.grown h3 hbel.size (fun k e=>(hown.lt k e).1))
  rw [List.length_append,y3m]
  exact h2
def ordered (f:Nat→Nat) (i:Nat):List Nat:=(order.take i).map f
theorem y7s (f:Nat→Nat) (i:Nat) (hi:i<19):ordered f (i+1)=ordered f i++[f (order.getD i 0)]:=by
 unfold ordered
 have hl:i<order.length:=hi
 rw [List.take_succ_eq_append_getElem hl,List.map_append]
 simp [List.getD_eq_getElem?_getD,hl]
def fieldsOf (nx ny:Nat) (vs:List Nat):List (Nat × Nat):=[(nx-257,5),(ny-1,5),(vs.length-4,4)]++vs.map fun v=>(v,3)
theorem y5g (nx ny gz:Nat) (f:Nat→Nat) (w:World) (hz:z0c w .i64 3 gz 19 f) (hx1:257≤nx) (hx2:nx≤286) (hy1:1≤ny) (hy2:ny≤30) :
  Calls Tryz.prog 118 #[.int .i64 (nx:Int),.int .i64 (ny:Int),.slice (some ⟨gz,0,none⟩) 19 19] w fun e w'=>∃v,e=.returned v∧w'.ownsRow w.heap.size 147 2 v (fieldsOf nx ny (trim 4 19 (order.map f))).length (fcs (fieldsOf nx ny (trim 4 19 (order.map f))))∧Below w.heap.size w w':=by
 have HZ:Hid (∀W s,Below w.heap.size w W→s<19→W.cell? ⟨gz,s,none⟩=some (.int .i64 (f s:Int))):=qz (fun W s hW hs=>(hz.stays hW hz.lt).cell s hs)
 obtain ⟨W1,hW1⟩:∃W1,W1=w.alloc (.cells (order.map (fun z:Nat=>iv (z:Int))).toArray 3):=⟨_,rfl⟩
 have hb1:Below w.heap.size w W1:=by rw [hW1];exact (Below.refl _ _).alloc (Nat.le_refl _) _
 have x1:W1.heap[w.heap.size]?=some (.cells (order.map (fun z:Nat=>iv (z:Int))).toArray 3 (0,0)):=by rw [hW1];exact heap_alloc_new _ _
 have HO:Hid (∀W j,Below W1.heap.size W1 W→j<19→W.cell? ⟨w.heap.size,j,none⟩=some (.int .i64 ((order.getD j 0:Nat):Int))):=qz (fun W j hW hj=>by
  have:=z8h w j hj
  rw [←hW1] at this
  exact z0a hW this)
 have HOS:Hid (∀j,j<19→order.getD j 0<19):=qz (by decide)
 have HORD:Hid (Calls Tryz.prog 144 #[] w fun e w'=>e=.returned (.slice (some ⟨w.heap.size,0,none⟩) 19 19)∧w'=W1):=qz (by rw [hW1];exact y5r w)
 have HB1:=qz hb1
 clear hz hW1 x1 hb1
 go_enter Tryz.func118,Tryz.ntmps118
 go_wp2_with fail
 refine (uh HORD).mono ?_
 rintro e W ⟨rfl,rfl⟩
 clear HORD
 go_wp2_with fail
 have HNX:Hid (∀i,i<19→ordered f (i+1)=ordered f i++[f (order.getD i 0)]):=qz (y7s f)
 have HLN:Hid (∀i,i≤19→(ordered f i).length=i):=qz (fun i hi=>by unfold ordered;rw [List.length_map,List.length_take];have:order.length=19:=rfl;omega)
 have HO0:Hid (W.ownsRow W.heap.size 3 1 (.slice none 0 0) (ordered f 0).length ((ordered f 0).map fun z:Nat=>iv (z:Int))):=qz ⟨rfl,.inl ⟨rfl,rfl⟩⟩
 have HALL:Hid (ordered f 19=order.map f):=qz (by unfold ordered;rw [show order.take 19=order from rfl])
 have HTR:Hid (∀ (g cap:Nat) (X:World),(∀j,j<19→X.cell? ⟨g,0+j,none⟩=some (.int .i64 ((order.map f).getD j 0:Int)))→19≤cap→cap≤9223372036854775807→Calls Tryz.prog 113 #[.slice (some ⟨g,0,none⟩) 19 cap,.int .i64 4] X fun e w'=>e=.returned (.slice (some ⟨g,0,none⟩) (trim 4 19 (order.map f)).length cap)∧w'=X):=qz (fun g cap X hc h1 h2=>x0j (order.map f) g 0 cap 4 X hc h1 h2 (by decide) (by simp [order]))
 have HTI:Hid (4≤(trim 4 19 (order.map f)).length∧(trim 4 19 (order.map f)).length≤19∧∀i,(trim 4 19 (order.map f)).getD i 0=(order.map f).getD i 0):=qz (z5p 4 19 (order.map f) (by simp [order]))
 generalize hvs:trim 4 19 (order.map f)=vs at HTR HTI
 have HVS:=qz hvs
 clear hvs
 have HB0:Hid (Below W.heap.size W W):=qz (Below.refl _ _)
 go_loopg [7,15] 19 (fun gk rv iv' ws=>∃i:Nat,gk=19-i∧i≤19∧iv'=.int .i64 (i:Int)∧Hid (ws.ownsRow W.heap.size 3 1 rv (ordered f i).length ((ordered f i).map fun z:Nat=>iv (z:Int)))∧Hid (Below W.heap.size W ws))
 case atStart=>exact ⟨0,rfl,by omega,rfl,HO0,HB0⟩
 case round =>
  clear HO0 HB0
  obtain ⟨i,rfl,hin,rfl,hO,hB⟩:=hrel
  by_cases hlt:i<19
  ·have e1:(i:Int)<19:=by omega
   have q1:=uh HO wr i (uh hB) hlt
   have hs:=uh HOS i hlt
   have q2:=uh HZ wr (order.getD i 0) ((uh HB1).trans ((uh hB).mono (uh HB1).size)) hs
   have hN:=uh HNX i hlt
   have hl:=uh HLN i (by omega)
   have HN':=qz hN
   generalize order.getD i 0=s at q1 q2 hs HN'
   clear hN
   have hs':(s:Int)<19:=by omega
   have x3:(wr.alloc (.cells #[.int .i64 (f s:Int)] 3)).cell? ⟨wr.heap.size,0,none⟩=some (.int .i64 (f s:Int)):=by simp only [World.cell?,heap_alloc_new];rfl
   have X3:=qz x3
   clear x3
   go_wp2_with (at_builtin;refine w5j (w:=W) _ _ _ (ordered f i) wr.heap.size (f s) rfl rfl rfl rfl ((uh hO).alloc _) ((uh hB).alloc (uh hB).size _) (uh X3) (by omega) (fun v' w' p1 p2=>?_);have HO':=qz p1;have HB':=qz p2;clear p1 p2)
   go_roundg (19-(i+1))
   case measure=>omega
   case rel=>exact ⟨i+1,rfl,by omega,by go_num,qz (by rw [uh HN'];exact uh HO'),HB'⟩
  ·obtain rfl:i=19:=by omega
   have hown:=uh hO
   rw [uh HALL] at hown
   rcases hown.2 with ⟨_,e⟩|⟨g,cap,cur,rfl,g1,g2,g3,g4,g5,g6⟩
   ·simp [order] at e
   ·have hlo:(order.map f).length=19:=by simp [order]
    have hcs:∀j,j<19→wr.cell? ⟨g,0+j,none⟩=some (.int .i64 ((order.map f).getD j 0:Int)):=fun j hj=>by
     have:=hown.cells (g:=g) rfl j (iv ((order.map f).getD j 0:Nat)) (by
      rw [List.getElem?_map,List.getElem?_eq_getElem (by omega)]
      simp [List.getD_eq_getElem?_getD,hlo,hj])
     have ea:(⟨g,0,none⟩:Addr).add j=⟨g,0+j,none⟩:=by by_cases hq:j=0<;>simp [Addr.add,hq]
     rw [ea] at this
     exact this
    have hcap:19≤cap:=by have:=g3;omega
    have hcap2:cap≤9223372036854775807:=by unfold maxLen at g4;omega
    have HT:=qz (uh HTR g cap wr hcs hcap hcap2)
    have hgl:=z0b g2
    obtain ⟨t1,t2,t3⟩:=uh HTI
    have hle:(ordered f 19).length=19:=uh HLN 19 (by omega)
    have HCV:Hid (∀X j,Below wr.heap.size wr X→j<vs.length→X.cell? ⟨g,j,none⟩=some (.int .i64 (vs.getD j 0:Int))):=qz (fun X j hX hj=>by
     have:=z0a hX (hcs j (by omega))
     rw [Nat.zero_add,←t3 j] at this
     exact this)
    rw [hlo]
    have HBW:Hid (Below w.heap.size w wr):=qz ((uh HB1).trans ((uh hB).mono (uh HB1).size))
    obtain ⟨m,hm⟩:∃m,m=vs.length:=⟨_,rfl⟩
    have HM:=qz hm
    rw [←hm] at HT HCV t1 t2
    clear hown hO hB hcs g1 g2 g3 g4 g5 g6 hlo HTR HTI t3 HALL HNX HLN hm hle
    go_wp2_with fail
    refine (uh HT).mono ?_
    rintro e X ⟨rfl,rfl⟩
    clear HT
    have ex:(nx:Int)-257=((nx-257:Nat):Int):=by omega
    have ey:(ny:Int)-1=((ny-1:Nat):Int):=by omega
    have em:(m:Int)-4=((m-4:Nat):Int):=by omega
    go_wp2_with fail
    clear ex ey em
    have HF0:Hid ((X.alloc (.cells #[.int .i64 ((nx-257:Nat):Int),.int .i64 5,.int .i64 ((ny-1:Nat):Int),.int .i64 5,.int .i64 ((m-4:Nat):Int),.int .i64 4] 147)).ownsRow X.heap.size 147 2 (.slice (some ⟨X.heap.size,0,none⟩) 3 3) ([(nx-257,5),(ny-1,5),(m-4,4)]++(vs.take 0).map fun v=>(v,3)).length (fcs ([(nx-257,5),(ny-1,5),(m-4,4)]++(vs.take 0).map fun v=>(v,3)))):=qz ⟨rfl,.inr ⟨X.heap.size,3,_,rfl,Nat.le_refl _,heap_alloc_new _ _,Nat.le_refl _,by unfold maxLen;decide,rfl,rfl⟩⟩
    have HB0:Hid (Below X.heap.size X (X.alloc (.cells #[.int .i64 ((nx-257:Nat):Int),.int .i64 5,.int .i64 ((ny-1:Nat):Int),.int .i64 5,.int .i64 ((m-4:Nat):Int),.int .i64 4] 147))):=qz ((Below.refl _ _).alloc (Nat.le_refl _) _)
    have HVN:Hid (∀i,i<m→[(nx-257,5),(ny-1,5),(m-4,4)]++(vs.take (i+1)).map (fun v=>(v,3))=([(nx-257,5),(ny-1,5),(m-4,4)]++(vs.take i).map fun v=>(v,3))++[(vs.getD i 0,3)]):=qz (fun i hi=>by
     have hi':i<vs.length:=by rw [←uh HM];exact hi
     rw [List.take_succ_eq_append_getElem hi',List.map_append,List.append_assoc]
     simp [List.getD_eq_getElem?_getD,hi'])
    have HVL:Hid (∀i,([(nx-257,5),(ny-1,5),(m-4,4)]++(vs.take i).map fun v=>(v,3)).length≤1000):=qz (fun i=>by
     have:=uh HM
     simp
     omega)
    have HEND:Hid ([(nx-257,5),(ny-1,5),(m-4,4)]++(vs.take m).map (fun v=>(v,3))=fieldsOf nx ny vs):=qz (by
     unfold fieldsOf
     rw [uh HM,List.take_length])
    generalize [(nx-257,5),(ny-1,5),(m-4,4)]=base at HF0 HVN HVL HEND
    go_loopg [10,42] m (fun gk rv iv' ws=>∃i:Nat,gk=m-i∧i≤m∧iv'=.int .i64 (i:Int)∧Hid (ws.ownsRow X.heap.size 147 2 rv (base++(vs.take i).map fun v=>(v,3)).length (fcs (base++(vs.take i).map fun v=>(v,3))))∧Hid (Below X.heap.size X ws))
    case atStart=>exact ⟨0,by omega,by omega,rfl,HF0,HB0⟩
    case round =>
     clear HF0 HB0
     obtain ⟨i,rfl,hin,rfl,hO,hB⟩:=hrel
     by_cases hlt:i<m
     ·have e1:(i:Int)<(m:Int):=by omega
      have q1:=uh HCV wr i (uh hB) hlt
      have HN':=qz (uh HVN i hlt)
      have hl:=uh HVL i
      generalize vs.getD i 0=z at q1 HN'
      have X3:Hid ((wr.alloc (.cells #[.int .i64 (z:Int),.int .i64 3] 147)).heap[wr.heap.size]?=some (.cells #[.int .i64 (z:Int),.int .i64 ((3:Nat):Int)] 147 (0,0))):=qz (heap_alloc_new _ _)
      go_wp2_with (at_builtin;refine x9u (w:=X) _ _ _ (base++(vs.take i).map fun v=>(v,3)) wr.heap.size z 3 rfl rfl rfl rfl ((uh hO).alloc _) ((uh hB).alloc (uh hB).size _) (uh X3) hl (fun v' w' p1 p2=>?_);have HO':=qz p1;have HB':=qz p2;clear p1 p2)
      go_roundg (m-(i+1))
      case measure=>omega
      case rel=>exact ⟨i+1,rfl,by omega,by go_num,qz (by rw [uh HN'];exact uh HO'),HB'⟩
     ·obtain rfl:i=m:=by omega
      have HR:Hid (wr.ownsRow w.heap.size 147 2 u10 (fieldsOf nx ny vs).length (fcs (fieldsOf nx ny vs))∧Below w.heap.size w wr):=qz (by
       have h1:=uh hO
       rw [uh HEND] at h1
       refine ⟨⟨h1.1,?_⟩,(uh HBW).trans ((uh hB).mono (uh HBW).size)⟩
       rcases h1.2 with h|⟨g,cap,cur,k0,k1,k2⟩
       ·exact .inl h
       ·exact .inr ⟨g,cap,cur,k0,Nat.le_trans (uh HBW).size k1,k2⟩)
      clear hO hB
      go_wp2_with fail
      go_ret
      rw [uh HVS]
      exact ⟨u10,rfl,(uh HR).1,(uh HR).2⟩
end W4
namespace W4
open Go.RowKit Mth Infl Defl
attribute [local go_sem ↓] wp_at_zero wp_at_succ
def z7d (w:World) (a:Option Addr) (fs:List (Nat × Nat)):Prop:=∀i,i<fs.length→∃b off,a=some ⟨b,off,none⟩∧w.cell? ⟨b,off+i*2,none⟩=some (.int .i64 ((fs.getD i (0,0)).1:Int))∧w.cell? ⟨b,off+i*2+1,none⟩=some (.int .i64 ((fs.getD i (0,0)).2:Int))
theorem z7d.keep {w w':World} {a:Option Addr} {fs:List (Nat × Nat)} (h:z7d w a fs) (hk:∀ad,a=some ad→0<fs.length→ad.block<w.heap.size→w'.heap[ad.block]?=w.heap[ad.block]?):z7d w' a fs:=by
 intro i hi
 obtain ⟨b,off,ha,q1,q2⟩:=h i hi
 have hbl:b<w.heap.size:=z1e q1
 have hh:=hk _ ha (by omega) hbl
 refine ⟨b,off,ha,?_,?_⟩
 ·simp only [World.cell?] at q1 ⊢;rw [hh];exact q1
 ·simp only [World.cell?] at q2 ⊢;rw [hh];exact q2
def z1z (fs:List (Nat × Nat)):List Bool:=(fs.map fun r=>nb r.1 r.2).flatten
def wdB (z:List Nat) (r:Wd):List Bool:=wb z r.1.toNat++nb r.2.1 r.2.2
def z2o (z:List Nat) (rs:List Wd):List Bool:=(rs.map (wdB z)).flatten
structure HeadAt (w:World) (ob:Nat) (fs:List (Nat × Nat)) (rs:List Wd) (z:List Nat) (fa ra:Option Addr) (fc rc ci xl xh:Nat):Prop where
 f:w.cell? ⟨ob,2,none⟩=some (.slice fa fs.length fc)
 r:w.cell? ⟨ob,3,none⟩=some (.slice ra rs.length rc)
 c:w.cell? ⟨ob,4,none⟩=some (.pointer (some ⟨ci,0,none⟩))
 fat:z7d w fa fs
 rat:z0f w ra rs
 code:Code z w ci xl xh
 hi:xh≤w.heap.size
theorem HeadAt.keep {w w':World} {ob:Nat} {fs:List (Nat × Nat)} {rs:List Wd} {z:List Nat} {fa ra:Option Addr} {fc rc ci xl xh:Nat} (h:HeadAt w ob fs rs z fa ra fc rc ci xl xh) (ho:w'.heap[ob]?=w.heap[ob]?) (hf:∀ad,fa=some ad→w'.heap[ad.block]?=w.heap[ad.block]?) (hr:∀ad,ra=some ad→w'.heap[ad.block]?=w.heap[ad.block]?) (hc:∀k,xl≤k→k<xh→w'.heap[k]?=w.heap[k]?) (hs:w.heap.size≤w'.heap.size):HeadAt w' ob fs rs z fa ra fc rc ci xl xh:=by
 refine ⟨?_,?_,?_,h.fat.keep fun ad ha _ _=>hf ad ha,h.rat.keep fun ad ha _ _=>hr ad ha,h.code.keep hc,Nat.le_trans h.hi hs⟩
 ·have:=h.f;simp only [World.cell?] at this ⊢;rw [ho];exact this
 ·have:=h.r;simp only [World.cell?] at this ⊢;rw [ho];exact this
 ·have:=h.c;simp only [World.cell?] at this ⊢;rw [ho];exact this
structure HeadOk (fs:List (Nat × Nat)) (rs:List Wd) (z:List Nat):Prop where
 okf:∀r∈fs,r.1<2^r.2∧r.2≤5
 okr:∀r∈rs,0≤r.1∧EvOk z r.1.toNat r.2.1 r.2.2
 nf:fs.length≤1000
 nr:rs.length≤1000
theorem z9q (fs:List (Nat × Nat)) (i:Nat) (hi:i<fs.length):z1z (fs.take (i+1))=z1z (fs.take i)++nb (fs.getD i (0,0)).1 (fs.getD i (0,0)).2:=by
 unfold z1z
 rw [List.take_succ_eq_append_getElem hi,List.map_append,List.flatten_append]
 simp [List.getD_eq_getElem?_getD,hi]
theorem y0e (z:List Nat) (rs:List Wd) (i:Nat) (hi:i<rs.length):z2o z (rs.take (i+1))=z2o z (rs.take i)++wdB z (rs.getD i (0,0,0)):=by
 unfold z2o
 rw [List.take_succ_eq_append_getElem hi,List.map_append,List.flatten_append]
 simp [List.getD_eq_getElem?_getD,hi]
theorem HeadOk.flen {fs:List (Nat × Nat)} {rs:List Wd} {z:List Nat} (h:HeadOk fs rs z):∀i,i≤fs.length→(z1z (fs.take i)).length≤5*i
 | 0,_=>by simp [z1z]
 | i+1,hi=>by
  rw [z9q fs i (by omega),List.length_append,z0g]
  have:=h.flen i (by omega)
  have:=(h.okf (fs.getD i (0,0)) (by simp [List.getD_eq_getElem?_getD,show i<fs.length by omega])).2
  omega
theorem HeadOk.wlen {fs:List (Nat × Nat)} {rs:List Wd} {z:List Nat} (h:HeadOk fs rs z):∀i,i≤rs.length→(z2o z (rs.take i)).length≤28*i
 | 0,_=>by simp [z2o]
 | i+1,hi=>by
  rw [y0e z rs i (by omega),List.length_append]
  have:=h.wlen i (by omega)
  have q:=(h.okr (rs.getD i (0,0,0)) (by simp [List.getD_eq_getElem?_getD,show i<rs.length by omega])).2
  have q1:=q.most
  have q2:=q.few
  unfold wdB
  rw [List.length_append,z1i,z0g]
  omega
theorem x3m (ob pb:Nat) (fs:List (Nat × Nat)) (rs:List Wd) (z:List Nat) (fa ra:Option Addr) (fc rc ci xl xh:Nat) (w0 w:World) (v0:Value) (L:List Bool) (h:WrAt w0 v0 pb L w) (hh:HeadAt w0 ob fs rs z fa ra fc rc ci xl xh) (hok:HeadOk fs rs z) (hso:Safe w0 v0 pb ob) (hsf:∀ad,fa=some ad→Safe w0 v0 pb ad.block) (hsr:∀ad,ra=some ad→Safe w0 v0 pb ad.block) (hsc:∀k,xl≤k→k<xh→Safe w0 v0 pb k) (hb:L.length≤800000000000000) :
  Calls Tryz.prog 59 #[.pointer (some ⟨ob,0,none⟩),.pointer (some ⟨pb,0,none⟩)] w fun e w'=>e=.returned (.tuple #[])∧WrAt w0 v0 pb (L++(z1z fs++z2o z rs)) w':=by
 have HK:Hid (∀L' y,WrAt w0 v0 pb L' y→HeadAt y ob fs rs z fa ra fc rc ci xl xh):=qz (fun L' y hy=>hh.keep (hy.block hso) (fun ad e=>hy.block (hsf ad e)) (fun ad e=>hy.block (hsr ad e)) (fun k a b=>hy.block (hsc k a b)) hy.size)
 have HFN:Hid (∀i,i<fs.length→z1z (fs.take (i+1))=z1z (fs.take i)++nb (fs.getD i (0,0)).1 (fs.getD i (0,0)).2):=qz (z9q fs)
 have HWN:Hid (∀i,i<rs.length→z2o z (rs.take (i+1))=z2o z (rs.take i)++wdB z (rs.getD i (0,0,0))):=qz (y0e z rs)
 have HFL:Hid (∀i,i≤fs.length→(z1z (fs.take i)).length≤5000):=qz (fun i hi=>by have:=hok.flen i hi;have:=hok.nf;omega)
 have HWL:Hid (∀i,i≤rs.length→(z2o z (rs.take i)).length≤28000):=qz (fun i hi=>by have:=hok.wlen i hi;have:=hok.nr;omega)
 have HFO:Hid (∀i,i<fs.length→(fs.getD i (0,0)).1<2^(fs.getD i (0,0)).2∧(fs.getD i (0,0)).2≤5):=qz (fun i hi=>hok.okf _ (by simp [List.getD_eq_getElem?_getD,hi]))
 have HRO:Hid (∀i,i<rs.length→0≤(rs.getD i (0,0,0)).1∧EvOk z (rs.getD i (0,0,0)).1.toNat (rs.getD i (0,0,0)).2.1 (rs.getD i (0,0,0)).2.2):=qz (fun i hi=>hok.okr _ (by simp [List.getD_eq_getElem?_getD,hi]))
 have HFE:Hid (fs.take fs.length=fs):=qz (List.take_length ..)
 have HWE:Hid (rs.take rs.length=rs):=qz (List.take_length ..)
 have hk0:=uh HK L w h
 have f0:=hk0.f
 have HAT0:Hid (WrAt w0 v0 pb (L++z1z (fs.take 0)) w):=qz (by simpa [z1z] using h)
 obtain ⟨nf,hnf⟩:∃n,n=fs.length:=⟨_,rfl⟩
 obtain ⟨nr,hnr⟩:∃n,n=rs.length:=⟨_,rfl⟩
 have hnf2:nf≤1000:=by rw [hnf];exact hok.nf
 have hnr2:nr≤1000:=by rw [hnr];exact hok.nr
 have HKF:Hid (∀L' y,WrAt w0 v0 pb L' y→∀i,i<nf→∃b off,fa=some ⟨b,off,none⟩∧y.cell? ⟨b,off+i*2,none⟩=some (.int .i64 ((fs.getD i (0,0)).1:Int))∧y.cell? ⟨b,off+i*2+1,none⟩=some (.int .i64 ((fs.getD i (0,0)).2:Int))):=qz (fun L' y hy i hi=>(uh HK L' y hy).fat i (by rw [←hnf];exact hi))
 have HKR:Hid (∀L' y,WrAt w0 v0 pb L' y→∀i,i<nr→∃b off,ra=some ⟨b,off,none⟩∧y.cell? ⟨b,off+i*3,none⟩=some (.int .i64 (rs.getD i (0,0,0)).1)∧y.cell? ⟨b,off+i*3+1,none⟩=some (.int .i64 ((rs.getD i (0,0,0)).2.1:Int))∧y.cell? ⟨b,off+i*3+2,none⟩=some (.int .i64 ((rs.getD i (0,0,0)).2.2:Int))):=qz (fun L' y hy i hi=>(uh HK L' y hy).rat i (by rw [←hnr];exact hi))
 have HKC:Hid (∀L' y,WrAt w0 v0 pb L' y→y.cell? ⟨ob,3,none⟩=some (.slice ra nr rc)∧y.cell? ⟨ob,4,none⟩=some (.pointer (some ⟨ci,0,none⟩))∧Code z y ci xl xh∧xh≤y.heap.size):=qz (fun L' y hy=>⟨by rw [hnr];exact (uh HK L' y hy).r,(uh HK L' y hy).c,(uh HK L' y hy).code,(uh HK L' y hy).hi⟩)
 rw [←hnf] at f0 HFN HFL HFO HFE
 rw [←hnr] at HWN HWL HRO HWE
 clear hnf hnr h hh hok hso hsf hsr hsc hk0 HK
 go_enter Tryz.func59,Tryz.ntmps59
 go_wp2_with fail
 go_loopg [13] nf (fun gk iv' ws=>∃i:Nat,gk=nf-i∧i≤nf∧iv'=.int .i64 (i:Int)∧Hid (WrAt w0 v0 pb (L++z1z (fs.take i)) ws))
 case atStart=>exact ⟨0,by omega,by omega,rfl,HAT0⟩
 case round =>
  clear HAT0 f0
  obtain ⟨i,rfl,hin,rfl,hat⟩:=hrel
  by_cases hlt:i<nf
  ·have e1:(i:Int)<(nf:Int):=by omega
   obtain ⟨b,off,rfl,q1,q2⟩:=uh HKF _ wr (uh hat) i hlt
   obtain ⟨o1,o2⟩:=uh HFO i hlt
   have HN:=qz (uh HFN i hlt)
   have hl:=uh HFL i (by omega)
   generalize fs.getD i (0,0)=r at q1 q2 o1 o2 HN
   obtain ⟨v,sz⟩:=r
   simp only at q1 q2 o1 o2 HN
   have hv:v<32:=Nat.lt_of_lt_of_le o1 (Nat.pow_le_pow_right (by omega) o2:2^sz≤2^5)
   obtain ⟨W1,hW1⟩:∃W1,W1=wr.alloc (.cells #[.int .i64 (v:Int),.int .i64 (sz:Int)] 147):=⟨_,rfl⟩
   have x1:W1.heap[wr.heap.size]?=some (.cells #[.int .i64 (v:Int),.int .i64 (sz:Int)] 147 (0,0)):=by rw [hW1];exact heap_alloc_new _ _
   have d0:W1.cell? ⟨wr.heap.size,0,none⟩=some (.int .i64 (v:Int)):=by simp only [World.cell?,x1];rfl
   have d1:W1.cell? ⟨wr.heap.size,1,none⟩=some (.int .i64 (sz:Int)):=by simp only [World.cell?,x1];rfl
   have hat1:WrAt w0 v0 pb (L++z1z (fs.take i)) W1:=(uh hat).below (by rw [hW1];exact (Below.refl _ _).alloc (Nat.le_refl _) _)
   have HP:Hid (Calls Tryz.prog 53 #[.pointer (some ⟨pb,0,none⟩),.int .u64 (v:Int),.int .i64 (sz:Int)] W1 fun e w'=>e=.returned (.int .i64 0)∧WrAt w0 v0 pb (L++z1z (fs.take (i+1))) w'):=qz (by
    have:=hat1.put v sz (by omega) o1 (by rw [List.length_append];omega)
    rw [List.append_assoc,←uh HN] at this
    exact this)
   rw [hW1] at d0 d1
   clear hat hat1 x1 HN o1
   go_wp2_with fail
   rw [←hW1]
   clear hW1 d0 d1
   refine (uh HP).mono ?_
   rintro e W2 ⟨rfl,h2⟩
   have H2:=qz h2
   clear h2 HP
   go_wp2_with fail
   go_roundg (nf-(i+1))
   case measure=>omega
   case rel=>exact ⟨i+1,rfl,by omega,by go_num,H2⟩
  ·obtain rfl:i=nf:=by omega
   have hat2:=uh hat
   rw [uh HFE] at hat2
   have hfl:=uh HFL i (Nat.le_refl _)
   rw [uh HFE] at hfl
   obtain ⟨c3,_⟩:=uh HKC _ _ hat2
   have HR0:Hid (WrAt w0 v0 pb ((L++z1z fs)++z2o z (rs.take 0)) wr):=qz (by simpa [z2o] using hat2)
   have HLL:Hid ((L++z1z fs).length≤800000000005000):=qz (by rw [List.length_append];omega)
   have HASS:Hid (L++(z1z fs++z2o z rs)=(L++z1z fs)++z2o z rs):=qz (by rw [List.append_assoc])
   generalize L++z1z fs=M at HR0 HLL HASS
   clear hat hat2 HKF HFO HFN HFL HFE hfl
   go_wp2_with fail
   go_loopg [30] nr (fun gk iv' ws=>∃i:Nat,gk=nr-i∧i≤nr∧iv'=.int .i64 (i:Int)∧Hid (WrAt w0 v0 pb (M++z2o z (rs.take i)) ws))
   case atStart=>exact ⟨0,by omega,by omega,rfl,HR0⟩
   case round =>
    clear HR0 c3
    obtain ⟨j,rfl,hjn,rfl,hat⟩:=hrel
    by_cases hlt2:j<nr
    ·have e1:(j:Int)<(nr:Int):=by omega
     obtain ⟨b,off,rfl,q1,q2,q3⟩:=uh HKR _ wr (uh hat) j hlt2
     obtain ⟨o1,o2⟩:=uh HRO j hlt2
     have HN:=qz (uh HWN j hlt2)
     have hl:=uh HWL j (by omega)
     generalize rs.getD j (0,0,0)=r at q1 q2 q3 o1 o2 HN
     obtain ⟨r1,r2,r3⟩:=r
     simp only at q1 q2 q3 o1 o2 HN
     obtain ⟨s,rfl⟩:=Int.eq_ofNat_of_zero_le o1
     simp only [wdB,Int.toNat_natCast] at o2 HN
     obtain ⟨W1,hW1⟩:∃W1,W1=wr.alloc (.cells #[.int .i64 (s:Int),.int .i64 (r2:Int),.int .i64 (r3:Int)] 141):=⟨_,rfl⟩
     have x1:W1.drew.heap[wr.heap.size]?=some (.cells #[.int .i64 (s:Int),.int .i64 (r2:Int),.int .i64 (r3:Int)] 141 (0,0)):=by rw [hW1];exact heap_alloc_new _ _
     have hbw:Below wr.heap.size wr W1.drew:=by
      have:Below wr.heap.size wr W1:=by rw [hW1];exact (Below.refl _ _).alloc (Nat.le_refl _) _
      exact ⟨this.os,this.tape,this.output,this.size,this.block⟩
     obtain ⟨v,b1,b2⟩:=(uh hat).rebase hbw
     have hat1:=(uh hat).below hbw
     obtain ⟨_,_,hcd,hxh⟩:=uh HKC _ _ hat1
     have hml:=uh HLL
     have HP:Hid (Calls Tryz.prog 84 #[.agg #[.int .i64 (s:Int),.int .i64 (r2:Int),.int .i64 (r3:Int)],.pointer (some ⟨pb,0,none⟩),.pointer (some ⟨ci,0,none⟩)] W1.drew fun e w'=>e=.returned (.tuple #[])∧WrAt w0 v0 pb (M++z2o z (rs.take (j+1))) w'∧w'.heap[wr.heap.size]?=some (.cells #[.int .i64 (s:Int),.int .i64 (r2:Int),.int .i64 (r3:Int)] 141 (0,0))):=qz (by
      refine (x0m b1 z ci xl xh s r2 r3 hcd hxh o2 (by rw [List.length_append];omega)).mono ?_
      rintro e w' ⟨rfl,p⟩
      rw [List.append_assoc,←uh HN] at p
      exact ⟨rfl,(b2 _ _ p).1,(b2 _ _ p).2 _ _ (Nat.le_refl _) x1⟩)
     have HC4:Hid (∀L' y,WrAt w0 v0 pb L' y→y.cell? ⟨ob,4,none⟩=some (.pointer (some ⟨ci,0,none⟩))):=qz (fun L' y hy=>(uh HKC L' y hy).2.1)
     have HW0:=qz (And.intro hat1 x1)
     clear hat hat1 HN o2 hcd hxh b1 b2 hbw x1 hml
     go_wp2_with fail
     rw [←hW1]
     clear hW1
     refine wp_region_noPanic ?_
     refine wp_region_held_drew (S:=fun y=>(∃L',WrAt w0 v0 pb L' y)∧y.heap[wr.heap.size]?=some (.cells #[.int .i64 (s:Int),.int .i64 (r2:Int),.int .i64 (r3:Int)] 141 (0,0))) (by kernel_rfl) ⟨⟨_,(uh HW0).1⟩,(uh HW0).2⟩ (fun hHeld=>?_)
     refine hT 0 34 rfl rfl hHeld nPp (v:=?_) (fun x hSx=>?_) ?_
     rotate_left 1
     ·have d0:x.cell? ⟨wr.heap.size,0,none⟩=some (.int .i64 (s:Int)):=(by simp only [World.cell?,hSx.2];rfl);have d1:x.cell? ⟨wr.heap.size,1,none⟩=some (.int .i64 (r2:Int)):=(by simp only [World.cell?,hSx.2];rfl);have d2:x.cell? ⟨wr.heap.size,2,none⟩=some (.int .i64 (r3:Int)):=(by simp only [World.cell?,hSx.2];rfl);go_simp<;>with_reducible rfl
     simp only [sA,sB]
     refine hT 1 35 rfl rfl hHeld nPp (v:=?_) (fun x hSx=>?_) ?_
     rotate_left 1
     ·go_simp<;>with_reducible rfl
     simp only [sA,sB]
     refine hT 2 36 rfl rfl hHeld nPp (v:=?_) (fun x hSx=>?_) ?_
     rotate_left 1
     ·go_simp<;>with_reducible rfl
     simp only [sA,sB]
     refine hT 3 37 rfl rfl hHeld nPp (v:=?_) (fun x hSx=>?_) ?_
     rotate_left 1
     ·go_simp<;>with_reducible rfl
     simp only [sA,sB]
     refine hT 4 38 rfl rfl hHeld nPp (v:=?_) (fun x hSx=>?_) ?_
     rotate_left 1
     ·go_simp<;>with_reducible rfl
     simp only [sA,sB]
     refine hT 5 39 rfl rfl hHeld nPp (v:=?_) (fun x hSx=>?_) ?_
     rotate_left 1
     ·obtain ⟨⟨L',hL'⟩,_⟩:=hSx;have d4:=uh HC4 L' x hL';go_simp<;>with_reducible rfl
     simp only [sA,sB]
     refine z0u 6 40 (by kernel_rfl) rfl rfl (by rfl) (by go_simp<;>exact ⟨rfl,rfl⟩) ?_
     refine (uh HP).mono ?_
     rintro e W2 ⟨rfl,h2,h3⟩
     have H2:=qz h2
     refine ⟨_,rfl,⟨⟨_,h2⟩,h3⟩,?_⟩
     simp only [sA,sB]
     clear h2 h3 HP hHeld HW0
     refine dN ?_
     go_wp2_with fail
     go_roundg (nr-(j+1))
     case measure=>omega
     case rel=>exact ⟨j+1,rfl,by omega,by go_num,H2⟩
    ·obtain rfl:j=nr:=by omega
     have HF:Hid (WrAt w0 v0 pb (L++(z1z fs++z2o z rs)) wr):=qz (by
      have:=uh hat
      rw [uh HWE] at this
      rw [uh HASS]
      exact this)
     clear hat
     go_wp2_with fail
     go_end0
     exact ⟨rfl,uh HF⟩
theorem y8j (ob:Nat) (fs:List (Nat × Nat)) (rs:List Wd) (z:List Nat) (fa ra:Option Addr) (fc rc ci xl xh:Nat) (w:World) (hh:HeadAt w ob fs rs z fa ra fc rc ci xl xh) (hok:HeadOk fs rs z) :
  Calls Tryz.prog 58 #[.pointer (some ⟨ob,0,none⟩)] w fun e w'=>e=.returned (.int .i64 ((z1z fs++z2o z rs).length:Int))∧Below w.heap.size w w':=by
 have HK:Hid (∀y,Below w.heap.size w y→HeadAt y ob fs rs z fa ra fc rc ci xl xh):=qz (fun y hy=>by
  have hfl:∀ad:Addr,∀n,w.cell? ad=some n→y.cell? ad=some n:=fun ad n h=>z0a hy h
  refine ⟨hfl _ _ hh.f,hfl _ _ hh.r,hfl _ _ hh.c,hh.fat.keep fun ad _ _ hl=>hy.block _ hl,hh.rat.keep fun ad _ _ hl=>hy.block _ hl,hh.code.keep fun k _ h2=>hy.block k (Nat.lt_of_lt_of_le h2 hh.hi),Nat.le_trans hh.hi hy.size⟩)
 have HFN:Hid (∀i,i<fs.length→(z1z (fs.take (i+1))).length=(z1z (fs.take i)).length+(fs.getD i (0,0)).2):=qz (fun i hi=>by rw [z9q fs i hi,List.length_append,z0g])
 have HWN:Hid (∀i,i<rs.length→(z2o z (rs.take (i+1))).length=(z2o z (rs.take i)).length+(wdB z (rs.getD i (0,0,0))).length):=qz (fun i hi=>by rw [y0e z rs i hi,List.length_append])
 have HFL:Hid (∀i,i≤fs.length→(z1z (fs.take i)).length≤5000):=qz (fun i hi=>by have:=hok.flen i hi;have:=hok.nf;omega)
 have HWL:Hid (∀i,i≤rs.length→(z2o z (rs.take i)).length≤28000):=qz (fun i hi=>by have:=hok.wlen i hi;have:=hok.nr;omega)
 have HFO:Hid (∀i,i<fs.length→(fs.getD i (0,0)).2≤5):=qz (fun i hi=>(hok.okf _ (by simp [List.getD_eq_getElem?_getD,hi])).2)
 have HRO:Hid (∀i,i<rs.length→0≤(rs.getD i (0,0,0)).1∧EvOk z (rs.getD i (0,0,0)).1.toNat (rs.getD i (0,0,0)).2.1 (rs.getD i (0,0,0)).2.2):=qz (fun i hi=>hok.okr _ (by simp [List.getD_eq_getElem?_getD,hi]))
 have HFE:Hid (fs.take fs.length=fs):=qz (List.take_length ..)
 have HWE:Hid (rs.take rs.length=rs):=qz (List.take_length ..)
 have f0:=hh.f
 obtain ⟨nf,hnf⟩:∃n,n=fs.length:=⟨_,rfl⟩
 obtain ⟨nr,hnr⟩:∃n,n=rs.length:=⟨_,rfl⟩
 have hnf2:nf≤1000:=by rw [hnf];exact hok.nf
 have hnr2:nr≤1000:=by rw [hnr];exact hok.nr
 have HKF:Hid (∀y,Below w.heap.size w y→∀i,i<nf→∃b off,fa=some ⟨b,off,none⟩∧y.cell? ⟨b,off+i*2,none⟩=some (.int .i64 ((fs.getD i (0,0)).1:Int))∧y.cell? ⟨b,off+i*2+1,none⟩=some (.int .i64 ((fs.getD i (0,0)).2:Int))):=qz (fun y hy i hi=>(uh HK y hy).fat i (by rw [←hnf];exact hi))
 have HKR:Hid (∀y,Below w.heap.size w y→∀i,i<nr→∃b off,ra=some ⟨b,off,none⟩∧y.cell? ⟨b,off+i*3,none⟩=some (.int .i64 (rs.getD i (0,0,0)).1)∧y.cell? ⟨b,off+i*3+1,none⟩=some (.int .i64 ((rs.getD i (0,0,0)).2.1:Int))∧y.cell? ⟨b,off+i*3+2,none⟩=some (.int .i64 ((rs.getD i (0,0,0)).2.2:Int))):=qz (fun y hy i hi=>(uh HK y hy).rat i (by rw [←hnr];exact hi))
 have HKC:Hid (∀y,Below w.heap.size w y→y.cell? ⟨ob,3,none⟩=some (.slice ra nr rc)∧y.cell? ⟨ob,4,none⟩=some (.pointer (some ⟨ci,0,none⟩))∧Code z y ci xl xh∧xh≤y.heap.size):=qz (fun y hy=>⟨by rw [hnr];exact (uh HK y hy).r,(uh HK y hy).c,(uh HK y hy).code,(uh HK y hy).hi⟩)
 rw [←hnf] at f0 HFN HFL HFO HFE
 rw [←hnr] at HWN HWL HRO HWE
 clear hnf hnr hh hok HK
 have HB0:Hid (Below w.heap.size w w):=qz (Below.refl _ _)
 go_enter Tryz.func58,Tryz.ntmps58
 go_wp2_with fail
 go_loopg [3,13] nf (fun gk sv iv' ws=>∃i:Nat,gk=nf-i∧i≤nf∧iv'=.int .i64 (i:Int)∧sv=.int .i64 ((z1z (fs.take i)).length:Int)∧Hid (Below w.heap.size w ws))
 case atStart=>exact ⟨0,by omega,by omega,rfl,rfl,HB0⟩
 case round =>
  clear HB0 f0
  obtain ⟨i,rfl,hin,rfl,rfl,hB⟩:=hrel
  by_cases hlt:i<nf
  ·have e1:(i:Int)<(nf:Int):=by omega
   obtain ⟨b,off,rfl,q1,q2⟩:=uh HKF wr (uh hB) i hlt
   have o2:=uh HFO i hlt
   have HN:=qz (uh HFN i hlt)
   have hl:=uh HFL i (by omega)
   generalize fs.getD i (0,0)=r at q1 q2 o2 HN
   obtain ⟨v,sz⟩:=r
   simp only at q1 q2 o2 HN
   generalize (z1z (fs.take i)).length=S at hl HN
   obtain ⟨W1,hW1⟩:∃W1,W1=wr.alloc (.cells #[.int .i64 (v:Int),.int .i64 (sz:Int)] 147):=⟨_,rfl⟩
   have x1:W1.heap[wr.heap.size]?=some (.cells #[.int .i64 (v:Int),.int .i64 (sz:Int)] 147 (0,0)):=by rw [hW1];exact heap_alloc_new _ _
   have d1:W1.cell? ⟨wr.heap.size,1,none⟩=some (.int .i64 (sz:Int)):=by simp only [World.cell?,x1];rfl
   have HB1:Hid (Below w.heap.size w W1):=qz (by rw [hW1];exact (uh hB).alloc (uh hB).size _)
   rw [hW1] at d1
   clear hB x1
   go_wp2_with fail
   rw [←hW1]
   go_roundg (nf-(i+1))
   case measure=>omega
   case rel=>exact ⟨i+1,rfl,by omega,by go_num,by rw [uh HN];go_num,HB1⟩
  ·obtain rfl:i=nf:=by omega
   obtain ⟨c3,_⟩:=uh HKC _ (uh hB)
   have hfl:=uh HFL i (Nat.le_refl _)
   rw [uh HFE] at hfl ⊢
   have HASS:Hid ((z1z fs++z2o z rs).length=(z1z fs).length+(z2o z rs).length):=qz (List.length_append ..)
   have HR0:Hid ((z1z fs).length=(z1z fs).length+(z2o z (rs.take 0)).length):=qz (by simp [z2o])
   generalize (z1z fs).length=M at hfl HASS HR0 ⊢
   clear HKF HFO HFN HFL HFE
   go_wp2_with fail
   go_loopg [3,27] nr (fun gk sv iv' ws=>∃i:Nat,gk=nr-i∧i≤nr∧iv'=.int .i64 (i:Int)∧sv=.int .i64 ((M+(z2o z (rs.take i)).length:Nat):Int)∧Hid (Below w.heap.size w ws))
   case atStart=>exact ⟨0,by omega,by omega,rfl,by rw [←uh HR0],hB⟩
   case round =>
    clear hB c3
    obtain ⟨j,rfl,hjn,rfl,rfl,hB⟩:=hrel
    by_cases hlt2:j<nr
    ·have e1:(j:Int)<(nr:Int):=by omega
     obtain ⟨b,off,rfl,q1,q2,q3⟩:=uh HKR wr (uh hB) j hlt2
     obtain ⟨o1,o2⟩:=uh HRO j hlt2
     have HN:=qz (uh HWN j hlt2)
     have hl:=uh HWL j (by omega)
     have hl1:=uh HWL (j+1) (by omega)
     rw [uh HN] at hl1
     generalize rs.getD j (0,0,0)=r at q1 q2 q3 o1 o2 HN hl1
     obtain ⟨r1,r2,r3⟩:=r
     simp only at q1 q2 q3 o1 o2 HN hl1
     obtain ⟨s,rfl⟩:=Int.eq_ofNat_of_zero_le o1
     simp only [wdB,Int.toNat_natCast] at o2 HN hl1
     obtain ⟨W1,hW1⟩:∃W1,W1=wr.alloc (.cells #[.int .i64 (s:Int),.int .i64 (r2:Int),.int .i64 (r3:Int)] 141):=⟨_,rfl⟩
     have x1:W1.heap[wr.heap.size]?=some (.cells #[.int .i64 (s:Int),.int .i64 (r2:Int),.int .i64 (r3:Int)] 141 (0,0)):=by rw [hW1];exact heap_alloc_new _ _
     have hb1:Below w.heap.size w W1:=by rw [hW1];exact (uh hB).alloc (uh hB).size _
     have HSS:Hid (∀y,Below W1.heap.size W1 y→y.cell? ⟨wr.heap.size,0,none⟩=some (.int .i64 (s:Int))∧y.cell? ⟨wr.heap.size,1,none⟩=some (.int .i64 (r2:Int))∧y.cell? ⟨wr.heap.size,2,none⟩=some (.int .i64 (r3:Int))∧y.cell? ⟨ob,4,none⟩=some (.pointer (some ⟨ci,0,none⟩))):=qz (fun y hy=>by
      have a3:=(hy.block _ (z0b x1)).trans x1
      refine ⟨?_,?_,?_,(uh HKC y (hb1.trans (hy.mono hb1.size))).2.1⟩
      ·simp only [World.cell?,a3];rfl
      ·simp only [World.cell?,a3];rfl
      ·simp only [World.cell?,a3];rfl)
     have HP:Hid (∀y,Below W1.heap.size W1 y→Calls Tryz.prog 81 #[.agg #[.int .i64 (s:Int),.int .i64 (r2:Int),.int .i64 (r3:Int)],.pointer (some ⟨ci,0,none⟩)] y fun e w'=>e=.returned (.int .i64 ((wb z s++nb r2 r3).length:Int))∧Below y.heap.size y w'):=qz (fun y hy=>by
      obtain ⟨_,_,k1,k2⟩:=uh HKC y (hb1.trans (hy.mono hb1.size))
      exact y2w z ci xl xh s r2 r3 y k1 k2 o2)
     have HB1:=qz hb1
     generalize (wb z s++nb r2 r3).length=n at HP hl1 HN
     generalize (z2o z (rs.take j)).length=S at hl hl1 HN
     clear hB o2 x1 hb1
     go_wp2_with fail
     rw [←hW1]
     clear hW1
     refine wp_region_noPanic ?_
     refine wp_region_held_drew (S:=fun y=>Below W1.heap.size W1 y) (by kernel_rfl) ⟨rfl,rfl,rfl,Nat.le_refl _,fun _ _=>rfl⟩ (fun hHeld=>?_)
     refine hT 0 31 rfl rfl hHeld nPp (v:=?_) (fun x hSx=>?_) ?_
     rotate_left 1
     ·go_simp<;>with_reducible rfl
     simp only [sA,sB]
     refine hT 1 32 rfl rfl hHeld nPp (v:=?_) (fun x hSx=>?_) ?_
     rotate_left 1
     ·obtain ⟨d0,d1,d2,d4⟩:=uh HSS x hSx;go_simp<;>with_reducible rfl
     simp only [sA,sB]
     refine hT 2 33 rfl rfl hHeld nPp (v:=?_) (fun x hSx=>?_) ?_
     rotate_left 1
     ·go_simp<;>with_reducible rfl
     simp only [sA,sB]
     refine hT 3 34 rfl rfl hHeld nPp (v:=?_) (fun x hSx=>?_) ?_
     rotate_left 1
     ·go_simp<;>with_reducible rfl
     simp only [sA,sB]
     refine hT 4 35 rfl rfl hHeld nPp (v:=?_) (fun x hSx=>?_) ?_
     rotate_left 1
     ·go_simp<;>with_reducible rfl
     simp only [sA,sB]
     refine hT 5 36 rfl rfl hHeld nPp (v:=?_) (fun x hSx=>?_) ?_
     rotate_left 1
     ·obtain ⟨d0,d1,d2,d4⟩:=uh HSS x hSx;go_simp<;>with_reducible rfl
     simp only [sA,sB]
     refine z0u 6 37 (by kernel_rfl) rfl rfl (by rfl) (by go_simp<;>exact ⟨rfl,rfl⟩) ?_
     refine (uh HP _ hHeld).mono ?_
     rintro e W2 ⟨rfl,h2⟩
     have HB2:Hid (Below W1.heap.size W1 W2):=qz (hHeld.trans (h2.mono hHeld.size))
     refine ⟨_,rfl,uh HB2,?_⟩
     simp only [sA,sB]
     clear h2 HP hHeld
     refine hO 7 38 rfl rfl (v:=.int .i64 (((M+S:Nat):Int)+(n:Int))) (w':=W2) ?_ (uh HB2) ?_
     ·first|(go_simp;done)|(go_simp<;>first|exact ⟨rfl,rfl⟩|rfl|exact IntWalk.i64_in _ (by omega))
     simp only [sA,sB]
     refine hO 8 3 rfl rfl (v:=.int .i64 (((M+S:Nat):Int)+(n:Int))) (w':=W2) ?_ (uh HB2) ?_
     ·first|(go_simp;done)|(go_simp<;>first|exact ⟨rfl,rfl⟩|rfl)
     simp only [sA,sB]
     refine dN ?_
     have HB3:Hid (Below w.heap.size w W2):=qz ((uh HB1).trans ((uh HB2).mono (uh HB1).size))
     clear HB2
     go_wp2_with fail
     go_roundg (nr-(j+1))
     case measure=>omega
     case rel=>exact ⟨j+1,rfl,by omega,by go_num,by rw [uh HN,show ((M+(S+n):Nat):Int)=((M+S:Nat):Int)+(n:Int) by omega],HB3⟩
    ·obtain rfl:j=nr:=by omega
     rw [uh HWE]
     have HF:=qz (uh HASS)
     go_wp2_with fail
     go_ret
     rw [uh HF]
     exact ⟨rfl,uh hB⟩
end W4
namespace W4
open Go.RowKit Mth Infl Defl
theorem x5e {f:Nat→Nat} {M n:Nat} {l:List Nat} (h:L5.IsOrder (osOf f n) l) {w:World} {g:Nat} (hi:L5.z0c w .i64 3 g n (L5.ans (osOf f n) l M)):(bl f M n).length=n∧z0c w .i64 3 g n fun j=>(bl f M n).getD j 0:=by
 rw [w5o h]
 refine ⟨by simp,?_⟩
 exact z0c.congr (show z0c w .i64 3 g n (L5.ans (osOf f n) l M) from hi) fun i hi=>by simp [hi]
theorem x0u (f:Nat→Nat) (M n:Nat) (v:Value) (w:World) (hr:z0w w v (osOf f n)) (hM1:1≤M) (hM2:M≤20) (hn:n≤286) (hpow:n≤2^M) (htot:L5.tot (osOf f n) n≤1099511627776) :
  Calls Tryz.prog 114 #[v,.int .i64 (M:Int)] w fun e w'=>∃g,e=.returned (.slice (some ⟨g,0,none⟩) n n)∧w.heap.size≤g∧(bl f M n).length=n∧(z0c w' .i64 3 g n fun j=>(bl f M n).getD j 0)∧Below w.heap.size w w':=by
 refine (x4y f M n v w hr hM1 hM2 hn hpow htot).mono ?_
 rintro e w' ⟨l,g,rfl,h1,h2,h3,h4⟩
 obtain ⟨k1,k2⟩:=x5e h1 h3
 exact ⟨g,rfl,h2,k1,k2,h4⟩
theorem x6q (rs:List Wd) (a:Option Addr) (cap:Nat) (w:World) (hr:z0f w a rs) (hs:∀r∈rs,0≤r.1∧r.1<19) (hlen:rs.length≤1000) (htot:L5.tot (osOf (cw rs) 19) 19≤1099511627776) :
  Calls Tryz.prog 117 #[.slice a rs.length cap] w fun e w'=>∃g,e=.returned (.slice (some ⟨g,0,none⟩) 19 19)∧w.heap.size≤g∧(bl (cw rs) 7 19).length=19∧(z0c w' .i64 3 g 19 fun j=>(bl (cw rs) 7 19).getD j 0)∧Below w.heap.size w w':=by
 refine (w1a rs a cap w hr hs hlen htot).mono ?_
 rintro e w' ⟨l,g,rfl,h1,h2,h3,h4⟩
 obtain ⟨k1,k2⟩:=x5e h1 h3
 exact ⟨g,rfl,h2,k1,k2,h4⟩
theorem z7h {w:World} {g n:Nat} {xs:List Nat} (h:z0c w .i64 3 g n fun j=>xs.getD j 0) (j:Nat) (hj:j<n):w.cell? ⟨g,0+j,none⟩=some (.int .i64 (xs.getD j 0:Int)):=by
 rw [Nat.zero_add]
 exact h.cell j hj
theorem row_of {w:World} {g n:Nat} {xs:List Nat} (h:z0c w .i64 3 g n fun j=>xs.getD j 0) (ys:List Nat) (hl:ys.length≤n) (he:∀i,ys.getD i 0=xs.getD i 0):RowI w g 0 (ys.map fun z:Nat=>(z:Int))∧z3h w (.slice (some ⟨g,0,none⟩) ys.length n) ys:=by
 constructor
 ·intro j u hj
  rw [List.map_map,List.getElem?_map] at hj
  rcases hq:ys[j]? with _|y
  ·rw [hq] at hj;simp at hj
  ·rw [hq] at hj
   simp at hj
   subst hj
   have hlt:j<ys.length:=by
    rcases Nat.lt_or_ge j ys.length with h|h
    ·exact h
    ·rw [List.getElem?_eq_none h] at hq;cases hq
   have ea:(⟨g,0,none⟩:Addr).add j=⟨g,0+j,none⟩:=by by_cases hq:j=0<;>simp [Addr.add,hq]
   rw [ea,z7h h j (by omega),←he j]
   simp [List.getD_eq_getElem?_getD,hq,iv]
 ·refine ⟨_,n,by simp,fun _=>⟨g,0,rfl,fun j hj=>?_⟩⟩
  simp at hj
  rw [z7h h j (by omega),←he j]
  simp [List.getD_eq_getElem?_getD,hj]
theorem x1p {w:World} {g n:Nat} {f:Nat→Nat} (h:z0c w .i64 3 g n f):z0w w (.slice (some ⟨g,0,none⟩) n n) (osOf f n):=by
 refine ⟨_,n,by rw [z0q],fun _=>⟨g,0,rfl,fun j hj=>?_⟩⟩
 rw [z0q] at hj
 rw [z7o _ _ _ hj,Nat.zero_add]
 exact h.cell j hj
theorem y2f {w:World} {base:Nat} {v:Value} {xs:List Int} (h:w.ownsRow base 3 1 v xs.length (xs.map iv)):∃a cap,v=.slice a xs.length cap∧xs.length≤cap∧z0w w v xs:=by
 rcases h.2 with ⟨rfl,e⟩|⟨g,cap,cur,rfl,h1,h2,h3,h4,h5,h6⟩
 ·exact ⟨none,0,by rw [e],by omega,none,0,by rw [e],fun h0=>by omega⟩
 ·refine ⟨_,cap,rfl,h3,_,cap,rfl,fun _=>⟨g,0,rfl,fun j hj=>?_⟩⟩
  have:=h.cells (g:=g) rfl j (iv (xs.getD j 0)) (by
   rw [List.getElem?_map,List.getElem?_eq_getElem hj]
   simp [List.getD_eq_getElem?_getD,hj])
  have ea:(⟨g,0,none⟩:Addr).add j=⟨g,0+j,none⟩:=by by_cases hq:j=0<;>simp [Addr.add,hq]
  rw [ea] at this
  exact this
theorem x9q:∀ (rs:List Wd) (i:Nat),i<rs.length→(wcs rs)[i*3]?=some (.int .i64 (rs.getD i (0,0,0)).1)∧(wcs rs)[i*3+1]?=some (.int .i64 ((rs.getD i (0,0,0)).2.1:Int))∧(wcs rs)[i*3+2]?=some (.int .i64 ((rs.getD i (0,0,0)).2.2:Int))
 | [],i,h=>by simp at h
 | r :: rs,0,h=>by simp [wcs]
 | r :: rs,i+1,h=>by
  have:=x9q rs i (by simpa using h)
  simp only [wcs,show (i+1)*3=i*3+1+1+1 by omega,show i*3+1+1+1+1=(i*3+1)+1+1+1 by omega,show i*3+1+1+1+2=(i*3+2)+1+1+1 by omega,List.getElem?_cons_succ,List.getD_cons_succ]
  exact this
theorem x5v:∀ (rs:List (Nat × Nat)) (i:Nat),i<rs.length→(fcs rs)[i*2]?=some (.int .i64 ((rs.getD i (0,0)).1:Int))∧(fcs rs)[i*2+1]?=some (.int .i64 ((rs.getD i (0,0)).2:Int))
 | [],i,h=>by simp at h
 | r :: rs,0,h=>by simp [fcs]
 | r :: rs,i+1,h=>by
  have:=x5v rs i (by simpa using h)
  simp only [fcs,show (i+1)*2=i*2+1+1 by omega,List.getElem?_cons_succ,List.getD_cons_succ]
  exact this
theorem x7v {w:World} {base:Nat} {v:Value} {rs:List Wd} (h:w.ownsRow base 141 3 v rs.length (wcs rs)):∃a cap,v=.slice a rs.length cap∧z0f w a rs∧∀ad,a=some ad→base≤ad.block∧ad.block<w.heap.size:=by
 rcases h.2 with ⟨rfl,e⟩|⟨g,cap,cur,rfl,h1,h2,h3,h4,h5,h6⟩
 ·exact ⟨none,0,by rw [e],fun i hi=>by omega,fun ad e=>by cases e⟩
 ·refine ⟨_,cap,rfl,fun i hi=>?_,fun ad e=>by cases e;exact ⟨h1,z0b h2⟩⟩
  obtain ⟨q1,q2,q3⟩:=x9q rs i hi
  have ea:∀j,(⟨g,0,none⟩:Addr).add j=⟨g,0+j,none⟩:=fun j=>by by_cases hq:j=0<;>simp [Addr.add,hq]
  have k1:=h.cells (g:=g) rfl _ _ q1
  have k2:=h.cells (g:=g) rfl _ _ q2
  have k3:=h.cells (g:=g) rfl _ _ q3
  rw [ea] at k1 k2 k3
  exact ⟨g,0,rfl,k1,by rw [Nat.add_assoc];exact k2,by rw [Nat.add_assoc];exact k3⟩
theorem x3j {w:World} {base:Nat} {v:Value} {rs:List (Nat × Nat)} (h:w.ownsRow base 147 2 v rs.length (fcs rs)):∃a cap,v=.slice a rs.length cap∧z7d w a rs∧∀ad,a=some ad→base≤ad.block∧ad.block<w.heap.size:=by
 rcases h.2 with ⟨rfl,e⟩|⟨g,cap,cur,rfl,h1,h2,h3,h4,h5,h6⟩
 ·exact ⟨none,0,by rw [e],fun i hi=>by omega,fun ad e=>by cases e⟩
 ·refine ⟨_,cap,rfl,fun i hi=>?_,fun ad e=>by cases e;exact ⟨h1,z0b h2⟩⟩
  obtain ⟨q1,q2⟩:=x5v rs i hi
  have ea:∀j,(⟨g,0,none⟩:Addr).add j=⟨g,0+j,none⟩:=fun j=>by by_cases hq:j=0<;>simp [Addr.add,hq]
  have k1:=h.cells (g:=g) rfl _ _ q1
  have k2:=h.cells (g:=g) rfl _ _ q2
  rw [ea] at k1 k2
  exact ⟨g,0,rfl,k1,by rw [Nat.add_assoc];exact k2⟩
end W4
namespace W4
open Go.RowKit Mth Infl Defl
attribute [local go_sem ↓] wp_at_zero wp_at_succ
structure Rows2 (w ws:World) (v3 v4:Value) (bn bd gn gd:Nat):Prop where
 e3:v3=.pointer (some ⟨bn,0,none⟩)
 e4:v4=.pointer (some ⟨bd,0,none⟩)
 rn:ws.heap[bn]?=some (.cells #[.slice (some ⟨gn,0,none⟩) 286 286] 45 (0,0))
 rd:ws.heap[bd]?=some (.cells #[.slice (some ⟨gd,0,none⟩) 30 30] 45 (0,0))
 an:z0c ws .i64 3 gn 286 fun _=>0
 ad:z0c ws .i64 3 gd 30 fun _=>0
 ge:w.heap.size≤gn∧w.heap.size≤gd∧w.heap.size≤bn∧w.heap.size≤bd
 bel:Below w.heap.size w ws
structure PS (w x:World) (N D B C:Option Nat) (st:Bool):Prop where
 n:∀g,N=some g→w.heap.size≤g∧z0c x .i64 3 g 286 fun _=>0
 d:∀g,D=some g→w.heap.size≤g∧z0c x .i64 3 g 30 fun _=>0
 b:∀k,B=some k→w.heap.size≤k∧∃u,x.heap[k]?=some (.cells #[u] 45 (0,0))∧(st=true→∀g,N=some g→u=.slice (some ⟨g,0,none⟩) 286 286)
 c:∀k,C=some k→w.heap.size≤k∧∃u,x.heap[k]?=some (.cells #[u] 45 (0,0))
 bc:∀k j,B=some k→C=some j→k≠j
 bel:Below w.heap.size w x
theorem PS.alloc {w x:World} {N D B C:Option Nat} {st:Bool} (h:PS w x N D B C st) (o:Obj):PS w (x.alloc o) N D B C st where
 n:=fun g e=>⟨(h.n g e).1,(h.n g e).2.alloc o⟩
 d:=fun g e=>⟨(h.d g e).1,(h.d g e).2.alloc o⟩
 b:=fun k e=>by
  obtain ⟨h1,u,h2,h3⟩:=h.b k e
  exact ⟨h1,u,by rw [Below.heap_alloc _ _ _ (z0b h2)];exact h2,h3⟩
 c:=fun k e=>by
  obtain ⟨h1,u,h2⟩:=h.c k e
  exact ⟨h1,u,by rw [Below.heap_alloc _ _ _ (z0b h2)];exact h2⟩
 bc:=h.bc
 bel:=h.bel.alloc h.bel.size o
theorem PS.one {w x:World} {D B C:Option Nat} (h:PS w x none D B C false):PS w (x.alloc (.cells (z0d .i64 286 fun _=>0) 3)) (some x.heap.size) D B C false where
 n:=fun g e=>by obtain rfl:=Option.some.inj e;exact ⟨h.bel.size,heap_alloc_new _ _⟩
 d:=(h.alloc _).d
 b:=fun k e=>by
  obtain ⟨h1,u,h2,_⟩:=(h.alloc (.cells (z0d .i64 286 fun _=>0) 3)).b k e
  exact ⟨h1,u,h2,fun e=>by cases e⟩
 c:=(h.alloc _).c
 bc:=h.bc
 bel:=(h.alloc _).bel
theorem PS.two {w x:World} {N B C:Option Nat} {st:Bool} (h:PS w x N none B C st):PS w (x.alloc (.cells (z0d .i64 30 fun _=>0) 3)) N (some x.heap.size) B C st where
 n:=(h.alloc _).n
 d:=fun g e=>by obtain rfl:=Option.some.inj e;exact ⟨h.bel.size,heap_alloc_new _ _⟩
 b:=(h.alloc _).b
 c:=(h.alloc _).c
 bc:=h.bc
 bel:=(h.alloc _).bel
theorem PS.three {w x:World} {N D C:Option Nat} (h:PS w x N D none C false):PS w (x.alloc (.cells #[.slice none 0 0] 45)) N D (some x.heap.size) C false where
 n:=(h.alloc _).n
 d:=(h.alloc _).d
 b:=fun k e=>by obtain rfl:=Option.some.inj e;exact ⟨h.bel.size,_,heap_alloc_new _ _,fun e=>by cases e⟩
 c:=(h.alloc _).c
 bc:=fun k j e e'=>by
  obtain rfl:=Option.some.inj e
  obtain ⟨_,u,h2⟩:=h.c j e'
  have:=z0b h2
  omega
 bel:=(h.alloc _).bel
theorem PS.four {w x:World} {N D B:Option Nat} {st:Bool} (h:PS w x N D B none st):PS w (x.alloc (.cells #[.slice none 0 0] 45)) N D B (some x.heap.size) st where
 n:=(h.alloc _).n
 d:=(h.alloc _).d
 b:=(h.alloc _).b
 c:=fun k e=>by obtain rfl:=Option.some.inj e;exact ⟨h.bel.size,_,heap_alloc_new _ _⟩
 bc:=fun k j e e'=>by
  obtain rfl:=Option.some.inj e'
  obtain ⟨_,u,h2,_⟩:=h.b k e
  have:=z0b h2
  omega
 bel:=(h.alloc _).bel
theorem z6r {x:World} {g k n:Nat} {f:Nat→Nat} {u:Value} (h:z0c x .i64 3 g n f) (h2:x.heap[k]?=some (.cells #[u] 45 (0,0))):g≠k:=by
 rintro rfl
 unfold z0c at h
 rw [h] at h2
 simp at h2
theorem PS.store {w x:World} {g k:Nat} {D C:Option Nat} (h:PS w x (some g) D (some k) C false):PS w (x.setCell ⟨k,0,none⟩ (.slice (some ⟨g,0,none⟩) 286 286)) (some g) D (some k) C true:=by
 obtain ⟨h1,u,h2,_⟩:=h.b k rfl
 obtain ⟨q1,q2⟩:=Chb.set (v:=.slice (some ⟨g,0,none⟩) 286 286) h2
 refine ⟨fun g' e=>?_,fun g' e=>?_,fun j e=>?_,fun j e=>?_,h.bc,h.bel.setCell h1 _⟩
 ·obtain ⟨a1,a2⟩:=h.n g' e
  exact ⟨a1,a2.other _ _ (z6r a2 h2)⟩
 ·obtain ⟨a1,a2⟩:=h.d g' e
  exact ⟨a1,a2.other _ _ (z6r a2 h2)⟩
 ·obtain rfl:=Option.some.inj e
  exact ⟨h1,_,q1,fun _ g' e'=>by rw [Option.some.inj e']⟩
 ·obtain ⟨a1,u',a2⟩:=h.c j e
  have:=h.bc k j rfl e
  exact ⟨a1,u',by rw [q2.keep j (z0b a2) (Ne.symm this)];exact a2⟩
theorem PS.done {w x:World} {g d k j:Nat} (h:PS w x (some g) (some d) (some k) (some j) true):Rows2 w (x.setCell ⟨j,0,none⟩ (.slice (some ⟨d,0,none⟩) 30 30)) (.pointer (some ⟨k,0,none⟩)) (.pointer (some ⟨j,0,none⟩)) k j g d:=by
 obtain ⟨h1,u,h2,h3⟩:=h.b k rfl
 obtain ⟨c1,u',c2⟩:=h.c j rfl
 obtain ⟨n1,n2⟩:=h.n g rfl
 obtain ⟨d1,d2⟩:=h.d d rfl
 obtain ⟨q1,q2⟩:=Chb.set (v:=.slice (some ⟨d,0,none⟩) 30 30) c2
 have hkj:=h.bc k j rfl rfl
 rw [h3 rfl g rfl] at h2
 exact ⟨rfl,rfl,by rw [q2.keep k (z0b h2) hkj];exact h2,q1,n2.other _ _ (z6r n2 c2),d2.other _ _ (z6r d2 c2),⟨n1,d1,h1,c1⟩,h.bel.setCell c1 _⟩
section
variable {P:Program} {md:Region.Mode} {ops:Array Oper} {Q:Exit→Act→World→Prop} {S:World→Prop}
theorem y7b {o:Oper} {fuel:Nat} {listed:Array Bool} {a:Act} {w w':World} {K:Act→World→Prop} (i:Nat)
  (hK:Shut (∀a w,S w→(S w→wpAnyH P md ops Q S fuel (listed.setIfInBounds i true) a w)→K a w)) (hd:o.dst=none)
  (hw:Region.wanted o (yielded ops a.tmps)=true) (hrun:(execOp (Act.eval a) o).run P w=.ok .skip w') (hS:S w')
  (h:wpAnyH P md ops Q S fuel (listed.setIfInBounds i true) a w') :
  if Region.wanted o (yielded ops a.tmps)=true then Oper.wp P o a w K Q else K (a.put o.dst undef) w:=by
 rw [if_pos hw]
 unfold Oper.wp
 rw [hrun,Oper.upon_skip]
 have e:Act.put a o.dst undef=a:=by rw [hd];rfl
 rw [e]
 exact hK.out _ _ hS (fun _=>h)
theorem x6l {fuel:Nat} {listed:Array Bool} {a:Act} {w:World} {i j k l:Nat} {o1 o2 o3 o4:Oper} (hr:Region.ready md ops listed=[i,j,k,l]) (h1:ops[i]?=some o1) (h2:ops[j]?=some o2) (h3:ops[k]?=some o3) (h4:ops[l]?=some o4)
  (k1:∀K:Act→World→Prop,Shut (∀a w,S w→(S w→wpAnyH P md ops Q S fuel (listed.setIfInBounds i true) a w)→K a w)→if Region.wanted o1 (yielded ops a.tmps)=true then Oper.wp P o1 a w K Q else K (a.put o1.dst undef) w)
  (k2:∀K:Act→World→Prop,Shut (∀a w,S w→(S w→wpAnyH P md ops Q S fuel (listed.setIfInBounds j true) a w)→K a w)→if Region.wanted o2 (yielded ops a.tmps)=true then Oper.wp P o2 a w K Q else K (a.put o2.dst undef) w)
  (k3:∀K:Act→World→Prop,Shut (∀a w,S w→(S w→wpAnyH P md ops Q S fuel (listed.setIfInBounds k true) a w)→K a w)→if Region.wanted o3 (yielded ops a.tmps)=true then Oper.wp P o3 a w K Q else K (a.put o3.dst undef) w)
  (k4:∀K:Act→World→Prop,Shut (∀a w,S w→(S w→wpAnyH P md ops Q S fuel (listed.setIfInBounds l true) a w)→K a w)→if Region.wanted o4 (yielded ops a.tmps)=true then Oper.wp P o4 a w K Q else K (a.put o4.dst undef) w) :
  wpAnyH P md ops Q S (fuel+1) listed a w:=wpAnyH_ready hr (by simp) (AllReadyH.cons h1 k1 (AllReadyH.cons h2 k2 (AllReadyH.cons h3 k3 (AllReadyH.cons h4 k4 AllReadyH.nil))))
end
noncomputable def oX (ts:List T):List Nat:=trim 257 286 (bl (z0l ts) 15 286)
noncomputable def oY (ts:List T):List Nat:=trim 1 30 (bl (z0i ts) 15 30)
noncomputable def oR (ts:List T):List Wd:=z5w ((oX ts++oY ts).map fun z:Nat=>(z:Int))
noncomputable def oZ (ts:List T):List Nat:=bl (cw (oR ts)) 7 19
noncomputable def oF (ts:List T):List (Nat × Nat):=fieldsOf (oX ts).length (oY ts).length (trim 4 19 (order.map fun j=>(oZ ts).getD j 0))
structure OwnOk (ts:List T):Prop where
 t1:L5.tot (osOf (z0l ts) 286) 286≤1099511627776
 t2:L5.tot (osOf (z0i ts) 30) 30≤1099511627776
 t3:L5.tot (osOf (cw (oR ts)) 19) 19≤1099511627776
 x15:∀l∈oX ts,l≤15
 y15:∀l∈oY ts,l≤15
 xo:z2s (oX ts) true
 yo:z2s (oY ts) true
 z7:∀l∈oZ ts,l≤7
 zo:ce (oZ ts) 7 false=0
 ro:∀r∈oR ts,0≤r.1∧r.1<19
 rl:(oR ts).length≤1000
structure OwnAt (w0 w:World) (ob:Nat) (ts:List T) (c1 c2:Nat):Prop where
 ge:w0.heap.size≤ob
 p1:w.cell? ⟨ob,0,none⟩=some (.pointer (some ⟨c1,0,none⟩))
 p2:w.cell? ⟨ob,1,none⟩=some (.pointer (some ⟨c2,0,none⟩))
 two:TwoCodes (oX ts) (oY ts) w c1 c2 w0.heap.size w.heap.size
 head:∃fa ra fc rc ci xl xh,HeadAt w ob (oF ts) (oR ts) (oZ ts) fa ra fc rc ci xl xh∧w0.heap.size≤xl∧(∀ad,fa=some ad→w0.heap.size≤ad.block∧ad.block<w.heap.size)∧(∀ad,ra=some ad→w0.heap.size≤ad.block∧ad.block<w.heap.size)
theorem PS.bx {w x:World} {N D C:Option Nat} {k:Nat} {st:Bool} (h:PS w x N D (some k) C st):x.frozen? ⟨k,0,none⟩=false∧∃u,x.cell? ⟨k,0,none⟩=some u:=by
 obtain ⟨_,u,h2,_⟩:=h.b _ rfl
 exact ⟨by simp [World.frozen?,h2],u,by simp [World.cell?,h2]⟩
theorem PS.cx {w x:World} {N D B:Option Nat} {k:Nat} {st:Bool} (h:PS w x N D B (some k) st):x.frozen? ⟨k,0,none⟩=false∧∃u,x.cell? ⟨k,0,none⟩=some u:=by
 obtain ⟨_,u,h2⟩:=h.c _ rfl
 exact ⟨by simp [World.frozen?,h2],u,by simp [World.cell?,h2]⟩
theorem z1d {P:Program} {md:Region.Mode} {ops:Array Oper} {Q:Exit→Act→World→Prop} {S:World→Prop} {f0:Nat} {l0:Array Bool} {t0:Array Value} {df:List Deferred} {w0:World} (I:Array Bool→List Value→World→Prop) (f:Nat)
  (h:∀l t w,I l t w→wpAnyH P md ops Q S f l ⟨t.toArray,df⟩ w) (k:(∀l t w,I l t w→wpAnyH P md ops Q S f l ⟨t.toArray,df⟩ w)→wpAnyH P md ops Q S f0 l0 ⟨t0,df⟩ w0):wpAnyH P md ops Q S f0 l0 ⟨t0,df⟩ w0:=k h
def ownT (v x3 x4 x10 x11:Value):List Value:=v :: undef :: .pointer none :: x3 :: x4 :: undef :: undef :: undef :: undef :: undef :: x10 :: x11 :: undef :: undef :: undef :: undef :: undef :: undef :: undef :: undef :: undef :: undef :: undef :: undef :: undef :: undef :: undef :: undef :: undef :: undef :: undef :: undef :: undef :: undef :: undef :: undef :: undef :: undef :: undef :: undef :: undef :: undef :: undef :: undef :: undef :: undef :: undef :: undef :: undef :: undef :: []
theorem x7k (ts:List T) (a:Option Addr) (cap:Nat) (w:World) (hta:z3e w a ts) (hto:y4i ts) (hfew:ts.length≤1000000000) (hok:OwnOk ts) :
  Calls Tryz.prog 86 #[.slice a ts.length cap] w fun e w'=>∃ob c1 c2,e=.returned (.pointer (some ⟨ob,0,none⟩))∧OwnAt w w' ob ts c1 c2∧Below w.heap.size w w':=by
 have hm:∀w,(Instr.makeSlice 45 (.int .i64 286) (.int .i64 286)).run Tryz.prog w=.ok (.slice (some ⟨w.heap.size,0,none⟩) 286 286) (w.alloc (.cells (z0d .i64 286 (fun _=>0)) 3)):=fun w=>z2c w 286 (by decide)
 have hm2:∀w,(Instr.makeSlice 45 (.int .i64 30) (.int .i64 30)).run Tryz.prog w=.ok (.slice (some ⟨w.heap.size,0,none⟩) 30 30) (w.alloc (.cells (z0d .i64 30 (fun _=>0)) 3)):=fun w=>z2c w 30 (by decide)
 have HP0:Hid (PS w w.drew none none none none false):=qz { n:=(fun _ e=>by cases e),d:=(fun _ e=>by cases e),b:=(fun _ e=>by cases e),c:=(fun _ e=>by cases e),bc:=(fun _ _ e=>by cases e),bel:=⟨rfl,rfl,rfl,Nat.le_refl _,fun _ _=>rfl⟩ }
 have HTA:=qz hta
 have HTO:=qz (And.intro hto hfew)
 have HOK:=qz hok
 obtain ⟨n,hn⟩:∃n,n=ts.length:=⟨_,rfl⟩
 have HN:=qz hn
 rw [←hn]
 clear hta hto hfew hok hn
 go_enter Tryz.func86,Tryz.ntmps86
 go_upto_region 1 with fail
 go_cut [3,4] (fun v3 v4 wc=>∃bn bd gn gd,Rows2 w wc v3 v4 bn bd gn gd)
 case first =>
  clear HTA HTO HOK HN
  refine wp_region_noPanic ?_
  refine wp_region_held_drew (S:=fun y=>True) (by kernel_rfl) True.intro (fun hHeld=>?_)
  clear hHeld
  generalize w.drew=y0 at HP0 ⊢
  have HP:=HP0
  clear HP0
  refine z1d (fun l t x=>l=#[true,true,true,true,true,false]∧∃a0,∃a1,∃a2,∃a3,t=ownT (.slice a n cap) (.pointer (some ⟨a2,0,none⟩)) (.pointer (some ⟨a3,0,none⟩)) (.slice (some ⟨a0,0,none⟩) 286 286) (.slice (some ⟨a1,0,none⟩) 30 30)∧PS w x (some a0) (some a1) (some a2) (some a3) true) 1 ?_ (fun hS=>?_)
  ·rintro l t x ⟨rfl,a0,a1,a2,a3,rfl,hp⟩
   have HP:=qz hp
   clear hp
   unfold ownT
   obtain ⟨fz4,u4,fc4⟩:=(uh HP).cx
   refine hKk 5 rfl rfl (w':=x.setCell ⟨a3,0,none⟩ (.slice (some ⟨a1,0,none⟩) 30 30)) ?_ True.intro ?_
   ·first|(go_simp;done)|(go_simp<;>rfl)
   clear fz4 fc4
   refine dN ?_
   go_wp2_with fail
   go_meet
   exact ⟨_,_,_,_,(uh HP).done⟩
  have HS01234:=qz hS
  clear hS
  refine z1d (fun l t x=>l=#[true,true,true,true,false,false]∧∃a0,∃a1,∃a2,∃a3,t=ownT (.slice a n cap) (.pointer (some ⟨a2,0,none⟩)) (.pointer (some ⟨a3,0,none⟩)) (.slice (some ⟨a0,0,none⟩) 286 286) (.slice (some ⟨a1,0,none⟩) 30 30)∧PS w x (some a0) (some a1) (some a2) (some a3) false) 2 ?_ (fun hS=>?_)
  ·rintro l t x ⟨rfl,a0,a1,a2,a3,rfl,hp⟩
   have HP:=qz hp
   clear hp
   unfold ownT
   obtain ⟨fz4,u4,fc4⟩:=(uh HP).bx
   refine hKk 4 rfl rfl (w':=x.setCell ⟨a2,0,none⟩ (.slice (some ⟨a0,0,none⟩) 286 286)) ?_ True.intro ?_
   ·first|(go_simp;done)|(go_simp<;>rfl)
   exact uh HS01234 _ _ _ ⟨by kernel_rfl,_,_,_,_,rfl,(uh HP).store⟩
  have HS0123:=qz hS
  clear hS
  refine z1d (fun l t x=>l=#[true,false,true,true,true,false]∧∃a0,∃a2,∃a3,t=ownT (.slice a n cap) (.pointer (some ⟨a2,0,none⟩)) (.pointer (some ⟨a3,0,none⟩)) (.slice (some ⟨a0,0,none⟩) 286 286) undef∧PS w x (some a0) none (some a2) (some a3) true) 2 ?_ (fun hS=>?_)
  ·rintro l t x ⟨rfl,a0,a2,a3,rfl,hp⟩
   have HP:=qz hp
   clear hp
   unfold ownT
   refine hO 1 11 rfl rfl (v:=.slice (some ⟨x.heap.size,0,none⟩) 30 30) (w':=x.alloc (.cells (z0d .i64 30 fun _=>0) 3)) ?_ True.intro ?_
   ·first|(go_simp;done)|(go_simp<;>first|exact ⟨rfl,rfl⟩|rfl)
   exact uh HS01234 _ _ _ ⟨by kernel_rfl,_,_,_,_,rfl,(uh HP).two⟩
  have HS0234:=qz hS
  clear hS
  refine z1d (fun l t x=>l=#[true,true,true,false,false,false]∧∃a0,∃a1,∃a2,t=ownT (.slice a n cap) (.pointer (some ⟨a2,0,none⟩)) undef (.slice (some ⟨a0,0,none⟩) 286 286) (.slice (some ⟨a1,0,none⟩) 30 30)∧PS w x (some a0) (some a1) (some a2) none false) 3 ?_ (fun hS=>?_)
  ·rintro l t x ⟨rfl,a0,a1,a2,rfl,hp⟩
   have HP:=qz hp
   clear hp
   unfold ownT
   refine hO 3 4 rfl rfl (v:=.pointer (some ⟨x.heap.size,0,none⟩)) (w':=x.alloc (.cells #[.slice none 0 0] 45)) ?_ True.intro ?_
   ·first|(go_simp;done)|(go_simp<;>first|exact ⟨rfl,rfl⟩|rfl)
   exact uh HS0123 _ _ _ ⟨by kernel_rfl,_,_,_,_,rfl,(uh HP).four⟩
  have HS012:=qz hS
  clear hS
  refine z1d (fun l t x=>l=#[true,true,false,true,false,false]∧∃a0,∃a1,∃a3,t=ownT (.slice a n cap) undef (.pointer (some ⟨a3,0,none⟩)) (.slice (some ⟨a0,0,none⟩) 286 286) (.slice (some ⟨a1,0,none⟩) 30 30)∧PS w x (some a0) (some a1) none (some a3) false) 3 ?_ (fun hS=>?_)
  ·rintro l t x ⟨rfl,a0,a1,a3,rfl,hp⟩
   have HP:=qz hp
   clear hp
   unfold ownT
   refine hO 2 3 rfl rfl (v:=.pointer (some ⟨x.heap.size,0,none⟩)) (w':=x.alloc (.cells #[.slice none 0 0] 45)) ?_ True.intro ?_
   ·first|(go_simp;done)|(go_simp<;>first|exact ⟨rfl,rfl⟩|rfl)
   exact uh HS0123 _ _ _ ⟨by kernel_rfl,_,_,_,_,rfl,(uh HP).three⟩
  have HS013:=qz hS
  clear hS
  refine z1d (fun l t x=>l=#[true,false,true,true,false,false]∧∃a0,∃a2,∃a3,t=ownT (.slice a n cap) (.pointer (some ⟨a2,0,none⟩)) (.pointer (some ⟨a3,0,none⟩)) (.slice (some ⟨a0,0,none⟩) 286 286) undef∧PS w x (some a0) none (some a2) (some a3) false) 3 ?_ (fun hS=>?_)
  ·rintro l t x ⟨rfl,a0,a2,a3,rfl,hp⟩
   have HP:=qz hp
   clear hp
   unfold ownT
   refine z1s (i:=1) (j:=4) (by kernel_rfl) rfl rfl (fun K hK=>?_) (fun K hK=>?_)
   ·refine z0n 1 11 hK rfl (by rfl) (v:=.slice (some ⟨x.heap.size,0,none⟩) 30 30) (w':=x.alloc (.cells (z0d .i64 30 fun _=>0) 3)) ?_ True.intro ?_
    ·first|(go_simp;done)|(go_simp<;>first|exact ⟨rfl,rfl⟩|rfl)
    exact uh HS0123 _ _ _ ⟨by kernel_rfl,_,_,_,_,rfl,(uh HP).two⟩
   ·obtain ⟨fz4,u4,fc4⟩:=(uh HP).bx
    refine y7b 4 hK rfl (by rfl) (w':=x.setCell ⟨a2,0,none⟩ (.slice (some ⟨a0,0,none⟩) 286 286)) ?_ True.intro ?_
    ·first|(go_simp;done)|(go_simp<;>rfl)
    exact uh HS0234 _ _ _ ⟨by kernel_rfl,_,_,_,rfl,(uh HP).store⟩
  have HS023:=qz hS
  clear hS
  refine z1d (fun l t x=>l=#[false,true,true,true,false,false]∧∃a1,∃a2,∃a3,t=ownT (.slice a n cap) (.pointer (some ⟨a2,0,none⟩)) (.pointer (some ⟨a3,0,none⟩)) undef (.slice (some ⟨a1,0,none⟩) 30 30)∧PS w x none (some a1) (some a2) (some a3) false) 3 ?_ (fun hS=>?_)
  ·rintro l t x ⟨rfl,a1,a2,a3,rfl,hp⟩
   have HP:=qz hp
   clear hp
   unfold ownT
   refine hO 0 10 rfl rfl (v:=.slice (some ⟨x.heap.size,0,none⟩) 286 286) (w':=x.alloc (.cells (z0d .i64 286 fun _=>0) 3)) ?_ True.intro ?_
   ·first|(go_simp;done)|(go_simp<;>first|exact ⟨rfl,rfl⟩|rfl)
   exact uh HS0123 _ _ _ ⟨by kernel_rfl,_,_,_,_,rfl,(uh HP).one⟩
  have HS123:=qz hS
  clear hS
  refine z1d (fun l t x=>l=#[true,true,false,false,false,false]∧∃a0,∃a1,t=ownT (.slice a n cap) undef undef (.slice (some ⟨a0,0,none⟩) 286 286) (.slice (some ⟨a1,0,none⟩) 30 30)∧PS w x (some a0) (some a1) none none false) 4 ?_ (fun hS=>?_)
  ·rintro l t x ⟨rfl,a0,a1,rfl,hp⟩
   have HP:=qz hp
   clear hp
   unfold ownT
   refine z1s (i:=2) (j:=3) (by kernel_rfl) rfl rfl (fun K hK=>?_) (fun K hK=>?_)
   ·refine z0n 2 3 hK rfl (by rfl) (v:=.pointer (some ⟨x.heap.size,0,none⟩)) (w':=x.alloc (.cells #[.slice none 0 0] 45)) ?_ True.intro ?_
    ·first|(go_simp;done)|(go_simp<;>first|exact ⟨rfl,rfl⟩|rfl)
    exact uh HS012 _ _ _ ⟨by kernel_rfl,_,_,_,rfl,(uh HP).three⟩
   ·refine z0n 3 4 hK rfl (by rfl) (v:=.pointer (some ⟨x.heap.size,0,none⟩)) (w':=x.alloc (.cells #[.slice none 0 0] 45)) ?_ True.intro ?_
    ·first|(go_simp;done)|(go_simp<;>first|exact ⟨rfl,rfl⟩|rfl)
    exact uh HS013 _ _ _ ⟨by kernel_rfl,_,_,_,rfl,(uh HP).four⟩
  have HS01:=qz hS
  clear hS
  refine z1d (fun l t x=>l=#[true,false,true,false,false,false]∧∃a0,∃a2,t=ownT (.slice a n cap) (.pointer (some ⟨a2,0,none⟩)) undef (.slice (some ⟨a0,0,none⟩) 286 286) undef∧PS w x (some a0) none (some a2) none false) 4 ?_ (fun hS=>?_)
  ·rintro l t x ⟨rfl,a0,a2,rfl,hp⟩
   have HP:=qz hp
   clear hp
   unfold ownT
   refine z1s (i:=1) (j:=3) (by kernel_rfl) rfl rfl (fun K hK=>?_) (fun K hK=>?_)
   ·refine z0n 1 11 hK rfl (by rfl) (v:=.slice (some ⟨x.heap.size,0,none⟩) 30 30) (w':=x.alloc (.cells (z0d .i64 30 fun _=>0) 3)) ?_ True.intro ?_
    ·first|(go_simp;done)|(go_simp<;>first|exact ⟨rfl,rfl⟩|rfl)
    exact uh HS012 _ _ _ ⟨by kernel_rfl,_,_,_,rfl,(uh HP).two⟩
   ·refine z0n 3 4 hK rfl (by rfl) (v:=.pointer (some ⟨x.heap.size,0,none⟩)) (w':=x.alloc (.cells #[.slice none 0 0] 45)) ?_ True.intro ?_
    ·first|(go_simp;done)|(go_simp<;>first|exact ⟨rfl,rfl⟩|rfl)
    exact uh HS023 _ _ _ ⟨by kernel_rfl,_,_,_,rfl,(uh HP).four⟩
  have HS02:=qz hS
  clear hS
  refine z1d (fun l t x=>l=#[true,false,false,true,false,false]∧∃a0,∃a3,t=ownT (.slice a n cap) undef (.pointer (some ⟨a3,0,none⟩)) (.slice (some ⟨a0,0,none⟩) 286 286) undef∧PS w x (some a0) none none (some a3) false) 4 ?_ (fun hS=>?_)
  ·rintro l t x ⟨rfl,a0,a3,rfl,hp⟩
   have HP:=qz hp
   clear hp
   unfold ownT
   refine z1s (i:=1) (j:=2) (by kernel_rfl) rfl rfl (fun K hK=>?_) (fun K hK=>?_)
   ·refine z0n 1 11 hK rfl (by rfl) (v:=.slice (some ⟨x.heap.size,0,none⟩) 30 30) (w':=x.alloc (.cells (z0d .i64 30 fun _=>0) 3)) ?_ True.intro ?_
    ·first|(go_simp;done)|(go_simp<;>first|exact ⟨rfl,rfl⟩|rfl)
    exact uh HS013 _ _ _ ⟨by kernel_rfl,_,_,_,rfl,(uh HP).two⟩
   ·refine z0n 2 3 hK rfl (by rfl) (v:=.pointer (some ⟨x.heap.size,0,none⟩)) (w':=x.alloc (.cells #[.slice none 0 0] 45)) ?_ True.intro ?_
    ·first|(go_simp;done)|(go_simp<;>first|exact ⟨rfl,rfl⟩|rfl)
    exact uh HS023 _ _ _ ⟨by kernel_rfl,_,_,_,rfl,(uh HP).three⟩
  have HS03:=qz hS
  clear hS
  refine z1d (fun l t x=>l=#[false,true,true,false,false,false]∧∃a1,∃a2,t=ownT (.slice a n cap) (.pointer (some ⟨a2,0,none⟩)) undef undef (.slice (some ⟨a1,0,none⟩) 30 30)∧PS w x none (some a1) (some a2) none false) 4 ?_ (fun hS=>?_)
  ·rintro l t x ⟨rfl,a1,a2,rfl,hp⟩
   have HP:=qz hp
   clear hp
   unfold ownT
   refine z1s (i:=0) (j:=3) (by kernel_rfl) rfl rfl (fun K hK=>?_) (fun K hK=>?_)
   ·refine z0n 0 10 hK rfl (by rfl) (v:=.slice (some ⟨x.heap.size,0,none⟩) 286 286) (w':=x.alloc (.cells (z0d .i64 286 fun _=>0) 3)) ?_ True.intro ?_
    ·first|(go_simp;done)|(go_simp<;>first|exact ⟨rfl,rfl⟩|rfl)
    exact uh HS012 _ _ _ ⟨by kernel_rfl,_,_,_,rfl,(uh HP).one⟩
   ·refine z0n 3 4 hK rfl (by rfl) (v:=.pointer (some ⟨x.heap.size,0,none⟩)) (w':=x.alloc (.cells #[.slice none 0 0] 45)) ?_ True.intro ?_
    ·first|(go_simp;done)|(go_simp<;>first|exact ⟨rfl,rfl⟩|rfl)
    exact uh HS123 _ _ _ ⟨by kernel_rfl,_,_,_,rfl,(uh HP).four⟩
  have HS12:=qz hS
  clear hS
  refine z1d (fun l t x=>l=#[false,true,false,true,false,false]∧∃a1,∃a3,t=ownT (.slice a n cap) undef (.pointer (some ⟨a3,0,none⟩)) undef (.slice (some ⟨a1,0,none⟩) 30 30)∧PS w x none (some a1) none (some a3) false) 4 ?_ (fun hS=>?_)
  ·rintro l t x ⟨rfl,a1,a3,rfl,hp⟩
   have HP:=qz hp
   clear hp
   unfold ownT
   refine z1s (i:=0) (j:=2) (by kernel_rfl) rfl rfl (fun K hK=>?_) (fun K hK=>?_)
   ·refine z0n 0 10 hK rfl (by rfl) (v:=.slice (some ⟨x.heap.size,0,none⟩) 286 286) (w':=x.alloc (.cells (z0d .i64 286 fun _=>0) 3)) ?_ True.intro ?_
    ·first|(go_simp;done)|(go_simp<;>first|exact ⟨rfl,rfl⟩|rfl)
    exact uh HS013 _ _ _ ⟨by kernel_rfl,_,_,_,rfl,(uh HP).one⟩
   ·refine z0n 2 3 hK rfl (by rfl) (v:=.pointer (some ⟨x.heap.size,0,none⟩)) (w':=x.alloc (.cells #[.slice none 0 0] 45)) ?_ True.intro ?_
    ·first|(go_simp;done)|(go_simp<;>first|exact ⟨rfl,rfl⟩|rfl)
    exact uh HS123 _ _ _ ⟨by kernel_rfl,_,_,_,rfl,(uh HP).three⟩
  have HS13:=qz hS
  clear hS
  refine z1d (fun l t x=>l=#[false,false,true,true,false,false]∧∃a2,∃a3,t=ownT (.slice a n cap) (.pointer (some ⟨a2,0,none⟩)) (.pointer (some ⟨a3,0,none⟩)) undef undef∧PS w x none none (some a2) (some a3) false) 4 ?_ (fun hS=>?_)
  ·rintro l t x ⟨rfl,a2,a3,rfl,hp⟩
   have HP:=qz hp
   clear hp
   unfold ownT
   refine z1s (i:=0) (j:=1) (by kernel_rfl) rfl rfl (fun K hK=>?_) (fun K hK=>?_)
   ·refine z0n 0 10 hK rfl (by rfl) (v:=.slice (some ⟨x.heap.size,0,none⟩) 286 286) (w':=x.alloc (.cells (z0d .i64 286 fun _=>0) 3)) ?_ True.intro ?_
    ·first|(go_simp;done)|(go_simp<;>first|exact ⟨rfl,rfl⟩|rfl)
    exact uh HS023 _ _ _ ⟨by kernel_rfl,_,_,_,rfl,(uh HP).one⟩
   ·refine z0n 1 11 hK rfl (by rfl) (v:=.slice (some ⟨x.heap.size,0,none⟩) 30 30) (w':=x.alloc (.cells (z0d .i64 30 fun _=>0) 3)) ?_ True.intro ?_
    ·first|(go_simp;done)|(go_simp<;>first|exact ⟨rfl,rfl⟩|rfl)
    exact uh HS123 _ _ _ ⟨by kernel_rfl,_,_,_,rfl,(uh HP).two⟩
  have HS23:=qz hS
  clear hS
  refine z1d (fun l t x=>l=#[true,false,false,false,false,false]∧∃a0,t=ownT (.slice a n cap) undef undef (.slice (some ⟨a0,0,none⟩) 286 286) undef∧PS w x (some a0) none none none false) 5 ?_ (fun hS=>?_)
  ·rintro l t x ⟨rfl,a0,rfl,hp⟩
   have HP:=qz hp
   clear hp
   unfold ownT
   refine z5s (i:=1) (j:=2) (k:=3) (by kernel_rfl) rfl rfl rfl (fun K hK=>?_) (fun K hK=>?_) (fun K hK=>?_)
   ·refine z0n 1 11 hK rfl (by rfl) (v:=.slice (some ⟨x.heap.size,0,none⟩) 30 30) (w':=x.alloc (.cells (z0d .i64 30 fun _=>0) 3)) ?_ True.intro ?_
    ·first|(go_simp;done)|(go_simp<;>first|exact ⟨rfl,rfl⟩|rfl)
    exact uh HS01 _ _ _ ⟨by kernel_rfl,_,_,rfl,(uh HP).two⟩
   ·refine z0n 2 3 hK rfl (by rfl) (v:=.pointer (some ⟨x.heap.size,0,none⟩)) (w':=x.alloc (.cells #[.slice none 0 0] 45)) ?_ True.intro ?_
    ·first|(go_simp;done)|(go_simp<;>first|exact ⟨rfl,rfl⟩|rfl)
    exact uh HS02 _ _ _ ⟨by kernel_rfl,_,_,rfl,(uh HP).three⟩
   ·refine z0n 3 4 hK rfl (by rfl) (v:=.pointer (some ⟨x.heap.size,0,none⟩)) (w':=x.alloc (.cells #[.slice none 0 0] 45)) ?_ True.intro ?_
    ·first|(go_simp;done)|(go_simp<;>first|exact ⟨rfl,rfl⟩|rfl)
    exact uh HS03 _ _ _ ⟨by kernel_rfl,_,_,rfl,(uh HP).four⟩
  have HS0:=qz hS
  clear hS
  refine z1d (fun l t x=>l=#[false,true,false,false,false,false]∧∃a1,t=ownT (.slice a n cap) undef undef undef (.slice (some ⟨a1,0,none⟩) 30 30)∧PS w x none (some a1) none none false) 5 ?_ (fun hS=>?_)
  ·rintro l t x ⟨rfl,a1,rfl,hp⟩
   have HP:=qz hp
   clear hp
   unfold ownT
   refine z5s (i:=0) (j:=2) (k:=3) (by kernel_rfl) rfl rfl rfl (fun K hK=>?_) (fun K hK=>?_) (fun K hK=>?_)
   ·refine z0n 0 10 hK rfl (by rfl) (v:=.slice (some ⟨x.heap.size,0,none⟩) 286 286) (w':=x.alloc (.cells (z0d .i64 286 fun _=>0) 3)) ?_ True.intro ?_
    ·first|(go_simp;done)|(go_simp<;>first|exact ⟨rfl,rfl⟩|rfl)
    exact uh HS01 _ _ _ ⟨by kernel_rfl,_,_,rfl,(uh HP).one⟩
   ·refine z0n 2 3 hK rfl (by rfl) (v:=.pointer (some ⟨x.heap.size,0,none⟩)) (w':=x.alloc (.cells #[.slice none 0 0] 45)) ?_ True.intro ?_
    ·first|(go_simp;done)|(go_simp<;>first|exact ⟨rfl,rfl⟩|rfl)
    exact uh HS12 _ _ _ ⟨by kernel_rfl,_,_,rfl,(uh HP).three⟩
   ·refine z0n 3 4 hK rfl (by rfl) (v:=.pointer (some ⟨x.heap.size,0,none⟩)) (w':=x.alloc (.cells #[.slice none 0 0] 45)) ?_ True.intro ?_
    ·first|(go_simp;done)|(go_simp<;>first|exact ⟨rfl,rfl⟩|rfl)
    exact uh HS13 _ _ _ ⟨by kernel_rfl,_,_,rfl,(uh HP).four⟩
  have HS1:=qz hS
  clear hS
  refine z1d (fun l t x=>l=#[false,false,true,false,false,false]∧∃a2,t=ownT (.slice a n cap) (.pointer (some ⟨a2,0,none⟩)) undef undef undef∧PS w x none none (some a2) none false) 5 ?_ (fun hS=>?_)
  ·rintro l t x ⟨rfl,a2,rfl,hp⟩
   have HP:=qz hp
   clear hp
   unfold ownT
   refine z5s (i:=0) (j:=1) (k:=3) (by kernel_rfl) rfl rfl rfl (fun K hK=>?_) (fun K hK=>?_) (fun K hK=>?_)
   ·refine z0n 0 10 hK rfl (by rfl) (v:=.slice (some ⟨x.heap.size,0,none⟩) 286 286) (w':=x.alloc (.cells (z0d .i64 286 fun _=>0) 3)) ?_ True.intro ?_
    ·first|(go_simp;done)|(go_simp<;>first|exact ⟨rfl,rfl⟩|rfl)
    exact uh HS02 _ _ _ ⟨by kernel_rfl,_,_,rfl,(uh HP).one⟩
   ·refine z0n 1 11 hK rfl (by rfl) (v:=.slice (some ⟨x.heap.size,0,none⟩) 30 30) (w':=x.alloc (.cells (z0d .i64 30 fun _=>0) 3)) ?_ True.intro ?_
    ·first|(go_simp;done)|(go_simp<;>first|exact ⟨rfl,rfl⟩|rfl)
    exact uh HS12 _ _ _ ⟨by kernel_rfl,_,_,rfl,(uh HP).two⟩
   ·refine z0n 3 4 hK rfl (by rfl) (v:=.pointer (some ⟨x.heap.size,0,none⟩)) (w':=x.alloc (.cells #[.slice none 0 0] 45)) ?_ True.intro ?_
    ·first|(go_simp;done)|(go_simp<;>first|exact ⟨rfl,rfl⟩|rfl)
    exact uh HS23 _ _ _ ⟨by kernel_rfl,_,_,rfl,(uh HP).four⟩
  have HS2:=qz hS
  clear hS
  refine z1d (fun l t x=>l=#[false,false,false,true,false,false]∧∃a3,t=ownT (.slice a n cap) undef (.pointer (some ⟨a3,0,none⟩)) undef undef∧PS w x none none none (some a3) false) 5 ?_ (fun hS=>?_)
  ·rintro l t x ⟨rfl,a3,rfl,hp⟩
   have HP:=qz hp
   clear hp
   unfold ownT
   refine z5s (i:=0) (j:=1) (k:=2) (by kernel_rfl) rfl rfl rfl (fun K hK=>?_) (fun K hK=>?_) (fun K hK=>?_)
   ·refine z0n 0 10 hK rfl (by rfl) (v:=.slice (some ⟨x.heap.size,0,none⟩) 286 286) (w':=x.alloc (.cells (z0d .i64 286 fun _=>0) 3)) ?_ True.intro ?_
    ·first|(go_simp;done)|(go_simp<;>first|exact ⟨rfl,rfl⟩|rfl)
    exact uh HS03 _ _ _ ⟨by kernel_rfl,_,_,rfl,(uh HP).one⟩
   ·refine z0n 1 11 hK rfl (by rfl) (v:=.slice (some ⟨x.heap.size,0,none⟩) 30 30) (w':=x.alloc (.cells (z0d .i64 30 fun _=>0) 3)) ?_ True.intro ?_
    ·first|(go_simp;done)|(go_simp<;>first|exact ⟨rfl,rfl⟩|rfl)
    exact uh HS13 _ _ _ ⟨by kernel_rfl,_,_,rfl,(uh HP).two⟩
   ·refine z0n 2 3 hK rfl (by rfl) (v:=.pointer (some ⟨x.heap.size,0,none⟩)) (w':=x.alloc (.cells #[.slice none 0 0] 45)) ?_ True.intro ?_
    ·first|(go_simp;done)|(go_simp<;>first|exact ⟨rfl,rfl⟩|rfl)
    exact uh HS23 _ _ _ ⟨by kernel_rfl,_,_,rfl,(uh HP).three⟩
  have HS3:=qz hS
  clear hS
  refine x6l (i:=0) (j:=1) (k:=2) (l:=3) (by kernel_rfl) rfl rfl rfl rfl (fun K hK=>?_) (fun K hK=>?_) (fun K hK=>?_) (fun K hK=>?_)
  ·refine z0n 0 10 hK rfl (by rfl) (v:=.slice (some ⟨y0.heap.size,0,none⟩) 286 286) (w':=y0.alloc (.cells (z0d .i64 286 fun _=>0) 3)) ?_ True.intro ?_
   ·first|(go_simp;done)|(go_simp<;>first|exact ⟨rfl,rfl⟩|rfl)
   exact uh HS0 _ _ _ ⟨by kernel_rfl,_,rfl,(uh HP).one⟩
  ·refine z0n 1 11 hK rfl (by rfl) (v:=.slice (some ⟨y0.heap.size,0,none⟩) 30 30) (w':=y0.alloc (.cells (z0d .i64 30 fun _=>0) 3)) ?_ True.intro ?_
   ·first|(go_simp;done)|(go_simp<;>first|exact ⟨rfl,rfl⟩|rfl)
   exact uh HS1 _ _ _ ⟨by kernel_rfl,_,rfl,(uh HP).two⟩
  ·refine z0n 2 3 hK rfl (by rfl) (v:=.pointer (some ⟨y0.heap.size,0,none⟩)) (w':=y0.alloc (.cells #[.slice none 0 0] 45)) ?_ True.intro ?_
   ·first|(go_simp;done)|(go_simp<;>first|exact ⟨rfl,rfl⟩|rfl)
   exact uh HS2 _ _ _ ⟨by kernel_rfl,_,rfl,(uh HP).three⟩
  ·refine z0n 3 4 hK rfl (by rfl) (v:=.pointer (some ⟨y0.heap.size,0,none⟩)) (w':=y0.alloc (.cells #[.slice none 0 0] 45)) ?_ True.intro ?_
   ·first|(go_simp;done)|(go_simp<;>first|exact ⟨rfl,rfl⟩|rfl)
   exact uh HS3 _ _ _ ⟨by kernel_rfl,_,rfl,(uh HP).four⟩
 case rest =>
  clear HP0 hm hm2
  obtain ⟨bn,bd,gn,gd,⟨rfl,rfl,r1,r2,r3,r4,r5,r6⟩⟩:=hcut
  have hne:gn≠gd:=by
   rintro rfl
   unfold z0c at r3 r4
   rw [r3] at r4
   have e:=Option.some.inj r4
   injection e with e1
   have:=congrArg Array.size e1
   simp [z0d] at this
  have i1:=z6r r3 r1
  have i2:=z6r r3 r2
  have i3:=z6r r4 r1
  have i4:=z6r r4 r2
  have HC:Hid (Calls Tryz.prog 79 #[.slice a n cap,.func (.func 111) #[] #[.pointer (some ⟨bn,0,none⟩)],.func (.func 112) #[] #[.pointer (some ⟨bd,0,none⟩)]] wc fun e w'=>e=.returned (.tuple #[])∧z0c w' .i64 3 gn 286 (z0l ts)∧z0c w' .i64 3 gd 30 (z0i ts)∧w'.cell? ⟨bn,0,none⟩=some (.slice (some ⟨gn,0,none⟩) 286 286)∧w'.cell? ⟨bd,0,none⟩=some (.slice (some ⟨gd,0,none⟩) 30 30)∧Below w.heap.size w w'):=qz (by
   rw [uh HN]
   refine (y6t ts a cap bn bd gn gd w wc (uh HTA) (uh HTO).1 (uh HTO).2 r6 r5.1 r5.2.1 hne ⟨Ne.symm i1,Ne.symm i3,Ne.symm i2,Ne.symm i4⟩ r1 r2 r3 r4).mono ?_
   rintro e w' ⟨rfl,q1,q2,q3⟩
   have k1:=(q3.keep bn (z0b r1) (Ne.symm i1) (Ne.symm i3)).trans r1
   have k2:=(q3.keep bd (z0b r2) (Ne.symm i2) (Ne.symm i4)).trans r2
   refine ⟨rfl,q1,q2,by simp only [World.cell?,k1];rfl,by simp only [World.cell?,k2];rfl,q3.os.trans r6.os,q3.tape.trans r6.tape,q3.output.trans r6.output,Nat.le_trans r6.size q3.size,fun k hk=>?_⟩
   rw [q3.keep k (Nat.lt_of_lt_of_le hk r6.size) (by omega) (by omega)]
   exact r6.block k hk)
  clear r1 r2 r3 r4 r5 r6 hne i1 i2 i3 i4 HTA HTO HN
  go_wp2_with fail
  refine (uh HC).mono ?_
  rintro e W1 ⟨rfl,a1,a2,c1,c2,b1⟩
  have HA2:=qz a2
  have HB1:=qz b1
  have HE1:=qz (x0u (z0l ts) 15 286 _ W1 (x1p a1) (by decide) (by decide) (by decide) (by decide) (uh HOK).t1)
  clear a1 a2 b1 HC
  go_wp2_with fail
  refine (uh HE1).mono ?_
  rintro e W2 ⟨g1,rfl,k1,k2,k3,k4⟩
  have c2':=z0a k4 c2
  have HX:Hid (oX ts=trim 257 286 (bl (z0l ts) 15 286)):=qz rfl
  have hxi:=z5p 257 286 (bl (z0l ts) 15 286) (by rw [k2];decide)
  rw [k2] at hxi
  have HT1:Hid (Calls Tryz.prog 113 #[.slice (some ⟨g1,0,none⟩) 286 286,.int .i64 257] W2 fun e w'=>e=.returned (.slice (some ⟨g1,0,none⟩) (oX ts).length 286)∧w'=W2):=qz (by
   have:=x0j (bl (z0l ts) 15 286) g1 0 286 257 W2 (fun j hj=>z7h k3 j (by rw [k2] at hj;exact hj)) (by rw [k2];decide) (by decide) (by decide) (by rw [k2];decide)
   rw [k2] at this
   exact this)
  have HA1:=qz k3
  have HXI:Hid (257≤(oX ts).length∧(oX ts).length≤286∧∀i,(oX ts).getD i 0=(bl (z0l ts) 15 286).getD i 0):=qz hxi
  have HB2:=qz ((uh HB1).trans (k4.mono (uh HB1).size))
  have HG1:Hid (w.heap.size≤g1):=qz (Nat.le_trans (uh HB1).size k1)
  have HA2':Hid (z0c W2 .i64 3 gd 30 (z0i ts)):=qz ((uh HA2).stays k4 (uh HA2).lt)
  clear k1 k2 k3 k4 hxi HX HA2 HB1 HE1 c1 c2
  go_wp2_with fail
  refine (uh HT1).mono ?_
  rintro e W ⟨rfl,rfl⟩
  have HE2:=qz (x0u (z0i ts) 15 30 _ W (x1p (uh HA2')) (by decide) (by decide) (by decide) (by decide) (uh HOK).t2)
  clear HT1
  go_wp2_with fail
  refine (uh HE2).mono ?_
  rintro e W3 ⟨g2,rfl,k1,k2,k3,k4⟩
  have hyi:=z5p 1 30 (bl (z0i ts) 15 30) (by rw [k2];decide)
  rw [k2] at hyi
  have HT2:Hid (Calls Tryz.prog 113 #[.slice (some ⟨g2,0,none⟩) 30 30,.int .i64 1] W3 fun e w'=>e=.returned (.slice (some ⟨g2,0,none⟩) (oY ts).length 30)∧w'=W3):=qz (by
   have:=x0j (bl (z0i ts) 15 30) g2 0 30 1 W3 (fun j hj=>z7h k3 j (by rw [k2] at hj;exact hj)) (by rw [k2];decide) (by decide) (by decide) (by rw [k2];decide)
   rw [k2] at this
   exact this)
  have HYI:Hid (1≤(oY ts).length∧(oY ts).length≤30∧∀i,(oY ts).getD i 0=(bl (z0i ts) 15 30).getD i 0):=qz hyi
  have HR1:Hid (∀V,Below W3.heap.size W3 V→RowI V g1 0 ((oX ts).map fun z:Nat=>(z:Int))∧z3h V (.slice (some ⟨g1,0,none⟩) (oX ts).length 286) (oX ts)):=qz (fun V hV=>row_of (((uh HA1).stays k4 (uh HA1).lt).stays hV (Nat.lt_of_lt_of_le (uh HA1).lt k4.size)) (oX ts) (uh HXI).2.1 (uh HXI).2.2)
  have HR2:Hid (∀V,Below W3.heap.size W3 V→RowI V g2 0 ((oY ts).map fun z:Nat=>(z:Int))∧z3h V (.slice (some ⟨g2,0,none⟩) (oY ts).length 30) (oY ts)):=qz (fun V hV=>row_of (k3.stays hV k3.lt) (oY ts) hyi.2.1 hyi.2.2)
  have HB3:=qz ((uh HB2).trans (k4.mono (uh HB2).size))
  have HL:Hid (g1<W3.heap.size∧g2<W3.heap.size):=qz ⟨Nat.lt_of_lt_of_le (uh HA1).lt k4.size,k3.lt⟩
  clear k1 k2 k3 k4 hyi HA1 HA2' HE2 c2' HB2 HG1
  go_wp2_with fail
  refine (uh HT2).mono ?_
  rintro e V3 ⟨rfl,rfl⟩
  clear HT2
  obtain ⟨W4,hW4⟩:∃W4,W4=V3.alloc (.cells #[.slice (some ⟨g1,0,none⟩) (oX ts).length 286,.slice (some ⟨g2,0,none⟩) (oY ts).length 30] 45):=⟨_,rfl⟩
  have b4:Below V3.heap.size V3 W4:=by rw [hW4];exact (Below.refl _ _).alloc (Nat.le_refl _) _
  have x4:W4.heap[V3.heap.size]?=some (.cells #[.slice (some ⟨g1,0,none⟩) (oX ts).length 286,.slice (some ⟨g2,0,none⟩) (oY ts).length 30] 45 (0,0)):=by rw [hW4];exact heap_alloc_new _ _
  have HC4:Hid (Calls Tryz.prog 116 #[.slice (some ⟨V3.heap.size,0,none⟩) 2 2] W4 fun e w'=>∃v,e=.returned v∧w'.ownsRow W4.heap.size 3 1 v ((oX ts++oY ts).map fun z:Nat=>(z:Int)).length (((oX ts++oY ts).map fun z:Nat=>(z:Int)).map iv)∧Below W4.heap.size W4 w'):=qz (by
   have hx:=uh HXI
   have hy:=uh HYI
   have:=x5o ((oX ts).map fun z:Nat=>(z:Int)) ((oY ts).map fun z:Nat=>(z:Int)) V3.heap.size g1 0 286 g2 0 30 W4 (by simpa using x4) (uh HR1 W4 b4).1 (uh HR2 W4 b4).1 (Nat.lt_of_lt_of_le (uh HL).1 b4.size) (Nat.lt_of_lt_of_le (uh HL).2 b4.size) (by simp;omega) (by simp;omega) (by simp;omega) (by simp;omega) (by simp;omega) (by simp;omega)
   rw [←List.map_append] at this
   exact this)
  have HB4:=qz b4
  clear b4 x4
  go_wp2_with fail
  rw [←hW4]
  clear hW4
  refine (uh HC4).mono ?_
  rintro e W5 ⟨v5,rfl,k1,k2⟩
  obtain ⟨a5,cap5,e5,k3,k4⟩:=y2f k1
  obtain ⟨nl,hnl⟩:∃nl,nl=((oX ts++oY ts).map fun z:Nat=>(z:Int)).length:=⟨_,rfl⟩
  obtain rfl:v5=.slice a5 nl cap5:=by rw [e5,hnl]
  have HRW:Hid (Calls Tryz.prog 115 #[.slice a5 nl cap5] W5 fun e w'=>∃wv,e=.returned wv∧w'.ownsRow W5.heap.size 141 3 wv (oR ts).length (wcs (oR ts))∧Below W5.heap.size W5 w'):=qz (by
   rw [hnl]
   rw [e5] at k4
   exact x0b _ a5 cap5 W5 k4 k3 (by
    have hx:=uh HXI
    have hy:=uh HYI
    simp
    omega))
  have HB5:Hid (Below V3.heap.size V3 W5):=qz ((uh HB4).trans (k2.mono (uh HB4).size))
  clear k1 k2 k3 k4 HC4 HB4 e5 hnl
  go_wp2_with fail
  refine (uh HRW).mono ?_
  rintro e W6 ⟨wv6,rfl,k1,k2⟩
  obtain ⟨a6,cap6,rfl,k3,k4⟩:=x7v k1
  have HI6:=qz (x6q (oR ts) a6 cap6 W6 k3 (uh HOK).ro (uh HOK).rl (uh HOK).t3)
  have HB6:Hid (Below V3.heap.size V3 W6):=qz ((uh HB5).trans (k2.mono (uh HB5).size))
  have HW6:Hid (z0f W6 a6 (oR ts)∧∀ad,a6=some ad→V3.heap.size≤ad.block∧ad.block<W6.heap.size):=qz ⟨k3,fun ad e=>⟨Nat.le_trans (uh HB5).size (k4 ad e).1,(k4 ad e).2⟩⟩
  clear k1 k2 k3 k4 HRW HB5
  go_wp2_with fail
  refine (uh HI6).mono ?_
  rintro e W7 ⟨gz,rfl,k1,k2,k3,k4⟩
  have HB7:Hid (Below V3.heap.size V3 W7):=qz ((uh HB6).trans (k4.mono (uh HB6).size))
  have HW7:Hid (z0f W7 a6 (oR ts)∧∀ad,a6=some ad→V3.heap.size≤ad.block∧ad.block<W7.heap.size):=qz ⟨(uh HW6).1.keep fun ad e _ _=>k4.block _ ((uh HW6).2 ad e).2,fun ad e=>⟨((uh HW6).2 ad e).1,Nat.lt_of_lt_of_le ((uh HW6).2 ad e).2 k4.size⟩⟩
  have HZ7:Hid (z0c W7 .i64 3 gz 19 fun j=>(oZ ts).getD j 0):=qz k3
  have HZL:Hid ((oZ ts).length=19):=qz k2
  have HN7:Hid (Calls Tryz.prog 26 #[.slice (some ⟨g1,0,none⟩) (oX ts).length 286,.slice (some ⟨g2,0,none⟩) (oY ts).length 30] W7 fun e w'=>∃c1 c2,e=.returned (.agg #[.pointer (some ⟨c1,0,none⟩),.pointer (some ⟨c2,0,none⟩)])∧TwoCodes (oX ts) (oY ts) w' c1 c2 W7.heap.size w'.heap.size∧Below W7.heap.size W7 w'):=qz (by
   have hx:=uh HXI
   have hy:=uh HYI
   have ho:=uh HOK
   exact y1z (oX ts) (oY ts) _ _ W7 (uh HR1 W7 (uh HB7)).2 (uh HR2 W7 (uh HB7)).2 ⟨by omega,by omega⟩ ⟨by omega,by omega⟩ ho.x15 ho.y15 ho.xo ho.yo)
  clear k1 k2 k3 k4 HI6 HB6 HW6
  go_wp2_with fail
  refine (uh HN7).mono ?_
  rintro e W8 ⟨p1,p2,rfl,k1,k2⟩
  have HB8:Hid (Below V3.heap.size V3 W8):=qz ((uh HB7).trans (k2.mono (uh HB7).size))
  have HW8:Hid (z0f W8 a6 (oR ts)∧∀ad,a6=some ad→V3.heap.size≤ad.block∧ad.block<W8.heap.size):=qz ⟨(uh HW7).1.keep fun ad e _ _=>k2.block _ ((uh HW7).2 ad e).2,fun ad e=>⟨((uh HW7).2 ad e).1,Nat.lt_of_lt_of_le ((uh HW7).2 ad e).2 k2.size⟩⟩
  have HZ8:Hid (z0c W8 .i64 3 gz 19 fun j=>(oZ ts).getD j 0):=qz ((uh HZ7).stays k2 (uh HZ7).lt)
  have HT8:Hid (TwoCodes (oX ts) (oY ts) W8 p1 p2 V3.heap.size W8.heap.size):=qz (by
   obtain ⟨⟨x,y,z1,z2,z3⟩,⟨x',y',z1',z2',z3'⟩⟩:=k1
   exact ⟨⟨x,y,z1,Nat.le_trans (uh HB7).size z2,z3⟩,⟨x',y',z1',Nat.le_trans (uh HB7).size z2',z3'⟩⟩)
  have HH8:=qz (y5g (oX ts).length (oY ts).length gz (fun j=>(oZ ts).getD j 0) W8 (uh HZ8) (uh HXI).1 (uh HXI).2.1 (uh HYI).1 (uh HYI).2.1)
  clear k1 k2 HN7 HB7 HW7 HZ7
  go_wp2_with fail
  refine (uh HH8).mono ?_
  rintro e W9 ⟨fv,rfl,k1,k2⟩
  obtain ⟨a9,cap9,e9,k3,k4⟩:=x3j k1
  obtain ⟨nf,hnf⟩:∃nf,nf=(oF ts).length:=⟨_,rfl⟩
  obtain rfl:fv=.slice a9 nf cap9:=by rw [e9,hnf];rfl
  have HF9:Hid (z7d W9 a9 (oF ts)∧∀ad,a9=some ad→V3.heap.size≤ad.block∧ad.block<W9.heap.size):=qz ⟨k3,fun ad e=>⟨Nat.le_trans (uh HB8).size (k4 ad e).1,(k4 ad e).2⟩⟩
  have HB9:Hid (Below V3.heap.size V3 W9):=qz ((uh HB8).trans (k2.mono (uh HB8).size))
  have HW9:Hid (z0f W9 a6 (oR ts)∧∀ad,a6=some ad→V3.heap.size≤ad.block∧ad.block<W9.heap.size):=qz ⟨(uh HW8).1.keep fun ad e _ _=>k2.block _ ((uh HW8).2 ad e).2,fun ad e=>⟨((uh HW8).2 ad e).1,Nat.lt_of_lt_of_le ((uh HW8).2 ad e).2 k2.size⟩⟩
  have HZ9:Hid (z0c W9 .i64 3 gz 19 fun j=>(oZ ts).getD j 0):=qz ((uh HZ8).stays k2 (uh HZ8).lt)
  have HT9:Hid (TwoCodes (oX ts) (oY ts) W9 p1 p2 V3.heap.size W9.heap.size):=qz (by
   obtain ⟨⟨x,y,z1,z2,z3⟩,⟨x',y',z1',z2',z3'⟩⟩:=(uh HT8).keep (w':=W9) fun k _ h=>k2.block k h
   exact ⟨⟨x,y,z1,z2,Nat.le_trans z3 k2.size⟩,⟨x',y',z1',z2',Nat.le_trans z3' k2.size⟩⟩)
  have HNF:=qz hnf
  obtain ⟨nr,hnr⟩:∃nr,nr=(oR ts).length:=⟨_,rfl⟩
  have HNR:=qz hnr
  rw [←hnr]
  clear k1 k2 k3 k4 e9 hnf hnr HH8 HB8 HW8 HZ8 HT8
  obtain ⟨W10,hW10⟩:∃W10,W10=W9.alloc (.cells #[.pointer (some ⟨p1,0,none⟩),.pointer (some ⟨p2,0,none⟩),.slice a9 nf cap9,.slice a6 nr cap6,.pointer none] 113):=⟨_,rfl⟩
  have b10:Below W9.heap.size W9 W10:=by rw [hW10];exact (Below.refl _ _).alloc (Nat.le_refl _) _
  have x10:W10.heap[W9.heap.size]?=some (.cells #[.pointer (some ⟨p1,0,none⟩),.pointer (some ⟨p2,0,none⟩),.slice a9 nf cap9,.slice a6 nr cap6,.pointer none] 113 (0,0)):=by rw [hW10];exact heap_alloc_new _ _
  have hs10:W10.heap.size=W9.heap.size+1:=by rw [hW10];simp
  have HNW:Hid (Calls Tryz.prog 60 #[.slice (some ⟨gz,0,none⟩) 19 19,.int .i64 7,.bool false] W10 fun e w'=>∃cp,e=.returned (.tuple #[.pointer (some ⟨cp,0,none⟩),.int .i64 0])∧Code (oZ ts) w' cp W10.heap.size w'.heap.size∧Below W10.heap.size W10 w'):=qz (by
   have hz:=row_of ((uh HZ9).stays b10 (uh HZ9).lt) (oZ ts) (by rw [uh HZL];decide) (fun _=>rfl)
   have h2:=hz.2
   rw [uh HZL] at h2
   refine (rnew (oZ ts) 7 false _ W10 h2 (by decide) (by rw [uh HZL];decide) (uh HOK).z7).mono ?_
   rintro e w' ⟨hb,h|⟨_,cp,h3,h4⟩⟩
   ·rw [(uh HOK).zo] at h;cases h.1
   ·exact ⟨cp,h3,h4,hb⟩)
  have X10:=qz x10
  have HB10:=qz b10
  have HS10:=qz hs10
  clear x10 b10 hs10
  go_wp2_with fail
  rw [←hW10]
  clear hW10
  refine (uh HNW).mono ?_
  rintro e W11 ⟨ci,rfl,q1,q2⟩
  obtain ⟨ob,hob⟩:∃ob,ob=W9.heap.size:=⟨_,rfl⟩
  have x11:W11.heap[ob]?=some (.cells #[.pointer (some ⟨p1,0,none⟩),.pointer (some ⟨p2,0,none⟩),.slice a9 nf cap9,.slice a6 nr cap6,.pointer none] 113 (0,0)):=by
   rw [hob,q2.block _ (z0b (uh X10))];exact uh X10
  have d4:W11.cell? ⟨ob,4,none⟩=some (.pointer none):=by simp only [World.cell?,x11];rfl
  have f4:W11.frozen? ⟨ob,4,none⟩=false:=by simp [World.frozen?,x11]
  have HFIN:Hid (OwnAt w (W11.setCell ⟨ob,4,none⟩ (.pointer (some ⟨ci,0,none⟩))) ob ts p1 p2∧Below w.heap.size w (W11.setCell ⟨ob,4,none⟩ (.pointer (some ⟨ci,0,none⟩)))):=qz (by
   obtain ⟨W12,hW12⟩:∃W12,W12=W11.setCell ⟨ob,4,none⟩ (.pointer (some ⟨ci,0,none⟩)):=⟨_,rfl⟩
   rw [←hW12]
   have x12:W12.heap[ob]?=some (.cells #[.pointer (some ⟨p1,0,none⟩),.pointer (some ⟨p2,0,none⟩),.slice a9 nf cap9,.slice a6 nr cap6,.pointer (some ⟨ci,0,none⟩)] 113 (0,0)):=by
    rw [hW12,heap_setCell_same _ ob 4 _ _ _ x11];rfl
   have z12:W12.heap.size=W11.heap.size:=by rw [hW12];simp
   have hbw:=(uh HB3).size
   have hb9:=(uh HB9).size
   have h10:=uh HS10
   have q2s:=q2.size
   have keep:∀k,k<W9.heap.size→W12.heap[k]?=W9.heap[k]?:=fun k hk=>by
    rw [hW12,heap_setCell_other _ _ _ _ (by show k≠ob;omega),q2.block k (by omega),(uh HB10).block k hk]
   have keep2:∀k,W10.heap.size≤k→W12.heap[k]?=W11.heap[k]?:=fun k hk=>by
    rw [hW12,heap_setCell_other _ _ _ _ (by show k≠ob;omega)]
   refine ⟨⟨by omega,by simp only [World.cell?,x12];rfl,by simp only [World.cell?,x12];rfl,?_,a9,a6,cap9,cap6,ci,W10.heap.size,W11.heap.size,⟨?_,?_,?_,?_,?_,?_,?_⟩,by omega,?_,?_⟩,?_⟩
   ·obtain ⟨⟨x,y,z1,z2,z3⟩,⟨x',y',z1',z2',z3'⟩⟩:=(uh HT9).keep (w':=W12) fun k _ h=>keep k h
    exact ⟨⟨x,y,z1,by omega,by omega⟩,⟨x',y',z1',by omega,by omega⟩⟩
   ·rw [←uh HNF];simp only [World.cell?,x12];rfl
   ·rw [←uh HNR];simp only [World.cell?,x12];rfl
   ·simp only [World.cell?,x12];rfl
   ·exact (uh HF9).1.keep fun ad e _ h=>keep _ h
   ·exact (uh HW9).1.keep fun ad e _ h=>keep _ h
   ·exact q1.keep fun k h1 _=>keep2 k h1
   ·omega
   ·exact fun ad e=>⟨Nat.le_trans hbw ((uh HF9).2 ad e).1,by have:=((uh HF9).2 ad e).2;omega⟩
   ·exact fun ad e=>⟨Nat.le_trans hbw ((uh HW9).2 ad e).1,by have:=((uh HW9).2 ad e).2;omega⟩
   ·have h1:=uh HB3
    have h2:=uh HB9
    have h3:=uh HB10
    have e1:W12.os=W11.os:=by rw [hW12];rfl
    have e2:W12.tape=W11.tape:=by rw [hW12];rfl
    have e3:W12.output=W11.output:=by rw [hW12];rfl
    refine ⟨e1.trans (q2.os.trans (h3.os.trans (h2.os.trans h1.os))),e2.trans (q2.tape.trans (h3.tape.trans (h2.tape.trans h1.tape))),e3.trans (q2.output.trans (h3.output.trans (h2.output.trans h1.output))),by omega,fun k hk=>?_⟩
    rw [keep k (by omega),h2.block k (by omega),h1.block k hk])
  rw [←hob]
  clear q1 q2 HNW x11 hob X10 HB10 HS10 HB9 HW9 HF9 HZ9 HT9 HB3
  go_wp2_with fail
  go_ret
  exact ⟨ob,p1,p2,rfl,(uh HFIN).1,(uh HFIN).2⟩
end W4
namespace W4
open Go.RowKit Mth Infl Defl
attribute [local go_sem ↓] wp_at_zero wp_at_succ
theorem OwnAt.keep {w0 w w':World} {ob c1 c2:Nat} {ts:List T} (h:OwnAt w0 w ob ts c1 c2) (hk:∀k,w0.heap.size≤k→k<w.heap.size→w'.heap[k]?=w.heap[k]?) (hs:w.heap.size≤w'.heap.size):OwnAt w0 w' ob ts c1 c2:=by
 have hob:ob<w.heap.size:=z1e h.p1
 have ho:=hk ob h.ge hob
 obtain ⟨fa,ra,fc,rc,ci,xl,xh,hh,q1,q2,q3⟩:=h.head
 refine ⟨h.ge,?_,?_,?_,fa,ra,fc,rc,ci,xl,xh,hh.keep ho (fun ad e=>hk _ (q2 ad e).1 (q2 ad e).2) (fun ad e=>hk _ (q3 ad e).1 (q3 ad e).2) (fun k a b=>hk k (Nat.le_trans q1 a) (Nat.lt_of_lt_of_le b hh.hi)) hs,q1,fun ad e=>⟨(q2 ad e).1,Nat.lt_of_lt_of_le (q2 ad e).2 hs⟩,fun ad e=>⟨(q3 ad e).1,Nat.lt_of_lt_of_le (q3 ad e).2 hs⟩⟩
 ·have:=h.p1;simp only [World.cell?] at this ⊢;rw [ho];exact this
 ·have:=h.p2;simp only [World.cell?] at this ⊢;rw [ho];exact this
 ·obtain ⟨⟨x,y,z1,z2,z3⟩,⟨x',y',z1',z2',z3'⟩⟩:=h.two.keep hk
  exact ⟨⟨x,y,z1,z2,Nat.le_trans z3 hs⟩,⟨x',y',z1',z2',Nat.le_trans z3' hs⟩⟩
theorem y7u (ts:List T) (a:Option Addr) (cap xb:Nat) (last:Bool) (plain fx fy:Value) (w:World) (hx:z3j w xb last plain (.slice a ts.length cap) fx fy (.pointer none)) (hta:z3e w a ts) (hto:y4i ts) (hfew:ts.length≤1000000000) (hok:OwnOk ts) :
  Calls Tryz.prog 57 #[.pointer (some ⟨xb,0,none⟩)] w fun e w'=>∃ob c1 c2,e=.returned (.pointer (some ⟨ob,0,none⟩))∧z3j w' xb last plain (.slice a ts.length cap) fx fy (.pointer (some ⟨ob,0,none⟩))∧OwnAt w w' ob ts c1 c2∧Chb xb w w':=by
 obtain ⟨_,_,q2,_,_,q5⟩:=hx.c
 have HX:=qz hx
 have HN:=qz (x7k ts a cap w hta hto hfew hok)
 obtain ⟨n,hn⟩:∃n,n=ts.length:=⟨_,rfl⟩
 rw [←hn] at HX HN q2
 have HNN:=qz hn
 clear hta hto hfew hok hx hn
 go_enter Tryz.func57,Tryz.ntmps57
 go_wp2_with fail
 refine (uh HN).mono ?_
 rintro e W1 ⟨ob,c1,c2,rfl,h1,h2⟩
 have x1:W1.heap[xb]?=some (.cells #[.bool last,plain,.slice a n cap,fx,fy,.pointer none] 65 (0,0)):=(h2.block _ (z0b (uh HX))).trans (uh HX)
 have d5:W1.cell? ⟨xb,5,none⟩=some (.pointer none):=by simp only [World.cell?,x1];rfl
 have f5:W1.frozen? ⟨xb,5,none⟩=false:=by simp [World.frozen?,x1]
 have x2:(W1.setCell ⟨xb,5,none⟩ (.pointer (some ⟨ob,0,none⟩))).heap[xb]?=some (.cells #[.bool last,plain,.slice a n cap,fx,fy,.pointer (some ⟨ob,0,none⟩)] 65 (0,0)):=by rw [heap_setCell_same _ xb 5 _ _ _ x1];rfl
 have e5:(W1.setCell ⟨xb,5,none⟩ (.pointer (some ⟨ob,0,none⟩))).cell? ⟨xb,5,none⟩=some (.pointer (some ⟨ob,0,none⟩)):=by simp only [World.cell?,x2];rfl
 have hxl:=z0b (uh HX)
 have HF:Hid (z3j (W1.setCell ⟨xb,5,none⟩ (.pointer (some ⟨ob,0,none⟩))) xb last plain (.slice a n cap) fx fy (.pointer (some ⟨ob,0,none⟩))∧OwnAt w (W1.setCell ⟨xb,5,none⟩ (.pointer (some ⟨ob,0,none⟩))) ob ts c1 c2∧Chb xb w (W1.setCell ⟨xb,5,none⟩ (.pointer (some ⟨ob,0,none⟩)))):=qz ⟨x2,h1.keep (fun k k1 k2=>by rw [heap_setCell_other _ _ _ _ (by show k≠xb;omega)]) (by simp),⟨h2.os,h2.tape,h2.output,by rw [World.size_setCell];exact h2.size,fun k hk hne=>by rw [heap_setCell_other _ _ _ _ hne];exact h2.block k hk⟩⟩
 clear h1 h2 x1 x2 HN HX q2 q5
 go_wp2_with fail
 go_ret
 rw [←uh HNN]
 exact ⟨ob,c1,c2,rfl,uh HF⟩
theorem y7v (ob xb:Nat) (w:World) (hx:w.cell? ⟨xb,5,none⟩=some (.pointer (some ⟨ob,0,none⟩))) :
  Calls Tryz.prog 57 #[.pointer (some ⟨xb,0,none⟩)] w fun e w'=>e=.returned (.pointer (some ⟨ob,0,none⟩))∧w'=w:=by
 go_enter Tryz.func57,Tryz.ntmps57
 go_wp2_with fail
 go_ret
 exact ⟨rfl,rfl⟩
end W4
namespace W4
open Go.RowKit Mth Infl Defl
attribute [local go_sem ↓] wp_at_zero wp_at_succ
structure OwnGood (ts:List T):Prop where
 ok:OwnOk ts
 by_:TokBy (oX ts) (oY ts) ts
 head:HeadOk (oF ts) (oR ts) (oZ ts)
theorem x6k {fs:List (Nat × Nat)} {rs:List Wd} {z:List Nat} (h:HeadOk fs rs z):(z1z fs++z2o z rs).length≤33000:=by
 have h1:=h.flen fs.length (Nat.le_refl _)
 have h2:=h.wlen rs.length (Nat.le_refl _)
 rw [List.take_length] at h1 h2
 rw [List.length_append]
 have:=h.nf
 have:=h.nr
 omega
theorem y8k (ts:List T) (a:Option Addr) (cap xb:Nat) (at_:Int) (last:Bool) (plain fx fy:Value) (w:World) (hx:z3j w xb last plain (.slice a ts.length cap) fx fy (.pointer none)) (hta:z3e w a ts) (hne:∀ad,a=some ad→0<ts.length→ad.block≠xb) (hg:OwnGood ts) :
  Calls Tryz.prog 24 #[.pointer (some ⟨xb,0,none⟩),.int .i64 at_] w fun e w'=>∃ob c1 c2,e=.returned (.int .i64 ((3+(z1z (oF ts)++z2o (oZ ts) (oR ts)).length+(z2h (oX ts) (oY ts) ts++wb (oX ts) 256).length:Nat):Int))∧z3j w' xb last plain (.slice a ts.length cap) fx fy (.pointer (some ⟨ob,0,none⟩))∧OwnAt w w' ob ts c1 c2∧Chb xb w w':=by
 have HO:=qz (y7u ts a cap xb last plain fx fy w hx hta hg.by_.ok hg.by_.few hg.ok)
 have hn1:=x6k hg.head
 have hn2:=w3l hg.by_
 have HG:=qz hg
 have HTA:Hid (∀y,Chb xb w y→z3e y a ts):=qz (fun y hy=>hta.keep fun ad ha hp=>by
  obtain ⟨b,off,hab,q1,q2,q3⟩:=hta 0 hp
  have:=hne ad ha hp
  rw [ha] at hab
  obtain rfl:ad=_:=Option.some.inj hab
  exact hy.keep b (z1e q1) this)
 have HW58:Hid (∀ (y:World) (ob c1 c2:Nat),OwnAt w y ob ts c1 c2→Calls Tryz.prog 58 #[.pointer (some ⟨ob,0,none⟩)] y fun e w'=>e=.returned (.int .i64 ((z1z (oF ts)++z2o (oZ ts) (oR ts)).length:Int))∧Below y.heap.size y w'):=qz (fun y ob c1 c2 h=>by
  obtain ⟨fa,ra,fc,rc,ci,xl,xh,hh,_⟩:=h.head
  exact y8j ob _ _ _ fa ra fc rc ci xl xh y hh hg.head)
 have HW55:Hid (∀ (y:World) (ob c1 c2:Nat),OwnAt w y ob ts c1 c2→z3e y a ts→Calls Tryz.prog 55 #[.agg #[.pointer (some ⟨c1,0,none⟩),.pointer (some ⟨c2,0,none⟩)],.slice a ts.length cap] y fun e w'=>e=.returned (.int .i64 ((z2h (oX ts) (oY ts) ts++wb (oX ts) 256).length:Int))∧Below y.heap.size y w'):=qz (fun y ob c1 c2 h ht=>z8p (oX ts) (oY ts) ts a cap c1 c2 _ _ y h.two (Nat.le_refl _) ht hg.by_)
 generalize (z1z (oF ts)++z2o (oZ ts) (oR ts)).length=M1 at hn1 HW58 ⊢
 generalize (z2h (oX ts) (oY ts) ts++wb (oX ts) 256).length=M2 at hn2 HW55 ⊢
 obtain ⟨n,hnn⟩:∃n,n=ts.length:=⟨_,rfl⟩
 have HNN:=qz hnn
 rw [←hnn] at HO HW55
 clear hg hx hta hne hnn HG
 go_enter Tryz.func24,Tryz.ntmps24
 go_wp2_with fail
 refine (uh HO).mono ?_
 rintro e W1 ⟨ob,c1,c2,rfl,h1,h2,h3⟩
 have HCL:Hid (∀y,Below W1.heap.size W1 y→y.cell? ⟨ob,0,none⟩=some (.pointer (some ⟨c1,0,none⟩))∧y.cell? ⟨ob,1,none⟩=some (.pointer (some ⟨c2,0,none⟩))∧y.cell? ⟨xb,2,none⟩=some (.slice a n cap)):=qz (fun y hy=>⟨z0a hy h2.p1,z0a hy h2.p2,z0a hy h1.c.2.2.1⟩)
 have HOA:Hid (∀y,Below W1.heap.size W1 y→OwnAt w y ob ts c1 c2):=qz (fun y hy=>h2.keep (fun k _ h=>hy.block k h) hy.size)
 have HBA:Hid (∀y,Below W1.heap.size W1 y→z3j y xb last plain (.slice a n cap) fx fy (.pointer (some ⟨ob,0,none⟩))∧Chb xb w y):=qz (fun y hy=>⟨(hy.block _ (z0b h1)).trans h1,h3.trans (Chb.of_below hy)⟩)
 clear h1 h2 h3 HO
 go_wp2_with fail
 refine wp_region_noPanic ?_
 refine wp_region_held_drew (S:=fun y=>Below W1.heap.size W1 y) (by kernel_rfl) ⟨rfl,rfl,rfl,Nat.le_refl _,fun _ _=>rfl⟩ (fun hHeld=>?_)
 refine hT 0 8 rfl rfl hHeld nPp (v:=?_) (fun x hSx=>?_) ?_
 rotate_left 1
 ·go_simp<;>with_reducible rfl
 simp only [sA,sB]
 refine hT 3 11 rfl rfl hHeld nPp (v:=?_) (fun x hSx=>?_) ?_
 rotate_left 1
 ·go_simp<;>with_reducible rfl
 simp only [sA,sB]
 refine hT 4 12 rfl rfl hHeld nPp (v:=?_) (fun x hSx=>?_) ?_
 rotate_left 1
 ·go_simp<;>with_reducible rfl
 simp only [sA,sB]
 refine hT 5 13 rfl rfl hHeld nPp (v:=?_) (fun x hSx=>?_) ?_
 rotate_left 1
 ·go_simp<;>with_reducible rfl
 simp only [sA,sB]
 refine hT 6 14 rfl rfl hHeld nPp (v:=?_) (fun x hSx=>?_) ?_
 rotate_left 1
 ·obtain ⟨d0,d1,d2⟩:=uh HCL x hSx;go_simp<;>with_reducible rfl
 simp only [sA,sB]
 refine hT 7 15 rfl rfl hHeld nPp (v:=?_) (fun x hSx=>?_) ?_
 rotate_left 1
 ·go_simp<;>with_reducible rfl
 simp only [sA,sB]
 refine hT 8 16 rfl rfl hHeld nPp (v:=?_) (fun x hSx=>?_) ?_
 rotate_left 1
 ·go_simp<;>with_reducible rfl
 simp only [sA,sB]
 refine hT 9 17 rfl rfl hHeld nPp (v:=?_) (fun x hSx=>?_) ?_
 rotate_left 1
 ·go_simp<;>with_reducible rfl
 simp only [sA,sB]
 refine hT 10 18 rfl rfl hHeld nPp (v:=?_) (fun x hSx=>?_) ?_
 rotate_left 1
 ·obtain ⟨d0,d1,d2⟩:=uh HCL x hSx;go_simp<;>with_reducible rfl
 simp only [sA,sB]
 refine z0u 1 9 (by kernel_rfl) rfl rfl (by rfl) (by go_simp<;>exact ⟨rfl,rfl⟩) ?_
 refine (uh HW58 _ ob c1 c2 (uh HOA _ hHeld)).mono ?_
 rintro e W2 ⟨rfl,k2⟩
 have hH2:Below W1.heap.size W1 W2:=hHeld.trans (k2.mono hHeld.size)
 refine ⟨_,rfl,hH2,?_⟩
 simp only [sA,sB]
 clear k2 hHeld
 have hHeld:=hH2
 clear hH2
 refine hT 2 10 rfl rfl hHeld nPp (v:=.int .i64 (3+(M1:Int))) (fun x hSx=>?_) ?_
 ·first|(go_simp;done)|(go_simp<;>first|exact ⟨rfl,rfl⟩|rfl|exact IntWalk.i64_in _ (by omega))
 simp only [sA,sB]
 refine z0u 11 19 (by kernel_rfl) rfl rfl (by rfl) (by go_simp<;>exact ⟨rfl,rfl⟩) ?_
 refine (uh HW55 _ ob c1 c2 (uh HOA _ hHeld) (uh HTA _ (uh HBA _ hHeld).2)).mono ?_
 rintro e W3 ⟨rfl,k3⟩
 have HB3:Hid (Below W1.heap.size W1 W3):=qz (hHeld.trans (k3.mono hHeld.size))
 refine ⟨_,rfl,uh HB3,?_⟩
 simp only [sA,sB]
 clear k3 hHeld
 refine hO 12 20 rfl rfl (v:=.int .i64 (3+(M1:Int)+(M2:Int))) (w':=W3) ?_ (uh HB3) ?_
 ·first|(go_simp;done)|(go_simp<;>first|exact ⟨rfl,rfl⟩|rfl|exact IntWalk.i64_in _ (by omega))
 simp only [sA,sB]
 refine hO 13 4 rfl rfl (v:=.int .i64 (3+(M1:Int)+(M2:Int))) (w':=W3) ?_ (uh HB3) ?_
 ·first|(go_simp;done)|(go_simp<;>first|exact ⟨rfl,rfl⟩|rfl)
 simp only [sA,sB]
 refine dN ?_
 go_wp2_with fail
 go_ret
 rw [show ((3+M1+M2:Nat):Int)=3+(M1:Int)+(M2:Int) by omega,←uh HNN]
 exact ⟨ob,c1,c2,rfl,(uh HBA _ (uh HB3)).1,uh HOA _ (uh HB3),(uh HBA _ (uh HB3)).2⟩
theorem x3o (ts:List T) (a:Option Addr) (cap xb pb ob c1 c2:Nat) (last:Bool) (plain fx fy:Value) (wB w0 w:World) (v0:Value) (L:List Bool) (h:WrAt w0 v0 pb L w) (hsx:Safe w0 v0 pb xb) (hx:z3j w0 xb last plain (.slice a ts.length cap) fx fy (.pointer (some ⟨ob,0,none⟩))) (ho:OwnAt wB w0 ob ts c1 c2) (hso:∀k,wB.heap.size≤k→k<w0.heap.size→Safe w0 v0 pb k) (hta:z3e w0 a ts) (hts:∀ad,a=some ad→0<ts.length→Safe w0 v0 pb ad.block) (hg:OwnGood ts) (hb:L.length≤700000000000000) :
  Calls Tryz.prog 25 #[.pointer (some ⟨xb,0,none⟩),.pointer (some ⟨pb,0,none⟩)] w fun e w'=>e=.returned (.tuple #[])∧WrAt w0 v0 pb (L++(head last.toNat 2++((z1z (oF ts)++z2o (oZ ts) (oR ts))++(z2h (oX ts) (oY ts) ts++wb (oX ts) 256)))) w':=by
 obtain ⟨q0,_,q2,q3,q4,q5⟩:=hx.c
 have hobs:Safe w0 v0 pb ob:=hso ob ho.ge (z1e ho.p1)
 have HCL:Hid (∀L' y,WrAt w0 v0 pb L' y→y.cell? ⟨ob,0,none⟩=some (.pointer (some ⟨c1,0,none⟩))∧y.cell? ⟨ob,1,none⟩=some (.pointer (some ⟨c2,0,none⟩))∧y.cell? ⟨xb,2,none⟩=some (.slice a ts.length cap)):=qz (fun L' y hy=>⟨hy.cell (p:=⟨ob,0,none⟩) hobs ho.p1,hy.cell (p:=⟨ob,1,none⟩) hobs ho.p2,hy.cell (p:=⟨xb,2,none⟩) hsx q2⟩)
 have HBG:=qz (y4q xb pb 3 last w0 w v0 L h hsx q0 (by omega) (by omega) (by omega))
 have HOC:Hid (∀L' y,WrAt w0 v0 pb L' y→Calls Tryz.prog 57 #[.pointer (some ⟨xb,0,none⟩)] y fun e w'=>e=.returned (.pointer (some ⟨ob,0,none⟩))∧w'=y):=qz (fun L' y hy=>y7v ob xb y (hy.cell (p:=⟨xb,5,none⟩) hsx q5))
 have HPH:Hid (∀y,WrAt w0 v0 pb (L++head last.toNat (3-1)) y→Calls Tryz.prog 59 #[.pointer (some ⟨ob,0,none⟩),.pointer (some ⟨pb,0,none⟩)] y fun e w'=>e=.returned (.tuple #[])∧WrAt w0 v0 pb ((L++head last.toNat 2)++(z1z (oF ts)++z2o (oZ ts) (oR ts))) w'):=qz (fun y hy=>by
  obtain ⟨fa,ra,fc,rc,ci,xl,xh,hh,z1,z2,z3⟩:=ho.head
  exact x3m ob pb _ _ _ fa ra fc rc ci xl xh w0 y v0 _ hy hh hg.head hobs (fun ad e=>hso _ (z2 ad e).1 (z2 ad e).2) (fun ad e=>hso _ (z3 ad e).1 (z3 ad e).2) (fun k k1 k2=>hso k (Nat.le_trans z1 k1) (Nat.lt_of_lt_of_le k2 hh.hi)) (by simp [head,z0g];omega))
 have HCP:Hid (∀y,WrAt w0 v0 pb ((L++head last.toNat 2)++(z1z (oF ts)++z2o (oZ ts) (oR ts))) y→Calls Tryz.prog 56 #[.agg #[.pointer (some ⟨c1,0,none⟩),.pointer (some ⟨c2,0,none⟩)],.pointer (some ⟨pb,0,none⟩),.slice a ts.length cap] y fun e w'=>e=.returned (.tuple #[])∧WrAt w0 v0 pb (L++(head last.toNat 2++((z1z (oF ts)++z2o (oZ ts) (oR ts))++(z2h (oX ts) (oY ts) ts++wb (oX ts) 256)))) w'):=qz (fun y hy=>by
  have hl:=x6k hg.head
  have:=y1h (oX ts) (oY ts) ts a cap c1 c2 _ _ pb w0 y v0 _ hy ho.two (Nat.le_refl _) hso hta hts hg.by_ (by
   rw [List.length_append,List.length_append]
   have:(head last.toNat 2).length=3:=by simp [head,z0g]
   omega)
  rw [List.append_assoc,List.append_assoc] at this
  exact this)
 generalize z2h (oX ts) (oY ts) ts++wb (oX ts) 256=B2 at HCP ⊢
 generalize z1z (oF ts)++z2o (oZ ts) (oR ts)=B1 at HPH HCP ⊢
 generalize ts.length=n at HCL HCP
 clear h hsx hx ho hso hta hts hg hb q0 q2 q3 q4 q5 hobs
 go_enter Tryz.func25,Tryz.ntmps25
 go_wp2_with fail
 refine (uh HBG).mono ?_
 rintro e W1 ⟨rfl,h1⟩
 have HO1:=qz (uh HOC _ _ h1)
 have HP1:=qz (uh HPH _ h1)
 clear h1 HBG HOC HPH
 go_wp2_with fail
 refine (uh HO1).mono ?_
 rintro e W ⟨rfl,rfl⟩
 clear HO1
 go_wp2_with fail
 refine (uh HP1).mono ?_
 rintro e W2 ⟨rfl,h2⟩
 have hd2:=h2.below (⟨rfl,rfl,rfl,Nat.le_refl _,fun _ _=>rfl⟩:Below W2.heap.size W2 W2.drew)
 have HC2:=qz (uh HCP _ hd2)
 clear h2 HP1 HCP
 go_wp2_with fail
 refine wp_region_noPanic ?_
 refine wp_region_held_drew (S:=fun y=>∃L',WrAt w0 v0 pb L' y) (by kernel_rfl) ⟨_,hd2⟩ (fun hHeld=>?_)
 clear hd2
 refine hT 0 13 rfl rfl hHeld nPp (v:=?_) (fun x hSx=>?_) ?_
 rotate_left 1
 ·go_simp<;>with_reducible rfl
 simp only [sA,sB]
 refine hT 1 14 rfl rfl hHeld nPp (v:=?_) (fun x hSx=>?_) ?_
 rotate_left 1
 ·go_simp<;>with_reducible rfl
 simp only [sA,sB]
 refine hT 2 15 rfl rfl hHeld nPp (v:=?_) (fun x hSx=>?_) ?_
 rotate_left 1
 ·go_simp<;>with_reducible rfl
 simp only [sA,sB]
 refine hT 3 16 rfl rfl hHeld nPp (v:=?_) (fun x hSx=>?_) ?_
 rotate_left 1
 ·obtain ⟨L',hL'⟩:=hSx;obtain ⟨d0,d1,d2⟩:=uh HCL L' x hL';go_simp<;>with_reducible rfl
 simp only [sA,sB]
 refine hT 4 17 rfl rfl hHeld nPp (v:=?_) (fun x hSx=>?_) ?_
 rotate_left 1
 ·go_simp<;>with_reducible rfl
 simp only [sA,sB]
 refine hT 5 18 rfl rfl hHeld nPp (v:=?_) (fun x hSx=>?_) ?_
 rotate_left 1
 ·go_simp<;>with_reducible rfl
 simp only [sA,sB]
 refine hT 6 19 rfl rfl hHeld nPp (v:=?_) (fun x hSx=>?_) ?_
 rotate_left 1
 ·go_simp<;>with_reducible rfl
 simp only [sA,sB]
 refine hT 7 20 rfl rfl hHeld nPp (v:=?_) (fun x hSx=>?_) ?_
 rotate_left 1
 ·go_simp<;>with_reducible rfl
 simp only [sA,sB]
 refine hT 8 21 rfl rfl hHeld nPp (v:=?_) (fun x hSx=>?_) ?_
 rotate_left 1
 ·obtain ⟨L',hL'⟩:=hSx;obtain ⟨d0,d1,d2⟩:=uh HCL L' x hL';go_simp<;>with_reducible rfl
 simp only [sA,sB]
 refine z0u 9 22 (by kernel_rfl) rfl rfl (by rfl) (by go_simp<;>exact ⟨rfl,rfl⟩) ?_
 refine (uh HC2).mono ?_
 rintro e W3 ⟨rfl,h3⟩
 have H3:=qz h3
 refine ⟨_,rfl,⟨_,h3⟩,?_⟩
 simp only [sA,sB]
 clear h3 HC2 HCL hHeld
 refine dN ?_
 go_wp2_with fail
 go_end0
 exact ⟨rfl,uh H3⟩
end W4
namespace W4
open Go.RowKit Mth Infl Defl
theorem w2k (l:List Int) (b:Bool) (h0:0≤l.getD 0 0) (h1:l.getD 0 0≤15):(stepW l b).2.2.1=xb (stepW l b).1.toNat:=by
 unfold stepW
 generalize z0v (l.getD 0 0) l=c
 generalize l.getD 0 0=v at h0 h1 ⊢
 split
 ·rfl
 ·split
  ·rfl
  ·split
   ·rfl
   ·show 0=xb v.toNat
    unfold xb
    rw [if_neg (by omega),if_neg (by omega),if_neg (by omega)]
theorem y8m (l:List Int) (h:∀j,0≤l.getD j 0∧l.getD j 0≤15):∀k a,∀r∈z5e l k a,r.2.2=xb r.1.toNat
 | 0,_,r,hr=>by simp [z5e] at hr
 | k+1,a,r,hr=>by
  unfold z5e at hr
  split at hr
  ·rw [List.mem_cons] at hr
   rcases hr with rfl|hr
   ·have e:(l.drop a).getD 0 0=l.getD a 0:=by simp [List.getD_eq_getElem?_getD]
    exact w2k (l.drop a) _ (by rw [e];exact (h a).1) (by rw [e];exact (h a).2)
   ·exact y8m l h k _ r hr
  ·simp at hr
theorem w2s (ls:List Nat) (h:∀x∈ls,x≤15):∀r∈z5w (ls.map fun z:Nat=>(z:Int)),r.2.2=xb r.1.toNat:=by
 refine y8m _ (fun j=>?_) _ _
 rcases Nat.lt_or_ge j ls.length with hj|hj
 ·have:=h ls[j] (List.getElem_mem hj)
  simp [List.getD_eq_getElem?_getD,hj]
  omega
 ·simp [List.getD_eq_getElem?_getD,hj]
theorem x4e (z:List Nat) (ls:List Nat) (h:∀x∈ls,x≤15):z2o z (z5w (ls.map fun z:Nat=>(z:Int)))=(((z3k (ls.map fun z:Nat=>(z:Int))).map nn).map (z6x z)).flatten:=by
 unfold z2o
 rw [←z4i,List.map_map,List.map_map]
 congr 1
 refine List.map_congr_left fun r hr=>?_
 show wb z r.1.toNat++nb r.2.1 r.2.2=wb z r.1.toNat++nb r.2.1 (xb r.1.toNat)
 rw [w2s ls h r hr]
theorem w3z (ls:List Nat) (s:Nat):cw (z5w (ls.map fun z:Nat=>(z:Int))) s=(((z3k (ls.map fun z:Nat=>(z:Int))).map nn).map Prod.fst).count s:=by
 unfold cw
 rw [←z4i,List.map_map,List.map_map]
 rfl
theorem y4x (ts:List T):cw (oR ts)=z6t (bl (z0l ts) 15 286) (bl (z0i ts) 15 30):=by
 funext s
 exact w3z (oX ts++oY ts) s
theorem y6w (nx ny:Nat) (vs:List Nat):z1z (fieldsOf nx ny vs)=nb (nx-257) 5++(nb (ny-1) 5++(nb (vs.length-4) 4++z5u vs)):=by
 unfold z1z fieldsOf z5u
 simp [List.map_map,Function.comp_def]
theorem y7w (ts:List T) (hx:∀x∈oX ts,x≤15) (hy:∀x∈oY ts,x≤15):z1z (oF ts)++z2o (oZ ts) (oR ts)=(z5l (bl (z0l ts) 15 286) (bl (z0i ts) 15 30) (oZ ts)).bits:=by
 have h:=x4e (oZ ts) (oX ts++oY ts) (fun x hxx=>by
  rw [List.mem_append] at hxx
  rcases hxx with h|h
  ·exact hx x h
  ·exact hy x h)
 unfold oR
 rw [h]
 unfold oF
 rw [y6w]
 unfold Plan.bits z5l
 simp only [List.append_assoc]
 rfl
end W4
namespace W4
open Go.RowKit Mth Infl Defl
theorem y4l {os:List Int} {l:List Nat} {M:Nat} (hM:1≤M) (hn:l.length≤2^M) (h1:l.length≠1) (i:Nat):L5.ans os l M i=Merge.out (L5.wt os) l M i:=by
 unfold L5.ans
 rw [if_neg h1,←Merge.x6x (L5.wt os) l M hM hn i]
 congr 1
 unfold L5.z0p
 simp [Merge.fs,Merge.z0j]
theorem w1m (os:List Int):∃l,L5.IsOrder os l:=by
 let le:Nat→Nat→Bool:=fun i j=>decide (L5.wt os i<L5.wt os j∨L5.wt os i=L5.wt os j∧i≤j)
 have hp:((L5.raw os os.length).mergeSort le).Pairwise (fun a b=>le a b=true):=List.pairwise_mergeSort (fun a b c h1 h2=>by simp only [le,decide_eq_true_eq] at *;omega) (fun a b=>by simp only [le,Bool.or_eq_true,decide_eq_true_eq];omega) _
 have hn:((L5.raw os os.length).mergeSort le).Nodup:=(List.mergeSort_perm _ _).nodup_iff.2 (L5.z6w os _)
 refine ⟨(L5.raw os os.length).mergeSort le,⟨?_,fun i=>?_⟩⟩
 ·refine (hp.and hn).imp ?_
  rintro a b ⟨h1,h2⟩
  simp only [le,decide_eq_true_eq] at h1
  unfold L5.Ahead
  omega
 ·rw [List.mem_mergeSort,L5.y2m]
theorem w3u {f:Nat→Nat} {M n:Nat} {l:List Nat} (h:L5.IsOrder (osOf f n) l) (hM:1≤M) (hn:l.length≤2^M):bl f M n=limL (L5.wt (osOf f n)) l M n:=by
 rw [w5o h]
 unfold limL
 refine List.map_congr_left fun i _=>?_
 unfold z7v
 by_cases h1:l.length=1
 ·rw [if_pos (by omega)]
  unfold L5.ans
  rw [if_pos h1]
  obtain ⟨y,rfl⟩:∃y,l=[y]:=List.length_eq_one_iff.1 h1
  by_cases e:i=y
  ·subst e;simp
  ·have:¬y=i:=fun h=>e h.symm
   simp [e,this]
 ·rw [y4l hM hn h1]
  by_cases h0:l.length≤1
  ·have:l=[]:=List.length_eq_zero_iff.1 (by omega)
   subst this
   rw [if_pos h0]
   simp [Merge.out,Merge.syms]
  ·rw [if_neg h0]
theorem x2m (f:Nat→Nat) (M n:Nat) (hM:1≤M) (hM2:M≤20) (hn:n≤2^M):LimOk f M n (bl f M n):=by
 obtain ⟨l,hl⟩:=w1m (osOf f n)
 have hlen:l.length≤2^M:=by
  refine Nat.le_trans ?_ hn
  have:=List.Nodup.length_le_of_subset hl.nodup (fun i hi=>by
   have:=(hl.mem i).1 hi
   rw [z0q] at this
   exact List.mem_range.2 this.1:l ⊆ List.range n)
  simpa using this
 have h:=w6c (n:=n) (M:=M) hl.sorted hl.nodup (fun i=>by rw [hl.mem,z0q]) hM hM2 hlen
 rw [w3u hl hM hlen]
 refine ⟨h.len,h.le,fun i hi h0=>h.pos i hi (by rw [y2e f n i hi];exact h0),fun i hi h0=>h.zero i hi (by rw [y2e f n i hi];exact h0),h.loose,?_,h.good⟩
 rintro ⟨i,j,hi,hj,hne,h1,h2⟩
 exact h.full ⟨i,j,hi,hj,hne,by rw [y2e f n i hi];exact h1,by rw [y2e f n j hj];exact h2⟩
end W4
namespace W4
open Go.RowKit Mth Infl Defl
theorem y2t (f:Nat→Nat) (n B:Nat) (h:∀i,f i≤B):∀k,k≤n→L5.tot (osOf f n) k≤k*B
 | 0,_=>by simp [L5.tot]
 | k+1,hk=>by
  unfold L5.tot
  have:=y2t f n B h k (by omega)
  rw [y2e f n k (by omega),Nat.succ_mul]
  have:=h k
  omega
theorem w2j (l:List Int) (b:Bool) (h0:0≤l.getD 0 0):0≤(stepW l b).1∧(stepW l b).2.1<2^(stepW l b).2.2.1∧(stepW l b).2.2.1≤13:=by
 unfold stepW
 generalize z0v (l.getD 0 0) l=c
 generalize l.getD 0 0=v at h0 ⊢
 split
 ·exact ⟨by show (0:Int)≤18;decide,by show min c 138-11<128;omega,by show 7≤13;decide⟩
 ·split
  ·rename_i h1 h2
   exact ⟨by show (0:Int)≤17;decide,by show c-3<8;omega,by show 3≤13;decide⟩
  ·split
   ·exact ⟨by show (0:Int)≤16;decide,by show min c 6-3<4;omega,by show 2≤13;decide⟩
   ·exact ⟨h0,by show 0<1;decide,by show 0≤13;decide⟩
theorem y8l (l:List Int) (h:∀j,0≤l.getD j 0):∀k a,(z5e l k a).length≤k∧∀r∈z5e l k a,0≤r.1∧r.2.1<2^r.2.2∧r.2.2≤13
 | 0,_=>⟨Nat.le_refl _,fun r hr=>by simp [z5e] at hr⟩
 | k+1,a=>by
  unfold z5e
  split
  ·have ih:=y8l l h k (a+(z3g l a).2.2.2)
   refine ⟨by simp;exact ih.1,fun r hr=>?_⟩
   rw [List.mem_cons] at hr
   rcases hr with rfl|hr
   ·have e:(l.drop a).getD 0 0=l.getD a 0:=by simp [List.getD_eq_getElem?_getD]
    exact w2j (l.drop a) _ (by rw [e];exact h a)
   ·exact ih.2 r hr
  ·exact ⟨by simp,fun r hr=>by simp at hr⟩
theorem x2e (ls:List Nat):(z5w (ls.map fun z:Nat=>(z:Int))).length≤ls.length∧∀r∈z5w (ls.map fun z:Nat=>(z:Int)),0≤r.1∧r.2.1<2^r.2.2∧r.2.2≤13:=by
 have:=y8l (ls.map fun z:Nat=>(z:Int)) (fun j=>by
  rcases Nat.lt_or_ge j ls.length with hj|hj
  ·simp [List.getD_eq_getElem?_getD,hj]
  ·simp [List.getD_eq_getElem?_getD,hj]) (ls.map fun z:Nat=>(z:Int)).length 0
 refine ⟨?_,this.2⟩
 have h:=this.1
 rw [List.length_map] at h
 unfold z5w
 rw [List.length_map]
 exact h
theorem x6z {ls:List Nat} {B:Nat} (h:∀l∈ls,l≤B) (s:Nat):Canon.ln ls s≤B:=by
 unfold Canon.ln
 rw [List.getD_eq_getElem?_getD]
 cases hg:ls[s]? with
 | none=>simp
 | some w=>exact h w (List.mem_of_getElem? hg)
theorem z5j {out:List Nat} {ts:List T} (hok:Oks out ts) (hlen:ts.length≤1000000000):OwnGood ts:=by
 have h1:LimOk (z0l ts) 15 286 (bl (z0l ts) 15 286):=x2m _ _ _ (by decide) (by decide) (by decide)
 have h2:LimOk (z0i ts) 15 30 (bl (z0i ts) 15 30):=x2m _ _ _ (by decide) (by decide) (by decide)
 have h3:LimOk (z6t (bl (z0l ts) 15 286) (bl (z0i ts) 15 30)) 7 19 (oZ ts):=by
  rw [←y4x]
  exact x2m _ _ _ (by decide) (by decide) (by decide)
 obtain ⟨p1,p2,p3,p4,p5⟩:=x7z h1 h2 (by unfold z0l;rw [if_pos rfl];omega) h3
 have hx15:∀l∈oX ts,l≤15:=fun l hl=>h1.le l (z7t _ _ _ l hl)
 have hy15:∀l∈oY ts,l≤15:=fun l hl=>h2.le l (z7t _ _ _ l hl)
 have hw:=x2e (oX ts++oY ts)
 have x2:(oX ts).length≤286:=p1.x2
 have y2:(oY ts).length≤30:=p1.y2
 have x1:257≤(oX ts).length:=p1.x1
 have y1:1≤(oY ts).length:=p1.y1
 have hrl:(oR ts).length≤1000:=by
  have:=hw.1
  rw [List.length_append] at this
  show (z5w _).length≤1000
  omega
 have hrs:∀r∈oR ts,r.1.toNat<19∧0<Canon.ln (oZ ts) r.1.toNat:=fun r hr=>by
  have hm:nn (r.1,r.2.1)∈(z3k ((oX ts++oY ts).map fun z:Nat=>(z:Int))).map nn:=by
   rw [←z4i,List.map_map]
   exact List.mem_map_of_mem (f:=nn∘fun r:Wd=>(r.1,r.2.1)) hr
  have hs:=y6e (oX ts++oY ts) (fun x hxx=>by
   rw [List.mem_append] at hxx
   rcases hxx with h|h
   ·exact hx15 x h
   ·exact hy15 x h) _ hm
  refine ⟨hs,h3.pos _ hs ?_⟩
  unfold z6t
  exact List.count_pos_iff.2 (List.mem_map_of_mem (f:=Prod.fst) hm)
 have hc1:∀i,z0l ts i≤1000000001:=fun i=>by
  rw [←y8s]
  have:=w3w (z3f ts) true i
  unfold z0l at *
  have:((ts.map fun t=>if t.n=0 then t.b else symL t.n).count i)≤ts.length:=Nat.le_trans List.count_le_length (by simp)
  rw [show cnB true (z3f ts) i=z0l ts i by rw [y8s]]
  unfold z0l
  split<;>omega
 have hc2:∀i,z0i ts i≤1000000001:=fun i=>by
  unfold z0i
  refine Nat.le_trans List.count_le_length ?_
  rw [List.length_map]
  exact Nat.le_trans (List.length_filter_le _ _) (by omega)
 have hc3:∀i,cw (oR ts) i≤1000:=fun i=>Nat.le_trans (w5r _ i) hrl
 refine ⟨⟨?_,?_,?_,hx15,hy15,(z9h 257 286 _ true).1 h1.loose,(z9h 1 30 _ true).1 h2.loose,h3.le,p1.cz,fun r hr=>⟨(hw.2 r hr).1,?_⟩,hrl⟩,⟨fun t ht=>hok.each t ht,x2b hok p4 p5,p4 256 (by decide) (by unfold z0l;rw [if_pos rfl];omega),x6z hx15,x6z hy15,hlen⟩,⟨?_,fun r hr=>⟨(hw.2 r hr).1,⟨?_,(hrs r hr).2,?_,(hw.2 r hr).2.1,(hw.2 r hr).2.2⟩⟩,?_,hrl⟩⟩
 ·have:=y2t _ 286 _ hc1 286 (Nat.le_refl _);omega
 ·have:=y2t _ 30 _ hc2 30 (Nat.le_refl _);omega
 ·have:=y2t _ 19 _ hc3 19 (Nat.le_refl _);omega
 ·have:=(hrs r hr).1;omega
 ·intro r hr
  have v1:4≤(trim 4 19 (order.map fun j=>(oZ ts).getD j 0)).length:=p1.v1
  have v2:(trim 4 19 (order.map fun j=>(oZ ts).getD j 0)).length≤19:=p1.v2
  unfold oF fieldsOf at hr
  simp only [List.mem_append,List.mem_cons,List.not_mem_nil,or_false,List.mem_map] at hr
  rcases hr with (rfl|rfl|rfl)|⟨v,hv,rfl⟩
  ·exact ⟨by show (oX ts).length-257<32;omega,by show 5≤5;decide⟩
  ·exact ⟨by show (oY ts).length-1<32;omega,by show 5≤5;decide⟩
  ·exact ⟨by show _-4<16;omega,by show 4≤5;decide⟩
  ·exact ⟨by show v<8;exact p1.v7 v hv,by show 3≤5;decide⟩
 ·rw [h3.len];exact (hrs r hr).1
 ·exact Nat.le_trans (x6z h3.le _) (by decide)
 ·have v2:(trim 4 19 (order.map fun j=>(oZ ts).getD j 0)).length≤19:=p1.v2
  unfold oF fieldsOf
  rw [List.length_append,List.length_map]
  show 3+_≤1000
  omega
end W4
namespace W4
open Go.RowKit Mth Infl Defl
theorem z8s {out:List Nat} {ts:List T} (hok:Oks out ts) (hlen:ts.length≤1000000000):TokBy z1b z1c ts where
 ok:=fun t ht=>hok.each t ht
 has:=fun t ht=>y1s (hok.each t ht)
 fin:=by
  refine ⟨by rw [z5r];decide,?_⟩
  unfold Canon.ln
  rw [z4l,List.getD_eq_getElem?_getD,List.getElem?_map,List.getElem?_range (by decide)]
  decide
 m1:=x6z y6y
 m2:=x6z (by decide)
 few:=hlen
noncomputable def plOf (ts:List T):List Nat × List Nat × List Nat:=(bl (z0l ts) 15 286,bl (z0i ts) 15 30,oZ ts)
theorem z9g {out:List Nat} {ts:List T} (hok:Oks out ts) (hlen:ts.length≤1000000000) (last:Nat):head last 2++((z1z (oF ts)++z2o (oZ ts) (oR ts))++(z2h (oX ts) (oY ts) ts++wb (oX ts) 256))=z3a (plOf ts) ts last:=by
 have h:=z5j hok hlen
 rw [y7w ts h.ok.x15 h.ok.y15]
 rfl
end W4
namespace R8
open Go.RowKit Infl Mth Defl
def cr (rs:List (Nat × Nat)) (s:Nat):Nat:=(rs.map Prod.fst).count s
structure TF (ts:List T) (X Y Z:List Nat) (rs:List (Nat × Nat)) (vs:List Nat):Prop where
 xd:trim 257 286 (W4.bl (z0l ts) 15 286)=X
 yd:trim 1 30 (W4.bl (z0i ts) 15 30)=Y
 bx:(W4.bl (z0l ts) 15 286).length=286
 by_:(W4.bl (z0i ts) 15 30).length=30
 x1:257≤X.length
 x2:X.length≤286
 y1:1≤Y.length
 y2:Y.length≤30
 x15:∀l∈X,l≤15
 y15:∀l∈Y,l≤15
 xo:z2s X true
 yo:z2s Y true
 gx:Good X
 gy:Good Y
 rd:(z3k ((X++Y).map fun z:Nat=>(z:Int))).map nn=rs
 rn:∀r∈z3k ((X++Y).map fun z:Nat=>(z:Int)),r.1=((nn r).1:Int)
 rl:rs.length≤1000
 r19:∀r∈rs,r.1<19∧0<Canon.ln Z r.1∧r.2<8192
 zd:W4.bl (cr rs) 7 19=Z
 zl:Z.length=19
 z7:∀l∈Z,l≤7
 zo:z2s Z false
 gz:Good Z
 vd:trim 4 19 (order.map fun j=>Z.getD j 0)=vs
 v1:4≤vs.length
 v2:vs.length≤19
 v7:∀v∈vs,v<8
 fit:∀t∈ts,t.fit
 has:∀t∈ts,t.has X Y
 h256:256<X.length∧0<Canon.ln X 256
 t1:L5.tot (W4.osOf (z0l ts) 286) 286≤1099511627776
 t2:L5.tot (W4.osOf (z0i ts) 30) 30≤1099511627776
 t3:L5.tot (W4.osOf (cr rs) 19) 19≤1099511627776
theorem w7f {out:List Nat} {ts:List T} (hok:Oks out ts) (hlen:ts.length≤1000000000):TF ts (W4.oX ts) (W4.oY ts) (W4.oZ ts) ((z3k ((W4.oX ts++W4.oY ts).map fun z:Nat=>(z:Int))).map nn) (trim 4 19 (order.map fun j=>(W4.oZ ts).getD j 0)):=by
 have g:=W4.z5j hok hlen
 have h1:LimOk (z0l ts) 15 286 (W4.bl (z0l ts) 15 286):=W4.x2m _ _ _ (by decide) (by decide) (by decide)
 have h2:LimOk (z0i ts) 15 30 (W4.bl (z0i ts) 15 30):=W4.x2m _ _ _ (by decide) (by decide) (by decide)
 have h3:LimOk (z6t (W4.bl (z0l ts) 15 286) (W4.bl (z0i ts) 15 30)) 7 19 (W4.oZ ts):=by
  rw [←W4.y4x]
  exact W4.x2m _ _ _ (by decide) (by decide) (by decide)
 obtain ⟨p1,p2,p3,p4,p5⟩:=x7z h1 h2 (by unfold z0l;rw [if_pos rfl];omega) h3
 have hw:=W4.x2e (W4.oX ts++W4.oY ts)
 have hcr:cr ((z3k ((W4.oX ts++W4.oY ts).map fun z:Nat=>(z:Int))).map nn)=W4.cw (W4.oR ts):=by rw [W4.y4x];rfl
 have x2:(W4.oX ts).length≤286:=p1.x2
 have y2:(W4.oY ts).length≤30:=p1.y2
 have hsum:((W4.oX ts++W4.oY ts).map fun z:Nat=>(z:Int))=((W4.oX ts++W4.oY ts).map fun z:Nat=>(z:Int)):=rfl
 refine { xd:=rfl,yd:=rfl,bx:=h1.len,by_:=h2.len,x1:=p1.x1,x2:=p1.x2,y1:=p1.y1,y2:=p1.y2,x15:=g.ok.x15,y15:=g.ok.y15,xo:=g.ok.xo,yo:=g.ok.yo,gx:=p2,gy:=p3,rd:=rfl,rn:=?_,rl:=?_,r19:=?_,zd:=?_,zl:=h3.len,z7:=g.ok.z7,zo:=?_,gz:=p1.gz,vd:=rfl,v1:=p1.v1,v2:=p1.v2,v7:=p1.v7,fit:=fun t ht=>hok.each t ht,has:=x2b hok p4 p5,h256:=p4 256 (by decide) (by unfold z0l;rw [if_pos rfl];omega),t1:=g.ok.t1,t2:=g.ok.t2,t3:=by rw [hcr];exact g.ok.t3 }
 ·intro r hr
  rw [←z4i] at hr
  obtain ⟨q,hq,rfl⟩:=List.mem_map.1 hr
  have:=(hw.2 q hq).1
  show q.1=((q.1.toNat:Nat):Int)
  omega
 ·rw [List.length_map,←z4i,List.length_map]
  have:=hw.1
  rw [List.length_append] at this
  omega
 ·intro r hr
  have hr2:=hr
  rw [←z4i,List.map_map] at hr
  obtain ⟨q,hq,rfl⟩:=List.mem_map.1 hr
  have hs:=y6e (W4.oX ts++W4.oY ts) (fun x hxx=>by
   rw [List.mem_append] at hxx
   rcases hxx with h|h
   ·exact g.ok.x15 x h
   ·exact g.ok.y15 x h) _ hr2
  refine ⟨hs,h3.pos _ hs ?_,?_⟩
  ·unfold z6t
   exact List.count_pos_iff.2 (List.mem_map_of_mem (f:=Prod.fst) hr2)
  ·obtain ⟨_,h5,h6⟩:=hw.2 q hq
   show q.2.1<8192
   exact Nat.lt_of_lt_of_le h5 (Nat.pow_le_pow_right (by omega) h6)
 ·rw [hcr];rfl
 ·rcases y4t (W4.oZ ts) 7 false with ⟨_,h⟩|⟨h,_⟩
  ·exact h
  ·rw [g.ok.zo] at h;omega
theorem y6a (f:Nat→Nat) (M n g0:Nat) (w:World) (hr:z0c w .i64 3 g0 n f) (hM1:1≤M) (hM2:M≤20) (hn:n≤286) (hpow:n≤2^M) (hn1:1≤n) (htot:L5.tot (W4.osOf f n) n≤1099511627776) :
  Calls Tryz.prog 42 #[.slice (some ⟨g0,0,none⟩) n n,.int .i64 (M:Int)] w fun e w'=>∃g,e=.returned (.tuple #[.slice (some ⟨g,0,none⟩) n n,.int .i64 0])∧w.heap.size≤g∧(z0c w' .i64 3 g n fun j=>(W4.bl f M n).getD j 0)∧Below w.heap.size w w':=by
 have hr':L5.z0w w (.slice (some ⟨g0,0,none⟩) (W4.osOf f n).length n) (W4.osOf f n):=by
  rw [W4.z0q]
  refine ⟨_,n,by rw [W4.z0q],fun _=>⟨g0,0,rfl,fun j hj=>?_⟩⟩
  rw [W4.z0q] at hj
  rw [W4.z7o f n j hj,Nat.zero_add]
  exact hr.cell j hj
 have h:=L5.y8a (W4.osOf f n) M (some ⟨g0,0,none⟩) n w hr' hM1 hM2 (by rw [W4.z0q];omega)
 rw [W4.z0q] at h
 refine h.mono ?_
 rintro e w' ⟨u,x,rfl,h,hb⟩
 have ha:L5.y4h (W4.osOf f n) (M:Int):=⟨by omega,by omega,by rw [W4.z0q];omega,fun i hi=>by
  first|(rw [W4.z0q] at hi;rw [W4.z7o f n i hi];omega)|skip⟩
 rcases h with ⟨h,_⟩|⟨_,h,_⟩|⟨_,_,⟨l,h1,h2⟩,_⟩|⟨_,_,h0,l,g,h1,h2,h3,h4,h5⟩
 ·exact absurd ha h
 ·rw [W4.z0q] at h;omega
 ·exfalso
  have hsub:l.length≤n:=by
   have:=List.Nodup.length_le_of_subset h1.nodup (fun i hi=>by
    have:=(h1.mem i).1 hi
    rw [W4.z0q] at this
    exact List.mem_range.2 this.1:l ⊆ List.range n)
   simpa using this
  simp only [Int.toNat_natCast] at h2
  omega
 ·rw [W4.z0q] at h3 h5
  simp only [Int.toNat_natCast] at h5
  subst h0 h3
  exact ⟨g,rfl,h4,(W4.x5e h1 h5).2,hb⟩
theorem x2d {w:World} {g n st:Nat} {l t:List Nat} (h:z0c w .i64 3 g n fun j=>l.getD j 0) (hl:l.length=n) (hst:st≤n) (ht:trim st n l=t) (hn:n≤1000):w.ownsRow 0 3 1 (.slice (some ⟨g,0,none⟩) t.length n) (t.map fun z:Nat=>iv (z:Int)).length (t.map fun z:Nat=>iv (z:Int)):=by
 obtain ⟨h1,h2,h3⟩:=z5p st n l (by omega)
 rw [ht] at h1 h2 h3
 rw [List.length_map]
 refine ⟨by simp,.inr ⟨g,n,_,rfl,Nat.zero_le _,h,by omega,by unfold maxLen;omega,by simp [z0d],?_⟩⟩
 refine List.ext_getElem? fun j=>?_
 rw [List.getElem?_take,List.getElem?_map]
 by_cases hj:j<t.length
 ·rw [if_pos (by omega),List.getElem?_eq_getElem hj]
  have e:=h3 j
  rw [List.getD_eq_getElem?_getD,List.getElem?_eq_getElem hj] at e
  simp only [Option.getD_some] at e
  have hjn:j<n:=by omega
  simp [z0d,hjn,e,iv]
 ·rw [if_neg (by omega),List.getElem?_eq_none (by omega)]
  rfl
end R8
end Go.Proofs.YtabeanealkopbaaGreat
