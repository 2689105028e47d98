/- A part of the proof. -/
import Derived.Test.YtabeanealkopbaaGreatDtqG
import Derived.Maps.Own
import Derived.Maps.OwnOps
import Derived.Maps.OwnSet
import Derived.Maps.Views
import Derived.Lib.LastIndexLaws
import Derived.Lib.SlBytesRow
import Derived.Lib.Bytealg
import Derived.Shelf.Bytes.SlIndexWhole
import Derived.Shelf.LaysM
import Derived.Lib.IndexMore

set_option linter.unusedVariables false
set_option maxRecDepth 100000
set_option maxHeartbeats 24000000
namespace Go.Proofs.YtabeanealkopbaaGreat
namespace R8
open Go.RowKit Infl Mth Defl
attribute [local go_sem ↓] wp_at_zero wp_at_succ
theorem y2o (ts:List T) (i:Nat) (h:i<ts.length):ts.take (i+1)=ts.take i++[ts.getD i ⟨0,0,0⟩]:=by
 rw [List.take_add_one,List.getElem?_eq_getElem h,List.getD_eq_getElem?_getD,List.getElem?_eq_getElem h];rfl
theorem w2l (ts:List T) (i:Nat) (h:i<ts.length):z0l (ts.take (i+1))=upd (z0l (ts.take i)) (if (ts.getD i ⟨0,0,0⟩).n=0 then (ts.getD i ⟨0,0,0⟩).b else symL (ts.getD i ⟨0,0,0⟩).n) (z0l (ts.take i) (if (ts.getD i ⟨0,0,0⟩).n=0 then (ts.getD i ⟨0,0,0⟩).b else symL (ts.getD i ⟨0,0,0⟩).n)+1):=by
 funext s
 unfold z0l upd
 rw [y2o ts i h,List.map_append,List.count_append,List.map_singleton,List.count_singleton]
 generalize (if (ts.getD i ⟨0,0,0⟩).n=0 then (ts.getD i ⟨0,0,0⟩).b else symL (ts.getD i ⟨0,0,0⟩).n)=x
 by_cases e:s=x
 ·subst e;simp;omega
 ·rw [if_neg e]
  have:(x == s)=false:=by rw [beq_eq_false_iff_ne];exact fun h=>e h.symm
  simp [this]
theorem x5t (ts:List T) (i:Nat) (h:i<ts.length) (hn:(ts.getD i ⟨0,0,0⟩).n≠0):z0i (ts.take (i+1))=upd (z0i (ts.take i)) (symD (ts.getD i ⟨0,0,0⟩).d) (z0i (ts.take i) (symD (ts.getD i ⟨0,0,0⟩).d)+1):=by
 funext s
 unfold z0i upd
 rw [y2o ts i h,List.filter_append,List.filter_cons,if_pos (by simpa using hn),List.filter_nil,List.map_append,List.count_append,List.map_singleton,List.count_singleton]
 generalize symD (ts.getD i ⟨0,0,0⟩).d=x
 by_cases e:s=x
 ·subst e;simp
 ·rw [if_neg e]
  have:(x == s)=false:=by rw [beq_eq_false_iff_ne];exact fun h=>e h.symm
  simp [this]
theorem x5s (ts:List T) (i:Nat) (h:i<ts.length) (hn:(ts.getD i ⟨0,0,0⟩).n=0):z0i (ts.take (i+1))=z0i (ts.take i):=by
 funext s
 unfold z0i
 rw [y2o ts i h,List.filter_append,List.filter_cons,if_neg (by simpa using hn),List.filter_nil,List.append_nil]
theorem w6m (ts:List T) (s:Nat):z0l ts s≤ts.length+1:=by
 unfold z0l
 have:=List.count_le_length (a:=s) (l:=ts.map fun t=>if t.n=0 then t.b else symL t.n)
 rw [List.length_map] at this
 split<;>omega
theorem w4b (ts:List T) (s:Nat):z0i ts s≤ts.length:=by
 unfold z0i
 have:=List.count_le_length (a:=s) (l:=(ts.filter fun t=>decide (t.n≠0)).map fun t=>symD t.d)
 rw [List.length_map] at this
 have:=List.length_filter_le (fun t:T=>decide (t.n≠0)) ts
 omega
theorem x1a (l:List Nat):∀u∈l.map fun z:Nat=>iv (z:Int),u.oneCell'=true:=by
 intro u hu
 obtain ⟨b,_,rfl⟩:=List.mem_map.1 hu
 rfl
theorem w2i (w:World):St w (w.alloc (.cells #[] 3)) (.slice (some ⟨w.heap.size,0,none⟩) 0 0) ([]:List Value):=⟨L5.y6m w w.heap.size (Nat.le_refl _),(Below.refl _ _).alloc (Nat.le_refl _) _⟩
theorem St.readsI {w0 w:World} {v:Value} {l:List Nat} (h:St w0 w v (l.map fun z:Nat=>iv (z:Int))):z0w w v (inl l):=z5t h.own (by rw [List.length_map])
def w5k (w:World) (v:Value) (l:List Nat):Prop:=∃a c,v=.slice a l.length c∧∀j,j<l.length→∃g,a=some ⟨g,0,none⟩∧w.cell? ⟨g,j,none⟩=some (.int .i64 ((l.getD j 0:Nat):Int))
theorem y5q {w:World} {base n:Nat} {v:Value} {l:List Nat} (h:w.ownsRow base 3 1 v n (l.map fun z:Nat=>iv (z:Int))) (hn:l.length=n):w5k w v l:=by
 subst hn
 rcases h.2 with ⟨e1,e2⟩|⟨g,cap,cur,e1,_,hg,_,_,_,ht⟩
 ·exact ⟨none,0,by rw [e1,e2],fun j hj=>by omega⟩
 ·refine ⟨_,cap,e1,fun j hj=>⟨g,rfl,?_⟩⟩
  have hx:(l.map fun z:Nat=>iv (z:Int))[j]?=some (.int .i64 ((l.getD j 0:Nat):Int)):=by
   simp [List.getElem?_map,List.getElem?_eq_getElem hj,iv,List.getD_eq_getElem?_getD]
  rw [←ht,List.getElem?_take] at hx
  split at hx
  ·simp only [World.cell?,hg]
   simpa using hx
  ·cases hx
theorem x8s {ts:List T} {X Y Z:List Nat} {rs:List (Nat × Nat)} {vs:List Nat} (h:TF ts X Y Z rs vs):(z3k (inl (X++Y))).length=rs.length∧((z3k (inl (X++Y))).map fun r=>iv r.1)=(rs.map Prod.fst).map (fun z:Nat=>iv (z:Int))∧((z3k (inl (X++Y))).map fun r=>iv (r.2:Int))=(rs.map Prod.snd).map (fun z:Nat=>iv (z:Int)):=by
 have e:inl (X++Y)=(X++Y).map fun z:Nat=>(z:Int):=rfl
 rw [e,←h.rd]
 refine ⟨by rw [List.length_map],?_,?_⟩
 ·rw [List.map_map,List.map_map]
  refine List.map_congr_left fun r hr=>?_
  rw [h.rn r hr]
  rfl
 ·rw [List.map_map,List.map_map]
  rfl
theorem w3y (rs:List (Nat × Nat)) (i:Nat) (h:i<rs.length):cr (rs.take (i+1))=upd (cr (rs.take i)) ((rs.map Prod.fst).getD i 0) (cr (rs.take i) ((rs.map Prod.fst).getD i 0)+1):=by
 funext s
 have e:rs.take (i+1)=rs.take i++[rs.getD i (0,0)]:=by
  rw [List.take_add_one,List.getElem?_eq_getElem h,List.getD_eq_getElem?_getD,List.getElem?_eq_getElem h];rfl
 have e2:(rs.map Prod.fst).getD i 0=(rs.getD i (0,0)).1:=by simp [List.getD_eq_getElem?_getD,List.getElem?_map,List.getElem?_eq_getElem h]
 unfold cr upd
 rw [e,e2,List.map_append,List.count_append,List.map_singleton,List.count_singleton]
 generalize (rs.getD i (0,0)).1=x
 by_cases e:s=x
 ·subst e;simp
 ·rw [if_neg e]
  have:(x == s)=false:=by rw [beq_eq_false_iff_ne];exact fun h=>e h.symm
  simp [this]
theorem w6s (rs:List (Nat × Nat)) (s:Nat):cr rs s≤rs.length:=by
 unfold cr
 have:=List.count_le_length (a:=s) (l:=rs.map Prod.fst)
 rw [List.length_map] at this
 exact this
theorem z8h (w:World):∀j,j<19→(w.alloc (.cells (order.map (fun z:Nat=>iv (z:Int))).toArray 3)).cell? ⟨w.heap.size,j,none⟩=some (.int .i64 ((order.getD j 0:Nat):Int)):=by
 intro j hj
 have hl:order.length=19:=by decide
 simp only [World.cell?,heap_alloc_new]
 simp [List.getElem?_map,List.getD_eq_getElem?_getD,List.getElem?_eq_getElem (show j<order.length by omega),iv]
theorem w1n:∀q,q<19→order.getD q 0<19:=by decide
theorem x3h (Z:List Nat):∀q,q<19→((order.take (q+1)).map fun j=>Z.getD j 0)=((order.take q).map fun j=>Z.getD j 0)++[Z.getD (order.getD q 0) 0]:=by
 intro q hq
 have hl:order.length=19:=by decide
 rw [List.take_add_one,List.getElem?_eq_getElem (by omega),List.map_append,List.getD_eq_getElem?_getD (l:=order),List.getElem?_eq_getElem (by omega)]
 rfl
theorem w4q (w:World) (u:Value):(w.alloc (.cells #[u] 3)).ownsRow 0 3 1 (.slice (some ⟨w.heap.size,0,none⟩) 1 1) [u].length [u] :=
 ⟨rfl,.inr ⟨w.heap.size,1,#[u],rfl,Nat.zero_le _,heap_alloc_new _ _,Nat.le_refl _,by decide,rfl,rfl⟩⟩
theorem St.nums {w0 w:World} {v:Value} {l:List Nat} (h:St w0 w v (l.map fun z:Nat=>iv (z:Int))) (h0:0<l.length):∃g c,v=.slice (some ⟨g,0,none⟩) l.length c∧l.length≤c∧w0.heap.size≤g∧g<w.heap.size∧∀j,j<l.length→w.cell? ⟨g,j,none⟩=some (.int .i64 ((l.getD j 0:Nat):Int)):=by
 have ho:=h.own
 rw [List.length_map] at ho
 rcases ho.2 with ⟨e1,e2⟩|⟨g,cap,cur,e1,hb,hg,hn,_,_,ht⟩
 ·omega
 ·refine ⟨g,cap,e1,hn,hb,z0b hg,fun j hj=>?_⟩
  obtain ⟨a,c,e,hc⟩:=y5q ho rfl
  obtain ⟨g',e3,e4⟩:=hc j hj
  rw [e1] at e
  injection e with q1 q2 q3
  rw [←q1] at e3
  injection e3 with e3
  injection e3 with e3
  subst e3
  exact e4
theorem x0g (vs:List Nat) (q:Nat) (h:q<vs.length):z5u (vs.take (q+1))=z5u (vs.take q)++nb (vs.getD q 0) 3:=by
 have e:vs.take (q+1)=vs.take q++[vs.getD q 0]:=by
  rw [List.take_add_one,List.getElem?_eq_getElem h,List.getD_eq_getElem?_getD,List.getElem?_eq_getElem h];rfl
 rw [e]
 unfold z5u
 rw [List.map_append,List.flatten_append,List.map_singleton,List.flatten_singleton]
theorem y9d {w:World} {g n:Nat} {l:List Nat} (h:z0c w .i64 3 g n fun j=>l.getD j 0) (hl:l.length=n):z0w w (.slice (some ⟨g,0,none⟩) n n) (inl l):=by
 refine ⟨_,n,by rw [z3b,hl],fun _=>⟨g,0,rfl,fun j hj=>?_⟩⟩
 rw [z3b] at hj
 rw [Nat.zero_add,h.cell j (by omega)]
 simp [inl,List.getD_eq_getElem?_getD,List.getElem?_map,List.getElem?_eq_getElem hj]
theorem x8r {ts:List T} {X Y Z:List Nat} {rs:List (Nat × Nat)} {vs:List Nat} (h:TF ts X Y Z rs vs) (p:Nat) (hp:p<rs.length):(rs.map Prod.fst).getD p 0<19∧0<Canon.ln Z ((rs.map Prod.fst).getD p 0)∧(rs.map Prod.snd).getD p 0<8192∧((rs.take (p+1)).map (z6x Z)).flatten=((rs.take p).map (z6x Z)).flatten++(wb Z ((rs.map Prod.fst).getD p 0)++nb ((rs.map Prod.snd).getD p 0) (xb ((rs.map Prod.fst).getD p 0))):=by
 have e:rs.take (p+1)=rs.take p++[rs[p]]:=by
  rw [List.take_add_one,List.getElem?_eq_getElem hp];rfl
 have e1:(rs.map Prod.fst).getD p 0=rs[p].1:=by simp [List.getD_eq_getElem?_getD,List.getElem?_map,List.getElem?_eq_getElem hp]
 have e2:(rs.map Prod.snd).getD p 0=rs[p].2:=by simp [List.getD_eq_getElem?_getD,List.getElem?_map,List.getElem?_eq_getElem hp]
 obtain ⟨h1,h2,h3⟩:=h.r19 rs[p] (List.getElem_mem _)
 rw [e1,e2,e,List.map_append,List.flatten_append,List.map_singleton,List.flatten_singleton]
 exact ⟨h1,h2,h3,rfl⟩
theorem x1u {ts:List T} {X Y Z:List Nat} {rs:List (Nat × Nat)} {vs:List Nat} (h:TF ts X Y Z rs vs):∀p,p≤rs.length→(((rs.take p).map (z6x Z)).flatten).length≤30*p
 | 0,_=>by simp
 | p+1,hp=>by
  have ih:=x1u h p (by omega)
  obtain ⟨_,_,_,e⟩:=x8r h p (by omega)
  rw [e,List.length_append,List.length_append,z1i,z0g]
  have:=z2d h.gz ((rs.map Prod.fst).getD p 0)
  have:xb ((rs.map Prod.fst).getD p 0)≤7:=by unfold xb;split<;>(try split)<;>(try split)<;>omega
  omega
theorem z4a {w w1 w2:World} {g n:Nat} {W L:Nat→Nat} {va v':Value} (h:z0f w 130 g n W L) (hg:∀b,va.ownBlock=some b→b≠g) (hb:Below w.heap.size w w1) (hk:Kp w1 w2 va v'):z0f w2 130 g n W L∧∀b,v'.ownBlock=some b→b≠g:=by
 have hlt:=z0b h
 have h1:z0f w1 130 g n W L:=h.stays hb hlt
 refine ⟨?_,fun b e=>?_⟩
 ·unfold z0f at h1 ⊢
  rw [hk.block g (z0b h1) (fun e=>hg g e rfl)]
  exact h1
 ·rcases hk.lies b e with e2|e2
  ·exact hg b e2
  ·have:=hb.size;omega
theorem w2e (ts:List T) (X Y Z:List Nat) (rs:List (Nat × Nat)) (vs:List Nat) (last:Bool) (v:Value) (w:World) (hr:z4m w v ts) (hF:TF ts X Y Z rs vs) (hlen:ts.length≤1048576) :
  Calls Tryz.prog 17 #[v,.bool last] w fun e w'=>∃lv,e=.returned lv∧St w w' lv ((((((((y0w last 2++nb (X.length-257) 5)++nb (Y.length-1) 5)++nb (vs.length-4) 4)++z5u vs)++(rs.map (z6x Z)).flatten)++(z2h X Y ts++wb X 256))).map bi):=by
 obtain ⟨av,cap,rfl,hcells⟩:=hr
 have HEACH:Hid (∀t∈ts,t.n=0∧t.b<256∨3≤t.n∧t.n≤258∧1≤t.d∧t.d≤32768):=qz hF.fit
 obtain ⟨N,hN⟩:∃N,N=ts.length:=⟨_,rfl⟩
 rw [←hN] at hcells hlen ⊢
 have HN:=qz hN
 have HC:=qz hcells
 have HF:=qz hF
 have m1:∀x,(Instr.makeSlice 45 (.int .i64 286) (.int .i64 286)).run Tryz.prog x=.ok (.slice (some ⟨x.heap.size,0,none⟩) 286 286) (x.alloc (.cells (z0d .i64 286 fun _=>0) 3)):=fun x=>z2c x 286 (by omega)
 have m2:∀x,(Instr.makeSlice 45 (.int .i64 30) (.int .i64 30)).run Tryz.prog x=.ok (.slice (some ⟨x.heap.size,0,none⟩) 30 30) (x.alloc (.cells (z0d .i64 30 fun _=>0) 3)):=fun x=>z2c x 30 (by omega)
 obtain ⟨ga,hga⟩:∃ga,ga=w.heap.size:=⟨_,rfl⟩
 obtain ⟨W1,hW1⟩:∃W1,W1=(w.alloc (.cells (z0d .i64 286 fun _=>0) 3)).alloc (.cells (z0d .i64 30 fun _=>0) 3):=⟨_,rfl⟩
 have hA0:z0c W1 .i64 3 ga 286 (fun _=>0):=by rw [hW1,hga];exact (show z0c _ _ _ _ _ _ from heap_alloc_new _ _).alloc _
 have hB0:z0c W1 .i64 3 (ga+1) 30 (fun _=>0):=by rw [hW1,hga];have:=heap_alloc_new (w.alloc (.cells (z0d .i64 286 fun _=>0) 3)) (.cells (z0d .i64 30 fun _=>0) 3);rw [show (w.alloc (.cells (z0d .i64 286 fun _=>0) 3)).heap.size=w.heap.size+1 by simp] at this;exact this
 have hb0:Below w.heap.size w W1:=by rw [hW1];exact ((Below.refl _ _).alloc (Nat.le_refl _) _).alloc (by simp) _
 have hc256:=hA0.cell 256 (by omega)
 have hf256:=hA0.free 256
 have HA0:Hid (z0c (W1.setCell ⟨ga,256,none⟩ (.int .i64 1)) .i64 3 ga 286 (z0l [])):=qz ((hA0.set 256 1).congr fun s hs=>by unfold upd z0l;by_cases e:s=256<;>simp [e])
 have HB0:Hid (z0c (W1.setCell ⟨ga,256,none⟩ (.int .i64 1)) .i64 3 (ga+1) 30 (z0i [])):=qz ((hB0.other _ _ (by show ga+1≠ga;omega)).congr fun s hs=>by simp [z0i])
 have HBE0:Hid (Below w.heap.size w (W1.setCell ⟨ga,256,none⟩ (.int .i64 1))):=qz (hb0.setCell (by show w.heap.size≤ga;omega) _)
 have hw1e:w.heap.size+1=ga+1:=by omega
 clear hN hcells hF hA0 hB0 hb0
 go_enter Tryz.func17,Tryz.ntmps17
 go_wp2_with fail
 rw [←hW1,←hga]
 go_wp2_with fail
 clear hc256 hf256 m1 m2 hw1e
 generalize W1.setCell ⟨ga,256,none⟩ (.int .i64 1)=W2 at HA0 HB0 HBE0 ⊢
 clear hW1 W1
 have hgw:w.heap.size≤ga:=by omega
 clear hga
 go_loopg [7] N (fun gk c ws=>∃i:Nat,gk=N-i∧i≤N∧c=.int .i64 (i:Int)∧Hid (z0c ws .i64 3 ga 286 (z0l (ts.take i)))∧Hid (z0c ws .i64 3 (ga+1) 30 (z0i (ts.take i)))∧Hid (Below w.heap.size w ws))
 case atStart=>exact ⟨0,by omega,by omega,rfl,HA0,HB0,HBE0⟩
 case round =>
  clear HA0 HB0 HBE0 W2
  obtain ⟨i,rfl,hiN,rfl,HA,HB,HBE⟩:=hrel
  rename World=>wo
  by_cases hlt:i<N
  ·have tlt:(i:Int)<(N:Int):=by omega
   obtain ⟨b,off,rfl,hc0⟩:=uh HC (by omega)
   obtain ⟨k1,k2,k3⟩:=hc0 i (by omega)
   have hmem:ts.getD i ⟨0,0,0⟩∈ts:=by rw [List.getD_eq_getElem?_getD,List.getElem?_eq_getElem (show i<ts.length by rw [←uh HN];exact hlt)];exact List.getElem_mem _
   have hf:=uh HEACH _ hmem
   have HSY:=qz (w2l ts i (by rw [←uh HN];exact hlt))
   have HD1:=qz (x5t ts i (by rw [←uh HN];exact hlt))
   have HD0:=qz (x5s ts i (by rw [←uh HN];exact hlt))
   have hsl:=w6m (ts.take i)
   have hdl:=w4b (ts.take i)
   rw [List.length_take] at hsl hdl
   generalize ts.getD i ⟨0,0,0⟩=t at k1 k2 k3 hf HSY HD1 HD0 hmem
   have c1:=z0a (uh HBE) k1
   have c2:=z0a (uh HBE) k2
   have c3:=z0a (uh HBE) k3
   clear k1 k2 k3 hc0 hmem
   by_cases h0:t.n=0
   ·have hb256:t.b<256:=by rcases hf with x|x;exact x.2;omega
    rw [if_pos h0] at HSY
    have HD:=qz (uh HD0 h0)
    rw [h0] at c1
    generalize t.b=B at *
    obtain ⟨cn,hcn⟩:∃cn,cn=z0l (ts.take i) B:=⟨_,rfl⟩
    have hcb:cn≤2000000:=by rw [hcn];have:=hsl B;omega
    have q1:=(uh HA).cell B (by omega)
    have q2:=(uh HA).free B
    rw [←hcn] at q1
    have hB2:(B:Int)<286:=by omega
    have HCN:=qz hcn
    clear hf h0 hsl hdl hcn
    go_wp2_with fail
    go_roundg (N-(i+1))
    case measure=>omega
    case rel =>
     refine ⟨i+1,rfl,by omega,by go_num,qz ?_,qz ?_,qz ((uh HBE).setCell hgw _)⟩
     ·rw [uh HSY,←uh HCN]
      have:=(uh HA).set B (cn+1)
      exact this
     ·rw [uh HD]
      exact (uh HB).other _ _ (by show ga+1≠ga;omega)
   ·obtain ⟨f1,f2,f3,f4⟩:3≤t.n∧t.n≤258∧1≤t.d∧t.d≤32768:=by rcases hf with x|x;exact absurd x.1 h0;exact x
    rw [if_neg h0] at HSY
    have HD:=qz (uh HD1 h0)
    obtain ⟨s,hs⟩:∃s,s=symL t.n:=⟨_,rfl⟩
    obtain ⟨d,hd⟩:∃d,d=symD t.d:=⟨_,rfl⟩
    obtain ⟨s1,s2,_,_⟩:=z6z t.n f1 f2
    obtain ⟨d1,_,_⟩:=z6y t.d f3 f4
    have HC1:=qz fun ws=>w3j t.n s _ ws f1 f2 hs rfl
    have HC3:=qz fun ws=>w3i t.d d _ ws f3 f4 hd rfl
    rw [←hs] at HSY s1 s2
    rw [←hd] at HD d1
    have hn0:((t.n:Int) == 0)=false:=by simp;omega
    obtain ⟨cn,hcn⟩:∃cn,cn=z0l (ts.take i) s:=⟨_,rfl⟩
    obtain ⟨dn,hdn⟩:∃dn,dn=z0i (ts.take i) d:=⟨_,rfl⟩
    have hcb:cn≤2000000:=by rw [hcn];have:=hsl s;omega
    have hdb:dn≤2000000:=by rw [hdn];have:=hdl d;omega
    have q1:=(uh HA).cell s (by omega)
    have q2:=(uh HA).free s
    have q3:=((uh HB).other ⟨ga,s,none⟩ (.int .i64 ((cn:Int)+1)) (by show ga+1≠ga;omega)).cell d (by omega)
    have q4:=((uh HB).other ⟨ga,s,none⟩ (.int .i64 ((cn:Int)+1)) (by show ga+1≠ga;omega)).free d
    rw [←hcn] at q1
    rw [←hdn] at q3
    have hs2:(s:Int)<286:=by omega
    have hd2:(d:Int)<30:=by omega
    have HCN:=qz hcn
    have HDN:=qz hdn
    clear hf hs hd hsl hdl hcn hdn
    generalize (t.n-(lenOf s).1)=mm at HC1
    generalize (t.d-(z0h d).1)=mm2 at HC3
    generalize t.n=tn at *
    generalize t.d=td at *
    clear f1 f2 f3 f4
    go_wp2_with fail
    refine (uh HC1 wo).mono ?_
    rintro e w' ⟨rfl,hw'⟩
    rw [hw']
    clear hw' w'
    go_wp2_with fail
    refine (uh HC3 wo).mono ?_
    rintro e w' ⟨rfl,hw'⟩
    rw [hw']
    clear hw' w'
    go_wp2_with fail
    go_roundg (N-(i+1))
    case measure=>omega
    case rel =>
     refine ⟨i+1,rfl,by omega,by go_num,qz ?_,qz ?_,qz (((uh HBE).setCell hgw _).setCell (by show w.heap.size≤ga+1;omega) _)⟩
     ·rw [uh HSY,←uh HCN]
      have:=(uh HA).set s (cn+1)
      exact this.other _ _ (by show ga≠ga+1;omega)
     ·rw [uh HD,←uh HDN]
      have:=((uh HB).other ⟨ga,s,none⟩ (.int .i64 (((cn+1:Nat)):Int)) (by show ga+1≠ga;omega)).set d (dn+1)
      exact this
  ·obtain rfl:i=N:=by omega
   have tlt:¬ (i:Int)<(i:Int):=by omega
   have htk:ts.take i=ts:=by rw [uh HN];exact List.take_length
   rw [htk] at HA HB
   clear htk
   go_wp2_with fail
   refine (y6a _ 15 286 ga wo (uh HA) (by omega) (by omega) (by omega) (by omega) (by omega) (uh HF).t1).mono ?_
   rintro e w3 ⟨gx,rfl,hgx,hx3,hb3⟩
   have HX3:=qz hx3
   have HB3:Hid (Below w.heap.size w w3):=qz ((uh HBE).trans (hb3.mono (uh HBE).size))
   have HY0:Hid (z0c w3 .i64 3 (ga+1) 30 (z0i ts)):=qz ((uh HB).stays hb3 (uh HB).lt)
   clear hx3 hb3 HA HB
   go_wp2_with fail
   refine (y6a _ 15 30 (ga+1) w3 (uh HY0) (by omega) (by omega) (by omega) (by omega) (by omega) (uh HF).t2).mono ?_
   rintro e w4 ⟨gy,rfl,hgy,hy4,hb4⟩
   have HY4:=qz hy4
   have HX4:=qz ((uh HX3).stays hb4 (uh HX3).lt)
   have HB4:Hid (Below w.heap.size w w4):=qz ((uh HB3).trans (hb4.mono (uh HB3).size))
   clear hy4 hb4 HX3 HB3 HY0 hgx hgy
   obtain ⟨NX,hNX⟩:∃NX,NX=X.length:=⟨_,rfl⟩
   obtain ⟨NY,hNY⟩:∃NY,NY=Y.length:=⟨_,rfl⟩
   have HT1:=y6c (W4.bl (z0l ts) 15 286) 257 (some ⟨gx,0,none⟩) 286 w4 (fun _=>⟨gx,0,rfl,fun j hj=>by rw [Nat.zero_add];exact (uh HX4).cell j (by rw [(uh HF).bx] at hj;exact hj)⟩) (by rw [(uh HF).bx];omega) (by rw [(uh HF).bx];omega) (by omega)
   rw [(uh HF).bx,(uh HF).xd,←hNX] at HT1
   have HT2:=y6c (W4.bl (z0i ts) 15 30) 1 (some ⟨gy,0,none⟩) 30 w4 (fun _=>⟨gy,0,rfl,fun j hj=>by rw [Nat.zero_add];exact (uh HY4).cell j (by rw [(uh HF).by_] at hj;exact hj)⟩) (by rw [(uh HF).by_];omega) (by rw [(uh HF).by_];omega) (by omega)
   rw [(uh HF).by_,(uh HF).yd,←hNY] at HT2
   have HT1:=qz HT1
   have HT2:=qz HT2
   have HXR:=qz (x2d (st:=257) (uh HX4) (uh HF).bx (by omega) (uh HF).xd (by omega))
   have HYR:=qz (x2d (st:=1) (uh HY4) (uh HF).by_ (by omega) (uh HF).yd (by omega))
   rw [←hNX] at HXR
   rw [←hNY] at HYR
   have hX12:257≤NX∧NX≤286:=by rw [hNX];exact ⟨(uh HF).x1,(uh HF).x2⟩
   have hY12:1≤NY∧NY≤30:=by rw [hNY];exact ⟨(uh HF).y1,(uh HF).y2⟩
   have HNX:=qz hNX
   have HNY:=qz hNY
   clear hNX hNY
   go_wp2_with fail
   refine (uh HT1).mono ?_
   rintro e w' ⟨rfl,hw'⟩
   rw [hw']
   clear hw' w'
   go_wp2_with fail
   refine (uh HT2).mono ?_
   rintro e w' ⟨rfl,hw'⟩
   rw [hw']
   clear hw' w' HT1 HT2
   have hXl:(X.map fun z:Nat=>iv (z:Int)).length=NX:=by rw [List.length_map,uh HNX]
   have hYl:(Y.map fun z:Nat=>iv (z:Int)).length=NY:=by rw [List.length_map,uh HNY]
   have HXl:=qz hXl
   have HYl:=qz hYl
   clear hXl hYl
   have HXB:Hid (∀w',Below w4.heap.size w4 w'→w'.ownsRow 0 3 1 (.slice (some ⟨gx,0,none⟩) NX 286) (X.map fun z:Nat=>iv (z:Int)).length (X.map fun z:Nat=>iv (z:Int))):=qz fun w' hb=>z0y (uh HXR) (fun g e=>hb.block _ ((uh HXR).lt g e).2)
   have HYB:Hid (∀w',Below w4.heap.size w4 w'→w'.ownsRow 0 3 1 (.slice (some ⟨gy,0,none⟩) NY 30) (Y.map fun z:Nat=>iv (z:Int)).length (Y.map fun z:Nat=>iv (z:Int))):=qz fun w' hb=>z0y (uh HYR) (fun g e=>hb.block _ ((uh HYR).lt g e).2)
   clear HXR HYR HX4 HY4
   go_wp2_with (at_builtin;first
    | (refine z1y rfl _ _ rfl _ _ _ _ _ (by rfl) (by rfl) (w2i w4) (uh HXB _ ((Below.refl _ _).alloc (Nat.le_refl _) _)) (x1a X) (by rw [uh HXl];simp;omega) ?_;intro v5 w5 h5 k5;have H5:=qz h5;clear h5 k5)
    | (refine z1y rfl _ _ rfl _ _ _ _ _ (by rfl) (by rfl) (uh H5) (uh HYB _ (uh H5).bel) (x1a Y) (by rw [uh HYl,List.nil_append,uh HXl];omega) ?_;intro v6 w6 h6 k6;have H6:=qz h6;clear h6 k6))
   have HST6:Hid (St w4 w6 v6 ((X++Y).map fun z:Nat=>iv (z:Int))):=qz (by rw [List.map_append];exact uh H6)
   have HRU:=w4z (inl (X++Y)) v6 w6 (uh HST6).readsI (by rw [z3b,List.length_append,←uh HNX,←uh HNY];omega)
   have HRU:=qz HRU
   clear H5 H6
   refine (uh HRU).mono ?_
   rintro e w7 ⟨sv,mv,rfl,hsv,hmv,hb7,hne⟩
   obtain ⟨n1,n2,n3⟩:=x8s (uh HF)
   rw [n1,n2] at hsv
   rw [n1,n3] at hmv
   have HSV:=qz (y5q hsv (by rw [List.length_map]))
   have HMV:=qz (y5q hmv (by rw [List.length_map]))
   have HB7:Hid (Below w.heap.size w w7):=qz (((uh HB4).trans ((uh HST6).bel.mono (uh HB4).size)).trans (hb7.mono ((uh HB4).trans ((uh HST6).bel.mono (uh HB4).size)).size))
   have HXB7:Hid (Below w4.heap.size w4 w7):=qz ((uh HST6).bel.trans (hb7.mono (uh HST6).bel.size))
   clear hsv hmv hb7 hne n1 n2 n3 HRU HST6
   have m3:∀x,(Instr.makeSlice 45 (.int .i64 19) (.int .i64 19)).run Tryz.prog x=.ok (.slice (some ⟨x.heap.size,0,none⟩) 19 19) (x.alloc (.cells (z0d .i64 19 fun _=>0) 3)):=fun x=>z2c x 19 (by omega)
   obtain ⟨sa,sc,rfl,hsc⟩:=uh HSV
   obtain ⟨ma,mc,rfl,hmc⟩:=uh HMV
   obtain ⟨K,hK⟩:∃K,K=rs.length:=⟨_,rfl⟩
   have hKb:K≤1000:=by rw [hK];exact (uh HF).rl
   rw [List.length_map,←hK] at hsc
   rw [List.length_map,←hK] at hmc
   rw [List.length_map,List.length_map,←hK]
   have HSC:=qz hsc
   have HMC:=qz hmc
   have HK:=qz hK
   clear hsc hmc HSV HMV hK
   obtain ⟨go,hgo⟩:∃go,go=w7.heap.size:=⟨_,rfl⟩
   obtain ⟨w8,hw8⟩:∃w8,w8=w7.alloc (.cells (z0d .i64 19 fun _=>0) 3):=⟨_,rfl⟩
   have HO8:Hid (z0c w8 .i64 3 go 19 (cr [])):=qz (by rw [hw8,hgo];exact (show z0c _ _ _ _ _ _ from heap_alloc_new _ _).congr fun s hs=>by simp [cr])
   have HB8:Hid (Below w7.heap.size w7 w8):=qz (by rw [hw8];exact (Below.refl _ _).alloc (Nat.le_refl _) _)
   go_wp2_with fail
   rw [←hw8,←hgo]
   clear m3 hw8
   have HGO:=qz hgo
   clear hgo
   go_loopg [21] K (fun gk c ws=>∃j:Nat,gk=K-j∧j≤K∧c=.int .i64 (j:Int)∧Hid (z0c ws .i64 3 go 19 (cr (rs.take j)))∧Hid (Below w7.heap.size w7 ws))
   case atStart=>exact ⟨0,by omega,by omega,rfl,HO8,HB8⟩
   case round =>
    clear HO8 HB8 w8
    obtain ⟨j,rfl,hjK,rfl,HO,HBO⟩:=hrel
    rename World=>ws
    by_cases hjlt:j<K
    ·have tlt2:(j:Int)<(K:Int):=by omega
     obtain ⟨gs,rfl,hcs⟩:=uh HSC j hjlt
     have hcs:=z0a (uh HBO) hcs
     have HSN:=qz (w3y rs j (by rw [←uh HK];exact hjlt))
     have hx19:(rs.map Prod.fst).getD j 0<19:=by
      have hm:(rs.map Prod.fst).getD j 0∈rs.map Prod.fst:=by
       rw [List.getD_eq_getElem?_getD,List.getElem?_eq_getElem (by rw [List.length_map,←uh HK];exact hjlt)]
       exact List.getElem_mem _
      obtain ⟨r,hr,e⟩:=List.mem_map.1 hm
      rw [←e]
      exact ((uh HF).r19 r hr).1
     have hle:=w6s (rs.take j) ((rs.map Prod.fst).getD j 0)
     rw [List.length_take] at hle
     generalize (rs.map Prod.fst).getD j 0=x at hcs HSN hx19 hle
     obtain ⟨cn,hcn⟩:∃cn,cn=cr (rs.take j) x:=⟨_,rfl⟩
     have q1:=(uh HO).cell x hx19
     have q2:=(uh HO).free x
     rw [←hcn] at q1 hle
     have hcb:cn≤2000:=by omega
     have hx2:(x:Int)<19:=by omega
     have HCN:=qz hcn
     clear hcn hle
     go_wp2_with fail
     go_roundg (K-(j+1))
     case measure=>omega
     case rel =>
      refine ⟨j+1,rfl,by omega,by go_num,qz ?_,qz ((uh HBO).setCell (by rw [←uh HGO];exact Nat.le_refl _) _)⟩
      rw [uh HSN,←uh HCN]
      exact (uh HO).set x (cn+1)
    ·obtain rfl:j=K:=by omega
     have tlt2:¬ (j:Int)<(j:Int):=by omega
     have htk:rs.take j=rs:=by rw [uh HK];exact List.take_length
     rw [htk] at HO
     clear htk
     go_wp2_with fail
     refine (y6a _ 7 19 go ws (uh HO) (by omega) (by omega) (by omega) (by omega) (by omega) (uh HF).t3).mono ?_
     rintro e w9 ⟨gz,rfl,hgz,hz9,hb9⟩
     rw [(uh HF).zd] at hz9
     have HZ9:=qz hz9
     have HB9:Hid (Below w7.heap.size w7 w9):=qz ((uh HBO).trans (hb9.mono (uh HBO).size))
     clear hz9 hb9 HO HBO hgz
     go_wp2_with fail
     refine (y5r w9).mono ?_
     rintro e wA ⟨rfl,hwA⟩
     have HOR:Hid (∀j,j<19→wA.cell? ⟨w9.heap.size,j,none⟩=some (.int .i64 ((order.getD j 0:Nat):Int))):=qz (by rw [hwA];exact z8h w9)
     have HBA9:Hid (Below w9.heap.size w9 wA):=qz (by rw [hwA];exact (Below.refl _ _).alloc (Nat.le_refl _) _)
     obtain ⟨gr,hgr⟩:∃gr,gr=w9.heap.size:=⟨_,rfl⟩
     rw [←hgr] at HOR ⊢
     have HZA:=qz ((uh HZ9).stays (uh HBA9) (uh HZ9).lt)
     have HBA:Hid (Below w7.heap.size w7 wA):=qz ((uh HB9).trans ((uh HBA9).mono (uh HB9).size))
     clear hwA HZ9 HB9 HBA9 hgr
     go_wp2_with fail
     go_loopg [24,26] 19 (fun gk o c ws=>∃q:Nat,gk=19-q∧q≤19∧c=.int .i64 (q:Int)∧Hid (St wA ws o (((order.take q).map fun j=>Z.getD j 0).map fun z:Nat=>iv (z:Int))))
     case atStart=>exact ⟨0,by omega,by omega,rfl,qz (St.nil wA)⟩
     case round =>
      obtain ⟨q,rfl,hq,rfl,HSo⟩:=hrel
      rename World=>wo2
      by_cases hqlt:q<19
      ·have tlt3:(q:Int)<19:=by omega
       have c1:=z0a (uh HSo).bel (uh HOR q hqlt)
       have hx19:order.getD q 0<19:=w1n q hqlt
       have c2:=((uh HZA).stays (uh HSo).bel (uh HZA).lt).cell (order.getD q 0) hx19
       have HSN:=qz (x3h Z q hqlt)
       have hll:((order.take q).map fun j=>Z.getD j 0).length=q:=by rw [List.length_map,List.length_take,show order.length=19 by decide];omega
       have HLL:=qz hll
       clear hll
       generalize order.getD q 0=x at *
       have hx2:(x:Int)<19:=by omega
       generalize Z.getD x 0=zx at *
       go_wp2_with (at_builtin;refine z1y rfl _ _ rfl _ _ _ [.int .i64 (zx:Int)] 0 (by rfl) (by rfl) ((uh HSo).alloc _) (w4q wo2 _) (by intro u hu;rw [List.mem_singleton] at hu;subst hu;rfl) (by rw [List.length_map,uh HLL];simp;omega) ?_;intro v3 w3 h3 _;have H3:=qz h3;clear h3)
       go_roundg (19-(q+1))
       case measure=>omega
       case rel=>exact ⟨q+1,rfl,by omega,by go_num,qz (by rw [uh HSN,List.map_append];exact uh H3)⟩
      ·obtain rfl:q=19:=by omega
       have HOL:Hid (((order.take 19).map fun j=>Z.getD j 0).length=19):=qz (by rw [List.length_map];decide)
       have HOE:Hid (trim 4 19 ((order.take 19).map fun j=>Z.getD j 0)=vs):=qz (by rw [show order.take 19=order by decide];exact (uh HF).vd)
       generalize (order.take 19).map (fun j=>Z.getD j 0)=ol at HSo HOL HOE
       obtain ⟨g1,k1,rfl,hk1,hg1,hg2,hcl⟩:=(uh HSo).nums (by rw [uh HOL];omega)
       rw [uh HOL] at hk1 hcl ⊢
       have HTV:=y6c ol 4 (some ⟨g1,0,none⟩) k1 wo2 (fun _=>⟨g1,0,rfl,fun j hj=>by rw [Nat.zero_add];exact hcl j (by rw [uh HOL] at hj;exact hj)⟩) (by rw [uh HOL];exact hk1) (by rw [uh HOL];omega) (by omega)
       rw [uh HOL,uh HOE] at HTV
       have HTV:=qz HTV
       obtain ⟨NV,hNV⟩:∃NV,NV=vs.length:=⟨_,rfl⟩
       rw [←hNV] at HTV
       have hV12:4≤NV∧NV≤19:=by rw [hNV];exact ⟨(uh HF).v1,(uh HF).v2⟩
       have HVC:Hid (∀j,j<NV→wo2.cell? ⟨g1,j,none⟩=some (.int .i64 ((vs.getD j 0:Nat):Int))):=qz fun j hj=>by
        rw [←uh HOE,(z5p 4 19 ol (by rw [uh HOL];omega)).2.2 j]
        exact hcl j (by omega)
       have HNV:=qz hNV
       clear hcl hNV
       go_wp2_with fail
       refine (uh HTV).mono ?_
       rintro e w' ⟨rfl,hw'⟩
       rw [hw']
       clear hw' w' HTV
       have hXi:(NX:Int)-257=((NX-257:Nat):Int):=by omega
       have hYi:(NY:Int)-1=((NY-1:Nat):Int):=by omega
       have hVi:(NV:Int)-4=((NV-4:Nat):Int):=by omega
       go_wp2_with fail
       refine (y5y last 2 wo2 (by omega)).mono ?_
       rintro e wB ⟨lB,rfl,hB⟩
       have HSB:Hid (St wo2 wB lB ((y0w last 2).map bi)):=qz hB
       clear hB
       obtain ⟨O0,hO0⟩:∃O0,O0=y0w last 2:=⟨_,rfl⟩
       have HL0:Hid (O0.length=3):=qz (by rw [hO0];cases last<;>rfl)
       rw [←hO0] at HSB
       have HO0:=qz hO0
       clear hO0
       go_wp2_with fail
       refine (z4g (NX-257) 5 wB (by omega) (by omega)).mono ?_
       rintro e C1 ⟨lC,rfl,hC⟩
       rw [z3s] at hC
       have HNC:=qz hC
       clear hC
       go_wp2_with (at_builtin;refine z1y rfl _ _ rfl _ _ _ _ _ (by rfl) (by rfl) ((uh HSB).later (uh HNC).bel) (uh HNC).own (z2p _) (by simp only [List.length_map,z0g,uh HL0];omega) ?_;intro vC C2 hC _;have HSC0:=qz hC;clear hC)
       obtain ⟨O1,hO1⟩:∃O1,O1=O0++nb (NX-257) 5:=⟨_,rfl⟩
       have HL1:Hid (O1.length=8):=qz (by rw [hO1,List.length_append,z0g,uh HL0])
       have HSC1:Hid (St wo2 C2 vC (O1.map bi)):=qz (by rw [hO1,List.map_append];exact uh HSC0)
       have HO1:=qz hO1
       clear HSC0 hO1 HNC HSB
       refine (z4g (NY-1) 5 C2 (by omega) (by omega)).mono ?_
       rintro e D1 ⟨lD,rfl,hD⟩
       rw [z3s] at hD
       have HND:=qz hD
       clear hD
       go_wp2_with (at_builtin;refine z1y rfl _ _ rfl _ _ _ _ _ (by rfl) (by rfl) ((uh HSC1).later (uh HND).bel) (uh HND).own (z2p _) (by simp only [List.length_map,z0g,uh HL1];omega) ?_;intro vD D2 hD _;have HSD0:=qz hD;clear hD)
       obtain ⟨O2,hO2⟩:∃O2,O2=O1++nb (NY-1) 5:=⟨_,rfl⟩
       have HL2:Hid (O2.length=13):=qz (by rw [hO2,List.length_append,z0g,uh HL1])
       have HSD1:Hid (St wo2 D2 vD (O2.map bi)):=qz (by rw [hO2,List.map_append];exact uh HSD0)
       have HO2:=qz hO2
       clear HSD0 hO2 HND HSC1
       refine (z4g (NV-4) 4 D2 (by omega) (by omega)).mono ?_
       rintro e E1 ⟨lE,rfl,hE⟩
       rw [z3s] at hE
       have HNE:=qz hE
       clear hE
       go_wp2_with (at_builtin;refine z1y rfl _ _ rfl _ _ _ _ _ (by rfl) (by rfl) ((uh HSD1).later (uh HNE).bel) (uh HNE).own (z2p _) (by simp only [List.length_map,z0g,uh HL2];omega) ?_;intro vE E2 hE _;have HSE0:=qz hE;clear hE)
       obtain ⟨O3,hO3⟩:∃O3,O3=O2++nb (NV-4) 4:=⟨_,rfl⟩
       have HL3:Hid (O3.length=17):=qz (by rw [hO3,List.length_append,z0g,uh HL2])
       have HSE1:Hid (St wo2 E2 vE (O3.map bi)):=qz (by rw [hO3,List.map_append];exact uh HSE0)
       have HO3:=qz hO3
       clear HSE0 hO3 HNE HSD1
       have HBwA:Hid (Below wA.heap.size wA wo2):=qz (uh HSo).bel
       go_loopg [27,28] NV (fun gk o c ws=>∃q:Nat,gk=NV-q∧q≤NV∧c=.int .i64 (q:Int)∧Hid (St wo2 ws o ((O3++z5u (vs.take q)).map bi)))
       case atStart=>exact ⟨0,by omega,by omega,rfl,qz (by rw [List.take_zero,show z5u []=[] from rfl,List.append_nil];exact uh HSE1)⟩
       case round =>
        clear HSE1
        obtain ⟨q,rfl,hqV,rfl,HSq⟩:=hrel
        rename World=>wq
        have HLq:Hid ((O3++z5u (vs.take q)).length≤100):=qz (by rw [List.length_append,uh HL3,z9d,List.length_take];omega)
        by_cases hqlt:q<NV
        ·have tlt4:(q:Int)<(NV:Int):=by omega
         have c1:=z0a (uh HSq).bel (uh HVC q hqlt)
         have hv8:vs.getD q 0<8:=by
          rw [List.getD_eq_getElem?_getD,List.getElem?_eq_getElem (show q<vs.length by rw [←uh HNV];exact hqlt)]
          exact (uh HF).v7 _ (List.getElem_mem _)
         have HSN:=qz (x0g vs q (by rw [←uh HNV];exact hqlt))
         generalize vs.getD q 0=x at *
         go_wp2_with fail
         refine (z4g x 3 wq (by omega) (by omega)).mono ?_
         rintro e G1 ⟨lG,rfl,hG⟩
         rw [z3s] at hG
         have HNG:=qz hG
         clear hG
         go_wp2_with (at_builtin;refine z1y rfl _ _ rfl _ _ _ _ _ (by rfl) (by rfl) ((uh HSq).later (uh HNG).bel) (uh HNG).own (z2p _) (by have:=uh HLq;simp only [List.length_map,z0g];omega) ?_;intro vG G2 hG _;have HSG:=qz hG;clear hG)
         go_roundg (NV-(q+1))
         case measure=>omega
         case rel=>exact ⟨q+1,rfl,by omega,by go_num,qz (by rw [uh HSN,←List.append_assoc,List.map_append];exact uh HSG)⟩
        ·obtain rfl:q=NV:=by omega
         have tlt4:¬ (q:Int)<(q:Int):=by omega
         have htk:vs.take q=vs:=by rw [uh HNV];exact List.take_length
         rw [htk] at HSq HLq
         clear htk
         obtain ⟨O4,hO4⟩:∃O4,O4=O3++z5u vs:=⟨_,rfl⟩
         rw [←hO4] at HSq HLq
         have HO4:=qz hO4
         clear hO4
         have HZq:Hid (z0c wq .i64 3 gz 19 fun j=>Z.getD j 0):=qz (((uh HZA).stays (uh HBwA) (uh HZA).lt).stays (uh HSq).bel ((uh HZA).stays (uh HBwA) (uh HZA).lt).lt)
         have HNW:=y2n Z 7 false (.slice (some ⟨gz,0,none⟩) 19 19) wq (y9d (uh HZq) (uh HF).zl) (by omega) (by omega) (by rw [(uh HF).zl];omega) (by rw [(uh HF).zl];omega) (uh HF).z7 (uh HF).zo
         rw [(uh HF).zl] at HNW
         have HNW:=qz HNW
         go_wp2_with fail
         refine (uh HNW).mono ?_
         rintro e wN ⟨gc,hgc,rfl,hwN,hbN⟩
         have HWN:=qz hwN
         have HSN:=qz ((uh HSq).later hbN)
         have HBN:=qz hbN
         have hgcq:=hgc
         have HGC:Hid (∀b,u27.ownBlock=some b→b≠gc):=qz fun b e=>by have:=((uh HSq).own.lt b e).2;omega
         clear hgc hwN hbN HNW HZq
         have HBW:Hid (∀x,Below wo2.heap.size wo2 x→Below w7.heap.size w7 x):=qz fun x hx=>by
          have b1:=(uh HBA).trans ((uh HBwA).mono (uh HBA).size)
          exact b1.trans (hx.mono b1.size)
         go_wp2_with fail
         go_loopg [27,31] j (fun gk o c ws=>∃p:Nat,gk=j-p∧p≤j∧c=.int .i64 (p:Int)∧Hid (St wo2 ws o ((O4++((rs.take p).map (z6x Z)).flatten).map bi))∧Hid (z0f ws 130 gc 19 (wdz Z) (Canon.ln Z))∧Hid (∀b,o.ownBlock=some b→b≠gc))
         case atStart=>exact ⟨0,by omega,by omega,rfl,qz (by rw [List.take_zero,List.map_nil,List.flatten_nil,List.append_nil];exact uh HSN),HWN,HGC⟩
         case round =>
          clear HWN HSN HGC HBN
          obtain ⟨p,rfl,hpj,rfl,HSt,HWt,HGt⟩:=hrel
          rename World=>wt
          have HLt:Hid ((O4++((rs.take p).map (z6x Z)).flatten).length≤100+30*p):=qz (by
           rw [List.length_append]
           have:=x1u (uh HF) p (by rw [←uh HK];exact hpj)
           have:=uh HLq
           omega)
          by_cases hplt:p<j
          ·have tlt5:(p:Int)<(j:Int):=by omega
           obtain ⟨gs,rfl,hcs⟩:=uh HSC p hplt
           obtain ⟨gm,rfl,hcm⟩:=uh HMC p hplt
           have c1:=z0a (uh HBW wt (uh HSt).bel) hcs
           obtain ⟨f1,f2,f3,HSNC⟩:=x8r (uh HF) p (by rw [←uh HK];exact hplt)
           have HSNC:=qz HSNC
           generalize (rs.map Prod.fst).getD p 0=s at *
           generalize (rs.map Prod.snd).getD p 0=m at *
           have HSC2:Hid (∀x,Below w7.heap.size w7 x→x.cell? ⟨gs,p,none⟩=some (.int .i64 (s:Int))):=qz fun x hx=>z0a hx hcs
           have HMC2:Hid (∀x,Below w7.heap.size w7 x→x.cell? ⟨gm,p,none⟩=some (.int .i64 (m:Int))):=qz fun x hx=>z0a hx hcm
           have HPT:Hid (Calls Tryz.prog 46 #[.slice (some ⟨gc,0,none⟩) 19 19,.int .i64 (s:Int)] wt fun e w'=>∃lv,e=.returned lv∧St wt w' lv ((wb Z s).map bi)):=qz (y9z Z gc 19 s wt (uh HF).gz (uh HF).zl f1 f2 (uh HWt))
           have HLW:Hid ((wb Z s).length≤20):=qz (by rw [z1i];exact z2d (uh HF).gz s)
           clear hcs hcm
           by_cases h16:s=16
           ·
            have HSN':Hid (((rs.take (p+1)).map (z6x Z)).flatten=((rs.take p).map (z6x Z)).flatten++(wb Z s++nb m 2)):=qz (by rw [uh HSNC,h16];rfl)
            subst h16
            go_wp2_with fail
            refine (uh HPT).mono ?_
            rintro e P1 ⟨lP,rfl,hP⟩
            have HPP:=qz hP
            clear hP HPT
            go_wp2_with (at_builtin;refine z1y rfl _ _ rfl _ _ _ _ _ (by rfl) (by rfl) ((uh HSt).later (uh HPP).bel) (uh HPP).own (z2p _) (by have q1:=uh HLt;have q2:=uh HLW;simp only [List.length_map] at q1 q2 ⊢;omega) ?_;intro vP P2 hP kP;have HSP:=qz hP;have HKP:=qz (z4a (uh HWt) (uh HGt) (uh HPP).bel kP);have HBS2:Hid (Below w7.heap.size w7 P2):=qz (uh HBW P2 hP.bel);have d1:=uh HSC2 P2 (uh HBS2);have d2:=uh HMC2 P2 (uh HBS2);clear hP kP)
            refine (z4g m 2 P2 (by omega) (by omega)).mono ?_
            rintro e Q1 ⟨lQ,rfl,hQ⟩
            rw [z3s] at hQ
            have HQQ:=qz hQ
            clear hQ
            go_wp2_with (at_builtin;refine z1y rfl _ _ rfl _ _ _ _ _ (by rfl) (by rfl) ((uh HSP).later (uh HQQ).bel) (uh HQQ).own (z2p _) (by have q1:=uh HLt;have q2:=uh HLW;simp only [List.length_append,List.length_map,z0g] at q1 q2 ⊢;omega) ?_;intro vQ Q2 hQ kQ;have HSQ:=qz hQ;have HKQ:=qz (z4a (uh HKP).1 (uh HKP).2 (uh HQQ).bel kQ);clear hQ kQ)
            go_roundg (j-(p+1))
            case measure=>omega
            case rel=>exact ⟨p+1,rfl,by omega,by go_num,qz (by have q:=uh HSQ;rw [uh HSN'];simpa only [List.map_append,List.append_assoc] using q),qz (uh HKQ).1,qz (uh HKQ).2⟩
           ·by_cases h17:s=17
            ·
             have HSN':Hid (((rs.take (p+1)).map (z6x Z)).flatten=((rs.take p).map (z6x Z)).flatten++(wb Z s++nb m 3)):=qz (by rw [uh HSNC,h17];rfl)
             subst h17
             go_wp2_with fail
             refine (uh HPT).mono ?_
             rintro e P1 ⟨lP,rfl,hP⟩
             have HPP:=qz hP
             clear hP HPT
             go_wp2_with (at_builtin;refine z1y rfl _ _ rfl _ _ _ _ _ (by rfl) (by rfl) ((uh HSt).later (uh HPP).bel) (uh HPP).own (z2p _) (by have q1:=uh HLt;have q2:=uh HLW;simp only [List.length_map] at q1 q2 ⊢;omega) ?_;intro vP P2 hP kP;have HSP:=qz hP;have HKP:=qz (z4a (uh HWt) (uh HGt) (uh HPP).bel kP);have HBS2:Hid (Below w7.heap.size w7 P2):=qz (uh HBW P2 hP.bel);have d1:=uh HSC2 P2 (uh HBS2);have d2:=uh HMC2 P2 (uh HBS2);clear hP kP)
             refine (z4g m 3 P2 (by omega) (by omega)).mono ?_
             rintro e Q1 ⟨lQ,rfl,hQ⟩
             rw [z3s] at hQ
             have HQQ:=qz hQ
             clear hQ
             go_wp2_with (at_builtin;refine z1y rfl _ _ rfl _ _ _ _ _ (by rfl) (by rfl) ((uh HSP).later (uh HQQ).bel) (uh HQQ).own (z2p _) (by have q1:=uh HLt;have q2:=uh HLW;simp only [List.length_append,List.length_map,z0g] at q1 q2 ⊢;omega) ?_;intro vQ Q2 hQ kQ;have HSQ:=qz hQ;have HKQ:=qz (z4a (uh HKP).1 (uh HKP).2 (uh HQQ).bel kQ);clear hQ kQ)
             go_roundg (j-(p+1))
             case measure=>omega
             case rel=>exact ⟨p+1,rfl,by omega,by go_num,qz (by have q:=uh HSQ;rw [uh HSN'];simpa only [List.map_append,List.append_assoc] using q),qz (uh HKQ).1,qz (uh HKQ).2⟩
            ·by_cases h18:s=18
             ·
              have HSN':Hid (((rs.take (p+1)).map (z6x Z)).flatten=((rs.take p).map (z6x Z)).flatten++(wb Z s++nb m 7)):=qz (by rw [uh HSNC,h18];rfl)
              subst h18
              go_wp2_with fail
              refine (uh HPT).mono ?_
              rintro e P1 ⟨lP,rfl,hP⟩
              have HPP:=qz hP
              clear hP HPT
              go_wp2_with (at_builtin;refine z1y rfl _ _ rfl _ _ _ _ _ (by rfl) (by rfl) ((uh HSt).later (uh HPP).bel) (uh HPP).own (z2p _) (by have q1:=uh HLt;have q2:=uh HLW;simp only [List.length_map] at q1 q2 ⊢;omega) ?_;intro vP P2 hP kP;have HSP:=qz hP;have HKP:=qz (z4a (uh HWt) (uh HGt) (uh HPP).bel kP);have HBS2:Hid (Below w7.heap.size w7 P2):=qz (uh HBW P2 hP.bel);have d1:=uh HSC2 P2 (uh HBS2);have d2:=uh HMC2 P2 (uh HBS2);clear hP kP)
              refine (z4g m 7 P2 (by omega) (by omega)).mono ?_
              rintro e Q1 ⟨lQ,rfl,hQ⟩
              rw [z3s] at hQ
              have HQQ:=qz hQ
              clear hQ
              go_wp2_with (at_builtin;refine z1y rfl _ _ rfl _ _ _ _ _ (by rfl) (by rfl) ((uh HSP).later (uh HQQ).bel) (uh HQQ).own (z2p _) (by have q1:=uh HLt;have q2:=uh HLW;simp only [List.length_append,List.length_map,z0g] at q1 q2 ⊢;omega) ?_;intro vQ Q2 hQ kQ;have HSQ:=qz hQ;have HKQ:=qz (z4a (uh HKP).1 (uh HKP).2 (uh HQQ).bel kQ);clear hQ kQ)
              go_roundg (j-(p+1))
              case measure=>omega
              case rel=>exact ⟨p+1,rfl,by omega,by go_num,qz (by have q:=uh HSQ;rw [uh HSN'];simpa only [List.map_append,List.append_assoc] using q),qz (uh HKQ).1,qz (uh HKQ).2⟩
             ·
              have HSN':Hid (((rs.take (p+1)).map (z6x Z)).flatten=((rs.take p).map (z6x Z)).flatten++wb Z s):=qz (by rw [uh HSNC,show xb s=0 by unfold xb;rw [if_neg h16,if_neg h17,if_neg h18],show nb m 0=[] from rfl,List.append_nil])
              have e16:¬ (s:Int)=16:=by omega
              have e17:¬ (s:Int)=17:=by omega
              have e18:¬ (s:Int)=18:=by omega
              have f16:((s:Int) == 16)=false:=by rw [beq_eq_false_iff_ne];omega
              have f17:((s:Int) == 17)=false:=by rw [beq_eq_false_iff_ne];omega
              have f18:((s:Int) == 18)=false:=by rw [beq_eq_false_iff_ne];omega
              go_wp2_with fail
              refine (uh HPT).mono ?_
              rintro e P1 ⟨lP,rfl,hP⟩
              have HPP:=qz hP
              clear hP HPT
              go_wp2_with (at_builtin;refine z1y rfl _ _ rfl _ _ _ _ _ (by rfl) (by rfl) ((uh HSt).later (uh HPP).bel) (uh HPP).own (z2p _) (by have q1:=uh HLt;have q2:=uh HLW;simp only [List.length_map] at q1 q2 ⊢;omega) ?_;intro vP P2 hP kP;have HSP:=qz hP;have HKP:=qz (z4a (uh HWt) (uh HGt) (uh HPP).bel kP);have HBS2:Hid (Below w7.heap.size w7 P2):=qz (uh HBW P2 hP.bel);have d1:=uh HSC2 P2 (uh HBS2);have d2:=uh HMC2 P2 (uh HBS2);clear hP kP)
              go_roundg (j-(p+1))
              case measure=>omega
              case rel=>exact ⟨p+1,rfl,by omega,by go_num,qz (by rw [uh HSN',←List.append_assoc,List.map_append];exact uh HSP),qz (uh HKP).1,qz (uh HKP).2⟩
          ·obtain rfl:p=j:=by omega
           have tlt5:¬ (p:Int)<(p:Int):=by omega
           have htk:rs.take p=rs:=by rw [uh HK];exact List.take_length
           rw [htk] at HSt HLt
           clear htk
           obtain ⟨O5,hO5⟩:∃O5,O5=O4++(rs.map (z6x Z)).flatten:=⟨_,rfl⟩
           rw [←hO5] at HSt HLt
           have HO5:=qz hO5
           clear hO5
           have HBt:Hid (Below w7.heap.size w7 wt):=qz (uh HBW wt (uh HSt).bel)
           have HB4t:Hid (Below w4.heap.size w4 wt):=qz ((uh HXB7).trans ((uh HBt).mono (uh HXB7).size))
           have HNWX:=y2n X 15 true (.slice (some ⟨gx,0,none⟩) NX 286) wt (z5t (uh HXB wt (uh HB4t)) (by rw [List.length_map])) (by omega) (by omega) (by rw [←uh HNX];omega) (by rw [←uh HNX];omega) (uh HF).x15 (uh HF).xo
           rw [←uh HNX] at HNWX
           have HNWX:=qz HNWX
           clear HBW HWt HGt
           go_wp2_with fail
           refine (uh HNWX).mono ?_
           rintro e wX ⟨cx,hcx,rfl,hwX,hbX⟩
           have HWX:=qz hwX
           have HBX:=qz hbX
           have HB4X:Hid (Below w4.heap.size w4 wX):=qz ((uh HB4t).trans (hbX.mono (uh HB4t).size))
           clear hcx hwX hbX HNWX
           have HNWY:=y2n Y 15 true (.slice (some ⟨gy,0,none⟩) NY 30) wX (z5t (uh HYB wX (uh HB4X)) (by rw [List.length_map])) (by omega) (by omega) (by rw [←uh HNY];omega) (by rw [←uh HNY];omega) (uh HF).y15 (uh HF).yo
           rw [←uh HNY] at HNWY
           have HNWY:=qz HNWY
           go_wp2_with fail
           refine (uh HNWY).mono ?_
           rintro e wY ⟨cy,hcy,rfl,hwY,hbY⟩
           have HWY:=qz hwY
           have HWX2:=qz ((uh HWX).stays hbY (z0b (uh HWX)))
           have HStY:=qz (((uh HSt).later (uh HBX)).later hbY)
           have HB4Y:Hid (Below w4.heap.size w4 wY):=qz ((uh HB4X).trans (hbY.mono (uh HB4X).size))
           clear hcy hwY hbY HNWY HWX
           have HTK:=x1s ts X Y (.slice av ts.length cap) cx cy wY (by
            refine ⟨av,cap,rfl,fun h0=>?_⟩
            rw [←uh HN] at h0
            obtain ⟨b,off,e,hc⟩:=uh HC h0
            have hbw:Below w.heap.size w wY:=(uh HB4).trans ((uh HB4Y).mono (uh HB4).size)
            refine ⟨b,off,e,fun q hq=>?_⟩
            obtain ⟨q1,q2,q3⟩:=hc q (by rw [uh HN];exact hq)
            exact ⟨z0a hbw q1,z0a hbw q2,z0a hbw q3⟩) (uh HF).gx (uh HF).gy (by rw [←uh HNX];exact uh HWX2) (by rw [←uh HNY];exact uh HWY) (uh HF).fit (uh HF).has (uh HF).h256 (by rw [←uh HN];exact hlen)
           rw [←uh HN,←uh HNX,←uh HNY] at HTK
           have HTK:=qz HTK
           have HTL:Hid ((z2h X Y ts++wb X 256).length≤100000000):=qz (by
            rw [List.length_append,z1i]
            have q1:=z6g (uh HF).gx (uh HF).gy (uh HF).fit ts.length (Nat.le_refl _)
            rw [List.take_length] at q1
            have q2:=z2d (uh HF).gx 256
            have q3:=uh HN
            omega)
           go_wp2_with fail
           refine (uh HTK).mono ?_
           rintro e wZ ⟨lZ,rfl,hZ⟩
           have HZZ:=qz hZ
           clear hZ HTK
           go_wp2_with (at_builtin;refine z1y rfl _ _ rfl _ _ _ _ _ (by rfl) (by rfl) ((uh HStY).later (uh HZZ).bel) (uh HZZ).own (z2p _) (by have q1:=uh HLt;have q2:=uh HTL;simp only [List.length_map] at q1 q2 ⊢;omega) ?_;intro vF wF hF kF;have HSF:=qz hF;clear hF kF)
           go_ret
           refine ⟨vF,rfl,St.wide (w5:=wo2) ?_ ?_⟩
           ·have q:=uh HSF
            rw [←List.map_append,uh HO5,uh HO4,uh HO3,uh HO2,uh HO1,uh HO0,uh HNX,uh HNY,uh HNV] at q
            exact q
           ·have b1:=(uh HBA).trans ((uh HBwA).mono (uh HBA).size)
            exact (uh HB7).trans (b1.mono (uh HB7).size)
end R8
namespace T6
structure Tok where
 n:Int
 d:Int
 b:Nat
def tz:Tok:=⟨0,0,0⟩
def Tok.May (t:Tok):Prop:=(t.n=0∧t.d=0)∨(1≤t.n∧1≤t.d∧t.b=0)
def Tok.sz (t:Tok):Nat:=if t.n=0 then 1 else t.n.toNat
def tsum (ts:List Tok):Nat→Nat
 | 0=>0
 | k+1=>tsum ts k+(ts.getD k tz).sz
def x4r (ahead:Int) (t:Tok) (made:Nat) (e:Int):Prop :=
 (¬t.May∧e=2)∨(t.May∧ahead+made<t.d∧e=14)∨(t.May∧t.d≤ahead+made∧268435456<made+t.sz∧e=3)∨(t.May∧t.d≤ahead+made∧made+t.sz≤268435456∧e=0)
theorem x4r.one {ahead:Int} {t:Tok} {made:Nat} {e e':Int} (h:x4r ahead t made e) (h':x4r ahead t made e'):e=e':=by
 rcases h with ⟨h1,rfl⟩|⟨h1,h2,rfl⟩|⟨h1,h2,h3,rfl⟩|⟨h1,h2,h3,rfl⟩<;>rcases h' with ⟨k1,rfl⟩|⟨k1,k2,rfl⟩|⟨k1,k2,k3,rfl⟩|⟨k1,k2,k3,rfl⟩<;>first|rfl|exact absurd k1 h1|exact absurd h1 k1|omega
def Good (ahead:Int) (ts:List Tok) (k:Nat):Prop:=∀j,j<k→x4r ahead (ts.getD j tz) (tsum ts j) 0
def Fails (ahead:Int) (ts:List Tok) (e:Int):Prop:=e≠0∧∃k,k<ts.length∧Good ahead ts k∧x4r ahead (ts.getD k tz) (tsum ts k) e
def x4p (ahead:Int) (ts:List Tok) (a e:Int):Prop:=(Fails ahead ts e∧a=0)∨(Good ahead ts ts.length∧a=(tsum ts ts.length:Int)∧e=0)
theorem Fails.not {ahead:Int} {ts:List Tok} {e:Int} (h:Fails ahead ts e):¬Good ahead ts ts.length:=fun hg=>by
 obtain ⟨h0,k,hk,_,hs⟩:=h
 exact h0 (hs.one (hg k hk))
theorem Fails.one {ahead:Int} {ts:List Tok} {e e':Int} (h:Fails ahead ts e) (h':Fails ahead ts e'):e=e':=by
 obtain ⟨h0,k,hk,hg,hs⟩:=h
 obtain ⟨h0',k',hk',hg',hs'⟩:=h'
 rcases Nat.lt_trichotomy k k' with hlt|rfl|hlt
 ·exact absurd (hs.one (hg' k hlt)) h0
 ·exact hs.one hs'
 ·exact absurd (hs'.one (hg k' hlt)) h0'
theorem x4p.one {ahead:Int} {ts:List Tok} {a e a' e':Int} (h:x4p ahead ts a e) (h':x4p ahead ts a' e'):a=a'∧e=e':=by
 rcases h with ⟨h1,rfl⟩|⟨h1,rfl,rfl⟩<;>rcases h' with ⟨k1,rfl⟩|⟨k1,rfl,rfl⟩
 ·exact ⟨rfl,h1.one k1⟩
 ·exact absurd k1 h1.not
 ·exact absurd h1 k1.not
 ·exact ⟨rfl,rfl⟩
def cp (d:Nat):Nat→List Nat→List Nat
 | 0,P=>P
 | k+1,P=>cp d k P++[(cp d k P).getD ((cp d k P).length-d) 0]
theorem y1x {A B:List Nat} (h:A.length=B.length) (h2:∀i,i<A.length→A.getD i 0=B.getD i 0):A=B:=by
 apply List.ext_getElem h
 intro i h1 h3
 have:=h2 i h1
 simpa [h1,h3] using this
theorem z1f (P:List Nat) (f n i:Nat) (h:i<n):((P.drop f).take n).getD i 0=P.getD (f+i) 0:=by
 simp only [List.getD_eq_getElem?_getD]
 rw [List.getElem?_take,if_pos h,List.getElem?_drop]
def ext (out:List Nat) (t:Tok):List Nat:=if t.n=0 then out++[t.b] else cp t.d.toNat t.n.toNat out
end T6
namespace T6
open Go.RowKit
def z0m (B:Nat) (w:World) (v:Value) (zs:List Nat):Prop :=
 ∃a cap,v=.slice a zs.length cap∧zs.length≤cap∧(0<zs.length→∃b off,a=some ⟨b,off,none⟩∧b<B∧∀j,j<zs.length→w.cell? ⟨b,off+j,none⟩=some (.int .u8 (zs.getD j 0:Int)))
theorem cell_below {B:Nat} {w w1:World} (hb:Below B w w1) {p:Addr} {u:Value} (h:w.cell? p=some u) (hp:p.block<B):w1.cell? p=some u:=by
 rw [World.cell?_of_block (hb.block _ hp)];exact h
theorem z0m.stays {B:Nat} {w w1:World} {v:Value} {zs:List Nat} (h:z0m B w v zs) (hb:Below B w w1):z0m B w1 v zs:=by
 obtain ⟨a,cap,rfl,hc,hs⟩:=h
 refine ⟨a,cap,rfl,hc,fun h0=>?_⟩
 obtain ⟨b,off,rfl,h1,h2⟩:=hs h0
 exact ⟨b,off,rfl,h1,fun j hj=>cell_below hb (h2 j hj) h1⟩
theorem z0m.mono {B B':Nat} {w:World} {v:Value} {zs:List Nat} (h:z0m B w v zs) (hB:B≤B'):z0m B' w v zs:=by
 obtain ⟨a,cap,rfl,hc,hs⟩:=h
 refine ⟨a,cap,rfl,hc,fun h0=>?_⟩
 obtain ⟨b,off,rfl,h1,h2⟩:=hs h0
 exact ⟨b,off,rfl,by omega,h2⟩
theorem z0m.reads {B:Nat} {w:World} {v:Value} {zs:List Nat} (h:z0m B w v zs):Reads w v zs:=by
 obtain ⟨a,cap,rfl,hc,hs⟩:=h
 refine ⟨a,cap,rfl,fun h0=>?_⟩
 obtain ⟨b,off,rfl,h1,h2⟩:=hs h0
 refine ⟨_,rfl,fun j u hj=>?_⟩
 have hl:j<zs.length:=by
  rcases Nat.lt_or_ge j zs.length with h|h
  ·exact h
  ·rw [List.getElem?_eq_none (by simpa using h)] at hj;cases hj
 have e:(⟨b,off,none⟩:Addr).add j=⟨b,off+j,none⟩:=by by_cases hq:j=0<;>simp [Addr.add,hq]
 rw [e,h2 j hl]
 simpa [bv,hl] using hj
theorem w5t:(Tryz.prog.info? 76).map (fun i=>(i.zero,i.size,i.bytes))=some (some (.agg #[.int .i64 0,.int .i64 0,.int .u8 0]),3,24):=by kernel_rfl
end T6
namespace T6
open Go.RowKit
attribute [local go_sem ↓] wp_at_zero wp_at_succ
end T6
namespace T6
open Go.RowKit
attribute [local go_sem ↓] wp_at_zero wp_at_succ
theorem z2y {a b x:Nat} {A B:Int} (hA:A=(a:Int)) (hB:B=(b:Int)) (h:x=min a b) (w:World):(Builtin.min_ #[3,3] 3 #[.int .i64 A,.int .i64 B]).run Tryz.prog w=.ok (.int .i64 (x:Int)) w:=by
 rw [run_min_int2,hA,hB]
 congr 2
 split<;>omega
end T6
namespace T6
open Go.RowKit
attribute [local go_sem ↓] wp_at_zero wp_at_succ
def Eqs (z:Nat→Nat) (p d n:Nat):Prop:=∀i,i<n→z (p+i)=z (p+i-d)
theorem Eqs.mono {z:Nat→Nat} {p d n k:Nat} (h:Eqs z p d n) (hk:k≤n):Eqs z p d k:=fun i hi=>h i (by omega)
structure IsBest (z:Nat→Nat) (p w m n d:Nat):Prop where
 le:n≤m
 one:(n=0∧d=0)∨(1≤n∧1≤d∧d≤w∧Eqs z p d n∧∀d',1≤d'→d'<d→¬Eqs z p d' n)
 max:n<m→∀d',1≤d'→d'≤w→¬Eqs z p d' (n+1)
theorem IsBest.len {z:Nat→Nat} {p w m n d n' d':Nat} (h:IsBest z p w m n d) (h':IsBest z p w m n' d'):n'≤n:=by
 refine Classical.byContradiction fun hc=>?_
 rcases h'.one with ⟨e,_⟩|⟨h1,h2,h3,h4,_⟩
 ·omega
 ·exact h.max (by have:=h'.le;omega) d' h2 h3 (h4.mono (by omega))
theorem IsBest.eq {z:Nat→Nat} {p w m n d n' d':Nat} (h:IsBest z p w m n d) (h':IsBest z p w m n' d'):n=n'∧d=d':=by
 have e:n=n':=Nat.le_antisymm (h'.len h) (h.len h')
 subst e
 refine ⟨rfl,?_⟩
 rcases h.one with ⟨e,e1⟩|⟨h1,h2,h3,h4,h5⟩<;>rcases h'.one with ⟨e',e1'⟩|⟨k1,k2,k3,k4,k5⟩
 ·omega
 ·omega
 ·omega
 ·rcases Nat.lt_trichotomy d d' with hl|e|hl
  ·exact absurd h4 (k5 d h2 hl)
  ·exact e
  ·exact absurd k4 (h5 d' k2 hl)
theorem IsBest.shift {z z':Nat→Nat} {p f w m n d:Nat} (h:IsBest z' p w m n d) (hw:w≤p) (hz:∀i,i<p+m→z' i=z (f+i)):IsBest z (f+p) w m n d:=by
 have key:∀d' k,1≤d'→d'≤w→k≤m→(Eqs z' p d' k↔Eqs z (f+p) d' k):=fun d' k h1 h2 h3=>by
  constructor
  ·intro he i hi
   have:=he i hi
   rw [hz _ (by omega),hz _ (by omega)] at this
   rw [show f+p+i=f+(p+i) by omega,show f+(p+i)-d'=f+(p+i-d') by omega]
   exact this
  ·intro he i hi
   have:=he i hi
   rw [hz _ (by omega),hz _ (by omega)]
   rw [show f+p+i=f+(p+i) by omega,show f+(p+i)-d'=f+(p+i-d') by omega] at this
   exact this
 refine ⟨h.le,?_,fun hl d' h1 h2 he=>h.max hl d' h1 h2 ((key d' (n+1) h1 h2 (by omega)).2 he)⟩
 rcases h.one with e|⟨h1,h2,h3,h4,h5⟩
 ·exact .inl e
 ·exact .inr ⟨h1,h2,h3,(key d n h2 h3 h.le).1 h4,fun d' k1 k2 he=>h5 d' k1 k2 ((key d' n k1 (by omega) h.le).2 he)⟩
theorem z0m.sub {B:Nat} {w:World} {a:Option Addr} {cap:Nat} {zs:List Nat} (h:z0m B w (.slice a zs.length cap) zs) {b off:Nat} (ha:a=some ⟨b,off,none⟩) (f k c:Nat) (hk:f+k≤zs.length) (hc:k≤c):z0m B w (.slice (some ⟨b,off+f,none⟩) k c) ((zs.drop f).take k):=by
 obtain ⟨a',cap',e,_,hs⟩:=h
 injection e with e1 e2 e3
 subst e1 e3
 subst ha
 have hl:((zs.drop f).take k).length=k:=by simp;omega
 refine ⟨_,c,by rw [hl],by rw [hl];exact hc,fun h0=>?_⟩
 rw [hl] at h0 ⊢
 obtain ⟨b',off',e,hb,hcell⟩:=hs (by omega)
 injection e with e
 injection e with e1 e2
 subst e1 e2
 refine ⟨b,off+f,rfl,hb,fun j hj=>?_⟩
 rw [z1f _ _ _ _ hj,Nat.add_assoc]
 exact hcell (f+j) (by omega)
theorem z0m.none {B:Nat} (w:World) (a:Option Addr) (c:Nat) (l:List Nat) (h:l=[]):z0m B w (.slice a 0 c) l:=by
 subst h
 exact ⟨a,c,rfl,Nat.zero_le _,fun h0=>by simp at h0⟩
theorem look_ok (zs:List Nat) (a:Option Addr) (cap B p W M:Nat) (w:World) (hr:z0m B w (.slice a zs.length cap) zs) (hcap:zs.length≤cap) (hp:p≤zs.length) (hl:zs.length≤140737488355328) (hW:W≤9223372036854775807) (hM:M≤9223372036854775807) :
  Calls Tryz.prog 62 #[.slice a zs.length cap,.int .i64 (p:Int),.int .i64 (W:Int),.int .i64 (M:Int)] w fun e w'=>∃a',e=.returned (.tuple #[.slice a' (min p W+min M (zs.length-p)) (min p W+min M (zs.length-p)),.int .i64 ((min p W:Nat):Int)])∧z0m B w (.slice a' (min p W+min M (zs.length-p)) (min p W+min M (zs.length-p))) ((zs.drop (p-min p W)).take (min p W+min M (zs.length-p)))∧w'=w:=by
 have HR:=qz hr
 clear hr
 obtain ⟨n,hn⟩:∃n,n=zs.length:=⟨_,rfl⟩
 rw [←hn] at HR hp hl hcap ⊢
 have HN:=qz hn
 clear hn
 obtain ⟨u,hu⟩:∃u,u=min p W:=⟨_,rfl⟩
 obtain ⟨t,ht⟩:∃t,t=min M (n-p):=⟨_,rfl⟩
 rw [←hu,←ht]
 have m1:=z2y (A:=(p:Int)) (B:=(W:Int)) rfl rfl hu
 have m2:=z2y (A:=(M:Int)) (B:=(n:Int)-(p:Int)) rfl (by omega) ht
 obtain ⟨f,hf⟩:∃f:Nat,(p:Int)-(u:Int)=(f:Int):=⟨p-u,by omega⟩
 obtain ⟨e,he⟩:∃e:Nat,(p:Int)+(t:Int)=(e:Int):=⟨p+t,by omega⟩
 have hpf:(p:Int)-(f:Int)=(u:Int):=by omega
 have hfe:f≤e:=by omega
 have hec:e≤cap:=by omega
 have hef:e-f=u+t:=by omega
 have hpu:p-u=f:=by omega
 have hen:e≤n:=by omega
 have HF:Hid (f=p-u):=qz (by omega)
 rw [hpu]
 have HEF:=qz hef
 have hfe2:f≤e∧e≤cap:=⟨hfe,hec⟩
 clear hu ht hef hpu
 obtain ⟨T,hT⟩:∃T,T=u+t:=⟨_,rfl⟩
 have hTe:e-f=T:=by rw [hT];exact uh HEF
 rw [←hT]
 clear hT
 by_cases h0:T=0
 ·subst h0
  have hfe3:e=f:=by omega
  have HRD:Hid (z0m B w (.slice a 0 0) ((zs.drop f).take 0)):=qz (z0m.none w a 0 _ (by simp))
  go_enter Tryz.func62,Tryz.ntmps62
  go_wp2_with fail
  go_ret2
  exact ⟨a,rfl,uh HRD,rfl⟩
 ·have hT0:0<T:=by omega
  obtain ⟨b,off,rfl⟩:∃b off,a=some ⟨b,off,none⟩:=by
   obtain ⟨a',cap',e',_,hs⟩:=uh HR
   injection e' with e1 e2 e3
   subst e1
   obtain ⟨b,off,e,_⟩:=hs (by rw [←uh HN];omega)
   exact ⟨b,off,e⟩
  have HRD:Hid (z0m B w (.slice (some ⟨b,off+f,none⟩) T T) ((zs.drop f).take T)):=qz (by
   have h1:=uh HR
   rw [uh HN] at h1
   exact h1.sub rfl f T T (by rw [←uh HN];omega) (Nat.le_refl _))
  go_enter Tryz.func62,Tryz.ntmps62
  go_wp2_with fail
  go_ret2
  exact ⟨_,rfl,uh HRD,rfl⟩
structure IsCommon (xs ys:List Nat) (n:Nat):Prop where
 l1:n≤xs.length
 l2:n≤ys.length
 eq:∀i,i<n→xs.getD i 0=ys.getD i 0
 ne:n<xs.length→n<ys.length→xs.getD n 0≠ys.getD n 0
theorem y8v (xs ys:List Nat) (a b:Option Addr) (ca cb B B':Nat) (w:World) (h1:z0m B w (.slice a xs.length ca) xs) (h2:z0m B' w (.slice b ys.length cb) ys) (hl:xs.length≤140737488355328) :
  Calls Tryz.prog 123 #[.slice a xs.length ca,.slice b ys.length cb] w fun e w'=>∃n:Nat,e=.returned (.int .i64 (n:Int))∧IsCommon xs ys n∧∃q,w'=w.drewN q:=by
 have H1:=qz h1
 have H2:=qz h2
 clear h1 h2
 obtain ⟨n,hn⟩:∃n,n=xs.length:=⟨_,rfl⟩
 obtain ⟨m,hm⟩:∃m,m=ys.length:=⟨_,rfl⟩
 rw [←hn] at H1 hl ⊢
 rw [←hm] at H2 ⊢
 have HN:=qz hn
 have HM:=qz hm
 clear hn hm
 go_enter Tryz.func123,Tryz.ntmps123
 go_wp2_with fail
 go_loopg [5] n (fun gk d ws=>∃ (k q:Nat),gk=n-k∧k≤n∧k≤m∧Hid (∀i,i<k→xs.getD i 0=ys.getD i 0)∧d=.int .i64 (k:Int)∧ws=w.drewN q)
 case atStart=>exact ⟨0,0,by omega,by omega,by omega,qz fun i h=>by omega,rfl,rfl⟩
 case round =>
  obtain ⟨k,q,rfl,hk,hkm,hgood,rfl,rfl⟩:=hrel
  have HEND:Hid ((k<n→k<m→xs.getD k 0≠ys.getD k 0)→IsCommon xs ys k):=qz fun h=>⟨by rw [←uh HN];exact hk,by rw [←uh HM];exact hkm,uh hgood,by rw [←uh HN,←uh HM];exact h⟩
  by_cases hlt:k<n
  ·have hki:(k:Int)<(n:Int):=by omega
   by_cases hltm:k<m
   ·have hkj:(k:Int)<(m:Int):=by omega
    obtain ⟨a',c',e,_,hs⟩:=uh H1
    injection e with e1 e2 e3
    subst e1 e3
    clear e2
    obtain ⟨b1,off1,rfl,_,hcell1⟩:=hs (by rw [←uh HN];omega)
    obtain ⟨a',c',e,_,hs2⟩:=uh H2
    injection e with e1 e2 e3
    subst e1 e3
    clear e2
    obtain ⟨b2,off2,rfl,_,hcell2⟩:=hs2 (by rw [←uh HM];omega)
    have k1:=hcell1 k (by rw [←uh HN];exact hlt)
    have k2:=hcell2 k (by rw [←uh HM];exact hltm)
    obtain ⟨x,hx⟩:∃x,x=xs.getD k 0:=⟨_,rfl⟩
    obtain ⟨y,hy⟩:∃y,y=ys.getD k 0:=⟨_,rfl⟩
    rw [←hx] at k1 HEND
    rw [←hy] at k2 HEND
    by_cases hxy:x=y
    ·have HG:Hid (∀i,i<k+1→xs.getD i 0=ys.getD i 0):=qz fun i hi=>by
      by_cases e:i=k
      ·rw [e,←hx,←hy];exact hxy
      ·exact uh hgood i (by omega)
     have e1:((x:Int) == (y:Int))=true:=by simp [hxy]
     have e1':(x == y)=true:=by simp [hxy]
     clear hcell1 hcell2 hx hy hgood hs hs2 hxy HEND
     go_wp2_with fail
     go_quiet (fail)
     go_wp2_with fail
     go_roundg (n-(k+1))
     case measure=>omega
     case rel=>exact ⟨k+1,q+nq,rfl,by omega,by omega,HG,by go_num,by first|rfl|(rw [World.drewN_drewN])⟩
    ·have e1:((x:Int) == (y:Int))=false:=by simp;omega
     have e1':(x == y)=false:=by simp [hxy]
     have HE:=qz (uh HEND fun _ _=>hxy)
     clear hcell1 hcell2 hx hy hgood hs hs2 hxy HEND
     go_wp2_with fail
     go_quiet (fail)
     go_wp2_with fail
     go_ret
     exact ⟨k,rfl,uh HE,q+nq,by first|rfl|(rw [World.drewN_drewN])⟩
   ·have hkj:¬ (k:Int)<(m:Int):=by omega
    have HE:=qz (uh HEND fun _ h=>by omega)
    clear HEND hgood
    go_wp2_with fail
    go_quiet (fail)
    go_wp2_with fail
    go_ret
    exact ⟨k,rfl,uh HE,q+nq,by first|rfl|(rw [World.drewN_drewN])⟩
  ·have hki:¬ (k:Int)<(n:Int):=by omega
   have HE:=qz (uh HEND fun h=>by omega)
   clear HEND hgood
   go_wp2_with fail
   go_quiet (fail)
   go_wp2_with fail
   go_ret
   exact ⟨k,rfl,uh HE,q+nq,by first|rfl|(rw [World.drewN_drewN])⟩
theorem y6r (xs ys:List Nat) (v u:Value) (B B':Nat) (w:World) (h1:z0m B w v xs) (h2:z0m B' w u ys) (hl:xs.length≤140737488355328) :
  Calls Tryz.prog 123 #[v,u] w fun e w'=>∃n:Nat,e=.returned (.int .i64 (n:Int))∧IsCommon xs ys n∧∃q,w'=w.drewN q:=by
 obtain ⟨a,ca,rfl,hs1⟩:=id h1
 obtain ⟨b,cb,rfl,hs2⟩:=id h2
 exact y8v xs ys a b ca cb B B' w h1 h2 hl
end T6
namespace T6
open Go.RowKit
attribute [local go_sem ↓] wp_at_zero wp_at_succ
def Same (z:Nat→Nat) (p x k:Nat):Prop:=∀i,i<k→z (x+i)=z (p+i)
theorem Same.mono {z:Nat→Nat} {p x k j:Nat} (h:Same z p x k) (hj:j≤k):Same z p x j:=fun i hi=>h i (by omega)
theorem z5m {z:Nat→Nat} {p x k:Nat} (hx:x≤p):Same z p x k↔Eqs z p (p-x) k:=by
 constructor
 ·intro h i hi
  rw [show p+i-(p-x)=x+i by omega]
  exact (h i hi).symm
 ·intro h i hi
  have:=h i hi
  rw [show p+i-(p-x)=x+i by omega] at this
  exact this.symm
def keyOf:List Nat→Nat:=List.foldl (fun k c=>k*256+c) 0
theorem z7i (l:List Nat) (c:Nat):keyOf (l++[c])=keyOf l*256+c:=by simp [keyOf]
theorem x3b (l:List Nat) (k:Nat) (hk:k<l.length):keyOf (l.take (k+1))=keyOf (l.take k)*256+l.getD k 0:=by
 rw [List.take_add_one,List.getElem?_eq_getElem hk]
 simp only [Option.toList_some]
 rw [z7i]
 simp [List.getD,List.getElem?_eq_getElem hk]
theorem y5j:∀ (n:Nat) (l:List Nat),l.length=n→(∀c∈l,c<256)→keyOf l<256^n
 | 0,l,h,_=>by
  have:l=[]:=List.eq_nil_of_length_eq_zero h
  subst this
  decide
 | n+1,l,h,hb=>by
  rcases List.eq_nil_or_concat l with rfl|⟨l',c,rfl⟩
  ·simp at h
  ·rw [List.concat_eq_append] at *
   rw [z7i,Nat.pow_succ]
   have h1:=y5j n l' (by simpa using h) (fun x hx=>hb x (by simp [hx]))
   have h2:=hb c (by simp)
   omega
theorem y7c:∀ (n:Nat) (l m:List Nat),l.length=n→m.length=n→(∀c∈l,c<256)→(∀c∈m,c<256)→keyOf l=keyOf m→l=m
 | 0,l,m,h,h',_,_,_=>by rw [List.eq_nil_of_length_eq_zero h,List.eq_nil_of_length_eq_zero h']
 | n+1,l,m,h,h',hb,hb',e=>by
  rcases List.eq_nil_or_concat l with rfl|⟨l',c,rfl⟩
  ·simp at h
  ·rcases List.eq_nil_or_concat m with rfl|⟨m',c',rfl⟩
   ·simp at h'
   ·rw [List.concat_eq_append] at *
    rw [List.concat_eq_append] at *
    rw [z7i,z7i] at e
    have h1:=hb c (by simp)
    have h2:=hb' c' (by simp)
    have h3:=y7c n l' m' (by simpa using h) (by simpa using h') (fun x hx=>hb x (by simp [hx])) (fun x hx=>hb' x (by simp [hx])) (by omega)
    rw [h3,show c=c' by omega]
theorem w6y (V c u:Nat) (hV:V*256+256≤18446744073709551616) (hc:c<256) (hu:u=V*256+c):bits .or .u64 ((V:Int)*256) (c:Int)=(u:Int):=by
 have h:=u64_or_nat (V*256) c (by omega) (by omega)
 have e:((V:Int)*256)=((V*256:Nat):Int):=by simp
 rw [e,h,hu]
 have:=Nat.two_pow_add_eq_or_of_lt (i:=8) (b:=c) (by omega) V
 rw [show (2:Nat)^8=256 from rfl,Nat.mul_comm] at this
 rw [←this]
theorem w1b (zs:List Nat) (a:Option Addr) (cap B:Nat) (w:World) (h1:z0m B w (.slice a zs.length cap) zs) (hl:zs.length≤8) (hb:∀c∈zs,c<256) :
  Calls Tryz.prog 127 #[.slice a zs.length cap] w fun e w'=>e=.returned (.int .u64 (keyOf zs:Int))∧w'=w:=by
 have H1:=qz h1
 have HB:=qz hb
 clear h1 hb
 obtain ⟨n,hn⟩:∃n,n=zs.length:=⟨_,rfl⟩
 rw [←hn] at H1 hl ⊢
 have HN:=qz hn
 clear hn
 obtain ⟨K,hK⟩:∃K,K=keyOf zs:=⟨_,rfl⟩
 rw [←hK]
 have HK:=qz hK
 clear hK
 go_enter Tryz.func127,Tryz.ntmps127
 go_wp2_with fail
 go_loopg [3,8] n (fun gk v d ws=>∃ (k V:Nat),gk=n-k∧k≤n∧Hid (V=keyOf (zs.take k))∧v=.int .u64 (V:Int)∧d=.int .i64 (k:Int)∧ws=w)
 case atStart=>exact ⟨0,0,by omega,by omega,qz rfl,rfl,rfl,rfl⟩
 case round =>
  obtain ⟨k,V,rfl,hk,HV,rfl,rfl,rfl⟩:=hrel
  by_cases hlt:k<n
  ·have hki:(k:Int)<(n:Int):=by omega
   obtain ⟨a',c',e,_,hs⟩:=uh H1
   injection e with e1 e2 e3
   subst e1 e3
   clear e2
   obtain ⟨b1,off1,rfl,_,hcell1⟩:=hs (by rw [←uh HN];omega)
   have k1:=hcell1 k (by rw [←uh HN];exact hlt)
   obtain ⟨x,hx⟩:∃x,x=zs.getD k 0:=⟨_,rfl⟩
   rw [←hx] at k1
   have hx256:x<256:=by
    rw [hx]
    exact uh HB _ (by
     rw [List.getD_eq_getElem?_getD,List.getElem?_eq_getElem (by rw [←uh HN];exact hlt)]
     exact List.getElem_mem _)
   have hV:V*256+256≤18446744073709551616:=by
    have h3:V<256^k:=by
     rw [uh HV]
     exact y5j k _ (by rw [List.length_take,←uh HN];omega) (fun c hc=>uh HB c (List.mem_of_mem_take hc))
    have h4:256^k≤256^7:=Nat.pow_le_pow_right (by decide) (by omega)
    have h5:256^7=72057594037927936:=by decide
    omega
   have HV':Hid (V*256+x=keyOf (zs.take (k+1))):=qz (by rw [x3b zs k (by rw [←uh HN];exact hlt),uh HV,hx])
   obtain ⟨V',hV'⟩:∃V',V'=V*256+x:=⟨_,rfl⟩
   rw [←hV'] at HV'
   have hor:=w6y V x V' hV hx256 hV'
   clear hcell1 hs HV hx hV'
   go_wp2_with fail
   go_roundg (n-(k+1))
   case measure=>omega
   case rel=>exact ⟨k+1,V',rfl,by omega,HV',rfl,by go_num,rfl⟩
  ·have hki:¬ (k:Int)<(n:Int):=by omega
   have:V=K:=by
    rw [uh HV,uh HK,List.take_of_length_le (by rw [←uh HN];omega)]
   subst this
   go_wp2_with fail
   go_ret
   exact ⟨rfl,rfl⟩
theorem w3b (zs:List Nat) (v:Value) (B:Nat) (w:World) (h1:z0m B w v zs) (hl:zs.length≤8) (hb:∀c∈zs,c<256) :
  Calls Tryz.prog 127 #[v] w fun e w'=>e=.returned (.int .u64 (keyOf zs:Int))∧w'=w:=by
 obtain ⟨a,ca,rfl,hs1⟩:=id h1
 exact w1b zs a ca B w h1 hl hb
end T6
namespace T6
abbrev zf (zs:List Nat):Nat→Nat:=fun i=>zs.getD i 0
def z1o (zs:List Nat) (s p:Nat):Nat:=keyOf ((zs.drop p).take s)
def lastOf (zs:List Nat) (s:Nat):Nat→Nat→Nat
 | 0,_=>0
 | m+1,k=>if z1o zs s m=k then m+1 else lastOf zs s m k
theorem z5b (zs:List Nat) (s k:Nat):∀m,lastOf zs s m k≤m
 | 0=>Nat.le_refl _
 | m+1=>by
  rw [lastOf]
  split
  ·exact Nat.le_refl _
  ·have:=z5b zs s k m;omega
theorem y1v (zs:List Nat) (s k:Nat):∀m q,lastOf zs s m k≤q→q<m→z1o zs s q≠k
 | 0,q,_,h=>by omega
 | m+1,q,h,hq=>by
  rw [lastOf] at h
  split at h
  ·omega
  ·rename_i hne
   by_cases e:q=m
   ·subst e;exact hne
   ·exact y1v zs s k m q h (by omega)
theorem z7j (zs:List Nat) (s k:Nat):∀m p,lastOf zs s m k=p+1→p<m∧z1o zs s p=k
 | 0,p,h=>by simp [lastOf] at h
 | m+1,p,h=>by
  rw [lastOf] at h
  split at h
  ·rename_i e
   have:p=m:=by omega
   subst this
   exact ⟨by omega,e⟩
  ·have:=z7j zs s k m p h
   exact ⟨by omega,this.2⟩
theorem z9t {zs:List Nat} (hb:∀c∈zs,c<256) {s p q:Nat} (hp:p+s≤zs.length) (hq:q+s≤zs.length):z1o zs s q=z1o zs s p↔Same (zf zs) p q s:=by
 have l1:((zs.drop p).take s).length=s:=by simp;omega
 have l2:((zs.drop q).take s).length=s:=by simp;omega
 constructor
 ·intro h i hi
  have e:=y7c s _ _ l2 l1 (fun c hc=>hb c (List.mem_of_mem_drop (List.mem_of_mem_take hc))) (fun c hc=>hb c (List.mem_of_mem_drop (List.mem_of_mem_take hc))) h
  show zs.getD (q+i) 0=zs.getD (p+i) 0
  rw [←z1f zs q s i hi,←z1f zs p s i hi,e]
 ·intro h
  unfold z1o
  congr 1
  refine y1x (by rw [l1,l2]) fun i hi=>?_
  rw [l2] at hi
  rw [z1f _ _ _ _ hi,z1f _ _ _ _ hi]
  exact h i hi
structure ChainAt (z:Nat→Nat) (p f m s n d c:Nat):Prop where
 nle:n≤m
 cle:c≤p
 one:(n=0∧d=0)∨(s≤n∧1≤d∧d+f≤p∧Eqs z p d n∧∀d',1≤d'→d'<d→¬Eqs z p d' n)
 no:n<m→∀y,c≤y→y<p→¬Same z p y (max (n+1) s)
theorem ChainAt.start {z:Nat→Nat} {p f m s c:Nat} (hc:c≤p) (h:∀y,c≤y→y<p→¬Same z p y s):ChainAt z p f m s 0 0 c :=
 ⟨Nat.zero_le _,hc,.inl ⟨rfl,rfl⟩,fun _ y h1 h2 hs=>h y h1 h2 (hs.mono (by omega))⟩
theorem ChainAt.skip {z:Nat→Nat} {p f m s n d x c:Nat} (h:ChainAt z p f m s n d (x+1)) (hc:c≤x) (hx:¬Same z p x (max (n+1) s)) (hno:∀y,c≤y→y<x→¬Same z p y s):ChainAt z p f m s n d c:=by
 refine ⟨h.nle,by have:=h.cle;omega,h.one,fun hn y h1 h2 hs=>?_⟩
 by_cases e:y=x
 ·subst e;exact hx hs
 ·by_cases hl:y<x
  ·exact hno y h1 hl (hs.mono (by omega))
  ·exact h.no hn y (by omega) h2 hs
theorem ChainAt.better {z:Nat→Nat} {p f m s n d x c n':Nat} (h:ChainAt z p f m s n d (x+1)) (hn:n<m) (hs1:1≤s) (hsm:s≤m) (hc:c≤x) (hfx:f≤x) (hx:Same z p x s) (hno:∀y,c≤y→y<x→¬Same z p y s)
  (h1:Same z p x n') (h2:n'≤m) (h3:n'<m→¬Same z p x (n'+1)) (hgt:n<n'):ChainAt z p f m s n' (p-x) c:=by
 have hxp:x<p:=by have:=h.cle;omega
 have hsn:s≤n':=by
  refine Classical.byContradiction fun hc=>?_
  exact h3 (by omega) (hx.mono (by omega))
 refine ⟨h2,by omega,.inr ⟨hsn,by omega,by omega,(z5m (by omega)).1 h1,fun d' h4 h5 he=>?_⟩,fun hn' y h4 h5 hs=>?_⟩
 ·have e:d'=p-(p-d'):=by omega
  rw [e] at he
  exact h.no hn (p-d') (by omega) (by omega) (((z5m (by omega)).2 he).mono (by omega))
 ·by_cases e:y=x
  ·subst e;exact h3 hn' (hs.mono (by omega))
  ·by_cases hl:y<x
   ·exact hno y h4 hl (hs.mono (by omega))
   ·exact h.no hn y (by omega) h5 (hs.mono (by omega))
theorem ChainAt.best {z:Nat→Nat} {p f m s n d c:Nat} (h:ChainAt z p f m s n d c) (hs1:1≤s) (hn:s≤n) (hc:c≤f∨n=m):IsBest z p (p-f) m n d:=by
 rcases h.one with ⟨e,_⟩|⟨h1,h2,h3,h4,h5⟩
 ·omega
 ·refine ⟨h.nle,.inr ⟨by omega,h2,by omega,h4,h5⟩,fun hlt d' k1 k2 he=>?_⟩
  rcases hc with hc|hc
  ·have e:d'=p-(p-d'):=by omega
   rw [e] at he
   exact h.no hlt (p-d') (by omega) (by omega) (((z5m (by omega)).2 he).mono (by omega))
  ·omega
def z4v (z:Nat→Nat) (p w s:Nat):Prop:=∀d,1≤d→d≤w→¬Eqs z p d s
theorem IsBest.wide {z:Nat→Nat} {p w m m' n d:Nat} (h:IsBest z p w m n d) (hm:m≤m') (hno:m<m'→z4v z p w (m+1)):IsBest z p w m' n d:=by
 refine ⟨Nat.le_trans h.le hm,h.one,fun hlt d' h1 h2 he=>?_⟩
 by_cases e:n<m
 ·exact h.max e d' h1 h2 he
 ·have e':n=m:=Nat.le_antisymm h.le (by omega)
  subst e'
  exact hno hlt d' h1 h2 he
theorem z4v.mono {z:Nat→Nat} {p w s t:Nat} (h:z4v z p w s) (hs:s≤t):z4v z p w t:=fun d h1 h2 he=>h d h1 h2 (he.mono hs)
theorem z4v.short {z:Nat→Nat} {p w s m n d:Nat} (h:z4v z p w s) (hs:1≤s) (hb:IsBest z p w m n d):n<s:=by
 refine Classical.byContradiction fun hc=>?_
 rcases hb.one with ⟨e,_⟩|⟨h1,h2,h3,h4,_⟩
 ·omega
 ·exact h d h2 h3 (h4.mono (by omega))
theorem x3x {zs:List Nat} (hb:∀c∈zs,c<256) {s p f c:Nat} (hp:p+s≤zs.length) (hc:c=lastOf zs s p (z1o zs s p)) (hcf:c≤f) (hfp:f≤p):z4v (zf zs) p (p-f) s:=fun d h1 h2 he=>by
 have e:d=p-(p-d):=by omega
 rw [e] at he
 have hs:=(z5m (by omega)).2 he
 exact y1v zs s _ p (p-d) (by omega) (by omega) ((z9t hb hp (by omega)).2 hs)
theorem y3i {zs:List Nat} (hb:∀c∈zs,c<256) {s p x c:Nat} (hp:p+s≤zs.length) (hx:x≤p) (hc:c=lastOf zs s x (z1o zs s p)):∀y,c≤y→y<x→¬Same (zf zs) p y s:=fun y h1 h2 hs =>
 y1v zs s _ x y (by omega) h2 ((z9t hb hp (by omega)).2 hs)
theorem y6o {zs:List Nat} (hb:∀c∈zs,c<256) {s p x y:Nat} (hp:p+s≤zs.length) (hx:x≤p) (hc:lastOf zs s x (z1o zs s p)=y+1):y<x∧Same (zf zs) p y s:=by
 obtain ⟨h1,h2⟩:=z7j zs s _ x y hc
 exact ⟨h1,(z9t hb hp (by omega)).1 h2⟩
end T6
namespace T6
open Go.RowKit
section
variable {P:Program} {md:Region.Mode} {ops:Array Oper} {Q:Exit→Act→World→Prop} {S:World→Prop}
theorem z1u {o:Oper} {fuel:Nat} {listed:Array Bool} {l:List Value} {df:List Deferred} {w:World} (i d:Nat) (s x:Operand) (hr:Region.ready md ops listed=[i]) (hi:ops[i]?=some o) (hd:o.dst=some d)
  (hw:Region.wanted o (yielded ops l.toArray)=true) (ho:o.op=.call { callee:=.builtin .append,args:=#[s,x],argTypes:=#[45,45] }) (hP:P=Tryz.prog)
  (base:Nat) (v:Value) (n:Nat) (xs:List Value) (hs:Act.eval ⟨l.toArray,df⟩ s=v) (hown:w.ownsRow base 3 1 v n xs) (ad:Addr) (z:Int) (hx:Act.eval ⟨l.toArray,df⟩ x=.slice (some ad) 1 1)
  (hnew:w.cell? ad=some (.int .i64 z)) (hb:n+1≤1000000000) (hbase:base≤w.heap.size) (H:Nat) (hH:w.heap.size=H) (hS:∀w',w.grownBy w' v.ownBlock→S w')
  (h:∀g cap w',w'.ownsRow base 3 1 (.slice (some ⟨g,0,none⟩) (n+1) cap) (n+1) (xs++[iv z])→w.grownBy w' v.ownBlock→(v.ownBlock=some g∨g=H)→g<w'.heap.size →
   wpAnyH P md ops Q S fuel (listed.setIfInBounds i true) ⟨(l.set d (.slice (some ⟨g,0,none⟩) (n+1) cap)).toArray,df⟩ w'):wpAnyH P md ops Q S (fuel+1) listed ⟨l.toArray,df⟩ w:=by
 subst hP
 obtain ⟨i0,hii,hz0,hz1,hz2⟩:=info_parts info3'
 refine wpAnyH_ready hr (by simp) (AllReadyH.cons hi (fun K hK=>?_) AllReadyH.nil)
 rw [if_pos hw]
 refine wp_append_lies w s x 45 ho base 3 i0 _ 1 8 Tryz.underlying45 hii hz0 hz1 hz2 rfl (by decide) v n xs hs hown ad 1 1 [iv z] hx rfl (fun j u hj=>?_) (by intro u hu;simp at hu;subst hu;rfl) (by omega) (by unfold maxLen;omega) (by omega) hbase H hH (fun g cap w' h1 h2 h3 h4=>?_)
 ·match j,hj with
  | 0,hj=>simp [iv] at hj;subst hj;simpa [Addr.add] using hnew
 ·have e:Act.put (⟨l.toArray,df⟩:Act) o.dst (.slice (some ⟨g,0,none⟩) (n+1) cap)=⟨(l.set d (.slice (some ⟨g,0,none⟩) (n+1) cap)).toArray,df⟩:=by rw [hd];simp [Act.put]
  rw [e]
  exact hK.out _ _ (hS w' h2) (fun _=>h g cap w' h1 h2 h3 h4)
end
end T6
namespace T6
open Go.RowKit Go.Maps
attribute [local go_sem ↓] wp_at_zero wp_at_succ
theorem y5k:Keyed Tryz.prog 92:=int_keyed Tryz.underlying92
theorem w7h (w:World):(zeroValue 3).run Tryz.prog w=.ok (.int .i64 0) w:=by kernel_rfl
theorem wf_u64 (k:Nat) (h:k<18446744073709551616):(Lit.int .u64 (k:Int)).wf=true:=by
 have h1:IntKind.u64.min=0:=by decide
 have h2:IntKind.u64.max=18446744073709551615:=by decide
 simp [Lit.wf,h1,h2]
 omega
theorem w4k (k:Nat) (h:k<18446744073709551616):Go.keyOf Tryz.prog 92 (.int .u64 (k:Int))=some (.int .u64 (k:Int)):=keyOf_int_mk Tryz.underlying92 (wf_u64 k h)
def z7u (w:World) (b n:Nat) (f:Nat→Nat):Prop :=
 ∃D:DataW Unit,w.ownsMap Tryz.prog 92 (plainElem Tryz.prog 3) b n D∧∀k:Nat,k<18446744073709551616→D.atKey (.int .u64 (k:Int)) (.lit (.int .i64 0))=.lit (.int .i64 (f k:Nat))
theorem z7u.look {w:World} {b n:Nat} {f:Nat→Nat} (h:z7u w b n f) (k:Nat) (hk:k<18446744073709551616):(Instr.lookup 160 (.map (some b)) (.int .u64 (k:Int)) false).run Tryz.prog w=.ok (.int .i64 (f k:Nat)) w:=by
 obtain ⟨D,hD,hf⟩:=h
 obtain ⟨c,hrun,hat,_⟩:=hD.lookup_int y5k Tryz.underlying160 Tryz.underlying3 (w7h w) (w4k k hk)
 rw [hf k hk] at hat
 injection hat with hat
 injection hat with _ hat
 rw [hrun,←hat]
theorem z7u.made (w:World):z7u (w.alloc (.map #[] 0)) w.heap.size 0 (fun _=>0):=⟨_,World.ownsMap_made w _ _ _,fun k hk=>rfl⟩
theorem z7u.block {w w':World} {b n:Nat} {f:Nat→Nat} (h:z7u w b n f) (hb:w'.heap[b]?=w.heap[b]?):z7u w' b n f:=by
 obtain ⟨D,⟨es,clock,h1,h2⟩,hf⟩:=h
 exact ⟨D,⟨es,clock,by rw [hb];exact h1,h2⟩,hf⟩
theorem z7u.is {w:World} {b n:Nat} {f:Nat→Nat} (h:z7u w b n f):∃es clock,w.heap[b]?=some (.map es clock):=by
 obtain ⟨D,⟨es,clock,h1,h2⟩,hf⟩:=h
 exact ⟨es,clock,h1⟩
theorem z7u.put {w:World} {b n:Nat} {f f':Nat→Nat} {D:DataW Unit} {k x:Nat} (hk:k<18446744073709551616) (h:w.ownsMap Tryz.prog 92 (plainElem Tryz.prog 3) b n (D.put (.int .u64 (k:Int)) (.lit (.int .i64 (x:Int)))))
  (hD:IsMap D) (hf:∀k:Nat,k<18446744073709551616→D.atKey (.int .u64 (k:Int)) (.lit (.int .i64 0))=.lit (.int .i64 (f k:Nat))) (h1:f' k=x) (h2:∀j,j≠k→f' j=f j):z7u w b n f':=by
 refine ⟨_,h,fun j hj=>?_⟩
 by_cases e:j=k
 ·subst e
  rw [atKey_put_same hD (y5k.key (w4k j hj)),h1]
 ·rw [atKey_put_other (by intro h;injection h with _ h;omega),hf j hj,h2 j e]
def befs (zs:List Nat) (s m:Nat):List Int:=(List.range m).map fun p=>(lastOf zs s p (z1o zs s p):Int)
theorem x4w (zs:List Nat) (s m:Nat):befs zs s (m+1)=befs zs s m++[(lastOf zs s m (z1o zs s m):Int)]:=by simp [befs,List.range_succ]
theorem w0b (zs:List Nat) (s m p:Nat) (h:p<m):(befs zs s m)[p]?=some (lastOf zs s p (z1o zs s p):Int):=by simp [befs,h]
structure LvlAt (zs:List Nat) (s m B:Nat) (w:World) (g o b:Nat) (v:Value):Prop where
 c0:w.cell? ⟨g,o,none⟩=some (.int .i64 (s:Int))
 c1:w.cell? ⟨g,o+1,none⟩=some (.map (some b))
 c2:w.cell? ⟨g,o+2,none⟩=some v
 mp:z7u w b m (lastOf zs s m)
 row:w.ownsRow B 3 1 v m ((befs zs s m).map iv)
structure AddChg (w:World) (g o b:Nat) (v v':Value) (w':World):Prop where
 os:w'.os=w.os
 tape:w'.tape=w.tape
 output:w'.output=w.output
 size:w.heap.size≤w'.heap.size
 kp:∀x,x<w.heap.size→x≠g→x≠b→v.ownBlock≠some x→w'.heap[x]?=w.heap[x]?
 gb:∀cs t f,w.heap[g]?=some (.cells cs t f)→w'.heap[g]?=some (.cells (cs.setIfInBounds (o+2) v') t f)
 own:v'.ownBlock=v.ownBlock∨∃h,v'.ownBlock=some h∧w.heap.size≤h
theorem x1c {zs:List Nat} (hb:∀c∈zs,c<256) {s p:Nat} (hs:s≤8) (hp:p+s≤zs.length):z1o zs s p<18446744073709551616:=by
 have h:=y5j s ((zs.drop p).take s) (by simp;omega) (fun c hc=>hb c (List.mem_of_mem_drop (List.mem_of_mem_take hc)))
 have h2:256^s≤256^8:=Nat.pow_le_pow_right (by decide) hs
 have h3:256^8=18446744073709551616:=by decide
 unfold z1o
 omega
theorem y9g (zs:List Nat) (s m:Nat):lastOf zs s (m+1) (z1o zs s m)=m+1:=by rw [lastOf,if_pos rfl]
theorem y7d (zs:List Nat) (s m:Nat):∀k,k≠z1o zs s m→lastOf zs s (m+1) k=lastOf zs s m k:=fun k h=>by rw [lastOf,if_neg (fun e=>h e.symm)]
structure AddS (g o b n:Nat) (f:Nat→Nat) (x:World):Prop where
 c1:x.cell? ⟨g,o+1,none⟩=some (.map (some b))
 mp:z7u x b n f
theorem z6d {w:World} {B n:Nat} {v:Value} {xs:List Value} (h:w.ownsRow B 3 1 v n xs) {b:Nat} {es:Array MapEntry} {ck:Nat} (hb:w.heap[b]?=some (.map es ck)):v.ownBlock≠some b:=by
 rcases h.2 with ⟨e,_⟩|⟨g,cap,cur,e,_,hh,_⟩
 ·rw [e];simp [Value.ownBlock]
 ·rw [e]
  intro he
  simp [Value.ownBlock] at he
  subst he
  rw [hh] at hb
  cases hb
theorem z4r {w:World} {B n:Nat} {v:Value} {xs:List Value} (h:w.ownsRow B 3 1 v n xs) {b:Nat} {cs:Array Value} {t:TypeId} {f:Nat × Nat} (hb:w.heap[b]?=some (.cells cs t f)) (ht:t≠3):v.ownBlock≠some b:=by
 rcases h.2 with ⟨e,_⟩|⟨g,cap,cur,e,_,hh,_⟩
 ·rw [e];simp [Value.ownBlock]
 ·rw [e]
  intro he
  simp [Value.ownBlock] at he
  subst he
  rw [hh] at hb
  injection hb with hb
  injection hb with _ hb _
  exact ht hb.symm
end T6
namespace T6
open Go.RowKit Go.Maps
attribute [local go_sem ↓] wp_at_zero wp_at_succ
theorem z8n {x1 w2:World} {O:Obj} {r:Option Nat} (h:(x1.alloc O).grownBy w2 r) {x:Nat} (hx:x<x1.heap.size) (hr:r≠some x):w2.heap[x]?=x1.heap[x]?:=by
 rw [h.block x (by simp;omega) (fun e=>hr e.symm)];exact Below.heap_alloc _ _ _ hx
theorem z4b (w:World) (z:Int):(w.alloc (.cells #[.int .i64 z] 3)).cell? ⟨w.heap.size,0,none⟩=some (.int .i64 z):=by simp only [World.cell?,heap_alloc_new];rfl
theorem x5g {w:World} {g i:Nat} {cs:Array Value} {t:TypeId} {f:Nat × Nat} (h:w.heap[g]?=some (.cells cs t f)) (hi:i<cs.size):∃u,w.cell? ⟨g,i,none⟩=some u:=⟨cs[i],by simp [World.cell?,h,hi]⟩
theorem AddS.keep {g o b n:Nat} {f:Nat→Nat} {x y:World} (h:AddS g o b n f x) (hg:y.heap[g]?=x.heap[g]?) (hb:y.heap[b]?=x.heap[b]?):AddS g o b n f y :=
 ⟨by rw [World.cell?_of_block hg];exact h.c1,h.mp.block hb⟩
theorem AddS.alloc {g o b n:Nat} {f:Nat→Nat} {x:World} (h:AddS g o b n f x) (O:Obj):AddS g o b n f (x.alloc O):=by
 obtain ⟨es,ck,hb⟩:=h.mp.is
 exact h.keep (Below.heap_alloc _ _ _ (z1e h.c1)) (Below.heap_alloc _ _ _ (z0b hb))
theorem AddS.set {g o b n:Nat} {f:Nat→Nat} {x:World} (h:AddS g o b n f x) {cs:Array Value} (hg:x.heap[g]?=some (.cells cs 162 (0,0))) (u:Value):AddS g o b n f (x.setCell ⟨g,o+2,none⟩ u):=by
 obtain ⟨es,ck,hb⟩:=h.mp.is
 have hne:b≠g:=fun e=>by rw [e,hg] at hb;cases hb
 refine ⟨?_,h.mp.block (heap_setCell_other _ _ _ _ (by exact hne))⟩
 have h1:=h.c1
 simp only [World.cell?,hg] at h1
 simp only [World.cell?,heap_setCell_same x g (o+2) cs 162 u hg]
 rw [Array.getElem?_setIfInBounds_ne (by omega)]
 exact h1
theorem LvlAt.same {zs:List Nat} {s p B:Nat} {x y:World} {g o b:Nat} {v:Value} (h:LvlAt zs s p B x g o b v) (e:y.heap=x.heap):LvlAt zs s p B y g o b v :=
 have k:∀a,y.cell? a=x.cell? a:=fun a=>World.cell?_of_block (by rw [e])
 ⟨by rw [k];exact h.c0,by rw [k];exact h.c1,by rw [k];exact h.c2,h.mp.block (by rw [e]),z0y h.row (fun q _=>by rw [e])⟩
theorem LvlAt.added {zs:List Nat} {s p B:Nat} {x1:World} {g o b:Nat} {v:Value} {cs:Array Value} (h:LvlAt zs s p B x1 g o b v) (hg:x1.heap[g]?=some (.cells cs 162 (0,0))) (hk:z1o zs s p<18446744073709551616)
  (g' cap':Nat) (w2:World) (D:DataW Unit) (w4:World)
  (h1:w2.ownsRow B 3 1 (.slice (some ⟨g',0,none⟩) (p+1) cap') (p+1) ((befs zs s p).map iv++[iv (lastOf zs s p (z1o zs s p):Nat)]))
  (h2:(x1.alloc (.cells #[.int .i64 ((lastOf zs s p (z1o zs s p):Nat):Int)] 3)).grownBy w2 v.ownBlock) (h3:v.ownBlock=some g'∨g'=x1.heap.size+1)
  (hf:∀k:Nat,k<18446744073709551616→D.atKey (.int .u64 (k:Int)) (.lit (.int .i64 0))=.lit (.int .i64 (lastOf zs s p k:Nat)))
  (hD:(w2.setCell ⟨g,o+2,none⟩ (.slice (some ⟨g',0,none⟩) (p+1) cap')).ownsMap Tryz.prog 92 (plainElem Tryz.prog 3) b p D)
  (h4:w4.ownsMap Tryz.prog 92 (plainElem Tryz.prog 3) b (p+1) (D.put (.int .u64 ((z1o zs s p:Nat):Int)) (.lit (.int .i64 ((p:Int)+1)))))
  (h5:(w2.setCell ⟨g,o+2,none⟩ (.slice (some ⟨g',0,none⟩) (p+1) cap')).grownBy w4 (some b)) :
  LvlAt zs s (p+1) B w4 g o b (.slice (some ⟨g',0,none⟩) (p+1) cap')∧AddChg x1 g o b v (.slice (some ⟨g',0,none⟩) (p+1) cap') w4:=by
 obtain ⟨es,ck,hb⟩:=h.mp.is
 have hgb:g≠b:=fun e=>by rw [←e,hg] at hb;cases hb
 have hgl:=z0b hg
 have hbl:=z0b hb
 have hvg:v.ownBlock≠some g:=z4r h.row hg (by decide)
 have hvb:v.ownBlock≠some b:=z6d h.row hb
 have k2:∀x,x<x1.heap.size→v.ownBlock≠some x→w2.heap[x]?=x1.heap[x]?:=fun x hx hr=>z8n h2 hx hr
 have hg2:=k2 g hgl hvg
 rw [hg] at hg2
 have hs2:x1.heap.size+1≤w2.heap.size:=by have:=h2.size;simpa using this
 have k4:∀x,x<w2.heap.size→x≠g→x≠b→w4.heap[x]?=w2.heap[x]?:=fun x hx e1 e2=>by
  rw [h5.block x (by simpa using hx) (fun e=>e2 (by injection e))]
  exact heap_setCell_other _ _ _ _ (by exact e1)
 have hg4:w4.heap[g]?=some (.cells (cs.setIfInBounds (o+2) (.slice (some ⟨g',0,none⟩) (p+1) cap')) 162 (0,0)):=by
  rw [h5.block g (by simp;omega) (fun e=>hgb (by injection e))]
  exact heap_setCell_same w2 g (o+2) cs 162 _ hg2
 have c0:=h.c0
 have c1:=h.c1
 have c2:=h.c2
 simp only [World.cell?,hg] at c0 c1 c2
 have hg'g:g'≠g:=by
  rcases h3 with e|e
  ·intro e';rw [e'] at e;exact hvg e
  ·omega
 have hg'b:g'≠b:=by
  rcases h3 with e|e
  ·intro e';rw [e'] at e;exact hvb e
  ·omega
 have hg'l:g'<w2.heap.size:=by
  rcases h1.2 with ⟨e,_⟩|⟨q,c,cur,e,_,hh,_⟩
  ·cases e
  ·injection e with e1
   injection e1 with e1
   injection e1 with e1
   rw [e1]
   exact z0b hh
 refine ⟨⟨?_,?_,?_,?_,?_⟩,⟨?_,?_,?_,?_,fun x hx e1 e2 e3=>?_,fun cs' t f hx=>?_,?_⟩⟩
 ·simp only [World.cell?,hg4];rw [Array.getElem?_setIfInBounds_ne (by omega)];exact c0
 ·simp only [World.cell?,hg4];rw [Array.getElem?_setIfInBounds_ne (by omega)];exact c1
 ·simp only [World.cell?,hg4]
  have:o+2<cs.size:=by
   rcases Nat.lt_or_ge (o+2) cs.size with hl|hl
   ·exact hl
   ·rw [Array.getElem?_eq_none hl] at c2;cases c2
  simp [this]
 ·have e:((p:Int)+1)=((p+1:Nat):Int):=by omega
  rw [e] at h4
  exact z7u.put hk h4 hD.isMap hf (y9g zs s p) (fun j hj=>y7d zs s p j hj)
 ·rw [x4w,List.map_append]
  exact z0y h1 (fun q hq=>by
   simp [Value.ownBlock] at hq
   subst hq
   exact k4 _ hg'l hg'g hg'b)
 ·rw [h5.os];exact h2.os
 ·rw [h5.tape];exact h2.tape
 ·rw [h5.output];exact h2.output
 ·have:=h5.size;simp at this;omega
 ·rw [k4 x (by omega) e1 e2,k2 x hx e3]
 ·rw [hg] at hx
  injection hx with hx
  injection hx with hx1 hx2 hx3
  subst hx1 hx2 hx3
  exact hg4
 ·rcases h3 with e|e
  ·exact .inl (by rw [e];rfl)
  ·exact .inr ⟨g',rfl,by omega⟩
theorem w5l (zs:List Nat) (s p B g o b cap ba off:Nat) (v:Value) (cs:Array Value) (w:World) (hs1:1≤s) (hs8:s≤8) (hr:z0m B w (.slice (some ⟨ba,off,none⟩) zs.length cap) zs) (hcap:zs.length≤cap) (hz:∀c∈zs,c<256) (hp:p+s≤zs.length) (hl:zs.length≤100000000) (hB:B≤w.heap.size)
  (hlv:LvlAt zs s p B w g o b v) (hg:w.heap[g]?=some (.cells cs 162 (0,0))) :
  Calls Tryz.prog 125 #[.pointer (some ⟨g,o,none⟩),.slice (some ⟨ba,off,none⟩) zs.length cap,.int .i64 (p:Int)] w fun e w'=>e=.returned (.tuple #[])∧∃v',LvlAt zs s (p+1) B w' g o b v'∧AddChg w g o b v v' w':=by
 have hln:((zs.drop p).take s).length=s:=by simp;omega
 have HKC:Hid (∀q,Calls Tryz.prog 127 #[.slice (some ⟨ba,off+p,none⟩) s s] (w.drewN q) fun e w'=>e=.returned (.int .u64 (z1o zs s p:Nat))∧w'=w.drewN q):=qz fun q=>by
  have h1:=(hr.sub rfl p s s hp (Nat.le_refl _)).stays (w1:=w.drewN q) ⟨rfl,rfl,rfl,Nat.le_refl _,fun _ _=>rfl⟩
  exact w3b ((zs.drop p).take s) _ B (w.drewN q) h1 (by rw [hln];exact hs8) (fun c hc=>hz c (List.mem_of_mem_drop (List.mem_of_mem_take hc)))
 have c0:=hlv.c0
 have hk64:=x1c hz hs8 hp
 have HADS:Hid (AddS g o b p (lastOf zs s p) w):=qz ⟨hlv.c1,hlv.mp⟩
 have HZL:Hid (lastOf zs s p (z1o zs s p)≤p):=qz (z5b _ _ _ _)
 have HLV0:=qz hlv
 have HK64:=qz hk64
 have HKEY:=qz (w4k _ hk64)
 have HWF:Hid ((Lit.int .i64 ((p:Int)+1)).wf=true):=qz (WalkArith.wf_i64 (by omega))
 clear hk64
 obtain ⟨L,hL⟩:∃L,L=zs.length:=⟨_,rfl⟩
 rw [←hL] at hp hl hcap ⊢
 obtain ⟨E,hE⟩:∃E:Nat,(p:Int)+(s:Int)=(E:Int):=⟨p+s,by omega⟩
 have hEp:E-p=s:=by omega
 have hpE:p≤E:=by omega
 have hEc:E≤cap:=by omega
 have hpEc:p≤E∧E≤cap:=⟨hpE,hEc⟩
 have hnl:¬ (L:Int)-(p:Int)<(s:Int):=by omega
 have hwE:IntKind.i64.wrap (E:Int)=(E:Int):=IntWalk.i64_in _ (by omega)
 have hs0:¬s=0:=by omega
 obtain ⟨K,hK⟩:∃K,K=z1o zs s p:=⟨_,rfl⟩
 rw [←hK] at HKC HK64 HKEY
 have HK:=qz hK
 clear hL hr hln hK hlv
 go_enter Tryz.func125,Tryz.ntmps125
 go_wp2_with fail
 go_quiet (first|(go_at_call 127;refine Calls.quiet_of_same (uh HKC _)))
 go_upto_region 2 with fail
 refine wp_region_noPanic ?_
 obtain ⟨x1,hx1⟩:∃x1,x1=(w.drewN nq).drew:=⟨_,rfl⟩
 have hlv1:LvlAt zs s p B x1 g o b v:=by rw [hx1];exact (uh HLV0).same rfl
 have hg1:x1.heap[g]?=some (.cells cs 162 (0,0)):=by rw [hx1];exact hg
 have hB1:B≤x1.heap.size:=by rw [hx1];exact hB
 have HEND:Hid (∀v' w4,AddChg x1 g o b v v' w4→AddChg w g o b v v' w4):=qz fun v' w4 h=>by rw [hx1] at h;exact ⟨h.os,h.tape,h.output,h.size,h.kp,h.gb,h.own⟩
 obtain ⟨z,hz⟩:∃z,z=lastOf zs s p K:=⟨_,rfl⟩
 have hzp:z≤p:=by rw [hz,uh HK];exact uh HZL
 have HLV:Hid (∀ (g' cap':Nat) (w2:World) (D:DataW Unit) (w4:World),w2.ownsRow B 3 1 (.slice (some ⟨g',0,none⟩) (p+1) cap') (p+1) ((befs zs s p).map iv++[iv (z:Int)]) →
  (x1.alloc (.cells #[.int .i64 (z:Int)] 3)).grownBy w2 v.ownBlock→(v.ownBlock=some g'∨g'=x1.heap.size+1) →
  (∀k:Nat,k<18446744073709551616→D.atKey (.int .u64 (k:Int)) (.lit (.int .i64 0))=.lit (.int .i64 (lastOf zs s p k:Nat))) →
  (w2.setCell ⟨g,o+2,none⟩ (.slice (some ⟨g',0,none⟩) (p+1) cap')).ownsMap Tryz.prog 92 (plainElem Tryz.prog 3) b p D →
  w4.ownsMap Tryz.prog 92 (plainElem Tryz.prog 3) b (p+1) (D.put (.int .u64 (K:Int)) (.lit (.int .i64 ((p:Int)+1)))) →
  (w2.setCell ⟨g,o+2,none⟩ (.slice (some ⟨g',0,none⟩) (p+1) cap')).grownBy w4 (some b) →
  LvlAt zs s (p+1) B w4 g o b (.slice (some ⟨g',0,none⟩) (p+1) cap')∧AddChg w g o b v (.slice (some ⟨g',0,none⟩) (p+1) cap') w4):=qz fun g' cap' w2 D w4 a1 a2 a3 a4 a5 a6 a7=>by
   rw [hz,uh HK] at a1 a2
   rw [uh HK] at a6
   have hh:=hlv1.added hg1 (by rw [←uh HK];exact uh HK64) g' cap' w2 D w4 a1 a2 a3 a4 a5 a6 a7
   exact ⟨hh.1,uh HEND _ _ hh.2⟩
 have HZ:Hid (lastOf zs s p K=z):=qz hz.symm
 have HADS1:Hid (AddS g o b p (lastOf zs s p) x1):=qz ⟨hlv1.c1,hlv1.mp⟩
 have HC2:=qz hlv1.c2
 have HROW:=qz (hlv1.row.alloc (.cells #[.int .i64 (z:Int)] 3))
 have HVG:=qz (z4r hlv1.row hg1 (by decide))
 have HGL:=qz (z0b hg1)
 have HG:=qz hg1
 have HKS:Hid (∀w',(x1.alloc (.cells #[.int .i64 (z:Int)] 3)).grownBy w' v.ownBlock→AddS g o b p (lastOf zs s p) w'):=qz fun w' hgr=>by
  obtain ⟨es,ck,hb⟩:=hlv1.mp.is
  exact (uh HADS1).keep (z8n hgr (uh HGL) (uh HVG)) (z8n hgr (z0b hb) (z6d hlv1.row hb))
 have HO2:Hid (o+2<cs.size):=qz (by
  have h:=uh HC2
  simp only [World.cell?,hg1] at h
  rcases Nat.lt_or_ge (o+2) cs.size with hl|hl
  ·exact hl
  ·rw [Array.getElem?_eq_none hl] at h;cases h)
 have HS0:Hid (AddS g o b p (lastOf zs s p) (w.drewN nq).drew):=qz (by rw [←hx1];exact uh HADS1)
 refine wp_region_held_drew (S:=AddS g o b p (lastOf zs s p)) (by kernel_rfl) (uh HS0) (fun hHeld=>?_)
 rw [←hx1] at hHeld ⊢
 clear HS0 hx1 hlv1 hg1 hz HADS hg hB c0 HKC HEND HLV0
 refine hT 0 32 rfl rfl hHeld nPp (v:=?_) (fun x hSx=>?_) ?_
 rotate_left 1
 ·go_simp<;>with_reducible rfl
 simp only [sA,sB]
 refine hT 1 33 rfl rfl hHeld nPp (v:=?_) (fun x hSx=>?_) ?_
 rotate_left 1
 ·go_simp<;>with_reducible rfl
 simp only [sA,sB]
 refine hT 2 34 rfl rfl hHeld nPp (v:=?_) (fun x hSx=>?_) ?_
 rotate_left 1
 ·go_simp<;>with_reducible rfl
 simp only [sA,sB]
 refine hT 3 35 rfl rfl hHeld nPp (v:=?_) (fun x hSx=>?_) ?_
 rotate_left 1
 ·go_simp<;>with_reducible rfl
 simp only [sA,sB]
 refine hT 5 37 rfl rfl hHeld nPp (v:=?_) (fun x hSx=>?_) ?_
 rotate_left 1
 ·go_simp<;>with_reducible rfl
 simp only [sA,sB]
 refine hT 6 38 rfl rfl hHeld nPp (v:=?_) (fun x hSx=>?_) ?_
 rotate_left 1
 ·go_simp<;>with_reducible rfl
 simp only [sA,sB]
 refine hT 7 39 rfl rfl hHeld nPp (v:=?_) (fun x hSx=>?_) ?_
 rotate_left 1
 ·go_simp<;>with_reducible rfl
 simp only [sA,sB]
 refine hT 8 40 rfl rfl hHeld nPp (v:=?_) (fun x hSx=>?_) ?_
 rotate_left 1
 ·(have q1:=hSx.c1;have q2:=hSx.mp.look K (uh HK64);go_simp<;>with_reducible rfl)
 simp only [sA,sB]
 refine hT 9 41 rfl rfl hHeld nPp (v:=?_) (fun x hSx=>?_) ?_
 rotate_left 1
 ·go_simp<;>with_reducible rfl
 simp only [sA,sB]
 refine hT 10 42 rfl rfl hHeld nPp (v:=?_) (fun x hSx=>?_) ?_
 rotate_left 1
 ·(have q2:=hSx.mp.look K (uh HK64);rw [uh HZ] at q2;go_simp<;>with_reducible rfl)
 simp only [sA,sB]
 refine z1s (i:=4) (j:=11) (by kernel_rfl) rfl rfl (fun K hK=>?_) (fun K hK=>?_)
 ·refine z0n 4 36 hK rfl (by rfl) (v:=v) (w':=x1) ?_ hHeld ?_
  ·have q0:=uh HC2;go_simp
  simp only [sA,sB]
  refine hO 11 43 rfl rfl (v:=.slice (some ⟨x1.heap.size,0,none⟩) 1 1) (w':=(x1.alloc (.cells #[.int .i64 (z:Int)] 3))) ?_ (hHeld.alloc _) ?_
  ·go_simp<;>exact ⟨rfl,rfl⟩
  simp only [sA,sB]
  refine z1u 12 44 (.tmp 36) (.tmp 43) (by kernel_rfl) rfl rfl (by rfl) rfl rfl B v p ((befs zs s p).map iv) (by rfl) (uh HROW) ⟨x1.heap.size,0,none⟩ (z:Int) (by rfl) (z4b _ _) (by omega) (by simp;omega) (x1.heap.size+1) (by simp) (fun w' hg=>(uh HKS) w' hg) ?_
  intro g' cap' w2 h1 h2 h3 h4
  simp only [sA,sB]
  have e2:=uh HKS _ h2
  have hgb:=z8n h2 (uh HGL) (uh HVG)
  rw [uh HG] at hgb
  have HFIN:=qz (fun D w4=>uh HLV g' cap' w2 D w4 h1 h2 h3)
  clear h1 h2 h3 h4 hHeld
  have hHeld:=e2
  refine hT 13 45 rfl rfl hHeld nPp (v:=?_) (fun x hSx=>?_) ?_
  rotate_left 1
  ·go_simp<;>with_reducible rfl
  simp only [sA,sB]
  refine hT 14 46 rfl rfl hHeld nPp (v:=?_) (fun x hSx=>?_) ?_
  rotate_left 1
  ·go_simp<;>with_reducible rfl
  simp only [sA,sB]
  have HS3:=e2.set hgb (.slice (some ⟨g',0,none⟩) (p+1) cap')
  have hfz:w2.frozen? ⟨g,o+2,none⟩=false:=by simp [World.frozen?,hgb]
  have hcl:=x5g hgb (uh HO2)
  refine hKk 15 rfl rfl (w':=w2.setCell ⟨g,o+2,none⟩ (.slice (some ⟨g',0,none⟩) (p+1) cap')) ?_ HS3 ?_
  ·obtain ⟨u,hu⟩:=hcl;go_simp
  refine dN ?_
  have c1':=HS3.c1
  obtain ⟨D,hown,hf⟩:=HS3.mp
  have HFIN2:=qz (fun w4=>uh HFIN D w4 hf hown)
  have HOWN:=qz hown
  obtain ⟨w3,hw3⟩:∃w3,w3=w2.setCell ⟨g,o+2,none⟩ (.slice (some ⟨g',0,none⟩) (p+1) cap'):=⟨_,rfl⟩
  rw [←hw3] at c1' HOWN HFIN2 ⊢
  clear hw3 hown hf hHeld HS3 e2 HFIN hcl hfz hgb
  go_wp2_with (first|(at_mapUpdate;refine wpList_mapUpdate_own _ rfl _ _ _ 160 rfl 92 3 y5k Tryz.underlying160 _ b p _ rfl (uh HOWN) (by unfold maxLen;omega) _ _ _ rfl rfl (uh HKEY) _ [] (plainElem_int Tryz.underlying3 (uh HWF)) ?_;intro w4 hown4 hgrow4)|fail)
  go_end0
  exact ⟨rfl,_,uh HFIN2 w4 hown4 hgrow4⟩
 ·refine z0n 11 43 hK rfl (by rfl) (v:=.slice (some ⟨x1.heap.size,0,none⟩) 1 1) (w':=(x1.alloc (.cells #[.int .i64 (z:Int)] 3))) ?_ (hHeld.alloc _) ?_
  ·go_simp<;>exact ⟨rfl,rfl⟩
  simp only [sA,sB]
  refine hO 4 36 rfl rfl (v:=v) (w':=(x1.alloc (.cells #[.int .i64 (z:Int)] 3))) ?_ (hHeld.alloc _) ?_
  ·have q0:(x1.alloc (.cells #[.int .i64 (z:Int)] 3)).cell? ⟨g,o+2,none⟩=some v:=z0a ((Below.refl _ _).alloc (Nat.le_refl _) _) (uh HC2);go_simp
  simp only [sA,sB]
  refine z1u 12 44 (.tmp 36) (.tmp 43) (by kernel_rfl) rfl rfl (by rfl) rfl rfl B v p ((befs zs s p).map iv) (by rfl) (uh HROW) ⟨x1.heap.size,0,none⟩ (z:Int) (by rfl) (z4b _ _) (by omega) (by simp;omega) (x1.heap.size+1) (by simp) (fun w' hg=>(uh HKS) w' hg) ?_
  intro g' cap' w2 h1 h2 h3 h4
  simp only [sA,sB]
  have e2:=uh HKS _ h2
  have hgb:=z8n h2 (uh HGL) (uh HVG)
  rw [uh HG] at hgb
  have HFIN:=qz (fun D w4=>uh HLV g' cap' w2 D w4 h1 h2 h3)
  clear h1 h2 h3 h4 hHeld
  have hHeld:=e2
  refine hT 13 45 rfl rfl hHeld nPp (v:=?_) (fun x hSx=>?_) ?_
  rotate_left 1
  ·go_simp<;>with_reducible rfl
  simp only [sA,sB]
  refine hT 14 46 rfl rfl hHeld nPp (v:=?_) (fun x hSx=>?_) ?_
  rotate_left 1
  ·go_simp<;>with_reducible rfl
  simp only [sA,sB]
  have HS3:=e2.set hgb (.slice (some ⟨g',0,none⟩) (p+1) cap')
  have hfz:w2.frozen? ⟨g,o+2,none⟩=false:=by simp [World.frozen?,hgb]
  have hcl:=x5g hgb (uh HO2)
  refine hKk 15 rfl rfl (w':=w2.setCell ⟨g,o+2,none⟩ (.slice (some ⟨g',0,none⟩) (p+1) cap')) ?_ HS3 ?_
  ·obtain ⟨u,hu⟩:=hcl;go_simp
  refine dN ?_
  have c1':=HS3.c1
  obtain ⟨D,hown,hf⟩:=HS3.mp
  have HFIN2:=qz (fun w4=>uh HFIN D w4 hf hown)
  have HOWN:=qz hown
  obtain ⟨w3,hw3⟩:∃w3,w3=w2.setCell ⟨g,o+2,none⟩ (.slice (some ⟨g',0,none⟩) (p+1) cap'):=⟨_,rfl⟩
  rw [←hw3] at c1' HOWN HFIN2 ⊢
  clear hw3 hown hf hHeld HS3 e2 HFIN hcl hfz hgb
  go_wp2_with (first|(at_mapUpdate;refine wpList_mapUpdate_own _ rfl _ _ _ 160 rfl 92 3 y5k Tryz.underlying160 _ b p _ rfl (uh HOWN) (by unfold maxLen;omega) _ _ _ rfl rfl (uh HKEY) _ [] (plainElem_int Tryz.underlying3 (uh HWF)) ?_;intro w4 hown4 hgrow4)|fail)
  go_end0
  exact ⟨rfl,_,uh HFIN2 w4 hown4 hgrow4⟩
end T6
namespace T6
open Go.RowKit Go.Maps
attribute [local go_sem ↓] wp_at_zero wp_at_succ
theorem x4t (L s p g o:Nat) (a:Option Addr) (cap:Nat) (w:World) (hs8:s≤8) (hpl:p≤L) (hl:L≤100000000) (hp:L<p+s) (c0:w.cell? ⟨g,o,none⟩=some (.int .i64 (s:Int))) :
  Calls Tryz.prog 125 #[.pointer (some ⟨g,o,none⟩),.slice a L cap,.int .i64 (p:Int)] w fun e w'=>e=.returned (.tuple #[])∧w'=w:=by
 have hnl:(L:Int)-(p:Int)<(s:Int):=by omega
 go_enter Tryz.func125,Tryz.ntmps125
 go_wp2_with fail
 refine bodyPost_ret (results_none rfl _ _ _) rfl ?_
 exact ⟨rfl,rfl⟩
theorem x0f (L s p g o:Nat) (a:Option Addr) (cap:Nat) (w:World) (hs8:s≤8) (hpl:p≤L) (hl:L≤100000000) (hp:L<p+s) (c0:w.cell? ⟨g,o,none⟩=some (.int .i64 (s:Int))) :
  Calls Tryz.prog 98 #[.pointer (some ⟨g,o,none⟩),.slice a L cap,.int .i64 (p:Int)] w fun e w'=>e=.returned (.int .i64 (-1))∧w'=w:=by
 have hnl:(L:Int)-(p:Int)<(s:Int):=by omega
 go_enter Tryz.func98,Tryz.ntmps98
 go_wp2_with fail
 go_ret
 exact ⟨rfl,rfl⟩
theorem x1z (zs:List Nat) (s p m B B' g o b cap ba off:Nat) (v:Value) (w:World) (hs1:1≤s) (hs8:s≤8) (hr:z0m B' w (.slice (some ⟨ba,off,none⟩) zs.length cap) zs) (hcap:zs.length≤cap) (hz:∀c∈zs,c<256) (hp:p+s≤zs.length) (hl:zs.length≤100000000)
  (hlv:LvlAt zs s m B w g o b v) (hm:m≤zs.length) :
  Calls Tryz.prog 98 #[.pointer (some ⟨g,o,none⟩),.slice (some ⟨ba,off,none⟩) zs.length cap,.int .i64 (p:Int)] w fun e w'=>e=.returned (.int .i64 ((lastOf zs s m (z1o zs s p):Nat)-1:Int))∧∃q,w'=w.drewN q:=by
 have hln:((zs.drop p).take s).length=s:=by simp;omega
 have HKC:Hid (∀q,Calls Tryz.prog 127 #[.slice (some ⟨ba,off+p,none⟩) s s] (w.drewN q) fun e w'=>e=.returned (.int .u64 (z1o zs s p:Nat))∧w'=w.drewN q):=qz fun q=>by
  have h1:=(hr.sub rfl p s s hp (Nat.le_refl _)).stays (w1:=w.drewN q) ⟨rfl,rfl,rfl,Nat.le_refl _,fun _ _=>rfl⟩
  exact w3b ((zs.drop p).take s) _ B' (w.drewN q) h1 (by rw [hln];exact hs8) (fun c hc=>hz c (List.mem_of_mem_drop (List.mem_of_mem_take hc)))
 have c0:=hlv.c0
 have c1:=hlv.c1
 have hk64:=x1c hz hs8 hp
 have hlk:∀q,(Instr.lookup 160 (.map (some b)) (.int .u64 ((z1o zs s p:Nat):Int)) false).run Tryz.prog (w.drewN q)=.ok (.int .i64 (lastOf zs s m (z1o zs s p):Nat)) (w.drewN q):=fun q=>(hlv.mp.block (w':=w.drewN q) rfl).look _ hk64
 have hzl:lastOf zs s m (z1o zs s p)≤m:=z5b _ _ _ _
 obtain ⟨z,hzz⟩:∃z,z=lastOf zs s m (z1o zs s p):=⟨_,rfl⟩
 rw [←hzz] at hlk hzl ⊢
 obtain ⟨L,hL⟩:∃L,L=zs.length:=⟨_,rfl⟩
 rw [←hL] at hp hl hcap hm ⊢
 obtain ⟨E,hE⟩:∃E:Nat,(p:Int)+(s:Int)=(E:Int):=⟨p+s,by omega⟩
 have hEp:E-p=s:=by omega
 have hpE:p≤E:=by omega
 have hEc:E≤cap:=by omega
 have hpEc:p≤E∧E≤cap:=⟨hpE,hEc⟩
 have hnl:¬ (L:Int)-(p:Int)<(s:Int):=by omega
 have hwE:IntKind.i64.wrap (E:Int)=(E:Int):=IntWalk.i64_in _ (by omega)
 have hwz:IntKind.i64.wrap ((z:Int)-1)=(z:Int)-1:=IntWalk.i64_in _ (by omega)
 have hs0:¬s=0:=by omega
 obtain ⟨K,hK⟩:∃K,K=z1o zs s p:=⟨_,rfl⟩
 rw [←hK] at HKC hlk
 clear hL hr hln hK hlv hk64 hz hzz
 have hlk0:=hlk 0
 go_enter Tryz.func98,Tryz.ntmps98
 go_wp2_with fail
 go_quiet (first|(go_at_call 127;refine Calls.quiet_of_same (uh HKC _)))
 go_wp2_with fail
 go_ret
 exact ⟨rfl,nq,rfl⟩
end T6
namespace T6
open Go.RowKit Go.Maps
attribute [local go_sem ↓] wp_at_zero wp_at_succ
structure Keeps (B:Nat) (ts:List TypeId) (w w':World):Prop where
 os:w'.os=w.os
 tape:w'.tape=w.tape
 output:w'.output=w.output
 size:w.heap.size≤w'.heap.size
 low:∀x:Nat,x<w.heap.size→x<B→w'.heap[x]?=w.heap[x]?
 typ:∀ (x:Nat) (cs:Array Value) (t:TypeId) (f:Nat × Nat),w.heap[x]?=some (.cells cs t f)→t∉ts→w'.heap[x]?=w.heap[x]?
theorem Keeps.refl (B:Nat) (ts:List TypeId) (w:World):Keeps B ts w w:=⟨rfl,rfl,rfl,Nat.le_refl _,fun _ _ _=>rfl,fun _ _ _ _ _ _=>rfl⟩
theorem Keeps.trans {B:Nat} {ts:List TypeId} {x y z:World} (h:Keeps B ts x y) (k:Keeps B ts y z):Keeps B ts x z :=
 ⟨k.os.trans h.os,k.tape.trans h.tape,k.output.trans h.output,Nat.le_trans h.size k.size,fun i hi hB=>by rw [k.low i (by have:=h.size;omega) hB,h.low i hi hB],
  fun i cs t f hi ht=>by have h1:=h.typ i cs t f hi ht;rw [k.typ i cs t f (by rw [h1];exact hi) ht,h1]⟩
theorem Keeps.wide {B:Nat} {ts us:List TypeId} {x y:World} (h:Keeps B ts x y) (hs:∀t,t∈ts→t∈us):Keeps B us x y :=
 ⟨h.os,h.tape,h.output,h.size,h.low,fun i cs t f hi ht=>h.typ i cs t f hi (fun hc=>ht (hs t hc))⟩
theorem Keeps.below {B:Nat} {ts:List TypeId} {x y:World} (h:Keeps B ts x y) (hB:B≤x.heap.size):Below B x y:=⟨h.os,h.tape,h.output,h.size,fun k hk=>h.low k (by omega) hk⟩
theorem Keeps.of_below {B:Nat} {ts:List TypeId} {x y:World} (h:Below x.heap.size x y):Keeps B ts x y:=⟨h.os,h.tape,h.output,h.size,fun i hi _=>h.block i hi,fun i cs t f hi _=>h.block i (z0b hi)⟩
def cnt (L s f:Nat):Nat:=min f (L+1-s)
def upf {α:Type} (f:Nat→α) (j:Nat) (x:α):Nat→α:=fun i=>if i=j then x else f i
structure Lvs (zs:List Nat) (B N:Nat) (sz b:Nat→Nat) (v:Nat→Value) (m:Nat→Nat) (w:World) (gl:Nat):Prop where
 blk:∃cs,w.heap[gl]?=some (.cells cs 162 (0,0))
 lv:∀j,j<N→LvlAt zs (sz j) (m j) B w gl (j*3) (b j) (v j)
 ap1:∀i j,i<N→j<N→i≠j→b i≠b j
 ap2:∀i j,i<N→j<N→i≠j→∀x,(v i).ownBlock=some x→(v j).ownBlock≠some x
 gB:B≤gl
 bB:∀j,j<N→B≤b j
theorem z4k {w:World} {B n:Nat} {v:Value} {xs:List Value} (h:w.ownsRow B 3 1 v n xs) {x:Nat} (hx:v.ownBlock=some x):B≤x∧∃cs f,w.heap[x]?=some (.cells cs 3 f):=by
 rcases h.2 with ⟨e,_⟩|⟨g,cap,cur,e,hb,hh,_⟩
 ·rw [e] at hx;simp [Value.ownBlock] at hx
 ·rw [e] at hx
  simp [Value.ownBlock] at hx
  subst hx
  exact ⟨hb,_,_,hh⟩
theorem LvlAt.kept {zs:List Nat} {s m B:Nat} {x y:World} {g o b:Nat} {v:Value} (h:LvlAt zs s m B x g o b v) (h0:∀i,i<3→y.cell? ⟨g,o+i,none⟩=x.cell? ⟨g,o+i,none⟩) (hb:y.heap[b]?=x.heap[b]?) (hv:∀q,v.ownBlock=some q→y.heap[q]?=x.heap[q]?):LvlAt zs s m B y g o b v :=
 ⟨by have:=h0 0 (by omega);rw [show o+0=o from rfl] at this;rw [this];exact h.c0,by rw [h0 1 (by omega)];exact h.c1,by rw [h0 2 (by omega)];exact h.c2,h.mp.block hb,z0y h.row hv⟩
theorem Lvs.kept {zs:List Nat} {B N:Nat} {sz b:Nat→Nat} {v:Nat→Value} {m:Nat→Nat} {x y:World} {gl:Nat} (h:Lvs zs B N sz b v m x gl) (hg:y.heap[gl]?=x.heap[gl]?) (hb:∀j,j<N→y.heap[b j]?=x.heap[b j]?) (hv:∀j q,j<N→(v j).ownBlock=some q→y.heap[q]?=x.heap[q]?):Lvs zs B N sz b v m y gl:=by
 obtain ⟨cs,hcs⟩:=h.blk
 exact ⟨⟨cs,by rw [hg];exact hcs⟩,fun j hj=>(h.lv j hj).kept (fun i _=>World.cell?_of_block (by exact hg)) (hb j hj) (fun q hq=>hv j q hj hq),h.ap1,h.ap2,h.gB,h.bB⟩
theorem Lvs.grown {zs:List Nat} {B N:Nat} {sz b:Nat→Nat} {v:Nat→Value} {m:Nat→Nat} {x y:World} {gl:Nat} (h:Lvs zs B N sz b v m x gl) (hk:∀i,i<x.heap.size→y.heap[i]?=x.heap[i]?):Lvs zs B N sz b v m y gl:=by
 obtain ⟨cs,hcs⟩:=h.blk
 refine h.kept (hk _ (z0b hcs)) (fun j hj=>?_) (fun j q hj hq=>?_)
 ·obtain ⟨es,ck,hb⟩:=(h.lv j hj).mp.is
  exact hk _ (z0b hb)
 ·obtain ⟨_,cs,f,hh⟩:=z4k (h.lv j hj).row hq
  exact hk _ (z0b hh)
theorem Lvs.added {zs:List Nat} {B N:Nat} {sz b:Nat→Nat} {v:Nat→Value} {m:Nat→Nat} {w w':World} {gl:Nat} (h:Lvs zs B N sz b v m w gl) {j:Nat} (hj:j<N) {v':Value} {k:Nat} (hl:LvlAt zs (sz j) k B w' gl (j*3) (b j) v') (hc:AddChg w gl (j*3) (b j) (v j) v' w'):Lvs zs B N sz b (upf v j v') (upf m j k) w' gl∧Keeps B [3,162] w w':=by
 obtain ⟨cs,hcs⟩:=h.blk
 have hg':=hc.gb cs 162 (0,0) hcs
 have rowb:∀i,i<N→∀q,(v i).ownBlock=some q→q≠gl:=fun i hi q hq e=>z4r (h.lv i hi).row hcs (by decide) (by rw [hq,e])
 have hlt:∀i,i<N→∀q,(v i).ownBlock=some q→q<w.heap.size:=fun i hi q hq=>by
  obtain ⟨_,cs,f,hh⟩:=z4k (h.lv i hi).row hq
  exact z0b hh
 refine ⟨⟨⟨_,hg'⟩,fun i hi=>?_,h.ap1,fun i i' hi hi' hne x hx=>?_,h.gB,h.bB⟩,⟨hc.os,hc.tape,hc.output,hc.size,fun x hx hB=>?_,fun x cs' t f hx ht=>?_⟩⟩
 ·by_cases e:i=j
  ·subst e
   rw [show upf v i v' i=v' by simp [upf],show upf m i k i=k by simp [upf]]
   exact hl
  ·rw [show upf v j v' i=v i by simp [upf,e],show upf m j k i=m i by simp [upf,e]]
   refine (h.lv i hi).kept (fun a ha=>?_) ?_ (fun q hq=>?_)
   ·simp only [World.cell?,hg',hcs]
    rw [Array.getElem?_setIfInBounds_ne (by omega)]
   ·obtain ⟨es,ck,hb⟩:=(h.lv i hi).mp.is
    refine hc.kp _ (z0b hb) (fun e2=>by rw [e2,hcs] at hb;cases hb) (fun e2=>h.ap1 i j hi hj e e2) (fun e2=>z6d (h.lv j hj).row hb e2)
   ·refine hc.kp q (hlt i hi q hq) (rowb i hi q hq) (fun e2=>?_) (fun e2=>h.ap2 i j hi hj e q hq e2)
    obtain ⟨es,ck,hb⟩:=(h.lv j hj).mp.is
    rw [←e2] at hb
    exact z6d (h.lv i hi).row hb hq
 ·have hown:=hc.own
  by_cases e:i=j
  ·subst e
   rw [show upf v i v' i=v' by simp [upf]] at hx
   rw [show upf v i v' i'=v i' by simp [upf];intro e;omega]
   intro hx'
   rcases hown with e|⟨q,e,hq⟩
   ·rw [e] at hx
    exact h.ap2 i i' hi hi' hne x hx hx'
   ·have:=hlt i' hi' x hx'
    rw [e] at hx
    injection hx with hx
    omega
  ·rw [show upf v j v' i=v i by simp [upf,e]] at hx
   by_cases e':i'=j
   ·subst e'
    rw [show upf v i' v' i'=v' by simp [upf]]
    intro hx'
    rcases hown with e2|⟨q,e2,hq⟩
    ·rw [e2] at hx'
     exact h.ap2 i i' hi hi' hne x hx hx'
    ·have:=hlt i hi x hx
     rw [e2] at hx'
     injection hx' with hx'
     omega
   ·rw [show upf v j v' i'=v i' by simp [upf,e']]
    exact h.ap2 i i' hi hi' hne x hx
 ·have h1:=h.gB
  have h2:=h.bB j hj
  exact hc.kp x hx (by omega) (by omega) (fun e=>by have:=(z4k (h.lv j hj).row e).1;omega)
 ·simp at ht
  refine hc.kp x (z0b hx) (fun e=>?_) (fun e=>?_) (fun e=>?_)
  ·rw [e,hcs] at hx
   injection hx with hx
   injection hx with _ hx _
   exact ht.2 hx.symm
  ·obtain ⟨es,ck,hb⟩:=(h.lv j hj).mp.is
   rw [e,hb] at hx
   cases hx
  ·obtain ⟨_,cs2,f2,hh⟩:=z4k (h.lv j hj).row e
   rw [hh] at hx
   injection hx with hx
   injection hx with _ hx _
   exact ht.1 hx.symm
theorem Lvs.cong {zs:List Nat} {B N:Nat} {sz b:Nat→Nat} {v:Nat→Value} {m m':Nat→Nat} {w:World} {gl:Nat} (h:Lvs zs B N sz b v m w gl) (hm:∀j,j<N→m' j=m j):Lvs zs B N sz b v m' w gl :=
 ⟨h.blk,fun j hj=>by rw [hm j hj];exact h.lv j hj,h.ap1,h.ap2,h.gB,h.bB⟩
structure IdxAt (zs:List Nat) (B N:Nat) (sz b:Nat→Nat) (v:Nat→Value) (m:Nat→Nat) (gx gl lc W M f:Nat) (tx:Value) (w:World):Prop where
 xb:w.heap[gx]?=some (.cells #[tx,.int .i64 (W:Int),.int .i64 (M:Int),.slice (some ⟨gl,0,none⟩) N lc,.int .i64 (f:Int)] 123 (0,0))
 lvs:Lvs zs B N sz b v m w gl
 xB:B≤gx
section
variable {zs:List Nat} {B N:Nat} {sz b:Nat→Nat} {v:Nat→Value} {m:Nat→Nat} {gx gl lc W M f:Nat} {tx:Value} {w:World}
theorem IdxAt.x0 (h:IdxAt zs B N sz b v m gx gl lc W M f tx w):w.cell? ⟨gx,0,none⟩=some tx:=by simp [World.cell?,h.xb]
theorem IdxAt.x1 (h:IdxAt zs B N sz b v m gx gl lc W M f tx w):w.cell? ⟨gx,1,none⟩=some (.int .i64 (W:Int)):=by simp [World.cell?,h.xb]
theorem IdxAt.x2 (h:IdxAt zs B N sz b v m gx gl lc W M f tx w):w.cell? ⟨gx,2,none⟩=some (.int .i64 (M:Int)):=by simp [World.cell?,h.xb]
theorem IdxAt.x3 (h:IdxAt zs B N sz b v m gx gl lc W M f tx w):w.cell? ⟨gx,3,none⟩=some (.slice (some ⟨gl,0,none⟩) N lc):=by simp [World.cell?,h.xb]
theorem IdxAt.x4 (h:IdxAt zs B N sz b v m gx gl lc W M f tx w):w.cell? ⟨gx,4,none⟩=some (.int .i64 (f:Int)):=by simp [World.cell?,h.xb]
theorem IdxAt.fz (h:IdxAt zs B N sz b v m gx gl lc W M f tx w) (i:Nat):w.frozen? ⟨gx,i,none⟩=false:=by simp [World.frozen?,h.xb]
theorem IdxAt.gne (h:IdxAt zs B N sz b v m gx gl lc W M f tx w):gx≠gl:=fun e=>by
 obtain ⟨cs,hcs⟩:=h.lvs.blk
 have:=h.xb
 rw [e,hcs] at this
 injection this with this
 injection this with _ this _
 cases this
theorem IdxAt.next (h:IdxAt zs B N sz b v m gx gl lc W M f tx w) (f':Nat):IdxAt zs B N sz b v m gx gl lc W M f' tx (w.setCell ⟨gx,4,none⟩ (.int .i64 (f':Int)))∧Keeps B [3,123,162] w (w.setCell ⟨gx,4,none⟩ (.int .i64 (f':Int))):=by
 have o:∀k,k≠gx→(w.setCell ⟨gx,4,none⟩ (.int .i64 (f':Int))).heap[k]?=w.heap[k]?:=fun k hk=>heap_setCell_other _ _ _ _ (by exact hk)
 have hxb:=h.xb
 refine ⟨⟨?_,h.lvs.kept (o _ (fun e=>h.gne e.symm)) (fun j hj=>o _ (fun e=>?_)) (fun j q hj hq=>o _ (fun e=>?_)),h.xB⟩,⟨rfl,rfl,rfl,by simp,fun x hx hB=>o x (fun e=>by have:=h.xB;omega),fun x cs t f hx ht=>o x (fun e=>?_)⟩⟩
 ·rw [heap_setCell_same w gx 4 _ 123 _ hxb];rfl
 ·obtain ⟨es,ck,hb⟩:=(h.lvs.lv j hj).mp.is
  rw [e,hxb] at hb
  cases hb
 ·exact z4r (h.lvs.lv j hj).row hxb (by decide) (by rw [hq,e])
 ·rw [e,hxb] at hx
  injection hx with hx
  injection hx with _ hx _
  simp at ht
  exact ht.2.1 hx.symm
theorem IdxAt.add {k:Nat} {v':Value} {w':World} {j:Nat} (h:IdxAt zs B N sz b v m gx gl lc W M f tx w) (hj:j<N) (hl:LvlAt zs (sz j) k B w' gl (j*3) (b j) v') (hc:AddChg w gl (j*3) (b j) (v j) v' w'):IdxAt zs B N sz b (upf v j v') (upf m j k) gx gl lc W M f tx w'∧Keeps B [3,123,162] w w':=by
 obtain ⟨h1,h2⟩:=h.lvs.added hj hl hc
 exact ⟨⟨by rw [h2.typ gx _ 123 (0,0) h.xb (by decide)];exact h.xb,h1,h.xB⟩,h2.wide (fun t ht=>by simp at ht ⊢;rcases ht with e|e<;>simp [e])⟩
theorem IdxAt.grown {y:World} (h:IdxAt zs B N sz b v m gx gl lc W M f tx w) (hk:∀i,i<w.heap.size→y.heap[i]?=w.heap[i]?):IdxAt zs B N sz b v m gx gl lc W M f tx y :=
 ⟨by rw [hk _ (z0b h.xb)];exact h.xb,h.lvs.grown hk,h.xB⟩
theorem IdxAt.cong {m':Nat→Nat} (h:IdxAt zs B N sz b v m gx gl lc W M f tx w) (hm:∀j,j<N→m' j=m j):IdxAt zs B N sz b v m' gx gl lc W M f tx w:=⟨h.xb,h.lvs.cong hm,h.xB⟩
end
end T6
namespace T6
open Go.RowKit Go.Maps
attribute [local go_sem ↓] wp_at_zero wp_at_succ
theorem y8t {L s f:Nat} (h:f+s≤L):cnt L s f=f∧cnt L s (f+1)=f+1:=by unfold cnt;omega
theorem x5l {L s f:Nat} (h:L<f+s):cnt L s (f+1)=cnt L s f:=by unfold cnt;omega
def Apart (T:Nat→Prop) (w:World) (N gx gl:Nat) (b:Nat→Nat) (v:Nat→Value):Prop:=∀x,T x→x<w.heap.size∧x≠gx∧x≠gl∧∀j,j<N→x≠b j∧(v j).ownBlock≠some x
theorem Apart.added {T:Nat→Prop} {w wr w':World} {N gx gl o:Nat} {b:Nat→Nat} {v:Nat→Value} {v':Value} {j:Nat} (h:Apart T w N gx gl b v) (hj:j<N) (hs:w.heap.size≤wr.heap.size) (hc:AddChg wr gl o (b j) (v j) v' w'):Apart T w N gx gl b (upf v j v')∧∀x,T x→w'.heap[x]?=wr.heap[x]?:=by
 refine ⟨fun x hx=>?_,fun x hx=>?_⟩
 ·obtain ⟨h1,h2,h3,h4⟩:=h x hx
  refine ⟨h1,h2,h3,fun i hi=>⟨(h4 i hi).1,?_⟩⟩
  by_cases e:i=j
  ·subst e
   rw [show upf v i v' i=v' by simp [upf]]
   rcases hc.own with e|⟨q,e,hq⟩
   ·rw [e];exact (h4 i hi).2
   ·rw [e];intro e2;injection e2 with e2;omega
  ·rw [show upf v j v' i=v i by simp [upf,e]]
   exact (h4 i hi).2
 ·obtain ⟨h1,h2,h3,h4⟩:=h x hx
  exact hc.kp x (by omega) h3 (h4 j hj).1 (h4 j hj).2
theorem w4f (T:Nat→Prop) (zs:List Nat) (B N:Nat) (sz b:Nat→Nat) (v0:Nat→Value) (gx gl lc W M f0 p cap ba off:Nat) (w:World) (hN:N≤4) (hlc:N≤lc) (hsz:∀j,j<N→1≤sz j∧sz j≤8) (hr:z0m B w (.slice (some ⟨ba,off,none⟩) zs.length cap) zs) (hcap:zs.length≤cap) (hz:∀c∈zs,c<256) (hp:p≤zs.length) (hf:f0≤p) (hl:zs.length≤100000000) (hB:B≤w.heap.size)
  (hx:IdxAt zs B N sz b v0 (fun j=>cnt zs.length (sz j) f0) gx gl lc W M f0 (.slice (some ⟨ba,off,none⟩) zs.length cap) w) (hT:Apart T w N gx gl b v0) :
  Calls Tryz.prog 96 #[.pointer (some ⟨gx,0,none⟩),.int .i64 (p:Int)] w fun e w'=>e=.returned (.tuple #[])∧(∃v,IdxAt zs B N sz b v (fun j=>cnt zs.length (sz j) p) gx gl lc W M p (.slice (some ⟨ba,off,none⟩) zs.length cap) w'∧Apart T w N gx gl b v)∧Keeps B [3,123,162] w w'∧∀x,T x→w'.heap[x]?=w.heap[x]?:=by
 have HT:=qz hT
 clear hT
 have HR:=qz hr
 have HZ:=qz hz
 have HX:=qz hx
 have HSZ:=qz hsz
 clear hr hz hx hsz
 obtain ⟨L,hL⟩:∃L,L=zs.length:=⟨_,rfl⟩
 rw [←hL] at HR HX hcap hp hl ⊢
 have HL:=qz hL
 clear hL
 go_enter Tryz.func96,Tryz.ntmps96
 go_wp2_with fail
 go_loopg [] (p-f0) (fun gk ws=>∃ (f:Nat) (v:Nat→Value),gk=p-f∧f≤p∧IdxAt zs B N sz b v (fun j=>cnt L (sz j) f) gx gl lc W M f (.slice (some ⟨ba,off,none⟩) L cap) ws∧Keeps B [3,123,162] w ws∧Hid (Apart T w N gx gl b v∧∀x,T x→ws.heap[x]?=w.heap[x]?))
 case atStart=>exact ⟨f0,v0,rfl,hf,uh HX,Keeps.refl _ _ _,qz ⟨uh HT,fun _ _=>rfl⟩⟩
 case round =>
  obtain ⟨f,v,rfl,hfp,hx,hk,HTT⟩:=hrel
  clear HX
  have c4:=hx.x4
  have c3:=hx.x3
  by_cases hlt:f<p
  ·have hfi:(f:Int)<(p:Int):=by omega
   have HX:=qz hx
   have HK:=qz hk
   clear hx hk
   go_wp2_with fail
   go_loopg [23] N (fun gi d ws=>∃ (i:Nat) (v:Nat→Value),gi=N-i∧i≤N∧d=.int .i64 (i:Int)∧IdxAt zs B N sz b v (fun j=>if j<i then cnt L (sz j) (f+1) else cnt L (sz j) f) gx gl lc W M f (.slice (some ⟨ba,off,none⟩) L cap) ws∧Keeps B [3,123,162] w ws∧Hid (Apart T w N gx gl b v∧∀x,T x→ws.heap[x]?=w.heap[x]?))
   case atStart=>exact ⟨0,v,rfl,by omega,rfl,(uh HX).cong (fun j hj=>by simp),uh HK,HTT⟩
   case round =>
    obtain ⟨i,v,rfl,hi,rfl,hx,hk,HTI⟩:=hrel
    clear HX HK c4 c3 HTT
    by_cases hlti:i<N
    ·have hii:(i:Int)<(N:Int):=by omega
     have c0:=hx.x0
     have c3:=hx.x3
     have c4:=hx.x4
     have hs:=uh HSZ i hlti
     have HNX:Hid (∀v' w',LvlAt zs (sz i) (cnt L (sz i) (f+1)) B w' gl (i*3) (b i) v'→AddChg wr.drew gl (i*3) (b i) (v i) v' w'→IdxAt zs B N sz b (upf v i v') (fun j=>if j<i+1 then cnt L (sz j) (f+1) else cnt L (sz j) f) gx gl lc W M f (.slice (some ⟨ba,off,none⟩) L cap) w'∧Keeps B [3,123,162] w w'∧Hid (Apart T w N gx gl b (upf v i v')∧∀x,T x→w'.heap[x]?=w.heap[x]?)):=qz fun v' w' h1 h2=>by
      have h4:=(uh HTI).1.added hlti (show w.heap.size≤wr.drew.heap.size from hk.size) h2
      have h3:=(hx.grown (y:=wr.drew) (fun _ _=>rfl)).add hlti h1 h2
      refine ⟨h3.1.cong (fun j hj=>?_),hk.trans ⟨h3.2.os,h3.2.tape,h3.2.output,h3.2.size,h3.2.low,h3.2.typ⟩,qz ⟨h4.1,fun x hx=>(h4.2 x hx).trans ((uh HTI).2 x hx)⟩⟩
      unfold upf
      by_cases e:j=i
      ·rw [if_pos e,if_pos (by omega),e]
      ·rw [if_neg e]
       by_cases e2:j<i
       ·simp only [if_pos e2,if_pos (show j<i+1 by omega)]
       ·simp only [if_neg e2,if_neg (show ¬j<i+1 by omega)]
     have hlv:LvlAt zs (sz i) (cnt L (sz i) f) B wr.drew gl (i*3) (b i) (v i):=by
      have h1:=(hx.lvs.lv i hlti).same (y:=wr.drew) rfl
      have e:(fun j=>if j<i then cnt L (sz j) (f+1) else cnt L (sz j) f) i=cnt L (sz i) f:=by simp
      simp only [e] at h1
      exact h1
     obtain ⟨cs,hcs⟩:=hx.lvs.blk
     have HCALL:Hid (Calls Tryz.prog 125 #[.pointer (some ⟨gl,i*3,none⟩),.slice (some ⟨ba,off,none⟩) L cap,.int .i64 (f:Int)] wr.drew fun e w'=>e=.returned (.tuple #[])∧∃v,IdxAt zs B N sz b v (fun j=>if j<i+1 then cnt L (sz j) (f+1) else cnt L (sz j) f) gx gl lc W M f (.slice (some ⟨ba,off,none⟩) L cap) w'∧Keeps B [3,123,162] w w'∧Hid (Apart T w N gx gl b v∧∀x,T x→w'.heap[x]?=w.heap[x]?)):=qz (by
      by_cases hfs:f+sz i≤L
      ·have hc:=y8t hfs
       rw [hc.1] at hlv
       have hrd:z0m B wr.drew (.slice (some ⟨ba,off,none⟩) zs.length cap) zs:=by
        have h1:=uh HR
        rw [uh HL] at h1
        have h2:=h1.stays (hk.below hB)
        exact h2.stays ⟨rfl,rfl,rfl,Nat.le_refl _,fun _ _=>rfl⟩
       have:=w5l zs (sz i) f B gl (i*3) (b i) cap ba off (v i) cs wr.drew hs.1 hs.2 hrd (by rw [←uh HL];exact hcap) (uh HZ) (by rw [←uh HL];exact hfs) (by rw [←uh HL];exact hl) (by have:=hk.size;show B≤wr.heap.size;omega) hlv hcs
       rw [←uh HL] at this
       refine this.mono ?_
       rintro e w' ⟨rfl,v',h1,h2⟩
       rw [←hc.2] at h1
       exact ⟨rfl,_,uh HNX v' w' h1 h2⟩
      ·have hc:=x5l (show L<f+sz i by omega)
       refine (x4t L (sz i) f gl (i*3) _ cap wr.drew hs.2 (by omega) hl (by omega) hlv.c0).mono ?_
       rintro e w' ⟨rfl,rfl⟩
       refine ⟨rfl,v,(hx.cong (fun j hj=>?_)).grown (fun _ _=>rfl),hk.trans ⟨rfl,rfl,rfl,Nat.le_refl _,fun _ _ _=>rfl,fun _ _ _ _ _ _=>rfl⟩,HTI⟩
       by_cases e2:j<i
       ·simp only [if_pos e2,if_pos (show j<i+1 by omega)]
       ·by_cases e3:j=i
        ·subst e3
         simp only [if_pos (show j<j+1 by omega),if_neg e2]
         exact hc
        ·simp only [if_neg e2,if_neg (show ¬j<i+1 by omega)])
     clear hx hk HNX hlv hcs
     go_wp2_with fail
     refine z6h 14 (by kernel_rfl) (by kernel_rfl) ?_
     simp only [List.take_succ_cons,List.take_zero,List.drop_succ_cons,List.drop_zero]
     repeat still_step
     try refine wpStill_nil ?_
     go_wp2_with (go_at_call 125;refine (uh HCALL).mono ?_;rintro e w' ⟨rfl,v',hx',hk',HT'⟩)
     go_roundg (N-(i+1))
     case measure=>omega
     case rel=>exact ⟨i+1,v',rfl,by omega,by go_num,hx',hk',HT'⟩
    ·obtain rfl:i=N:=by omega
     have hii:¬ (i:Int)<(i:Int):=by omega
     have hx2:=hx.cong (m':=fun j=>cnt L (sz j) (f+1)) (fun j hj=>by simp only [if_pos hj])
     have c4:=hx2.x4
     have fz4:=hx2.fz 4
     obtain ⟨h1,h2⟩:=hx2.next (f+1)
     have HX2:=qz h1
     have HK2:=qz (hk.trans h2)
     have HT2:Hid (Apart T w i gx gl b v∧∀x,T x→(wr.setCell ⟨gx,4,none⟩ (.int .i64 ((f+1:Nat):Int))).heap[x]?=w.heap[x]?):=qz ⟨(uh HTI).1,fun x hx=>by rw [heap_setCell_other _ _ _ _ (by exact ((uh HTI).1 x hx).2.1)];exact (uh HTI).2 x hx⟩
     have e1:((f+1:Nat):Int)=(f:Int)+1:=by omega
     rw [e1] at HX2 HK2 HT2
     clear hx hk hx2 h1 h2 e1
     go_wp2_with fail
     go_roundg (p-(f+1))
     case measure=>omega
     case rel=>exact ⟨f+1,v,rfl,by omega,by
      have h1:=uh HX2
      exact ⟨h1.xb,h1.lvs,h1.xB⟩,uh HK2,HT2⟩
  ·obtain rfl:f=p:=by omega
   have hfi:¬ (f:Int)<(f:Int):=by omega
   have HX:=qz hx
   have HK:=qz hk
   clear hx hk
   go_wp2_with fail
   go_end0
   exact ⟨rfl,⟨v,uh HX,(uh HTT).1⟩,uh HK,(uh HTT).2⟩
end T6
namespace T6
open Go.RowKit Go.Lib
attribute [local go_sem ↓] wp_at_zero wp_at_succ
theorem x1q (s:ByteArray) (K:Nat) (hK:K<s.size) {h:Int} (hh:h=RK.H (s.data.toList.drop (K+1)).reverse%4294967296) :
  (h*16777619%4294967296+((s[K]).toNat:Int)%4294967296)%4294967296=RK.H (s.data.toList.drop K).reverse%4294967296:=LastIndex.hashrev_step s (K+1) (by omega) (by omega) hh
theorem x2z (b o c:Nat) (sep:ByteArray) (hs:sep.size≤140737488355328) (w:World) (hc:Lib.Bytes w b o sep) :
  Calls Tryz.prog 165 #[.slice (some ⟨b,o,none⟩) sep.size c] w fun e w'=>e=.returned (.tuple #[.int .u32 (RK.H sep.data.toList.reverse%4294967296),.int .u32 (16777619^sep.size%4294967296)])∧w'=w:=by
 have HC:=qz hc
 clear hc
 obtain ⟨n,hn⟩:∃n,n=sep.size:=⟨_,rfl⟩
 rw [←hn] at hs ⊢
 have HN:=qz hn
 clear hn
 go_enter Tryz.func165,Tryz.ntmps165
 go_wp2_with fail
 go_loopg [4,5] n (fun gk vh vi ws=>∃ (k:Nat) (h:Int),k=gk∧k≤n∧vi=.int .i64 ((k:Int)-1)∧vh=.int .u32 h∧Hid (h=RK.H (sep.data.toList.drop k).reverse%4294967296)∧w=ws)
 case atStart=>exact ⟨n,0,rfl,Nat.le_refl _,rfl,rfl,qz (by rw [List.drop_of_length_le (by rw [uh HN];simp)];rfl),rfl⟩
 case round =>
  obtain ⟨k,h,rfl,hk,rfl,rfl,hh,rfl⟩:=hrel
  by_cases hk1:1≤k
  ·obtain ⟨K,hK⟩:∃K:Nat,(k:Int)-1=(K:Int):=⟨k-1,by omega⟩
   have hK0:K<sep.size:=by rw [←uh HN];omega
   have c1:=uh HC K hK0
   have HST:=qz (x1q sep K hK0 (h:=h) (by have:=uh hh;rw [show k=K+1 by omega] at this;exact this))
   have hKn:K<n:=by omega
   clear hh
   go_wp2_with fail
   go_roundg K
   case measure=>omega
   case rel=>exact ⟨K,_,rfl,by omega,rfl,rfl,HST,rfl⟩
  ·obtain rfl:k=0:=by omega
   have HH:Hid (h=RK.H sep.data.toList.reverse%4294967296):=qz (by have:=uh hh;rwa [List.drop_zero] at this)
   clear hh
   go_wp2_with fail
   go_loopg [6,7,8] n (fun gk vp vq vi ws=>∃ (i:Nat) (pw sq:Int),i=gk∧vi=.int .i64 (i:Int)∧vp=.int .u32 pw∧vq=.int .u32 sq∧0≤pw∧pw<4294967296∧i≤n∧Hid (RK.PowInv sep.size i pw sq)∧w=ws)
   case atStart=>exact ⟨n,1,16777619,rfl,rfl,rfl,rfl,by omega,by omega,Nat.le_refl _,qz (by rw [uh HN];exact RK.pow_start _),rfl⟩
   case round =>
    obtain ⟨i,pw,sq,rfl,rfl,rfl,rfl,p0,p1,hi,hinv,rfl⟩:=hrel
    have ea:=and_one i (by omega)
    by_cases hi0:0<i
    ·have hii:(0:Int)<(i:Int):=by omega
     obtain ⟨i2,hi2⟩:∃i2,i2=i/2:=⟨_,rfl⟩
     by_cases hodd:i%2=1
     ·have ht:((i:Int)%2 != 0)=true:=by simp;omega
      have HPW:=qz (RK.pow_odd (uh hinv) hodd)
      rw [←hi2] at HPW
      have hi2b:i2<i:=by omega
      have HI2:=qz hi2
      clear hinv hi2
      go_wp2_with fail
      go_roundg i2
      case measure=>omega
      case rel=>exact ⟨i2,_,_,rfl,by rw [uh HI2];first|rfl|(congr 1;omega),rfl,rfl,by omega,by omega,by omega,HPW,rfl⟩
     ·have ht:((i:Int)%2 != 0)=false:=by simp;omega
      have HPW:=qz (RK.pow_even (uh hinv) (show i%2=0 by omega))
      rw [←hi2] at HPW
      have hi2b:i2<i:=by omega
      have HI2:=qz hi2
      clear hinv hi2
      go_wp2_with fail
      go_roundg i2
      case measure=>omega
      case rel=>exact ⟨i2,_,_,rfl,by rw [uh HI2];first|rfl|(congr 1;omega),rfl,rfl,p0,p1,by omega,HPW,rfl⟩
    ·obtain rfl:i=0:=by omega
     have e2:=RK.pow_end (uh hinv) p0 p1
     have HE:Hid (pw=16777619^n%4294967296):=qz (by rw [uh HN];exact e2)
     clear hinv e2
     go_wp2_with fail
     go_ret2
     rw [uh HH,uh HE]
     exact ⟨rfl,rfl⟩
def z2m (zs ys:List Nat) (j:Nat):Prop:=∀i,i<ys.length→zs.getD (j+i) 0=ys.getD i 0
def z1p (zs ys:List Nat) (k:Nat) (r:Int):Prop:=(r = -1∧∀j,j<k→¬z2m zs ys j)∨∃j:Nat,r=(j:Int)∧j<k∧z2m zs ys j∧∀j',j<j'→j'<k→¬z2m zs ys j'
theorem z1p.step {zs ys:List Nat} {k:Nat} {r:Int} (h:z1p zs ys k r) (hn:¬z2m zs ys k):z1p zs ys (k+1) r:=by
 rcases h with ⟨h1,h2⟩|⟨j,h1,h2,h3,h4⟩
 ·exact .inl ⟨h1,fun j hj=>by by_cases e:j=k;(subst e;exact hn);exact h2 j (by omega)⟩
 ·exact .inr ⟨j,h1,by omega,h3,fun j' a b=>by by_cases e:j'=k;(subst e;exact hn);exact h4 j' a (by omega)⟩
theorem z1p.hit {zs ys:List Nat} {k:Nat} (h:z2m zs ys k):z1p zs ys (k+1) (k:Int):=.inr ⟨k,rfl,by omega,h,fun j' a b=>by omega⟩
theorem z1p.up {zs ys:List Nat} {j m:Nat} {r:Int} (h:z1p zs ys j r) (hj:j≤m) (hn:∀i,j≤i→i<m→¬z2m zs ys i):z1p zs ys m r:=by
 rcases h with ⟨h1,h2⟩|⟨i,h1,h2,h3,h4⟩
 ·exact .inl ⟨h1,fun x hx=>by by_cases e:x<j;exact h2 x e;exact hn x (by omega) hx⟩
 ·exact .inr ⟨i,h1,by omega,h3,fun x a b=>by by_cases e:x<j;exact h4 x a e;exact hn x (by omega) b⟩
theorem y9h (zs:List Nat) (a:Option Addr) (cap B x:Nat) (w:World) (hr:z0m B w (.slice a zs.length cap) zs) (hl:zs.length≤140737488355328) :
  Calls Tryz.prog 150 #[.slice a zs.length cap,.int .u8 (x:Int)] w fun e w'=>∃r:Int,e=.returned (.int .i64 r)∧z1p zs [x] zs.length r∧w'=w:=by
 have HR:=qz hr
 clear hr
 obtain ⟨n,hn⟩:∃n,n=zs.length:=⟨_,rfl⟩
 rw [←hn] at HR hl ⊢
 have HN:=qz hn
 clear hn
 go_enter Tryz.func150,Tryz.ntmps150
 go_wp2_with fail
 go_loopg [5] n (fun gk vi ws=>∃ (k:Nat),k=gk∧k≤n∧vi=.int .i64 ((k:Int)-1)∧Hid (∀j,k≤j→j<n→¬z2m zs [x] j)∧w=ws)
 case atStart=>exact ⟨n,rfl,Nat.le_refl _,rfl,qz fun j a b=>by omega,rfl⟩
 case round =>
  obtain ⟨k,rfl,hk,rfl,hno,rfl⟩:=hrel
  by_cases hk1:1≤k
  ·obtain ⟨K,hK⟩:∃K:Nat,(k:Int)-1=(K:Int):=⟨k-1,by omega⟩
   have hKn:K<n:=by omega
   have hkK:k=K+1:=by omega
   obtain ⟨a',c',e,_,hs⟩:=uh HR
   injection e with e1 e2 e3
   subst e1 e3
   clear e2
   obtain ⟨b,off,rfl,_,hcell⟩:=hs (by rw [←uh HN];omega)
   have c1:=hcell K (by rw [←uh HN];exact hKn)
   obtain ⟨y,hy⟩:∃y,y=zs.getD K 0:=⟨_,rfl⟩
   rw [←hy] at c1
   have HST:Hid (z2m zs [x] K↔y=x):=qz (by
    constructor
    ·intro h
     have:=h 0 (by simp)
     rw [Nat.add_zero,←hy] at this
     simpa using this
    ·intro h i hi
     have:i=0:=by simpa using hi
     subst this
     rw [Nat.add_zero,←hy,h]
     rfl)
   have HKK:=qz hkK
   clear hcell hs hy hkK
   by_cases hxy:y=x
   ·have HE:=qz ((z1p.hit ((uh HST).2 hxy)).up (m:=n) (by omega) (fun i a b=>uh hno i (by have:=uh HKK;omega) b))
    have e1:((y:Int) == (x:Int))=true:=by simp [hxy]
    have e1':(y == x)=true:=by simp [hxy]
    clear hno HST hxy
    go_wp2_with fail
    go_ret
    exact ⟨_,rfl,by rw [hK];exact uh HE,rfl⟩
   ·have HG:Hid (∀j,K≤j→j<n→¬z2m zs [x] j):=qz fun j a b=>by
     by_cases e:j=K
     ·subst e;exact fun h=>hxy ((uh HST).1 h)
     ·exact uh hno j (by have:=uh HKK;omega) b
    have e1:((y:Int) == (x:Int))=false:=by simp;omega
    have e1':(y == x)=false:=by simp [hxy]
    clear hno HST hxy
    go_wp2_with fail
    go_roundg K
    case measure=>have:=uh HKK;omega
    case rel=>exact ⟨K,rfl,by omega,rfl,HG,rfl⟩
  ·obtain rfl:k=0:=by omega
   have HE:Hid (z1p zs [x] n (-1)):=qz (.inl ⟨rfl,fun j hj=>uh hno j (Nat.zero_le _) hj⟩)
   clear hno
   go_wp2_with fail
   go_ret
   exact ⟨_,rfl,uh HE,rfl⟩
def sb (zs:List Nat):ByteArray:=⟨(zs.map UInt8.ofNat).toArray⟩
theorem z6e (zs:List Nat):(sb zs).size=zs.length:=by simp [sb,ByteArray.size]
theorem x0d (zs:List Nat):(sb zs).data.toList=zs.map UInt8.ofNat:=by simp [sb]
theorem x8u {zs:List Nat} (hs:∀z∈zs,z<256) (i:Nat) (h:i<(sb zs).size):((sb zs)[i]).toNat=zs.getD i 0:=by
 have hl:i<zs.length:=by rw [z6e] at h;exact h
 have h1:(sb zs)[i]=UInt8.ofNat zs[i]:=by
  show (sb zs).data[i]=_
  simp [sb]
 rw [h1]
 have h2:=hs zs[i] (List.getElem_mem hl)
 simp [hl,Nat.mod_eq_of_lt h2]
theorem x8v {a b:List Nat} (ha:∀z∈a,z<256) (hb:∀z∈b,z<256) (h:sb a=sb b):a=b:=by
 have hl:a.length=b.length:=by rw [←z6e,←z6e,h]
 refine y1x hl fun i hi=>?_
 have h1:=x8u ha i (by rw [z6e];exact hi)
 have h2:=x8u hb i (by rw [z6e];omega)
 rw [←h1,←h2]
 congr 1
 simp only [h]
theorem x1v {B:Nat} {w:World} {a:Option Addr} {cap:Nat} {zs:List Nat} (h:z0m B w (.slice a zs.length cap) zs) (hs:∀z∈zs,z<256) (h0:0<zs.length):∃b off,a=some ⟨b,off,none⟩∧Lib.Bytes w b off (sb zs):=by
 obtain ⟨a',c',e,_,hc⟩:=h
 injection e with e1 e2 e3
 subst e1
 obtain ⟨b,off,rfl,_,hcell⟩:=hc h0
 refine ⟨b,off,rfl,fun i hi=>?_⟩
 rw [x8u hs i hi]
 exact hcell i (by rw [z6e] at hi;exact hi)
theorem z7s {zs ys:List Nat} {j:Nat} (hj:j+ys.length≤zs.length):z2m zs ys j↔(zs.drop j).take ys.length=ys:=by
 constructor
 ·intro h
  refine y1x (by simp;omega) fun i hi=>?_
  have hi':i<ys.length:=by simp at hi;omega
  rw [z1f _ _ _ _ hi']
  exact h i hi'
 ·intro h i hi
  rw [←z1f zs j ys.length i hi,h]
theorem x0e {zs ys:List Nat} {j:Nat} (hj:j+ys.length≤zs.length) (h:z2m zs ys j):RK.win (sb zs).data.toList j ys.length=(sb ys).data.toList:=by
 rw [x0d,x0d]
 unfold RK.win
 rw [←List.map_drop,←List.map_take,(z7s hj).1 h]
end T6
namespace T6
open Go.RowKit Go.Lib
attribute [local go_sem ↓] wp_at_zero wp_at_succ
theorem y4w {B:Nat} {w:World} {v:Value} {zs:List Nat} (h:z0m B w v zs) (hs:∀z∈zs,z<256) (q:Nat):(convert 22 9 v).run Tryz.prog (w.drewN q)=.ok (.string (sb zs)) (w.drewN q):=y3l (h.reads.stays ⟨rfl,rfl,rfl,Nat.le_refl _,fun _ _=>rfl⟩) hs
theorem x6t (zs ys:List Nat) (b off c b2 off2 c2 B:Nat) (w:World) (hr:z0m B w (.slice (some ⟨b,off,none⟩) zs.length c) zs) (hr2:z0m B w (.slice (some ⟨b2,off2,none⟩) ys.length c2) ys) (hz:∀z∈zs,z<256) (hy:∀z∈ys,z<256)
  (h1:1≤ys.length) (h2:ys.length<zs.length) (hl:zs.length≤140737488355328) (hcap:zs.length≤c) :
  Calls Tryz.prog 151 #[.slice (some ⟨b,off,none⟩) zs.length c,.slice (some ⟨b2,off2,none⟩) ys.length c2] w fun e w'=>∃r:Int,e=.returned (.int .i64 r)∧z1p zs ys (zs.length-ys.length+1) r∧∃q,w'=w.drewN q:=by
 obtain ⟨_,_,e1,hB1⟩:=x1v hr hz (by omega)
 injection e1 with e1
 injection e1 with e1 e1'
 subst e1 e1'
 obtain ⟨_,_,e2,hB2⟩:=x1v hr2 hy (by omega)
 injection e2 with e2
 injection e2 with e2 e2'
 subst e2 e2'
 have HC:=qz (x2z b2 off2 c2 (sb ys) (by rw [z6e];omega) w hB2)
 rw [z6e] at HC
 obtain ⟨hh,Hh⟩:∃hh:Int,hh=RK.H (sb ys).data.toList.reverse%4294967296:=⟨_,rfl⟩
 obtain ⟨pw,Hp⟩:∃pw:Int,pw=16777619^ys.length%4294967296:=⟨_,rfl⟩
 rw [←Hh,←Hp] at HC
 have HH:=qz Hh
 have HP:=qz Hp
 have HBY:=qz hB1
 have hcy:=y4w hr2 hy
 have HRS:=qz hr
 have HZ:=qz hz
 have HY:=qz hy
 have HSB:=qz (z6e zs)
 obtain ⟨n,hn⟩:∃n,n=zs.length:=⟨_,rfl⟩
 obtain ⟨m,hm⟩:∃m,m=ys.length:=⟨_,rfl⟩
 rw [←hn] at h2 hl hcap HRS HSB ⊢
 rw [←hm] at h1 h2 HC HP hcy ⊢
 have HN:=qz hn
 have HM:=qz hm
 obtain ⟨last,hlast⟩:∃last:Nat,(n:Int)-(m:Int)=(last:Int):=⟨n-m,by omega⟩
 have hlm:last+m=n:=by omega
 have HLM:=qz hlm
 rw [show n-m+1=last+1 by omega]
 have hlast0:0<last:=by omega
 clear hn hm hB1 hB2 hr hr2 hz hy Hh Hp hlm
 -- at a place: the strings are one just where the piece stands
 have HEQ:Hid (∀j,j≤last→(z2m zs ys j∧((sb ((zs.drop j).take m)).toList == (sb ys).toList)=true)∨(¬z2m zs ys j∧((sb ((zs.drop j).take m)).toList == (sb ys).toList)=false)):=qz fun j hj=>by
  have hjl:j+ys.length≤zs.length:=by rw [←uh HM,←uh HN];have:=uh HLM;omega
  have hs:=z7s (ys:=ys) hjl
  by_cases h:z2m zs ys j
  ·refine .inl ⟨h,?_⟩
   rw [uh HM,hs.1 h]
   simp
  ·refine .inr ⟨h,?_⟩
   have:(sb ((zs.drop j).take m)).toList≠(sb ys).toList:=fun e=>h (hs.2 (by
    rw [←uh HM]
    refine x8v (fun z hz=>uh HZ z (List.mem_of_mem_drop (List.mem_of_mem_take hz))) (uh HY) ?_
    rw [ByteArray.toList_eq,ByteArray.toList_eq] at e
    apply ByteArray.ext
    exact Array.toList_inj.1 e))
   simpa using this
 have HCV:Hid (∀j,j≤last→0<m→∀cc,m≤cc→∀q,(convert 22 9 (.slice (some ⟨b,off+j,none⟩) m cc)).run Tryz.prog (w.drewN q)=.ok (.string (sb ((zs.drop j).take m))) (w.drewN q)):=qz fun j hj h0 cc hcc q=>by
  have h3:=uh HRS
  rw [uh HN] at h3
  exact y4w (h3.sub rfl j m cc (by rw [←uh HN];have:=uh HLM;omega) hcc) (fun z hz=>uh HZ z (List.mem_of_mem_drop (List.mem_of_mem_take hz))) q
 have HNOH:Hid (∀j g,j≤last→g=RK.H (RK.win (sb zs).data.toList j m).reverse%4294967296→¬g=hh→¬z2m zs ys j):=qz fun j g hj hg hne hs=>hne (by
  have:=x0e (ys:=ys) (by rw [←uh HM,←uh HN];have:=uh HLM;omega) hs
  rw [uh HM] at hg
  rw [hg,uh HH,this])
 go_enter Tryz.func151,Tryz.ntmps151
 go_upto_region 2 with (go_at_call 165;go_must (refine (uh HC).mono ?_;rintro e w' ⟨rfl,hww⟩;replace hww:=hww.symm;subst hww))
 clear HC
 go_wp2_with fail
 go_loopg [9,10] n (fun gk vh vi ws=>∃ (k:Nat) (h:Int),k=gk∧last≤k∧k≤n∧vi=.int .i64 ((k:Int)-1)∧vh=.int .u32 h∧Hid (h=RK.H ((sb zs).data.toList.drop k).reverse%4294967296)∧w=ws)
 case atStart=>exact ⟨n,0,rfl,by omega,Nat.le_refl _,rfl,rfl,qz (by rw [List.drop_of_length_le (by rw [←uh HSB];simp)];rfl),rfl⟩
 case round =>
  obtain ⟨k,h,rfl,hk1,hk,rfl,rfl,hk2,rfl⟩:=hrel
  by_cases hgo:last<k
  ·obtain ⟨K,hK⟩:∃K:Nat,(k:Int)-1=(K:Int):=⟨k-1,by omega⟩
   have hK0:K<(sb zs).size:=by rw [uh HSB];omega
   have c1:=uh HBY K hK0
   have HST:=qz (x1q (sb zs) K hK0 (h:=h) (by have:=uh hk2;rw [show k=K+1 by omega] at this;exact this))
   have hKn:K<n:=by omega
   have hlK:(last:Int)≤(K:Int):=by omega
   have hlK2:last≤K:=by omega
   have hKk:K<k:=by omega
   clear hk2
   go_wp2_with fail
   go_roundg K
   case measure=>omega
   case rel=>exact ⟨K,_,rfl,by omega,by omega,rfl,rfl,HST,rfl⟩
  ·have hkl:k=last:=by omega
   have hni:¬ (last:Int)≤(k:Int)-1:=by omega
   have HW:Hid (h=RK.H (RK.win (sb zs).data.toList last m).reverse%4294967296):=qz (by
    have:=uh hk2
    rw [hkl] at this
    rwa [show (sb zs).data.toList.drop last=RK.win (sb zs).data.toList last m from (List.take_of_length_le (by rw [List.length_drop,x0d,List.length_map,←uh HN];have:=uh HLM;omega)).symm] at this)
   clear hk2
   have hcl:=uh HCV last (Nat.le_refl _) (by omega) (c-last) (by have:=uh HLM;omega)
   have HEL:=uh HEQ last (Nat.le_refl _)
   have hnl:n-last=m:=by have:=uh HLM;omega
   have hlc:¬c-last=0:=by have:=uh HLM;omega
   have hlc2:last≤n:=by have:=uh HLM;omega
   rcases HEL with ⟨hst,hbe⟩|⟨hst,hbe⟩
   ·have ehh:h=hh:=by
     refine Classical.byContradiction fun hne=>?_
     exact uh HNOH last h (Nat.le_refl _) (uh HW) hne hst
    have ehb:(h == hh)=true:=by simp [ehh]
    have HE:=qz (z1p.hit hst)
    clear hst HW ehh
    go_wp2_with fail
    go_quiet (fail)
    go_wp2_with fail
    go_ret
    exact ⟨_,rfl,uh HE,nq,rfl⟩
   ·have HNS:=qz hst
    by_cases ehh:h=hh
    ·have ehb:(h == hh)=true:=by simp [ehh]
     clear hst ehh
     go_wp2_with fail
     go_quiet (fail)
     go_wp2_with fail
     go_loopg [9,11] last (fun gk vh vi ws=>∃ (j q:Nat) (g:Int),j=gk∧j≤last∧vi=.int .i64 ((j:Int)-1)∧vh=.int .u32 g∧Hid (g=RK.H (RK.win (sb zs).data.toList j m).reverse%4294967296)∧Hid (∀i,j≤i→i≤last→¬z2m zs ys i)∧ws=w.drewN q)
     case atStart=>exact ⟨last,_,_,rfl,Nat.le_refl _,rfl,rfl,HW,qz fun i a b=>by (obtain rfl:i=last:=by omega);exact uh HNS,rfl⟩
     case round =>
      obtain ⟨j,q,g,rfl,hj,rfl,rfl,hg,hno,rfl⟩:=hrel
      by_cases hj1:1≤j
      ·obtain ⟨J,hJ⟩:∃J:Nat,(j:Int)-1=(J:Int):=⟨j-1,by omega⟩
       obtain ⟨JM,hJM⟩:∃JM:Nat,(J:Int)+(m:Int)=(JM:Int):=⟨J+m,by omega⟩
       have hJn:J<n:=by have:=uh HLM;omega
       have hJMn:JM<n:=by have:=uh HLM;omega
       have hJ0:J<(sb zs).size:=by rw [uh HSB];omega
       have hJM0:J+m<(sb zs).size:=by rw [uh HSB];omega
       have c1:=uh HBY J hJ0
       have d2:=uh HBY (J+m) hJM0
       have HROLL:=qz (LastIndex.rollrev_step (sb zs) m J h1 (by rw [uh HSB];omega) (h:=g) (by have:=uh hg;rw [show j=J+1 by omega] at this;exact this) (uh HP))
       obtain ⟨x1,hx1⟩:∃x,x=((sb zs)[J]).toNat:=⟨_,rfl⟩
       obtain ⟨x2,hx2⟩:∃x,x=((sb zs)[J+m]).toNat:=⟨_,rfl⟩
       rw [←hx1] at c1 HROLL
       rw [←hx2] at d2 HROLL
       rw [show off+(J+m)=off+JM by omega] at d2
       have hjJ:j=J+1:=by omega
       have HJJ:=qz hjJ
       have hJj:J<j:=by omega
       have hJl:J≤last:=by omega
       have hcJ:=uh HCV J hJl (by omega) (c-J) (by have:=uh HLM;omega)
       have HEJ:=qz (uh HEQ J hJl)
       have hJc:¬c-J=0:=by have:=uh HLM;omega
       have hJM1:JM≤c:=by omega
       have hJMJ:JM-J=m:=by omega
       clear hg hx1 hx2 hjJ
       go_upto_region 17 with fail
       obtain ⟨g2,hg2⟩:∃g2:Int,g2=(((g*16777619+(x1:Int))%4294967296-pw*((x2:Int)%4294967296)%4294967296)%4294967296):=⟨_,rfl⟩
       rw [←hg2]
       have HW2:Hid (g2=RK.H (RK.win (sb zs).data.toList J m).reverse%4294967296):=qz (by rw [hg2,←Int.sub_emod];exact uh HROLL)
       clear hg2 HROLL c1 d2
       rcases uh HEJ with ⟨hstJ,hbJ⟩|⟨hstJ,hbJ⟩
       ·have ehh2:g2=hh:=by
         refine Classical.byContradiction fun hne=>?_
         exact uh HNOH J g2 hJl (uh HW2) hne hstJ
        have ehb2:(g2 == hh)=true:=by simp [ehh2]
        have HE:Hid (z1p zs ys (last+1) (J:Int)):=qz ((z1p.hit hstJ).up (by omega) (fun i a b=>uh hno i (by have:=uh HJJ;omega) (by omega)))
        clear hstJ HW2 ehh2 hno
        go_quiet (fail)
        go_wp2_with fail
        go_ret
        exact ⟨_,rfl,by rw [hJ];exact uh HE,q+nq,by first|rfl|(rw [World.drewN_drewN])⟩
       ·have HNO2:Hid (∀i,J≤i→i≤last→¬z2m zs ys i):=qz fun i a b=>by
         by_cases e:i=J
         ·subst e;exact hstJ
         ·exact uh hno i (by have:=uh HJJ;omega) b
        by_cases ehh2:g2=hh
        ·have ehb2:(g2 == hh)=true:=by simp [ehh2]
         clear hstJ ehh2 hno
         go_quiet (fail)
         go_wp2_with fail
         go_roundg J
         case measure=>omega
         case rel=>exact ⟨J,q+nq,_,rfl,by omega,rfl,rfl,HW2,HNO2,by first|rfl|(rw [World.drewN_drewN])⟩
        ·have ehb2:(g2 == hh)=false:=by simp [ehh2]
         clear hstJ ehh2 hno
         go_quiet (fail)
         go_wp2_with fail
         go_roundg J
         case measure=>omega
         case rel=>exact ⟨J,q+nq,_,rfl,by omega,rfl,rfl,HW2,HNO2,by first|rfl|(rw [World.drewN_drewN])⟩
      ·obtain rfl:j=0:=by omega
       have HE:Hid (z1p zs ys (last+1) (-1)):=qz (.inl ⟨rfl,fun i hi=>uh hno i (Nat.zero_le _) (by omega)⟩)
       clear hno hg
       go_wp2_with fail
       go_ret
       exact ⟨_,rfl,uh HE,q,rfl⟩
    ·have ehb:(h == hh)=false:=by simp [ehh]
     clear hst ehh
     go_wp2_with fail
     go_quiet (fail)
     go_wp2_with fail
     go_loopg [9,11] last (fun gk vh vi ws=>∃ (j q:Nat) (g:Int),j=gk∧j≤last∧vi=.int .i64 ((j:Int)-1)∧vh=.int .u32 g∧Hid (g=RK.H (RK.win (sb zs).data.toList j m).reverse%4294967296)∧Hid (∀i,j≤i→i≤last→¬z2m zs ys i)∧ws=w.drewN q)
     case atStart=>exact ⟨last,_,_,rfl,Nat.le_refl _,rfl,rfl,HW,qz fun i a b=>by (obtain rfl:i=last:=by omega);exact uh HNS,rfl⟩
     case round =>
      obtain ⟨j,q,g,rfl,hj,rfl,rfl,hg,hno,rfl⟩:=hrel
      by_cases hj1:1≤j
      ·obtain ⟨J,hJ⟩:∃J:Nat,(j:Int)-1=(J:Int):=⟨j-1,by omega⟩
       obtain ⟨JM,hJM⟩:∃JM:Nat,(J:Int)+(m:Int)=(JM:Int):=⟨J+m,by omega⟩
       have hJn:J<n:=by have:=uh HLM;omega
       have hJMn:JM<n:=by have:=uh HLM;omega
       have hJ0:J<(sb zs).size:=by rw [uh HSB];omega
       have hJM0:J+m<(sb zs).size:=by rw [uh HSB];omega
       have c1:=uh HBY J hJ0
       have d2:=uh HBY (J+m) hJM0
       have HROLL:=qz (LastIndex.rollrev_step (sb zs) m J h1 (by rw [uh HSB];omega) (h:=g) (by have:=uh hg;rw [show j=J+1 by omega] at this;exact this) (uh HP))
       obtain ⟨x1,hx1⟩:∃x,x=((sb zs)[J]).toNat:=⟨_,rfl⟩
       obtain ⟨x2,hx2⟩:∃x,x=((sb zs)[J+m]).toNat:=⟨_,rfl⟩
       rw [←hx1] at c1 HROLL
       rw [←hx2] at d2 HROLL
       rw [show off+(J+m)=off+JM by omega] at d2
       have hjJ:j=J+1:=by omega
       have HJJ:=qz hjJ
       have hJj:J<j:=by omega
       have hJl:J≤last:=by omega
       have hcJ:=uh HCV J hJl (by omega) (c-J) (by have:=uh HLM;omega)
       have HEJ:=qz (uh HEQ J hJl)
       have hJc:¬c-J=0:=by have:=uh HLM;omega
       have hJM1:JM≤c:=by omega
       have hJMJ:JM-J=m:=by omega
       clear hg hx1 hx2 hjJ
       go_upto_region 17 with fail
       obtain ⟨g2,hg2⟩:∃g2:Int,g2=(((g*16777619+(x1:Int))%4294967296-pw*((x2:Int)%4294967296)%4294967296)%4294967296):=⟨_,rfl⟩
       rw [←hg2]
       have HW2:Hid (g2=RK.H (RK.win (sb zs).data.toList J m).reverse%4294967296):=qz (by rw [hg2,←Int.sub_emod];exact uh HROLL)
       clear hg2 HROLL c1 d2
       rcases uh HEJ with ⟨hstJ,hbJ⟩|⟨hstJ,hbJ⟩
       ·have ehh2:g2=hh:=by
         refine Classical.byContradiction fun hne=>?_
         exact uh HNOH J g2 hJl (uh HW2) hne hstJ
        have ehb2:(g2 == hh)=true:=by simp [ehh2]
        have HE:Hid (z1p zs ys (last+1) (J:Int)):=qz ((z1p.hit hstJ).up (by omega) (fun i a b=>uh hno i (by have:=uh HJJ;omega) (by omega)))
        clear hstJ HW2 ehh2 hno
        go_quiet (fail)
        go_wp2_with fail
        go_ret
        exact ⟨_,rfl,by rw [hJ];exact uh HE,q+nq,by first|rfl|(rw [World.drewN_drewN])⟩
       ·have HNO2:Hid (∀i,J≤i→i≤last→¬z2m zs ys i):=qz fun i a b=>by
         by_cases e:i=J
         ·subst e;exact hstJ
         ·exact uh hno i (by have:=uh HJJ;omega) b
        by_cases ehh2:g2=hh
        ·have ehb2:(g2 == hh)=true:=by simp [ehh2]
         clear hstJ ehh2 hno
         go_quiet (fail)
         go_wp2_with fail
         go_roundg J
         case measure=>omega
         case rel=>exact ⟨J,q+nq,_,rfl,by omega,rfl,rfl,HW2,HNO2,by first|rfl|(rw [World.drewN_drewN])⟩
        ·have ehb2:(g2 == hh)=false:=by simp [ehh2]
         clear hstJ ehh2 hno
         go_quiet (fail)
         go_wp2_with fail
         go_roundg J
         case measure=>omega
         case rel=>exact ⟨J,q+nq,_,rfl,by omega,rfl,rfl,HW2,HNO2,by first|rfl|(rw [World.drewN_drewN])⟩
      ·obtain rfl:j=0:=by omega
       have HE:Hid (z1p zs ys (last+1) (-1)):=qz (.inl ⟨rfl,fun i hi=>uh hno i (Nat.zero_le _) (by omega)⟩)
       clear hno hg
       go_wp2_with fail
       go_ret
       exact ⟨_,rfl,uh HE,q,rfl⟩
end T6
namespace T6
open Go.RowKit Go.Lib
attribute [local go_sem ↓] wp_at_zero wp_at_succ
theorem w0r (zs ys:List Nat) (v u:Value) (B:Nat) (w:World) (h1:z0m B w v zs) (h2:z0m B w u ys) (hz:∀z∈zs,z<256) (hy:∀z∈ys,z<256) :
  Calls Tryz.prog 146 #[v,u] w fun e w'=>(e=.returned (.bool true)∧zs=ys∨e=.returned (.bool false)∧zs≠ys)∧∃q,w'=w.drewN q:=by
 have c1:=y4w h1 hz
 have c2:=y4w h2 hy
 have HI:Hid (sb zs=sb ys→zs=ys):=qz (x8v hz hy)
 clear h1 h2 hz hy
 by_cases h:zs=ys
 ·have e1:((sb zs).toList == (sb ys).toList)=true:=by rw [h];simp
  have c1':=c1 0
  have c2':=c2 0
  rw [World.drewN_zero] at c1' c2'
  go_enter Tryz.func146,Tryz.ntmps146
  go_wp2_with fail
  go_ret
  exact ⟨.inl ⟨rfl,h⟩,0,rfl⟩
 ·have e1:((sb zs).toList == (sb ys).toList)=false:=by
   have:(sb zs).toList≠(sb ys).toList:=fun e=>h (uh HI (by
    rw [ByteArray.toList_eq,ByteArray.toList_eq] at e
    apply ByteArray.ext
    exact Array.toList_inj.1 e))
   simpa using this
  have c1':=c1 0
  have c2':=c2 0
  rw [World.drewN_zero] at c1' c2'
  go_enter Tryz.func146,Tryz.ntmps146
  go_wp2_with fail
  go_ret
  exact ⟨.inr ⟨rfl,h⟩,0,rfl⟩
theorem w1d (zs ys:List Nat) (b off c b2 off2 c2 B:Nat) (w:World) (hr:z0m B w (.slice (some ⟨b,off,none⟩) zs.length c) zs) (hr2:z0m B w (.slice (some ⟨b2,off2,none⟩) ys.length c2) ys) (hz:∀z∈zs,z<256) (hy:∀z∈ys,z<256)
  (h1:1≤ys.length) (h2:ys.length≤zs.length) (hl:zs.length≤140737488355328) (hcap:zs.length≤c) :
  Calls Tryz.prog 124 #[.slice (some ⟨b,off,none⟩) zs.length c,.slice (some ⟨b2,off2,none⟩) ys.length c2] w fun e w'=>∃r:Int,e=.returned (.int .i64 r)∧z1p zs ys (zs.length-ys.length+1) r∧∃q,w'=w.drewN q:=by
 have HE:=qz (w0r zs ys _ _ B w hr hr2 hz hy)
 have HRK:Hid (ys.length<zs.length→Calls Tryz.prog 151 #[.slice (some ⟨b,off,none⟩) zs.length c,.slice (some ⟨b2,off2,none⟩) ys.length c2] w fun e w'=>∃r:Int,e=.returned (.int .i64 r)∧z1p zs ys (zs.length-ys.length+1) r∧∃q,w'=w.drewN q):=qz fun h=>x6t zs ys b off c b2 off2 c2 B w hr hr2 hz hy h1 h hl hcap
 have HLB:=qz fun x=>y9h zs (some ⟨b,off,none⟩) c B x w hr hl
 have k1:w.cell? ⟨b2,off2,none⟩=some (.int .u8 (ys.getD 0 0:Int)):=by
  obtain ⟨a',c',e,_,hs⟩:=hr2
  injection e with e1 e2 e3
  subst e1
  obtain ⟨_,_,e,_,hc⟩:=hs (by omega)
  injection e with e
  injection e with e1 e2
  subst e1 e2
  have:=hc 0 (by omega)
  rw [Nat.add_zero] at this
  exact this
 have HONE:Hid (ys.length=1→ys=[ys.getD 0 0]):=qz fun h=>by
  obtain ⟨x,rfl⟩:=List.length_eq_one_iff.1 h
  rfl
 have HST:Hid (ys.length=zs.length→(z2m zs ys 0↔zs=ys)):=qz fun h=>by
  rw [z7s (by omega),List.drop_zero,List.take_of_length_le (by omega)]
 clear hr hr2 hz hy
 obtain ⟨n,hn⟩:∃n,n=zs.length:=⟨_,rfl⟩
 obtain ⟨m,hm⟩:∃m,m=ys.length:=⟨_,rfl⟩
 rw [←hn] at HE HRK HLB HST h2 hl hcap ⊢
 rw [←hm] at HE HRK HST HONE h1 h2 ⊢
 clear hn hm
 have hm0:((m:Int) == 0)=false:=by simp;omega
 obtain ⟨y,hy⟩:∃y,y=ys.getD 0 0:=⟨_,rfl⟩
 rw [←hy] at k1 HONE
 clear hy
 by_cases hm1:m=1
 ·subst hm1
  have HLY:=qz (uh HLB y)
  have hys:=uh HONE rfl
  have HYS:=qz hys
  clear HLB HRK HE hys
  go_enter Tryz.func124,Tryz.ntmps124
  go_wp2_with (go_at_call 150;go_must (refine (uh HLY).mono ?_;rintro e w' ⟨r,rfl,hr,hww⟩;replace hww:=hww.symm;subst hww;have HR2:=qz hr;clear hr))
  go_ret
  exact ⟨r,rfl,by rw [uh HYS,show n-1+1=n by omega];exact uh HR2,0,rfl⟩
 ·have e1:((m:Int) == 1)=false:=by simp;omega
  by_cases hmn:m=n
  ·subst hmn
   have e2:((m:Int) == (m:Int))=true:=by simp
   have HS0:=qz (uh HST rfl)
   clear HLB HRK
   go_enter Tryz.func124,Tryz.ntmps124
   go_wp2_with fail
   refine (uh HE).mono ?_
   rintro e w' ⟨⟨rfl,heq⟩|⟨rfl,heq⟩,q,rfl⟩
   ·have HF:Hid (z1p zs ys (m-m+1) 0):=qz (by rw [Nat.sub_self];exact z1p.hit ((uh HS0).2 heq))
    go_wp2_with fail
    go_ret
    exact ⟨_,rfl,uh HF,q,rfl⟩
   ·have HF:Hid (z1p zs ys (m-m+1) (-1)):=qz (.inl ⟨rfl,fun j hj h=>by
     obtain rfl:j=0:=by omega
     exact heq ((uh HS0).1 h)⟩)
    go_wp2_with fail
    go_ret
    exact ⟨_,rfl,uh HF,q,rfl⟩
  ·have e2:((m:Int) == (n:Int))=false:=by simp;omega
   have e2':(m == n)=false:=by simp [hmn]
   have e3:¬ (n:Int)<(m:Int):=by omega
   have HC:=qz (uh HRK (by omega))
   clear HLB HRK HE
   go_enter Tryz.func124,Tryz.ntmps124
   go_wp2_with fail
   refine (uh HC).mono ?_
   rintro e w' ⟨r,rfl,hr,q,rfl⟩
   have HR2:=qz hr
   clear hr
   go_wp2_with fail
   go_ret
   exact ⟨r,rfl,uh HR2,q,rfl⟩
end T6
end Go.Proofs.YtabeanealkopbaaGreat
section
namespace Go.Proofs
open Go.Shelf
def Tryz.laysM185_ren:Go.Shelf.Ren:=⟨fun|185=>122|187=>145|115=>146|253=>147|224=>148|254=>149|255=>163|291=>164|n=>n,fun|37=>22|3=>3|4=>4|0=>0|5=>5|46=>91|9=>9|146=>156|51=>128|n=>n,fun|1=>0|n=>n⟩
theorem Tryz.laysM185:Go.Proofs.LaysM.n185 Tryz.prog Tryz.laysM185_ren:={
 mixed:=by kernel_rfl
 f115:=Tryz.func146.trans (congrArg some (by kernel_rfl))
 f185:=Tryz.func122.trans (congrArg some (by kernel_rfl))
 f187:=Tryz.func145.trans (congrArg some (by kernel_rfl))
 f224:=Tryz.func148.trans (congrArg some (by kernel_rfl))
 f253:=Tryz.func147.trans (congrArg some (by kernel_rfl))
 f254:=Tryz.func149.trans (congrArg some (by kernel_rfl))
 f255:=Tryz.func163.trans (congrArg some (by kernel_rfl))
 f291:=Tryz.func164.trans (congrArg some (by kernel_rfl))
 t0:=Tryz.underlying0
 a0:=Tryz.isAgg0
 z0:=Tryz.sizeOf0
 v0:=Tryz.zeroValue0
 t3:=Tryz.underlying3
 a3:=Tryz.isAgg3
 z3:=Tryz.sizeOf3
 v3:=Tryz.zeroValue3
 t4:=Tryz.underlying4
 a4:=Tryz.isAgg4
 z4:=Tryz.sizeOf4
 v4:=Tryz.zeroValue4
 t5:=Tryz.underlying5
 a5:=Tryz.isAgg5
 z5:=Tryz.sizeOf5
 v5:=Tryz.zeroValue5
 t9:=Tryz.underlying9
 a9:=Tryz.isAgg9
 z9:=Tryz.sizeOf9
 v9:=Tryz.zeroValue9
 t37:=Tryz.underlying22
 a37:=Tryz.isAgg22
 z37:=Tryz.sizeOf22
 v37:=Tryz.zeroValue22
 t46:=Tryz.underlying91
 a46:=Tryz.isAgg91
 z46:=Tryz.sizeOf91
 v46:=Tryz.zeroValue91
 t51:=Tryz.underlying128
 a51:=Tryz.isAgg128
 z51:=Tryz.sizeOf128
 v51:=Tryz.zeroValue128
 t146:=Tryz.underlying156
 a146:=Tryz.isAgg156
 z146:=Tryz.sizeOf156
 v146:=Tryz.zeroValue156
 g1:=by kernel_rfl
 i0:=by kernel_rfl
 i3:=by kernel_rfl
 i4:=by kernel_rfl
 i5:=by kernel_rfl
 i9:=by kernel_rfl
 i37:=by kernel_rfl
 i46:=by kernel_rfl
 i51:=by kernel_rfl
 i146:=by kernel_rfl
 m1:=by kernel_rfl
 s1_3:=fun w h=>Go.Proofs.cell_of_shapedOpen_int (zero:=#[.int .i64 0]) (t:=3) h (of_decide_eq_true (by kernel_rfl)) (by kernel_rfl) rfl (by kernel_rfl) (by kernel_rfl) Tryz.underlying3 }
end Go.Proofs
end
namespace Go.Proofs.YtabeanealkopbaaGreat
namespace T6
open Go.RowKit Go.Lib
def ML (w:World):Prop:=∃m:Int,w.cell? ⟨0,0,none⟩=some (.int .i64 m)
theorem ML.stays {w w1:World} (hb:Below w.heap.size w w1) (h:ML w):ML w1:=by
 obtain ⟨m,h⟩:=h
 exact ⟨m,z0a hb h⟩
theorem ML.drewN {w:World} (q:Nat) (h:ML w):ML (w.drewN q):=h
def z9l (zs ys:List Nat) (r:Int):Prop:=(r = -1∧∀j,j+ys.length≤zs.length→¬z2m zs ys j)∨∃j:Nat,r=(j:Int)∧j+ys.length≤zs.length∧z2m zs ys j∧∀j',j'<j→¬z2m zs ys j'
theorem y0a {zs ys:List Nat} (hz:∀z∈zs,z<256) (hy:∀z∈ys,z<256) {j:Nat} (hj:j+ys.length≤zs.length):occAt (zs.map UInt8.ofNat) (ys.map UInt8.ofNat) j=true↔z2m zs ys j:=by
 rw [RK.occAt_win _ _ _ (by simpa using hj),z7s hj]
 unfold RK.win
 rw [List.length_map,←List.map_drop,←List.map_take]
 constructor
 ·intro h
  have h1:((zs.drop j).take ys.length).map UInt8.ofNat=ys.map UInt8.ofNat:=by simpa using h
  refine x8v (fun z hz'=>hz z (List.mem_of_mem_drop (List.mem_of_mem_take hz'))) hy ?_
  unfold sb
  rw [h1]
 ·intro h
  rw [h]
  simp
theorem x7n {s sub:List UInt8} {j:Nat} (h:occAt s sub j=true):sub.length≤s.length-j:=by
 unfold occAt at h
 have:=List.isPrefixOf_iff_prefix.1 h
 have:=this.length_le
 simpa using this
theorem y4z {zs ys:List Nat} (hz:∀z∈zs,z<256) (hy:∀z∈ys,z<256) (h1:1≤ys.length):z9l zs ys (index (zs.map UInt8.ofNat) (ys.map UInt8.ofNat)):=by
 rcases index_spec (zs.map UInt8.ofNat) (ys.map UInt8.ofNat) with ⟨e,hn⟩|⟨i,e,hi,ho,hno⟩
 ·refine .inl ⟨e,fun j hj hs=>?_⟩
  have:=hn j (by simp;omega)
  rw [(y0a hz hy hj).2 hs] at this
  cases this
 ·have hl:=x7n ho
  simp at hl hi
  have hil:i+ys.length≤zs.length:=by omega
  refine .inr ⟨i,e,hil,(y0a hz hy hil).1 ho,fun j' hj hs=>?_⟩
  have:=hno j' hj
  rw [(y0a hz hy (by omega)).2 hs] at this
  cases this
theorem y0h (zs:List Nat):bytesOf (zs.map Int.ofNat)=zs.map UInt8.ofNat:=by
 unfold bytesOf
 rw [List.map_map]
 rfl
theorem w0y (zs ys:List Nat) (b off c b2 off2 c2 B:Nat) (w:World) (hr:z0m B w (.slice (some ⟨b,off,none⟩) zs.length c) zs) (hr2:z0m B w (.slice (some ⟨b2,off2,none⟩) ys.length c2) ys) (hz:∀z∈zs,z<256) (hy:∀z∈ys,z<256)
  (h1:1≤ys.length) (hl:zs.length<4294967281) (hly:ys.length≤140737488355328) (hcap:zs.length≤c) (hm:ML w) :
  Calls Tryz.prog 122 #[.slice (some ⟨b,off,none⟩) zs.length c,.slice (some ⟨b2,off2,none⟩) ys.length c2] w fun e w'=>∃r:Int,e=.returned (.int .i64 r)∧z9l zs ys r∧∃q,w'=w.drewN q:=by
 obtain ⟨m,hm⟩:=hm
 have hcell:∀{zs:List Nat} {b off c:Nat},z0m B w (.slice (some ⟨b,off,none⟩) zs.length c) zs→∀i,i<zs.length→w.cell? ((⟨b,off,none⟩:Addr).add i)=some (.int .u8 ((zs.map Int.ofNat).getD i 0)):=fun {zs b off c} h i hi=>by
  obtain ⟨a',c',e,_,hs⟩:=h
  injection e with e1 e2 e3
  subst e1
  obtain ⟨_,_,e,_,hc⟩:=hs (by omega)
  injection e with e
  injection e with e1 e2
  subst e1 e2
  have ea:(⟨b,off,none⟩:Addr).add i=⟨b,off+i,none⟩:=by by_cases hq:i=0<;>simp [Addr.add,hq]
  rw [ea,hc i hi]
  simp [hi]
 have hr':∀{zs:List Nat},(∀z∈zs,z<256)→∀x∈zs.map Int.ofNat,0≤x∧x<256:=fun {zs} h x hx=>by
  obtain ⟨z,hz,rfl⟩:=List.mem_map.1 hx
  have:=h z hz
  simp
  omega
 refine (Any.bytes_Index_at { Tryz.laysM185 with } ⟨b,off,none⟩ ⟨b2,off2,none⟩ zs.length c ys.length c2 (zs.map Int.ofNat) (ys.map Int.ofNat) m w (by simp) (by simp) (hr' hz) (hr' hy) (hcell hr) (hcell hr2) hcap hl (by omega) hm).mono ?_
 rintro e w' ⟨rfl,hq⟩
 refine ⟨_,rfl,?_,hq⟩
 rw [y0h,y0h]
 exact y4z hz hy h1
end T6
end Go.Proofs.YtabeanealkopbaaGreat
