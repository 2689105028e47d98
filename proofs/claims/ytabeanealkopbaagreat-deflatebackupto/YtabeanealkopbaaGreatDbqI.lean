/- Texts of one proof, one behind the other: L5Sort, L5Order, L5Come, L5Play, L5Backward, L5Taken, L5TakeI, L5Take, L5Cost, L5Who, L5Lens, Tl, Ct, Cnt, Run, Wds, Grw, Con, Inl. -/
import Derived.Test.YtabeanealkopbaaGreatDbqH
import Derived.Lib.AppendZerosOnto
import Derived.Lib.AppendZeros
import Derived.Laws.Append

set_option linter.unusedVariables false
set_option maxRecDepth 100000
set_option maxHeartbeats 24000000
namespace Go.Proofs.YtabeanealkopbaaGreat
namespace L5
open Go.RowKit Go.Sort Go.Lib
attribute [local go_sem ↓] wp_at_zero wp_at_succ
section
variable {P:Program} {md:Region.Mode} {ops:Array Oper} {Q:Exit→Act→World→Prop} {S S':World→Prop}
theorem held_value {o:Oper} {v:Value} {fuel:Nat} {listed:Array Bool} {l:List Value} {df:List Deferred} {w w':World} (i d:Nat) (hr:Region.ready md ops listed=[i]) (hi:ops[i]?=some o) (hd:o.dst=some d)
  (hw:Region.wanted o (yielded ops l.toArray)=true) (hrun:(execOp (Act.eval ⟨l.toArray,df⟩) o).run P w=.ok (.value v) w') (hS:S w')
  (h:wpAnyH P md ops Q S fuel (listed.setIfInBounds i true) ⟨(l.set d v).toArray,df⟩ w'):wpAnyH P md ops Q S (fuel+1) listed ⟨l.toArray,df⟩ w:=by
 refine wpAnyH_ready hr (by simp) (AllReadyH.cons hi (fun K hK=>?_) AllReadyH.nil)
 rw [if_pos hw]
 unfold Oper.wp
 rw [hrun,Oper.upon_value]
 have e:Act.put (⟨l.toArray,df⟩:Act) o.dst v=⟨(l.set d v).toArray,df⟩:=by rw [hd];simp [Act.put]
 rw [e]
 exact hK.out _ _ hS (fun _=>h)
end
theorem or_ok (g:Nat) (a b:Int) (w:World) (h0:w.cell? ⟨g,0,none⟩=some (.int .i64 a)) (h1:w.cell? ⟨g,1,none⟩=some (.int .i64 b)) :
  Calls Tryz.prog 168 #[.slice (some ⟨g,0,none⟩) 2 2] w fun e w'=>e=.returned (.int .i64 (if a=0 then b else a))∧w'=w:=by
 go_enter Tryz.func168,Tryz.ntmps168
 go_wp2_with fail
 go_loopg [8] 2 (fun gk d ws=>∃ (k:Nat),gk=2 - k∧k≤2∧(1≤k→a=0)∧(2≤k→b=0)∧d=.int .i64 (k:Int)∧ws=w)
 case atStart=>exact ⟨0,by omega,by omega,fun h=>by omega,fun h=>by omega,rfl,rfl⟩
 case round =>
  obtain ⟨k,rfl,hk,ka,kb,rfl,rfl⟩:=hrel
  obtain rfl | rfl | rfl:k=0∨k=1∨k=2:=by omega
  ·clear ka kb
   by_cases e:a=0
   ·have e1:(a != 0)=false:=by simp [e]
    go_wp2_with fail
    go_roundg (2 - 1)
    case measure=>omega
    case rel=>exact ⟨1,rfl,by omega,fun _=>e,fun h=>by omega,by go_num,rfl⟩
   ·have e1:(a != 0)=true:=by simp [e]
    go_wp2_with fail
    go_ret
    exact ⟨rfl,rfl⟩
  ·have ha:=ka (by omega)
   clear ka kb
   subst ha
   by_cases e:b=0
   ·have e1:(b != 0)=false:=by simp [e]
    go_wp2_with fail
    go_roundg (2 - 2)
    case measure=>omega
    case rel=>exact ⟨2,rfl,by omega,by simp,fun _=>e,by go_num,rfl⟩
   ·have e1:(b != 0)=true:=by simp [e]
    go_wp2_with fail
    go_ret
    exact ⟨rfl,rfl⟩
  ·have ha:=ka (by omega)
   have hb:=kb (by omega)
   clear ka kb
   subst ha hb
   go_wp2_with fail
   go_ret
   exact ⟨rfl,rfl⟩
theorem or_val (g:Nat) (a b r:Int) (w:World) (hr:r=if a=0 then b else a) (h0:w.cell? ⟨g,0,none⟩=some (.int .i64 a)) (h1:w.cell? ⟨g,1,none⟩=some (.int .i64 b)) :
  Calls Tryz.prog 168 #[.slice (some ⟨g,0,none⟩) 2 2] w fun e w'=>e=.returned (.int .i64 r)∧w'=w:=by
 subst hr;exact or_ok g a b w h0 h1
structure Four (p:Nat) (x0 x1 y0 y1:Int) (x:World):Prop where
 a:x.cell? ⟨p,0,none⟩=some (.int .i64 x0)
 b:x.cell? ⟨p,1,none⟩=some (.int .i64 x1)
 c:x.cell? ⟨p+1,0,none⟩=some (.int .i64 y0)
 d:x.cell? ⟨p+1,1,none⟩=some (.int .i64 y1)
theorem Four.alloc {p:Nat} {x0 x1 y0 y1:Int} {x:World} (h:Four p x0 x1 y0 y1 x) (o:Obj):Four p x0 x1 y0 y1 (x.alloc o) :=
 have b:Below x.heap.size x (x.alloc o):=(Below.refl _ _).alloc (Nat.le_refl _) o
 ⟨cell_stays b h.a,cell_stays b h.b,cell_stays b h.c,cell_stays b h.d⟩
theorem Four.drew {p:Nat} {x0 x1 y0 y1:Int} {x:World} (h:Four p x0 x1 y0 y1 x):Four p x0 x1 y0 y1 x.drew:=⟨h.a,h.b,h.c,h.d⟩
theorem cellA (w:World) (a b:Int):(w.alloc (.cells #[.int .i64 a,.int .i64 b] 3)).cell? ⟨w.heap.size,0,none⟩=some (.int .i64 a):=by
 simp only [World.cell?,heap_alloc_new];rfl
theorem cellB (w:World) (a b:Int):(w.alloc (.cells #[.int .i64 a,.int .i64 b] 3)).cell? ⟨w.heap.size,1,none⟩=some (.int .i64 b):=by
 simp only [World.cell?,heap_alloc_new];rfl
def cf (x y:Int × Int):Int:=if Lib.compareInt x.2 y.2=0 then Lib.compareInt x.1 y.1 else Lib.compareInt x.2 y.2
def encC (x:Int × Int):List Value:=[.int .i64 x.1,.int .i64 x.2]
theorem four_made (W:World) (x0 x1 y0 y1:Int):Four W.heap.size x0 x1 y0 y1 ((W.alloc (.cells #[.int .i64 x0,.int .i64 x1] 222)).alloc (.cells #[.int .i64 y0,.int .i64 y1] 222)):=by
 have b:Below (W.alloc (.cells #[.int .i64 x0,.int .i64 x1] 222)).heap.size (W.alloc (.cells #[.int .i64 x0,.int .i64 x1] 222)) ((W.alloc (.cells #[.int .i64 x0,.int .i64 x1] 222)).alloc (.cells #[.int .i64 y0,.int .i64 y1] 222)):=(Below.refl _ _).alloc (Nat.le_refl _) _
 refine ⟨cell_stays b ?_,cell_stays b ?_,?_,?_⟩
 ·simp only [World.cell?,heap_alloc_new];rfl
 ·simp only [World.cell?,heap_alloc_new];rfl
 ·rw [show W.heap.size+1=(W.alloc (.cells #[.int .i64 x0,.int .i64 x1] 222)).heap.size by simp]
  simp only [World.cell?,heap_alloc_new];rfl
 ·rw [show W.heap.size+1=(W.alloc (.cells #[.int .i64 x0,.int .i64 x1] 222)).heap.size by simp]
  simp only [World.cell?,heap_alloc_new];rfl
theorem drew_grow (W:World) (o1 o2 o3:Obj):∃ q os',(((W.alloc o1).alloc o2).drew.alloc o3)=grow (W.drewN q) os':=by
 refine ⟨1,#[o1]++#[o2]++#[o3],?_⟩
 rw [← grow_grow,← grow_grow,← alloc_eq_grow,← alloc_eq_grow,← alloc_eq_grow]
 rfl
theorem closure_walk (x0 x1 y0 y1 c1 c2 r:Int) (W:World) (hr:r=if c1=0 then c2 else c1) (hF1:∀ w:World,Calls Tryz.prog 169 #[.int .i64 x1,.int .i64 y1] w fun e w'=>e=.returned (.int .i64 c1)∧w'=w)
  (hF2:∀ w:World,Calls Tryz.prog 169 #[.int .i64 x0,.int .i64 y0] w fun e w'=>e=.returned (.int .i64 c2)∧w'=w) :
  Calls Tryz.prog 167 #[.agg #[.int .i64 x0,.int .i64 x1],.agg #[.int .i64 y0,.int .i64 y1]] W fun e w'=>e=.returned (.int .i64 r)∧∃ q os',w'=grow (W.drewN q) os':=by
 have hF:=four_made W x0 x1 y0 y1
 have HR:=qz hr
 clear hr
 have HW:=qz (drew_grow W)
 go_enter Tryz.func167,Tryz.ntmps167
 go_upto_region 1 with fail
 have HW2:=qz (uh HW (.cells #[.int .i64 x0,.int .i64 x1] 222) (.cells #[.int .i64 y0,.int .i64 y1] 222))
 clear HW
 obtain ⟨p,hp⟩:∃ p,p=W.heap.size:=⟨_,rfl⟩
 obtain ⟨W2,hW2⟩:∃ W2,W2=(W.alloc (.cells #[.int .i64 x0,.int .i64 x1] 222)).alloc (.cells #[.int .i64 y0,.int .i64 y1] 222):=⟨_,rfl⟩
 rw [← hp,← hW2] at hF
 rw [← hW2] at HW2
 rw [← hp,← hW2]
 clear hp hW2
 refine wp_region_noPanic ?_
 refine wp_region_held_drew (S:=Four p x0 x1 y0 y1) (by kernel_rfl) hF.drew (fun hHeld=>?_)
 obtain ⟨W3,hW3⟩:∃ W3,W3=W2.drew:=⟨_,rfl⟩
 rw [← hW3] at hHeld HW2 ⊢
 clear hW3
 refine hT 0 5 rfl rfl hHeld nPp (v:=?_) (fun x hSx=>?_) ?_
 rotate_left 1
 ·(obtain ⟨q0,q1,q2,q3⟩:=hSx;go_simp <;> with_reducible rfl)
 simp only [sA,sB]
 refine hT 1 6 rfl rfl hHeld nPp (v:=?_) (fun x hSx=>?_) ?_
 rotate_left 1
 ·(obtain ⟨q0,q1,q2,q3⟩:=hSx;go_simp <;> with_reducible rfl)
 simp only [sA,sB]
 refine hT 2 7 rfl rfl hHeld nPp (v:=?_) (fun x hSx=>?_) ?_
 rotate_left 1
 ·(obtain ⟨q0,q1,q2,q3⟩:=hSx;go_simp <;> with_reducible rfl)
 simp only [sA,sB]
 refine hT 3 8 rfl rfl hHeld nPp (v:=?_) (fun x hSx=>?_) ?_
 rotate_left 1
 ·(obtain ⟨q0,q1,q2,q3⟩:=hSx;go_simp <;> with_reducible rfl)
 simp only [sA,sB]
 refine hT 5 10 rfl rfl hHeld nPp (v:=?_) (fun x hSx=>?_) ?_
 rotate_left 1
 ·(obtain ⟨q0,q1,q2,q3⟩:=hSx;go_simp <;> with_reducible rfl)
 simp only [sA,sB]
 refine hT 6 11 rfl rfl hHeld nPp (v:=?_) (fun x hSx=>?_) ?_
 rotate_left 1
 ·(obtain ⟨q0,q1,q2,q3⟩:=hSx;go_simp <;> with_reducible rfl)
 simp only [sA,sB]
 refine hT 7 12 rfl rfl hHeld nPp (v:=?_) (fun x hSx=>?_) ?_
 rotate_left 1
 ·(obtain ⟨q0,q1,q2,q3⟩:=hSx;go_simp <;> with_reducible rfl)
 simp only [sA,sB]
 refine hT 8 13 rfl rfl hHeld nPp (v:=?_) (fun x hSx=>?_) ?_
 rotate_left 1
 ·(obtain ⟨q0,q1,q2,q3⟩:=hSx;go_simp <;> with_reducible rfl)
 simp only [sA,sB]
 refine held_enter 4 9 (by kernel_rfl) rfl rfl (by rfl) (by go_simp <;> exact ⟨rfl,rfl⟩) ?_
 refine (hF1 _).mono ?_
 rintro e w' ⟨rfl,hww⟩
 replace hww:=hww.symm
 subst hww
 refine ⟨_,rfl,hHeld,?_⟩
 simp only [sA,sB]
 refine held_enter 9 14 (by kernel_rfl) rfl rfl (by rfl) (by go_simp <;> exact ⟨rfl,rfl⟩) ?_
 refine (hF2 _).mono ?_
 rintro e w' ⟨rfl,hww⟩
 replace hww:=hww.symm
 subst hww
 refine ⟨_,rfl,hHeld,?_⟩
 simp only [sA,sB]
 refine held_value 10 15 (by kernel_rfl) rfl rfl (by rfl) (v:=.slice (some ⟨W3.heap.size,0,none⟩) 2 2) (w':=W3.alloc (.cells #[.int .i64 c1,.int .i64 c2] 3)) (by go_simp <;> exact ⟨rfl,rfl⟩) (hHeld.alloc _) ?_
 simp only [sA,sB]
 have hHeld:=hHeld.alloc (.cells #[.int .i64 c1,.int .i64 c2] 3)
 refine held_enter 11 16 (by kernel_rfl) rfl rfl (by rfl) (by go_simp <;> exact ⟨rfl,rfl⟩) ?_
 refine (or_val _ c1 c2 r _ (uh HR) (cellA _ _ _) (cellB _ _ _)).mono ?_
 rintro e w' ⟨rfl,hww⟩
 replace hww:=hww.symm
 subst hww
 refine ⟨_,rfl,hHeld,?_⟩
 simp only [sA,sB]
 refine hT 12 4 rfl rfl hHeld nPp (v:=?_) (fun x hSx=>?_) ?_
 rotate_left 1
 ·go_simp <;> with_reducible rfl
 simp only [sA,sB]
 refine wpAnyH_done (by kernel_rfl) ?_ _
 refine NoPanic.normal ?_
 go_wp2_with fail
 go_ret
 exact ⟨rfl,uh HW2 _⟩
theorem closure20 (x y:Int × Int) (W:World):Calls Tryz.prog 167 #[.agg #[.int .i64 x.1,.int .i64 x.2],.agg #[.int .i64 y.1,.int .i64 y.2]] W fun e w'=>e=.returned (.int .i64 (cf x y))∧∃ q os',w'=grow (W.drewN q) os' :=
 closure_walk x.1 x.2 y.1 y.2 _ _ _ W rfl (Tryz.cmp_Compare_int x.2 y.2) (Tryz.cmp_Compare_int x.1 y.1)
end L5
namespace L5
open Go.RowKit Go.Sort Go.Lib
def wt (os:List Int) (i:Nat):Nat:=(os.getD i 0).toNat
def Ahead (os:List Int) (i j:Nat):Prop:=wt os i<wt os j∨wt os i=wt os j∧i<j
structure IsOrder (os:List Int) (l:List Nat):Prop where
 pw:l.Pairwise (Ahead os)
 mem:∀ i,i∈l↔i<os.length∧0<wt os i
theorem Ahead.trans {os:List Int} {i j k:Nat} (h:Ahead os i j) (h':Ahead os j k):Ahead os i k:=by unfold Ahead at *;omega
theorem Ahead.irrefl {os:List Int} {i:Nat} (h:Ahead os i i):False:=by unfold Ahead at *;omega
theorem IsOrder.nodup {os:List Int} {l:List Nat} (h:IsOrder os l):l.Nodup:=by
 refine h.pw.imp ?_
 intro a b hab e
 subst e
 exact hab.irrefl
theorem pw_unique {os:List Int}:∀ {l l':List Nat},l.Pairwise (Ahead os)→l'.Pairwise (Ahead os)→(∀ i,i∈l↔i∈l')→l=l'
 | [],[],_,_,_=>rfl
 | [],y :: r,_,_,h=>by have:=(h y).2 (by simp);simp at this
 | x :: r,[],_,_,h=>by have:=(h x).1 (by simp);simp at this
 | x :: r,y :: r',h1,h2,h=>by
  have a1:=List.pairwise_cons.1 h1
  have a2:=List.pairwise_cons.1 h2
  have e:x=y:=by
   have hx:=(h x).1 (by simp)
   have hy:=(h y).2 (by simp)
   simp at hx hy
   rcases hx with hx | hx
   ·exact hx
   ·rcases hy with hy | hy
    ·exact hy.symm
    ·exact ((a2.1 x hx).trans (a1.1 y hy)).irrefl.elim
  subst e
  refine congrArg (x :: ·) (pw_unique a1.2 a2.2 fun i=>⟨fun hi=>?_,fun hi=>?_⟩)
  ·have:=(h i).1 (by simp [hi])
   simp at this
   rcases this with rfl | h3
   ·exact (a1.1 i hi).irrefl.elim
   ·exact h3
  ·have:=(h i).2 (by simp [hi])
   simp at this
   rcases this with rfl | h3
   ·exact (a2.1 i hi).irrefl.elim
   ·exact h3
theorem IsOrder.one {os:List Int} {l l':List Nat} (h:IsOrder os l) (h':IsOrder os l'):l=l' :=
 pw_unique h.pw h'.pw fun i=>by rw [h.mem,h'.mem]
theorem IsOrder.sorted {os:List Int} {l:List Nat} (h:IsOrder os l):Merge.Sorted (Merge.baseOf (wt os) l):=by
 unfold Merge.Sorted Merge.baseOf
 rw [List.pairwise_map]
 refine h.pw.imp ?_
 intro a b hab
 unfold Ahead at hab
 simp only
 omega
def raw (os:List Int) (n:Nat):List Nat:=(List.range n).filter fun i=>decide (0<wt os i)
def pair (os:List Int) (i:Nat):Int × Int:=((i:Int),(wt os i:Int))
theorem raw_succ (os:List Int) (n:Nat):raw os (n+1)=if 0<wt os n then raw os n++[n] else raw os n:=by
 unfold raw
 rw [List.range_succ,List.filter_append]
 by_cases h:0<wt os n <;> simp [h]
theorem raw_mem (os:List Int) (n i:Nat):i∈raw os n↔i<n∧0<wt os i:=by simp [raw]
theorem raw_nodup (os:List Int) (n:Nat):(raw os n).Nodup:=List.Pairwise.filter _ List.nodup_range
theorem raw_len (os:List Int) (n:Nat):(raw os n).length≤n:=by
 have:=List.length_filter_le (fun i=>decide (0<wt os i)) (List.range n)
 simpa [raw] using this
theorem cf_lt (x y:Int × Int):ltOf cf x y=decide (x.2<y.2∨x.2=y.2∧x.1<y.1):=by
 unfold ltOf cf Lib.compareInt
 by_cases h1:x.2<y.2
 ·simp [h1]
 ·by_cases h2:y.2<x.2
  ·have:¬ x.2=y.2:=by omega
   simp [h1,h2,this]
  ·have e:x.2=y.2:=by omega
   by_cases h3:x.1<y.1
   ·simp [e,h3]
   ·by_cases h4:y.1<x.1 <;> simp [e,h3,h4]
theorem cf_swo:SWO (ltOf cf) where
 irrefl x:=by rw [cf_lt];simp
 trans x y z h1 h2:=by rw [cf_lt] at *;simp only [decide_eq_true_eq] at *;omega
 ntrans x y z h1 h2:=by rw [cf_lt] at *;simp only [decide_eq_false_iff_not] at *;omega
theorem cf_total (x y:Int × Int) (h1:ltOf cf x y=false) (h2:ltOf cf y x=false):x=y:=by
 rw [cf_lt] at h1 h2
 simp only [decide_eq_false_iff_not] at h1 h2
 apply Prod.ext <;> omega
theorem sort_order (os:List Int):∃ l,IsOrder os l∧l.length=(raw os os.length).length∧(((raw os os.length).map (pair os)).mergeSort fun x y=>!(ltOf cf) y x)=l.map (pair os):=by
 obtain ⟨d,hd⟩:∃ d,d=(((raw os os.length).map (pair os)).mergeSort fun x y=>!(ltOf cf) y x):=⟨_,rfl⟩
 have hp:d.Perm ((raw os os.length).map (pair os)):=by rw [hd];exact List.mergeSort_perm _ _
 have hs:d.Pairwise fun x y=>(!(ltOf cf) y x)=true:=by
  rw [hd]
  refine List.pairwise_mergeSort (fun a b c h1 h2=>?_) (fun a b=>?_) _
  ·simp only [Bool.not_eq_true',cf_lt,decide_eq_false_iff_not] at *;omega
  ·rw [cf_lt,cf_lt]
   by_cases h1:b.2<a.2∨b.2=a.2∧b.1<a.1
   ·have h2:¬ (a.2<b.2∨a.2=b.2∧a.1<b.1):=by omega
    simp [h1,h2]
   ·simp [h1]
 have hm:∀ p∈d,∃ i,i∈raw os os.length∧p=pair os i:=fun p h=>by
  have:=hp.mem_iff.1 h
  obtain ⟨i,hi,rfl⟩:=List.mem_map.1 this
  exact ⟨i,hi,rfl⟩
 have hd2:d=(d.map fun p=>p.1.toNat).map (pair os):=by
  rw [List.map_map]
  conv=>lhs;rw [← List.map_id d]
  refine List.map_congr_left fun p h=>?_
  obtain ⟨i,hi,rfl⟩:=hm p h
  simp [pair]
 rw [← hd]
 have hperm:(d.map fun p=>p.1.toNat).Perm (raw os os.length):=by
  have:=hp.map (fun p:Int × Int=>p.1.toNat)
  rw [List.map_map] at this
  have e:(raw os os.length).map ((fun p:Int × Int=>p.1.toNat)∘pair os)=raw os os.length:=by
   conv=>rhs;rw [← List.map_id (raw os os.length)]
   exact List.map_congr_left fun i _=>by simp [pair]
  rwa [e] at this
 refine ⟨d.map fun p=>p.1.toNat,⟨?_,fun i=>?_⟩,?_,hd2⟩
 ·have hnd:(d.map fun p=>p.1.toNat).Nodup:=hperm.nodup_iff.2 (raw_nodup os _)
  have h2:((d.map fun p=>p.1.toNat).map (pair os)).Pairwise fun x y=>(!(ltOf cf) y x)=true:=by rw [← hd2];exact hs
  rw [List.pairwise_map] at h2
  have h3:=h2.and hnd
  refine h3.imp ?_
  rintro a b ⟨k1,k2⟩
  simp only [cf_lt,pair,Bool.not_eq_true',decide_eq_false_iff_not] at k1
  unfold Ahead
  omega
 ·rw [hperm.mem_iff,raw_mem]
 ·exact hperm.length_eq
end L5
namespace L5
open Go.RowKit Go.Sort Go.Lib
attribute [local go_sem ↓] wp_at_zero wp_at_succ
def crow (os:List Int) (l:List Nat):List Value:=(List.range (2*l.length)).map fun t=>if t % 2=0 then iv (l.getD (t / 2) 0:Nat) else iv (wt os (l.getD (t / 2) 0):Nat)
theorem crow_snoc (os:List Int) (l:List Nat) (i:Nat):crow os (l++[i])=crow os l++[iv (i:Nat),iv (wt os i:Nat)]:=by
 unfold crow
 rw [List.length_append,show 2*(l.length+[i].length)=2*l.length+1+1 by simp;omega,List.range_succ,List.range_succ,List.map_append,List.map_append,List.append_assoc]
 congr 1
 ·refine List.map_congr_left fun t ht=>?_
  simp at ht
  rw [List.getD_eq_getElem?_getD,List.getD_eq_getElem?_getD,List.getElem?_append_left (by omega)]
 ·simp [show (2*l.length+1) % 2=1 by omega,show (2*l.length+1) / 2=l.length by omega]
theorem crow_get (os:List Int) (l:List Nat) (t:Nat) (h:t<2*l.length):(crow os l)[t]?=some (if t % 2=0 then iv (l.getD (t / 2) 0:Nat) else iv (wt os (l.getD (t / 2) 0):Nat)):=by
 unfold crow
 rw [List.getElem?_map,List.getElem?_range h]
 rfl
def ComesAt (w:World) (v:Value) (os:List Int) (l:List Nat):Prop :=
 ∃ a cap,v=.slice a l.length cap∧l.length≤cap∧(0<l.length→∃ g off,a=some ⟨g,off,none⟩∧∀ j,j<l.length→w.cell? ⟨g,off+j*2,none⟩=some (.int .i64 (l.getD j 0:Nat))∧w.cell? ⟨g,off+(j*2+1),none⟩=some (.int .i64 (wt os (l.getD j 0):Nat)))
theorem ComesAt.stays {w w1:World} (hb:Below w.heap.size w w1) {v:Value} {os:List Int} {l:List Nat} (h:ComesAt w v os l):ComesAt w1 v os l:=by
 obtain ⟨a,cap,rfl,hc,hs⟩:=h
 refine ⟨a,cap,rfl,hc,fun h0=>?_⟩
 obtain ⟨g,off,rfl,h2⟩:=hs h0
 exact ⟨g,off,rfl,fun j hj=>⟨cell_stays hb (h2 j hj).1,cell_stays hb (h2 j hj).2⟩⟩
theorem info41:(Tryz.prog.info? 222).map (fun i=>(i.zero,i.size,i.bytes))=some (some (.agg #[.int .i64 0,.int .i64 0]),2,16):=by kernel_rfl
theorem flat_get (os:List Int) (l:List Nat) (t:Nat) (h:t<2*l.length):(flatK encC 2 (l.map (pair os)).toArray)[t]! = (if t % 2=0 then iv (l.getD (t / 2) 0:Nat) else iv (wt os (l.getD (t / 2) 0):Nat)):=by
 rw [get_flatK _ _ _ _ (by simp;omega)]
 have h2:t / 2<l.length:=by omega
 have e:(l.map (pair os)).toArray[t / 2]! = pair os (l.getD (t / 2) 0):=by
  rw [getElem!_pos _ _ (by simpa using h2)]
  simp [h2]
 rw [e]
 by_cases h3:t % 2=0
 ·rw [if_pos h3,h3];rfl
 ·rw [if_neg h3,show t % 2=1 by omega];rfl
theorem holds_own {w:World} {base k g cap:Nat} {os:List Int} {l:List Nat} (h:w.ownsRow base 222 2 (.slice (some ⟨g,0,none⟩) k cap) k (crow os l)) (hk:k=l.length):HoldsK encC 2 w g 0 (l.map (pair os)).toArray:=by
 subst hk
 rcases h.2 with ⟨e,e'⟩ | ⟨g',cap',cur,e,hb,hh,hn,hc,hs,ht⟩
 ·cases e
 ·injection e with e1 e2 e3
  injection e1 with e1
  injection e1 with e1
  subst e1
  intro j hj
  have hj2:j<2*l.length:=by simp at hj;omega
  constructor
  ·have h2:(cur.toList.take (l.length*2))[j]?=(crow os l)[j]?:=by rw [ht]
   rw [List.getElem?_take,if_pos (by omega),crow_get os l j hj2] at h2
   simp only [World.cell?,hh,Nat.zero_add]
   rw [flat_get os l j hj2]
   simpa using h2
  ·simp [World.frozen?,hh]
theorem below_sort {w:World} {B g n:Nat} {d:Array (Int × Int)} {ob:Array Obj} (hB:B≤g) (hs:B≤w.heap.size):Below B w (sortWorldK encC 2 w g 0 n d ob):=by
 refine ⟨rfl,rfl,rfl,?_,fun k hk=>?_⟩
 ·exact size_sortWorldK_c encC 2 w g 0 n d ob
 ·unfold sortWorldK grow
  simp only
  rw [Array.getElem?_append_left (by rw [size_putRowK];exact Nat.lt_of_lt_of_le hk hs)]
  show (w.heap.modify g _)[k]?=w.heap[k]?
  rw [Array.getElem?_modify,if_neg (by omega)]
theorem comes_holds {w:World} {g k cap:Nat} {os:List Int} {l:List Nat} (h:HoldsK encC 2 w g 0 (l.map (pair os)).toArray) (hk:k=l.length) (hc:k≤cap):ComesAt w (.slice (some ⟨g,0,none⟩) k cap) os l:=by
 subst hk
 refine ⟨_,cap,rfl,hc,fun h0=>⟨g,0,rfl,fun j hj=>⟨?_,?_⟩⟩⟩
 ·have:=(h (j*2) (by simp;omega)).1
  rw [flat_get os l (j*2) (by omega),if_pos (by omega),show j*2 / 2=j by omega] at this
  exact this
 ·have:=(h (j*2+1) (by simp;omega)).1
  rw [flat_get os l (j*2+1) (by omega),if_neg (by omega),show (j*2+1) / 2=j by omega] at this
  exact this
theorem sort_ok (os:List Int) (base k:Nat) (v:Value) (w:World) (h:w.ownsRow base 222 2 v k (crow os (raw os os.length))) (hk:k=(raw os os.length).length) (hn:k≤65536) :
  Calls Tryz.prog 166 #[v,.func (.func 167) #[] #[]] w fun e w'=>e=.returned (.tuple #[])∧∃ l,IsOrder os l∧l.length=k∧ComesAt w' v os l∧(base≤w.heap.size→Below base w w'):=by
 obtain ⟨l,hl,hlen,hm⟩:=sort_order os
 by_cases h0:k=0
 ·have hl0:l=[]:=List.length_eq_zero_iff.1 (by omega)
  obtain ⟨a,c,rfl⟩:∃ a c,v=.slice a 0 c:=by
   rcases h.2 with ⟨e,e'⟩ | ⟨g',cap',cur,e,_⟩
   ·exact ⟨none,0,e⟩
   ·exact ⟨_,cap',by rw [e,h0]⟩
  have hcon:=AnyF.slices_SortFunc_none (P:=Tryz.prog) (ρ:=Tryz.sortCome_ren) Tryz.sortCome a c (.func (.func 167) #[] #[]) w
  refine Calls.mono (f:=166) hcon fun e w' ⟨he,hw⟩=>⟨he,l,hl,by omega,⟨a,c,by rw [hl0];rfl,by rw [hl0];exact Nat.zero_le _,fun h=>by rw [hl0] at h;cases h⟩,fun _=>by rw [hw];exact Below.refl _ _⟩
 ·obtain ⟨g,cap,cur,rfl,hb,hh,hcap⟩:∃ g cap cur,v=.slice (some ⟨g,0,none⟩) k cap∧base≤g∧w.heap[g]?=some (.cells cur 222 (0,0))∧k≤cap:=by
   rcases h.2 with ⟨e,e'⟩ | ⟨g',cap',cur,e,hb,hh,hn,_⟩
   ·omega
   ·exact ⟨g',cap',cur,e,hb,hh,hn⟩
  have hH:=holds_own h hk
  have eg:∀ args w,(callFunc 167 args).run Tryz.prog w=.ok (.enter 167 args) w:=enters_of Tryz.func167 (by kernel_rfl) rfl
  have hcon:=AnyQ.slices_SortFunc_total (P:=Tryz.prog) (ρ:=Tryz.sortCome_ren) Tryz.sortCome 2 Tryz.isAgg222 Tryz.sizeOf222 encC (fun _=>rfl) (fun x v hv=>by simp [encC] at hv;rcases hv with rfl | rfl <;> rfl) cf cf_swo 167 #[] g 0 cap ((raw os os.length).map (pair os)).toArray w eg
   (fun _ _ _ _ x y=>closure20 x y _) hH (heap_lt hh) (by simp;omega) cf_total
  have hsz:((raw os os.length).map (pair os)).toArray.size=k:=by simp [hk]
  rw [hsz] at hcon
  refine Calls.mono (f:=166) hcon fun e w' ⟨he,n,ob,hw⟩=>⟨he,l,hl,by omega,?_,fun hs=>by rw [hw];exact below_sort hb hs⟩
  have e2:(((raw os os.length).map (pair os)).toArray.toList.mergeSort fun x y=>!(ltOf cf) y x).toArray=(l.map (pair os)).toArray:=by rw [← hm]
  rw [e2] at hw
  rw [hw]
  exact comes_holds (holdsK_sortWorldK_c encC 2 w g 0 _ _ n ob hH (heap_lt hh) (by simp [hlen])) (by omega) hcap
end L5
namespace L5
open Go.RowKit
attribute [local go_sem ↓] wp_at_zero wp_at_succ
def worths (os:List Int) (l:List Nat):List Nat:=l.map (wt os)
theorem worths_length (os:List Int) (l:List Nat):(worths os l).length=l.length:=by simp [worths]
theorem worths_get (os:List Int) (l:List Nat) (i:Nat) (h:i<l.length):(worths os l).getD i 0=wt os (l.getD i 0):=by simp [worths,h]
theorem info57:(Tryz.prog.info? 236).map (fun i=>(i.zero,i.size,i.bytes))=some (some (.agg #[.slice none 0 0,.slice none 0 0]),2,48):=by kernel_rfl
theorem rounds_made (w:World) (n:Nat) (hn:n≤65536):(Instr.makeSlice 224 (.int .i64 (n:Int)) (.int .i64 (n:Int))).run Tryz.prog w=.ok (.slice (some ⟨w.heap.size,0,none⟩) n n) (w.alloc (.cells (madeCells #[.slice none 0 0,.slice none 0 0] (n*2)) 236)):=by
 obtain ⟨i0,hi,hz0,hz1,hz2⟩:=info_parts info57
 have:=run_make (P:=Tryz.prog) w 224 236 i0 _ Tryz.underlying224 hi hz0 .i64 .i64 (n:Int) (n:Int) (by omega) (by omega) (by rw [hz2];omega) (by omega)
 rw [hz1] at this
 exact this
structure RoundsAt (w:World) (g M:Nat) (wl:List Nat) (k:Nat):Prop where
 row:∃ cur:Array Value,w.heap[g]?=some (.cells cur 236 (0,0))∧cur.size=M*2
 got:∀ j,j<k→∃ v1 v2,w.cell? ⟨g,j*2,none⟩=some v1∧w.cell? ⟨g,j*2+1,none⟩=some v2∧ReadsF (g+1) w v2 (ints (Merge.ahd wl (Merge.bk wl j)))∧∃ a l c,v1=.slice a l c
theorem RoundsAt.cell {w:World} {g M:Nat} {wl:List Nat} {k:Nat} (h:RoundsAt w g M wl k) (j:Nat) (hj:j<M*2):(∃ y,w.cell? ⟨g,j,none⟩=some y)∧w.frozen? ⟨g,j,none⟩=false:=by
 obtain ⟨cur,hh,hs⟩:=h.row
 refine ⟨⟨cur[j],?_⟩,by simp [World.frozen?,hh]⟩
 simp only [World.cell?,hh]
 simp [show j<cur.size by omega]
theorem ReadsF.stays {lo:Nat} {w w1:World} (hb:Below w.heap.size w w1) {v:Value} {zs:List Int} (h:ReadsF lo w v zs):ReadsF lo w1 v zs:=by
 obtain ⟨a,cap,rfl,hs⟩:=h
 refine ⟨a,cap,rfl,fun h0=>?_⟩
 obtain ⟨b,off,rfl,h1,h2⟩:=hs h0
 exact ⟨b,off,rfl,h1,fun j hj=>cell_stays hb (h2 j hj)⟩
theorem ReadsF.other {g:Nat} {w:World} {v:Value} {zs:List Int} (h:ReadsF (g+1) w v zs) (o:Nat) (x:Value):ReadsF (g+1) (w.setCell ⟨g,o,none⟩ x) v zs:=by
 obtain ⟨a,cap,rfl,hs⟩:=h
 refine ⟨a,cap,rfl,fun h0=>?_⟩
 obtain ⟨b,off,rfl,h1,h2⟩:=hs h0
 refine ⟨b,off,rfl,h1,fun j hj=>?_⟩
 rw [World.cell?_of_block (w:=w) (heap_setCell_other _ _ _ _ (by show b≠g;omega))]
 exact h2 j hj
theorem ReadsF.more {lo lo':Nat} {w:World} {v:Value} {zs:List Int} (h:ReadsF lo w v zs) (hl:lo'≤lo):ReadsF lo' w v zs:=by
 obtain ⟨a,cap,rfl,hs⟩:=h
 exact ⟨a,cap,rfl,fun h0=>by obtain ⟨b,off,e,h1,h2⟩:=hs h0;exact ⟨b,off,e,by omega,h2⟩⟩
theorem RoundsAt.stays {w w1:World} {g M:Nat} {wl:List Nat} {k:Nat} (h:RoundsAt w g M wl k) (hb:Below w.heap.size w w1):RoundsAt w1 g M wl k:=by
 obtain ⟨cur,hh,hs⟩:=h.row
 refine ⟨⟨cur,by rw [hb.block g (heap_lt hh)];exact hh,hs⟩,fun j hj=>?_⟩
 obtain ⟨v1,v2,h1,h2,h3,h4⟩:=h.got j hj
 exact ⟨v1,v2,cell_stays hb h1,cell_stays hb h2,h3.stays hb,h4⟩
theorem RoundsAt.set {w:World} {g M:Nat} {wl:List Nat} {k:Nat} (h:RoundsAt w g M wl k) (hk:k<M) {v1 v2:Value} (h2:ReadsF (g+1) w v2 (ints (Merge.ahd wl (Merge.bk wl k)))) (hv:∃ a l c,v1=.slice a l c) :
  RoundsAt ((w.setCell ⟨g,k*2,none⟩ v1).setCell ⟨g,k*2+1,none⟩ v2) g M wl (k+1):=by
 obtain ⟨cur,hh,hs⟩:=h.row
 have e1:=heap_setCell_same w g (k*2) cur 236 v1 hh
 have e2:=heap_setCell_same _ g (k*2+1) _ 236 v2 e1
 refine ⟨⟨_,e2,by simpa using hs⟩,fun j hj=>?_⟩
 by_cases e:j=k
 ·subst e
  refine ⟨v1,v2,?_,?_,(h2.other _ _).other _ _,hv⟩
  ·simp only [World.cell?,e2]
   simp [show j*2<cur.size by omega]
  ·simp only [World.cell?,e2]
   simp [show j*2+1<cur.size by omega]
 ·obtain ⟨u1,u2,k1,k2,k3,k4⟩:=h.got j (by omega)
  refine ⟨u1,u2,?_,?_,(k3.other _ _).other _ _,k4⟩
  ·rw [World.cell?_setCell_other (h:=by intro e;injection e with e1 e2;omega),World.cell?_setCell_other (h:=by intro e;injection e with e1 e2;omega)];exact k1
  ·rw [World.cell?_setCell_other (h:=by intro e;injection e with e1 e2;omega),World.cell?_setCell_other (h:=by intro e;injection e with e1 e2;omega)];exact k2
theorem RoundsAt.made (w:World) (M:Nat) (wl:List Nat):RoundsAt (w.alloc (.cells (madeCells #[.slice none 0 0,.slice none 0 0] (M*2)) 236)) w.heap.size M wl 0 :=
 ⟨⟨_,heap_alloc_new _ _,by simp [madeCells]⟩,fun j hj=>absurd hj (Nat.not_lt_zero _)⟩
structure PlayAt (w ws:World) (gw g M:Nat) (wl:List Nat) (pv:Value) (k:Nat):Prop where
 wor:IntsAt ws .i64 3 gw wl.length (fun i=>wl.getD i 0)
 rds:RoundsAt ws g M wl k
 pks:ReadsI ws pv (ints (Merge.bk wl k))
 lo:w.heap.size≤gw
 ne:gw<g
 bel:Below w.heap.size w ws
theorem PlayAt.next {w ws w1:World} {gw g M:Nat} {wl:List Nat} {pv v1 v2:Value} {k:Nat} (h:PlayAt w ws gw g M wl pv k) (hk:k<M) (hb:Below ws.heap.size ws w1)
  (h1:ReadsF (ws.heap.size+1) w1 v1 (ints (Merge.mgd wl (Merge.bk wl k)))) (h2:ReadsF (ws.heap.size+1) w1 v2 (ints (Merge.ahd wl (Merge.bk wl k)))) :
  (∃ y,w1.cell? ⟨g,k*2,none⟩=some y)∧(∃ y,w1.cell? ⟨g,k*2+1,none⟩=some y)∧w1.frozen? ⟨g,k*2,none⟩=false∧w1.frozen? ⟨g,k*2+1,none⟩=false ∧
  ReadsI ((w1.setCell ⟨g,k*2,none⟩ v1).setCell ⟨g,k*2+1,none⟩ v2) v1 (ints (Merge.wr wl k)) ∧
  (∀ w4 pv',Below ((w1.setCell ⟨g,k*2,none⟩ v1).setCell ⟨g,k*2+1,none⟩ v2).heap.size ((w1.setCell ⟨g,k*2,none⟩ v1).setCell ⟨g,k*2+1,none⟩ v2) w4→ReadsI w4 pv' (ints (Merge.packW (Merge.wr wl k)))→PlayAt w w4 gw g M wl pv' (k+1)):=by
 obtain ⟨cur,hh,hs⟩:=h.rds.row
 have hg:g<ws.heap.size:=heap_lt hh
 have hr1:=h.rds.stays hb
 have c1:=hr1.cell (k*2) (by omega)
 have c2:=hr1.cell (k*2+1) (by omega)
 have hsz:=hb.size
 have hlo:=h.lo
 have hne:=h.ne
 refine ⟨c1.1,c2.1,c1.2,c2.2,(((h1.more (by omega)).other _ _).other _ _).reads,fun w4 pv' k1 k2=>?_⟩
 have hw:IntsAt w1 .i64 3 gw wl.length (fun i=>wl.getD i 0):=h.wor.stays hb h.wor.lt
 have hw2:IntsAt ((w1.setCell ⟨g,k*2,none⟩ v1).setCell ⟨g,k*2+1,none⟩ v2) .i64 3 gw wl.length (fun i=>wl.getD i 0):=(hw.other _ _ (by show gw≠g;omega)).other _ _ (by show gw≠g;omega)
 refine ⟨hw2.stays k1 hw2.lt,(hr1.set hk (h2.more (by omega)) (by obtain ⟨a,c,e,_⟩:=h1;exact ⟨a,_,c,e⟩)).stays k1,k2,hlo,hne,?_⟩
 have b1:Below w.heap.size w w1:=h.bel.trans (hb.mono h.bel.size)
 exact (b1.trans (((Below.refl _ _).setCell (by show w.heap.size≤g;omega) _).setCell (by show w.heap.size≤g;omega) _)).trans (k1.mono (by simpa using b1.size))
theorem play_ok (os:List Int) (l:List Nat) (M:Nat) (v:Value) (w:World) (hc:ComesAt w v os l) (hl:l.length≤65536) (hM1:M≤20) (hb:∀ k,k<20→∀ x∈Merge.wr (worths os l) k,x≤1152921504606846976) :
  Calls Tryz.prog 161 #[v,.int .i64 (M:Int)] w fun e w'=>∃ g,e=.returned (.slice (some ⟨g,0,none⟩) M M)∧RoundsAt w' g M (worths os l) M∧w.heap.size≤g∧Below w.heap.size w w':=by
 obtain ⟨a,cap,rfl,hcap,hsp⟩:=hc
 have HSP:=qz hsp
 have HB:=qz hb
 clear hsp hb
 obtain ⟨n,hn⟩:∃ n,n=l.length:=⟨_,rfl⟩
 rw [← hn] at HSP hl hcap ⊢
 have HN:=qz hn
 clear hn
 have hmk:=ints_made w n hl
 have hz:IntsAt (w.alloc (.cells (icells .i64 n fun _=>0) 3)) .i64 3 w.heap.size n (fun _=>0):=heap_alloc_new _ _
 have hb0:Below w.heap.size w (w.alloc (.cells (icells .i64 n fun _=>0) 3)):=(Below.refl _ _).alloc (Nat.le_refl _) _
 obtain ⟨W1,hW1⟩:∃ W1,W1=w.alloc (.cells (icells .i64 n fun _=>0) 3):=⟨_,rfl⟩
 rw [← hW1] at hmk hz hb0
 obtain ⟨g,hg⟩:∃ g,g=w.heap.size:=⟨_,rfl⟩
 rw [← hg] at hmk hz
 have HG:=qz hg
 have HZ:=qz hz
 have HB0:=qz hb0
 clear hW1 hz hb0 hg
 go_enter Tryz.func161,Tryz.ntmps161
 go_wp2_with fail
 go_loopg [16] n (fun gk d ws=>∃ (k:Nat) (C:Nat→Nat),gk=n - k∧k≤n∧d=.int .i64 (k:Int)∧IntsAt ws .i64 3 g n C∧(∀ i,i<k→C i=(worths os l).getD i 0)∧Below w.heap.size w ws)
 case atStart=>exact ⟨0,_,by omega,by omega,rfl,uh HZ,fun i h=>by omega,uh HB0⟩
 case round =>
  obtain ⟨k,C,rfl,hk,rfl,hat,hC,hbel⟩:=hrel
  clear hmk HZ HB0
  by_cases hlt:k<n
  ·obtain ⟨b,off,rfl,hcell⟩:=uh HSP (by omega)
   have k1:=cell_stays hbel (hcell k hlt).1
   have k2:=cell_stays hbel (hcell k hlt).2
   obtain ⟨s,hs⟩:∃ s,s=l.getD k 0:=⟨_,rfl⟩
   obtain ⟨t,ht⟩:∃ t,t=wt os (l.getD k 0):=⟨_,rfl⟩
   rw [← hs] at k1
   rw [← ht,← Nat.add_assoc] at k2
   have hki:(k:Int)<(n:Int):=by omega
   have HX:Hid (∀ o:Obj,IntsAt ((wr.setCell ⟨g,k,none⟩ (.int .i64 (t:Int))).alloc o) .i64 3 g n (upd C k t)∧Below w.heap.size w ((wr.setCell ⟨g,k,none⟩ (.int .i64 (t:Int))).alloc o)):=qz fun o =>
    ⟨(hat.set k t).alloc o,(hbel.trans ((Below.refl _ _).setCell (by show w.heap.size≤g;exact Nat.le_of_eq (uh HG).symm) _)).trans ((Below.refl _ _).alloc (by simpa using hbel.size) _)⟩
   have HC:Hid (∀ i,i<k+1→upd C k t i=(worths os l).getD i 0):=qz fun i hi=>by
    unfold upd
    by_cases e:i=k
    ·rw [if_pos e,e,worths_get os l k (by rw [← uh HN];exact hlt),ht]
    ·rw [if_neg e];exact hC i (by omega)
   have k3:=hat.cell k hlt
   have k4:=hat.free k
   have hgl:g<wr.heap.size:=hat.lt
   clear hcell hat hC hbel hs ht
   go_wp2_with fail
   go_roundg (n - (k+1))
   case measure=>omega
   case rel =>
    exact ⟨k+1,_,rfl,by omega,by go_num,(uh HX _).1,uh HC,(uh HX _).2⟩
  ·obtain rfl:k=n:=by omega
   have hat':IntsAt wr .i64 3 g (worths os l).length (fun i=>(worths os l).getD i 0):=by
    rw [worths_length,← uh HN]
    exact hat.congr hC
   have HW:=qz hat'
   have HBEL:=qz hbel
   have hgl:g<wr.heap.size:=hat.lt
   have hki:¬ (k:Int)<(k:Int):=by omega
   clear hat hC hbel hat'
   have hmk2:=rounds_made wr M (by omega)
   have HP0:Hid (PlayAt w (wr.alloc (.cells (madeCells #[.slice none 0 0,.slice none 0 0] (M*2)) 236)) g wr.heap.size M (worths os l) (.slice none 0 0) 0) :=
    qz ⟨(uh HW).alloc _,RoundsAt.made wr M _,⟨none,0,rfl,fun h=>by simp [ints,Merge.bk] at h⟩,Nat.le_of_eq (uh HG).symm,hgl,(uh HBEL).trans ((Below.refl _ _).alloc (uh HBEL).size _)⟩
   obtain ⟨W2,hW2⟩:∃ W2,W2=wr.alloc (.cells (madeCells #[.slice none 0 0,.slice none 0 0] (M*2)) 236):=⟨_,rfl⟩
   obtain ⟨gr,hgr⟩:∃ gr,gr=wr.heap.size:=⟨_,rfl⟩
   rw [← hW2,← hgr] at hmk2 HP0
   have HLO:Hid (w.heap.size≤gr):=qz (by rw [hgr];exact (uh HBEL).size)
   clear hW2 hgr HW HBEL hgl
   go_wp2_with fail
   clear hmk2
   go_loopg [9,31] M (fun gk pv d ws=>∃ (i:Nat) (pv0:Value),gk=M - i∧i≤M∧pv0=pv∧d=.int .i64 (i:Int)∧PlayAt w ws g gr M (worths os l) pv0 i)
   case atStart=>exact ⟨0,_,by omega,by omega,rfl,rfl,uh HP0⟩
   case round =>
    obtain ⟨i,pv0,rfl,hi,rfl,rfl,hat⟩:=hrel
    clear HP0
    by_cases hlt:i<M
    ·have hii:(i:Int)<(M:Int):=by omega
     have HAT:=qz hat
     have HRW:Hid (ReadsI wr (.slice (some ⟨g,0,none⟩) k k) (ints (worths os l))):=qz (hat.wor.reads rfl (fun _ _=>rfl) |> fun h=>by rw [worths_length,← uh HN] at h;exact h)
     have HWL:Hid ((worths os l).length≤65536):=qz (by rw [worths_length,← uh HN];exact hl)
     clear hat
     go_wp2_with (first | (go_at_call 171;go_must (refine (merge_ok (worths os l) (Merge.bk (worths os l) i) _ _ _ (uh HRW) (uh HAT).pks (uh HWL) (Nat.le_trans (Merge.bk_length _ _) (uh HWL))).mono ?_;rintro e w1 ⟨v1,v2,rfl,h1,h2,h3⟩;obtain ⟨f1,f2,f3,f4,f5,f6⟩:=(uh HAT).next hlt h3 h1 h2;obtain ⟨a1,c1,rfl,_⟩:=h1;obtain ⟨a2,c2,rfl,_⟩:=h2;obtain ⟨y1,f1⟩:=f1;obtain ⟨y2,f2⟩:=f2;have F5:=qz f5;have F6:=qz f6;clear h3 f5 f6)) | (go_at_call 173;go_must (refine (pack_ok (Merge.wr (worths os l) i) _ _ (uh F5) (by rw [Merge.wr_length];have:=uh HWL;have:=Merge.bk_length (worths os l) i;omega) (uh HB i (by omega))).mono ?_;rintro e w4 ⟨pv',rfl,h1,h2⟩;have HNX:=qz (uh F6 _ _ h2 h1);clear h1 h2)))
     go_roundg (M - (i+1))
     case measure=>omega
     case rel=>exact ⟨i+1,_,rfl,by omega,rfl,by go_num,uh HNX⟩
    ·obtain rfl:i=M:=by omega
     have HE:=qz hat
     clear hat
     go_wp2_with fail
     go_ret
     exact ⟨gr,rfl,(uh HE).rds,uh HLO,(uh HE).bel⟩
end L5
namespace L5
open Go.RowKit Go.Shelf
attribute [local go_sem] Oper.semAt_some
structure BackR (Bs gr M:Nat) (v1 v2:Nat→Value) (W:World):Prop where
 box:W.cell? ⟨Bs,0,none⟩=some (.slice (some ⟨gr,0,none⟩) M M)
 one:∀ j,j<M→W.cell? ⟨gr,j*2,none⟩=some (v1 j)
 two:∀ j,j<M→W.cell? ⟨gr,j*2+1,none⟩=some (v2 j)
def encB (M:Nat) (v1 v2:Nat→Value) (k:Nat):Array Value:=#[.int .i64 ((M - 1 - k:Nat):Int),.agg #[v1 (M - 1 - k),v2 (M - 1 - k)]]
theorem back1_in (F:Fence) (m:Nat) (h30:F.fn 177) (hro:F.round=none) (hm:1≤m) (l Bs gr M:Nat) (hM:M≤20) (v1 v2:Nat→Value) (J:Nat→World→Prop) (hJ:∀ k W,J k W→BackR Bs gr M v1 v2 W)
  (hY:∀ k W,k<M→J k W→YieldAt F (m - 1) Tryz.prog l (encB M v1 v2 k) W fun e W'=>e=.returned (.bool true)∧J (k+1) W') (W:World) (h0:J 0 W) :
  CallsIn F m Tryz.prog 177 #[.func (.yield l) #[] #[],.pointer (some ⟨Bs,0,none⟩)] W fun e W'=>(∃ v,e=.returned v)∧J M W':=by
 have hb0:=(hJ 0 W h0).box
 refine callsIn_of_wp Tryz.func177 rfl h30 ?_ hro
 simp only [Tryz.ntmps177,List.size_toArray,List.length_cons,List.length_nil,Nat.reduceAdd,Nat.reduceSub,Array.replicate_succ,Array.replicate_zero,List.push_toArray,List.append_toArray,List.nil_append,List.cons_append]
 gi_wp2
 gi_loopw [3] (fun i wr=>∃ k:Nat,k≤M∧i=.int .i64 ((M:Int) - 1 - (k:Int))∧J k wr) (fun i _=>(intOf i+1).toNat)
 case atStart=>exact ⟨0,Nat.zero_le _,by simp,h0⟩
 case round =>
  obtain ⟨k,hk,rfl,hJs⟩:=hrel
  by_cases hlt:k<M
  ·obtain ⟨j,hj⟩:∃ j:Nat,j=M - 1 - k:=⟨_,rfl⟩
   have e:(M:Int) - 1 - (k:Int)=(j:Int):=by omega
   have hR:=hJ k wr hJs
   have c0:=hR.box
   have c1:=hR.one j (by omega)
   have c2:=hR.two j (by omega)
   obtain ⟨fn,tmps,assign,body,hy,hRd⟩:=hY k wr hlt hJs
   unfold encB at hy
   rw [← hj] at hy
   have hjM:(j:Int)<(M:Int):=by omega
   have hj0:(0:Int)≤(j:Int):=by omega
   rw [e]
   have HE:=qz e
   clear hR hj e
   gi_wp2
   refine hRd.mono ?_
   rintro e W3 ⟨rfl,hJ3⟩
   gi_wp2
   go_roundw
   case rel=>exact ⟨k+1,by omega,by have:=uh HE;congr 1;omega,hJ3⟩
   case measure=>have:=uh HE;simp [intOf];try omega
  ·obtain rfl:k=M:=by omega
   have e:(k:Int) - 1 - (k:Int) = -1:=by omega
   rw [e]
   gi_wp2
   go_end0
   exact ⟨⟨_,rfl⟩,hJs⟩
theorem back_in (F:Fence) (m:Nat) (h23:F.fn 170) (hro:F.round=none) (a:Option Addr) (len cap:Nat) (w:World) :
  CallsIn F m Tryz.prog 170 #[.slice a len cap] w fun e w'=>e=.returned (.func (.func 177) #[] #[.pointer (some ⟨w.heap.size,0,none⟩)])∧w'=w.alloc (.cells #[.slice a len cap] 224):=by
 refine callsIn_of_wp Tryz.func170 rfl h23 ?_ hro
 simp only [Tryz.ntmps170,List.size_toArray,List.length_cons,List.length_nil,Nat.reduceAdd,Nat.reduceSub,Array.replicate_succ,Array.replicate_zero,List.push_toArray,List.append_toArray,List.nil_append,List.cons_append]
 gi_wp2
 go_ret
 exact ⟨rfl,rfl⟩
end L5
namespace Merge
def tk (wl:List Nat) (M T:Nat):Nat→Nat
 | 0=>T
 | k+1=>2*(tk wl M T k - alone wl (M - 1 - k) (tk wl M T k))
def al (wl:List Nat) (M T k:Nat):Nat:=alone wl (M - 1 - k) (tk wl M T k)
def len (order wl:List Nat) (M T:Nat):Nat→Nat→Nat
 | 0,_=>0
 | k+1,i=>len order wl M T k i+(order.take (al wl M T k)).count i
theorem tk_le (wl:List Nat) (M T:Nat) (hT:T≤(wr wl (M - 1)).length):∀ k,k<M→tk wl M T k≤(wr wl (M - 1 - k)).length
 | 0,_=>hT
 | k+1,h=>by
  have h1:=tk_le wl M T hT k (by omega)
  have e:M - 1 - k=(M - 1 - (k+1))+1:=by omega
  rw [e] at h1
  have:=alone_next wl (M - 1 - (k+1)) (tk wl M T k) h1
  rw [← e] at this
  exact this
theorem len_cnt (order wl:List Nat) (M T i:Nat):∀ k,k<M→cnt order wl (M - 1) T i=len order wl M T k i+cnt order wl (M - 1 - k) (tk wl M T k) i
 | 0,_=>by simp [len,tk]
 | k+1,h=>by
  rw [len_cnt order wl M T i k (by omega)]
  obtain ⟨q,hq⟩:∃ q,M - 1 - k=q+1:=⟨M - 1 - k - 1,by omega⟩
  have hq2:M - 1 - (k+1)=q:=by omega
  rw [hq2,len,al,hq,cnt,tk,hq]
  omega
theorem len_all (order wl:List Nat) (M T i:Nat) (hM:1≤M):len order wl M T M i=cnt order wl (M - 1) T i:=by
 obtain ⟨q,rfl⟩:∃ q,M=q+1:=⟨M - 1,by omega⟩
 rw [len_cnt order wl (q+1) T i q (by omega),len,al]
 have e:q+1 - 1 - q=0:=by omega
 rw [e,cnt]
theorem al_le (wl:List Nat) (M T k:Nat) (hT:T≤(wr wl (M - 1)).length) (hk:k<M):al wl M T k≤wl.length∧al wl M T k≤tk wl M T k:=by
 have:=alone_le wl (M - 1 - k) _ (tk_le wl M T hT k hk)
 exact ⟨this.1,this.2.1⟩
theorem al_get (wl:List Nat) (M T k:Nat) (hT:T≤(wr wl (M - 1)).length) (hk:k<M):(ahd wl (bk wl (M - 1 - k))).getD (tk wl M T k) 0=al wl M T k:=by
 have:=tk_le wl M T hT k hk
 rw [wr_length] at this
 exact ahd_get wl (bk wl (M - 1 - k)) _ this
theorem len_le (order wl:List Nat) (hd:order.Nodup) (M T i:Nat):∀ k,len order wl M T k i≤k
 | 0=>by simp [len]
 | k+1=>by
  have h1:=len_le order wl hd M T i k
  have h2:=take_count hd (al wl M T k) i
  rw [len]
  omega
theorem len_out (w:Nat→Nat) (order:List Nat) (M:Nat) (hM:1≤M) (hn:order.length≤2 ^ M) (i:Nat):len order (fs (baseOf w order)) M (2*order.length - 2) M i=out w order M i:=by
 rw [len_all order _ M _ i hM]
 unfold out
 refine cnt_ok w order i (M - 1) _ ?_
 rw [← (bk_fs (baseOf w order) (M - 1)).2,fs_length]
 exact enough w order M hM hn
end Merge
namespace L5
open Go.RowKit Go.Shelf
structure TakeW (os:List Int) (order:List Nat) (w:World) (gr gl M:Nat) (sa:Option Addr) (v1 v2:Nat→Value):Prop where
 sym:0<order.length→∃ g off,sa=some ⟨g,off,none⟩∧g≠gl∧∀ j,j<order.length→w.cell? ⟨g,off+j*2,none⟩=some (.int .i64 (order.getD j 0:Nat))∧w.cell? ⟨g,off+j*2+1,none⟩=some (.int .i64 (wt os (order.getD j 0):Nat))
 ne:gr≠gl
 one:∀ j,j<M→w.cell? ⟨gr,j*2,none⟩=some (v1 j)
 two:∀ j,j<M→w.cell? ⟨gr,j*2+1,none⟩=some (v2 j)
 sh:∀ j,j<M→∃ a l c,v1 j=.slice a l c
 ahd:∀ j,j<M→∃ b off cap,b≠gl∧v2 j=.slice (some ⟨b,off,none⟩) (Merge.ahd (worths os order) (Merge.bk (worths os order) j)).length cap ∧
  ∀ i,i<(Merge.ahd (worths os order) (Merge.bk (worths os order) j)).length→w.cell? ⟨b,off+i,none⟩=some (.int .i64 ((Merge.ahd (worths os order) (Merge.bk (worths os order) j)).getD i 0:Nat))
structure TakeI (w:World) (gr gl M nn N T:Nat) (sa:Option Addr) (scap:Nat) (order wl:List Nat) (C:Nat→Nat) (t:Nat) (W:World):Prop where
 b0:W.heap[w.heap.size]?=some (.cells #[.slice sa N scap] 219 (0,0))
 b1:W.heap[w.heap.size+1]?=some (.cells #[.slice (some ⟨gl,0,none⟩) nn nn] 45 (0,0))
 b2:W.heap[w.heap.size+2]?=some (.cells #[.int .i64 (t:Int)] 3 (0,0))
 b3:W.heap[w.heap.size+3]?=some (.cells #[.slice (some ⟨gr,0,none⟩) M M] 224 (0,0))
 ln:IntsAt W .i64 3 gl nn C
 kp:∀ x,x<w.heap.size→x≠gl→W.heap[x]?=w.heap[x]?
 st:W.os=w.os∧W.tape=w.tape∧W.output=w.output
section
variable {w:World} {gr gl M nn N T:Nat} {sa:Option Addr} {scap:Nat} {order wl:List Nat} {C:Nat→Nat} {t:Nat} {W W':World}
theorem TakeI.cell (h:TakeI w gr gl M nn N T sa scap order wl C t W) {p:Addr} {u:Value} (hp:w.cell? p=some u) (hne:p.block≠gl):W.cell? p=some u:=by
 rw [World.cell?_of_block (h.kp _ (cell_lt hp) hne)];exact hp
theorem TakeI.grown (h:TakeI w gr gl M nn N T sa scap order wl C t W) {row:Option Nat} (hg:W.grownBy W' row) (hr:∀ r,row=some r→w.heap.size≤r∧∃ o:Obj,W.heap[r]?=some o∧o.isCells=false):TakeI w gr gl M nn N T sa scap order wl C t W':=by
 have key:∀ (x:Nat) (cs:Array Value) (ty:TypeId) (f:Nat × Nat),W.heap[x]?=some (Obj.cells cs ty f)→W'.heap[x]?=W.heap[x]?:=fun x cs ty f hx=>by
  refine hg.block x (heap_lt hx) (fun e=>?_)
  obtain ⟨_,o,ho,hc⟩:=hr x e.symm
  rw [hx] at ho
  injection ho with ho
  subst ho
  simp [Obj.isCells] at hc
 have hs:w.heap.size<W.heap.size:=heap_lt h.b0
 exact ⟨by rw [key _ _ _ _ h.b0];exact h.b0,by rw [key _ _ _ _ h.b1];exact h.b1,by rw [key _ _ _ _ h.b2];exact h.b2,by rw [key _ _ _ _ h.b3];exact h.b3,by unfold IntsAt;rw [key _ _ _ _ h.ln];exact h.ln,
  fun x hx hne=>by rw [hg.block x (by omega) (fun e=>by have:=(hr x e.symm).1;omega)];exact h.kp x hx hne,⟨hg.os.trans h.st.1,hg.tape.trans h.st.2.1,hg.output.trans h.st.2.2⟩⟩
theorem TakeI.alloc (h:TakeI w gr gl M nn N T sa scap order wl C t W) (o:Obj):TakeI w gr gl M nn N T sa scap order wl C t (W.alloc o):=h.grown (World.grownBy_alloc W o none) (fun r e=>by cases e)
theorem TakeI.inc (h:TakeI w gr gl M nn N T sa scap order wl C t W) (hl:gl<w.heap.size) (i x:Nat):TakeI w gr gl M nn N T sa scap order wl (upd C i x) t (W.setCell ⟨gl,i,none⟩ (.int .i64 (x:Int))):=by
 have o:∀ k,k≠gl→(W.setCell ⟨gl,i,none⟩ (.int .i64 (x:Int))).heap[k]?=W.heap[k]?:=fun k hk=>heap_setCell_other _ _ _ _ (by exact hk)
 exact ⟨by rw [o _ (by omega)];exact h.b0,by rw [o _ (by omega)];exact h.b1,by rw [o _ (by omega)];exact h.b2,by rw [o _ (by omega)];exact h.b3,h.ln.set i x,fun k hk hne=>by rw [o k hne];exact h.kp k hk hne,h.st⟩
theorem TakeI.taken (h:TakeI w gr gl M nn N T sa scap order wl C t W) (hl:gl<w.heap.size) (t':Nat):TakeI w gr gl M nn N T sa scap order wl C t' (W.setCell ⟨w.heap.size+2,0,none⟩ (.int .i64 (t':Int))):=by
 have o:∀ k,k≠w.heap.size+2→(W.setCell ⟨w.heap.size+2,0,none⟩ (.int .i64 (t':Int))).heap[k]?=W.heap[k]?:=fun k hk=>heap_setCell_other _ _ _ _ (by exact hk)
 refine ⟨by rw [o _ (by omega)];exact h.b0,by rw [o _ (by omega)];exact h.b1,?_,by rw [o _ (by omega)];exact h.b3,by unfold IntsAt;rw [o _ (by omega)];exact h.ln,fun k hk hne=>by rw [o k (by omega)];exact h.kp k hk hne,h.st⟩
 rw [heap_setCell_same W (w.heap.size+2) 0 _ 3 _ h.b2];rfl
theorem TakeI.c0 (h:TakeI w gr gl M nn N T sa scap order wl C t W):W.cell? ⟨w.heap.size,0,none⟩=some (.slice sa N scap):=by simp [World.cell?,h.b0]
theorem TakeI.c1 (h:TakeI w gr gl M nn N T sa scap order wl C t W):W.cell? ⟨w.heap.size+1,0,none⟩=some (.slice (some ⟨gl,0,none⟩) nn nn):=by simp [World.cell?,h.b1]
theorem TakeI.c2 (h:TakeI w gr gl M nn N T sa scap order wl C t W):W.cell? ⟨w.heap.size+2,0,none⟩=some (.int .i64 (t:Int)):=by simp [World.cell?,h.b2]
theorem TakeI.f2 (h:TakeI w gr gl M nn N T sa scap order wl C t W):W.frozen? ⟨w.heap.size+2,0,none⟩=false:=by simp [World.frozen?,h.b2]
theorem TakeI.c3 (h:TakeI w gr gl M nn N T sa scap order wl C t W):W.cell? ⟨w.heap.size+3,0,none⟩=some (.slice (some ⟨gr,0,none⟩) M M):=by simp [World.cell?,h.b3]
theorem TakeI.back {os:List Int} {v1 v2:Nat→Value} (h:TakeI w gr gl M nn N T sa scap order wl C t W) (hw:TakeW os order w gr gl M sa v1 v2):BackR (w.heap.size+3) gr M v1 v2 W :=
 ⟨h.c3,fun j hj=>h.cell (hw.one j hj) hw.ne,fun j hj=>h.cell (hw.two j hj) hw.ne⟩
theorem TakeI.start {w:World} {gr gl M nn N T:Nat} {sa:Option Addr} {scap:Nat} {order wl:List Nat} (hl:IntsAt w .i64 3 gl nn (fun _=>0)) :
  TakeI w gr gl M nn N T sa scap order wl (fun _=>0) T ((((w.alloc (.cells #[.slice sa N scap] 219)).alloc (.cells #[.slice (some ⟨gl,0,none⟩) nn nn] 45)).alloc (.cells #[.int .i64 (T:Int)] 3)).alloc (.cells #[.slice (some ⟨gr,0,none⟩) M M] 224)):=by
 obtain ⟨A,hA⟩:∃ A,A=w.alloc (.cells #[.slice sa N scap] 219):=⟨_,rfl⟩
 obtain ⟨B,hB⟩:∃ B,B=A.alloc (.cells #[.slice (some ⟨gl,0,none⟩) nn nn] 45):=⟨_,rfl⟩
 obtain ⟨D,hD⟩:∃ D,D=B.alloc (.cells #[.int .i64 (T:Int)] 3):=⟨_,rfl⟩
 have sA:A.heap.size=w.heap.size+1:=by rw [hA];simp
 have sB:B.heap.size=w.heap.size+2:=by rw [hB];simp [sA]
 have sD:D.heap.size=w.heap.size+3:=by rw [hD];simp [sB]
 rw [← hA,← hB,← hD]
 have kD:∀ x o,x<D.heap.size→(D.alloc o).heap[x]?=D.heap[x]?:=fun x o hx=>Below.heap_alloc _ _ _ hx
 have kB:∀ x,x<B.heap.size→D.heap[x]?=B.heap[x]?:=fun x hx=>by rw [hD];exact Below.heap_alloc _ _ _ hx
 have kA:∀ x,x<A.heap.size→B.heap[x]?=A.heap[x]?:=fun x hx=>by rw [hB];exact Below.heap_alloc _ _ _ hx
 have kw:∀ x,x<w.heap.size→A.heap[x]?=w.heap[x]?:=fun x hx=>by rw [hA];exact Below.heap_alloc _ _ _ hx
 have all:∀ x o,x<w.heap.size→(D.alloc o).heap[x]?=w.heap[x]?:=fun x o hx=>by rw [kD x o (by omega),kB x (by omega),kA x (by omega),kw x hx]
 refine ⟨?_,?_,?_,?_,?_,fun x hx _=>all x _ hx,⟨by rw [hD,hB,hA];rfl,by rw [hD,hB,hA];rfl,by rw [hD,hB,hA];rfl⟩⟩
 ·rw [kD _ _ (by omega),kB _ (by omega),kA _ (by omega),hA];exact heap_alloc_new _ _
 ·rw [kD _ _ (by omega),kB _ (by omega),hB,← sA];exact heap_alloc_new _ _
 ·rw [kD _ _ (by omega),hD,← sB];exact heap_alloc_new _ _
 ·rw [← sD];exact heap_alloc_new _ _
 ·unfold IntsAt;rw [all _ _ hl.lt];exact hl
end
end L5
namespace L5
open Go.RowKit Go.Shelf
attribute [local go_sem] Oper.semAt_some
theorem take_in (F:Fence) (n:Nat) (h16:F.fn 160) (h23:F.fn 170) (h30:F.fn 177) (hro:F.round=none) (hn:4≤n) (os:List Int) (order:List Nat) (gr gl M nn N T:Nat) (sa:Option Addr) (scap:Nat) (v1 v2:Nat→Value) (w:World) (hM:M≤20) (hM1:1≤M) (hN:N≤65536) (hNo:N=order.length) (hsc:N≤scap) (hT:T=2*N - 2)
  (hw:TakeW os order w gr gl M sa v1 v2) (hl:IntsAt w .i64 3 gl nn (fun _=>0)) (ho:∀ i∈order,i<nn) (hTl:T≤(Merge.wr (worths os order) (M - 1)).length) (hnd:order.Nodup) :
  CallsIn F n Tryz.prog 160 #[.slice (some ⟨gr,0,none⟩) M M,.slice sa N scap,.slice (some ⟨gl,0,none⟩) nn nn] w fun e w'=>e=.returned (.tuple #[])∧IntsAt w' .i64 3 gl nn (Merge.len order (worths os order) M T M)∧(∀ x,x<w.heap.size→x≠gl→w'.heap[x]?=w.heap[x]?)∧w.heap.size≤w'.heap.size∧w'.os=w.os∧w'.tape=w.tape∧w'.output=w.output:=by
 have h1:1≤n:=by omega
 have hmax:max (0:Int) (2*(N:Int) - 2)=(T:Int):=by omega
 have hw1:IntKind.i64.wrap (2*(N:Int))=2*(N:Int):=IntWalk.i64_in _ (by omega)
 have hw2:IntKind.i64.wrap (2*(N:Int) - 2)=2*(N:Int) - 2:=IntWalk.i64_in _ (by omega)
 have hgl:gl<w.heap.size:=hl.lt
 have HNO:=qz hNo
 have HT:=qz hT
 clear hT hNo
 refine callsIn_of_wp_marks Tryz.func160 rfl h16 ?_ hro
 simp only [Tryz.ntmps160,List.size_toArray,List.length_cons,List.length_nil,Nat.reduceAdd,Nat.reduceSub,Array.replicate_succ,Array.replicate_zero,List.push_toArray,List.append_toArray,List.nil_append,List.cons_append]
 gi_wp2_with (gi_at_call 170;refine (back_in F (n - 1) h23 hro _ _ _ _).mono ?_;rintro e w' ⟨rfl,rfl⟩)
 refine range_all hro h1 (gf:=177) (lb:=#[.pointer (some ⟨w.heap.size+1+1+1,0,none⟩)]) rfl h30 (enters_of Tryz.func177 (by kernel_rfl) rfl) (encB M v1 v2) M (fun _=>rfl)
  (fun k W=>TakeI w gr gl M nn N T sa scap order (worths os order) (Merge.len order (worths os order) M T k) (Merge.tk (worths os order) M T k) W)
  (fun k W W' row h hg hr=>h.grown hg (fun r e=>⟨by have:=(hr r e).1;simp at this;omega,(hr r e).2⟩))
  (by rw [show Merge.len order (worths os order) M T 0=fun _=>0 from funext fun _=>rfl];exact TakeI.start hl)
  (fun l J W hJ h0 hY=>back1_in F (n - 1) h30 hro (by omega) l (w.heap.size+3) gr M hM v1 v2 J (fun k W h=>(hJ k W h).back hw) hY W h0)
  (fun k a' W=>∃ Bx,W.heap[Bx]?=some (.cells #[v1 (M - 1 - k),v2 (M - 1 - k)] 236 (0,0))∧a'={ tmps:=#[.slice (some ⟨gr,0,none⟩) M M,.slice sa N scap,.slice (some ⟨gl,0,none⟩) nn nn,undef,.pointer (some ⟨w.heap.size,0,none⟩),.pointer (some ⟨w.heap.size+1,0,none⟩),.pointer (some ⟨w.heap.size+1+1,0,none⟩),undef,.pointer (some ⟨Bx,0,none⟩),undef,undef,undef,
   .slice sa N scap,.int .i64 (N:Int),.int .i64 (2*(N:Int)),.int .i64 (2*(N:Int) - 2),.int .i64 (T:Int),.slice (some ⟨gr,0,none⟩) M M,.func (.func 177) #[] #[.pointer (some ⟨w.heap.size+1+1+1,0,none⟩)],.int .i64 ((M - 1 - k:Nat):Int),.agg #[v1 (M - 1 - k),v2 (M - 1 - k)],undef,undef,undef,undef,undef,undef,undef,undef,undef,undef,undef,undef,undef,undef,undef,undef,undef,undef,undef,undef,undef,undef,undef,undef,undef],defers:=[] })
  (fun k a' _ W W' row h hg hr=>by
   obtain ⟨Bx,hb,e⟩:=h
   refine ⟨Bx,?_,e⟩
   rw [hg.block Bx (heap_lt hb) (fun e'=>by
    obtain ⟨_,o,ho',hc⟩:=hr Bx e'.symm
    rw [hb] at ho'
    injection ho' with ho'
    subst ho'
    simp [Obj.isCells] at hc)]
   exact hb) ?assign ?body ?done
 case assign =>
  intro l k W K hk hi hK
  obtain ⟨x1,x2,x3,e1⟩:=hw.sh (M - 1 - k) (by omega)
  obtain ⟨y1,y2,y3,_,e2,_⟩:=hw.ahd (M - 1 - k) (by omega)
  have HK:=qz hK
  have HI:=qz hi
  clear hK hi
  simp only [encB]
  rw [e1,e2] at HK ⊢
  gi_wp2
  exact uh HK _ _ (KeepsOthers.alloc _ _) ((uh HI).alloc _) ⟨W.heap.size,heap_alloc_new _ _,rfl⟩
 case body =>
  rintro l k a' W hk hi ⟨Bx,hb,rfl⟩
  obtain ⟨y1,y2,y3,hy,e2,hcell⟩:=hw.ahd (M - 1 - k) (by omega)
  obtain ⟨A,hA⟩:∃ A,A=Merge.al (worths os order) M T k:=⟨_,rfl⟩
  have hAl:=Merge.al_le (worths os order) M T k hTl hk
  have hAg:=Merge.al_get (worths os order) M T k hTl hk
  have hlen2:∀ i,Merge.len order (worths os order) M T (k+1) i=Merge.len order (worths os order) M T k i+(order.take A).count i:=fun i=>by rw [hA];rfl
  have htk2:Merge.tk (worths os order) M T (k+1)=2*(Merge.tk (worths os order) M T k - A):=by rw [hA];rfl
  have htl:=Merge.tk_le (worths os order) M T hTl k hk
  have hle2:=Merge.len_le order (worths os order) hnd M T
  rw [Merge.wr_length,worths_length,← uh HNO] at htl
  have hbl:=Merge.bk_length (worths os order) (M - 1 - k)
  rw [worths_length,← uh HNO] at hbl
  rw [← hA] at hAl hAg
  rw [worths_length,← uh HNO] at hAl
  obtain ⟨t,ht⟩:∃ t,t=Merge.tk (worths os order) M T k:=⟨_,rfl⟩
  rw [← ht] at hi hAl hAg htk2 htl
  obtain ⟨L,hL⟩:∃ L,L=(Merge.ahd (worths os order) (Merge.bk (worths os order) (M - 1 - k))).length:=⟨_,rfl⟩
  have hL2:t<L:=by rw [hL,Merge.ahd_length,worths_length,← uh HNO];omega
  have ka:=hi.cell (hcell t (by rw [← hL];exact hL2)) hy
  rw [hAg] at ka
  rw [← hL] at e2
  have cb:W.cell? ⟨Bx,1,none⟩=some (.slice (some ⟨y1,y2,none⟩) L y3):=by simp only [World.cell?,hb];rw [e2];rfl
  have c0:=hi.c0
  have c2:=hi.c2
  have hA1:(A:Int)≤(N:Int):=by omega
  have hA2:(A:Int)≤(scap:Int):=by omega
  have hA3:A≤scap:=by omega
  have htL:(t:Int)<(L:Int):=by omega
  have HI:=qz hi
  have HLEN:=qz hlen2
  have HTK:=qz htk2
  have HLE:=qz hle2
  have hsm:t≤131072:=by omega
  have hAt:=hAl.2
  have hAN:=hAl.1
  clear hi hlen2 htk2 hle2 hcell hAg hAl htl hbl hA ht hL e2 hL2 hb
  have HSY:=qz hw.sym
  have HNN:=qz ho
  clear hw hl ho hTl hnd hmax hw1 hw2
  cases sa with
  | none =>
   gi_wp2
   gi_loopw [30] (fun d ws=>∃ (q:Nat) (C:Nat→Nat),q≤A∧d=.int .i64 (q:Int)∧TakeI w gr gl M nn N T none scap order (worths os order) C t ws∧(∀ i,C i=Merge.len order (worths os order) M T k i+(order.take q).count i)∧KeepsOthers W ws) (fun d _=>A - (intOf d).toNat)
   case atStart=>exact ⟨0,_,Nat.zero_le _,rfl,uh HI,fun i=>by simp,KeepsOthers.refl _⟩
   case round =>
    obtain ⟨q,C,hq,rfl,hat,hC,hko⟩:=hrel
    by_cases hlt:q<A
    ·exfalso
     have:=(uh HSY) (by rw [← uh HNO];omega)
     obtain ⟨g,off,e,_⟩:=this
     cases e
    ·obtain rfl:q=A:=by omega
     have c2':=hat.c2
     have f2':=hat.f2
     have HC:Hid (C=Merge.len order (worths os order) M T (k+1)):=qz (funext fun i=>by rw [hC,uh HLEN])
     have HT2:=qz (hat.taken hgl (2*(t - q)))
     have HKO:=qz hko
     have hqi:¬ (q:Int)<(q:Int):=by omega
     obtain ⟨z,hz⟩:∃ z:Nat,z=t - q:=⟨_,rfl⟩
     have hz1:(t:Int) - (q:Int)=(z:Int):=by omega
     rw [← hz] at HT2
     have HZ:=qz hz
     have hzs:z≤131072:=by omega
     clear hat hC hko c0 c2 ka cb hz
     gi_wp2
     refine ⟨(uh HKO).trans (KeepsOthers.setCell _ _ _),?_⟩
     have hfin:=uh HT2
     rw [uh HC] at hfin
     rw [uh HTK,← uh HZ]
     have e:((2*z:Nat):Int)=2*(z:Int):=by omega
     rw [e] at hfin
     exact hfin
  | some ad =>
   gi_wp2
   gi_loopw [30] (fun d ws=>∃ (q:Nat) (C:Nat→Nat),q≤A∧d=.int .i64 (q:Int)∧TakeI w gr gl M nn N T (some ad) scap order (worths os order) C t ws∧(∀ i,C i=Merge.len order (worths os order) M T k i+(order.take q).count i)∧KeepsOthers W ws) (fun d _=>A - (intOf d).toNat)
   case atStart=>exact ⟨0,_,Nat.zero_le _,rfl,uh HI,fun i=>by simp,KeepsOthers.refl _⟩
   case round =>
    obtain ⟨q,C,hq,rfl,hat,hC,hko⟩:=hrel
    by_cases hlt:q<A
    ·obtain ⟨g,off,e,hne,hc⟩:=(uh HSY) (by rw [← uh HNO];omega)
     injection e with e
     subst e
     have hqo:q<order.length:=by rw [← uh HNO];omega
     have s1:=hat.cell (hc q hqo).1 hne
     have s2:=hat.cell (hc q hqo).2 hne
     obtain ⟨s,hs⟩:∃ s,s=order.getD q 0:=⟨_,rfl⟩
     obtain ⟨u,hu⟩:∃ u,u=wt os (order.getD q 0):=⟨_,rfl⟩
     rw [← hs] at s1
     rw [← hu] at s2
     have hsn:s<nn:=uh HNN s (by rw [hs];simp [hqo])
     have hcs:order.take (q+1)=order.take q++[s]:=by rw [hs];simp [hqo]
     have z1:w.heap.size+1<wr.heap.size:=heap_lt hat.b1
     have z2:gl<wr.heap.size:=hat.ln.lt
     have l1:=hat.ln.cell s hsn
     have l2:=hat.ln.free s
     have c1:=hat.c1
     have hcb:C s≤1000000:=by have h1:=hC s;have h2:=uh HLE s k;have h3:(order.take q).count s≤q:=Nat.le_trans List.count_le_length (by simp;omega);omega
     obtain ⟨cs,hcs2⟩:∃ cs,cs=C s:=⟨_,rfl⟩
     rw [← hcs2] at l1 hcb
     have hsni:(s:Int)<(nn:Int):=by omega
     have hqi:(q:Int)<(A:Int):=by omega
     have HX:=qz (hat.inc hgl s (cs+1))
     have HC2:Hid (∀ i,upd C s (cs+1) i=Merge.len order (worths os order) M T k i+(order.take (q+1)).count i):=qz fun i=>by
      rw [hcs,List.count_append]
      unfold upd
      by_cases e:i=s
      ·subst e;rw [if_pos rfl,hcs2,hC];simp;omega
      ·rw [if_neg e,hC,List.count_singleton,if_neg (by simp;omega)];omega
     have HKO:=qz hko
     have hw3:IntKind.i64.wrap ((cs:Int)+1)=(cs:Int)+1:=IntWalk.i64_in _ (by omega)
     clear hat hC hko hc hs hu hcs hcs2 c0 c2 ka cb
     gi_wp2
     have hx:=uh HX
     rw [show ((cs+1:Nat):Int)=(cs:Int)+1 by omega] at hx
     refine ⟨⟨q+1,_,by omega,by congr 1,hx.alloc _,uh HC2,((uh HKO).trans (KeepsOthers.setCell _ _ _)).trans (KeepsOthers.alloc _ _)⟩,by simp [intOf];omega⟩
    ·obtain rfl:q=A:=by omega
     have c2':=hat.c2
     have f2':=hat.f2
     have HC:Hid (C=Merge.len order (worths os order) M T (k+1)):=qz (funext fun i=>by rw [hC,uh HLEN])
     have HT2:=qz (hat.taken hgl (2*(t - q)))
     have HKO:=qz hko
     have hqi:¬ (q:Int)<(q:Int):=by omega
     obtain ⟨z,hz⟩:∃ z:Nat,z=t - q:=⟨_,rfl⟩
     have hz1:(t:Int) - (q:Int)=(z:Int):=by omega
     rw [← hz] at HT2
     have HZ:=qz hz
     have hzs:z≤131072:=by omega
     clear hat hC hko c0 c2 ka cb hz
     gi_wp2
     refine ⟨(uh HKO).trans (KeepsOthers.setCell _ _ _),?_⟩
     have hfin:=uh HT2
     rw [uh HC] at hfin
     rw [uh HTK,← uh HZ]
     have e:((2*z:Nat):Int)=2*(z:Int):=by omega
     rw [e] at hfin
     exact hfin
 case done =>
  rintro D W hD hi hK
  gi_wp2
  refine ⟨by simp,.inl ⟨_,_,rfl,run_takeDeferred hK,?_⟩⟩
  have hi2:=hi.grown (grownBy_putObj' W D (.deferred none)) (fun r e=>by cases e;exact ⟨by simp at hD;omega,_,hK,rfl⟩)
  exact ⟨_,results_none rfl _ _ _,rfl,hi2.ln,hi2.kp,Nat.le_of_lt (heap_lt hi2.b0),hi2.st⟩
theorem take_ok (os:List Int) (order:List Nat) (gr gl M nn N T:Nat) (sa:Option Addr) (scap:Nat) (v1 v2:Nat→Value) (w:World) (hM:M≤20) (hM1:1≤M) (hN:N≤65536) (hNo:N=order.length) (hsc:N≤scap) (hT:T=2*N - 2)
  (hw:TakeW os order w gr gl M sa v1 v2) (hl:IntsAt w .i64 3 gl nn (fun _=>0)) (ho:∀ i∈order,i<nn) (hTl:T≤(Merge.wr (worths os order) (M - 1)).length) (hnd:order.Nodup) :
  Calls Tryz.prog 160 #[.slice (some ⟨gr,0,none⟩) M M,.slice sa N scap,.slice (some ⟨gl,0,none⟩) nn nn] w fun e w'=>e=.returned (.tuple #[])∧IntsAt w' .i64 3 gl nn (Merge.len order (worths os order) M T M)∧(∀ x,x<w.heap.size→x≠gl→w'.heap[x]?=w.heap[x]?)∧w.heap.size≤w'.heap.size∧w'.os=w.os∧w'.tape=w.tape∧w'.output=w.output :=
 (callsIn_wide (n:=4)).1 (take_in _ 4 trivial trivial trivial rfl (by omega) os order gr gl M nn N T sa scap v1 v2 w hM hM1 hN hNo hsc hT hw hl ho hTl hnd)
end L5
namespace L5
open Go.RowKit
def NoneBelow (zs:List Int):Prop:=∀ j,j<zs.length→0≤zs.getD j 0
theorem below_ok (v:Value) (zs:List Int) (w:World) (hr:ReadsI w v zs) (hlen:zs.length≤140737488355328) :
  Calls Tryz.prog 157 #[v] w fun e w'=>(e=.returned (.bool false)∧NoneBelow zs∨e=.returned (.bool true)∧¬ NoneBelow zs)∧w'=w:=by
 obtain ⟨a,cap,rfl,hsp⟩:=hr
 have HSP:=qz hsp
 clear hsp
 obtain ⟨m,hm⟩:∃ m,m=zs.length:=⟨_,rfl⟩
 rw [← hm] at HSP hlen ⊢
 have HM:=qz hm
 clear hm
 go_enter Tryz.func157,Tryz.ntmps157
 go_wp2_with fail
 go_loopg [7] m (fun gk d ws=>∃ (k:Nat),gk=m - k∧k≤m∧(∀ j,j<k→0≤zs.getD j 0)∧d=.int .i64 (k:Int)∧ws=w)
 case atStart=>exact ⟨0,by omega,by omega,fun j h=>by omega,rfl,rfl⟩
 case round =>
  obtain ⟨k,rfl,hk,hgood,rfl,rfl⟩:=hrel
  by_cases hlt:k<m
  ·obtain ⟨b,off,rfl,hcell⟩:=uh HSP (by omega)
   obtain ⟨z,hz⟩:∃ z,z=zs.getD k 0:=⟨_,rfl⟩
   have k1:=hcell k hlt
   rw [← hz] at k1
   have hki:(k:Int)<(m:Int):=by omega
   by_cases hok:z<0
   ·have HNO:Hid (¬ NoneBelow zs):=qz fun hb=>by have:=hb k (by rw [← uh HM];exact hlt);omega
    clear hcell hz hgood
    go_wp2_with fail
    go_ret
    exact ⟨.inr ⟨rfl,uh HNO⟩,rfl⟩
   ·have HG:Hid (∀ j,j<k+1→0≤zs.getD j 0):=qz fun j hj=>by
     by_cases e:j=k
     ·rw [e,← hz];omega
     ·exact hgood j (by omega)
    clear hcell hz hgood
    go_wp2_with fail
    go_roundg (m - (k+1))
    case measure=>omega
    case rel=>exact ⟨k+1,rfl,by omega,uh HG,by go_num,rfl⟩
  ·obtain rfl:k=m:=by omega
   have HYES:Hid (NoneBelow zs):=qz (by unfold NoneBelow;rw [← uh HM];exact hgood)
   clear hgood
   go_wp2_with fail
   go_ret
   exact ⟨.inl ⟨rfl,uh HYES⟩,rfl⟩
def acc (os ls:List Int):Nat→Nat
 | 0=>0
 | k+1=>acc os ls k+(os.getD k 0).toNat*(ls.getD k 0).toNat
end L5
namespace L5
open Go.RowKit Go.Sort Go.Lib
attribute [local go_sem ↓] wp_at_zero wp_at_succ
def tot (os:List Int):Nat→Nat
 | 0=>0
 | k+1=>tot os k+wt os k
theorem tot_mono (os:List Int) {j k:Nat} (h:j≤k):tot os j≤tot os k:=by
 induction k with
 | zero=>obtain rfl:j=0:=by omega
         exact Nat.le_refl _
 | succ k ih =>
  by_cases e:j=k+1
  ·subst e;exact Nat.le_refl _
  ·have:=ih (by omega)
   rw [tot]
   omega
theorem fits_ok (v:Value) (zs:List Int) (w:World) (hr:ReadsI w v zs) (hlen:zs.length≤65536) (hnb:NoneBelow zs) :
  Calls Tryz.prog 158 #[v] w fun e w'=>(e=.returned (.bool true)∧tot zs zs.length≤1099511627776∨e=.returned (.bool false)∧1099511627776<tot zs zs.length)∧w'=w:=by
 obtain ⟨a,cap,rfl,hsp⟩:=hr
 have HSP:=qz hsp
 have HNB:=qz hnb
 clear hsp hnb
 obtain ⟨m,hm⟩:∃ m,m=zs.length:=⟨_,rfl⟩
 rw [← hm] at HSP hlen ⊢
 have HM:=qz hm
 clear hm
 go_enter Tryz.func158,Tryz.ntmps158
 go_wp2_with fail
 go_loopg [3,8] m (fun gk c d ws=>∃ (k:Nat),gk=m - k∧k≤m∧tot zs k≤1099511627776∧c=.int .i64 (1099511627776 - (tot zs k:Int))∧d=.int .i64 (k:Int)∧ws=w)
 case atStart=>exact ⟨0,by omega,by omega,by simp [tot],by simp [tot],rfl,rfl⟩
 case round =>
  obtain ⟨k,rfl,hk,hgood,rfl,rfl,rfl⟩:=hrel
  by_cases hlt:k<m
  ·obtain ⟨b,off,rfl,hcell⟩:=uh HSP (by omega)
   have k1:=hcell k hlt
   have hz:=uh HNB k (by rw [← uh HM];exact hlt)
   obtain ⟨z,hzz⟩:=Int.eq_ofNat_of_zero_le hz
   have hw:wt zs k=z:=by unfold wt;rw [hzz,Int.toNat_natCast]
   rw [hzz] at k1
   have hs:tot zs (k+1)=tot zs k+z:=by rw [tot,hw]
   have HB:Hid (1099511627776<tot zs k+z→1099511627776<tot zs m):=qz fun h=>by
    have:=tot_mono zs (show k+1≤m by omega)
    omega
   obtain ⟨t,ht⟩:∃ t,t=tot zs k:=⟨_,rfl⟩
   rw [← ht] at hs hgood HB ⊢
   have HS:=qz hs
   have hki:(k:Int)<(m:Int):=by omega
   clear hcell hz hzz hw hs ht
   by_cases hbig:1099511627776 - (t:Int)<(z:Int)
   ·go_wp2_with fail
    go_ret
    exact ⟨.inr ⟨rfl,uh HB (by omega)⟩,rfl⟩
   ·go_wp2_with fail
    go_roundg (m - (k+1))
    case measure=>omega
    case rel=>exact ⟨k+1,rfl,by omega,by rw [uh HS];omega,by rw [uh HS];go_num,by go_num,rfl⟩
  ·obtain rfl:k=m:=by omega
   have HYES:Hid (tot zs k≤1099511627776):=qz hgood
   obtain ⟨t,ht⟩:∃ t,t=tot zs k:=⟨_,rfl⟩
   rw [← ht]
   clear hgood ht
   go_wp2_with fail
   go_ret
   exact ⟨.inl ⟨rfl,uh HYES⟩,rfl⟩
structure WhoAt (os:List Int) (w ws:World) (v:Value) (k:Nat):Prop where
 own:ws.ownsRow w.heap.size 222 2 v (raw os k).length (crow os (raw os k))
 bel:Below w.heap.size w ws
theorem WhoAt.app {os:List Int} {w ws w1:World} {v v':Value} {k:Nat} (h:WhoAt os w ws v k) (hp:0<wt os k) (o:Obj) (hown:w1.ownsRow w.heap.size 222 2 v' ((raw os k).length+1) (crow os (raw os k)++[iv (k:Nat),iv (wt os k:Nat)])) (hg:(ws.alloc o).grownBy w1 v.ownBlock):WhoAt os w w1 v' (k+1):=by
 refine ⟨?_,h.bel.trans ⟨hg.os,hg.tape,hg.output,by have:=hg.size;simp at this;omega,fun x hx=>?_⟩⟩
 ·rw [raw_succ,if_pos hp,crow_snoc,List.length_append]
  exact hown
 ·have hs:=h.bel.size
  rw [hg.block x (by simp;omega) (fun e=>by have:=(h.own.lt x e.symm).1;omega),Below.heap_alloc _ _ _ (by omega)]
theorem news_pair (a b:Int) (ws:World):∀ j u,[iv a,iv b][j]?=some u→(ws.alloc (.cells #[.int .i64 a,.int .i64 b] 222)).cell? ((⟨ws.heap.size,0,none⟩:Addr).add j)=some u:=by
 intro j u hj
 have hadd:(⟨ws.heap.size,0,none⟩:Addr).add j=⟨ws.heap.size,j,none⟩:=by unfold Addr.add;split <;> simp_all
 rw [hadd]
 simp only [World.cell?,heap_alloc_new]
 rcases j with _ | _ | j
 ·simp [iv] at hj;subst hj;rfl
 ·simp [iv] at hj;subst hj;rfl
 ·simp at hj
theorem who_ok (v:Value) (os:List Int) (w:World) (hr:ReadsI w v os) (hlen:os.length≤65536) (hnb:NoneBelow os) :
  Calls Tryz.prog 159 #[v] w fun e w'=>∃ v' l,e=.returned v'∧IsOrder os l∧l.length≤os.length∧ComesAt w' v' os l∧Below w.heap.size w w':=by
 obtain ⟨a,cap,rfl,hsp⟩:=hr
 obtain ⟨i0,hii,hz0,hz1,hz2⟩:=info_parts info41
 have HSP:=qz hsp
 have HNB:=qz hnb
 clear hsp hnb
 obtain ⟨m,hm⟩:∃ m,m=os.length:=⟨_,rfl⟩
 rw [← hm] at HSP hlen ⊢
 have HM:=qz hm
 clear hm
 go_enter Tryz.func159,Tryz.ntmps159
 go_wp2_with fail
 go_loopg [3,8] m (fun gk c d ws=>∃ (k:Nat) (c0:Value),gk=m - k∧k≤m∧c0=c∧WhoAt os w ws c0 k∧d=.int .i64 (k:Int))
 case atStart=>exact ⟨0,_,by omega,by omega,rfl,⟨⟨by simp [raw,crow],.inl ⟨rfl,by simp [raw]⟩⟩,Below.refl _ _⟩,rfl⟩
 case round =>
  obtain ⟨k,c0,rfl,hk,rfl,hat,rfl⟩:=hrel
  by_cases hlt:k<m
  ·obtain ⟨b,off,rfl,hcell⟩:=uh HSP (by omega)
   have k1:=cell_stays hat.bel (hcell k hlt)
   have hz:=uh HNB k (by rw [← uh HM];exact hlt)
   obtain ⟨z,hzz⟩:=Int.eq_ofNat_of_zero_le hz
   have hw:wt os k=z:=by unfold wt;rw [hzz,Int.toNat_natCast]
   rw [hzz] at k1
   have hki:(k:Int)<(m:Int):=by omega
   have HAT:=qz hat
   have HW:=qz hw
   have hrl:(raw os k).length≤k:=raw_len os k
   obtain ⟨q,hq⟩:∃ q,q=(raw os k).length:=⟨_,rfl⟩
   rw [← hq] at hrl
   have HQ:=qz hq
   clear hcell hz hzz hw hat hq
   by_cases h0:z=0
   ·subst h0
    have HA2:Hid (WhoAt os w wr c0 (k+1)):=qz (by
     have:=uh HAT
     have e:raw os (k+1)=raw os k:=by rw [raw_succ,if_neg (by rw [uh HW];omega)]
     exact ⟨by rw [e];exact this.own,this.bel⟩)
    go_wp2_with fail
    go_roundg (m - (k+1))
    case measure=>omega
    case rel=>exact ⟨k+1,_,rfl,by omega,rfl,uh HA2,by go_num⟩
   ·have h0':(0:Int)<(z:Int):=by omega
    have HOWN:Hid ((wr.alloc (.cells #[.int .i64 (k:Int),.int .i64 (z:Int)] 222)).ownsRow w.heap.size 222 2 c0 q (crow os (raw os k))):=qz (by
     have:=(uh HAT).own
     rw [← uh HQ] at this
     exact this.alloc _)
    go_wp2_with (at_builtin;go_must (refine wpList_append_own _ rfl (.tmp 15) (.tmp 19) 219 rfl w.heap.size 222 i0 _ 2 16 Tryz.underlying219 hii hz0 hz1 hz2 rfl (by decide) _ q (crow os (raw os k)) (by rfl) (uh HOWN) ⟨wr.heap.size,0,none⟩ 1 1 [iv (k:Int),iv (z:Int)] (by rfl) (by rfl) (news_pair (k:Int) (z:Int) wr) (by intro u hu;simp at hu;rcases hu with rfl | rfl <;> rfl) (by unfold maxLen;omega) (by omega) (by have:=(uh HAT).bel.size;simp;omega) ?_;intro v' w1 hown hgrow hiff;have HX:Hid (WhoAt os w w1 v' (k+1)):=qz ((uh HAT).app (by rw [uh HW];omega) _ (by rw [← uh HQ,uh HW];exact hown) hgrow);clear hown hgrow hiff))
    go_roundg (m - (k+1))
    case measure=>omega
    case rel=>exact ⟨k+1,_,rfl,by omega,rfl,uh HX,by go_num⟩
  ·obtain rfl:k=m:=by omega
   have HS:=qz (sort_ok os w.heap.size (raw os os.length).length c0 wr (by have:=hat.own;rw [uh HM] at this;exact this) rfl (by have:=raw_len os os.length;rw [← uh HM] at this ⊢;omega))
   have HB:=qz hat.bel
   clear hat
   go_wp2_with (go_at_call 166;go_must (refine (uh HS).mono ?_;rintro e w' ⟨rfl,l,hl,hlen,hc,hb⟩;have HL:=qz hl;have HC:=qz hc;have HB2:=qz ((uh HB).trans (hb (uh HB).size));have HLEN:Hid (l.length≤k):=qz (by rw [hlen];have:=raw_len os os.length;rw [← uh HM] at this ⊢;exact this);clear hl hlen hc hb))
   go_ret
   exact ⟨c0,l,rfl,uh HL,uh HLEN,uh HC,uh HB2⟩
end L5
namespace L5
open Go.RowKit Go.Sort Go.Lib
attribute [local go_sem ↓] wp_at_zero wp_at_succ
def LArgs (os:List Int) (most:Int):Prop:=1≤most∧most≤20∧os.length≤65536∧NoneBelow os
def ans (os:List Int) (l:List Nat) (M:Nat):Nat→Nat :=
 if l.length=1 then fun i=>if i=l.getD 0 0 then 1 else 0 else Merge.len l (worths os l) M (2*l.length - 2) M
def LensIs (os:List Int) (most:Int) (v:Value) (x:Int) (lo:Nat) (w':World):Prop :=
 (¬ LArgs os most∧v=.slice none 0 0∧x=2) ∨
 (LArgs os most∧1099511627776<tot os os.length∧v=.slice none 0 0∧x=3) ∨
 (LArgs os most∧tot os os.length≤1099511627776∧(∃ l,IsOrder os l∧2 ^ most.toNat<l.length)∧v=.slice none 0 0∧x=13) ∨
 (LArgs os most∧tot os os.length≤1099511627776∧x=0∧∃ l g,IsOrder os l∧l.length≤2 ^ most.toNat∧v=.slice (some ⟨g,0,none⟩) os.length os.length∧lo≤g∧IntsAt w' .i64 3 g os.length (ans os l most.toNat))
theorem tot_raw (os:List Int):∀ n,((raw os n).map (wt os)).sum=tot os n
 | 0=>by simp [raw,tot]
 | n+1=>by
  rw [raw_succ,tot,← tot_raw os n]
  by_cases h:0<wt os n
  ·rw [if_pos h];simp
  ·rw [if_neg h];omega
theorem order_sum {os:List Int} {l:List Nat} (h:IsOrder os l):(worths os l).sum=tot os os.length:=by
 have hp:l.Perm (raw os os.length):=(List.perm_ext_iff_of_nodup h.nodup (raw_nodup os _)).2 fun i=>by rw [h.mem,raw_mem]
 rw [← tot_raw os os.length]
 exact (hp.map (wt os)).sum_nat
theorem worths_fs (os:List Int) (l:List Nat):worths os l=Merge.fs (Merge.baseOf (wt os) l):=by
 unfold worths Merge.fs Merge.baseOf
 rw [List.map_map]
 rfl
theorem wr_small {os:List Int} {l:List Nat} (h:IsOrder os l) (ht:tot os os.length≤1099511627776):∀ k,k<20→∀ x∈Merge.wr (worths os l) k,x≤1152921504606846976:=fun k hk x hx=>by
 have h1:Merge.worth (Merge.baseOf (wt os) l)=tot os os.length:=by
  rw [← order_sum h,worths_fs]
  rfl
 rw [worths_fs] at hx
 have h2:=Merge.wr_le (Merge.baseOf (wt os) l) k x hx
 rw [h1] at h2
 have h3:(k+1)*tot os os.length≤20*1099511627776:=Nat.mul_le_mul (by omega) ht
 omega
theorem takew_of {os:List Int} {l:List Nat} {w1 w3:World} {sa:Option Addr} {scap gl gr M:Nat} (hc:ComesAt w1 (.slice sa l.length scap) os l) (hgl:w1.heap.size≤gl) (hb:Below w1.heap.size w1 w3) (hr:RoundsAt w3 gr M (worths os l) M) (hgr:gl<gr) :
  ∃ v1 v2,TakeW os l w3 gr gl M sa v1 v2:=by
 have hg:∀ j,∃ p:Value × Value,j<M→w3.cell? ⟨gr,j*2,none⟩=some p.1∧w3.cell? ⟨gr,j*2+1,none⟩=some p.2∧ReadsF (gr+1) w3 p.2 (ints (Merge.ahd (worths os l) (Merge.bk (worths os l) j)))∧∃ a l c,p.1=.slice a l c:=fun j=>by
  by_cases h:j<M
  ·obtain ⟨a,b,h1⟩:=hr.got j h
   exact ⟨(a,b),fun _=>h1⟩
  ·exact ⟨(.slice none 0 0,.slice none 0 0),fun h'=>absurd h' h⟩
 refine ⟨fun j=>(Classical.choose (hg j)).1,fun j=>(Classical.choose (hg j)).2,⟨?_,by omega,fun j hj=>(Classical.choose_spec (hg j) hj).1,fun j hj=>(Classical.choose_spec (hg j) hj).2.1,fun j hj=>(Classical.choose_spec (hg j) hj).2.2.2,fun j hj=>?_⟩⟩
 ·intro h0
  obtain ⟨a,cap,e,_,hs⟩:=hc
  injection e with e1 e2 e3
  subst e1
  obtain ⟨g,off,e,h2⟩:=hs h0
  refine ⟨g,off,e,?_,fun j hj=>⟨cell_stays hb (h2 j hj).1,by rw [Nat.add_assoc];exact cell_stays hb (h2 j hj).2⟩⟩
  have:=cell_lt (h2 0 h0).1
  simp only at this
  omega
 ·obtain ⟨a,cap,e,hs⟩:=(Classical.choose_spec (hg j) hj).2.2.1
  rw [ints_length] at e hs
  obtain ⟨b,off,e',hlo,hcell⟩:=hs (by rw [Merge.ahd_length];omega)
  subst e'
  exact ⟨b,off,cap,by omega,e,fun i hi=>by rw [hcell i hi,ints_get _ i hi]⟩
theorem taken_fits {os:List Int} {l:List Nat} {M:Nat} (hM:1≤M) (hn:l.length≤2 ^ M):2*l.length - 2≤(Merge.wr (worths os l) (M - 1)).length:=by
 rw [worths_fs,← (Merge.bk_fs (Merge.baseOf (wt os) l) (M - 1)).2,Merge.fs_length]
 exact Merge.enough (wt os) l M hM hn
theorem wrap64_eq (x:Int):wrap64 x=IntKind.i64.wrap x:=by first | rfl | (unfold wrap64;rfl) | simp [wrap64,IntKind.wrap_i64]
structure Mid (os:List Int) (l:List Nat) (w w1 W2:World) (gl:Nat) (sa:Option Addr) (scap N n:Nat):Prop where
 ord:IsOrder os l
 len:N=l.length
 com:ComesAt w1 (.slice sa N scap) os l
 bel:Below w.heap.size w w1
 gle:gl=w1.heap.size
 wor:W2=w1.alloc (.cells (icells .i64 n fun _=>0) 3)
 made:(Instr.makeSlice 45 (.int .i64 (n:Int)) (.int .i64 (n:Int))).run Tryz.prog w1=.ok (.slice (some ⟨w1.heap.size,0,none⟩) n n) (w1.alloc (.cells (icells .i64 n fun _=>0) 3))
section
variable {os:List Int} {l:List Nat} {w w1 W2:World} {gl:Nat} {sa:Option Addr} {scap N n M:Nat}
theorem Mid.play (h:Mid os l w w1 W2 gl sa scap N n) (hM:M≤20) (h2:N≤n) (hn:n≤65536) (hf:tot os os.length≤1099511627776) :
  Calls Tryz.prog 161 #[.slice sa N scap,.int .i64 (M:Int)] (w1.alloc (.cells (icells .i64 n fun _=>0) 3)) fun e w3=>∃ gr,e=.returned (.slice (some ⟨gr,0,none⟩) M M)∧RoundsAt w3 gr M (worths os l) M∧w1.heap.size+1≤gr∧Below (w1.heap.size+1) (w1.alloc (.cells (icells .i64 n fun _=>0) 3)) w3:=by
 refine (play_ok os l M _ _ (h.com.stays ((Below.refl _ _).alloc (Nat.le_refl _) _)) (by rw [← h.len];omega) hM (wr_small h.ord hf)).mono fun e w3 ⟨gr,he,h1,h2,h3⟩=>⟨gr,he,h1,by simpa using h2,by simpa using h3⟩
theorem Mid.take {w3:World} {gr:Nat} (h:Mid os l w w1 W2 gl sa scap N n) (hM1:1≤M) (hM:M≤20) (h2:N≤n) (h5:N≤scap) (hn:n≤65536) (hN:N≤2 ^ M) (hno:n=os.length) (hp:RoundsAt w3 gr M (worths os l) M∧w1.heap.size+1≤gr∧Below (w1.heap.size+1) (w1.alloc (.cells (icells .i64 n fun _=>0) 3)) w3) :
  Calls Tryz.prog 160 #[.slice (some ⟨gr,0,none⟩) M M,.slice sa N scap,.slice (some ⟨w1.heap.size,0,none⟩) n n] w3 fun e w4=>e=.returned (.tuple #[])∧IntsAt w4 .i64 3 w1.heap.size n (Merge.len l (worths os l) M (2*N - 2) M)∧Below w.heap.size w w4:=by
 obtain ⟨p1,p2,p3⟩:=hp
 have hb1:Below w1.heap.size w1 w3:=((Below.refl _ _).alloc (Nat.le_refl _) _).trans (p3.mono (by omega))
 have hc:=h.com
 rw [h.len] at hc
 obtain ⟨v1,v2,hTW⟩:=takew_of (gl:=w1.heap.size) hc (Nat.le_refl _) hb1 p1 (by omega)
 have hz:IntsAt (w1.alloc (.cells (icells .i64 n fun _=>0) 3)) .i64 3 w1.heap.size n (fun _=>0):=heap_alloc_new _ _
 have hl:=hz.stays p3 (by omega)
 refine (take_ok os l gr w1.heap.size M n N (2*N - 2) sa scap v1 v2 w3 hM hM1 (by omega) h.len h5 rfl hTW hl (fun i hi=>by rw [hno];exact ((h.ord.mem i).1 hi).1) (by rw [h.len] at hN ⊢;exact taken_fits hM1 hN) h.ord.nodup).mono ?_
 rintro e w4 ⟨rfl,q1,q2,q3,q4,q5,q6⟩
 refine ⟨rfl,q1,?_⟩
 have hb2:Below w.heap.size w w3:=h.bel.trans (hb1.mono h.bel.size)
 have hs:=h.bel.size
 exact hb2.trans ⟨q4,q5,q6,q3,fun k hk=>q2 k (by have:=hb2.size;omega) (by omega)⟩
theorem Mid.three (h:Mid os l w w1 W2 gl sa scap N n) (P2:Nat) (hno:n=os.length):((P2:Int)<(N:Int))∨(∃ g off s,¬ (P2:Int)<(N:Int)∧(0:Int)<(N:Int)∧((N:Int) == 1)=true∧some ⟨g,off,none⟩=sa∧w1.cell? ⟨g,off,none⟩=some (.int .i64 (s:Nat))∧g<w1.heap.size∧s<n∧Hid (s=l.getD 0 0) ∧
   (w1.alloc (.cells (icells .i64 n fun _=>0) 3)).cell? ⟨w1.heap.size,s,none⟩=some (.int .i64 0)∧(w1.alloc (.cells (icells .i64 n fun _=>0) 3)).frozen? ⟨w1.heap.size,s,none⟩=false)∨(¬ (P2:Int)<(N:Int)∧((N:Int) == 1)=false):=by
 by_cases h0:(P2:Int)<(N:Int)
 ·exact .inl h0
 ·cases h2:((N:Int) == 1)
  ·exact .inr (.inr ⟨h0,rfl⟩)
  ·refine .inr (.inl ?_)
   have h3:N=1:=by simp at h2;omega
   obtain ⟨a,cap,e,_,hs⟩:=h.com
   injection e with e1 e2 e3
   subst e1
   have hl1:l.length=1:=by rw [← h.len];exact h3
   obtain ⟨g,off,e,hc⟩:=hs (by omega)
   have c1:=(hc 0 (by omega)).1
   rw [Nat.zero_mul,Nat.add_zero] at c1
   have hm:l.getD 0 0∈l:=by rw [List.getD_eq_getElem?_getD,List.getElem?_eq_getElem (by omega)];exact List.getElem_mem _
   have hsn:l.getD 0 0<n:=by rw [hno];exact ((h.ord.mem _).1 hm).1
   have hz:IntsAt (w1.alloc (.cells (icells .i64 n fun _=>0) 3)) .i64 3 w1.heap.size n (fun _=>0):=heap_alloc_new _ _
   exact ⟨g,off,l.getD 0 0,h0,by omega,rfl,e.symm,c1,cell_lt c1,hsn,qz rfl,hz.cell _ hsn,hz.free _⟩
end
theorem lens_good (os:List Int) (M:Nat) (a:Option Addr) (cap:Nat) (w:World) (hr:ReadsI w (.slice a os.length cap) os) (hM1:1≤M) (hM2:M≤20) (hlen:os.length≤65536) (hnb:NoneBelow os) :
  Calls Tryz.prog 141 #[.slice a os.length cap,.int .i64 (M:Int)] w fun e w'=>∃ v x,e=.returned (.tuple #[v,.int .i64 x])∧LensIs os (M:Int) v x w.heap.size w'∧Below w.heap.size w w':=by
 have HA:Hid (LArgs os (M:Int)):=qz ⟨by omega,by omega,hlen,hnb⟩
 have HB:Hid (Calls Tryz.prog 157 #[.slice a os.length cap] w fun e w'=>e=.returned (.bool false)∧w'=w):=qz ((below_ok _ os w hr (by omega)).mono fun e w' ⟨h1,h2⟩=>⟨by rcases h1 with ⟨h,_⟩ | ⟨_,h⟩;exact h;exact absurd hnb h,h2⟩)
 have HF:=qz (fits_ok _ os w hr hlen hnb)
 have HWH:=qz (who_ok _ os w hr hlen hnb)
 clear hr hnb
 by_cases hfit:tot os os.length≤1099511627776
 ·have HF2:Hid (Calls Tryz.prog 158 #[.slice a os.length cap] w fun e w'=>e=.returned (.bool true)∧w'=w):=qz ((uh HF).mono fun e w' ⟨h1,h2⟩=>⟨by rcases h1 with ⟨h,_⟩ | ⟨_,h⟩;exact h;omega,h2⟩)
  have HFIT:=qz hfit
  clear HF hfit
  obtain ⟨n,hn⟩:∃ n,n=os.length:=⟨_,rfl⟩
  rw [← hn] at HB HF2 HWH hlen ⊢
  have HN:=qz hn
  clear hn
  have t1:¬ (M:Int)<1:=by omega
  have t2:¬ (20:Int)<(M:Int):=by omega
  have t3:¬ (65536:Int)<(n:Int):=by omega
  obtain ⟨P2,hP2⟩:∃ P2,P2=2 ^ M:=⟨_,rfl⟩
  have hsh:wrap64 ((2:Int) ^ M)=(P2:Int):=by
   have h1:2 ^ M≤2 ^ 20:=Nat.pow_le_pow_right (by decide) hM2
   have h2:((2:Int) ^ M)=((2 ^ M:Nat):Int):=by simp
   rw [h2,← hP2]
   have h3:P2≤1048576:=by rw [hP2];exact h1
   rw [wrap64_eq]
   exact IntWalk.i64_in (P2:Int) (by omega)
  have HP2:=qz hP2
  have hP2b:P2≤1048576:=by rw [hP2];exact Nat.pow_le_pow_right (by decide) hM2
  clear hP2
  have HWH2:Hid (Calls Tryz.prog 159 #[.slice a n cap] w fun e w1=>∃ sa scap l N W2 gl,e=.returned (.slice sa N scap)∧N≤n∧N≤scap∧Mid os l w w1 W2 gl sa scap N n):=qz ((uh HWH).mono fun e w1 ⟨sv,l,he,hl1,hl2,hl3,hl4⟩=>by
   obtain ⟨sa,scap,rfl,hl5,hl6⟩:=id hl3
   exact ⟨sa,scap,l,l.length,_,_,he,hl2,hl5,⟨hl1,rfl,hl3,hl4,rfl,rfl,ints_made w1 n hlen⟩⟩)
  clear HWH
  go_enter Tryz.func141,Tryz.ntmps141
  go_wp2_with (first | (go_at_call 157;go_must (refine (uh HB).mono ?_;rintro e w' ⟨rfl,hww⟩;replace hww:=hww.symm;subst hww)) | (go_at_call 158;go_must (refine (uh HF2).mono ?_;rintro e w' ⟨rfl,hww⟩;replace hww:=hww.symm;subst hww)) | (go_at_call 159;go_must (refine (uh HWH2).mono ?_;rintro e w1 ⟨sa,scap,l,N,W2,gl,rfl,hl2,hl5,hmid⟩;have HMID:=qz hmid;have hmk:=hmid.made;clear hmid;rcases (uh HMID).three P2 (uh HN) with q1 | ⟨g,off,s,q1,q0,q2,rfl,q3,q4,q5,q6,q7,q8⟩ | ⟨q1,q2⟩)) | (go_at_call 161;go_must (refine ((uh HMID).play hM2 hl2 hlen (uh HFIT)).mono ?_;rintro e w3 ⟨gr,rfl,hpl⟩;have HPL:=qz hpl;clear hpl)) | (go_at_call 160;go_must (refine ((uh HMID).take hM1 hM2 hl2 hl5 hlen (by rw [← uh HP2];omega) (uh HN) (uh HPL)).mono ?_;rintro e w4 ⟨rfl,hfin⟩;have HFIN:=qz hfin;clear hfin)))
  ·go_ret2
   exact ⟨_,13,rfl,.inr (.inr (.inl ⟨uh HA,uh HFIT,⟨l,(uh HMID).ord,by rw [Int.toNat_natCast,← uh HP2,← (uh HMID).len];omega⟩,rfl,rfl⟩)),(uh HMID).bel⟩
  ·go_ret2
   refine ⟨_,0,rfl,.inr (.inr (.inr ⟨uh HA,uh HFIT,rfl,l,w1.heap.size,(uh HMID).ord,by rw [Int.toNat_natCast,← uh HP2,← (uh HMID).len];omega,by rw [← uh HN];rfl,(uh HMID).bel.size,?_⟩)),?_⟩
   ·have hN1:l.length=1:=by rw [← (uh HMID).len];simp at q2;omega
    have hz:IntsAt (w1.alloc (.cells (icells .i64 n fun _=>0) 3)) .i64 3 w1.heap.size n (fun _=>0):=heap_alloc_new _ _
    rw [ans,if_pos hN1,← uh HN,← uh q6]
    have e1:=heap_setCell_same _ w1.heap.size s _ 3 (.int .i64 ((1:Nat):Int)) hz
    unfold IntsAt
    rw [heap_alloc_new]
    exact e1.symm.trans (hz.set s 1)
   ·exact (uh HMID).bel.trans ((Below.refl _ _).alloc (uh HMID).bel.size _)
  ·go_ret2
   refine ⟨_,0,rfl,.inr (.inr (.inr ⟨uh HA,uh HFIT,rfl,l,w1.heap.size,(uh HMID).ord,by rw [Int.toNat_natCast,← uh HP2,← (uh HMID).len];omega,by rw [← uh HN];rfl,(uh HMID).bel.size,?_⟩)),(uh HFIN).2⟩
   have hN1:l.length≠1:=by rw [← (uh HMID).len];intro c;rw [c] at q2;simp at q2
   rw [ans,if_neg hN1,Int.toNat_natCast,← uh HN,← (uh HMID).len]
   exact (uh HFIN).1
 ·have HF2:Hid (Calls Tryz.prog 158 #[.slice a os.length cap] w fun e w'=>e=.returned (.bool false)∧w'=w):=qz ((uh HF).mono fun e w' ⟨h1,h2⟩=>⟨by rcases h1 with ⟨_,h⟩ | ⟨h,_⟩;exact absurd h hfit;exact h,h2⟩)
  have HFIT:Hid (1099511627776<tot os os.length):=qz (by omega)
  clear HF hfit HWH
  obtain ⟨n,hn⟩:∃ n,n=os.length:=⟨_,rfl⟩
  rw [← hn] at HB HF2 hlen ⊢
  clear hn
  have t1:¬ (M:Int)<1:=by omega
  have t2:¬ (20:Int)<(M:Int):=by omega
  have t3:¬ (65536:Int)<(n:Int):=by omega
  go_enter Tryz.func141,Tryz.ntmps141
  go_wp2_with (first | (go_at_call 157;go_must (refine (uh HB).mono ?_;rintro e w' ⟨rfl,hww⟩;replace hww:=hww.symm;subst hww)) | (go_at_call 158;go_must (refine (uh HF2).mono ?_;rintro e w' ⟨rfl,hww⟩;replace hww:=hww.symm;subst hww)))
  go_ret2
  exact ⟨_,3,rfl,.inr (.inl ⟨uh HA,uh HFIT,rfl,rfl⟩),Below.refl _ _⟩
theorem lens_bad (os:List Int) (most:Int) (a:Option Addr) (cap:Nat) (w:World) (h:¬ (1≤most∧most≤20∧os.length≤65536)) :
  Calls Tryz.prog 141 #[.slice a os.length cap,.int .i64 most] w fun e w'=>e=.returned (.tuple #[.slice none 0 0,.int .i64 2])∧w'=w:=by
 obtain ⟨n,hn⟩:∃ n,n=os.length:=⟨_,rfl⟩
 rw [← hn] at h ⊢
 clear hn
 by_cases t1:most<1
 ·clear h
  go_enter Tryz.func141,Tryz.ntmps141
  go_wp2_with fail
  go_ret2
  exact ⟨rfl,rfl⟩
 ·by_cases t2:20<most
  ·clear h
   go_enter Tryz.func141,Tryz.ntmps141
   go_wp2_with fail
   go_ret2
   exact ⟨rfl,rfl⟩
  ·have t3:(65536:Int)<(n:Int):=by omega
   clear h
   go_enter Tryz.func141,Tryz.ntmps141
   go_wp2_with fail
   go_ret2
   exact ⟨rfl,rfl⟩
theorem lens_below (os:List Int) (M:Nat) (a:Option Addr) (cap:Nat) (w:World) (hr:ReadsI w (.slice a os.length cap) os) (hM1:1≤M) (hM2:M≤20) (hlen:os.length≤65536) (hnb:¬ NoneBelow os) :
  Calls Tryz.prog 141 #[.slice a os.length cap,.int .i64 (M:Int)] w fun e w'=>e=.returned (.tuple #[.slice none 0 0,.int .i64 2])∧w'=w:=by
 have HB:Hid (Calls Tryz.prog 157 #[.slice a os.length cap] w fun e w'=>e=.returned (.bool true)∧w'=w):=qz ((below_ok _ os w hr (by omega)).mono fun e w' ⟨h1,h2⟩=>⟨by rcases h1 with ⟨_,h⟩ | ⟨h,_⟩;exact absurd h hnb;exact h,h2⟩)
 clear hr hnb
 obtain ⟨n,hn⟩:∃ n,n=os.length:=⟨_,rfl⟩
 rw [← hn] at HB hlen ⊢
 clear hn
 have t1:¬ (M:Int)<1:=by omega
 have t2:¬ (20:Int)<(M:Int):=by omega
 have t3:¬ (65536:Int)<(n:Int):=by omega
 go_enter Tryz.func141,Tryz.ntmps141
 go_wp2_with (go_at_call 157;go_must (refine (uh HB).mono ?_;rintro e w' ⟨rfl,hww⟩;replace hww:=hww.symm;subst hww))
 go_ret2
 exact ⟨rfl,rfl⟩
theorem lens_ok (os:List Int) (most:Int) (v:Value) (w:World) (hr:ReadsI w v os) :
  Calls Tryz.prog 141 #[v,.int .i64 most] w fun e w'=>∃ u x,e=.returned (.tuple #[u,.int .i64 x])∧LensIs os most u x w.heap.size w'∧Below w.heap.size w w':=by
 obtain ⟨a,cap,rfl,hs⟩:=id hr
 by_cases h:1≤most∧most≤20∧os.length≤65536
 ·obtain ⟨M,rfl⟩:=Int.eq_ofNat_of_zero_le (show 0≤most by omega)
  by_cases hnb:NoneBelow os
  ·exact lens_good os M a cap w hr (by omega) (by omega) h.2.2 hnb
  ·refine (lens_below os M a cap w hr (by omega) (by omega) h.2.2 hnb).mono fun e w' ⟨he,hw⟩=>⟨_,2,he,.inl ⟨fun hh=>hnb hh.2.2.2,rfl,rfl⟩,by rw [hw];exact Below.refl _ _⟩
 ·refine (lens_bad os most a cap w h).mono fun e w' ⟨he,hw⟩=>⟨_,2,he,.inl ⟨fun hh=>h ⟨hh.1,hh.2.1,hh.2.2.1⟩,rfl,rfl⟩,by rw [hw];exact Below.refl _ _⟩
end L5
namespace W4
open Go.RowKit Mth Infl Defl
attribute [local go_sem ↓] wp_at_zero wp_at_succ
theorem trim_step (st n:Nat) (xs:List Nat) (hn:n≤xs.length) (h1:st<n) (h0:xs.getD (n - 1) 0=0):trim st n (xs.take n)=trim st (n - 1) (xs.take (n - 1)):=by
 obtain ⟨m,rfl⟩:∃ m,n=m+1:=⟨n - 1,by omega⟩
 have hl:(xs.take (m+1)).length=m+1:=by rw [List.length_take];omega
 have hg:(xs.take (m+1)).getD m 0=xs.getD m 0:=by simp [List.getD_eq_getElem?_getD]
 conv=>lhs;unfold trim
 rw [hl,show m+1 - 1=m from rfl,hg]
 rw [if_pos ⟨h1,h0⟩]
 rw [List.take_take,Nat.min_eq_left (by omega)]
theorem trim_stop (st n:Nat) (xs:List Nat) (hn:n≤xs.length) (h:¬ (st<n∧xs.getD (n - 1) 0=0)):trim st n (xs.take n)=xs.take n:=by
 cases n with
 | zero=>rfl
 | succ m =>
  have hl:(xs.take (m+1)).length=m+1:=by rw [List.length_take];omega
  have hg:(xs.take (m+1)).getD m 0=xs.getD m 0:=by simp [List.getD_eq_getElem?_getD]
  unfold trim
  rw [hl,show m+1 - 1=m from rfl,hg]
  exact if_neg h
theorem trim_ok (xs:List Nat) (g off cap st:Nat) (w:World) (hc:∀ j,j<xs.length→w.cell? ⟨g,off+j,none⟩=some (.int .i64 (xs.getD j 0:Int))) (hcap:xs.length≤cap) (hcap2:cap≤9223372036854775807) (h1:1≤st) (h2:st≤xs.length) :
  Calls Tryz.prog 113 #[.slice (some ⟨g,off,none⟩) xs.length cap,.int .i64 (st:Int)] w fun e w'=>e=.returned (.slice (some ⟨g,off,none⟩) (trim st xs.length xs).length cap)∧w'=w:=by
 have HST:Hid (∀ n,n≤xs.length→st<n→xs.getD (n - 1) 0=0→trim st n (xs.take n)=trim st (n - 1) (xs.take (n - 1))):=qz (fun n a b c=>trim_step st n xs a b c)
 have HSP:Hid (∀ n,n≤xs.length→¬ (st<n∧xs.getD (n - 1) 0=0)→(trim st n (xs.take n)).length=n):=qz (fun n a b=>by rw [trim_stop st n xs a b,List.length_take];omega)
 have HC:=qz hc
 have H0:Hid (trim st xs.length (xs.take xs.length)=trim st xs.length xs):=qz (by rw [List.take_length])
 generalize trim st xs.length xs=R at H0 ⊢
 obtain ⟨N,hN⟩:∃ N,N=xs.length:=⟨_,rfl⟩
 rw [← hN] at HST HSP HC hcap h2 H0 ⊢
 clear hc hN
 go_enter Tryz.func113,Tryz.ntmps113
 go_wp2_with fail
 go_loopg [5] (N - st) (fun gk iv' ws=>∃ n:Nat,gk=n - st∧st≤n∧n≤N∧iv'=.int .i64 (n:Int)∧ws=w∧Hid (trim st n (xs.take n)=R))
 case atStart=>exact ⟨N,rfl,h2,Nat.le_refl _,rfl,rfl,H0⟩
 case round =>
  clear H0
  obtain ⟨n,rfl,hn1,hn2,rfl,rfl,ht⟩:=hrel
  by_cases hlt:st<n
  ·have e1:(st:Int)<(n:Int):=by omega
   have q:=uh HC (n - 1) (by omega)
   have e2:(off:Int)+((n:Int) - 1)=((off+(n - 1):Nat):Int):=by omega
   have e3:(n:Int) - 1=((n - 1:Nat):Int):=by omega
   by_cases hz:xs.getD (n - 1) 0=0
   ·have HT2:Hid (trim st (n - 1) (xs.take (n - 1))=R):=qz (by rw [← uh HST n hn2 hlt hz];exact uh ht)
    rw [hz] at q
    clear ht
    obtain ⟨m,rfl⟩:∃ m,n=m+1:=⟨n - 1,by omega⟩
    simp only [Nat.add_sub_cancel] at q HT2
    go_wp2_with fail
    go_roundg (m - st)
    case measure=>omega
    case rel=>exact ⟨m,rfl,by omega,by omega,by go_num,rfl,HT2⟩
   ·have HL:=uh HSP n hn2 (fun h=>hz h.2)
    rw [uh ht] at HL
    have hz':¬ ((xs.getD (n - 1) 0:Nat):Int)=0:=by omega
    generalize xs.getD (n - 1) 0=z at q hz hz'
    obtain ⟨m,rfl⟩:∃ m,n=m+1:=⟨n - 1,by omega⟩
    simp only [Nat.add_sub_cancel] at q
    have HLH:=qz HL
    clear ht HL
    go_wp2_with fail
    go_ret
    rw [uh HLH]
    exact ⟨rfl,rfl⟩
  ·have HL:=uh HSP n hn2 (fun h=>hlt h.1)
   rw [uh ht] at HL
   have e1:¬ (st:Int)<(n:Int):=by omega
   have HLH:=qz HL
   clear ht HL
   go_wp2_with fail
   go_ret
   rw [uh HLH]
   exact ⟨rfl,rfl⟩
def osOf (f:Nat→Nat) (n:Nat):List Int:=(List.range n).map fun i=>(f i:Int)
theorem osOf_length (f:Nat→Nat) (n:Nat):(osOf f n).length=n:=by simp [osOf]
theorem osOf_get (f:Nat→Nat) (n i:Nat) (h:i<n):(osOf f n).getD i 0=(f i:Int):=by simp [osOf,h]
theorem osOf_wt (f:Nat→Nat) (n i:Nat) (h:i<n):L5.wt (osOf f n) i=f i:=by unfold L5.wt;rw [osOf_get f n i h];simp
open Classical in
noncomputable def bl (f:Nat→Nat) (M n:Nat):List Nat:=if h:∃ l,L5.IsOrder (osOf f n) l then (List.range n).map (L5.ans (osOf f n) (Classical.choose h) M) else []
theorem bl_is {f:Nat→Nat} {M n:Nat} {l:List Nat} (h:L5.IsOrder (osOf f n) l):bl f M n=(List.range n).map (L5.ans (osOf f n) l M):=by
 have hx:∃ l,L5.IsOrder (osOf f n) l:=⟨l,h⟩
 unfold bl
 rw [dif_pos hx,(Classical.choose_spec hx).one h]
theorem best_ok (f:Nat→Nat) (M n:Nat) (v:Value) (w:World) (hr:ReadsI w v (osOf f n)) (hM1:1≤M) (hM2:M≤20) (hn:n≤286) (hpow:n≤2 ^ M) (htot:L5.tot (osOf f n) n≤1099511627776) :
  Calls Tryz.prog 114 #[v,.int .i64 (M:Int)] w fun e w'=>∃ l g,e=.returned (.slice (some ⟨g,0,none⟩) n n)∧L5.IsOrder (osOf f n) l∧w.heap.size≤g∧L5.IntsAt w' .i64 3 g n (L5.ans (osOf f n) l M)∧Below w.heap.size w w':=by
 have HL:=qz (L5.lens_ok (osOf f n) (M:Int) v w hr)
 have HX:Hid (∀ u x w',L5.LensIs (osOf f n) (M:Int) u x w.heap.size w'→x=0∧∃ l g,u=.slice (some ⟨g,0,none⟩) n n∧L5.IsOrder (osOf f n) l∧w.heap.size≤g∧L5.IntsAt w' .i64 3 g n (L5.ans (osOf f n) l M)):=qz (fun u x w' h=>by
  have ha:L5.LArgs (osOf f n) (M:Int):=⟨by omega,by omega,by rw [osOf_length];omega,fun i hi=>by
   first | (rw [osOf_length] at hi;rw [osOf_get f n i hi];omega) | skip⟩
  rcases h with ⟨h,_⟩ | ⟨_,h,_⟩ | ⟨_,_,⟨l,h1,h2⟩,_⟩ | ⟨_,_,h0,l,g,h1,h2,h3,h4,h5⟩
  ·exact absurd ha h
  ·rw [osOf_length] at h;omega
  ·exfalso
   have hsub:l.length≤n:=by
    have:=List.Nodup.length_le_of_subset h1.nodup (fun i hi=>by
     have:=(h1.mem i).1 hi
     rw [osOf_length] at this
     exact List.mem_range.2 this.1:l ⊆ List.range n)
    simpa using this
   simp only [Int.toNat_natCast] at h2
   omega
  ·rw [osOf_length] at h3 h5
   simp only [Int.toNat_natCast] at h5
   exact ⟨h0,l,g,h3,h1,h4,h5⟩)
 clear hr hpow htot
 generalize osOf f n=os at HL HX ⊢
 go_enter Tryz.func114,Tryz.ntmps114
 go_wp2_with fail
 refine (uh HL).mono ?_
 rintro e w1 ⟨u,x,rfl,h1,h2⟩
 obtain ⟨rfl,l,g,rfl,k1,k2,k3⟩:=uh HX _ _ _ h1
 have HK:=qz (And.intro k1 (And.intro k2 (And.intro k3 h2)))
 clear h1 h2 k1 k2 k3 HL HX
 go_wp2_with fail
 go_ret
 obtain ⟨k1,k2,k3,h2⟩:=uh HK
 exact ⟨l,g,rfl,k1,k2,k3,h2⟩
end W4
namespace W4
open Go.RowKit Mth Infl Defl
attribute [local go_sem ↓] wp_at_zero wp_at_succ
theorem count111_ok (w:World) (bb g n s m x:Nat) (C:Nat→Nat) (hb:w.heap[bb]?=some (.cells #[.slice (some ⟨g,0,none⟩) n n] 45 (0,0))) (hr:IntsAt w .i64 3 g n C) (hs:s<n) (hn:n≤1000000) (hC:C s≤1000000000000) :
  Calls Tryz.prog 111 #[wv s m x,.pointer (some ⟨bb,0,none⟩)] w fun e w'=>e=.returned (.tuple #[])∧IntsAt w' .i64 3 g n (upd C s (C s+1))∧Chb g w w':=by
 obtain ⟨W1,hW1⟩:∃ W1,W1=w.alloc (.cells #[.int .i64 (s:Int),.int .i64 (m:Int),.int .i64 (x:Int)] 141):=⟨_,rfl⟩
 have hb1:Below w.heap.size w W1:=by rw [hW1];exact (Below.refl _ _).alloc (Nat.le_refl _) _
 have x1:W1.heap[w.heap.size]?=some (.cells #[.int .i64 (s:Int),.int .i64 (m:Int),.int .i64 (x:Int)] 141 (0,0)):=by rw [hW1];exact heap_alloc_new _ _
 have d0:W1.cell? ⟨w.heap.size,0,none⟩=some (.int .i64 (s:Int)):=by simp only [World.cell?,x1];rfl
 have hr1:IntsAt W1 .i64 3 g n C:=hr.stays hb1 hr.lt
 have hbb:=(hb1.block _ (heap_lt hb)).trans hb
 have d1:W1.cell? ⟨bb,0,none⟩=some (.slice (some ⟨g,0,none⟩) n n):=by simp only [World.cell?,hbb];rfl
 have d2:=hr1.cell s hs
 have d3:=hr1.free s
 have HF:Hid (IntsAt (W1.setCell ⟨g,s,none⟩ (.int .i64 ((C s+1:Nat):Int))) .i64 3 g n (upd C s (C s+1))∧Chb g w (W1.setCell ⟨g,s,none⟩ (.int .i64 ((C s+1:Nat):Int)))):=qz ⟨hr1.set s _,⟨hb1.os,hb1.tape,hb1.output,by rw [World.size_setCell];exact hb1.size,fun k hk hne=>by rw [heap_setCell_other _ _ _ _ hne];exact hb1.block k hk⟩⟩
 have hsn:(s:Int)<(n:Int):=by omega
 have hcs:((C s:Nat):Int)+1=((C s+1:Nat):Int):=by omega
 have HCS:=qz hcs
 generalize hc:C s=c at d2 HF hC HCS ⊢
 rw [hW1] at d0 d1 d2 d3
 unfold wv
 clear hb hr hb1 x1 hr1 hbb hc hcs
 go_enter Tryz.func111,Tryz.ntmps111
 go_wp2_with fail
 go_end0
 refine ⟨rfl,?_⟩
 have:=uh HF
 rw [← uh HCS,hW1] at this
 exact this
theorem count112_ok (w:World) (bb g n s m x:Nat) (C:Nat→Nat) (hb:w.heap[bb]?=some (.cells #[.slice (some ⟨g,0,none⟩) n n] 45 (0,0))) (hr:IntsAt w .i64 3 g n C) (hs:s<n) (hn:n≤1000000) (hC:C s≤1000000000000) :
  Calls Tryz.prog 112 #[wv s m x,.pointer (some ⟨bb,0,none⟩)] w fun e w'=>e=.returned (.tuple #[])∧IntsAt w' .i64 3 g n (upd C s (C s+1))∧Chb g w w':=by
 obtain ⟨W1,hW1⟩:∃ W1,W1=w.alloc (.cells #[.int .i64 (s:Int),.int .i64 (m:Int),.int .i64 (x:Int)] 141):=⟨_,rfl⟩
 have hb1:Below w.heap.size w W1:=by rw [hW1];exact (Below.refl _ _).alloc (Nat.le_refl _) _
 have x1:W1.heap[w.heap.size]?=some (.cells #[.int .i64 (s:Int),.int .i64 (m:Int),.int .i64 (x:Int)] 141 (0,0)):=by rw [hW1];exact heap_alloc_new _ _
 have d0:W1.cell? ⟨w.heap.size,0,none⟩=some (.int .i64 (s:Int)):=by simp only [World.cell?,x1];rfl
 have hr1:IntsAt W1 .i64 3 g n C:=hr.stays hb1 hr.lt
 have hbb:=(hb1.block _ (heap_lt hb)).trans hb
 have d1:W1.cell? ⟨bb,0,none⟩=some (.slice (some ⟨g,0,none⟩) n n):=by simp only [World.cell?,hbb];rfl
 have d2:=hr1.cell s hs
 have d3:=hr1.free s
 have HF:Hid (IntsAt (W1.setCell ⟨g,s,none⟩ (.int .i64 ((C s+1:Nat):Int))) .i64 3 g n (upd C s (C s+1))∧Chb g w (W1.setCell ⟨g,s,none⟩ (.int .i64 ((C s+1:Nat):Int)))):=qz ⟨hr1.set s _,⟨hb1.os,hb1.tape,hb1.output,by rw [World.size_setCell];exact hb1.size,fun k hk hne=>by rw [heap_setCell_other _ _ _ _ hne];exact hb1.block k hk⟩⟩
 have hsn:(s:Int)<(n:Int):=by omega
 have hcs:((C s:Nat):Int)+1=((C s+1:Nat):Int):=by omega
 have HCS:=qz hcs
 generalize hc:C s=c at d2 HF hC HCS ⊢
 rw [hW1] at d0 d1 d2 d3
 unfold wv
 clear hb hr hb1 x1 hr1 hbb hc hcs
 go_enter Tryz.func112,Tryz.ntmps112
 go_wp2_with fail
 go_end0
 refine ⟨rfl,?_⟩
 have:=uh HF
 rw [← uh HCS,hW1] at this
 exact this
def cnB (b:Bool) (l:List Ev) (s:Nat):Nat:=((l.filter fun e=>e.1 == b).map fun e=>e.2.1).count s
theorem cn_same (b:Bool) (l:List Ev) (s m y:Nat):cnB b (l++[(b,s,m,y)])=upd (cnB b l) s (cnB b l s+1):=by
 funext i
 unfold cnB upd
 rw [List.filter_append,List.map_append,List.count_append]
 by_cases h:i=s
 ·subst h;simp
 ·have:¬ s=i:=fun e=>h e.symm
  simp [h,this]
theorem cn_other (b b':Bool) (hb:b'≠b) (l:List Ev) (s m y:Nat):cnB b (l++[(b',s,m,y)])=cnB b l:=by
 funext i
 unfold cnB
 rw [List.filter_append,List.map_append,List.count_append]
 simp [hb]
theorem cn_le (l:List Ev) (b:Bool) (s:Nat):cnB b l s≤l.length:=by
 unfold cnB
 refine Nat.le_trans List.count_le_length ?_
 rw [List.length_map]
 exact List.length_filter_le _ _
theorem cn_cons (b:Bool) (t:T) (ts:List T) (i:Nat):cnB b (allEv (t :: ts)) i=List.count i (((tokEv t).filter fun e=>e.1 == b).map fun e=>e.2.1)+cnB b (allEv ts) i:=by
 have e1:allEv (t :: ts)=tokEv t++allEv ts:=by simp [allEv,evs]
 unfold cnB
 rw [e1,List.filter_append,List.map_append,List.count_append]
theorem cn_true (ts:List T):cnB true (allEv ts)=symCount ts:=by
 funext i
 induction ts with
 | nil =>
  show List.count i [256]=(if i=256 then 1 else 0)+List.count i []
  rw [List.count_cons,List.count_nil]
  by_cases h:i=256
  ·subst h;rfl
  ·rw [if_neg h,if_neg (by simp;exact fun e=>h e.symm)]
 | cons t ts ih =>
  rw [cn_cons,ih]
  unfold symCount tokEv
  generalize (if i=256 then 1 else 0)=z
  rw [List.map_cons,List.count_cons]
  by_cases h:t.n=0
  ·rw [if_pos h,if_pos h]
   show List.count i [t.b]+_=_
   rw [List.count_cons,List.count_nil];omega
  ·rw [if_neg h,if_neg h]
   show List.count i [symL t.n]+_=_
   rw [List.count_cons,List.count_nil];omega
theorem cn_false (ts:List T):cnB false (allEv ts)=distCount ts:=by
 funext i
 induction ts with
 | nil=>simp [cnB,allEv,evs,distCount]
 | cons t ts ih =>
  rw [cn_cons,ih]
  unfold distCount tokEv
  by_cases h:t.n=0
  ·have e2:(t :: ts).filter (fun t=>decide (t.n≠0))=ts.filter (fun t=>decide (t.n≠0)):=List.filter_cons_of_neg (by simp [h])
   rw [if_pos h,e2]
   show List.count i []+_=_
   rw [List.count_nil,Nat.zero_add]
  ·have e2:(t :: ts).filter (fun t=>decide (t.n≠0))=t :: ts.filter (fun t=>decide (t.n≠0)):=List.filter_cons_of_pos (by simp [h])
   rw [if_neg h,e2,List.map_cons (f:=fun t:T=>symD t.d),List.count_cons]
   show List.count i [symD t.d]+_=_
   rw [List.count_cons,List.count_nil];omega
theorem ev_sym {ts:List T} (hok:TokOk ts):∀ e∈allEv ts,if e.1 then e.2.1<286 else e.2.1<30:=by
 intro e he
 unfold allEv at he
 rw [List.mem_append] at he
 rcases he with he | he
 ·unfold evs at he
  rw [List.mem_flatten] at he
  obtain ⟨l,hl,he⟩:=he
  rw [List.mem_map] at hl
  obtain ⟨t,ht,rfl⟩:=hl
  have h1:=hok t ht
  unfold tokEv at he
  by_cases h:t.n=0
  ·rw [if_pos h] at he
   simp only [List.mem_singleton] at he
   subst he
   simp;omega
  ·rw [if_neg h] at he
   have h3:3≤t.n∧t.n≤258∧1≤t.d∧t.d≤32768:=by rcases h1 with h1 | h1;exact absurd h1.1 h;exact h1
   have a:=symL_is t.n h3.1 h3.2.1
   have b:=symD_is t.d h3.2.2.1 h3.2.2.2
   simp only [List.mem_cons,List.not_mem_nil,or_false] at he
   rcases he with rfl | rfl
   ·simp;omega
   ·simp;omega
 ·simp only [List.mem_singleton] at he
  subst he
  simp
structure Chd (g1 g2:Nat) (w x:World):Prop where
 os:x.os=w.os
 tape:x.tape=w.tape
 output:x.output=w.output
 size:w.heap.size≤x.heap.size
 keep:∀ k,k<w.heap.size→k≠g1→k≠g2→x.heap[k]?=w.heap[k]?
theorem Chd.of_below {g1 g2:Nat} {w x:World} (h:Below w.heap.size w x):Chd g1 g2 w x:=⟨h.os,h.tape,h.output,h.size,fun k hk _ _=>h.block k hk⟩
theorem Chd.of_left {g1 g2:Nat} {w x:World} (h:Chb g1 w x):Chd g1 g2 w x:=⟨h.os,h.tape,h.output,h.size,fun k hk h1 _=>h.keep k hk h1⟩
theorem Chd.of_right {g1 g2:Nat} {w x:World} (h:Chb g2 w x):Chd g1 g2 w x:=⟨h.os,h.tape,h.output,h.size,fun k hk _ h1=>h.keep k hk h1⟩
theorem Chd.trans {g1 g2:Nat} {w x y:World} (h:Chd g1 g2 w x) (k:Chd g1 g2 x y):Chd g1 g2 w y:=⟨k.os.trans h.os,k.tape.trans h.tape,k.output.trans h.output,Nat.le_trans h.size k.size,fun j hj h1 h2=>(k.keep j (Nat.lt_of_lt_of_le hj h.size) h1 h2).trans (h.keep j hj h1 h2)⟩
theorem eachCount_ok (ts:List T) (a:Option Addr) (cap bn bd gn gd:Nat) (w w2:World) (hta:TokAt8 w a ts) (hto:TokOk ts) (hfew:ts.length≤1000000000) (hw2:Below w.heap.size w w2) (hgn:w.heap.size≤gn) (hgd:w.heap.size≤gd) (hne:gn≠gd) (hb:bn≠gn∧bn≠gd∧bd≠gn∧bd≠gd)
  (hbn:w2.heap[bn]?=some (.cells #[.slice (some ⟨gn,0,none⟩) 286 286] 45 (0,0))) (hbd:w2.heap[bd]?=some (.cells #[.slice (some ⟨gd,0,none⟩) 30 30] 45 (0,0))) (hrn:IntsAt w2 .i64 3 gn 286 fun _=>0) (hrd:IntsAt w2 .i64 3 gd 30 fun _=>0) :
  Calls Tryz.prog 79 #[.slice a ts.length cap,.func (.func 111) #[] #[.pointer (some ⟨bn,0,none⟩)],.func (.func 112) #[] #[.pointer (some ⟨bd,0,none⟩)]] w2 fun e w'=>e=.returned (.tuple #[])∧IntsAt w' .i64 3 gn 286 (symCount ts)∧IntsAt w' .i64 3 gd 30 (distCount ts)∧Chd gn gd w2 w':=by
 refine (each_count ts a cap _ _ (fun l x=>IntsAt x .i64 3 gn 286 (cnB true l)∧IntsAt x .i64 3 gd 30 (cnB false l)∧Chd gn gd w2 x) w2 hto hfew ?_ ?_ ?_ ?_ ?_).mono ?_
 ·exact fun l x x' h hb=>⟨h.1.stays hb h.1.lt,h.2.1.stays hb h.2.1.lt,h.2.2.trans (Chd.of_below hb)⟩
 ·intro l x h
  refine hta.keep fun ad ha hp=>?_
  obtain ⟨b,off,hab,q1,_⟩:=hta 0 hp
  rw [ha] at hab
  obtain rfl:ad=_:=Option.some.inj hab
  have hlt:b<w.heap.size:=cell_lt q1
  exact (h.2.2.keep b (Nat.lt_of_lt_of_le hlt hw2.size) (by omega) (by omega)).trans (hw2.block b hlt)
 ·intro l s m y r x0 x e hJ hbx
  have hsy:=ev_sym hto (true,s,m,y) (by rw [e];simp)
  simp only [if_true] at hsy
  have hcl:=cn_le l true s
  have hll:l.length≤2*ts.length+1:=by have:=allEv_len ts;rw [e] at this;simp at this;omega
  obtain ⟨j1,j2,j3⟩:=hJ
  have j1x:IntsAt x .i64 3 gn 286 (cnB true l):=j1.stays hbx j1.lt
  have j2x:IntsAt x .i64 3 gd 30 (cnB false l):=j2.stays hbx j2.lt
  have j3x:Chd gn gd w2 x:=j3.trans (Chd.of_below hbx)
  refine (count111_ok x bn gn 286 s m y _ ((j3x.keep bn (heap_lt hbn) (by omega) (by omega)).trans hbn) j1x hsy (by omega) (by omega)).mono ?_
  rintro e x' ⟨rfl,p1,p2⟩
  refine ⟨rfl,⟨?_,?_,j3x.trans (Chd.of_left p2)⟩,fun kb o hkb hko=>(p2.keep kb (heap_lt hko) (by have:=j1.lt;omega)).trans hko⟩
  ·rw [cn_same];exact p1
  ·rw [cn_other false true (by decide)]
   show _=_
   rw [p2.keep gd j2x.lt (Ne.symm hne)]
   exact j2x
 ·intro l s m y r x0 x e hJ hbx
  have hsy:=ev_sym hto (false,s,m,y) (by rw [e];simp)
  simp only [Bool.false_eq_true,if_false] at hsy
  have hcl:=cn_le l false s
  have hll:l.length≤2*ts.length+1:=by have:=allEv_len ts;rw [e] at this;simp at this;omega
  obtain ⟨j1,j2,j3⟩:=hJ
  have j1x:IntsAt x .i64 3 gn 286 (cnB true l):=j1.stays hbx j1.lt
  have j2x:IntsAt x .i64 3 gd 30 (cnB false l):=j2.stays hbx j2.lt
  have j3x:Chd gn gd w2 x:=j3.trans (Chd.of_below hbx)
  refine (count112_ok x bd gd 30 s m y _ ((j3x.keep bd (heap_lt hbd) (by omega) (by omega)).trans hbd) j2x hsy (by omega) (by omega)).mono ?_
  rintro e x' ⟨rfl,p1,p2⟩
  refine ⟨rfl,⟨?_,?_,j3x.trans (Chd.of_right p2)⟩,fun kb o hkb hko=>(p2.keep kb (heap_lt hko) (by have:=j2.lt;omega)).trans hko⟩
  ·rw [cn_other true false (by decide)]
   show _=_
   rw [p2.keep gn j1x.lt hne]
   exact j1x
  ·rw [cn_same];exact p1
 ·exact ⟨hrn,hrd,Chd.of_below (Below.refl _ _)⟩
 ·rintro e w' ⟨rfl,q1,q2,q3⟩
  rw [cn_true] at q1
  rw [cn_false] at q2
  exact ⟨rfl,q1,q2,q3⟩
end W4
section
open Go.RowKit Defl
def Cnt (l:List Int) (a n:Nat) (v:Int):Prop:=cntRun v (l.drop a)=n+cntRun v (l.drop (a+n))
theorem Cnt.next {l:List Int} {a n:Nat} {v:Int} (h:Cnt l a n v) (hl:a+n<l.length) (hv:l.getD (a+n) 0=v):Cnt l a (n+1) v:=by
 unfold Cnt at *
 rw [h,List.drop_eq_getElem_cons hl]
 rw [List.getD_eq_getElem?_getD,List.getElem?_eq_getElem hl] at hv
 rw [cntRun,if_pos (by simpa using hv),show a+(n+1)=a+n+1 from by omega]
 omega
theorem Cnt.stop {l:List Int} {a n:Nat} {v:Int} (h:Cnt l a n v) (hl:a+n<l.length) (hv:¬ l.getD (a+n) 0=v):cntRun v (l.drop a)=n:=by
 unfold Cnt at h
 rw [h,List.drop_eq_getElem_cons hl,cntRun,if_neg (fun e=>hv (by rw [List.getD_eq_getElem?_getD,List.getElem?_eq_getElem hl];simpa using e))]
 rfl
theorem Cnt.fin {l:List Int} {a n:Nat} {v:Int} (h:Cnt l a n v) (hl:l.length≤a+n):cntRun v (l.drop a)=n:=by
 unfold Cnt at h
 rw [h,List.drop_of_length_le hl]
 rfl
end
section
open Go.RowKit Infl Defl
attribute [local go_sem ↓] wp_at_zero wp_at_succ
theorem cnt_zero (l:List Int) (h:0<l.length):Cnt l 0 1 (l.getD 0 0):=by
 have h0:Cnt l 0 0 (l.getD 0 0):=by unfold Cnt;simp
 exact h0.next (by simpa using h) rfl
theorem alike_ok (l:List Int) (most b off cap:Nat) (w:World) (hl:0<l.length) (hl2:l.length≤100000000000000) (hm:1≤most) (hm2:most≤1000) (hc:∀ j,j<l.length→w.cell? ⟨b,off+j,none⟩=some (.int .i64 (l.getD j 0))) :
  Calls Tryz.prog 162 #[.slice (some ⟨b,off,none⟩) l.length cap,.int .i64 (most:Int)] w fun e w'=>e=.returned (.int .i64 ((min most (cntRun (l.getD 0 0) l):Nat):Int))∧∃ q,w'=w.drewN q:=by
 have c0:=hc 0 hl
 have HC:=qz hc
 have HN:=qz (cnt_zero l hl)
 obtain ⟨n,hn⟩:∃ n,n=l.length:=⟨_,rfl⟩
 have HLN:=qz hn
 rw [← hn] at hl hl2 ⊢
 obtain ⟨v,hv⟩:∃ v,v=l.getD 0 0:=⟨_,rfl⟩
 rw [← hv] at c0 HN ⊢
 have HV:=qz hv
 simp only [Nat.add_zero] at c0
 obtain ⟨r,hr⟩:∃ r,r=min most (cntRun v l):=⟨_,rfl⟩
 have HR:=qz hr
 rw [← hr]
 obtain ⟨mn,hmn⟩:∃ mn,mn=min most n:=⟨_,rfl⟩
 have HMN:=qz hmn
 have hmin:∀ w:World,(Builtin.min_ #[3,3] 3 #[.int .i64 (most:Int),.int .i64 (n:Int)]).run Tryz.prog w=.ok (.int .i64 (mn:Int)) w:=fun w=>by
  rw [run_min_int2]
  congr 2
  split <;> omega
 clear hc hn hv hr hmn
 go_enter Tryz.func162,Tryz.ntmps162
 go_wp2_with fail
 go_loopg [5] (mn - 1) (fun gk d ws=>∃ (k q:Nat),gk=mn - k∧1≤k∧k≤mn∧d=.int .i64 (k:Int)∧ws=w.drewN q∧Hid (Cnt l 0 k v))
 case atStart=>exact ⟨1,0,rfl,by omega,by have:=uh HMN;omega,rfl,rfl,HN⟩
 case round =>
  clear HN
  obtain ⟨k,q,rfl,hk1,hk2,rfl,rfl,hcnt⟩:=hrel
  have hmnn:mn≤n:=by have:=uh HMN;omega
  by_cases hlt:k<mn
  ·have e1:(k:Int)<(mn:Int):=by omega
   have c1:w.cell? ⟨b,off+k,none⟩=some (.int .i64 (l.getD k 0)):=uh HC k (by have:=uh HLN;omega)
   have e3:(k:Int)<(n:Int):=by omega
   obtain ⟨y,hy⟩:∃ y,y=l.getD k 0:=⟨_,rfl⟩
   rw [← hy] at c1
   have HY:=qz hy
   clear hy
   by_cases hyv:y=v
   ·subst hyv
    have HNX:=qz ((uh hcnt).next (by have:=uh HLN;omega) (by rw [Nat.zero_add];exact (uh HY).symm))
    go_wp2_with fail
    go_quiet (fail)
    go_wp2_with fail
    go_roundg (mn - (k+1))
    case measure=>omega
    case rel=>exact ⟨k+1,q+nq,rfl,by omega,by omega,by go_num,by simp,HNX⟩
   ·have t1:(y == v)=false:=by simpa using hyv
    have HE:Hid (cntRun v l=k):=qz (by
     have:=(uh hcnt).stop (by have:=uh HLN;omega) (by rw [Nat.zero_add,← uh HY];exact hyv)
     simpa using this)
    go_wp2_with fail
    go_quiet (fail)
    go_wp2_with fail
    go_ret
    exact ⟨by rw [uh HR,uh HE,Nat.min_eq_right (by have:=uh HMN;omega)];rfl,_,by simp;rfl⟩
  ·have e1:¬ (k:Int)<(mn:Int):=by omega
   obtain rfl:k=mn:=by omega
   have HE:Hid (r=k):=qz (by
    rw [uh HR]
    have h1:=uh HMN
    rcases Nat.lt_or_ge most n with e | e
    ·have:k=most:=by omega
     have:=uh hcnt
     unfold Cnt at this
     simp only [List.drop_zero] at this
     omega
    ·have:k=n:=by omega
     have:=(uh hcnt).fin (by have:=uh HLN;omega)
     simp only [List.drop_zero] at this
     omega)
   go_wp2_with fail
   go_quiet (fail)
   go_wp2_with fail
   go_ret
   exact ⟨by rw [uh HE];rfl,_,by simp;rfl⟩
def wordI (s:Int) (m x:Nat):Value:=.agg #[.int .i64 s,.int .i64 (m:Int),.int .i64 (x:Int)]
def stepW (l:List Int) (again:Bool):Int × Nat × Nat × Nat :=
 if l.getD 0 0=0∧11≤cntRun (l.getD 0 0) l then (18,min (cntRun (l.getD 0 0) l) 138 - 11,7,min (cntRun (l.getD 0 0) l) 138)
 else if l.getD 0 0=0∧3≤cntRun (l.getD 0 0) l then (17,cntRun (l.getD 0 0) l - 3,3,cntRun (l.getD 0 0) l)
 else if 0<l.getD 0 0∧again=true∧3≤cntRun (l.getD 0 0) l then (16,min (cntRun (l.getD 0 0) l) 6 - 3,2,min (cntRun (l.getD 0 0) l) 6)
 else (l.getD 0 0,0,0,1)
theorem below_q {B:Nat} {a w:World} (h:Below B a w) (n:Nat):Below B a (w.drewN n):=⟨h.os,h.tape,h.output,h.size,h.block⟩
theorem results_ct {fn:Func} {a b:Tmp} {ty:TypeId} (h:fn.results=#[.cell a ty,.tmp b]) (tmps:Array Value) (P:Program) (w:World) :
  (results fn tmps).run P w=((asAddr (tmps.getD a undef)).run P w).andThen fun ad w₁=>((loadVar ty ad).run P w₁).andThen fun v w₂=>.ok (.tuple #[v,tmps.getD b undef]) w₂:=by
 simp only [results,h]
 simp [Sem.run_bind,Result.andThen]
theorem firstRun_ok (l:List Int) (again:Bool) (b off cap:Nat) (w:World) (hl:0<l.length) (hl2:l.length≤100000000000000) (hc:∀ j,j<l.length→w.cell? ⟨b,off+j,none⟩=some (.int .i64 (l.getD j 0))) :
  Calls Tryz.prog 142 #[.slice (some ⟨b,off,none⟩) l.length cap,.bool again] w fun e w'=>e=.returned (.tuple #[wordI (stepW l again).1 (stepW l again).2.1 (stepW l again).2.2.1,.int .i64 ((stepW l again).2.2.2:Int)])∧Below w.heap.size w w':=by
 have c0:=hc 0 hl
 simp only [Nat.add_zero] at c0
 have c1:∀ o:Obj,(w.alloc o).cell? ⟨b,off,none⟩=some (.int .i64 (l.getD 0 0)):=fun o=>cell_stays ((Below.refl _ _).alloc (Nat.le_refl _) o) c0
 have HA:Hid (∀ most W,Below w.heap.size w W→1≤most→most≤1000→Calls Tryz.prog 162 #[.slice (some ⟨b,off,none⟩) l.length cap,.int .i64 ((most:Nat):Int)] W fun e w'=>e=.returned (.int .i64 ((min most (cntRun (l.getD 0 0) l):Nat):Int))∧∃ q',w'=W.drewN q'):=qz fun most W hb h1 h2=>alike_ok l most b off cap W hl hl2 h1 h2 (fun j hj=>cell_stays hb (hc j hj))
 have h1c:1≤cntRun (l.getD 0 0) l:=by have:=cnt_pos l 0 hl;simpa using this
 unfold stepW wordI
 obtain ⟨n,hn⟩:∃ n,n=l.length:=⟨_,rfl⟩
 rw [← hn] at hl hl2 HA ⊢
 generalize cntRun (l.getD 0 0) l=c at HA h1c ⊢
 generalize l.getD 0 0=v at c1 HA ⊢
 clear c0
 clear hn hc
 have HST:Hid (∀ W:World,Below w.heap.size w W→W.heap[w.heap.size]?=some (.cells #[.int .i64 0,.int .i64 0,.int .i64 0] 141 (0,0))→W.cell? ⟨w.heap.size,0,none⟩=some (.int .i64 0)∧W.cell? ⟨w.heap.size,1,none⟩=some (.int .i64 0)∧W.cell? ⟨w.heap.size,2,none⟩=some (.int .i64 0)∧∀ o,W.frozen? ⟨w.heap.size,o,none⟩=false):=qz fun W _ c3=>⟨by simp only [World.cell?,c3];rfl,by simp only [World.cell?,c3];rfl,by simp only [World.cell?,c3];rfl,fun o=>by simp [World.frozen?,c3]⟩
 obtain ⟨W1,hW1⟩:∃ W1,W1=w.alloc (.cells #[.int .i64 0,.int .i64 0,.int .i64 0] 141):=⟨_,rfl⟩
 have HB1:Hid (Below w.heap.size w W1):=qz (by rw [hW1];exact (Below.refl _ _).alloc (by simp) _)
 have HX1:Hid (W1.heap[w.heap.size]?=some (.cells #[.int .i64 0,.int .i64 0,.int .i64 0] 141 (0,0))):=qz (by rw [hW1];exact heap_alloc_new _ _)
 obtain ⟨d0,d1,d2,f0⟩:=uh HST W1 (uh HB1) (uh HX1)
 have c2:=c1 (.cells #[.int .i64 0,.int .i64 0,.int .i64 0] 141)
 rw [← hW1] at c2
 by_cases hv:v=0
 ·subst hv
  by_cases h11:11≤c
  ·
   rw [if_pos ⟨rfl,h11⟩]
   have e1:((min 138 c:Nat):Int)=((min c 138:Nat):Int):=by omega
   have e2:((min c 138 - 11:Nat):Int)=((min c 138:Nat):Int) - 11:=by omega
   rw [e2]
   obtain ⟨t,ht⟩:∃ t,t=min c 138:=⟨_,rfl⟩
   rw [← ht]
   have t1:(11:Int)≤(t:Int):=by omega
   have t2:(t:Int)≤138:=by omega
   have HC:=qz (uh HA 138 W1 (uh HB1) (by decide) (by decide))
   rw [e1,← ht] at HC
   clear HA e1 e2 ht h11
   go_enter Tryz.func142,Tryz.ntmps142
   go_wp2_with fail
   rw [← hW1]
   clear hW1
   refine (uh HC).mono ?_
   rintro e W2 ⟨rfl,q,rfl⟩
   go_wp2_with fail
   refine bodyPost_ret (v:=.tuple #[.agg #[.int .i64 18,.int .i64 ((t:Int) - 11),.int .i64 7],.int .i64 (t:Int)]) ?_ rfl ⟨rfl,(((below_q (uh HB1) q).setCell (Nat.le_refl _) _).setCell (Nat.le_refl _) _).setCell (Nat.le_refl _) _⟩
   rw [results_ct rfl]
   go_simp
  ·by_cases h3:3≤c
   ·
    rw [if_neg (fun h=>h11 h.2),if_pos ⟨rfl,h3⟩]
    have e1:((min 138 c:Nat):Int)=(c:Int):=by omega
    have e2:((c - 3:Nat):Int)=(c:Int) - 3:=by omega
    rw [e2]
    have t1:¬ (11:Int)≤(c:Int):=by omega
    have t2:(3:Int)≤(c:Int):=by omega
    have t3:(c:Int)≤138:=by omega
    have HC:=qz (uh HA 138 W1 (uh HB1) (by decide) (by decide))
    rw [e1] at HC
    clear HA e1 e2 h11 h3
    go_enter Tryz.func142,Tryz.ntmps142
    go_wp2_with fail
    rw [← hW1]
    clear hW1
    refine (uh HC).mono ?_
    rintro e W2 ⟨rfl,q,rfl⟩
    go_wp2_with fail
    refine bodyPost_ret (v:=.tuple #[.agg #[.int .i64 17,.int .i64 ((c:Int) - 3),.int .i64 3],.int .i64 (c:Int)]) ?_ rfl ⟨rfl,(((below_q (uh HB1) q).setCell (Nat.le_refl _) _).setCell (Nat.le_refl _) _).setCell (Nat.le_refl _) _⟩
    rw [results_ct rfl]
    go_simp
   ·
    rw [if_neg (fun h=>h11 h.2),if_neg (fun h=>h3 h.2),if_neg (fun h=>by omega)]
    have e1:((min 138 c:Nat):Int)=(c:Int):=by omega
    have t1:¬ (11:Int)≤(c:Int):=by omega
    have t2:¬ (3:Int)≤(c:Int):=by omega
    have HC:=qz (uh HA 138 W1 (uh HB1) (by decide) (by decide))
    rw [e1] at HC
    clear HA e1 h11 h3
    go_enter Tryz.func142,Tryz.ntmps142
    go_wp2_with fail
    rw [← hW1]
    clear hW1
    refine (uh HC).mono ?_
    rintro e W2 ⟨rfl,q,rfl⟩
    go_wp2_with fail
    refine bodyPost_ret (v:=.tuple #[.agg #[.int .i64 0,.int .i64 0,.int .i64 0],.int .i64 1]) ?_ rfl ⟨rfl,(((below_q (uh HB1) q).setCell (Nat.le_refl _) _).setCell (Nat.le_refl _) _).setCell (Nat.le_refl _) _⟩
    rw [results_ct rfl]
    go_simp
 ·have hv0:(v == 0)=false:=by simpa using hv
  by_cases hp:0<v
  ·cases again with
   | true =>
    by_cases h3:3≤c
    ·
     rw [if_neg (fun h=>hv h.1),if_neg (fun h=>hv h.1),if_pos ⟨hp,rfl,h3⟩]
     have e1:((min 6 c:Nat):Int)=((min c 6:Nat):Int):=by omega
     have e2:((min c 6 - 3:Nat):Int)=((min c 6:Nat):Int) - 3:=by omega
     rw [e2]
     obtain ⟨t,ht⟩:∃ t,t=min c 6:=⟨_,rfl⟩
     rw [← ht]
     have t1:(3:Int)≤(t:Int):=by omega
     have t2:(t:Int)≤6:=by omega
     have HC:=qz (uh HA 6 W1 (uh HB1) (by decide) (by decide))
     rw [e1,← ht] at HC
     clear HA e1 e2 ht h3
     go_enter Tryz.func142,Tryz.ntmps142
     go_wp2_with fail
     rw [← hW1]
     clear hW1
     refine (uh HC).mono ?_
     rintro e W2 ⟨rfl,q,rfl⟩
     go_wp2_with fail
     refine bodyPost_ret (v:=.tuple #[.agg #[.int .i64 16,.int .i64 ((t:Int) - 3),.int .i64 2],.int .i64 (t:Int)]) ?_ rfl ⟨rfl,(((below_q (uh HB1) q).setCell (Nat.le_refl _) _).setCell (Nat.le_refl _) _).setCell (Nat.le_refl _) _⟩
     rw [results_ct rfl]
     go_simp
    ·
     rw [if_neg (fun h=>hv h.1),if_neg (fun h=>hv h.1),if_neg (fun h=>h3 h.2.2)]
     have e1:((min 6 c:Nat):Int)=(c:Int):=by omega
     have t1:¬ (3:Int)≤(c:Int):=by omega
     have HC:=qz (uh HA 6 W1 (uh HB1) (by decide) (by decide))
     rw [e1] at HC
     clear HA e1 h3
     go_enter Tryz.func142,Tryz.ntmps142
     go_wp2_with fail
     rw [← hW1]
     clear hW1
     refine (uh HC).mono ?_
     rintro e W2 ⟨rfl,q,rfl⟩
     go_wp2_with fail
     refine bodyPost_ret (v:=.tuple #[.agg #[.int .i64 v,.int .i64 0,.int .i64 0],.int .i64 1]) ?_ rfl ⟨rfl,(((below_q (uh HB1) q).setCell (Nat.le_refl _) _).setCell (Nat.le_refl _) _).setCell (Nat.le_refl _) _⟩
     rw [results_ct rfl]
     go_simp
   | false =>
    rw [if_neg (fun h=>hv h.1),if_neg (fun h=>hv h.1),if_neg (fun h=>by cases h.2.1)]
    clear HA
    clear hW1
    go_enter Tryz.func142,Tryz.ntmps142
    go_wp2_with fail
    refine bodyPost_ret (v:=.tuple #[.agg #[.int .i64 v,.int .i64 0,.int .i64 0],.int .i64 1]) ?_ rfl ⟨rfl,(Below.refl _ _).alloc (Nat.le_refl _) _⟩
    rw [results_ct rfl]
    go_simp
  ·
   rw [if_neg (fun h=>hv h.1),if_neg (fun h=>hv h.1),if_neg (fun h=>hp h.1)]
   clear HA
   clear hW1
   go_enter Tryz.func142,Tryz.ntmps142
   go_wp2_with fail
   refine bodyPost_ret (v:=.tuple #[.agg #[.int .i64 v,.int .i64 0,.int .i64 0],.int .i64 1]) ?_ rfl ⟨rfl,(Below.refl _ _).alloc (Nat.le_refl _) _⟩
   rw [results_ct rfl]
   go_simp
end
section
open Go.RowKit Infl Defl
attribute [local go_sem ↓] wp_at_zero wp_at_succ
abbrev Wd:=Int × Nat × Nat
def wcs:List Wd→List Value
 | []=>[]
 | r :: rs=>.int .i64 r.1 :: .int .i64 (r.2.1:Int) :: .int .i64 (r.2.2:Int) :: wcs rs
theorem wcs_length:∀ l:List Wd,(wcs l).length=l.length*3
 | []=>rfl
 | r :: rs=>by simp [wcs,wcs_length rs];omega
theorem wcs_append:∀ a b:List Wd,wcs (a++b)=wcs a++wcs b
 | [],b=>rfl
 | r :: rs,b=>by simp [wcs,wcs_append rs b]
theorem wcs_one:∀ l:List Wd,∀ u∈wcs l,u.oneCell'=true
 | []=>fun u h=>by cases h
 | r :: rs=>fun u h=>by
  simp [wcs] at h
  rcases h with rfl | rfl | rfl | h
  ·rfl
  ·rfl
  ·rfl
  ·exact wcs_one rs u h
theorem info34:(Tryz.prog.info? 141).map (fun i=>(i.zero,i.size,i.bytes))=some (some (.agg #[.int .i64 0,.int .i64 0,.int .i64 0]),3,24):=by kernel_rfl
theorem wpList_append_word {w:World} {ops:Array Oper} {rest:List Oper} {o:Oper} {a:Act} {Q:Exit→Act→World→Prop} (hgd:o.guard=none) (s x:Operand)
  (ho:o.op=.call { callee:=.builtin .append,args:=#[s,x],argTypes:=#[111,111] })
  (base:Nat) (v:Value) (n:Nat) (xs:List Wd) (hs:a.eval s=v) (hown:w.ownsRow base 141 3 v n (wcs xs))
  (g:Nat) (r:Wd) (hx:a.eval x=.slice (some ⟨g,0,none⟩) 1 1) (hg:w.heap[g]?=some (.cells #[.int .i64 r.1,.int .i64 (r.2.1:Int),.int .i64 (r.2.2:Int)] 141 (0,0))) (h63:(n+1)*24≤140737488355328) (hbase:base≤w.heap.size)
  (h:∀ v' w',w'.ownsRow base 141 3 v' (n+1) (wcs (xs++[r]))→w.grownBy w' v.ownBlock→wpList Tryz.prog ops Q rest (a.put o.dst v') w'):wpList Tryz.prog ops Q (o :: rest) a w:=by
 obtain ⟨i0,hii,hz0,hz1,hz2⟩:=info_parts info34
 refine wpList_append_own (w:=w) hgd s x 111 ho base 141 i0 _ 3 24 Tryz.underlying111 hii hz0 hz1 hz2 rfl (by decide) v n (wcs xs) hs hown ⟨g,0,none⟩ 1 1 (wcs [r]) hx (by rw [wcs_length];rfl) (fun j u hj=>?_)
   (wcs_one _) (by unfold maxLen;omega) h63 hbase (fun v' w' h1 h2 h3=>h v' w' (by rw [wcs_append];exact h1) h2)
 have ea:(⟨g,0,none⟩:Addr).add j=⟨g,j,none⟩:=by by_cases hq:j=0 <;> simp [Addr.add,hq]
 rw [ea]
 simp only [World.cell?,hg]
 simpa [wcs] using hj
def againB (l:List Int) (a:Nat):Bool:=decide (0<a∧l.getD (a - 1) 0=l.getD a 0)
def step4 (l:List Int) (a:Nat):Int × Nat × Nat × Nat:=stepW (l.drop a) (againB l a)
theorem step4_is (l:List Int) (a:Nat):(step4 l a).1=(stepR l a).1∧(step4 l a).2.1=(stepR l a).2.1∧(step4 l a).2.2.2=(stepR l a).2.2:=by
 have e:(l.drop a).getD 0 0=l.getD a 0:=by simp [List.getD_eq_getElem?_getD]
 unfold step4 stepW stepR againB
 rw [e]
 generalize cntRun (l.getD a 0) (l.drop a)=c
 generalize l.getD a 0=v
 by_cases h1:v=0∧11≤c
 ·rw [if_pos h1,if_pos h1];exact ⟨rfl,rfl,rfl⟩
 ·rw [if_neg h1,if_neg h1]
  by_cases h2:v=0∧3≤c
  ·rw [if_pos h2,if_pos h2];exact ⟨rfl,rfl,rfl⟩
  ·rw [if_neg h2,if_neg h2]
   by_cases h3:0<v∧0<a∧l.getD (a - 1) 0=v∧3≤c
   ·rw [if_pos h3,if_pos ⟨h3.1,decide_eq_true ⟨h3.2.1,h3.2.2.1⟩,h3.2.2.2⟩];exact ⟨rfl,rfl,rfl⟩
   ·rw [if_neg h3,if_neg (fun h=>h3 ⟨h.1,by have:=of_decide_eq_true h.2.1;exact this.1,by have:=of_decide_eq_true h.2.1;exact this.2,h.2.2⟩)];exact ⟨rfl,rfl,rfl⟩
def wordsF (l:List Int):Nat→Nat→List Wd
 | 0,_=>[]
 | k+1,a=>if a<l.length then ((step4 l a).1,(step4 l a).2.1,(step4 l a).2.2.1) :: wordsF l k (a+(step4 l a).2.2.2) else []
def wordsL (l:List Int):List Wd:=wordsF l l.length 0
theorem wordsF_runs (l:List Int):∀ k a,(wordsF l k a).map (fun r=>(r.1,r.2.1))=runsF l k a
 | 0,_=>rfl
 | k+1,a=>by
  obtain ⟨h1,h2,h3⟩:=step4_is l a
  unfold wordsF runsF
  by_cases h:a<l.length
  ·rw [if_pos h,if_pos h,List.map_cons,h1,h2,h3,wordsF_runs l k]
  ·rw [if_neg h,if_neg h];rfl
theorem wordsL_runs (l:List Int):(wordsL l).map (fun r=>(r.1,r.2.1))=runsL l:=wordsF_runs l _ _
structure WdAt (w ws:World) (l:List Int) (a:Nat) (rs:List Wd) (v:Value):Prop where
 on:∃ k,wordsL l=rs++wordsF l k a∧l.length≤a+k
 own:ws.ownsRow w.heap.size 141 3 v rs.length (wcs rs)
 bel:Below w.heap.size w ws
 cnt:rs.length≤a
theorem WdAt.start (w:World) (l:List Int):WdAt w w l 0 [] (.slice none 0 0) :=
 ⟨⟨l.length,rfl,by omega⟩,World.ownsRow_nil _ _ _ _,Below.refl _ _,by simp⟩
theorem WdAt.below {w ws ws':World} {l:List Int} {a:Nat} {rs:List Wd} {v:Value} (h:WdAt w ws l a rs v) (hb:Below ws.heap.size ws ws'):WdAt w ws' l a rs v :=
 ⟨h.on,own_keep h.own (fun g e=>hb.block _ (h.own.lt g e).2),h.bel.trans (hb.mono h.bel.size),h.cnt⟩
theorem WdAt.next {w ws w':World} {l:List Int} {a:Nat} {rs:List Wd} {v v':Value} (h:WdAt w ws l a rs v) (ha:a<l.length)
  (hown:w'.ownsRow w.heap.size 141 3 v' (rs.length+1) (wcs (rs++[((step4 l a).1,(step4 l a).2.1,(step4 l a).2.2.1)]))) (hg:ws.grownBy w' v.ownBlock) :
  WdAt w w' l (a+(step4 l a).2.2.2) (rs++[((step4 l a).1,(step4 l a).2.1,(step4 l a).2.2.1)]) v':=by
 have hp:=(stepR_n l a ha).1
 rw [← (step4_is l a).2.2] at hp
 refine ⟨?_,by simpa using hown,h.bel.grown hg h.bel.size (fun k e=>(h.own.lt k e).1),by have:=h.cnt;simp;omega⟩
 obtain ⟨k,h1,h2⟩:=h.on
 obtain ⟨k',rfl⟩:∃ k',k=k'+1:=⟨k - 1,by omega⟩
 refine ⟨k',?_,by omega⟩
 rw [h1,wordsF,if_pos ha,List.append_assoc]
 rfl
theorem WdAt.fin {w ws:World} {l:List Int} {a:Nat} {rs:List Wd} {v:Value} (h:WdAt w ws l a rs v) (ha:l.length≤a):rs=wordsL l:=by
 obtain ⟨k,h1,h2⟩:=h.on
 rw [h1]
 cases k with
 | zero=>simp [wordsF]
 | succ k=>rw [wordsF,if_neg (by omega)];simp
theorem ReadsI.spot {w:World} {a0:Option Addr} {cap:Nat} {l:List Int} (h:ReadsI w (.slice a0 l.length cap) l) (h0:0<l.length):∃ b off,a0=some ⟨b,off,none⟩∧∀ j,j<l.length→w.cell? ⟨b,off+j,none⟩=some (.int .i64 (l.getD j 0)):=by
 obtain ⟨a,c,e,hc⟩:=h
 injection e with e1 e2 e3
 subst e1
 exact hc h0
theorem runWords_ok (l:List Int) (a0:Option Addr) (cap:Nat) (w:World) (hr:ReadsI w (.slice a0 l.length cap) l) (hcap:l.length≤cap) (hlen:l.length*24≤140737488351232) :
  Calls Tryz.prog 115 #[.slice a0 l.length cap] w fun e w'=>∃ wv,e=.returned wv∧w'.ownsRow w.heap.size 141 3 wv (wordsL l).length (wcs (wordsL l))∧Below w.heap.size w w':=by
 have HC:Hid (0<l.length→_):=qz hr.spot
 have HF:Hid (∀ (a b off:Nat) (W:World),a<l.length→Below w.heap.size w W→a0=some ⟨b,off,none⟩→Calls Tryz.prog 142 #[.slice (some ⟨b,off+a,none⟩) (l.length - a) (cap - a),.bool (againB l a)] W fun e w'=>e=.returned (.tuple #[wordI (step4 l a).1 (step4 l a).2.1 (step4 l a).2.2.1,.int .i64 ((step4 l a).2.2.2:Int)])∧Below W.heap.size W w'):=qz (fun a b off W ha hb e0=>by
  obtain ⟨b',off',e1,hc⟩:=hr.spot (by omega)
  rw [e0] at e1
  injection e1 with e1
  injection e1 with e1 e2
  subst e1 e2
  have:=firstRun_ok (l.drop a) (againB l a) b (off+a) (cap - a) W (by simp;omega) (by simp;omega) (fun j hj=>by
   simp at hj
   rw [Nat.add_assoc]
   have:=cell_stays hb (hc (a+j) (by omega))
   rw [this]
   simp [List.getD_eq_getElem?_getD])
  rw [List.length_drop] at this
  exact this)
 have HS:Hid (∀ a,a<l.length→1≤(step4 l a).2.2.2∧a+(step4 l a).2.2.2≤l.length):=qz (fun a ha=>by
  rw [(step4_is l a).2.2]
  have h1:=stepR_n l a ha
  have h2:=cntRun_le (l.getD a 0) (l.drop a)
  rw [List.length_drop] at h2
  omega)
 obtain ⟨n,hn⟩:∃ n,n=l.length:=⟨_,rfl⟩
 have HN:=qz hn
 rw [← hn] at hlen hcap HC HF HS ⊢
 clear hr hn
 go_enter Tryz.func115,Tryz.ntmps115
 go_wp2_with fail
 go_loopg [3,4] n (fun gk wv av ws=>∃ (a:Nat) (rs:List Wd),gk=n - a∧a≤n∧av=.int .i64 (a:Int)∧WdAt w ws l a rs wv)
 case atStart=>exact ⟨0,[],by omega,by omega,rfl,WdAt.start w l⟩
 case round =>
  obtain ⟨a,rs,rfl,han,rfl,hat⟩:=hrel
  by_cases hlt:a<n
  ·have e1:(a:Int)<(n:Int):=by omega
   obtain ⟨b,off,rfl,hc⟩:=uh HC (by omega)
   have k1:=cell_stays hat.bel (hc a (by have:=uh HN;omega))
   have HF2:Hid (∀ W:World,Below w.heap.size w W→_):=qz (fun W hb=>uh HF a b off W hlt hb rfl)
   have hst:=uh HS a hlt
   have HNX:Hid (∀ (W w':World) (v':Value),WdAt w W l a rs u3→w'.ownsRow w.heap.size 141 3 v' (rs.length+1) (wcs (rs++[((step4 l a).1,(step4 l a).2.1,(step4 l a).2.2.1)]))→W.grownBy w' u3.ownBlock→WdAt w w' l (a+(step4 l a).2.2.2) (rs++[((step4 l a).1,(step4 l a).2.1,(step4 l a).2.2.1)]) v'):=qz (fun W w' v' h h1 h2=>h.next (by rw [← uh HN];exact hlt) h1 h2)
   have hcnt:=hat.cnt
   have HAG:Hid (againB l a=decide (0<a∧l.getD (a - 1) 0=l.getD a 0)):=qz rfl
   generalize againB l a=ag at HF2 HAG
   generalize (step4 l a).2.2.2=t at HF2 HNX hst
   generalize (step4 l a).2.2.1=x at HF2 HNX
   generalize (step4 l a).2.1=m at HF2 HNX
   generalize (step4 l a).1=sy at HF2 HNX
   unfold wordI at HF2
   clear HF HS
   have HAT:=qz hat
   clear hat
   have hca:¬ cap=a:=by omega
   by_cases ha0:0<a
   ·have g0:(0:Int)<(a:Int):=by omega
    have k0:=cell_stays (uh HAT).bel (hc (a - 1) (by have:=uh HN;omega))
    have e2:(a:Int) - 1=((a - 1:Nat):Int):=by omega
    have e3:((a - 1:Nat):Int)<(n:Int):=by omega
    obtain ⟨y,hy⟩:∃ y,y=l.getD a 0:=⟨_,rfl⟩
    obtain ⟨z,hz⟩:∃ z,z=l.getD (a - 1) 0:=⟨_,rfl⟩
    rw [← hy] at k1
    rw [← hz] at k0
    obtain ⟨p,hp⟩:∃ p,p=a - 1:=⟨_,rfl⟩
    rw [← hp] at k0 e2 e3
    have hag:(z == y)=ag:=by
     rw [uh HAG,← hy,← hz]
     by_cases h:z=y
     ·simp [h,ha0]
     ·simp [h]
    have HP:=qz hp
    clear hy hz hc HC hp
    go_wp2_with fail
    go_quiet (fail)
    go_wp2_with fail
    refine (uh HF2 _ (below_q (uh HAT).bel nq)).mono ?_
    rintro e W2 ⟨rfl,hb2⟩
    have HAT3:Hid (WdAt w ((W2.alloc (.cells #[.int .i64 sy,.int .i64 (m:Int),.int .i64 (x:Int)] 141)).alloc (.cells #[.int .i64 sy,.int .i64 (m:Int),.int .i64 (x:Int)] 141)) l a rs u3):=qz (((uh HAT).below ((below_q (Below.refl _ _) nq).trans hb2)).below (((Below.refl _ _).alloc (Nat.le_refl _) _).alloc (by simp) _))
    have HSZ:Hid (w.heap.size≤W2.heap.size):=qz (((uh HAT).below ((below_q (Below.refl _ _) nq).trans hb2)).bel.size)
    have HG:Hid (((W2.alloc (.cells #[.int .i64 sy,.int .i64 (m:Int),.int .i64 (x:Int)] 141)).alloc (.cells #[.int .i64 sy,.int .i64 (m:Int),.int .i64 (x:Int)] 141)).heap[W2.heap.size+1]?=some (.cells #[.int .i64 sy,.int .i64 (m:Int),.int .i64 (x:Int)] 141 (0,0))):=qz (by
     rw [show W2.heap.size+1=(W2.alloc (.cells #[.int .i64 sy,.int .i64 (m:Int),.int .i64 (x:Int)] 141)).heap.size by simp]
     exact heap_alloc_new _ _)
    obtain ⟨K,hK⟩:∃ K,K=rs.length:=⟨_,rfl⟩
    have HOWN:=qz (uh HAT3).own
    rw [← hK] at hcnt HNX HOWN
    have hat2:a+t≤n:=hst.2
    have ht1:1≤t:=hst.1
    clear hb2 HAT HF2 hst hK
    obtain ⟨a2,ha2⟩:∃ a2,a2=a+t:=⟨_,rfl⟩
    have e9:(a:Int)+(t:Int)=(a2:Int):=by omega
    rw [← ha2] at hat2 HNX
    have ha3:a<a2:=by omega
    clear ha2
    go_wp2_with (at_builtin;go_must (refine wpList_append_word rfl _ _ rfl w.heap.size u3 K rs (by rfl) (uh HOWN) (W2.heap.size+1) (sy,m,x) (by rfl) (uh HG) (by omega) (by have:=uh HSZ;simp;omega) ?_;intro v' w' h1 h2;have HN2:=qz (uh HNX _ _ _ (uh HAT3) h1 h2);clear h1 h2 HNX HAT3 HOWN HG))
    go_roundg (n - a2)
    case measure=>omega
    case rel=>exact ⟨a2,_,rfl,by omega,by go_num,uh HN2⟩
   ·obtain rfl:a=0:=by omega
    have hag:ag=false:=by rw [uh HAG];simp
    subst hag
    have kz:wr.cell? ⟨b,off,none⟩=some (.int .i64 (l.getD 0 0)):=by simpa using k1
    clear hc HC k1
    go_wp2_with fail
    go_quiet (fail)
    go_wp2_with fail
    simp only [Nat.add_zero,Nat.sub_zero] at HF2
    rw [Nat.zero_add] at hst
    refine (uh HF2 _ (below_q (uh HAT).bel nq)).mono ?_
    rintro e W2 ⟨rfl,hb2⟩
    have HAT3:Hid (WdAt w ((W2.alloc (.cells #[.int .i64 sy,.int .i64 (m:Int),.int .i64 (x:Int)] 141)).alloc (.cells #[.int .i64 sy,.int .i64 (m:Int),.int .i64 (x:Int)] 141)) l 0 rs u3):=qz (((uh HAT).below ((below_q (Below.refl _ _) nq).trans hb2)).below (((Below.refl _ _).alloc (Nat.le_refl _) _).alloc (by simp) _))
    have HSZ:Hid (w.heap.size≤W2.heap.size):=qz (((uh HAT).below ((below_q (Below.refl _ _) nq).trans hb2)).bel.size)
    have HG:Hid (((W2.alloc (.cells #[.int .i64 sy,.int .i64 (m:Int),.int .i64 (x:Int)] 141)).alloc (.cells #[.int .i64 sy,.int .i64 (m:Int),.int .i64 (x:Int)] 141)).heap[W2.heap.size+1]?=some (.cells #[.int .i64 sy,.int .i64 (m:Int),.int .i64 (x:Int)] 141 (0,0))):=qz (by
     rw [show W2.heap.size+1=(W2.alloc (.cells #[.int .i64 sy,.int .i64 (m:Int),.int .i64 (x:Int)] 141)).heap.size by simp]
     exact heap_alloc_new _ _)
    obtain ⟨K,hK⟩:∃ K,K=rs.length:=⟨_,rfl⟩
    have HOWN:=qz (uh HAT3).own
    rw [← hK] at hcnt HNX HOWN
    have hat2:t≤n:=hst.2
    have ht1:1≤t:=hst.1
    clear hb2 HAT HF2 hst hK
    rw [Nat.zero_add] at HNX
    go_wp2_with (at_builtin;go_must (refine wpList_append_word rfl _ _ rfl w.heap.size u3 K rs (by rfl) (uh HOWN) (W2.heap.size+1) (sy,m,x) (by rfl) (uh HG) (by omega) (by have:=uh HSZ;simp;omega) ?_;intro v' w' h1 h2;have HN2:=qz (uh HNX _ _ _ (uh HAT3) h1 h2);clear h1 h2 HNX HAT3 HOWN HG))
    go_roundg (n - t)
    case measure=>omega
    case rel=>exact ⟨t,_,rfl,by omega,by go_num,uh HN2⟩
  ·obtain rfl:a=n:=by omega
   have HE:=qz (hat.fin (by rw [← uh HN];omega))
   have HO:=qz hat.own
   have HB:=qz hat.bel
   clear hat
   go_wp2_with fail
   go_ret
   exact ⟨_,rfl,by rw [← uh HE];exact uh HO,uh HB⟩
end
namespace W4
open Go.RowKit Mth Infl Defl
attribute [local go_sem ↓] wp_at_zero wp_at_succ
theorem grow_ok (n:Nat) (w:World) (h1:1≤n) (h2:n≤1000000) :
  Calls Tryz.prog 143 #[.slice none 0 0,.int .i64 (n:Int)] w fun e w'=>∃ G,e=.returned (.slice (some ⟨w.heap.size,0,none⟩) 0 G)∧w'.ownsRow w.heap.size 3 1 (.slice (some ⟨w.heap.size,0,none⟩) 0 G) 0 []∧n≤G∧Below w.heap.size w w':=by
 obtain ⟨i0,hi,hz0,hz1,hz2⟩:=info_parts info3'
 obtain ⟨G,hG⟩:∃ G,G=grownCap w (0+n) 0 3:=⟨_,rfl⟩
 obtain ⟨W1,hW1⟩:∃ W1,W1=w.drew.alloc (.cells ((([]:List Value)).toArray++Builtin.zeroCells (Value.int .i64 0).cells n++Builtin.zeroCells (Value.int .i64 0).cells (G - (0+n))) 3):=⟨_,rfl⟩
 have hold:(Builtin.firstCells i0.size 0 (.slice none 0 0)).run Tryz.prog w.drew=.ok ([]:List Value).toArray w.drew:=run_firstCells_none w.drew i0.size 0 0 0
 have hge:n≤G:=by rw [hG];have:=grownCap_ge w (0+n) 0 3;omega
 have hle:G≤maxLen:=by rw [hG];exact grownCap_le_maxLen w (0+n) 0 3 (by unfold maxLen;omega)
 have hrz:∀ ty,(Builtin.append_ #[45,3] ty #[.slice none 0 0,.int .i64 (n:Int)]).run Tryz.prog w=.ok (.slice (some ⟨w.heap.size,0,none⟩) (0+n) G) W1:=fun ty=>by
  have h:=Lib.run_append_grow_zeros w 45 3 ty 3 i0 (.int .i64 0) .i64 .i64 Tryz.underlying45 Tryz.underlying3 hi hz0 none 0 0 [] hold n (by omega) (by rw [hz1];decide) (by omega) (by omega) (by rw [hz2];omega)
   (growslice_fits (by omega) (by rw [hz2];omega))
  rw [← hG] at h
  rw [hW1]
  exact h
 rw [Nat.zero_add] at hrz
 have HE:Hid (W1.ownsRow w.heap.size 3 1 (.slice (some ⟨w.heap.size,0,none⟩) 0 G) 0 []∧Below w.heap.size w W1):=qz (by
  refine ⟨⟨rfl,.inr ⟨w.heap.size,G,_,rfl,Nat.le_refl _,(by rw [hW1];exact heap_alloc_new _ _),Nat.zero_le _,hle,?_,rfl⟩⟩,?_⟩
  ·simp [Builtin.zeroCells,Value.cells];omega
  ·rw [hW1];exact Below.alloc (⟨rfl,rfl,rfl,Nat.le_refl _,fun _ _=>rfl⟩:Below w.heap.size w w.drew) (Nat.le_refl _) _)
 have hG63:G≤9223372036854775807:=by unfold maxLen at hle;omega
 clear hG hold hW1 hz0 hz1 hz2 hle hi
 go_enter Tryz.func143,Tryz.ntmps143
 go_wp2_with (at_builtin;refine Lib.wpList_append_run _ rfl _ _ _ _ rfl _ _ rfl rfl _ _ (hrz _) ?_)
 all_goals (go_ret;exact ⟨G,rfl,(uh HE).1,hge,(uh HE).2⟩)
end W4
namespace W4
open Go.RowKit Mth Infl Defl
attribute [local go_sem ↓] wp_at_zero wp_at_succ
theorem iv_one (xs:List Int):∀ u∈xs.map iv,u.oneCell'=true:=by
 intro u hu
 obtain ⟨b,_,rfl⟩:=List.mem_map.1 hu
 rfl
def RowI (w:World) (b o:Nat) (xs:List Int):Prop:=∀ (j:Nat) u,(xs.map iv)[j]?=some u→w.cell? ((⟨b,o,none⟩:Addr).add j)=some u
theorem RowI.keep {w w':World} {b o:Nat} {xs:List Int} (h:RowI w b o xs) (hk:w'.heap[b]?=w.heap[b]?):RowI w' b o xs:=by
 intro j u hj
 have:=h j u hj
 unfold World.cell? at this ⊢
 rw [add_block] at this ⊢
 show _=_
 rw [show (⟨b,o,none⟩:Addr).block=b from rfl] at this ⊢
 rw [hk]
 exact this
theorem concat_ok (xs ys:List Int) (q b1 o1 k1 b2 o2 k2:Nat) (w:World) (hq:w.heap[q]?=some (.cells #[.slice (some ⟨b1,o1,none⟩) xs.length k1,.slice (some ⟨b2,o2,none⟩) ys.length k2] 45 (0,0)))
  (hx:RowI w b1 o1 xs) (hy:RowI w b2 o2 ys) (hb1:b1<w.heap.size) (hb2:b2<w.heap.size) (hx1:1≤xs.length) (hy1:1≤ys.length) (hx2:xs.length≤1000) (hy2:ys.length≤1000) (hk1:xs.length≤k1) (hk2:ys.length≤k2) :
  Calls Tryz.prog 116 #[.slice (some ⟨q,0,none⟩) 2 2] w fun e w'=>∃ v,e=.returned v∧w'.ownsRow w.heap.size 3 1 v (xs++ys).length ((xs++ys).map iv)∧Below w.heap.size w w':=by
 obtain ⟨i0,hi,hz0,hz1,hz2⟩:=info_parts info3'
 have d0:w.cell? ⟨q,0,none⟩=some (.slice (some ⟨b1,o1,none⟩) xs.length k1):=by simp only [World.cell?,hq];rfl
 have d1:w.cell? ⟨q,1,none⟩=some (.slice (some ⟨b2,o2,none⟩) ys.length k2):=by simp only [World.cell?,hq];rfl
 have HD:Hid (∀ W,Below w.heap.size w W→W.cell? ⟨q,0,none⟩=some (.slice (some ⟨b1,o1,none⟩) xs.length k1)∧W.cell? ⟨q,1,none⟩=some (.slice (some ⟨b2,o2,none⟩) ys.length k2)∧RowI W b1 o1 xs∧RowI W b2 o2 ys):=qz (fun W hW=>by
  have:=(hW.block _ (heap_lt hq)).trans hq
  refine ⟨?_,?_,hx.keep (hW.block _ hb1),hy.keep (hW.block _ hb2)⟩ <;> (simp only [World.cell?,this];rfl))
 have HGR:=qz (grow_ok (xs.length+ys.length) w (by omega) (by omega))
 have HA:Hid (∀ (ops:Array Oper) (rest:List Oper) (o:Oper) (a:Act) (Q:Exit→Act→World→Prop) (W:World) (s x:Operand) (va:Value) (us vs:List Int) (b o' k:Nat),o.guard=none→o.op=.call { callee:=.builtin .append,args:=#[s,x],argTypes:=#[45,45] }→a.eval s=va→a.eval x=.slice (some ⟨b,o',none⟩) vs.length k→W.ownsRow w.heap.size 3 1 va us.length (us.map iv)→Below w.heap.size w W→RowI W b o' vs→vs.length≤k→us.length≤1000→vs.length≤1000 →
   (∀ v' w',w'.ownsRow w.heap.size 3 1 v' (us++vs).length ((us++vs).map iv)→Below w.heap.size w w'→wpList Tryz.prog ops Q rest (a.put o.dst v') w')→wpList Tryz.prog ops Q (o :: rest) a W):=qz (by
  intro ops rest o a Q W s x va us vs b o' k hgd ho hs hxx hown hbel hrow hkk hu hv h
  refine wpList_append_own_at W hgd s x 45 ho w.heap.size 3 i0 (.int .i64 0) 1 8 Tryz.underlying45 hi hz0 hz1 hz2 rfl (by decide) va us.length (us.map iv) hs hown ⟨b,o',none⟩ vs.length k (vs.map iv) (by rw [hxx]) (by simp) hrow (iv_one vs) (by unfold maxLen;omega) (by omega) hbel.size ?_
  intro v' w' h2 h3 _ h5
  refine h v' w' ?_ (hbel.grown h3 hbel.size (fun k e=>(hown.lt k e).1))
  rw [List.length_append,List.map_append]
  exact h2)
 obtain ⟨n1,hn1⟩:∃ n1,n1=xs.length:=⟨_,rfl⟩
 obtain ⟨n2,hn2⟩:∃ n2,n2=ys.length:=⟨_,rfl⟩
 have HN1:=qz hn1
 have HN2:=qz hn2
 rw [← hn1] at d0 HD HGR hx1 hx2 hk1
 rw [← hn2] at d1 HD HGR hy1 hy2 hk2
 clear hq hx hy hb1 hb2 hn1 hn2 hi hz0 hz1 hz2
 go_enter Tryz.func116,Tryz.ntmps116
 go_wp2_with fail
 go_loopg [3,11] 2 (fun gk sv iv' ws=>(gk=2∧sv=.int .i64 0∧iv'=.int .i64 0∧w=ws)∨(gk=1∧sv=.int .i64 (n1:Int)∧iv'=.int .i64 1∧w=ws)∨(gk=0∧sv=.int .i64 ((n1+n2:Nat):Int)∧iv'=.int .i64 2∧w=ws))
 case atStart=>exact .inl ⟨rfl,rfl,rfl,rfl⟩
 case round =>
  rcases hrel with ⟨rfl,rfl,rfl,rfl⟩ | ⟨rfl,rfl,rfl,rfl⟩ | ⟨rfl,rfl,rfl,rfl⟩
  ·go_wp2_with fail
   go_roundg 1
   case measure=>omega
   case rel=>exact .inr (.inl ⟨rfl,by go_num,by go_num,rfl⟩)
  ·go_wp2_with fail
   go_roundg 0
   case measure=>omega
   case rel=>exact .inr (.inr ⟨rfl,by go_num,by go_num,rfl⟩)
  ·go_wp2_with fail
   refine (uh HGR).mono ?_
   rintro e W1 ⟨G,rfl,g1,g2,g3⟩
   have HO1:Hid (W1.ownsRow w.heap.size 3 1 (.slice (some ⟨w.heap.size,0,none⟩) 0 G) ([]:List Int).length (([]:List Int).map iv)):=qz g1
   have HB1:=qz g3
   clear g1 g3 g2 HGR
   go_wp2_with fail
   go_loopg [6,27] 2 (fun gk rv iv' ws=>∃ us:List Int,((gk=2∧iv'=.int .i64 0∧us=[])∨(gk=1∧iv'=.int .i64 1∧us=xs)∨(gk=0∧iv'=.int .i64 2∧us=xs++ys))∧Hid (ws.ownsRow w.heap.size 3 1 rv us.length (us.map iv))∧Hid (Below w.heap.size w ws))
   case atStart=>exact ⟨[],.inl ⟨rfl,rfl,rfl⟩,HO1,HB1⟩
   case round =>
    clear HO1 HB1
    obtain ⟨us,hcase,HO,HB⟩:=hrel
    obtain ⟨y0,y1,r1,r2⟩:=uh HD wr (uh HB)
    have HR1:=qz r1
    have HR2:=qz r2
    clear r1 r2 d0 d1
    rcases hcase with ⟨rfl,rfl,rfl⟩ | ⟨rfl,rfl,rfl⟩ | ⟨rfl,rfl,rfl⟩
    ·go_wp2_with (at_builtin;refine uh HA _ _ _ _ _ _ _ _ _ [] xs b1 o1 k1 rfl rfl rfl (by rw [← uh HN1];rfl) (uh HO) (uh HB) (uh HR1) (by rw [← uh HN1];exact hk1) (by simp) (by rw [← uh HN1];exact hx2) (fun v' w' p1 p2=>?_);have HO':=qz p1;have HB':=qz p2;clear p1 p2)
     go_roundg 1
     case measure=>omega
     case rel=>exact ⟨xs,.inr (.inl ⟨rfl,by go_num,rfl⟩),HO',HB'⟩
    ·go_wp2_with (at_builtin;refine uh HA _ _ _ _ _ _ _ _ _ us ys b2 o2 k2 rfl rfl rfl (by rw [← uh HN2];rfl) (uh HO) (uh HB) (uh HR2) (by rw [← uh HN2];exact hk2) (by rw [← uh HN1];exact hx2) (by rw [← uh HN2];exact hy2) (fun v' w' p1 p2=>?_);have HO':=qz p1;have HB':=qz p2;clear p1 p2)
     go_roundg 0
     case measure=>omega
     case rel=>exact ⟨us++ys,.inr (.inr ⟨rfl,by go_num,rfl⟩),HO',HB'⟩
    ·go_wp2_with fail
     go_ret
     exact ⟨_,rfl,uh HO,uh HB⟩
end W4
namespace W4
open Go.RowKit Mth Infl Defl
attribute [local go_sem ↓] wp_at_zero wp_at_succ
def WordsAt (w:World) (a:Option Addr) (rs:List Wd):Prop:=∀ i,i<rs.length→∃ b off,a=some ⟨b,off,none⟩∧w.cell? ⟨b,off+i*3,none⟩=some (.int .i64 (rs.getD i (0,0,0)).1)∧w.cell? ⟨b,off+i*3+1,none⟩=some (.int .i64 ((rs.getD i (0,0,0)).2.1:Int))∧w.cell? ⟨b,off+i*3+2,none⟩=some (.int .i64 ((rs.getD i (0,0,0)).2.2:Int))
theorem WordsAt.keep {w w':World} {a:Option Addr} {rs:List Wd} (h:WordsAt w a rs) (hk:∀ ad,a=some ad→0<rs.length→ad.block<w.heap.size→w'.heap[ad.block]?=w.heap[ad.block]?):WordsAt w' a rs:=by
 intro i hi
 obtain ⟨b,off,ha,q1,q2,q3⟩:=h i hi
 have hbl:b<w.heap.size:=cell_lt q1
 have hh:=hk _ ha (by omega) hbl
 refine ⟨b,off,ha,?_,?_,?_⟩
 ·simp only [World.cell?] at q1 ⊢;rw [hh];exact q1
 ·simp only [World.cell?] at q2 ⊢;rw [hh];exact q2
 ·simp only [World.cell?] at q3 ⊢;rw [hh];exact q3
def cw (rs:List Wd) (s:Nat):Nat:=(rs.map fun r=>r.1.toNat).count s
theorem cw_snoc (rs:List Wd) (i:Nat) (hi:i<rs.length):cw (rs.take (i+1))=upd (cw (rs.take i)) (rs.getD i (0,0,0)).1.toNat (cw (rs.take i) (rs.getD i (0,0,0)).1.toNat+1):=by
 funext s
 have e:rs.take (i+1)=rs.take i++[rs.getD i (0,0,0)]:=by
  rw [List.take_succ_eq_append_getElem hi]
  simp [List.getD_eq_getElem?_getD,hi]
 unfold cw upd
 rw [e,List.map_append,List.count_append,List.map_cons,List.map_nil,List.count_cons,List.count_nil]
 by_cases h:s=(rs.getD i (0,0,0)).1.toNat
 ·rw [if_pos h,h];simp
 ·rw [if_neg h]
  have:¬ ((rs.getD i (0,0,0)).1.toNat == s)=true:=by simp;exact fun e=>h e.symm
  rw [if_neg this]
  simp
theorem cw_le (rs:List Wd) (s:Nat):cw rs s≤rs.length:=by
 unfold cw
 refine Nat.le_trans List.count_le_length ?_
 rw [List.length_map]
 exact Nat.le_refl _
theorem inner_ok (rs:List Wd) (a:Option Addr) (cap:Nat) (w:World) (hr:WordsAt w a rs) (hs:∀ r∈rs,0≤r.1∧r.1<19) (hlen:rs.length≤1000) (htot:L5.tot (osOf (cw rs) 19) 19≤1099511627776) :
  Calls Tryz.prog 117 #[.slice a rs.length cap] w fun e w'=>∃ l g,e=.returned (.slice (some ⟨g,0,none⟩) 19 19)∧L5.IsOrder (osOf (cw rs) 19) l∧w.heap.size≤g∧L5.IntsAt w' .i64 3 g 19 (L5.ans (osOf (cw rs) 19) l 7)∧Below w.heap.size w w':=by
 have hm:∀ w,(Instr.makeSlice 45 (.int .i64 19) (.int .i64 19)).run Tryz.prog w=.ok (.slice (some ⟨w.heap.size,0,none⟩) 19 19) (w.alloc (.cells (icells .i64 19 (fun _=>0)) 3)):=fun w=>ints_made w 19 (by decide)
 have HW:Hid (∀ W,Below w.heap.size w W→WordsAt W a rs):=qz (fun W hW=>hr.keep fun ad ha _ hl=>hW.block _ hl)
 have HS:Hid (∀ i,i<rs.length→0≤(rs.getD i (0,0,0)).1∧(rs.getD i (0,0,0)).1<19):=qz (fun i hi=>hs _ (by simp [List.getD_eq_getElem?_getD,hi]))
 have HCN:Hid (∀ i,i<rs.length→cw (rs.take (i+1))=upd (cw (rs.take i)) (rs.getD i (0,0,0)).1.toNat (cw (rs.take i) (rs.getD i (0,0,0)).1.toNat+1)):=qz (cw_snoc rs)
 have HCL:Hid (∀ i s,cw (rs.take i) s≤1000):=qz (fun i s=>by have:=cw_le (rs.take i) s;rw [List.length_take] at this;omega)
 have HBE:Hid (∀ W,IntsAt W .i64 3 w.heap.size 19 (cw rs)→Calls Tryz.prog 114 #[.slice (some ⟨w.heap.size,0,none⟩) 19 19,.int .i64 7] W fun e w'=>∃ l g,e=.returned (.slice (some ⟨g,0,none⟩) 19 19)∧L5.IsOrder (osOf (cw rs) 19) l∧W.heap.size≤g∧L5.IntsAt w' .i64 3 g 19 (L5.ans (osOf (cw rs) 19) l 7)∧Below W.heap.size W w'):=qz (fun W hW=>best_ok (cw rs) 7 19 _ W ⟨_,19,by rw [osOf_length],fun _=>⟨w.heap.size,0,rfl,fun j hj=>by
  rw [osOf_length] at hj
  rw [osOf_get _ _ _ hj,Nat.zero_add]
  exact hW.cell j hj⟩⟩ (by decide) (by decide) (by decide) (by decide) htot)
 have HFIN:Hid (rs.take rs.length=rs):=qz (List.take_length ..)
 obtain ⟨n,hn⟩:∃ n,n=rs.length:=⟨_,rfl⟩
 rw [← hn] at HS HCN HFIN hlen ⊢
 have HR:Hid (∀ W i,Below w.heap.size w W→i<n→∃ b off,a=some ⟨b,off,none⟩∧W.cell? ⟨b,off+i*3,none⟩=some (.int .i64 (rs.getD i (0,0,0)).1)∧W.cell? ⟨b,off+i*3+1,none⟩=some (.int .i64 ((rs.getD i (0,0,0)).2.1:Int))∧W.cell? ⟨b,off+i*3+2,none⟩=some (.int .i64 ((rs.getD i (0,0,0)).2.2:Int))):=qz (fun W i hW hi=>uh HW W hW i (by rw [← hn];exact hi))
 have HI0:Hid (IntsAt (w.alloc (.cells (icells .i64 19 (fun _=>0)) 3)) .i64 3 w.heap.size 19 (cw (rs.take 0))):=qz (by
  show _=_
  rw [heap_alloc_new]
  rfl)
 have HB0:Hid (Below w.heap.size w (w.alloc (.cells (icells .i64 19 (fun _=>0)) 3))):=qz ((Below.refl _ _).alloc (Nat.le_refl _) _)
 clear hr hs hn HW htot
 obtain ⟨gl,hgl⟩:∃ gl,gl=w.heap.size:=⟨_,rfl⟩
 go_enter Tryz.func117,Tryz.ntmps117
 go_wp2_with fail
 rw [← hgl] at HI0 HBE ⊢
 have HGL:=qz hgl
 clear hgl
 go_loopg [9] n (fun gk iv' ws=>∃ i:Nat,gk=n - i∧i≤n∧iv'=.int .i64 (i:Int)∧Hid (IntsAt ws .i64 3 gl 19 (cw (rs.take i)))∧Hid (Below w.heap.size w ws))
 case atStart=>exact ⟨0,by omega,by omega,rfl,HI0,HB0⟩
 case round =>
  clear HI0 HB0
  obtain ⟨i,rfl,hin,rfl,hI,hB⟩:=hrel
  by_cases hlt:i<n
  ·have e1:(i:Int)<(n:Int):=by omega
   obtain ⟨b,off,rfl,q1,q2,q3⟩:=uh HR wr i (uh hB) hlt
   have hs:=uh HS i hlt
   have HC:=qz (uh HCN i hlt)
   have hcl:=uh HCL i (rs.getD i (0,0,0)).1.toNat
   generalize rs.getD i (0,0,0)=r at q1 q2 q3 hs HC hcl
   obtain ⟨r1,r2,r3⟩:=r
   simp only at q1 q2 q3 hs HC hcl
   obtain ⟨s,rfl⟩:=Int.eq_ofNat_of_zero_le hs.1
   simp only [Int.toNat_natCast] at HC hcl
   obtain ⟨W1,hW1⟩:∃ W1,W1=wr.alloc (.cells #[.int .i64 (s:Int),.int .i64 (r2:Int),.int .i64 (r3:Int)] 141):=⟨_,rfl⟩
   have hI1:IntsAt W1 .i64 3 gl 19 (cw (rs.take i)):=by rw [hW1];exact (uh hI).alloc _
   have x1:W1.heap[wr.heap.size]?=some (.cells #[.int .i64 (s:Int),.int .i64 (r2:Int),.int .i64 (r3:Int)] 141 (0,0)):=by rw [hW1];exact heap_alloc_new _ _
   have d0:W1.cell? ⟨wr.heap.size,0,none⟩=some (.int .i64 (s:Int)):=by simp only [World.cell?,x1];rfl
   have d1:=hI1.cell s (by omega)
   have d2:=hI1.free s
   have hs19:(s:Int)<19:=hs.2
   generalize hcc:cw (rs.take i) s=c at d1 hcl HC
   have HCE:Hid ((c:Int)+1=((c+1:Nat):Int)):=qz (by omega)
   have HI2:Hid (IntsAt (W1.setCell ⟨gl,s,none⟩ (.int .i64 ((c:Int)+1))) .i64 3 gl 19 (cw (rs.take (i+1)))):=qz (by
    rw [uh HC,uh HCE]
    exact hI1.set s _)
   have HB2:Hid (Below w.heap.size w (W1.setCell ⟨gl,s,none⟩ (.int .i64 ((c:Int)+1)))):=qz (by
    have:Below w.heap.size w W1:=by rw [hW1];exact (uh hB).alloc (uh hB).size _
    exact this.setCell (by show w.heap.size≤gl;rw [uh HGL];exact Nat.le_refl _) _)
   rw [hW1] at d0 d1 d2
   clear hI hB hI1 x1 hcc HC
   go_wp2_with fail
   rw [← hW1]
   go_roundg (n - (i+1))
   case measure=>omega
   case rel=>exact ⟨i+1,rfl,by omega,by go_num,HI2,HB2⟩
  ·obtain rfl:i=n:=by omega
   have HE:Hid (Calls Tryz.prog 114 #[.slice (some ⟨gl,0,none⟩) 19 19,.int .i64 7] wr fun e w'=>∃ l g,e=.returned (.slice (some ⟨g,0,none⟩) 19 19)∧L5.IsOrder (osOf (cw rs) 19) l∧wr.heap.size≤g∧L5.IntsAt w' .i64 3 g 19 (L5.ans (osOf (cw rs) 19) l 7)∧Below wr.heap.size wr w'):=qz (uh HBE wr (by have:=uh hI;rw [uh HFIN] at this;exact this))
   clear hI
   go_wp2_with fail
   refine (uh HE).mono ?_
   rintro e W2 ⟨l,g,rfl,k1,k2,k3,k4⟩
   have HK:=qz (And.intro k1 (And.intro (Nat.le_trans (uh hB).size k2) (And.intro k3 ((uh hB).trans (k4.mono (uh hB).size)))))
   clear k1 k2 k3 k4 HE
   go_wp2_with fail
   go_ret
   obtain ⟨k1,k2,k3,k4⟩:=uh HK
   exact ⟨l,g,rfl,k1,k2,k3,k4⟩
end W4
end Go.Proofs.YtabeanealkopbaaGreat
