/- Texts of one proof, one behind the other: L5Mgd, L5Shelf, L5Sort, L5Order, L5Come, L5Play, L5Backward, L5Taken, L5TakeI, L5Take, L5Cost, L5Who, L5Lens, L5Costly, Lm, P1. -/
import Derived.Test.YtljdhaepkhhnlaaGreatVE
import Derived.Shelf.SlSortCmp.NoneTotal
import Derived.Shelf.SlicesG.Cmp

set_option linter.unusedVariables false
set_option maxRecDepth 100000
set_option maxHeartbeats 24000000
namespace Go.Proofs.YtljdhaepkhhnlaaGreat
namespace L5
open Go.RowKit
attribute [local go_sem ↓] wp_at_zero wp_at_succ
theorem mk_i (w:World) (n:Nat) (hn:n≤1000000):(Instr.makeSlice 49 (.int .i64 0) (.int .i64 (n:Int))).run Tryz.prog w=.ok (.slice (some ⟨w.heap.size,0,none⟩) 0 n) (w.alloc (.cells (z0b .i64 n (fun _=>0)) 3)):=by
 obtain ⟨i0,hi,hz0,hz1,hz2⟩:=info_parts info3'
 have:=run_make (P:=Tryz.prog) w 49 3 i0 (.int .i64 0) Tryz.underlying49 hi hz0 .i64 .i64 0 (n:Int) (by omega) (by omega) (by rw [hz2];omega) (by omega)
 rw [hz1] at this
 rw [this]
 congr 3
 apply Array.ext (by simp [madeCells,z0b])
 intro k k1 k2
 simp only [z0b,madeCells,List.getElem_toArray,List.getElem_map,Array.getElem_map,Array.getElem_range]
 simp [Value.cells,Nat.mod_one]
theorem mk_a (w:World) (n:Nat) (hn:n≤1000000):(Instr.makeSlice 49 (.int .i64 1) (.int .i64 ((n:Int)+1))).run Tryz.prog w=.ok (.slice (some ⟨w.heap.size,0,none⟩) 1 (n+1)) (w.alloc (.cells (z0b .i64 (n+1) (fun _=>0)) 3)):=by
 obtain ⟨i0,hi,hz0,hz1,hz2⟩:=info_parts info3'
 have:=run_make (P:=Tryz.prog) w 49 3 i0 (.int .i64 0) Tryz.underlying49 hi hz0 .i64 .i64 1 ((n:Int)+1) (by omega) (by omega) (by rw [hz2];omega) (by omega)
 rw [hz1] at this
 rw [this]
 congr 3
 apply Array.ext (by simp [madeCells,z0b])
 intro k k1 k2
 simp only [z0b,madeCells,List.getElem_toArray,List.getElem_map,Array.getElem_map,Array.getElem_range]
 simp [Value.cells,Nat.mod_one]
theorem w1j (a b:Int) (w:World):Calls Tryz.prog 150 #[.int .i64 a,.int .i64 b] w fun e w'=>e=.returned (.bool (decide (a≤b)))∧w'=w:=by
 go_enter Tryz.func150,Tryz.ntmps150
 go_wp2
 go_ret
 exact ⟨rfl,rfl⟩
theorem w1k (a b:Int) (h:a≤b) (w:World):Calls Tryz.prog 150 #[.int .i64 a,.int .i64 b] w fun e w'=>e=.returned (.bool true)∧w'=w :=
 (w1j a b w).mono fun e w' ⟨h1,h2⟩=>⟨by rw [h1,decide_eq_true h],h2⟩
theorem w2j (a b:Int) (h:¬a≤b) (w:World):Calls Tryz.prog 150 #[.int .i64 a,.int .i64 b] w fun e w'=>e=.returned (.bool false)∧w'=w :=
 (w1j a b w).mono fun e w' ⟨h1,h2⟩=>⟨by rw [h1,decide_eq_false h],h2⟩
theorem x9y (A B:List Nat) {p i j:Nat} (h:Merge.st A B p=(i,j)):Merge.st A B (p+1)=if Merge.goes A B (i,j)=true then (i+1,j) else (i,j+1):=by
 rw [Merge.st,h]
theorem x8z (A B:List Nat) {p i j:Nat} (h:Merge.st A B p=(i,j)) (hp:p<A.length+B.length):(Merge.mgd A B)[p]?=some (if Merge.goes A B (i,j)=true then A.getD i 0 else B.getD j 0):=by
 unfold Merge.mgd
 rw [List.getElem?_map,List.getElem?_range hp]
 show some (Merge.item A B p)=_
 unfold Merge.item
 rw [h]
theorem w0o (A B:List Nat) (p:Nat) (hp:p≤A.length+B.length):(Merge.ahd A B)[p]?=some (Merge.st A B p).1:=by
 unfold Merge.ahd
 rw [List.getElem?_map,List.getElem?_range (by omega)]
 rfl
def z1c (lo:Nat) (w:World) (v:Value) (zs:List Int):Prop :=
 ∃a cap,v=.slice a zs.length cap∧(0<zs.length→∃b off,a=some ⟨b,off,none⟩∧lo≤b∧∀j,j<zs.length→w.cell? ⟨b,off+j,none⟩=some (.int .i64 (zs.getD j 0)))
theorem z1c.reads {lo:Nat} {w:World} {v:Value} {zs:List Int} (h:z1c lo w v zs):z0q w v zs:=by
 obtain ⟨a,cap,e,h⟩:=h
 exact ⟨a,cap,e,fun h0=>by obtain ⟨b,off,h1,_,h2⟩:=h h0;exact ⟨b,off,h1,h2⟩⟩
theorem y0a {w:World} {base n:Nat} {v:Value} {zs:List Int} (h:w.ownsRow base 3 1 v n (zs.map iv)) (hn:n=zs.length):z1c base w v zs:=by
 obtain ⟨a,cap,e,hs⟩:=z8e h hn
 refine ⟨a,cap,e,fun h0=>?_⟩
 obtain ⟨b,off,rfl,h2⟩:=hs h0
 exact ⟨b,off,rfl,(h.lt b (by rw [e];rfl)).1,h2⟩
theorem MAt.finish {A B:List Nat} {w ws:World} {bx:Nat} {vi va:Value} {p:Nat} (h:MAt A B w ws bx vi va p (p+1)) (hp:p=A.length+B.length) :
  z1c (w.heap.size+1) ws vi (ints (Merge.mgd A B))∧z1c (w.heap.size+1) ws va (ints (Merge.ahd A B))∧w.heap.size<ws.heap.size∧vi.ownBlock≠some w.heap.size∧va.ownBlock≠some w.heap.size∧Below w.heap.size w ws:=by
 have h1:=h.oi
 rw [List.take_of_length_le (by rw [Merge.z4h];omega)] at h1
 have h2:=h.oa
 rw [List.take_of_length_le (by rw [Merge.z4b];omega)] at h2
 exact ⟨y0a h1 (by rw [z1l,Merge.z4h];exact hp),y0a h2 (by rw [z1l,Merge.z4b];omega),z0d h.res,fun e=>by have:=(h.oi.lt _ e).1;omega,fun e=>by have:=(h.oa.lt _ e).1;omega,h.bel⟩
theorem z3z {fn:Func} {p:Tmp} {ty:TypeId} (h:fn.results=#[.cell p ty]) (tmps:Array Value) (P:Program) (w:World) :
  (results fn tmps).run P w=((asAddr (tmps.getD p undef)).run P w).andThen fun a w₁=>(loadVar ty a).run P w₁:=by
 simp only [results,h]
 simp [Sem.run_bind,Result.andThen]
theorem x0k {w ws:World} {v1 v2:Value} {X Y:List Int} (h:z1c (w.heap.size+1) ws v1 X∧z1c (w.heap.size+1) ws v2 Y∧w.heap.size<ws.heap.size∧v1.ownBlock≠some w.heap.size∧v2.ownBlock≠some w.heap.size∧Below w.heap.size w ws) (hr:ws.heap[w.heap.size]?=some (.cells two 200 (0,0))) :
  z1c (w.heap.size+1) ((ws.setCell ⟨w.heap.size,0,none⟩ v1).setCell ⟨w.heap.size,1,none⟩ v2) v1 X∧z1c (w.heap.size+1) ((ws.setCell ⟨w.heap.size,0,none⟩ v1).setCell ⟨w.heap.size,1,none⟩ v2) v2 Y ∧
  ((ws.setCell ⟨w.heap.size,0,none⟩ v1).setCell ⟨w.heap.size,1,none⟩ v2).cell? ⟨w.heap.size,0,none⟩=some v1∧((ws.setCell ⟨w.heap.size,0,none⟩ v1).setCell ⟨w.heap.size,1,none⟩ v2).cell? ⟨w.heap.size,1,none⟩=some v2 ∧
  Below w.heap.size w ((ws.setCell ⟨w.heap.size,0,none⟩ v1).setCell ⟨w.heap.size,1,none⟩ v2):=by
 obtain ⟨h1,h2,h3,h4,h5,h6⟩:=h
 have hb:=heap_setCell_same _ w.heap.size 1 _ 200 v2 (heap_setCell_same ws w.heap.size 0 _ 200 v1 hr)
 have keep:∀{v:Value} {Z:List Int},v.ownBlock≠some w.heap.size→z1c (w.heap.size+1) ws v Z→z1c (w.heap.size+1) ((ws.setCell ⟨w.heap.size,0,none⟩ v1).setCell ⟨w.heap.size,1,none⟩ v2) v Z:=by
  rintro v Z hv ⟨a,cap,rfl,hs⟩
  refine ⟨a,cap,rfl,fun h0=>?_⟩
  obtain ⟨b,off,rfl,hlo,hc⟩:=hs h0
  refine ⟨b,off,rfl,hlo,fun j hj=>?_⟩
  have hne:b≠w.heap.size:=fun e=>hv (by rw [e];rfl)
  rw [World.cell?_of_block (w:=ws) (by rw [heap_setCell_other _ _ _ _ (by exact hne),heap_setCell_other _ _ _ _ (by exact hne)])]
  exact hc j hj
 refine ⟨keep h4 h1,keep h5 h2,by simp [World.cell?,hb,two],by simp [World.cell?,hb,two],h6.trans (((Below.refl _ _).setCell (by exact Nat.le_refl _) _).setCell (by exact Nat.le_refl _) _)⟩
theorem x5s (A B:List Nat) (va vb:Value) (w:World) (hA:z0q w va (ints A)) (hB:z0q w vb (ints B)) (hl1:A.length≤65536) (hl2:B.length≤65536) :
  Calls Tryz.prog 149 #[va,vb,.func (.func 150) #[] #[]] w fun e w'=>∃v1 v2,e=.returned (.agg #[v1,v2])∧z1c (w.heap.size+1) w' v1 (ints (Merge.mgd A B))∧z1c (w.heap.size+1) w' v2 (ints (Merge.ahd A B))∧Below w.heap.size w w':=by
 obtain ⟨a,ca,rfl,hsA⟩:=hA
 obtain ⟨b,cb,rfl,hsB⟩:=hB
 rw [z1l] at hsA hsB ⊢
 rw [z1l]
 have HSA:=qz hsA
 have HSB:=qz hsB
 clear hsA hsB
 obtain ⟨n,hn⟩:∃n,n=A.length:=⟨_,rfl⟩
 obtain ⟨m,hm⟩:∃m,m=B.length:=⟨_,rfl⟩
 rw [←hn] at HSA hl1 ⊢
 rw [←hm] at HSB hl2 ⊢
 obtain ⟨room,hroom⟩:∃room,room=n+m:=⟨_,rfl⟩
 have HRM:Hid (room=A.length+B.length):=qz (by omega)
 have hroom1:(n:Int)+(m:Int)=(room:Int):=by omega
 have hroom2:room≤1000000:=by omega
 have hw1:IntKind.i64.wrap (room:Int)=(room:Int):=IntWalk.i64_in _ (by omega)
 have hw2:IntKind.i64.wrap ((room:Int)+1)=(room:Int)+1:=IntWalk.i64_in _ (by omega)
 have HN:=qz hn
 have HM:=qz hm
 have HROOM:=qz hroom
 clear hn hm hroom
 go_enter Tryz.func149,Tryz.ntmps149
 go_upto_region 2 with fail
 go_cut [8] (fun v8 wc=>∃bx vi va,v8=.pointer (some ⟨bx,0,none⟩)∧MAt A B w wc bx vi va 0 1)
 case first =>
  refine wp_region_noPanic ?_
  refine wp_region_held_drew (S:=fun _=>True) (by kernel_rfl) True.intro (fun hHeld=>?_)
  obtain ⟨x0,hx0⟩:∃x0,x0=(w.alloc (.cells two 200)).drew:=⟨_,rfl⟩
  have hgot:=Got.start w room
  rw [←hx0] at hgot
  show wpAnyH _ _ _ _ _ _ _ _ (w.alloc (.cells two 200)).drew
  rw [←hx0]
  clear hx0
  refine hT 0 16 rfl rfl hHeld nPp (v:=?_) (fun x hSx=>?_) ?_
  rotate_left 1
  ·go_simp<;>with_reducible rfl
  simp only [sA,sB]
  refine hT 2 18 rfl rfl hHeld nPp (v:=?_) (fun x hSx=>?_) ?_
  rotate_left 1
  ·go_simp<;>with_reducible rfl
  simp only [sA,sB]
  refine hT 3 19 rfl rfl hHeld nPp (v:=?_) (fun x hSx=>?_) ?_
  rotate_left 1
  ·go_simp<;>with_reducible rfl
  simp only [sA,sB]
  refine z5p (i:=1) (j:=4) (k:=6) (by kernel_rfl) rfl rfl rfl (fun K hK=>?_) (fun K hK=>?_) (fun K hK=>?_)
  ·refine z0l 1 17 hK rfl (by rfl) (v:=.slice (some ⟨x0.heap.size,0,none⟩) 0 room) (w':=x0.alloc (.cells (z0b .i64 room fun _=>0) 3)) ?_ True.intro ?_
   ·have mk0:=mk_i x0 room hroom2;have mk1:=mk_a x0 room hroom2;first|(go_simp;done)|(go_simp<;>first|exact ⟨rfl,rfl⟩|rfl)
   simp only [sA,sB]
   have hg1:=(hgot).makeI
   obtain ⟨y1,hy1⟩:∃y,y=x0.alloc (.cells (z0b .i64 room fun _=>0) 3):=⟨_,rfl⟩
   obtain ⟨by1,hby1⟩:∃b,b=x0.heap.size:=⟨_,rfl⟩
   rw [←hy1,←hby1] at hg1
   rw [←hy1,←hby1]
   clear hy1 hby1 hgot
   refine z1i (i:=4) (j:=6) (by kernel_rfl) rfl rfl (fun K hK=>?_) (fun K hK=>?_)
   ·refine z0l 4 20 hK rfl (by rfl) (v:=.slice (some ⟨y1.heap.size,0,none⟩) 1 (room+1)) (w':=y1.alloc (.cells (z0b .i64 (room+1) fun _=>0) 3)) ?_ True.intro ?_
    ·have mk0:=mk_i y1 room hroom2;have mk1:=mk_a y1 room hroom2;first|(go_simp;done)|(go_simp<;>first|exact ⟨rfl,rfl⟩|rfl)
    simp only [sA,sB]
    have hg2:=(hg1).makeA
    obtain ⟨y2,hy2⟩:∃y,y=y1.alloc (.cells (z0b .i64 (room+1) fun _=>0) 3):=⟨_,rfl⟩
    obtain ⟨by2,hby2⟩:∃b,b=y1.heap.size:=⟨_,rfl⟩
    rw [←hy2,←hby2] at hg2
    rw [←hy2,←hby2]
    clear hy2 hby2 hg1
    refine hT 5 21 rfl rfl hHeld nPp (v:=?_) (fun x hSx=>?_) ?_
    rotate_left 1
    ·go_simp<;>with_reducible rfl
    simp only [sA,sB]
    refine hO 6 8 rfl rfl (v:=.pointer (some ⟨y2.heap.size,0,none⟩)) (w':=y2.alloc (.cells two 200)) ?_ True.intro ?_
    ·have mk0:=mk_i y2 room hroom2;have mk1:=mk_a y2 room hroom2;first|(go_simp;done)|(go_simp<;>first|exact ⟨rfl,rfl⟩|rfl)
    simp only [sA,sB]
    have hg3:=(hg2).makeB
    obtain ⟨y3,hy3⟩:∃y,y=y2.alloc (.cells two 200):=⟨_,rfl⟩
    obtain ⟨by3,hby3⟩:∃b,b=y2.heap.size:=⟨_,rfl⟩
    rw [←hy3,←hby3] at hg3
    rw [←hy3,←hby3]
    clear hy3 hby3 hg2
    have hcb:=(hg3.b _ rfl).2
    have hc0:y3.cell? ⟨by3,0,none⟩=some (.slice none 0 0):=by simp [World.cell?,hcb,two]
    have hc1:y3.cell? ⟨by3,1,none⟩=some (.slice none 0 0):=by simp [World.cell?,hcb,two]
    have hf0:y3.frozen? ⟨by3,0,none⟩=false:=by simp [World.frozen?,hcb]
    have hf1:y3.frozen? ⟨by3,1,none⟩=false:=by simp [World.frozen?,hcb]
    clear hcb
    have HD:=qz (hg3.done (A:=A) (B:=B) (uh HRM) (by omega))
    clear hg3
    refine hKk 7 rfl rfl (w':=(y3.setCell ⟨by3,0,none⟩ (.slice (some ⟨by1,0,none⟩) 0 room)).setCell ⟨by3,1,none⟩ (.slice (some ⟨by2,0,none⟩) 1 (room+1))) ?_ True.intro ?_
    ·first|(go_simp;done)|(go_simp<;>rfl)
    refine dN ?_
    go_wp2_with fail
    go_meet
    exact ⟨by3,_,_,rfl,uh HD⟩
   ·refine z0l 6 8 hK rfl (by rfl) (v:=.pointer (some ⟨y1.heap.size,0,none⟩)) (w':=y1.alloc (.cells two 200)) ?_ True.intro ?_
    ·have mk0:=mk_i y1 room hroom2;have mk1:=mk_a y1 room hroom2;first|(go_simp;done)|(go_simp<;>first|exact ⟨rfl,rfl⟩|rfl)
    simp only [sA,sB]
    have hg4:=(hg1).makeB
    obtain ⟨y4,hy4⟩:∃y,y=y1.alloc (.cells two 200):=⟨_,rfl⟩
    obtain ⟨by4,hby4⟩:∃b,b=y1.heap.size:=⟨_,rfl⟩
    rw [←hy4,←hby4] at hg4
    rw [←hy4,←hby4]
    clear hy4 hby4 hg1
    refine hO 4 20 rfl rfl (v:=.slice (some ⟨y4.heap.size,0,none⟩) 1 (room+1)) (w':=y4.alloc (.cells (z0b .i64 (room+1) fun _=>0) 3)) ?_ True.intro ?_
    ·have mk0:=mk_i y4 room hroom2;have mk1:=mk_a y4 room hroom2;first|(go_simp;done)|(go_simp<;>first|exact ⟨rfl,rfl⟩|rfl)
    simp only [sA,sB]
    have hg5:=(hg4).makeA
    obtain ⟨y5,hy5⟩:∃y,y=y4.alloc (.cells (z0b .i64 (room+1) fun _=>0) 3):=⟨_,rfl⟩
    obtain ⟨by5,hby5⟩:∃b,b=y4.heap.size:=⟨_,rfl⟩
    rw [←hy5,←hby5] at hg5
    rw [←hy5,←hby5]
    clear hy5 hby5 hg4
    refine hT 5 21 rfl rfl hHeld nPp (v:=?_) (fun x hSx=>?_) ?_
    rotate_left 1
    ·go_simp<;>with_reducible rfl
    simp only [sA,sB]
    have hcb:=(hg5.b _ rfl).2
    have hc0:y5.cell? ⟨by4,0,none⟩=some (.slice none 0 0):=by simp [World.cell?,hcb,two]
    have hc1:y5.cell? ⟨by4,1,none⟩=some (.slice none 0 0):=by simp [World.cell?,hcb,two]
    have hf0:y5.frozen? ⟨by4,0,none⟩=false:=by simp [World.frozen?,hcb]
    have hf1:y5.frozen? ⟨by4,1,none⟩=false:=by simp [World.frozen?,hcb]
    clear hcb
    have HD:=qz (hg5.done (A:=A) (B:=B) (uh HRM) (by omega))
    clear hg5
    refine hKk 7 rfl rfl (w':=(y5.setCell ⟨by4,0,none⟩ (.slice (some ⟨by1,0,none⟩) 0 room)).setCell ⟨by4,1,none⟩ (.slice (some ⟨by5,0,none⟩) 1 (room+1))) ?_ True.intro ?_
    ·first|(go_simp;done)|(go_simp<;>rfl)
    refine dN ?_
    go_wp2_with fail
    go_meet
    exact ⟨by4,_,_,rfl,uh HD⟩
  ·refine z0l 4 20 hK rfl (by rfl) (v:=.slice (some ⟨x0.heap.size,0,none⟩) 1 (room+1)) (w':=x0.alloc (.cells (z0b .i64 (room+1) fun _=>0) 3)) ?_ True.intro ?_
   ·have mk0:=mk_i x0 room hroom2;have mk1:=mk_a x0 room hroom2;first|(go_simp;done)|(go_simp<;>first|exact ⟨rfl,rfl⟩|rfl)
   simp only [sA,sB]
   have hg6:=(hgot).makeA
   obtain ⟨y6,hy6⟩:∃y,y=x0.alloc (.cells (z0b .i64 (room+1) fun _=>0) 3):=⟨_,rfl⟩
   obtain ⟨by6,hby6⟩:∃b,b=x0.heap.size:=⟨_,rfl⟩
   rw [←hy6,←hby6] at hg6
   rw [←hy6,←hby6]
   clear hy6 hby6 hgot
   refine z1i (i:=1) (j:=6) (by kernel_rfl) rfl rfl (fun K hK=>?_) (fun K hK=>?_)
   ·refine z0l 1 17 hK rfl (by rfl) (v:=.slice (some ⟨y6.heap.size,0,none⟩) 0 room) (w':=y6.alloc (.cells (z0b .i64 room fun _=>0) 3)) ?_ True.intro ?_
    ·have mk0:=mk_i y6 room hroom2;have mk1:=mk_a y6 room hroom2;first|(go_simp;done)|(go_simp<;>first|exact ⟨rfl,rfl⟩|rfl)
    simp only [sA,sB]
    have hg7:=(hg6).makeI
    obtain ⟨y7,hy7⟩:∃y,y=y6.alloc (.cells (z0b .i64 room fun _=>0) 3):=⟨_,rfl⟩
    obtain ⟨by7,hby7⟩:∃b,b=y6.heap.size:=⟨_,rfl⟩
    rw [←hy7,←hby7] at hg7
    rw [←hy7,←hby7]
    clear hy7 hby7 hg6
    refine hT 5 21 rfl rfl hHeld nPp (v:=?_) (fun x hSx=>?_) ?_
    rotate_left 1
    ·go_simp<;>with_reducible rfl
    simp only [sA,sB]
    refine hO 6 8 rfl rfl (v:=.pointer (some ⟨y7.heap.size,0,none⟩)) (w':=y7.alloc (.cells two 200)) ?_ True.intro ?_
    ·have mk0:=mk_i y7 room hroom2;have mk1:=mk_a y7 room hroom2;first|(go_simp;done)|(go_simp<;>first|exact ⟨rfl,rfl⟩|rfl)
    simp only [sA,sB]
    have hg8:=(hg7).makeB
    obtain ⟨y8,hy8⟩:∃y,y=y7.alloc (.cells two 200):=⟨_,rfl⟩
    obtain ⟨by8,hby8⟩:∃b,b=y7.heap.size:=⟨_,rfl⟩
    rw [←hy8,←hby8] at hg8
    rw [←hy8,←hby8]
    clear hy8 hby8 hg7
    have hcb:=(hg8.b _ rfl).2
    have hc0:y8.cell? ⟨by8,0,none⟩=some (.slice none 0 0):=by simp [World.cell?,hcb,two]
    have hc1:y8.cell? ⟨by8,1,none⟩=some (.slice none 0 0):=by simp [World.cell?,hcb,two]
    have hf0:y8.frozen? ⟨by8,0,none⟩=false:=by simp [World.frozen?,hcb]
    have hf1:y8.frozen? ⟨by8,1,none⟩=false:=by simp [World.frozen?,hcb]
    clear hcb
    have HD:=qz (hg8.done (A:=A) (B:=B) (uh HRM) (by omega))
    clear hg8
    refine hKk 7 rfl rfl (w':=(y8.setCell ⟨by8,0,none⟩ (.slice (some ⟨by7,0,none⟩) 0 room)).setCell ⟨by8,1,none⟩ (.slice (some ⟨by6,0,none⟩) 1 (room+1))) ?_ True.intro ?_
    ·first|(go_simp;done)|(go_simp<;>rfl)
    refine dN ?_
    go_wp2_with fail
    go_meet
    exact ⟨by8,_,_,rfl,uh HD⟩
   ·refine z0l 6 8 hK rfl (by rfl) (v:=.pointer (some ⟨y6.heap.size,0,none⟩)) (w':=y6.alloc (.cells two 200)) ?_ True.intro ?_
    ·have mk0:=mk_i y6 room hroom2;have mk1:=mk_a y6 room hroom2;first|(go_simp;done)|(go_simp<;>first|exact ⟨rfl,rfl⟩|rfl)
    simp only [sA,sB]
    have hg9:=(hg6).makeB
    obtain ⟨y9,hy9⟩:∃y,y=y6.alloc (.cells two 200):=⟨_,rfl⟩
    obtain ⟨by9,hby9⟩:∃b,b=y6.heap.size:=⟨_,rfl⟩
    rw [←hy9,←hby9] at hg9
    rw [←hy9,←hby9]
    clear hy9 hby9 hg6
    refine hO 1 17 rfl rfl (v:=.slice (some ⟨y9.heap.size,0,none⟩) 0 room) (w':=y9.alloc (.cells (z0b .i64 room fun _=>0) 3)) ?_ True.intro ?_
    ·have mk0:=mk_i y9 room hroom2;have mk1:=mk_a y9 room hroom2;first|(go_simp;done)|(go_simp<;>first|exact ⟨rfl,rfl⟩|rfl)
    simp only [sA,sB]
    have hg10:=(hg9).makeI
    obtain ⟨y10,hy10⟩:∃y,y=y9.alloc (.cells (z0b .i64 room fun _=>0) 3):=⟨_,rfl⟩
    obtain ⟨by10,hby10⟩:∃b,b=y9.heap.size:=⟨_,rfl⟩
    rw [←hy10,←hby10] at hg10
    rw [←hy10,←hby10]
    clear hy10 hby10 hg9
    refine hT 5 21 rfl rfl hHeld nPp (v:=?_) (fun x hSx=>?_) ?_
    rotate_left 1
    ·go_simp<;>with_reducible rfl
    simp only [sA,sB]
    have hcb:=(hg10.b _ rfl).2
    have hc0:y10.cell? ⟨by9,0,none⟩=some (.slice none 0 0):=by simp [World.cell?,hcb,two]
    have hc1:y10.cell? ⟨by9,1,none⟩=some (.slice none 0 0):=by simp [World.cell?,hcb,two]
    have hf0:y10.frozen? ⟨by9,0,none⟩=false:=by simp [World.frozen?,hcb]
    have hf1:y10.frozen? ⟨by9,1,none⟩=false:=by simp [World.frozen?,hcb]
    clear hcb
    have HD:=qz (hg10.done (A:=A) (B:=B) (uh HRM) (by omega))
    clear hg10
    refine hKk 7 rfl rfl (w':=(y10.setCell ⟨by9,0,none⟩ (.slice (some ⟨by10,0,none⟩) 0 room)).setCell ⟨by9,1,none⟩ (.slice (some ⟨by6,0,none⟩) 1 (room+1))) ?_ True.intro ?_
    ·first|(go_simp;done)|(go_simp<;>rfl)
    refine dN ?_
    go_wp2_with fail
    go_meet
    exact ⟨by9,_,_,rfl,uh HD⟩
  ·refine z0l 6 8 hK rfl (by rfl) (v:=.pointer (some ⟨x0.heap.size,0,none⟩)) (w':=x0.alloc (.cells two 200)) ?_ True.intro ?_
   ·have mk0:=mk_i x0 room hroom2;have mk1:=mk_a x0 room hroom2;first|(go_simp;done)|(go_simp<;>first|exact ⟨rfl,rfl⟩|rfl)
   simp only [sA,sB]
   have hg11:=(hgot).makeB
   obtain ⟨y11,hy11⟩:∃y,y=x0.alloc (.cells two 200):=⟨_,rfl⟩
   obtain ⟨by11,hby11⟩:∃b,b=x0.heap.size:=⟨_,rfl⟩
   rw [←hy11,←hby11] at hg11
   rw [←hy11,←hby11]
   clear hy11 hby11 hgot
   refine z1i (i:=1) (j:=4) (by kernel_rfl) rfl rfl (fun K hK=>?_) (fun K hK=>?_)
   ·refine z0l 1 17 hK rfl (by rfl) (v:=.slice (some ⟨y11.heap.size,0,none⟩) 0 room) (w':=y11.alloc (.cells (z0b .i64 room fun _=>0) 3)) ?_ True.intro ?_
    ·have mk0:=mk_i y11 room hroom2;have mk1:=mk_a y11 room hroom2;first|(go_simp;done)|(go_simp<;>first|exact ⟨rfl,rfl⟩|rfl)
    simp only [sA,sB]
    have hg12:=(hg11).makeI
    obtain ⟨y12,hy12⟩:∃y,y=y11.alloc (.cells (z0b .i64 room fun _=>0) 3):=⟨_,rfl⟩
    obtain ⟨by12,hby12⟩:∃b,b=y11.heap.size:=⟨_,rfl⟩
    rw [←hy12,←hby12] at hg12
    rw [←hy12,←hby12]
    clear hy12 hby12 hg11
    refine hO 4 20 rfl rfl (v:=.slice (some ⟨y12.heap.size,0,none⟩) 1 (room+1)) (w':=y12.alloc (.cells (z0b .i64 (room+1) fun _=>0) 3)) ?_ True.intro ?_
    ·have mk0:=mk_i y12 room hroom2;have mk1:=mk_a y12 room hroom2;first|(go_simp;done)|(go_simp<;>first|exact ⟨rfl,rfl⟩|rfl)
    simp only [sA,sB]
    have hg13:=(hg12).makeA
    obtain ⟨y13,hy13⟩:∃y,y=y12.alloc (.cells (z0b .i64 (room+1) fun _=>0) 3):=⟨_,rfl⟩
    obtain ⟨by13,hby13⟩:∃b,b=y12.heap.size:=⟨_,rfl⟩
    rw [←hy13,←hby13] at hg13
    rw [←hy13,←hby13]
    clear hy13 hby13 hg12
    refine hT 5 21 rfl rfl hHeld nPp (v:=?_) (fun x hSx=>?_) ?_
    rotate_left 1
    ·go_simp<;>with_reducible rfl
    simp only [sA,sB]
    have hcb:=(hg13.b _ rfl).2
    have hc0:y13.cell? ⟨by11,0,none⟩=some (.slice none 0 0):=by simp [World.cell?,hcb,two]
    have hc1:y13.cell? ⟨by11,1,none⟩=some (.slice none 0 0):=by simp [World.cell?,hcb,two]
    have hf0:y13.frozen? ⟨by11,0,none⟩=false:=by simp [World.frozen?,hcb]
    have hf1:y13.frozen? ⟨by11,1,none⟩=false:=by simp [World.frozen?,hcb]
    clear hcb
    have HD:=qz (hg13.done (A:=A) (B:=B) (uh HRM) (by omega))
    clear hg13
    refine hKk 7 rfl rfl (w':=(y13.setCell ⟨by11,0,none⟩ (.slice (some ⟨by12,0,none⟩) 0 room)).setCell ⟨by11,1,none⟩ (.slice (some ⟨by13,0,none⟩) 1 (room+1))) ?_ True.intro ?_
    ·first|(go_simp;done)|(go_simp<;>rfl)
    refine dN ?_
    go_wp2_with fail
    go_meet
    exact ⟨by11,_,_,rfl,uh HD⟩
   ·refine z0l 4 20 hK rfl (by rfl) (v:=.slice (some ⟨y11.heap.size,0,none⟩) 1 (room+1)) (w':=y11.alloc (.cells (z0b .i64 (room+1) fun _=>0) 3)) ?_ True.intro ?_
    ·have mk0:=mk_i y11 room hroom2;have mk1:=mk_a y11 room hroom2;first|(go_simp;done)|(go_simp<;>first|exact ⟨rfl,rfl⟩|rfl)
    simp only [sA,sB]
    have hg14:=(hg11).makeA
    obtain ⟨y14,hy14⟩:∃y,y=y11.alloc (.cells (z0b .i64 (room+1) fun _=>0) 3):=⟨_,rfl⟩
    obtain ⟨by14,hby14⟩:∃b,b=y11.heap.size:=⟨_,rfl⟩
    rw [←hy14,←hby14] at hg14
    rw [←hy14,←hby14]
    clear hy14 hby14 hg11
    refine hO 1 17 rfl rfl (v:=.slice (some ⟨y14.heap.size,0,none⟩) 0 room) (w':=y14.alloc (.cells (z0b .i64 room fun _=>0) 3)) ?_ True.intro ?_
    ·have mk0:=mk_i y14 room hroom2;have mk1:=mk_a y14 room hroom2;first|(go_simp;done)|(go_simp<;>first|exact ⟨rfl,rfl⟩|rfl)
    simp only [sA,sB]
    have hg15:=(hg14).makeI
    obtain ⟨y15,hy15⟩:∃y,y=y14.alloc (.cells (z0b .i64 room fun _=>0) 3):=⟨_,rfl⟩
    obtain ⟨by15,hby15⟩:∃b,b=y14.heap.size:=⟨_,rfl⟩
    rw [←hy15,←hby15] at hg15
    rw [←hy15,←hby15]
    clear hy15 hby15 hg14
    refine hT 5 21 rfl rfl hHeld nPp (v:=?_) (fun x hSx=>?_) ?_
    rotate_left 1
    ·go_simp<;>with_reducible rfl
    simp only [sA,sB]
    have hcb:=(hg15.b _ rfl).2
    have hc0:y15.cell? ⟨by11,0,none⟩=some (.slice none 0 0):=by simp [World.cell?,hcb,two]
    have hc1:y15.cell? ⟨by11,1,none⟩=some (.slice none 0 0):=by simp [World.cell?,hcb,two]
    have hf0:y15.frozen? ⟨by11,0,none⟩=false:=by simp [World.frozen?,hcb]
    have hf1:y15.frozen? ⟨by11,1,none⟩=false:=by simp [World.frozen?,hcb]
    clear hcb
    have HD:=qz (hg15.done (A:=A) (B:=B) (uh HRM) (by omega))
    clear hg15
    refine hKk 7 rfl rfl (w':=(y15.setCell ⟨by11,0,none⟩ (.slice (some ⟨by15,0,none⟩) 0 room)).setCell ⟨by11,1,none⟩ (.slice (some ⟨by14,0,none⟩) 1 (room+1))) ?_ True.intro ?_
    ·first|(go_simp;done)|(go_simp<;>rfl)
    refine dN ?_
    go_wp2_with fail
    go_meet
    exact ⟨by11,_,_,rfl,uh HD⟩
 case rest =>
  obtain ⟨bx,vi0,va0,rfl,hat0⟩:=hcut
  obtain ⟨i0,hii,hz0,hz1,hz2⟩:=info_parts info3'
  have HAT0:=qz hat0
  clear hat0
  go_wp2_with fail
  go_loopg [9,10] room (fun gk d c ws=>∃ (i j:Nat) (vi va:Value),gk=room-(i+j)∧i+j≤room∧Merge.st A B (i+j)=(i,j)∧i≤n∧j≤m∧d=.int .i64 (i:Int)∧c=.int .i64 (j:Int)∧MAt A B w ws bx vi va (i+j) (i+j+1))
  case atStart=>exact ⟨0,0,vi0,va0,by omega,by omega,rfl,by omega,by omega,rfl,rfl,uh HAT0⟩
  case round =>
   obtain ⟨i,j,vi,va,rfl,hij,hst,hin,hjm,rfl,rfl,hat⟩:=hrel
   clear HAT0
   have hroom:=uh HROOM
   obtain ⟨p,hp⟩:∃p,p=i+j:=⟨_,rfl⟩
   rw [←hp] at hst hat hij
   have HP:=qz hp
   have HAT:=qz hat
   by_cases hlt:p<room
   ·have hst1:=x9y A B hst
    have hit:=x8z A B hst (by rw [←uh HN,←uh HM,←hroom];exact hlt)
    have hah:=w0o A B (p+1) (by rw [←uh HN,←uh HM,←hroom];omega)
    by_cases hj:j=m
    ·subst hj
     have hi:i<n:=by omega
     obtain ⟨ba,oa,rfl,hcA⟩:=uh HSA (by omega)
     obtain ⟨z,hzA⟩:∃z,A.getD i 0=z:=⟨_,rfl⟩
     have kA:=hcA i (by omega)
     rw [z3l A i (by rw [←uh HN];omega),hzA] at kA
     have kA1:=z0c hat.bel kA
     clear hcA
     have hg:Merge.goes A B (i,j)=true:=Merge.z2r.2 (.inl (uh HM))
     have t1:(i:Int)<(n:Int):=by omega
     have t2:((j:Int) == (j:Int))=true:=by simp
     have HST:Hid (Merge.st A B (p+1)=(i+1,j)):=qz (by rw [hst1,if_pos hg])
     have HIT:Hid ((Merge.mgd A B)[p]?=some z):=qz (by rw [hit,if_pos hg,hzA])
     have HAH:Hid ((Merge.ahd A B)[p+1]?=some (i+1)):=qz (by rw [hah,uh HST])
     clear hst1 hit hah hst hg hzA hat hp hroom
     go_wp2_with fail
     go_quiet (fail)
     go_wp2_with fail
     obtain ⟨x0,hx0⟩:∃x,x=wr.drewN nq:=⟨_,rfl⟩
     have hat:=(uh HAT).drewN nq
     rw [←hx0] at hat
     rw [←hx0]
     clear hx0 HAT
     go_cut [9] from 22 to 81 (fun v9 wc=>v9=.int .i64 (i:Int)∧∃vi',MAt A B w wc bx vi' va (p+1) (p+1))
     case first =>
      refine wp_region_noPanic ?_
      refine wp_region_held_drew (S:=fun x:World=>Below w.heap.size w x) (by kernel_rfl) hat.drew.bel (fun hHeld=>?_)
      have hat1:=hat.drew
      obtain ⟨x1,hx1⟩:∃x,x=x0.drew:=⟨_,rfl⟩
      rw [←hx1] at hat1 hHeld
      rw [←hx1]
      clear hx1 hat
      refine hT 0 54 rfl rfl hHeld nPp (v:=?_) (fun x hSx=>?_) ?_
      rotate_left 1
      ·(have q0:=z0c hSx kA;go_simp<;>with_reducible rfl)
      simp only [sA,sB]
      refine hT 2 56 rfl rfl hHeld nPp (v:=?_) (fun x hSx=>?_) ?_
      rotate_left 1
      ·(have q0:=z0c hSx kA;go_simp<;>with_reducible rfl)
      simp only [sA,sB]
      refine hT 3 57 rfl rfl hHeld nPp (v:=?_) (fun x hSx=>?_) ?_
      rotate_left 1
      ·(have q0:=z0c hSx kA;go_simp<;>with_reducible rfl)
      simp only [sA,sB]
      refine hT 4 58 rfl rfl hHeld nPp (v:=?_) (fun x hSx=>?_) ?_
      rotate_left 1
      ·(have q0:=z0c hSx kA;go_simp<;>with_reducible rfl)
      simp only [sA,sB]
      refine hT 5 59 rfl rfl hHeld nPp (v:=?_) (fun x hSx=>?_) ?_
      rotate_left 1
      ·(have q0:=z0c hSx kA;go_simp<;>with_reducible rfl)
      simp only [sA,sB]
      refine z1i (i:=1) (j:=6) (by kernel_rfl) rfl rfl (fun K hK=>?_) (fun K hK=>?_)
      ·refine z0l 1 55 hK rfl (by rfl) (v:=vi) (w':=x1) ?_ hHeld ?_
       ·have q0:=hat1.c0;go_simp
       simp only [sA,sB]
       refine hO 6 60 rfl rfl (v:=.slice (some ⟨x1.heap.size,0,none⟩) 1 1) (w':=x1.alloc (.cells #[.int .i64 (z:Int)] 3)) ?_ (hHeld.trans ((Below.refl _ _).alloc hHeld.size _)) ?_
       ·go_simp<;>exact ⟨rfl,rfl⟩
       simp only [sA,sB]
       refine z0u 7 61 (.tmp 55) (.tmp 60) (by kernel_rfl) rfl rfl (by rfl) rfl rfl (w.heap.size+1) vi p ((ints ((Merge.mgd A B).take p)).map iv) (by rfl) (hat1.oi.alloc _) ⟨x1.heap.size,0,none⟩ (z:Int) (by rfl) (z3v _ _) (by omega) (by have:=hat1.lt;have:=hat1.lo;simp;omega) (x1.heap.size+1) (by simp) (fun w' hg=>(hat1.grownI hg).2.2) ?_
       intro g cap w2 h1 h2 h3 h4
       simp only [sA,sB]
       obtain ⟨e0,e1,e2⟩:=hat1.grownI h2
       have HX:=qz (hat1.app0 (uh HIT) _ h1 h2 h3)
       clear h1 h2 h3 h4 hHeld
       have hHeld:=e2
       refine hT 8 62 rfl rfl hHeld nPp (v:=?_) (fun x hSx=>?_) ?_
       rotate_left 1
       ·go_simp<;>with_reducible rfl
       simp only [sA,sB]
       refine hKk 9 rfl rfl (w':=w2.setCell ⟨bx,0,none⟩ (.slice (some ⟨g,0,none⟩) (p+1) cap)) ?_ (uh HX).bel ?_
       ·go_simp
       refine dN ?_
       go_wp2_with fail
       go_meet
       exact ⟨rfl,_,uh HX⟩
      ·refine z0l 6 60 hK rfl (by rfl) (v:=.slice (some ⟨x1.heap.size,0,none⟩) 1 1) (w':=x1.alloc (.cells #[.int .i64 (z:Int)] 3)) ?_ (hHeld.trans ((Below.refl _ _).alloc hHeld.size _)) ?_
       ·go_simp<;>exact ⟨rfl,rfl⟩
       simp only [sA,sB]
       refine hO 1 55 rfl rfl (v:=vi) (w':=x1.alloc (.cells #[.int .i64 (z:Int)] 3)) ?_ (hHeld.trans ((Below.refl _ _).alloc hHeld.size _)) ?_
       ·have q0:(x1.alloc (.cells #[.int .i64 (z:Int)] 3)).cell? ⟨bx,0,none⟩=some vi:=z0c ((Below.refl _ _).alloc (Nat.le_refl _) _) hat1.c0;go_simp
       simp only [sA,sB]
       refine z0u 7 61 (.tmp 55) (.tmp 60) (by kernel_rfl) rfl rfl (by rfl) rfl rfl (w.heap.size+1) vi p ((ints ((Merge.mgd A B).take p)).map iv) (by rfl) (hat1.oi.alloc _) ⟨x1.heap.size,0,none⟩ (z:Int) (by rfl) (z3v _ _) (by omega) (by have:=hat1.lt;have:=hat1.lo;simp;omega) (x1.heap.size+1) (by simp) (fun w' hg=>(hat1.grownI hg).2.2) ?_
       intro g cap w2 h1 h2 h3 h4
       simp only [sA,sB]
       obtain ⟨e0,e1,e2⟩:=hat1.grownI h2
       have HX:=qz (hat1.app0 (uh HIT) _ h1 h2 h3)
       clear h1 h2 h3 h4 hHeld
       have hHeld:=e2
       refine hT 8 62 rfl rfl hHeld nPp (v:=?_) (fun x hSx=>?_) ?_
       rotate_left 1
       ·go_simp<;>with_reducible rfl
       simp only [sA,sB]
       refine hKk 9 rfl rfl (w':=w2.setCell ⟨bx,0,none⟩ (.slice (some ⟨g,0,none⟩) (p+1) cap)) ?_ (uh HX).bel ?_
       ·go_simp
       refine dN ?_
       go_wp2_with fail
       go_meet
       exact ⟨rfl,_,uh HX⟩
     case rest =>
      obtain ⟨rfl,vi',hat2⟩:=hcut
      clear hat
      have c1:=hat2.c1
      have HAT2:=qz hat2
      have HOWN:=qz (hat2.oa.alloc (.cells #[.int .i64 ((i+1:Nat):Int)] 3))
      have HNEW:=qz (z6x wc ((i+1:Nat):Int))
      have hwlt:Hid (w.heap.size+1≤wc.heap.size+1):=qz (by have:=hat2.bel.size;omega)
      clear hat2
      go_wp2_with (at_builtin;go_must (refine wpList_append_lies _ rfl (.tmp 77) (.tmp 79) 49 rfl (w.heap.size+1) 3 i0 _ 1 8 Tryz.underlying49 hii hz0 hz1 hz2 rfl (by decide) va (p+1) _ (by rfl) (uh HOWN) ⟨wc.heap.size,0,none⟩ 1 1 [iv ((i+1:Nat):Int)] (by rfl) rfl (uh HNEW) (by intro u hu;simp at hu;subst hu;rfl) (by omega) (by unfold maxLen;omega) (by omega) (by have:=uh hwlt;simp;omega) (wc.heap.size+1) (by simp) ?_;intro g cap w2 h1 h2 h3 h4;obtain ⟨e0,e1,e2⟩:=(uh HAT2).grownA h2;have HX:=qz ((uh HAT2).app1 (uh HAH) _ h1 h2 h3);clear h1 h2 h3 h4 c1 e2))
      go_roundg (room-(p+1))
      case measure=>have:=uh HP;omega
      case rel=>exact ⟨i+1,j,vi',_,by have:=uh HP;omega,by have:=uh HP;omega,by rw [show i+1+j=p+1 by have:=uh HP;omega];exact uh HST,by omega,by omega,by go_num,rfl,by rw [show i+1+j=p+1 by have:=uh HP;omega];exact uh HX⟩
    ·have hj':j<m:=by omega
     have t2:((j:Int) == (m:Int))=false:=by simp;omega
     have t3:(j:Int)<(m:Int):=by omega
     by_cases hi:i<n
     ·obtain ⟨ba,oa,rfl,hcA⟩:=uh HSA (by omega)
      obtain ⟨z,hzA⟩:∃z,A.getD i 0=z:=⟨_,rfl⟩
      have kA:=hcA i (by omega)
      rw [z3l A i (by rw [←uh HN];omega),hzA] at kA
      have kA1:=z0c hat.bel kA
      clear hcA
      obtain ⟨bb,ob,rfl,hcB⟩:=uh HSB (by omega)
      obtain ⟨y,hzB⟩:∃y,B.getD j 0=y:=⟨_,rfl⟩
      have kB:=hcB j (by omega)
      rw [z3l B j (by rw [←uh HM];omega),hzB] at kB
      have kB1:=z0c hat.bel kB
      clear hcB
      have t1:(i:Int)<(n:Int):=by omega
      by_cases hle:z≤y
      ·have hg:Merge.goes A B (i,j)=true:=Merge.z2r.2 (.inr ⟨by rw [←uh HN];exact hi,by rw [hzA,hzB];exact hle⟩)
       clear hzB
       have HLE:=qz (w1k (z:Int) (y:Int) (by omega))
       have HST:Hid (Merge.st A B (p+1)=(i+1,j)):=qz (by rw [hst1,if_pos hg])
       have HIT:Hid ((Merge.mgd A B)[p]?=some z):=qz (by rw [hit,if_pos hg,hzA])
       have HAH:Hid ((Merge.ahd A B)[p+1]?=some (i+1)):=qz (by rw [hah,uh HST])
       clear hst1 hit hah hst hg hzA hat hp hroom
       go_wp2_with fail
       go_quiet (first|(go_at_call 150;refine Calls.quiet_of_same (uh HLE _)))
       go_wp2_with fail
       obtain ⟨x0,hx0⟩:∃x,x=wr.drewN nq:=⟨_,rfl⟩
       have hat:=(uh HAT).drewN nq
       rw [←hx0] at hat
       rw [←hx0]
       clear hx0 HAT
       go_cut [9] from 22 to 81 (fun v9 wc=>v9=.int .i64 (i:Int)∧∃vi',MAt A B w wc bx vi' va (p+1) (p+1))
       case first =>
        refine wp_region_noPanic ?_
        refine wp_region_held_drew (S:=fun x:World=>Below w.heap.size w x) (by kernel_rfl) hat.drew.bel (fun hHeld=>?_)
        have hat1:=hat.drew
        obtain ⟨x1,hx1⟩:∃x,x=x0.drew:=⟨_,rfl⟩
        rw [←hx1] at hat1 hHeld
        rw [←hx1]
        clear hx1 hat
        refine hT 0 54 rfl rfl hHeld nPp (v:=?_) (fun x hSx=>?_) ?_
        rotate_left 1
        ·(have q0:=z0c hSx kA;go_simp<;>with_reducible rfl)
        simp only [sA,sB]
        refine hT 2 56 rfl rfl hHeld nPp (v:=?_) (fun x hSx=>?_) ?_
        rotate_left 1
        ·(have q0:=z0c hSx kA;go_simp<;>with_reducible rfl)
        simp only [sA,sB]
        refine hT 3 57 rfl rfl hHeld nPp (v:=?_) (fun x hSx=>?_) ?_
        rotate_left 1
        ·(have q0:=z0c hSx kA;go_simp<;>with_reducible rfl)
        simp only [sA,sB]
        refine hT 4 58 rfl rfl hHeld nPp (v:=?_) (fun x hSx=>?_) ?_
        rotate_left 1
        ·(have q0:=z0c hSx kA;go_simp<;>with_reducible rfl)
        simp only [sA,sB]
        refine hT 5 59 rfl rfl hHeld nPp (v:=?_) (fun x hSx=>?_) ?_
        rotate_left 1
        ·(have q0:=z0c hSx kA;go_simp<;>with_reducible rfl)
        simp only [sA,sB]
        refine z1i (i:=1) (j:=6) (by kernel_rfl) rfl rfl (fun K hK=>?_) (fun K hK=>?_)
        ·refine z0l 1 55 hK rfl (by rfl) (v:=vi) (w':=x1) ?_ hHeld ?_
         ·have q0:=hat1.c0;go_simp
         simp only [sA,sB]
         refine hO 6 60 rfl rfl (v:=.slice (some ⟨x1.heap.size,0,none⟩) 1 1) (w':=x1.alloc (.cells #[.int .i64 (z:Int)] 3)) ?_ (hHeld.trans ((Below.refl _ _).alloc hHeld.size _)) ?_
         ·go_simp<;>exact ⟨rfl,rfl⟩
         simp only [sA,sB]
         refine z0u 7 61 (.tmp 55) (.tmp 60) (by kernel_rfl) rfl rfl (by rfl) rfl rfl (w.heap.size+1) vi p ((ints ((Merge.mgd A B).take p)).map iv) (by rfl) (hat1.oi.alloc _) ⟨x1.heap.size,0,none⟩ (z:Int) (by rfl) (z3v _ _) (by omega) (by have:=hat1.lt;have:=hat1.lo;simp;omega) (x1.heap.size+1) (by simp) (fun w' hg=>(hat1.grownI hg).2.2) ?_
         intro g cap w2 h1 h2 h3 h4
         simp only [sA,sB]
         obtain ⟨e0,e1,e2⟩:=hat1.grownI h2
         have HX:=qz (hat1.app0 (uh HIT) _ h1 h2 h3)
         clear h1 h2 h3 h4 hHeld
         have hHeld:=e2
         refine hT 8 62 rfl rfl hHeld nPp (v:=?_) (fun x hSx=>?_) ?_
         rotate_left 1
         ·go_simp<;>with_reducible rfl
         simp only [sA,sB]
         refine hKk 9 rfl rfl (w':=w2.setCell ⟨bx,0,none⟩ (.slice (some ⟨g,0,none⟩) (p+1) cap)) ?_ (uh HX).bel ?_
         ·go_simp
         refine dN ?_
         go_wp2_with fail
         go_meet
         exact ⟨rfl,_,uh HX⟩
        ·refine z0l 6 60 hK rfl (by rfl) (v:=.slice (some ⟨x1.heap.size,0,none⟩) 1 1) (w':=x1.alloc (.cells #[.int .i64 (z:Int)] 3)) ?_ (hHeld.trans ((Below.refl _ _).alloc hHeld.size _)) ?_
         ·go_simp<;>exact ⟨rfl,rfl⟩
         simp only [sA,sB]
         refine hO 1 55 rfl rfl (v:=vi) (w':=x1.alloc (.cells #[.int .i64 (z:Int)] 3)) ?_ (hHeld.trans ((Below.refl _ _).alloc hHeld.size _)) ?_
         ·have q0:(x1.alloc (.cells #[.int .i64 (z:Int)] 3)).cell? ⟨bx,0,none⟩=some vi:=z0c ((Below.refl _ _).alloc (Nat.le_refl _) _) hat1.c0;go_simp
         simp only [sA,sB]
         refine z0u 7 61 (.tmp 55) (.tmp 60) (by kernel_rfl) rfl rfl (by rfl) rfl rfl (w.heap.size+1) vi p ((ints ((Merge.mgd A B).take p)).map iv) (by rfl) (hat1.oi.alloc _) ⟨x1.heap.size,0,none⟩ (z:Int) (by rfl) (z3v _ _) (by omega) (by have:=hat1.lt;have:=hat1.lo;simp;omega) (x1.heap.size+1) (by simp) (fun w' hg=>(hat1.grownI hg).2.2) ?_
         intro g cap w2 h1 h2 h3 h4
         simp only [sA,sB]
         obtain ⟨e0,e1,e2⟩:=hat1.grownI h2
         have HX:=qz (hat1.app0 (uh HIT) _ h1 h2 h3)
         clear h1 h2 h3 h4 hHeld
         have hHeld:=e2
         refine hT 8 62 rfl rfl hHeld nPp (v:=?_) (fun x hSx=>?_) ?_
         rotate_left 1
         ·go_simp<;>with_reducible rfl
         simp only [sA,sB]
         refine hKk 9 rfl rfl (w':=w2.setCell ⟨bx,0,none⟩ (.slice (some ⟨g,0,none⟩) (p+1) cap)) ?_ (uh HX).bel ?_
         ·go_simp
         refine dN ?_
         go_wp2_with fail
         go_meet
         exact ⟨rfl,_,uh HX⟩
       case rest =>
        obtain ⟨rfl,vi',hat2⟩:=hcut
        clear hat
        have c1:=hat2.c1
        have HAT2:=qz hat2
        have HOWN:=qz (hat2.oa.alloc (.cells #[.int .i64 ((i+1:Nat):Int)] 3))
        have HNEW:=qz (z6x wc ((i+1:Nat):Int))
        have hwlt:Hid (w.heap.size+1≤wc.heap.size+1):=qz (by have:=hat2.bel.size;omega)
        clear hat2
        go_wp2_with (at_builtin;go_must (refine wpList_append_lies _ rfl (.tmp 77) (.tmp 79) 49 rfl (w.heap.size+1) 3 i0 _ 1 8 Tryz.underlying49 hii hz0 hz1 hz2 rfl (by decide) va (p+1) _ (by rfl) (uh HOWN) ⟨wc.heap.size,0,none⟩ 1 1 [iv ((i+1:Nat):Int)] (by rfl) rfl (uh HNEW) (by intro u hu;simp at hu;subst hu;rfl) (by omega) (by unfold maxLen;omega) (by omega) (by have:=uh hwlt;simp;omega) (wc.heap.size+1) (by simp) ?_;intro g cap w2 h1 h2 h3 h4;obtain ⟨e0,e1,e2⟩:=(uh HAT2).grownA h2;have HX:=qz ((uh HAT2).app1 (uh HAH) _ h1 h2 h3);clear h1 h2 h3 h4 c1 e2))
        go_roundg (room-(p+1))
        case measure=>have:=uh HP;omega
        case rel=>exact ⟨i+1,j,vi',_,by have:=uh HP;omega,by have:=uh HP;omega,by rw [show i+1+j=p+1 by have:=uh HP;omega];exact uh HST,by omega,by omega,by go_num,rfl,by rw [show i+1+j=p+1 by have:=uh HP;omega];exact uh HX⟩
      ·have hg:¬Merge.goes A B (i,j)=true:=fun h=>by rcases Merge.z2r.1 h with h|h;exact hj (by rw [uh HM];exact h);exact hle (by rw [←hzA,←hzB];exact h.2)
       clear hzA
       have HLE:=qz (w2j (z:Int) (y:Int) (by omega))
       have HST:Hid (Merge.st A B (p+1)=(i,j+1)):=qz (by rw [hst1,if_neg hg])
       have HIT:Hid ((Merge.mgd A B)[p]?=some y):=qz (by rw [hit,if_neg hg,hzB])
       have HAH:Hid ((Merge.ahd A B)[p+1]?=some i):=qz (by rw [hah,uh HST])
       clear hst1 hit hah hst hg hzB hat hp hroom
       go_wp2_with fail
       go_quiet (first|(go_at_call 150;refine Calls.quiet_of_same (uh HLE _)))
       go_wp2_with fail
       obtain ⟨x0,hx0⟩:∃x,x=wr.drewN nq:=⟨_,rfl⟩
       have hat:=(uh HAT).drewN nq
       rw [←hx0] at hat
       rw [←hx0]
       clear hx0 HAT
       go_cut [9] from 22 to 81 (fun v9 wc=>v9=.int .i64 (i:Int)∧∃vi',MAt A B w wc bx vi' va (p+1) (p+1))
       case first =>
        refine wp_region_noPanic ?_
        refine wp_region_held_drew (S:=fun x:World=>Below w.heap.size w x) (by kernel_rfl) hat.drew.bel (fun hHeld=>?_)
        have hat1:=hat.drew
        obtain ⟨x1,hx1⟩:∃x,x=x0.drew:=⟨_,rfl⟩
        rw [←hx1] at hat1 hHeld
        rw [←hx1]
        clear hx1 hat
        refine hT 0 65 rfl rfl hHeld nPp (v:=?_) (fun x hSx=>?_) ?_
        rotate_left 1
        ·(have q0:=z0c hSx kB;go_simp<;>with_reducible rfl)
        simp only [sA,sB]
        refine hT 2 67 rfl rfl hHeld nPp (v:=?_) (fun x hSx=>?_) ?_
        rotate_left 1
        ·(have q0:=z0c hSx kB;go_simp<;>with_reducible rfl)
        simp only [sA,sB]
        refine hT 3 68 rfl rfl hHeld nPp (v:=?_) (fun x hSx=>?_) ?_
        rotate_left 1
        ·(have q0:=z0c hSx kB;go_simp<;>with_reducible rfl)
        simp only [sA,sB]
        refine hT 4 69 rfl rfl hHeld nPp (v:=?_) (fun x hSx=>?_) ?_
        rotate_left 1
        ·(have q0:=z0c hSx kB;go_simp<;>with_reducible rfl)
        simp only [sA,sB]
        refine hT 5 70 rfl rfl hHeld nPp (v:=?_) (fun x hSx=>?_) ?_
        rotate_left 1
        ·(have q0:=z0c hSx kB;go_simp<;>with_reducible rfl)
        simp only [sA,sB]
        refine z1i (i:=1) (j:=6) (by kernel_rfl) rfl rfl (fun K hK=>?_) (fun K hK=>?_)
        ·refine z0l 1 66 hK rfl (by rfl) (v:=vi) (w':=x1) ?_ hHeld ?_
         ·have q0:=hat1.c0;go_simp
         simp only [sA,sB]
         refine hO 6 71 rfl rfl (v:=.slice (some ⟨x1.heap.size,0,none⟩) 1 1) (w':=x1.alloc (.cells #[.int .i64 (y:Int)] 3)) ?_ (hHeld.trans ((Below.refl _ _).alloc hHeld.size _)) ?_
         ·go_simp<;>exact ⟨rfl,rfl⟩
         simp only [sA,sB]
         refine z0u 7 72 (.tmp 66) (.tmp 71) (by kernel_rfl) rfl rfl (by rfl) rfl rfl (w.heap.size+1) vi p ((ints ((Merge.mgd A B).take p)).map iv) (by rfl) (hat1.oi.alloc _) ⟨x1.heap.size,0,none⟩ (y:Int) (by rfl) (z3v _ _) (by omega) (by have:=hat1.lt;have:=hat1.lo;simp;omega) (x1.heap.size+1) (by simp) (fun w' hg=>(hat1.grownI hg).2.2) ?_
         intro g cap w2 h1 h2 h3 h4
         simp only [sA,sB]
         obtain ⟨e0,e1,e2⟩:=hat1.grownI h2
         have HX:=qz (hat1.app0 (uh HIT) _ h1 h2 h3)
         clear h1 h2 h3 h4 hHeld
         have hHeld:=e2
         refine hT 8 73 rfl rfl hHeld nPp (v:=?_) (fun x hSx=>?_) ?_
         rotate_left 1
         ·go_simp<;>with_reducible rfl
         simp only [sA,sB]
         refine hKk 9 rfl rfl (w':=w2.setCell ⟨bx,0,none⟩ (.slice (some ⟨g,0,none⟩) (p+1) cap)) ?_ (uh HX).bel ?_
         ·go_simp
         refine dN ?_
         go_wp2_with fail
         go_meet
         exact ⟨rfl,_,uh HX⟩
        ·refine z0l 6 71 hK rfl (by rfl) (v:=.slice (some ⟨x1.heap.size,0,none⟩) 1 1) (w':=x1.alloc (.cells #[.int .i64 (y:Int)] 3)) ?_ (hHeld.trans ((Below.refl _ _).alloc hHeld.size _)) ?_
         ·go_simp<;>exact ⟨rfl,rfl⟩
         simp only [sA,sB]
         refine hO 1 66 rfl rfl (v:=vi) (w':=x1.alloc (.cells #[.int .i64 (y:Int)] 3)) ?_ (hHeld.trans ((Below.refl _ _).alloc hHeld.size _)) ?_
         ·have q0:(x1.alloc (.cells #[.int .i64 (y:Int)] 3)).cell? ⟨bx,0,none⟩=some vi:=z0c ((Below.refl _ _).alloc (Nat.le_refl _) _) hat1.c0;go_simp
         simp only [sA,sB]
         refine z0u 7 72 (.tmp 66) (.tmp 71) (by kernel_rfl) rfl rfl (by rfl) rfl rfl (w.heap.size+1) vi p ((ints ((Merge.mgd A B).take p)).map iv) (by rfl) (hat1.oi.alloc _) ⟨x1.heap.size,0,none⟩ (y:Int) (by rfl) (z3v _ _) (by omega) (by have:=hat1.lt;have:=hat1.lo;simp;omega) (x1.heap.size+1) (by simp) (fun w' hg=>(hat1.grownI hg).2.2) ?_
         intro g cap w2 h1 h2 h3 h4
         simp only [sA,sB]
         obtain ⟨e0,e1,e2⟩:=hat1.grownI h2
         have HX:=qz (hat1.app0 (uh HIT) _ h1 h2 h3)
         clear h1 h2 h3 h4 hHeld
         have hHeld:=e2
         refine hT 8 73 rfl rfl hHeld nPp (v:=?_) (fun x hSx=>?_) ?_
         rotate_left 1
         ·go_simp<;>with_reducible rfl
         simp only [sA,sB]
         refine hKk 9 rfl rfl (w':=w2.setCell ⟨bx,0,none⟩ (.slice (some ⟨g,0,none⟩) (p+1) cap)) ?_ (uh HX).bel ?_
         ·go_simp
         refine dN ?_
         go_wp2_with fail
         go_meet
         exact ⟨rfl,_,uh HX⟩
       case rest =>
        obtain ⟨rfl,vi',hat2⟩:=hcut
        clear hat
        have c1:=hat2.c1
        have HAT2:=qz hat2
        have HOWN:=qz (hat2.oa.alloc (.cells #[.int .i64 ((i:Nat):Int)] 3))
        have HNEW:=qz (z6x wc ((i:Nat):Int))
        have hwlt:Hid (w.heap.size+1≤wc.heap.size+1):=qz (by have:=hat2.bel.size;omega)
        clear hat2
        go_wp2_with (at_builtin;go_must (refine wpList_append_lies _ rfl (.tmp 77) (.tmp 79) 49 rfl (w.heap.size+1) 3 i0 _ 1 8 Tryz.underlying49 hii hz0 hz1 hz2 rfl (by decide) va (p+1) _ (by rfl) (uh HOWN) ⟨wc.heap.size,0,none⟩ 1 1 [iv ((i:Nat):Int)] (by rfl) rfl (uh HNEW) (by intro u hu;simp at hu;subst hu;rfl) (by omega) (by unfold maxLen;omega) (by omega) (by have:=uh hwlt;simp;omega) (wc.heap.size+1) (by simp) ?_;intro g cap w2 h1 h2 h3 h4;obtain ⟨e0,e1,e2⟩:=(uh HAT2).grownA h2;have HX:=qz ((uh HAT2).app1 (uh HAH) _ h1 h2 h3);clear h1 h2 h3 h4 c1 e2))
        go_roundg (room-(p+1))
        case measure=>have:=uh HP;omega
        case rel=>exact ⟨i,j+1,vi',_,by have:=uh HP;omega,by have:=uh HP;omega,by rw [show i+(j+1)=p+1 by have:=uh HP;omega];exact uh HST,by omega,by omega,rfl,by go_num,by rw [show i+(j+1)=p+1 by have:=uh HP;omega];exact uh HX⟩
     ·obtain ⟨bb,ob,rfl,hcB⟩:=uh HSB (by omega)
      obtain ⟨y,hzB⟩:∃y,B.getD j 0=y:=⟨_,rfl⟩
      have kB:=hcB j (by omega)
      rw [z3l B j (by rw [←uh HM];omega),hzB] at kB
      have kB1:=z0c hat.bel kB
      clear hcB
      have t1:¬ (i:Int)<(n:Int):=by omega
      have hg:¬Merge.goes A B (i,j)=true:=fun h=>by rcases Merge.z2r.1 h with h|h;exact hj (by rw [uh HM];exact h);exact hi (by rw [uh HN];exact h.1)
      have HST:Hid (Merge.st A B (p+1)=(i,j+1)):=qz (by rw [hst1,if_neg hg])
      have HIT:Hid ((Merge.mgd A B)[p]?=some y):=qz (by rw [hit,if_neg hg,hzB])
      have HAH:Hid ((Merge.ahd A B)[p+1]?=some i):=qz (by rw [hah,uh HST])
      clear hst1 hit hah hst hg hzB hat hp hroom
      go_wp2_with fail
      go_quiet (fail)
      go_wp2_with fail
      obtain ⟨x0,hx0⟩:∃x,x=wr.drewN nq:=⟨_,rfl⟩
      have hat:=(uh HAT).drewN nq
      rw [←hx0] at hat
      rw [←hx0]
      clear hx0 HAT
      go_cut [9] from 22 to 81 (fun v9 wc=>v9=.int .i64 (i:Int)∧∃vi',MAt A B w wc bx vi' va (p+1) (p+1))
      case first =>
       refine wp_region_noPanic ?_
       refine wp_region_held_drew (S:=fun x:World=>Below w.heap.size w x) (by kernel_rfl) hat.drew.bel (fun hHeld=>?_)
       have hat1:=hat.drew
       obtain ⟨x1,hx1⟩:∃x,x=x0.drew:=⟨_,rfl⟩
       rw [←hx1] at hat1 hHeld
       rw [←hx1]
       clear hx1 hat
       refine hT 0 65 rfl rfl hHeld nPp (v:=?_) (fun x hSx=>?_) ?_
       rotate_left 1
       ·(have q0:=z0c hSx kB;go_simp<;>with_reducible rfl)
       simp only [sA,sB]
       refine hT 2 67 rfl rfl hHeld nPp (v:=?_) (fun x hSx=>?_) ?_
       rotate_left 1
       ·(have q0:=z0c hSx kB;go_simp<;>with_reducible rfl)
       simp only [sA,sB]
       refine hT 3 68 rfl rfl hHeld nPp (v:=?_) (fun x hSx=>?_) ?_
       rotate_left 1
       ·(have q0:=z0c hSx kB;go_simp<;>with_reducible rfl)
       simp only [sA,sB]
       refine hT 4 69 rfl rfl hHeld nPp (v:=?_) (fun x hSx=>?_) ?_
       rotate_left 1
       ·(have q0:=z0c hSx kB;go_simp<;>with_reducible rfl)
       simp only [sA,sB]
       refine hT 5 70 rfl rfl hHeld nPp (v:=?_) (fun x hSx=>?_) ?_
       rotate_left 1
       ·(have q0:=z0c hSx kB;go_simp<;>with_reducible rfl)
       simp only [sA,sB]
       refine z1i (i:=1) (j:=6) (by kernel_rfl) rfl rfl (fun K hK=>?_) (fun K hK=>?_)
       ·refine z0l 1 66 hK rfl (by rfl) (v:=vi) (w':=x1) ?_ hHeld ?_
        ·have q0:=hat1.c0;go_simp
        simp only [sA,sB]
        refine hO 6 71 rfl rfl (v:=.slice (some ⟨x1.heap.size,0,none⟩) 1 1) (w':=x1.alloc (.cells #[.int .i64 (y:Int)] 3)) ?_ (hHeld.trans ((Below.refl _ _).alloc hHeld.size _)) ?_
        ·go_simp<;>exact ⟨rfl,rfl⟩
        simp only [sA,sB]
        refine z0u 7 72 (.tmp 66) (.tmp 71) (by kernel_rfl) rfl rfl (by rfl) rfl rfl (w.heap.size+1) vi p ((ints ((Merge.mgd A B).take p)).map iv) (by rfl) (hat1.oi.alloc _) ⟨x1.heap.size,0,none⟩ (y:Int) (by rfl) (z3v _ _) (by omega) (by have:=hat1.lt;have:=hat1.lo;simp;omega) (x1.heap.size+1) (by simp) (fun w' hg=>(hat1.grownI hg).2.2) ?_
        intro g cap w2 h1 h2 h3 h4
        simp only [sA,sB]
        obtain ⟨e0,e1,e2⟩:=hat1.grownI h2
        have HX:=qz (hat1.app0 (uh HIT) _ h1 h2 h3)
        clear h1 h2 h3 h4 hHeld
        have hHeld:=e2
        refine hT 8 73 rfl rfl hHeld nPp (v:=?_) (fun x hSx=>?_) ?_
        rotate_left 1
        ·go_simp<;>with_reducible rfl
        simp only [sA,sB]
        refine hKk 9 rfl rfl (w':=w2.setCell ⟨bx,0,none⟩ (.slice (some ⟨g,0,none⟩) (p+1) cap)) ?_ (uh HX).bel ?_
        ·go_simp
        refine dN ?_
        go_wp2_with fail
        go_meet
        exact ⟨rfl,_,uh HX⟩
       ·refine z0l 6 71 hK rfl (by rfl) (v:=.slice (some ⟨x1.heap.size,0,none⟩) 1 1) (w':=x1.alloc (.cells #[.int .i64 (y:Int)] 3)) ?_ (hHeld.trans ((Below.refl _ _).alloc hHeld.size _)) ?_
        ·go_simp<;>exact ⟨rfl,rfl⟩
        simp only [sA,sB]
        refine hO 1 66 rfl rfl (v:=vi) (w':=x1.alloc (.cells #[.int .i64 (y:Int)] 3)) ?_ (hHeld.trans ((Below.refl _ _).alloc hHeld.size _)) ?_
        ·have q0:(x1.alloc (.cells #[.int .i64 (y:Int)] 3)).cell? ⟨bx,0,none⟩=some vi:=z0c ((Below.refl _ _).alloc (Nat.le_refl _) _) hat1.c0;go_simp
        simp only [sA,sB]
        refine z0u 7 72 (.tmp 66) (.tmp 71) (by kernel_rfl) rfl rfl (by rfl) rfl rfl (w.heap.size+1) vi p ((ints ((Merge.mgd A B).take p)).map iv) (by rfl) (hat1.oi.alloc _) ⟨x1.heap.size,0,none⟩ (y:Int) (by rfl) (z3v _ _) (by omega) (by have:=hat1.lt;have:=hat1.lo;simp;omega) (x1.heap.size+1) (by simp) (fun w' hg=>(hat1.grownI hg).2.2) ?_
        intro g cap w2 h1 h2 h3 h4
        simp only [sA,sB]
        obtain ⟨e0,e1,e2⟩:=hat1.grownI h2
        have HX:=qz (hat1.app0 (uh HIT) _ h1 h2 h3)
        clear h1 h2 h3 h4 hHeld
        have hHeld:=e2
        refine hT 8 73 rfl rfl hHeld nPp (v:=?_) (fun x hSx=>?_) ?_
        rotate_left 1
        ·go_simp<;>with_reducible rfl
        simp only [sA,sB]
        refine hKk 9 rfl rfl (w':=w2.setCell ⟨bx,0,none⟩ (.slice (some ⟨g,0,none⟩) (p+1) cap)) ?_ (uh HX).bel ?_
        ·go_simp
        refine dN ?_
        go_wp2_with fail
        go_meet
        exact ⟨rfl,_,uh HX⟩
      case rest =>
       obtain ⟨rfl,vi',hat2⟩:=hcut
       clear hat
       have c1:=hat2.c1
       have HAT2:=qz hat2
       have HOWN:=qz (hat2.oa.alloc (.cells #[.int .i64 ((i:Nat):Int)] 3))
       have HNEW:=qz (z6x wc ((i:Nat):Int))
       have hwlt:Hid (w.heap.size+1≤wc.heap.size+1):=qz (by have:=hat2.bel.size;omega)
       clear hat2
       go_wp2_with (at_builtin;go_must (refine wpList_append_lies _ rfl (.tmp 77) (.tmp 79) 49 rfl (w.heap.size+1) 3 i0 _ 1 8 Tryz.underlying49 hii hz0 hz1 hz2 rfl (by decide) va (p+1) _ (by rfl) (uh HOWN) ⟨wc.heap.size,0,none⟩ 1 1 [iv ((i:Nat):Int)] (by rfl) rfl (uh HNEW) (by intro u hu;simp at hu;subst hu;rfl) (by omega) (by unfold maxLen;omega) (by omega) (by have:=uh hwlt;simp;omega) (wc.heap.size+1) (by simp) ?_;intro g cap w2 h1 h2 h3 h4;obtain ⟨e0,e1,e2⟩:=(uh HAT2).grownA h2;have HX:=qz ((uh HAT2).app1 (uh HAH) _ h1 h2 h3);clear h1 h2 h3 h4 c1 e2))
       go_roundg (room-(p+1))
       case measure=>have:=uh HP;omega
       case rel=>exact ⟨i,j+1,vi',_,by have:=uh HP;omega,by have:=uh HP;omega,by rw [show i+(j+1)=p+1 by have:=uh HP;omega];exact uh HST,by omega,by omega,rfl,by go_num,by rw [show i+(j+1)=p+1 by have:=uh HP;omega];exact uh HX⟩
   ·obtain rfl:i=n:=by omega
    obtain rfl:j=m:=by omega
    have t1:¬ (i:Int)<(i:Int):=by omega
    have t2:¬ (j:Int)<(j:Int):=by omega
    obtain ⟨a1,k1,rfl⟩:=y3n hat.oi
    obtain ⟨a2,k2,rfl⟩:=y3n hat.oa
    have c0:=hat.c0
    have c1:=hat.c1
    have r0:wr.cell? ⟨w.heap.size,0,none⟩=some (.slice none 0 0):=by simp [World.cell?,hat.res,two]
    have r1:wr.cell? ⟨w.heap.size,1,none⟩=some (.slice none 0 0):=by simp [World.cell?,hat.res,two]
    have f0:wr.frozen? ⟨w.heap.size,0,none⟩=false:=by simp [World.frozen?,hat.res]
    have f1:wr.frozen? ⟨w.heap.size,1,none⟩=false:=by simp [World.frozen?,hat.res]
    have HE:=qz (x0k (MAt.finish hat (by rw [←uh HN,←uh HM];exact hp)) hat.res)
    clear hat hst HAT hp hroom
    go_wp2_with fail
    generalize hW:(wr.setCell ⟨w.heap.size,0,none⟩ (.slice a1 p k1)).setCell ⟨w.heap.size,1,none⟩ (.slice a2 (p+1) k2)=W
    have HFIN:=qz (uh HE)
    rw [hW] at HFIN
    obtain ⟨q1,q2,q3,q4,q5⟩:=uh HFIN
    refine bodyPost_ret (v:=.agg #[.slice a1 p k1,.slice a2 (p+1) k2]) ?_ rfl ⟨_,_,rfl,q1,q2,q5⟩
    rw [z3z rfl]
    go_simp
end L5
end Go.Proofs.YtljdhaepkhhnlaaGreat
section
namespace Go.Proofs
open Go.Shelf
def Tryz.sortCome_ren:Go.Shelf.Ren:=⟨fun|6=>145|15=>144|14=>165|28=>163|29=>164|20=>180|21=>181|22=>182|23=>183|24=>184|25=>185|26=>186|27=>187|46=>192|47=>176|48=>177|49=>193|50=>194|57=>196|n=>n,fun|22=>175|24=>178|25=>195|3=>3|39=>71|0=>0|53=>42|55=>46|4=>4|46=>206|45=>205|50=>210|5=>5|9=>9|66=>221|70=>225|76=>234|77=>235|n=>n,fun|n=>n⟩
theorem Tryz.sortCome:Go.Proofs.SlLaysF0.n6 Tryz.prog Tryz.sortCome_ren:={
 mixed:=by kernel_rfl
 f6:=⟨Tryz.f145.name,by decide,Tryz.func145.trans (congrArg some (by kernel_rfl))⟩
 f14:=⟨Tryz.f165.name,by decide,Tryz.func165.trans (congrArg some (by kernel_rfl))⟩
 f15:=Tryz.func144.trans (congrArg some (by kernel_rfl))
 f20:=⟨Tryz.f180.name,by decide,Tryz.func180.trans (congrArg some (by kernel_rfl))⟩
 f21:=⟨Tryz.f181.name,by decide,Tryz.func181.trans (congrArg some (by kernel_rfl))⟩
 f22:=⟨Tryz.f182.name,by decide,Tryz.func182.trans (congrArg some (by kernel_rfl))⟩
 f23:=⟨Tryz.f183.name,by decide,Tryz.func183.trans (congrArg some (by kernel_rfl))⟩
 f24:=⟨Tryz.f184.name,by decide,Tryz.func184.trans (congrArg some (by kernel_rfl))⟩
 f25:=⟨Tryz.f185.name,by decide,Tryz.func185.trans (congrArg some (by kernel_rfl))⟩
 f26:=⟨Tryz.f186.name,by decide,Tryz.func186.trans (congrArg some (by kernel_rfl))⟩
 f27:=⟨Tryz.f187.name,by decide,Tryz.func187.trans (congrArg some (by kernel_rfl))⟩
 f28:=Tryz.func163.trans (congrArg some (by kernel_rfl))
 f29:=Tryz.func164.trans (congrArg some (by kernel_rfl))
 f46:=⟨Tryz.f192.name,by decide,Tryz.func192.trans (congrArg some (by kernel_rfl))⟩
 f47:=Tryz.func176.trans (congrArg some (by kernel_rfl))
 f48:=Tryz.func177.trans (congrArg some (by kernel_rfl))
 f49:=⟨Tryz.f193.name,by decide,Tryz.func193.trans (congrArg some (by kernel_rfl))⟩
 f50:=⟨Tryz.f194.name,by decide,Tryz.func194.trans (congrArg some (by kernel_rfl))⟩
 f57:=⟨Tryz.f196.name,by decide,Tryz.func196.trans (congrArg some (by kernel_rfl))⟩
 t0:=Tryz.underlying0
 a0:=Tryz.isAgg0
 z0:=Tryz.sizeOf0
 v0:=Tryz.zeroValue0
 t3:=Tryz.underlying3
 a3:=Tryz.isAgg3
 z3:=Tryz.sizeOf3
 v3:=Tryz.zeroValue3
 t4:=Tryz.underlying4
 a4:=Tryz.isAgg4
 z4:=Tryz.sizeOf4
 v4:=Tryz.zeroValue4
 t5:=Tryz.underlying5
 a5:=Tryz.isAgg5
 z5:=Tryz.sizeOf5
 v5:=Tryz.zeroValue5
 t9:=Tryz.underlying9
 a9:=Tryz.isAgg9
 z9:=Tryz.sizeOf9
 v9:=Tryz.zeroValue9
 t22:=Tryz.underlying175
 a22:=Tryz.isAgg175
 z22:=Tryz.sizeOf175
 v22:=Tryz.zeroValue175
 t25:=Tryz.underlying195
 a25:=Tryz.isAgg195
 z25:=Tryz.sizeOf195
 v25:=Tryz.zeroValue195
 t39:=Tryz.underlying71
 a39:=Tryz.isAgg71
 z39:=Tryz.sizeOf71
 v39:=Tryz.zeroValue71
 t45:=Tryz.underlying205
 a45:=Tryz.isAgg205
 z45:=Tryz.sizeOf205
 v45:=Tryz.zeroValue205
 t46:=Tryz.underlying206
 a46:=Tryz.isAgg206
 z46:=Tryz.sizeOf206
 v46:=Tryz.zeroValue206
 t50:=Tryz.underlying210
 a50:=Tryz.isAgg210
 z50:=Tryz.sizeOf210
 v50:=Tryz.zeroValue210
 t53:=Tryz.underlying42
 a53:=Tryz.isAgg42
 z53:=Tryz.sizeOf42
 v53:=Tryz.zeroValue42
 t55:=Tryz.underlying46
 a55:=Tryz.isAgg46
 z55:=Tryz.sizeOf46
 v55:=Tryz.zeroValue46
 t66:=Tryz.underlying221
 a66:=Tryz.isAgg221
 z66:=Tryz.sizeOf221
 v66:=Tryz.zeroValue221
 t70:=Tryz.underlying225
 a70:=Tryz.isAgg225
 z70:=Tryz.sizeOf225
 v70:=Tryz.zeroValue225
 t76:=Tryz.underlying234
 a76:=Tryz.isAgg234
 z76:=Tryz.sizeOf234
 v76:=Tryz.zeroValue234
 t77:=Tryz.underlying235
 a77:=Tryz.isAgg235
 z77:=Tryz.sizeOf235
 v77:=Tryz.zeroValue235 }
def Tryz.laysSlC25_f22_ren : Go.Shelf.Ren := ⟨fun | 5 => 142 | 7 => 153 | n => n, fun | 22 => 3 | 3 => 3 | 4 => 4 | n => n, fun | n => n⟩
theorem Tryz.laysSlC25_f22 : Go.Proofs.SlLaysC2.n5 Tryz.prog Tryz.laysSlC25_f22_ren := {
  mixed := by kernel_rfl
  f5 := ⟨Tryz.f142.name, by decide, Tryz.func142.trans (congrArg some (by kernel_rfl))⟩
  f7 := ⟨Tryz.f153.name, by decide, Tryz.func153.trans (congrArg some (by kernel_rfl))⟩
  t3 := Tryz.underlying3
  a3 := Tryz.isAgg3
  z3 := Tryz.sizeOf3
  v3 := Tryz.zeroValue3
  t4 := Tryz.underlying4
  a4 := Tryz.isAgg4
  z4 := Tryz.sizeOf4
  v4 := Tryz.zeroValue4
  t22 := Tryz.underlying3
  a22 := Tryz.isAgg3
  z22 := Tryz.sizeOf3
  v22 := Tryz.zeroValue3 }
open Go.Lib in
theorem Tryz.cmp_Compare_int (x y:Int) (w:World) :
  Calls Tryz.prog 142 #[.int .i64 x,.int .i64 y] w fun e w'=>e=.returned (.int .i64 (Lib.compareInt x y))∧w'=w:=AnyG.cmp_Compare_int Tryz.laysSlC25_f22 x y w
end Go.Proofs
end
namespace Go.Proofs.YtljdhaepkhhnlaaGreat
namespace L5
open Go.RowKit Go.Sort Go.Lib
attribute [local go_sem ↓] wp_at_zero wp_at_succ
section
variable {P:Program} {md:Region.Mode} {ops:Array Oper} {Q:Exit→Act→World→Prop} {S S':World→Prop}
theorem y8o {o:Oper} {v:Value} {fuel:Nat} {listed:Array Bool} {l:List Value} {df:List Deferred} {w w':World} (i d:Nat) (hr:Region.ready md ops listed=[i]) (hi:ops[i]?=some o) (hd:o.dst=some d)
  (hw:Region.wanted o (yielded ops l.toArray)=true) (hrun:(execOp (Act.eval ⟨l.toArray,df⟩) o).run P w=.ok (.value v) w') (hS:S w')
  (h:wpAnyH P md ops Q S fuel (listed.setIfInBounds i true) ⟨(l.set d v).toArray,df⟩ w'):wpAnyH P md ops Q S (fuel+1) listed ⟨l.toArray,df⟩ w:=by
 refine wpAnyH_ready hr (by simp) (AllReadyH.cons hi (fun K hK=>?_) AllReadyH.nil)
 rw [if_pos hw]
 unfold Oper.wp
 rw [hrun,Oper.upon_value]
 have e:Act.put (⟨l.toArray,df⟩:Act) o.dst v=⟨(l.set d v).toArray,df⟩:=by rw [hd];simp [Act.put]
 rw [e]
 exact hK.out _ _ hS (fun _=>h)
end
theorem w2l (g:Nat) (a b:Int) (w:World) (h0:w.cell? ⟨g,0,none⟩=some (.int .i64 a)) (h1:w.cell? ⟨g,1,none⟩=some (.int .i64 b)) :
  Calls Tryz.prog 147 #[.slice (some ⟨g,0,none⟩) 2 2] w fun e w'=>e=.returned (.int .i64 (if a=0 then b else a))∧w'=w:=by
 go_enter Tryz.func147,Tryz.ntmps147
 go_wp2_with fail
 go_loopg [8] 2 (fun gk d ws=>∃ (k:Nat),gk=2-k∧k≤2∧(1≤k→a=0)∧(2≤k→b=0)∧d=.int .i64 (k:Int)∧ws=w)
 case atStart=>exact ⟨0,by omega,by omega,fun h=>by omega,fun h=>by omega,rfl,rfl⟩
 case round =>
  obtain ⟨k,rfl,hk,ka,kb,rfl,rfl⟩:=hrel
  obtain rfl|rfl|rfl:k=0∨k=1∨k=2:=by omega
  ·clear ka kb
   by_cases e:a=0
   ·have e1:(a != 0)=false:=by simp [e]
    go_wp2_with fail
    go_roundg (2-1)
    case measure=>omega
    case rel=>exact ⟨1,rfl,by omega,fun _=>e,fun h=>by omega,by go_num,rfl⟩
   ·have e1:(a != 0)=true:=by simp [e]
    go_wp2_with fail
    go_ret
    exact ⟨rfl,rfl⟩
  ·have ha:=ka (by omega)
   clear ka kb
   subst ha
   by_cases e:b=0
   ·have e1:(b != 0)=false:=by simp [e]
    go_wp2_with fail
    go_roundg (2-2)
    case measure=>omega
    case rel=>exact ⟨2,rfl,by omega,by simp,fun _=>e,by go_num,rfl⟩
   ·have e1:(b != 0)=true:=by simp [e]
    go_wp2_with fail
    go_ret
    exact ⟨rfl,rfl⟩
  ·have ha:=ka (by omega)
   have hb:=kb (by omega)
   clear ka kb
   subst ha hb
   go_wp2_with fail
   go_ret
   exact ⟨rfl,rfl⟩
theorem x1u (g:Nat) (a b r:Int) (w:World) (hr:r=if a=0 then b else a) (h0:w.cell? ⟨g,0,none⟩=some (.int .i64 a)) (h1:w.cell? ⟨g,1,none⟩=some (.int .i64 b)) :
  Calls Tryz.prog 147 #[.slice (some ⟨g,0,none⟩) 2 2] w fun e w'=>e=.returned (.int .i64 r)∧w'=w:=by
 subst hr;exact w2l g a b w h0 h1
structure Four (p:Nat) (x0 x1 y0 y1:Int) (x:World):Prop where
 a:x.cell? ⟨p,0,none⟩=some (.int .i64 x0)
 b:x.cell? ⟨p,1,none⟩=some (.int .i64 x1)
 c:x.cell? ⟨p+1,0,none⟩=some (.int .i64 y0)
 d:x.cell? ⟨p+1,1,none⟩=some (.int .i64 y1)
theorem Four.alloc {p:Nat} {x0 x1 y0 y1:Int} {x:World} (h:Four p x0 x1 y0 y1 x) (o:Obj):Four p x0 x1 y0 y1 (x.alloc o) :=
 have b:Below x.heap.size x (x.alloc o):=(Below.refl _ _).alloc (Nat.le_refl _) o
 ⟨z0c b h.a,z0c b h.b,z0c b h.c,z0c b h.d⟩
theorem Four.drew {p:Nat} {x0 x1 y0 y1:Int} {x:World} (h:Four p x0 x1 y0 y1 x):Four p x0 x1 y0 y1 x.drew:=⟨h.a,h.b,h.c,h.d⟩
theorem w2e (w:World) (a b:Int):(w.alloc (.cells #[.int .i64 a,.int .i64 b] 3)).cell? ⟨w.heap.size,0,none⟩=some (.int .i64 a):=by
 simp only [World.cell?,heap_alloc_new];rfl
theorem w2f (w:World) (a b:Int):(w.alloc (.cells #[.int .i64 a,.int .i64 b] 3)).cell? ⟨w.heap.size,1,none⟩=some (.int .i64 b):=by
 simp only [World.cell?,heap_alloc_new];rfl
def cf (x y:Int × Int):Int:=if Lib.compareInt x.2 y.2=0 then Lib.compareInt x.1 y.1 else Lib.compareInt x.2 y.2
def encC (x:Int × Int):List Value:=[.int .i64 x.1,.int .i64 x.2]
theorem x0l (W:World) (x0 x1 y0 y1:Int):Four W.heap.size x0 x1 y0 y1 ((W.alloc (.cells #[.int .i64 x0,.int .i64 x1] 178)).alloc (.cells #[.int .i64 y0,.int .i64 y1] 178)):=by
 have b:Below (W.alloc (.cells #[.int .i64 x0,.int .i64 x1] 178)).heap.size (W.alloc (.cells #[.int .i64 x0,.int .i64 x1] 178)) ((W.alloc (.cells #[.int .i64 x0,.int .i64 x1] 178)).alloc (.cells #[.int .i64 y0,.int .i64 y1] 178)):=(Below.refl _ _).alloc (Nat.le_refl _) _
 refine ⟨z0c b ?_,z0c b ?_,?_,?_⟩
 ·simp only [World.cell?,heap_alloc_new];rfl
 ·simp only [World.cell?,heap_alloc_new];rfl
 ·rw [show W.heap.size+1=(W.alloc (.cells #[.int .i64 x0,.int .i64 x1] 178)).heap.size by simp]
  simp only [World.cell?,heap_alloc_new];rfl
 ·rw [show W.heap.size+1=(W.alloc (.cells #[.int .i64 x0,.int .i64 x1] 178)).heap.size by simp]
  simp only [World.cell?,heap_alloc_new];rfl
theorem drew_grow (W:World) (o1 o2 o3:Obj):∃q os',(((W.alloc o1).alloc o2).drew.alloc o3)=grow (W.drewN q) os':=by
 refine ⟨1,#[o1]++#[o2]++#[o3],?_⟩
 rw [←grow_grow,←grow_grow,←alloc_eq_grow,←alloc_eq_grow,←alloc_eq_grow]
 rfl
theorem y2s (x0 x1 y0 y1 c1 c2 r:Int) (W:World) (hr:r=if c1=0 then c2 else c1) (hF1:∀w:World,Calls Tryz.prog 142 #[.int .i64 x1,.int .i64 y1] w fun e w'=>e=.returned (.int .i64 c1)∧w'=w)
  (hF2:∀w:World,Calls Tryz.prog 142 #[.int .i64 x0,.int .i64 y0] w fun e w'=>e=.returned (.int .i64 c2)∧w'=w) :
  Calls Tryz.prog 146 #[.agg #[.int .i64 x0,.int .i64 x1],.agg #[.int .i64 y0,.int .i64 y1]] W fun e w'=>e=.returned (.int .i64 r)∧∃q os',w'=grow (W.drewN q) os':=by
 have hF:=x0l W x0 x1 y0 y1
 have HR:=qz hr
 clear hr
 have HW:=qz (drew_grow W)
 go_enter Tryz.func146,Tryz.ntmps146
 go_upto_region 1 with fail
 have HW2:=qz (uh HW (.cells #[.int .i64 x0,.int .i64 x1] 178) (.cells #[.int .i64 y0,.int .i64 y1] 178))
 clear HW
 obtain ⟨p,hp⟩:∃p,p=W.heap.size:=⟨_,rfl⟩
 obtain ⟨W2,hW2⟩:∃W2,W2=(W.alloc (.cells #[.int .i64 x0,.int .i64 x1] 178)).alloc (.cells #[.int .i64 y0,.int .i64 y1] 178):=⟨_,rfl⟩
 rw [←hp,←hW2] at hF
 rw [←hW2] at HW2
 rw [←hp,←hW2]
 clear hp hW2
 refine wp_region_noPanic ?_
 refine wp_region_held_drew (S:=Four p x0 x1 y0 y1) (by kernel_rfl) hF.drew (fun hHeld=>?_)
 obtain ⟨W3,hW3⟩:∃W3,W3=W2.drew:=⟨_,rfl⟩
 rw [←hW3] at hHeld HW2 ⊢
 clear hW3
 refine hT 0 5 rfl rfl hHeld nPp (v:=?_) (fun x hSx=>?_) ?_
 rotate_left 1
 ·(obtain ⟨q0,q1,q2,q3⟩:=hSx;go_simp<;>with_reducible rfl)
 simp only [sA,sB]
 refine hT 1 6 rfl rfl hHeld nPp (v:=?_) (fun x hSx=>?_) ?_
 rotate_left 1
 ·(obtain ⟨q0,q1,q2,q3⟩:=hSx;go_simp<;>with_reducible rfl)
 simp only [sA,sB]
 refine hT 2 7 rfl rfl hHeld nPp (v:=?_) (fun x hSx=>?_) ?_
 rotate_left 1
 ·(obtain ⟨q0,q1,q2,q3⟩:=hSx;go_simp<;>with_reducible rfl)
 simp only [sA,sB]
 refine hT 3 8 rfl rfl hHeld nPp (v:=?_) (fun x hSx=>?_) ?_
 rotate_left 1
 ·(obtain ⟨q0,q1,q2,q3⟩:=hSx;go_simp<;>with_reducible rfl)
 simp only [sA,sB]
 refine hT 5 10 rfl rfl hHeld nPp (v:=?_) (fun x hSx=>?_) ?_
 rotate_left 1
 ·(obtain ⟨q0,q1,q2,q3⟩:=hSx;go_simp<;>with_reducible rfl)
 simp only [sA,sB]
 refine hT 6 11 rfl rfl hHeld nPp (v:=?_) (fun x hSx=>?_) ?_
 rotate_left 1
 ·(obtain ⟨q0,q1,q2,q3⟩:=hSx;go_simp<;>with_reducible rfl)
 simp only [sA,sB]
 refine hT 7 12 rfl rfl hHeld nPp (v:=?_) (fun x hSx=>?_) ?_
 rotate_left 1
 ·(obtain ⟨q0,q1,q2,q3⟩:=hSx;go_simp<;>with_reducible rfl)
 simp only [sA,sB]
 refine hT 8 13 rfl rfl hHeld nPp (v:=?_) (fun x hSx=>?_) ?_
 rotate_left 1
 ·(obtain ⟨q0,q1,q2,q3⟩:=hSx;go_simp<;>with_reducible rfl)
 simp only [sA,sB]
 refine z1f 4 9 (by kernel_rfl) rfl rfl (by rfl) (by go_simp<;>exact ⟨rfl,rfl⟩) ?_
 refine (hF1 _).mono ?_
 rintro e w' ⟨rfl,hww⟩
 replace hww:=hww.symm
 subst hww
 refine ⟨_,rfl,hHeld,?_⟩
 simp only [sA,sB]
 refine z1f 9 14 (by kernel_rfl) rfl rfl (by rfl) (by go_simp<;>exact ⟨rfl,rfl⟩) ?_
 refine (hF2 _).mono ?_
 rintro e w' ⟨rfl,hww⟩
 replace hww:=hww.symm
 subst hww
 refine ⟨_,rfl,hHeld,?_⟩
 simp only [sA,sB]
 refine y8o 10 15 (by kernel_rfl) rfl rfl (by rfl) (v:=.slice (some ⟨W3.heap.size,0,none⟩) 2 2) (w':=W3.alloc (.cells #[.int .i64 c1,.int .i64 c2] 3)) (by go_simp<;>exact ⟨rfl,rfl⟩) (hHeld.alloc _) ?_
 simp only [sA,sB]
 have hHeld:=hHeld.alloc (.cells #[.int .i64 c1,.int .i64 c2] 3)
 refine z1f 11 16 (by kernel_rfl) rfl rfl (by rfl) (by go_simp<;>exact ⟨rfl,rfl⟩) ?_
 refine (x1u _ c1 c2 r _ (uh HR) (w2e _ _ _) (w2f _ _ _)).mono ?_
 rintro e w' ⟨rfl,hww⟩
 replace hww:=hww.symm
 subst hww
 refine ⟨_,rfl,hHeld,?_⟩
 simp only [sA,sB]
 refine hT 12 4 rfl rfl hHeld nPp (v:=?_) (fun x hSx=>?_) ?_
 rotate_left 1
 ·go_simp<;>with_reducible rfl
 simp only [sA,sB]
 refine dN ?_
 go_wp2_with fail
 go_ret
 exact ⟨rfl,uh HW2 _⟩
theorem x0e (x y:Int × Int) (W:World):Calls Tryz.prog 146 #[.agg #[.int .i64 x.1,.int .i64 x.2],.agg #[.int .i64 y.1,.int .i64 y.2]] W fun e w'=>e=.returned (.int .i64 (cf x y))∧∃q os',w'=grow (W.drewN q) os' :=
 y2s x.1 x.2 y.1 y.2 _ _ _ W rfl (Tryz.cmp_Compare_int x.2 y.2) (Tryz.cmp_Compare_int x.1 y.1)
end L5
namespace L5
open Go.RowKit Go.Sort Go.Lib
def wt (os:List Int) (i:Nat):Nat:=(os.getD i 0).toNat
def Ahead (os:List Int) (i j:Nat):Prop:=wt os i<wt os j∨wt os i=wt os j∧i<j
structure IsOrder (os:List Int) (l:List Nat):Prop where
 pw:l.Pairwise (Ahead os)
 mem:∀i,i∈l↔i<os.length∧0<wt os i
theorem Ahead.irrefl {os:List Int} {i:Nat} (h:Ahead os i i):False:=by unfold Ahead at *;omega
theorem IsOrder.nodup {os:List Int} {l:List Nat} (h:IsOrder os l):l.Nodup:=by
 refine h.pw.imp ?_
 intro a b hab e
 subst e
 exact hab.irrefl
theorem IsOrder.sorted {os:List Int} {l:List Nat} (h:IsOrder os l):Merge.Sorted (Merge.z0h (wt os) l):=by
 unfold Merge.Sorted Merge.z0h
 rw [List.pairwise_map]
 refine h.pw.imp ?_
 intro a b hab
 unfold Ahead at hab
 simp only
 omega
def raw (os:List Int) (n:Nat):List Nat:=(List.range n).filter fun i=>decide (0<wt os i)
def pair (os:List Int) (i:Nat):Int × Int:=((i:Int),(wt os i:Int))
theorem y1u (os:List Int) (n:Nat):raw os (n+1)=if 0<wt os n then raw os n++[n] else raw os n:=by
 unfold raw
 rw [List.range_succ,List.filter_append]
 by_cases h:0<wt os n<;>simp [h]
theorem x2t (os:List Int) (n i:Nat):i∈raw os n↔i<n∧0<wt os i:=by simp [raw]
theorem y3u (os:List Int) (n:Nat):(raw os n).Nodup:=List.Pairwise.filter _ List.nodup_range
theorem y5n (os:List Int) (n:Nat):(raw os n).length≤n:=by
 have:=List.length_filter_le (fun i=>decide (0<wt os i)) (List.range n)
 simpa [raw] using this
theorem y2q (x y:Int × Int):ltOf cf x y=decide (x.2<y.2∨x.2=y.2∧x.1<y.1):=by
 unfold ltOf cf Lib.compareInt
 by_cases h1:x.2<y.2
 ·simp [h1]
 ·by_cases h2:y.2<x.2
  ·have:¬x.2=y.2:=by omega
   simp [h1,h2,this]
  ·have e:x.2=y.2:=by omega
   by_cases h3:x.1<y.1
   ·simp [e,h3]
   ·by_cases h4:y.1<x.1<;>simp [e,h3,h4]
theorem w0t:SWO (ltOf cf) where
 irrefl x:=by rw [y2q];simp
 trans x y z h1 h2:=by rw [y2q] at *;simp only [decide_eq_true_eq] at *;omega
 ntrans x y z h1 h2:=by rw [y2q] at *;simp only [decide_eq_false_iff_not] at *;omega
theorem x4p (x y:Int × Int) (h1:ltOf cf x y=false) (h2:ltOf cf y x=false):x=y:=by
 rw [y2q] at h1 h2
 simp only [decide_eq_false_iff_not] at h1 h2
 apply Prod.ext<;>omega
theorem y9h (os:List Int):∃l,IsOrder os l∧l.length=(raw os os.length).length∧(((raw os os.length).map (pair os)).mergeSort fun x y=>!(ltOf cf) y x)=l.map (pair os):=by
 obtain ⟨d,hd⟩:∃d,d=(((raw os os.length).map (pair os)).mergeSort fun x y=>!(ltOf cf) y x):=⟨_,rfl⟩
 have hp:d.Perm ((raw os os.length).map (pair os)):=by rw [hd];exact List.mergeSort_perm _ _
 have hs:d.Pairwise fun x y=>(!(ltOf cf) y x)=true:=by
  rw [hd]
  refine List.pairwise_mergeSort (fun a b c h1 h2=>?_) (fun a b=>?_) _
  ·simp only [Bool.not_eq_true',y2q,decide_eq_false_iff_not] at *;omega
  ·rw [y2q,y2q]
   by_cases h1:b.2<a.2∨b.2=a.2∧b.1<a.1
   ·have h2:¬ (a.2<b.2∨a.2=b.2∧a.1<b.1):=by omega
    simp [h1,h2]
   ·simp [h1]
 have hm:∀p∈d,∃i,i∈raw os os.length∧p=pair os i:=fun p h=>by
  have:=hp.mem_iff.1 h
  obtain ⟨i,hi,rfl⟩:=List.mem_map.1 this
  exact ⟨i,hi,rfl⟩
 have hd2:d=(d.map fun p=>p.1.toNat).map (pair os):=by
  rw [List.map_map]
  conv=>lhs;rw [←List.map_id d]
  refine List.map_congr_left fun p h=>?_
  obtain ⟨i,hi,rfl⟩:=hm p h
  simp [pair]
 rw [←hd]
 have hperm:(d.map fun p=>p.1.toNat).Perm (raw os os.length):=by
  have:=hp.map (fun p:Int × Int=>p.1.toNat)
  rw [List.map_map] at this
  have e:(raw os os.length).map ((fun p:Int × Int=>p.1.toNat)∘pair os)=raw os os.length:=by
   conv=>rhs;rw [←List.map_id (raw os os.length)]
   exact List.map_congr_left fun i _=>by simp [pair]
  rwa [e] at this
 refine ⟨d.map fun p=>p.1.toNat,⟨?_,fun i=>?_⟩,?_,hd2⟩
 ·have hnd:(d.map fun p=>p.1.toNat).Nodup:=hperm.nodup_iff.2 (y3u os _)
  have h2:((d.map fun p=>p.1.toNat).map (pair os)).Pairwise fun x y=>(!(ltOf cf) y x)=true:=by rw [←hd2];exact hs
  rw [List.pairwise_map] at h2
  have h3:=h2.and hnd
  refine h3.imp ?_
  rintro a b ⟨k1,k2⟩
  simp only [y2q,pair,Bool.not_eq_true',decide_eq_false_iff_not] at k1
  unfold Ahead
  omega
 ·rw [hperm.mem_iff,x2t]
 ·exact hperm.length_eq
end L5
namespace L5
open Go.RowKit Go.Sort Go.Lib
attribute [local go_sem ↓] wp_at_zero wp_at_succ
def crow (os:List Int) (l:List Nat):List Value:=(List.range (2*l.length)).map fun t=>if t%2=0 then iv (l.getD (t/2) 0:Nat) else iv (wt os (l.getD (t/2) 0):Nat)
theorem x0h (os:List Int) (l:List Nat) (i:Nat):crow os (l++[i])=crow os l++[iv (i:Nat),iv (wt os i:Nat)]:=by
 unfold crow
 rw [List.length_append,show 2*(l.length+[i].length)=2*l.length+1+1 by simp;omega,List.range_succ,List.range_succ,List.map_append,List.map_append,List.append_assoc]
 congr 1
 ·refine List.map_congr_left fun t ht=>?_
  simp at ht
  rw [List.getD_eq_getElem?_getD,List.getD_eq_getElem?_getD,List.getElem?_append_left (by omega)]
 ·simp [show (2*l.length+1)%2=1 by omega,show (2*l.length+1)/2=l.length by omega]
theorem x4t (os:List Int) (l:List Nat) (t:Nat) (h:t<2*l.length):(crow os l)[t]?=some (if t%2=0 then iv (l.getD (t/2) 0:Nat) else iv (wt os (l.getD (t/2) 0):Nat)):=by
 unfold crow
 rw [List.getElem?_map,List.getElem?_range h]
 rfl
def z3f (w:World) (v:Value) (os:List Int) (l:List Nat):Prop :=
 ∃a cap,v=.slice a l.length cap∧l.length≤cap∧(0<l.length→∃g off,a=some ⟨g,off,none⟩∧∀j,j<l.length→w.cell? ⟨g,off+j*2,none⟩=some (.int .i64 (l.getD j 0:Nat))∧w.cell? ⟨g,off+(j*2+1),none⟩=some (.int .i64 (wt os (l.getD j 0):Nat)))
theorem z3f.stays {w w1:World} (hb:Below w.heap.size w w1) {v:Value} {os:List Int} {l:List Nat} (h:z3f w v os l):z3f w1 v os l:=by
 obtain ⟨a,cap,rfl,hc,hs⟩:=h
 refine ⟨a,cap,rfl,hc,fun h0=>?_⟩
 obtain ⟨g,off,rfl,h2⟩:=hs h0
 exact ⟨g,off,rfl,fun j hj=>⟨z0c hb (h2 j hj).1,z0c hb (h2 j hj).2⟩⟩
theorem w1d:(Tryz.prog.info? 178).map (fun i=>(i.zero,i.size,i.bytes))=some (some (.agg #[.int .i64 0,.int .i64 0]),2,16):=by kernel_rfl
theorem flat_get (os:List Int) (l:List Nat) (t:Nat) (h:t<2*l.length):(flatK encC 2 (l.map (pair os)).toArray)[t]! = (if t%2=0 then iv (l.getD (t/2) 0:Nat) else iv (wt os (l.getD (t/2) 0):Nat)):=by
 rw [get_flatK _ _ _ _ (by simp;omega)]
 have h2:t/2<l.length:=by omega
 have e:(l.map (pair os)).toArray[t/2]! = pair os (l.getD (t/2) 0):=by
  rw [getElem!_pos _ _ (by simpa using h2)]
  simp [h2]
 rw [e]
 by_cases h3:t%2=0
 ·rw [if_pos h3,h3];rfl
 ·rw [if_neg h3,show t%2=1 by omega];rfl
theorem x0t {w:World} {base k g cap:Nat} {os:List Int} {l:List Nat} (h:w.ownsRow base 178 2 (.slice (some ⟨g,0,none⟩) k cap) k (crow os l)) (hk:k=l.length):HoldsK encC 2 w g 0 (l.map (pair os)).toArray:=by
 subst hk
 rcases h.2 with ⟨e,e'⟩|⟨g',cap',cur,e,hb,hh,hn,hc,hs,ht⟩
 ·cases e
 ·injection e with e1 e2 e3
  injection e1 with e1
  injection e1 with e1
  subst e1
  intro j hj
  have hj2:j<2*l.length:=by simp at hj;omega
  constructor
  ·have h2:(cur.toList.take (l.length*2))[j]?=(crow os l)[j]?:=by rw [ht]
   rw [List.getElem?_take,if_pos (by omega),x4t os l j hj2] at h2
   simp only [World.cell?,hh,Nat.zero_add]
   rw [flat_get os l j hj2]
   simpa using h2
  ·simp [World.frozen?,hh]
theorem y8a {w:World} {B g n:Nat} {d:Array (Int × Int)} {ob:Array Obj} (hB:B≤g) (hs:B≤w.heap.size):Below B w (sortWorldK encC 2 w g 0 n d ob):=by
 refine ⟨rfl,rfl,rfl,?_,fun k hk=>?_⟩
 ·exact size_sortWorldK_c encC 2 w g 0 n d ob
 ·unfold sortWorldK grow
  simp only
  rw [Array.getElem?_append_left (by rw [size_putRowK];exact Nat.lt_of_lt_of_le hk hs)]
  show (w.heap.modify g _)[k]?=w.heap[k]?
  rw [Array.getElem?_modify,if_neg (by omega)]
theorem y4u {w:World} {g k cap:Nat} {os:List Int} {l:List Nat} (h:HoldsK encC 2 w g 0 (l.map (pair os)).toArray) (hk:k=l.length) (hc:k≤cap):z3f w (.slice (some ⟨g,0,none⟩) k cap) os l:=by
 subst hk
 refine ⟨_,cap,rfl,hc,fun h0=>⟨g,0,rfl,fun j hj=>⟨?_,?_⟩⟩⟩
 ·have:=(h (j*2) (by simp;omega)).1
  rw [flat_get os l (j*2) (by omega),if_pos (by omega),show j*2/2=j by omega] at this
  exact this
 ·have:=(h (j*2+1) (by simp;omega)).1
  rw [flat_get os l (j*2+1) (by omega),if_neg (by omega),show (j*2+1)/2=j by omega] at this
  exact this
theorem y2a (os:List Int) (base k:Nat) (v:Value) (w:World) (h:w.ownsRow base 178 2 v k (crow os (raw os os.length))) (hk:k=(raw os os.length).length) (hn:k≤65536) :
  Calls Tryz.prog 145 #[v,.func (.func 146) #[] #[]] w fun e w'=>e=.returned (.tuple #[])∧∃l,IsOrder os l∧l.length=k∧z3f w' v os l∧(base≤w.heap.size→Below base w w'):=by
 obtain ⟨l,hl,hlen,hm⟩:=y9h os
 by_cases h0:k=0
 ·have hl0:l=[]:=List.length_eq_zero_iff.1 (by omega)
  obtain ⟨a,c,rfl⟩:∃a c,v=.slice a 0 c:=by
   rcases h.2 with ⟨e,e'⟩|⟨g',cap',cur,e,_⟩
   ·exact ⟨none,0,e⟩
   ·exact ⟨_,cap',by rw [e,h0]⟩
  have hcon:=AnyF.slices_SortFunc_none (P:=Tryz.prog) (ρ:=Tryz.sortCome_ren) Tryz.sortCome a c (.func (.func 146) #[] #[]) w
  refine Calls.mono (f:=145) hcon fun e w' ⟨he,hw⟩=>⟨he,l,hl,by omega,⟨a,c,by rw [hl0];rfl,by rw [hl0];exact Nat.zero_le _,fun h=>by rw [hl0] at h;cases h⟩,fun _=>by rw [hw];exact Below.refl _ _⟩
 ·obtain ⟨g,cap,cur,rfl,hb,hh,hcap⟩:∃g cap cur,v=.slice (some ⟨g,0,none⟩) k cap∧base≤g∧w.heap[g]?=some (.cells cur 178 (0,0))∧k≤cap:=by
   rcases h.2 with ⟨e,e'⟩|⟨g',cap',cur,e,hb,hh,hn,_⟩
   ·omega
   ·exact ⟨g',cap',cur,e,hb,hh,hn⟩
  have hH:=x0t h hk
  have eg:∀args w,(callFunc 146 args).run Tryz.prog w=.ok (.enter 146 args) w:=enters_of Tryz.func146 (by kernel_rfl) rfl
  have hcon:=AnyQ.slices_SortFunc_total (P:=Tryz.prog) (ρ:=Tryz.sortCome_ren) Tryz.sortCome 2 Tryz.isAgg178 Tryz.sizeOf178 encC (fun _=>rfl) (fun x v hv=>by simp [encC] at hv;rcases hv with rfl|rfl<;>rfl) cf w0t 146 #[] g 0 cap ((raw os os.length).map (pair os)).toArray w eg
   (fun _ _ _ _ x y=>x0e x y _) hH (z0d hh) (by simp;omega) x4p
  have hsz:((raw os os.length).map (pair os)).toArray.size=k:=by simp [hk]
  rw [hsz] at hcon
  refine Calls.mono (f:=145) hcon fun e w' ⟨he,n,ob,hw⟩=>⟨he,l,hl,by omega,?_,fun hs=>by rw [hw];exact y8a hb hs⟩
  have e2:(((raw os os.length).map (pair os)).toArray.toList.mergeSort fun x y=>!(ltOf cf) y x).toArray=(l.map (pair os)).toArray:=by rw [←hm]
  rw [e2] at hw
  rw [hw]
  exact y4u (holdsK_sortWorldK_c encC 2 w g 0 _ _ n ob hH (z0d hh) (by simp [hlen])) (by omega) hcap
end L5
namespace L5
open Go.RowKit
attribute [local go_sem ↓] wp_at_zero wp_at_succ
def z0f (os:List Int) (l:List Nat):List Nat:=l.map (wt os)
theorem z1e (os:List Int) (l:List Nat):(z0f os l).length=l.length:=by simp [z0f]
theorem y9s (os:List Int) (l:List Nat) (i:Nat) (h:i<l.length):(z0f os l).getD i 0=wt os (l.getD i 0):=by simp [z0f,h]
theorem w1e:(Tryz.prog.info? 200).map (fun i=>(i.zero,i.size,i.bytes))=some (some (.agg #[.slice none 0 0,.slice none 0 0]),2,48):=by kernel_rfl
theorem y5p (w:World) (n:Nat) (hn:n≤65536):(Instr.makeSlice 180 (.int .i64 (n:Int)) (.int .i64 (n:Int))).run Tryz.prog w=.ok (.slice (some ⟨w.heap.size,0,none⟩) n n) (w.alloc (.cells (madeCells #[.slice none 0 0,.slice none 0 0] (n*2)) 200)):=by
 obtain ⟨i0,hi,hz0,hz1,hz2⟩:=info_parts w1e
 have:=run_make (P:=Tryz.prog) w 180 200 i0 _ Tryz.underlying180 hi hz0 .i64 .i64 (n:Int) (n:Int) (by omega) (by omega) (by rw [hz2];omega) (by omega)
 rw [hz1] at this
 exact this
structure RoundsAt (w:World) (g M:Nat) (wl:List Nat) (k:Nat):Prop where
 row:∃cur:Array Value,w.heap[g]?=some (.cells cur 200 (0,0))∧cur.size=M*2
 got:∀j,j<k→∃v1 v2,w.cell? ⟨g,j*2,none⟩=some v1∧w.cell? ⟨g,j*2+1,none⟩=some v2∧z1c (g+1) w v2 (ints (Merge.ahd wl (Merge.bk wl j)))∧∃a l c,v1=.slice a l c
theorem RoundsAt.cell {w:World} {g M:Nat} {wl:List Nat} {k:Nat} (h:RoundsAt w g M wl k) (j:Nat) (hj:j<M*2):(∃y,w.cell? ⟨g,j,none⟩=some y)∧w.frozen? ⟨g,j,none⟩=false:=by
 obtain ⟨cur,hh,hs⟩:=h.row
 refine ⟨⟨cur[j],?_⟩,by simp [World.frozen?,hh]⟩
 simp only [World.cell?,hh]
 simp [show j<cur.size by omega]
theorem z1c.stays {lo:Nat} {w w1:World} (hb:Below w.heap.size w w1) {v:Value} {zs:List Int} (h:z1c lo w v zs):z1c lo w1 v zs:=by
 obtain ⟨a,cap,rfl,hs⟩:=h
 refine ⟨a,cap,rfl,fun h0=>?_⟩
 obtain ⟨b,off,rfl,h1,h2⟩:=hs h0
 exact ⟨b,off,rfl,h1,fun j hj=>z0c hb (h2 j hj)⟩
theorem z1c.other {g:Nat} {w:World} {v:Value} {zs:List Int} (h:z1c (g+1) w v zs) (o:Nat) (x:Value):z1c (g+1) (w.setCell ⟨g,o,none⟩ x) v zs:=by
 obtain ⟨a,cap,rfl,hs⟩:=h
 refine ⟨a,cap,rfl,fun h0=>?_⟩
 obtain ⟨b,off,rfl,h1,h2⟩:=hs h0
 refine ⟨b,off,rfl,h1,fun j hj=>?_⟩
 rw [World.cell?_of_block (w:=w) (heap_setCell_other _ _ _ _ (by show b≠g;omega))]
 exact h2 j hj
theorem z1c.more {lo lo':Nat} {w:World} {v:Value} {zs:List Int} (h:z1c lo w v zs) (hl:lo'≤lo):z1c lo' w v zs:=by
 obtain ⟨a,cap,rfl,hs⟩:=h
 exact ⟨a,cap,rfl,fun h0=>by obtain ⟨b,off,e,h1,h2⟩:=hs h0;exact ⟨b,off,e,by omega,h2⟩⟩
theorem RoundsAt.stays {w w1:World} {g M:Nat} {wl:List Nat} {k:Nat} (h:RoundsAt w g M wl k) (hb:Below w.heap.size w w1):RoundsAt w1 g M wl k:=by
 obtain ⟨cur,hh,hs⟩:=h.row
 refine ⟨⟨cur,by rw [hb.block g (z0d hh)];exact hh,hs⟩,fun j hj=>?_⟩
 obtain ⟨v1,v2,h1,h2,h3,h4⟩:=h.got j hj
 exact ⟨v1,v2,z0c hb h1,z0c hb h2,h3.stays hb,h4⟩
theorem RoundsAt.set {w:World} {g M:Nat} {wl:List Nat} {k:Nat} (h:RoundsAt w g M wl k) (hk:k<M) {v1 v2:Value} (h2:z1c (g+1) w v2 (ints (Merge.ahd wl (Merge.bk wl k)))) (hv:∃a l c,v1=.slice a l c) :
  RoundsAt ((w.setCell ⟨g,k*2,none⟩ v1).setCell ⟨g,k*2+1,none⟩ v2) g M wl (k+1):=by
 obtain ⟨cur,hh,hs⟩:=h.row
 have e1:=heap_setCell_same w g (k*2) cur 200 v1 hh
 have e2:=heap_setCell_same _ g (k*2+1) _ 200 v2 e1
 refine ⟨⟨_,e2,by simpa using hs⟩,fun j hj=>?_⟩
 by_cases e:j=k
 ·subst e
  refine ⟨v1,v2,?_,?_,(h2.other _ _).other _ _,hv⟩
  ·simp only [World.cell?,e2]
   simp [show j*2<cur.size by omega]
  ·simp only [World.cell?,e2]
   simp [show j*2+1<cur.size by omega]
 ·obtain ⟨u1,u2,k1,k2,k3,k4⟩:=h.got j (by omega)
  refine ⟨u1,u2,?_,?_,(k3.other _ _).other _ _,k4⟩
  ·rw [World.cell?_setCell_other (h:=by intro e;injection e with e1 e2;omega),World.cell?_setCell_other (h:=by intro e;injection e with e1 e2;omega)];exact k1
  ·rw [World.cell?_setCell_other (h:=by intro e;injection e with e1 e2;omega),World.cell?_setCell_other (h:=by intro e;injection e with e1 e2;omega)];exact k2
theorem RoundsAt.made (w:World) (M:Nat) (wl:List Nat):RoundsAt (w.alloc (.cells (madeCells #[.slice none 0 0,.slice none 0 0] (M*2)) 200)) w.heap.size M wl 0 :=
 ⟨⟨_,heap_alloc_new _ _,by simp [madeCells]⟩,fun j hj=>absurd hj (Nat.not_lt_zero _)⟩
structure PlayAt (w ws:World) (gw g M:Nat) (wl:List Nat) (pv:Value) (k:Nat):Prop where
 wor:z0a ws .i64 3 gw wl.length (fun i=>wl.getD i 0)
 rds:RoundsAt ws g M wl k
 pks:z0q ws pv (ints (Merge.bk wl k))
 lo:w.heap.size≤gw
 ne:gw<g
 bel:Below w.heap.size w ws
theorem PlayAt.next {w ws w1:World} {gw g M:Nat} {wl:List Nat} {pv v1 v2:Value} {k:Nat} (h:PlayAt w ws gw g M wl pv k) (hk:k<M) (hb:Below ws.heap.size ws w1)
  (h1:z1c (ws.heap.size+1) w1 v1 (ints (Merge.mgd wl (Merge.bk wl k)))) (h2:z1c (ws.heap.size+1) w1 v2 (ints (Merge.ahd wl (Merge.bk wl k)))) :
  (∃y,w1.cell? ⟨g,k*2,none⟩=some y)∧(∃y,w1.cell? ⟨g,k*2+1,none⟩=some y)∧w1.frozen? ⟨g,k*2,none⟩=false∧w1.frozen? ⟨g,k*2+1,none⟩=false ∧
  z0q ((w1.setCell ⟨g,k*2,none⟩ v1).setCell ⟨g,k*2+1,none⟩ v2) v1 (ints (Merge.wr wl k)) ∧
  (∀w4 pv',Below ((w1.setCell ⟨g,k*2,none⟩ v1).setCell ⟨g,k*2+1,none⟩ v2).heap.size ((w1.setCell ⟨g,k*2,none⟩ v1).setCell ⟨g,k*2+1,none⟩ v2) w4→z0q w4 pv' (ints (Merge.z6t (Merge.wr wl k)))→PlayAt w w4 gw g M wl pv' (k+1)):=by
 obtain ⟨cur,hh,hs⟩:=h.rds.row
 have hg:g<ws.heap.size:=z0d hh
 have hr1:=h.rds.stays hb
 have c1:=hr1.cell (k*2) (by omega)
 have c2:=hr1.cell (k*2+1) (by omega)
 have hsz:=hb.size
 have hlo:=h.lo
 have hne:=h.ne
 refine ⟨c1.1,c2.1,c1.2,c2.2,(((h1.more (by omega)).other _ _).other _ _).reads,fun w4 pv' k1 k2=>?_⟩
 have hw:z0a w1 .i64 3 gw wl.length (fun i=>wl.getD i 0):=h.wor.stays hb h.wor.lt
 have hw2:z0a ((w1.setCell ⟨g,k*2,none⟩ v1).setCell ⟨g,k*2+1,none⟩ v2) .i64 3 gw wl.length (fun i=>wl.getD i 0):=(hw.other _ _ (by show gw≠g;omega)).other _ _ (by show gw≠g;omega)
 refine ⟨hw2.stays k1 hw2.lt,(hr1.set hk (h2.more (by omega)) (by obtain ⟨a,c,e,_⟩:=h1;exact ⟨a,_,c,e⟩)).stays k1,k2,hlo,hne,?_⟩
 have b1:Below w.heap.size w w1:=h.bel.trans (hb.mono h.bel.size)
 exact (b1.trans (((Below.refl _ _).setCell (by show w.heap.size≤g;omega) _).setCell (by show w.heap.size≤g;omega) _)).trans (k1.mono (by simpa using b1.size))
theorem x9o (os:List Int) (l:List Nat) (M:Nat) (v:Value) (w:World) (hc:z3f w v os l) (hl:l.length≤65536) (hM1:M≤20) (hb:∀k,k<20→∀x∈Merge.wr (z0f os l) k,x≤1152921504606846976) :
  Calls Tryz.prog 124 #[v,.int .i64 (M:Int)] w fun e w'=>∃g,e=.returned (.slice (some ⟨g,0,none⟩) M M)∧RoundsAt w' g M (z0f os l) M∧w.heap.size≤g∧Below w.heap.size w w':=by
 obtain ⟨a,cap,rfl,hcap,hsp⟩:=hc
 have HSP:=qz hsp
 have HB:=qz hb
 clear hsp hb
 obtain ⟨n,hn⟩:∃n,n=l.length:=⟨_,rfl⟩
 rw [←hn] at HSP hl hcap ⊢
 have HN:=qz hn
 clear hn
 have hmk:=z0e w n hl
 have hz:z0a (w.alloc (.cells (z0b .i64 n fun _=>0) 3)) .i64 3 w.heap.size n (fun _=>0):=heap_alloc_new _ _
 have hb0:Below w.heap.size w (w.alloc (.cells (z0b .i64 n fun _=>0) 3)):=(Below.refl _ _).alloc (Nat.le_refl _) _
 obtain ⟨W1,hW1⟩:∃W1,W1=w.alloc (.cells (z0b .i64 n fun _=>0) 3):=⟨_,rfl⟩
 rw [←hW1] at hmk hz hb0
 obtain ⟨g,hg⟩:∃g,g=w.heap.size:=⟨_,rfl⟩
 rw [←hg] at hmk hz
 have HG:=qz hg
 have HZ:=qz hz
 have HB0:=qz hb0
 clear hW1 hz hb0 hg
 go_enter Tryz.func124,Tryz.ntmps124
 go_wp2_with fail
 go_loopg [16] n (fun gk d ws=>∃ (k:Nat) (C:Nat→Nat),gk=n-k∧k≤n∧d=.int .i64 (k:Int)∧z0a ws .i64 3 g n C∧(∀i,i<k→C i=(z0f os l).getD i 0)∧Below w.heap.size w ws)
 case atStart=>exact ⟨0,_,by omega,by omega,rfl,uh HZ,fun i h=>by omega,uh HB0⟩
 case round =>
  obtain ⟨k,C,rfl,hk,rfl,hat,hC,hbel⟩:=hrel
  clear hmk HZ HB0
  by_cases hlt:k<n
  ·obtain ⟨b,off,rfl,hcell⟩:=uh HSP (by omega)
   have k1:=z0c hbel (hcell k hlt).1
   have k2:=z0c hbel (hcell k hlt).2
   obtain ⟨s,hs⟩:∃s,s=l.getD k 0:=⟨_,rfl⟩
   obtain ⟨t,ht⟩:∃t,t=wt os (l.getD k 0):=⟨_,rfl⟩
   rw [←hs] at k1
   rw [←ht,←Nat.add_assoc] at k2
   have hki:(k:Int)<(n:Int):=by omega
   have HX:Hid (∀o:Obj,z0a ((wr.setCell ⟨g,k,none⟩ (.int .i64 (t:Int))).alloc o) .i64 3 g n (upd C k t)∧Below w.heap.size w ((wr.setCell ⟨g,k,none⟩ (.int .i64 (t:Int))).alloc o)):=qz fun o =>
    ⟨(hat.set k t).alloc o,(hbel.trans ((Below.refl _ _).setCell (by show w.heap.size≤g;exact Nat.le_of_eq (uh HG).symm) _)).trans ((Below.refl _ _).alloc (by simpa using hbel.size) _)⟩
   have HC:Hid (∀i,i<k+1→upd C k t i=(z0f os l).getD i 0):=qz fun i hi=>by
    unfold upd
    by_cases e:i=k
    ·rw [if_pos e,e,y9s os l k (by rw [←uh HN];exact hlt),ht]
    ·rw [if_neg e];exact hC i (by omega)
   have k3:=hat.cell k hlt
   have k4:=hat.free k
   have hgl:g<wr.heap.size:=hat.lt
   clear hcell hat hC hbel hs ht
   go_wp2_with fail
   go_roundg (n-(k+1))
   case measure=>omega
   case rel =>
    exact ⟨k+1,_,rfl,by omega,by go_num,(uh HX _).1,uh HC,(uh HX _).2⟩
  ·obtain rfl:k=n:=by omega
   have hat':z0a wr .i64 3 g (z0f os l).length (fun i=>(z0f os l).getD i 0):=by
    rw [z1e,←uh HN]
    exact hat.congr hC
   have HW:=qz hat'
   have HBEL:=qz hbel
   have hgl:g<wr.heap.size:=hat.lt
   have hki:¬ (k:Int)<(k:Int):=by omega
   clear hat hC hbel hat'
   have hmk2:=y5p wr M (by omega)
   have HP0:Hid (PlayAt w (wr.alloc (.cells (madeCells #[.slice none 0 0,.slice none 0 0] (M*2)) 200)) g wr.heap.size M (z0f os l) (.slice none 0 0) 0) :=
    qz ⟨(uh HW).alloc _,RoundsAt.made wr M _,⟨none,0,rfl,fun h=>by simp [ints,Merge.bk] at h⟩,Nat.le_of_eq (uh HG).symm,hgl,(uh HBEL).trans ((Below.refl _ _).alloc (uh HBEL).size _)⟩
   obtain ⟨W2,hW2⟩:∃W2,W2=wr.alloc (.cells (madeCells #[.slice none 0 0,.slice none 0 0] (M*2)) 200):=⟨_,rfl⟩
   obtain ⟨gr,hgr⟩:∃gr,gr=wr.heap.size:=⟨_,rfl⟩
   rw [←hW2,←hgr] at hmk2 HP0
   have HLO:Hid (w.heap.size≤gr):=qz (by rw [hgr];exact (uh HBEL).size)
   clear hW2 hgr HW HBEL hgl
   go_wp2_with fail
   clear hmk2
   go_loopg [9,31] M (fun gk pv d ws=>∃ (i:Nat) (pv0:Value),gk=M-i∧i≤M∧pv0=pv∧d=.int .i64 (i:Int)∧PlayAt w ws g gr M (z0f os l) pv0 i)
   case atStart=>exact ⟨0,_,by omega,by omega,rfl,rfl,uh HP0⟩
   case round =>
    obtain ⟨i,pv0,rfl,hi,rfl,rfl,hat⟩:=hrel
    clear HP0
    by_cases hlt:i<M
    ·have hii:(i:Int)<(M:Int):=by omega
     have HAT:=qz hat
     have HRW:Hid (z0q wr (.slice (some ⟨g,0,none⟩) k k) (ints (z0f os l))):=qz (hat.wor.reads rfl (fun _ _=>rfl) |> fun h=>by rw [z1e,←uh HN] at h;exact h)
     have HWL:Hid ((z0f os l).length≤65536):=qz (by rw [z1e,←uh HN];exact hl)
     clear hat
     go_wp2_with (first|(go_at_call 149;go_must (refine (x5s (z0f os l) (Merge.bk (z0f os l) i) _ _ _ (uh HRW) (uh HAT).pks (uh HWL) (Nat.le_trans (Merge.z4v _ _) (uh HWL))).mono ?_;rintro e w1 ⟨v1,v2,rfl,h1,h2,h3⟩;obtain ⟨f1,f2,f3,f4,f5,f6⟩:=(uh HAT).next hlt h3 h1 h2;obtain ⟨a1,c1,rfl,_⟩:=h1;obtain ⟨a2,c2,rfl,_⟩:=h2;obtain ⟨y1,f1⟩:=f1;obtain ⟨y2,f2⟩:=f2;have F5:=qz f5;have F6:=qz f6;clear h3 f5 f6))|(go_at_call 151;go_must (refine (x9m (Merge.wr (z0f os l) i) _ _ (uh F5) (by rw [Merge.z2p];have:=uh HWL;have:=Merge.z4v (z0f os l) i;omega) (uh HB i (by omega))).mono ?_;rintro e w4 ⟨pv',rfl,h1,h2⟩;have HNX:=qz (uh F6 _ _ h2 h1);clear h1 h2)))
     go_roundg (M-(i+1))
     case measure=>omega
     case rel=>exact ⟨i+1,_,rfl,by omega,rfl,by go_num,uh HNX⟩
    ·obtain rfl:i=M:=by omega
     have HE:=qz hat
     clear hat
     go_wp2_with fail
     go_ret
     exact ⟨gr,rfl,(uh HE).rds,uh HLO,(uh HE).bel⟩
end L5
namespace L5
open Go.RowKit Go.Shelf
attribute [local go_sem] Oper.semAt_some
structure BackR (Bs gr M:Nat) (v1 v2:Nat→Value) (W:World):Prop where
 box:W.cell? ⟨Bs,0,none⟩=some (.slice (some ⟨gr,0,none⟩) M M)
 one:∀j,j<M→W.cell? ⟨gr,j*2,none⟩=some (v1 j)
 two:∀j,j<M→W.cell? ⟨gr,j*2+1,none⟩=some (v2 j)
def encB (M:Nat) (v1 v2:Nat→Value) (k:Nat):Array Value:=#[.int .i64 ((M-1-k:Nat):Int),.agg #[v1 (M-1-k),v2 (M-1-k)]]
theorem x4g (F:Fence) (m:Nat) (h30:F.fn 166) (hro:F.round=none) (hm:1≤m) (l Bs gr M:Nat) (hM:M≤20) (v1 v2:Nat→Value) (J:Nat→World→Prop) (hJ:∀k W,J k W→BackR Bs gr M v1 v2 W)
  (hY:∀k W,k<M→J k W→YieldAt F (m-1) Tryz.prog l (encB M v1 v2 k) W fun e W'=>e=.returned (.bool true)∧J (k+1) W') (W:World) (h0:J 0 W) :
  CallsIn F m Tryz.prog 166 #[.func (.yield l) #[] #[],.pointer (some ⟨Bs,0,none⟩)] W fun e W'=>(∃v,e=.returned v)∧J M W':=by
 have hb0:=(hJ 0 W h0).box
 refine callsIn_of_wp Tryz.func166 rfl h30 ?_ hro
 simp only [Tryz.ntmps166,List.size_toArray,List.length_cons,List.length_nil,Nat.reduceAdd,Nat.reduceSub,Array.replicate_succ,Array.replicate_zero,List.push_toArray,List.append_toArray,List.nil_append,List.cons_append]
 gi_wp2
 gi_loopw [3] (fun i wr=>∃k:Nat,k≤M∧i=.int .i64 ((M:Int)-1-(k:Int))∧J k wr) (fun i _=>(intOf i+1).toNat)
 case atStart=>exact ⟨0,Nat.zero_le _,by simp,h0⟩
 case round =>
  obtain ⟨k,hk,rfl,hJs⟩:=hrel
  by_cases hlt:k<M
  ·obtain ⟨j,hj⟩:∃j:Nat,j=M-1-k:=⟨_,rfl⟩
   have e:(M:Int)-1-(k:Int)=(j:Int):=by omega
   have hR:=hJ k wr hJs
   have c0:=hR.box
   have c1:=hR.one j (by omega)
   have c2:=hR.two j (by omega)
   obtain ⟨fn,tmps,assign,body,hy,hRd⟩:=hY k wr hlt hJs
   unfold encB at hy
   rw [←hj] at hy
   have hjM:(j:Int)<(M:Int):=by omega
   have hj0:(0:Int)≤(j:Int):=by omega
   rw [e]
   have HE:=qz e
   clear hR hj e
   gi_wp2
   refine hRd.mono ?_
   rintro e W3 ⟨rfl,hJ3⟩
   gi_wp2
   go_roundw
   case rel=>exact ⟨k+1,by omega,by have:=uh HE;congr 1;omega,hJ3⟩
   case measure=>have:=uh HE;simp [intOf];try omega
  ·obtain rfl:k=M:=by omega
   have e:(k:Int)-1-(k:Int) = -1:=by omega
   rw [e]
   gi_wp2
   go_end0
   exact ⟨⟨_,rfl⟩,hJs⟩
theorem x8p (F:Fence) (m:Nat) (h23:F.fn 148) (hro:F.round=none) (a:Option Addr) (len cap:Nat) (w:World) :
  CallsIn F m Tryz.prog 148 #[.slice a len cap] w fun e w'=>e=.returned (.func (.func 166) #[] #[.pointer (some ⟨w.heap.size,0,none⟩)])∧w'=w.alloc (.cells #[.slice a len cap] 180):=by
 refine callsIn_of_wp Tryz.func148 rfl h23 ?_ hro
 simp only [Tryz.ntmps148,List.size_toArray,List.length_cons,List.length_nil,Nat.reduceAdd,Nat.reduceSub,Array.replicate_succ,Array.replicate_zero,List.push_toArray,List.append_toArray,List.nil_append,List.cons_append]
 gi_wp2
 go_ret
 exact ⟨rfl,rfl⟩
end L5
namespace L5.Merge
def tk (wl:List Nat) (M T:Nat):Nat→Nat
 | 0=>T
 | k+1=>2*(tk wl M T k-alone wl (M-1-k) (tk wl M T k))
def al (wl:List Nat) (M T k:Nat):Nat:=alone wl (M-1-k) (tk wl M T k)
def len (order wl:List Nat) (M T:Nat):Nat→Nat→Nat
 | 0,_=>0
 | k+1,i=>len order wl M T k i+(order.take (al wl M T k)).count i
theorem x7c (wl:List Nat) (M T:Nat) (hT:T≤(wr wl (M-1)).length):∀k,k<M→tk wl M T k≤(wr wl (M-1-k)).length
 | 0,_=>hT
 | k+1,h=>by
  have h1:=x7c wl M T hT k (by omega)
  have e:M-1-k=(M-1-(k+1))+1:=by omega
  rw [e] at h1
  have:=z9m wl (M-1-(k+1)) (tk wl M T k) h1
  rw [←e] at this
  exact this
theorem x1e (order wl:List Nat) (M T i:Nat):∀k,k<M→cnt order wl (M-1) T i=len order wl M T k i+cnt order wl (M-1-k) (tk wl M T k) i
 | 0,_=>by simp [len,tk]
 | k+1,h=>by
  rw [x1e order wl M T i k (by omega)]
  obtain ⟨q,hq⟩:∃q,M-1-k=q+1:=⟨M-1-k-1,by omega⟩
  have hq2:M-1-(k+1)=q:=by omega
  rw [hq2,len,al,hq,cnt,tk,hq]
  omega
theorem x9d (order wl:List Nat) (M T i:Nat) (hM:1≤M):len order wl M T M i=cnt order wl (M-1) T i:=by
 obtain ⟨q,rfl⟩:∃q,M=q+1:=⟨M-1,by omega⟩
 rw [x1e order wl (q+1) T i q (by omega),len,al]
 have e:q+1-1-q=0:=by omega
 rw [e,cnt]
theorem w2c (wl:List Nat) (M T k:Nat) (hT:T≤(wr wl (M-1)).length) (hk:k<M):al wl M T k≤wl.length∧al wl M T k≤tk wl M T k:=by
 have:=y6b wl (M-1-k) _ (x7c wl M T hT k hk)
 exact ⟨this.1,this.2.1⟩
theorem w0p (wl:List Nat) (M T k:Nat) (hT:T≤(wr wl (M-1)).length) (hk:k<M):(ahd wl (bk wl (M-1-k))).getD (tk wl M T k) 0=al wl M T k:=by
 have:=x7c wl M T hT k hk
 rw [z2p] at this
 exact x8n wl (bk wl (M-1-k)) _ this
theorem x8b (order wl:List Nat) (hd:order.Nodup) (M T i:Nat):∀k,len order wl M T k i≤k
 | 0=>by simp [len]
 | k+1=>by
  have h1:=x8b order wl hd M T i k
  have h2:=z5w hd (al wl M T k) i
  rw [len]
  omega
theorem x9e (w:Nat→Nat) (order:List Nat) (M:Nat) (hM:1≤M) (hn:order.length≤2^M) (i:Nat):len order (fs (z0h w order)) M (2*order.length-2) M i=out w order M i:=by
 rw [x9d order _ M _ i hM]
 unfold out
 refine x7u w order i (M-1) _ ?_
 rw [←(y4r (z0h w order) (M-1)).2,z0m]
 exact enough w order M hM hn
end L5.Merge
namespace L5
open Go.RowKit Go.Shelf
structure TakeW (os:List Int) (order:List Nat) (w:World) (gr gl M:Nat) (sa:Option Addr) (v1 v2:Nat→Value):Prop where
 sym:0<order.length→∃g off,sa=some ⟨g,off,none⟩∧g≠gl∧∀j,j<order.length→w.cell? ⟨g,off+j*2,none⟩=some (.int .i64 (order.getD j 0:Nat))∧w.cell? ⟨g,off+j*2+1,none⟩=some (.int .i64 (wt os (order.getD j 0):Nat))
 ne:gr≠gl
 one:∀j,j<M→w.cell? ⟨gr,j*2,none⟩=some (v1 j)
 two:∀j,j<M→w.cell? ⟨gr,j*2+1,none⟩=some (v2 j)
 sh:∀j,j<M→∃a l c,v1 j=.slice a l c
 ahd:∀j,j<M→∃b off cap,b≠gl∧v2 j=.slice (some ⟨b,off,none⟩) (Merge.ahd (z0f os order) (Merge.bk (z0f os order) j)).length cap ∧
  ∀i,i<(Merge.ahd (z0f os order) (Merge.bk (z0f os order) j)).length→w.cell? ⟨b,off+i,none⟩=some (.int .i64 ((Merge.ahd (z0f os order) (Merge.bk (z0f os order) j)).getD i 0:Nat))
structure TakeI (w:World) (gr gl M nn N T:Nat) (sa:Option Addr) (scap:Nat) (order wl:List Nat) (C:Nat→Nat) (t:Nat) (W:World):Prop where
 b0:W.heap[w.heap.size]?=some (.cells #[.slice sa N scap] 175 (0,0))
 b1:W.heap[w.heap.size+1]?=some (.cells #[.slice (some ⟨gl,0,none⟩) nn nn] 49 (0,0))
 b2:W.heap[w.heap.size+2]?=some (.cells #[.int .i64 (t:Int)] 3 (0,0))
 b3:W.heap[w.heap.size+3]?=some (.cells #[.slice (some ⟨gr,0,none⟩) M M] 180 (0,0))
 ln:z0a W .i64 3 gl nn C
 kp:∀x,x<w.heap.size→x≠gl→W.heap[x]?=w.heap[x]?
 st:W.os=w.os∧W.tape=w.tape∧W.output=w.output
section
variable {w:World} {gr gl M nn N T:Nat} {sa:Option Addr} {scap:Nat} {order wl:List Nat} {C:Nat→Nat} {t:Nat} {W W':World}
theorem TakeI.cell (h:TakeI w gr gl M nn N T sa scap order wl C t W) {p:Addr} {u:Value} (hp:w.cell? p=some u) (hne:p.block≠gl):W.cell? p=some u:=by
 rw [World.cell?_of_block (h.kp _ (cell_lt hp) hne)];exact hp
theorem TakeI.grown (h:TakeI w gr gl M nn N T sa scap order wl C t W) {row:Option Nat} (hg:W.grownBy W' row) (hr:∀r,row=some r→w.heap.size≤r∧∃o:Obj,W.heap[r]?=some o∧o.isCells=false):TakeI w gr gl M nn N T sa scap order wl C t W':=by
 have key:∀ (x:Nat) (cs:Array Value) (ty:TypeId) (f:Nat × Nat),W.heap[x]?=some (Obj.cells cs ty f)→W'.heap[x]?=W.heap[x]?:=fun x cs ty f hx=>by
  refine hg.block x (z0d hx) (fun e=>?_)
  obtain ⟨_,o,ho,hc⟩:=hr x e.symm
  rw [hx] at ho
  injection ho with ho
  subst ho
  simp [Obj.isCells] at hc
 have hs:w.heap.size<W.heap.size:=z0d h.b0
 exact ⟨by rw [key _ _ _ _ h.b0];exact h.b0,by rw [key _ _ _ _ h.b1];exact h.b1,by rw [key _ _ _ _ h.b2];exact h.b2,by rw [key _ _ _ _ h.b3];exact h.b3,by unfold z0a;rw [key _ _ _ _ h.ln];exact h.ln,
  fun x hx hne=>by rw [hg.block x (by omega) (fun e=>by have:=(hr x e.symm).1;omega)];exact h.kp x hx hne,⟨hg.os.trans h.st.1,hg.tape.trans h.st.2.1,hg.output.trans h.st.2.2⟩⟩
theorem TakeI.alloc (h:TakeI w gr gl M nn N T sa scap order wl C t W) (o:Obj):TakeI w gr gl M nn N T sa scap order wl C t (W.alloc o):=h.grown (World.grownBy_alloc W o none) (fun r e=>by cases e)
theorem TakeI.inc (h:TakeI w gr gl M nn N T sa scap order wl C t W) (hl:gl<w.heap.size) (i x:Nat):TakeI w gr gl M nn N T sa scap order wl (upd C i x) t (W.setCell ⟨gl,i,none⟩ (.int .i64 (x:Int))):=by
 have o:∀k,k≠gl→(W.setCell ⟨gl,i,none⟩ (.int .i64 (x:Int))).heap[k]?=W.heap[k]?:=fun k hk=>heap_setCell_other _ _ _ _ (by exact hk)
 exact ⟨by rw [o _ (by omega)];exact h.b0,by rw [o _ (by omega)];exact h.b1,by rw [o _ (by omega)];exact h.b2,by rw [o _ (by omega)];exact h.b3,h.ln.set i x,fun k hk hne=>by rw [o k hne];exact h.kp k hk hne,h.st⟩
theorem TakeI.taken (h:TakeI w gr gl M nn N T sa scap order wl C t W) (hl:gl<w.heap.size) (t':Nat):TakeI w gr gl M nn N T sa scap order wl C t' (W.setCell ⟨w.heap.size+2,0,none⟩ (.int .i64 (t':Int))):=by
 have o:∀k,k≠w.heap.size+2→(W.setCell ⟨w.heap.size+2,0,none⟩ (.int .i64 (t':Int))).heap[k]?=W.heap[k]?:=fun k hk=>heap_setCell_other _ _ _ _ (by exact hk)
 refine ⟨by rw [o _ (by omega)];exact h.b0,by rw [o _ (by omega)];exact h.b1,?_,by rw [o _ (by omega)];exact h.b3,by unfold z0a;rw [o _ (by omega)];exact h.ln,fun k hk hne=>by rw [o k (by omega)];exact h.kp k hk hne,h.st⟩
 rw [heap_setCell_same W (w.heap.size+2) 0 _ 3 _ h.b2];rfl
theorem TakeI.c0 (h:TakeI w gr gl M nn N T sa scap order wl C t W):W.cell? ⟨w.heap.size,0,none⟩=some (.slice sa N scap):=by simp [World.cell?,h.b0]
theorem TakeI.c1 (h:TakeI w gr gl M nn N T sa scap order wl C t W):W.cell? ⟨w.heap.size+1,0,none⟩=some (.slice (some ⟨gl,0,none⟩) nn nn):=by simp [World.cell?,h.b1]
theorem TakeI.c2 (h:TakeI w gr gl M nn N T sa scap order wl C t W):W.cell? ⟨w.heap.size+2,0,none⟩=some (.int .i64 (t:Int)):=by simp [World.cell?,h.b2]
theorem TakeI.f2 (h:TakeI w gr gl M nn N T sa scap order wl C t W):W.frozen? ⟨w.heap.size+2,0,none⟩=false:=by simp [World.frozen?,h.b2]
theorem TakeI.c3 (h:TakeI w gr gl M nn N T sa scap order wl C t W):W.cell? ⟨w.heap.size+3,0,none⟩=some (.slice (some ⟨gr,0,none⟩) M M):=by simp [World.cell?,h.b3]
theorem TakeI.back {os:List Int} {v1 v2:Nat→Value} (h:TakeI w gr gl M nn N T sa scap order wl C t W) (hw:TakeW os order w gr gl M sa v1 v2):BackR (w.heap.size+3) gr M v1 v2 W :=
 ⟨h.c3,fun j hj=>h.cell (hw.one j hj) hw.ne,fun j hj=>h.cell (hw.two j hj) hw.ne⟩
theorem TakeI.start {w:World} {gr gl M nn N T:Nat} {sa:Option Addr} {scap:Nat} {order wl:List Nat} (hl:z0a w .i64 3 gl nn (fun _=>0)) :
  TakeI w gr gl M nn N T sa scap order wl (fun _=>0) T ((((w.alloc (.cells #[.slice sa N scap] 175)).alloc (.cells #[.slice (some ⟨gl,0,none⟩) nn nn] 49)).alloc (.cells #[.int .i64 (T:Int)] 3)).alloc (.cells #[.slice (some ⟨gr,0,none⟩) M M] 180)):=by
 obtain ⟨A,hA⟩:∃A,A=w.alloc (.cells #[.slice sa N scap] 175):=⟨_,rfl⟩
 obtain ⟨B,hB⟩:∃B,B=A.alloc (.cells #[.slice (some ⟨gl,0,none⟩) nn nn] 49):=⟨_,rfl⟩
 obtain ⟨D,hD⟩:∃D,D=B.alloc (.cells #[.int .i64 (T:Int)] 3):=⟨_,rfl⟩
 have sA:A.heap.size=w.heap.size+1:=by rw [hA];simp
 have sB:B.heap.size=w.heap.size+2:=by rw [hB];simp [sA]
 have sD:D.heap.size=w.heap.size+3:=by rw [hD];simp [sB]
 rw [←hA,←hB,←hD]
 have kD:∀x o,x<D.heap.size→(D.alloc o).heap[x]?=D.heap[x]?:=fun x o hx=>Below.heap_alloc _ _ _ hx
 have kB:∀x,x<B.heap.size→D.heap[x]?=B.heap[x]?:=fun x hx=>by rw [hD];exact Below.heap_alloc _ _ _ hx
 have kA:∀x,x<A.heap.size→B.heap[x]?=A.heap[x]?:=fun x hx=>by rw [hB];exact Below.heap_alloc _ _ _ hx
 have kw:∀x,x<w.heap.size→A.heap[x]?=w.heap[x]?:=fun x hx=>by rw [hA];exact Below.heap_alloc _ _ _ hx
 have all:∀x o,x<w.heap.size→(D.alloc o).heap[x]?=w.heap[x]?:=fun x o hx=>by rw [kD x o (by omega),kB x (by omega),kA x (by omega),kw x hx]
 refine ⟨?_,?_,?_,?_,?_,fun x hx _=>all x _ hx,⟨by rw [hD,hB,hA];rfl,by rw [hD,hB,hA];rfl,by rw [hD,hB,hA];rfl⟩⟩
 ·rw [kD _ _ (by omega),kB _ (by omega),kA _ (by omega),hA];exact heap_alloc_new _ _
 ·rw [kD _ _ (by omega),kB _ (by omega),hB,←sA];exact heap_alloc_new _ _
 ·rw [kD _ _ (by omega),hD,←sB];exact heap_alloc_new _ _
 ·rw [←sD];exact heap_alloc_new _ _
 ·unfold z0a;rw [all _ _ hl.lt];exact hl
end
end L5
namespace L5
open Go.RowKit Go.Shelf
attribute [local go_sem] Oper.semAt_some
theorem x9z (F:Fence) (n:Nat) (h16:F.fn 123) (h23:F.fn 148) (h30:F.fn 166) (hro:F.round=none) (hn:4≤n) (os:List Int) (order:List Nat) (gr gl M nn N T:Nat) (sa:Option Addr) (scap:Nat) (v1 v2:Nat→Value) (w:World) (hM:M≤20) (hM1:1≤M) (hN:N≤65536) (hNo:N=order.length) (hsc:N≤scap) (hT:T=2*N-2)
  (hw:TakeW os order w gr gl M sa v1 v2) (hl:z0a w .i64 3 gl nn (fun _=>0)) (ho:∀i∈order,i<nn) (hTl:T≤(Merge.wr (z0f os order) (M-1)).length) (hnd:order.Nodup) :
  CallsIn F n Tryz.prog 123 #[.slice (some ⟨gr,0,none⟩) M M,.slice sa N scap,.slice (some ⟨gl,0,none⟩) nn nn] w fun e w'=>e=.returned (.tuple #[])∧z0a w' .i64 3 gl nn (Merge.len order (z0f os order) M T M)∧(∀x,x<w.heap.size→x≠gl→w'.heap[x]?=w.heap[x]?)∧w.heap.size≤w'.heap.size∧w'.os=w.os∧w'.tape=w.tape∧w'.output=w.output:=by
 have h1:1≤n:=by omega
 have hmax:max (0:Int) (2*(N:Int)-2)=(T:Int):=by omega
 have hw1:IntKind.i64.wrap (2*(N:Int))=2*(N:Int):=IntWalk.i64_in _ (by omega)
 have hw2:IntKind.i64.wrap (2*(N:Int)-2)=2*(N:Int)-2:=IntWalk.i64_in _ (by omega)
 have hgl:gl<w.heap.size:=hl.lt
 have HNO:=qz hNo
 have HT:=qz hT
 clear hT hNo
 refine callsIn_of_wp_marks Tryz.func123 rfl h16 ?_ hro
 simp only [Tryz.ntmps123,List.size_toArray,List.length_cons,List.length_nil,Nat.reduceAdd,Nat.reduceSub,Array.replicate_succ,Array.replicate_zero,List.push_toArray,List.append_toArray,List.nil_append,List.cons_append]
 gi_wp2_with (gi_at_call 148;refine (x8p F (n-1) h23 hro _ _ _ _).mono ?_;rintro e w' ⟨rfl,rfl⟩)
 refine x2r hro h1 (gf:=166) (lb:=#[.pointer (some ⟨w.heap.size+1+1+1,0,none⟩)]) rfl h30 (enters_of Tryz.func166 (by kernel_rfl) rfl) (encB M v1 v2) M (fun _=>rfl)
  (fun k W=>TakeI w gr gl M nn N T sa scap order (z0f os order) (Merge.len order (z0f os order) M T k) (Merge.tk (z0f os order) M T k) W)
  (fun k W W' row h hg hr=>h.grown hg (fun r e=>⟨by have:=(hr r e).1;simp at this;omega,(hr r e).2⟩))
  (by rw [show Merge.len order (z0f os order) M T 0=fun _=>0 from funext fun _=>rfl];exact TakeI.start hl)
  (fun l J W hJ h0 hY=>x4g F (n-1) h30 hro (by omega) l (w.heap.size+3) gr M hM v1 v2 J (fun k W h=>(hJ k W h).back hw) hY W h0)
  (fun k a' W=>∃Bx,W.heap[Bx]?=some (.cells #[v1 (M-1-k),v2 (M-1-k)] 200 (0,0))∧a'={ tmps:=#[.slice (some ⟨gr,0,none⟩) M M,.slice sa N scap,.slice (some ⟨gl,0,none⟩) nn nn,undef,.pointer (some ⟨w.heap.size,0,none⟩),.pointer (some ⟨w.heap.size+1,0,none⟩),.pointer (some ⟨w.heap.size+1+1,0,none⟩),undef,.pointer (some ⟨Bx,0,none⟩),undef,undef,undef,
   .slice sa N scap,.int .i64 (N:Int),.int .i64 (2*(N:Int)),.int .i64 (2*(N:Int)-2),.int .i64 (T:Int),.slice (some ⟨gr,0,none⟩) M M,.func (.func 166) #[] #[.pointer (some ⟨w.heap.size+1+1+1,0,none⟩)],.int .i64 ((M-1-k:Nat):Int),.agg #[v1 (M-1-k),v2 (M-1-k)],undef,undef,undef,undef,undef,undef,undef,undef,undef,undef,undef,undef,undef,undef,undef,undef,undef,undef,undef,undef,undef,undef,undef,undef,undef],defers:=[] })
  (fun k a' _ W W' row h hg hr=>by
   obtain ⟨Bx,hb,e⟩:=h
   refine ⟨Bx,?_,e⟩
   rw [hg.block Bx (z0d hb) (fun e'=>by
    obtain ⟨_,o,ho',hc⟩:=hr Bx e'.symm
    rw [hb] at ho'
    injection ho' with ho'
    subst ho'
    simp [Obj.isCells] at hc)]
   exact hb) ?assign ?body ?done
 case assign =>
  intro l k W K hk hi hK
  obtain ⟨x1,x2,x3,e1⟩:=hw.sh (M-1-k) (by omega)
  obtain ⟨y1,y2,y3,_,e2,_⟩:=hw.ahd (M-1-k) (by omega)
  have HK:=qz hK
  have HI:=qz hi
  clear hK hi
  simp only [encB]
  rw [e1,e2] at HK ⊢
  gi_wp2
  exact uh HK _ _ (KeepsOthers.alloc _ _) ((uh HI).alloc _) ⟨W.heap.size,heap_alloc_new _ _,rfl⟩
 case body =>
  rintro l k a' W hk hi ⟨Bx,hb,rfl⟩
  obtain ⟨y1,y2,y3,hy,e2,hcell⟩:=hw.ahd (M-1-k) (by omega)
  obtain ⟨A,hA⟩:∃A,A=Merge.al (z0f os order) M T k:=⟨_,rfl⟩
  have hAl:=Merge.w2c (z0f os order) M T k hTl hk
  have hAg:=Merge.w0p (z0f os order) M T k hTl hk
  have hlen2:∀i,Merge.len order (z0f os order) M T (k+1) i=Merge.len order (z0f os order) M T k i+(order.take A).count i:=fun i=>by rw [hA];rfl
  have htk2:Merge.tk (z0f os order) M T (k+1)=2*(Merge.tk (z0f os order) M T k-A):=by rw [hA];rfl
  have htl:=Merge.x7c (z0f os order) M T hTl k hk
  have hle2:=Merge.x8b order (z0f os order) hnd M T
  rw [Merge.z2p,z1e,←uh HNO] at htl
  have hbl:=Merge.z4v (z0f os order) (M-1-k)
  rw [z1e,←uh HNO] at hbl
  rw [←hA] at hAl hAg
  rw [z1e,←uh HNO] at hAl
  obtain ⟨t,ht⟩:∃t,t=Merge.tk (z0f os order) M T k:=⟨_,rfl⟩
  rw [←ht] at hi hAl hAg htk2 htl
  obtain ⟨L,hL⟩:∃L,L=(Merge.ahd (z0f os order) (Merge.bk (z0f os order) (M-1-k))).length:=⟨_,rfl⟩
  have hL2:t<L:=by rw [hL,Merge.z4b,z1e,←uh HNO];omega
  have ka:=hi.cell (hcell t (by rw [←hL];exact hL2)) hy
  rw [hAg] at ka
  rw [←hL] at e2
  have cb:W.cell? ⟨Bx,1,none⟩=some (.slice (some ⟨y1,y2,none⟩) L y3):=by simp only [World.cell?,hb];rw [e2];rfl
  have c0:=hi.c0
  have c2:=hi.c2
  have hA1:(A:Int)≤(N:Int):=by omega
  have hA2:(A:Int)≤(scap:Int):=by omega
  have hA3:A≤scap:=by omega
  have htL:(t:Int)<(L:Int):=by omega
  have HI:=qz hi
  have HLEN:=qz hlen2
  have HTK:=qz htk2
  have HLE:=qz hle2
  have hsm:t≤131072:=by omega
  have hAt:=hAl.2
  have hAN:=hAl.1
  clear hi hlen2 htk2 hle2 hcell hAg hAl htl hbl hA ht hL e2 hL2 hb
  have HSY:=qz hw.sym
  have HNN:=qz ho
  clear hw hl ho hTl hnd hmax hw1 hw2
  cases sa with
  | none =>
   gi_wp2
   gi_loopw [30] (fun d ws=>∃ (q:Nat) (C:Nat→Nat),q≤A∧d=.int .i64 (q:Int)∧TakeI w gr gl M nn N T none scap order (z0f os order) C t ws∧(∀i,C i=Merge.len order (z0f os order) M T k i+(order.take q).count i)∧KeepsOthers W ws) (fun d _=>A-(intOf d).toNat)
   case atStart=>exact ⟨0,_,Nat.zero_le _,rfl,uh HI,fun i=>by simp,KeepsOthers.refl _⟩
   case round =>
    obtain ⟨q,C,hq,rfl,hat,hC,hko⟩:=hrel
    by_cases hlt:q<A
    ·exfalso
     have:=(uh HSY) (by rw [←uh HNO];omega)
     obtain ⟨g,off,e,_⟩:=this
     cases e
    ·obtain rfl:q=A:=by omega
     have c2':=hat.c2
     have f2':=hat.f2
     have HC:Hid (C=Merge.len order (z0f os order) M T (k+1)):=qz (funext fun i=>by rw [hC,uh HLEN])
     have HT2:=qz (hat.taken hgl (2*(t-q)))
     have HKO:=qz hko
     have hqi:¬ (q:Int)<(q:Int):=by omega
     obtain ⟨z,hz⟩:∃z:Nat,z=t-q:=⟨_,rfl⟩
     have hz1:(t:Int)-(q:Int)=(z:Int):=by omega
     rw [←hz] at HT2
     have HZ:=qz hz
     have hzs:z≤131072:=by omega
     clear hat hC hko c0 c2 ka cb hz
     gi_wp2
     refine ⟨(uh HKO).trans (KeepsOthers.setCell _ _ _),?_⟩
     have hfin:=uh HT2
     rw [uh HC] at hfin
     rw [uh HTK,←uh HZ]
     have e:((2*z:Nat):Int)=2*(z:Int):=by omega
     rw [e] at hfin
     exact hfin
  | some ad =>
   gi_wp2
   gi_loopw [30] (fun d ws=>∃ (q:Nat) (C:Nat→Nat),q≤A∧d=.int .i64 (q:Int)∧TakeI w gr gl M nn N T (some ad) scap order (z0f os order) C t ws∧(∀i,C i=Merge.len order (z0f os order) M T k i+(order.take q).count i)∧KeepsOthers W ws) (fun d _=>A-(intOf d).toNat)
   case atStart=>exact ⟨0,_,Nat.zero_le _,rfl,uh HI,fun i=>by simp,KeepsOthers.refl _⟩
   case round =>
    obtain ⟨q,C,hq,rfl,hat,hC,hko⟩:=hrel
    by_cases hlt:q<A
    ·obtain ⟨g,off,e,hne,hc⟩:=(uh HSY) (by rw [←uh HNO];omega)
     injection e with e
     subst e
     have hqo:q<order.length:=by rw [←uh HNO];omega
     have s1:=hat.cell (hc q hqo).1 hne
     have s2:=hat.cell (hc q hqo).2 hne
     obtain ⟨s,hs⟩:∃s,s=order.getD q 0:=⟨_,rfl⟩
     obtain ⟨u,hu⟩:∃u,u=wt os (order.getD q 0):=⟨_,rfl⟩
     rw [←hs] at s1
     rw [←hu] at s2
     have hsn:s<nn:=uh HNN s (by rw [hs];simp [hqo])
     have hcs:order.take (q+1)=order.take q++[s]:=by rw [hs];simp [hqo]
     have z1:w.heap.size+1<wr.heap.size:=z0d hat.b1
     have z2:gl<wr.heap.size:=hat.ln.lt
     have l1:=hat.ln.cell s hsn
     have l2:=hat.ln.free s
     have c1:=hat.c1
     have hcb:C s≤1000000:=by have h1:=hC s;have h2:=uh HLE s k;have h3:(order.take q).count s≤q:=Nat.le_trans List.count_le_length (by simp;omega);omega
     obtain ⟨cs,hcs2⟩:∃cs,cs=C s:=⟨_,rfl⟩
     rw [←hcs2] at l1 hcb
     have hsni:(s:Int)<(nn:Int):=by omega
     have hqi:(q:Int)<(A:Int):=by omega
     have HX:=qz (hat.inc hgl s (cs+1))
     have HC2:Hid (∀i,upd C s (cs+1) i=Merge.len order (z0f os order) M T k i+(order.take (q+1)).count i):=qz fun i=>by
      rw [hcs,List.count_append]
      unfold upd
      by_cases e:i=s
      ·subst e;rw [if_pos rfl,hcs2,hC];simp;omega
      ·rw [if_neg e,hC,List.count_singleton,if_neg (by simp;omega)];omega
     have HKO:=qz hko
     have hw3:IntKind.i64.wrap ((cs:Int)+1)=(cs:Int)+1:=IntWalk.i64_in _ (by omega)
     clear hat hC hko hc hs hu hcs hcs2 c0 c2 ka cb
     gi_wp2
     have hx:=uh HX
     rw [show ((cs+1:Nat):Int)=(cs:Int)+1 by omega] at hx
     refine ⟨⟨q+1,_,by omega,by congr 1,hx.alloc _,uh HC2,((uh HKO).trans (KeepsOthers.setCell _ _ _)).trans (KeepsOthers.alloc _ _)⟩,by simp [intOf];omega⟩
    ·obtain rfl:q=A:=by omega
     have c2':=hat.c2
     have f2':=hat.f2
     have HC:Hid (C=Merge.len order (z0f os order) M T (k+1)):=qz (funext fun i=>by rw [hC,uh HLEN])
     have HT2:=qz (hat.taken hgl (2*(t-q)))
     have HKO:=qz hko
     have hqi:¬ (q:Int)<(q:Int):=by omega
     obtain ⟨z,hz⟩:∃z:Nat,z=t-q:=⟨_,rfl⟩
     have hz1:(t:Int)-(q:Int)=(z:Int):=by omega
     rw [←hz] at HT2
     have HZ:=qz hz
     have hzs:z≤131072:=by omega
     clear hat hC hko c0 c2 ka cb hz
     gi_wp2
     refine ⟨(uh HKO).trans (KeepsOthers.setCell _ _ _),?_⟩
     have hfin:=uh HT2
     rw [uh HC] at hfin
     rw [uh HTK,←uh HZ]
     have e:((2*z:Nat):Int)=2*(z:Int):=by omega
     rw [e] at hfin
     exact hfin
 case done =>
  rintro D W hD hi hK
  gi_wp2
  refine ⟨by simp,.inl ⟨_,_,rfl,run_takeDeferred hK,?_⟩⟩
  have hi2:=hi.grown (grownBy_putObj' W D (.deferred none)) (fun r e=>by cases e;exact ⟨by simp at hD;omega,_,hK,rfl⟩)
  exact ⟨_,results_none rfl _ _ _,rfl,hi2.ln,hi2.kp,Nat.le_of_lt (z0d hi2.b0),hi2.st⟩
theorem w0a (os:List Int) (order:List Nat) (gr gl M nn N T:Nat) (sa:Option Addr) (scap:Nat) (v1 v2:Nat→Value) (w:World) (hM:M≤20) (hM1:1≤M) (hN:N≤65536) (hNo:N=order.length) (hsc:N≤scap) (hT:T=2*N-2)
  (hw:TakeW os order w gr gl M sa v1 v2) (hl:z0a w .i64 3 gl nn (fun _=>0)) (ho:∀i∈order,i<nn) (hTl:T≤(Merge.wr (z0f os order) (M-1)).length) (hnd:order.Nodup) :
  Calls Tryz.prog 123 #[.slice (some ⟨gr,0,none⟩) M M,.slice sa N scap,.slice (some ⟨gl,0,none⟩) nn nn] w fun e w'=>e=.returned (.tuple #[])∧z0a w' .i64 3 gl nn (Merge.len order (z0f os order) M T M)∧(∀x,x<w.heap.size→x≠gl→w'.heap[x]?=w.heap[x]?)∧w.heap.size≤w'.heap.size∧w'.os=w.os∧w'.tape=w.tape∧w'.output=w.output :=
 (callsIn_wide (n:=4)).1 (x9z _ 4 trivial trivial trivial rfl (by omega) os order gr gl M nn N T sa scap v1 v2 w hM hM1 hN hNo hsc hT hw hl ho hTl hnd)
end L5
namespace L5
open Go.RowKit
def z1j (zs:List Int):Prop:=∀j,j<zs.length→0≤zs.getD j 0
theorem y6d (v:Value) (zs:List Int) (w:World) (hr:z0q w v zs) (hlen:zs.length≤140737488355328) :
  Calls Tryz.prog 120 #[v] w fun e w'=>(e=.returned (.bool false)∧z1j zs∨e=.returned (.bool true)∧¬z1j zs)∧w'=w:=by
 obtain ⟨a,cap,rfl,hsp⟩:=hr
 have HSP:=qz hsp
 clear hsp
 obtain ⟨m,hm⟩:∃m,m=zs.length:=⟨_,rfl⟩
 rw [←hm] at HSP hlen ⊢
 have HM:=qz hm
 clear hm
 go_enter Tryz.func120,Tryz.ntmps120
 go_wp2_with fail
 go_loopg [7] m (fun gk d ws=>∃ (k:Nat),gk=m-k∧k≤m∧(∀j,j<k→0≤zs.getD j 0)∧d=.int .i64 (k:Int)∧ws=w)
 case atStart=>exact ⟨0,by omega,by omega,fun j h=>by omega,rfl,rfl⟩
 case round =>
  obtain ⟨k,rfl,hk,hgood,rfl,rfl⟩:=hrel
  by_cases hlt:k<m
  ·obtain ⟨b,off,rfl,hcell⟩:=uh HSP (by omega)
   obtain ⟨z,hz⟩:∃z,z=zs.getD k 0:=⟨_,rfl⟩
   have k1:=hcell k hlt
   rw [←hz] at k1
   have hki:(k:Int)<(m:Int):=by omega
   by_cases hok:z<0
   ·have HNO:Hid (¬z1j zs):=qz fun hb=>by have:=hb k (by rw [←uh HM];exact hlt);omega
    clear hcell hz hgood
    go_wp2_with fail
    go_ret
    exact ⟨.inr ⟨rfl,uh HNO⟩,rfl⟩
   ·have HG:Hid (∀j,j<k+1→0≤zs.getD j 0):=qz fun j hj=>by
     by_cases e:j=k
     ·rw [e,←hz];omega
     ·exact hgood j (by omega)
    clear hcell hz hgood
    go_wp2_with fail
    go_roundg (m-(k+1))
    case measure=>omega
    case rel=>exact ⟨k+1,rfl,by omega,uh HG,by go_num,rfl⟩
  ·obtain rfl:k=m:=by omega
   have HYES:Hid (z1j zs):=qz (by unfold z1j;rw [←uh HM];exact hgood)
   clear hgood
   go_wp2_with fail
   go_ret
   exact ⟨.inl ⟨rfl,uh HYES⟩,rfl⟩
def acc (os ls:List Int):Nat→Nat
 | 0=>0
 | k+1=>acc os ls k+(os.getD k 0).toNat*(ls.getD k 0).toNat
end L5
namespace L5
open Go.RowKit Go.Sort Go.Lib
attribute [local go_sem ↓] wp_at_zero wp_at_succ
def tot (os:List Int):Nat→Nat
 | 0=>0
 | k+1=>tot os k+wt os k
theorem x7d (os:List Int) {j k:Nat} (h:j≤k):tot os j≤tot os k:=by
 induction k with
 | zero=>obtain rfl:j=0:=by omega
         exact Nat.le_refl _
 | succ k ih =>
  by_cases e:j=k+1
  ·subst e;exact Nat.le_refl _
  ·have:=ih (by omega)
   rw [tot]
   omega
theorem x8w (v:Value) (zs:List Int) (w:World) (hr:z0q w v zs) (hlen:zs.length≤65536) (hnb:z1j zs) :
  Calls Tryz.prog 121 #[v] w fun e w'=>(e=.returned (.bool true)∧tot zs zs.length≤1099511627776∨e=.returned (.bool false)∧1099511627776<tot zs zs.length)∧w'=w:=by
 obtain ⟨a,cap,rfl,hsp⟩:=hr
 have HSP:=qz hsp
 have HNB:=qz hnb
 clear hsp hnb
 obtain ⟨m,hm⟩:∃m,m=zs.length:=⟨_,rfl⟩
 rw [←hm] at HSP hlen ⊢
 have HM:=qz hm
 clear hm
 go_enter Tryz.func121,Tryz.ntmps121
 go_wp2_with fail
 go_loopg [3,8] m (fun gk c d ws=>∃ (k:Nat),gk=m-k∧k≤m∧tot zs k≤1099511627776∧c=.int .i64 (1099511627776-(tot zs k:Int))∧d=.int .i64 (k:Int)∧ws=w)
 case atStart=>exact ⟨0,by omega,by omega,by simp [tot],by simp [tot],rfl,rfl⟩
 case round =>
  obtain ⟨k,rfl,hk,hgood,rfl,rfl,rfl⟩:=hrel
  by_cases hlt:k<m
  ·obtain ⟨b,off,rfl,hcell⟩:=uh HSP (by omega)
   have k1:=hcell k hlt
   have hz:=uh HNB k (by rw [←uh HM];exact hlt)
   obtain ⟨z,hzz⟩:=Int.eq_ofNat_of_zero_le hz
   have hw:wt zs k=z:=by unfold wt;rw [hzz,Int.toNat_natCast]
   rw [hzz] at k1
   have hs:tot zs (k+1)=tot zs k+z:=by rw [tot,hw]
   have HB:Hid (1099511627776<tot zs k+z→1099511627776<tot zs m):=qz fun h=>by
    have:=x7d zs (show k+1≤m by omega)
    omega
   obtain ⟨t,ht⟩:∃t,t=tot zs k:=⟨_,rfl⟩
   rw [←ht] at hs hgood HB ⊢
   have HS:=qz hs
   have hki:(k:Int)<(m:Int):=by omega
   clear hcell hz hzz hw hs ht
   by_cases hbig:1099511627776-(t:Int)<(z:Int)
   ·go_wp2_with fail
    go_ret
    exact ⟨.inr ⟨rfl,uh HB (by omega)⟩,rfl⟩
   ·go_wp2_with fail
    go_roundg (m-(k+1))
    case measure=>omega
    case rel=>exact ⟨k+1,rfl,by omega,by rw [uh HS];omega,by rw [uh HS];go_num,by go_num,rfl⟩
  ·obtain rfl:k=m:=by omega
   have HYES:Hid (tot zs k≤1099511627776):=qz hgood
   obtain ⟨t,ht⟩:∃t,t=tot zs k:=⟨_,rfl⟩
   rw [←ht]
   clear hgood ht
   go_wp2_with fail
   go_ret
   exact ⟨.inl ⟨rfl,uh HYES⟩,rfl⟩
structure WhoAt (os:List Int) (w ws:World) (v:Value) (k:Nat):Prop where
 own:ws.ownsRow w.heap.size 178 2 v (raw os k).length (crow os (raw os k))
 bel:Below w.heap.size w ws
theorem WhoAt.app {os:List Int} {w ws w1:World} {v v':Value} {k:Nat} (h:WhoAt os w ws v k) (hp:0<wt os k) (o:Obj) (hown:w1.ownsRow w.heap.size 178 2 v' ((raw os k).length+1) (crow os (raw os k)++[iv (k:Nat),iv (wt os k:Nat)])) (hg:(ws.alloc o).grownBy w1 v.ownBlock):WhoAt os w w1 v' (k+1):=by
 refine ⟨?_,h.bel.trans ⟨hg.os,hg.tape,hg.output,by have:=hg.size;simp at this;omega,fun x hx=>?_⟩⟩
 ·rw [y1u,if_pos hp,x0h,List.length_append]
  exact hown
 ·have hs:=h.bel.size
  rw [hg.block x (by simp;omega) (fun e=>by have:=(h.own.lt x e.symm).1;omega),Below.heap_alloc _ _ _ (by omega)]
theorem x1p (a b:Int) (ws:World):∀j u,[iv a,iv b][j]?=some u→(ws.alloc (.cells #[.int .i64 a,.int .i64 b] 178)).cell? ((⟨ws.heap.size,0,none⟩:Addr).add j)=some u:=by
 intro j u hj
 have hadd:(⟨ws.heap.size,0,none⟩:Addr).add j=⟨ws.heap.size,j,none⟩:=by unfold Addr.add;split<;>simp_all
 rw [hadd]
 simp only [World.cell?,heap_alloc_new]
 rcases j with _|_|j
 ·simp [iv] at hj;subst hj;rfl
 ·simp [iv] at hj;subst hj;rfl
 ·simp at hj
theorem w1x (v:Value) (os:List Int) (w:World) (hr:z0q w v os) (hlen:os.length≤65536) (hnb:z1j os) :
  Calls Tryz.prog 122 #[v] w fun e w'=>∃v' l,e=.returned v'∧IsOrder os l∧l.length≤os.length∧z3f w' v' os l∧Below w.heap.size w w':=by
 obtain ⟨a,cap,rfl,hsp⟩:=hr
 obtain ⟨i0,hii,hz0,hz1,hz2⟩:=info_parts w1d
 have HSP:=qz hsp
 have HNB:=qz hnb
 clear hsp hnb
 obtain ⟨m,hm⟩:∃m,m=os.length:=⟨_,rfl⟩
 rw [←hm] at HSP hlen ⊢
 have HM:=qz hm
 clear hm
 go_enter Tryz.func122,Tryz.ntmps122
 go_wp2_with fail
 go_loopg [3,8] m (fun gk c d ws=>∃ (k:Nat) (c0:Value),gk=m-k∧k≤m∧c0=c∧WhoAt os w ws c0 k∧d=.int .i64 (k:Int))
 case atStart=>exact ⟨0,_,by omega,by omega,rfl,⟨⟨by simp [raw,crow],.inl ⟨rfl,by simp [raw]⟩⟩,Below.refl _ _⟩,rfl⟩
 case round =>
  obtain ⟨k,c0,rfl,hk,rfl,hat,rfl⟩:=hrel
  by_cases hlt:k<m
  ·obtain ⟨b,off,rfl,hcell⟩:=uh HSP (by omega)
   have k1:=z0c hat.bel (hcell k hlt)
   have hz:=uh HNB k (by rw [←uh HM];exact hlt)
   obtain ⟨z,hzz⟩:=Int.eq_ofNat_of_zero_le hz
   have hw:wt os k=z:=by unfold wt;rw [hzz,Int.toNat_natCast]
   rw [hzz] at k1
   have hki:(k:Int)<(m:Int):=by omega
   have HAT:=qz hat
   have HW:=qz hw
   have hrl:(raw os k).length≤k:=y5n os k
   obtain ⟨q,hq⟩:∃q,q=(raw os k).length:=⟨_,rfl⟩
   rw [←hq] at hrl
   have HQ:=qz hq
   clear hcell hz hzz hw hat hq
   by_cases h0:z=0
   ·subst h0
    have HA2:Hid (WhoAt os w wr c0 (k+1)):=qz (by
     have:=uh HAT
     have e:raw os (k+1)=raw os k:=by rw [y1u,if_neg (by rw [uh HW];omega)]
     exact ⟨by rw [e];exact this.own,this.bel⟩)
    go_wp2_with fail
    go_roundg (m-(k+1))
    case measure=>omega
    case rel=>exact ⟨k+1,_,rfl,by omega,rfl,uh HA2,by go_num⟩
   ·have h0':(0:Int)<(z:Int):=by omega
    have HOWN:Hid ((wr.alloc (.cells #[.int .i64 (k:Int),.int .i64 (z:Int)] 178)).ownsRow w.heap.size 178 2 c0 q (crow os (raw os k))):=qz (by
     have:=(uh HAT).own
     rw [←uh HQ] at this
     exact this.alloc _)
    go_wp2_with (at_builtin;go_must (refine wpList_append_own _ rfl (.tmp 15) (.tmp 19) 175 rfl w.heap.size 178 i0 _ 2 16 Tryz.underlying175 hii hz0 hz1 hz2 rfl (by decide) _ q (crow os (raw os k)) (by rfl) (uh HOWN) ⟨wr.heap.size,0,none⟩ 1 1 [iv (k:Int),iv (z:Int)] (by rfl) (by rfl) (x1p (k:Int) (z:Int) wr) (by intro u hu;simp at hu;rcases hu with rfl|rfl<;>rfl) (by unfold maxLen;omega) (by omega) (by have:=(uh HAT).bel.size;simp;omega) ?_;intro v' w1 hown hgrow hiff;have HX:Hid (WhoAt os w w1 v' (k+1)):=qz ((uh HAT).app (by rw [uh HW];omega) _ (by rw [←uh HQ,uh HW];exact hown) hgrow);clear hown hgrow hiff))
    go_roundg (m-(k+1))
    case measure=>omega
    case rel=>exact ⟨k+1,_,rfl,by omega,rfl,uh HX,by go_num⟩
  ·obtain rfl:k=m:=by omega
   have HS:=qz (y2a os w.heap.size (raw os os.length).length c0 wr (by have:=hat.own;rw [uh HM] at this;exact this) rfl (by have:=y5n os os.length;rw [←uh HM] at this ⊢;omega))
   have HB:=qz hat.bel
   clear hat
   go_wp2_with (go_at_call 145;go_must (refine (uh HS).mono ?_;rintro e w' ⟨rfl,l,hl,hlen,hc,hb⟩;have HL:=qz hl;have HC:=qz hc;have HB2:=qz ((uh HB).trans (hb (uh HB).size));have HLEN:Hid (l.length≤k):=qz (by rw [hlen];have:=y5n os os.length;rw [←uh HM] at this ⊢;exact this);clear hl hlen hc hb))
   go_ret
   exact ⟨c0,l,rfl,uh HL,uh HLEN,uh HC,uh HB2⟩
end L5
namespace L5
open Go.RowKit Go.Sort Go.Lib
attribute [local go_sem ↓] wp_at_zero wp_at_succ
def y7w (os:List Int) (most:Int):Prop:=1≤most∧most≤20∧os.length≤65536∧z1j os
def ans (os:List Int) (l:List Nat) (M:Nat):Nat→Nat :=
 if l.length=1 then fun i=>if i=l.getD 0 0 then 1 else 0 else Merge.len l (z0f os l) M (2*l.length-2) M
def x7o (os:List Int) (most:Int) (v:Value) (x:Int) (lo:Nat) (w':World):Prop :=
 (¬y7w os most∧v=.slice none 0 0∧x=2) ∨
 (y7w os most∧1099511627776<tot os os.length∧v=.slice none 0 0∧x=3) ∨
 (y7w os most∧tot os os.length≤1099511627776∧(∃l,IsOrder os l∧2^most.toNat<l.length)∧v=.slice none 0 0∧x=13) ∨
 (y7w os most∧tot os os.length≤1099511627776∧x=0∧∃l g,IsOrder os l∧l.length≤2^most.toNat∧v=.slice (some ⟨g,0,none⟩) os.length os.length∧lo≤g∧z0a w' .i64 3 g os.length (ans os l most.toNat))
theorem x3q (os:List Int):∀n,((raw os n).map (wt os)).sum=tot os n
 | 0=>by simp [raw,tot]
 | n+1=>by
  rw [y1u,tot,←x3q os n]
  by_cases h:0<wt os n
  ·rw [if_pos h];simp
  ·rw [if_neg h];omega
theorem x1v {os:List Int} {l:List Nat} (h:IsOrder os l):(z0f os l).sum=tot os os.length:=by
 have hp:l.Perm (raw os os.length):=(List.perm_ext_iff_of_nodup h.nodup (y3u os _)).2 fun i=>by rw [h.mem,x2t]
 rw [←x3q os os.length]
 exact (hp.map (wt os)).sum_nat
theorem z5n (os:List Int) (l:List Nat):z0f os l=Merge.fs (Merge.z0h (wt os) l):=by
 unfold z0f Merge.fs Merge.z0h
 rw [List.map_map]
 rfl
theorem x7m {os:List Int} {l:List Nat} (h:IsOrder os l) (ht:tot os os.length≤1099511627776):∀k,k<20→∀x∈Merge.wr (z0f os l) k,x≤1152921504606846976:=fun k hk x hx=>by
 have h1:Merge.z1p (Merge.z0h (wt os) l)=tot os os.length:=by
  rw [←x1v h,z5n]
  rfl
 rw [z5n] at hx
 have h2:=Merge.w2v (Merge.z0h (wt os) l) k x hx
 rw [h1] at h2
 have h3:(k+1)*tot os os.length≤20*1099511627776:=Nat.mul_le_mul (by omega) ht
 omega
theorem x6z {os:List Int} {l:List Nat} {w1 w3:World} {sa:Option Addr} {scap gl gr M:Nat} (hc:z3f w1 (.slice sa l.length scap) os l) (hgl:w1.heap.size≤gl) (hb:Below w1.heap.size w1 w3) (hr:RoundsAt w3 gr M (z0f os l) M) (hgr:gl<gr) :
  ∃v1 v2,TakeW os l w3 gr gl M sa v1 v2:=by
 have hg:∀j,∃p:Value × Value,j<M→w3.cell? ⟨gr,j*2,none⟩=some p.1∧w3.cell? ⟨gr,j*2+1,none⟩=some p.2∧z1c (gr+1) w3 p.2 (ints (Merge.ahd (z0f os l) (Merge.bk (z0f os l) j)))∧∃a l c,p.1=.slice a l c:=fun j=>by
  by_cases h:j<M
  ·obtain ⟨a,b,h1⟩:=hr.got j h
   exact ⟨(a,b),fun _=>h1⟩
  ·exact ⟨(.slice none 0 0,.slice none 0 0),fun h'=>absurd h' h⟩
 refine ⟨fun j=>(Classical.choose (hg j)).1,fun j=>(Classical.choose (hg j)).2,⟨?_,by omega,fun j hj=>(Classical.choose_spec (hg j) hj).1,fun j hj=>(Classical.choose_spec (hg j) hj).2.1,fun j hj=>(Classical.choose_spec (hg j) hj).2.2.2,fun j hj=>?_⟩⟩
 ·intro h0
  obtain ⟨a,cap,e,_,hs⟩:=hc
  injection e with e1 e2 e3
  subst e1
  obtain ⟨g,off,e,h2⟩:=hs h0
  refine ⟨g,off,e,?_,fun j hj=>⟨z0c hb (h2 j hj).1,by rw [Nat.add_assoc];exact z0c hb (h2 j hj).2⟩⟩
  have:=cell_lt (h2 0 h0).1
  simp only at this
  omega
 ·obtain ⟨a,cap,e,hs⟩:=(Classical.choose_spec (hg j) hj).2.2.1
  rw [z1l] at e hs
  obtain ⟨b,off,e',hlo,hcell⟩:=hs (by rw [Merge.z4b];omega)
  subst e'
  exact ⟨b,off,cap,by omega,e,fun i hi=>by rw [hcell i hi,z3l _ i hi]⟩
theorem y9n {os:List Int} {l:List Nat} {M:Nat} (hM:1≤M) (hn:l.length≤2^M):2*l.length-2≤(Merge.wr (z0f os l) (M-1)).length:=by
 rw [z5n,←(Merge.y4r (Merge.z0h (wt os) l) (M-1)).2,Merge.z0m]
 exact Merge.enough (wt os) l M hM hn
theorem x4d (x:Int):wrap64 x=IntKind.i64.wrap x:=by first|rfl|(unfold wrap64;rfl)|simp [wrap64,IntKind.wrap_i64]
structure Mid (os:List Int) (l:List Nat) (w w1 W2:World) (gl:Nat) (sa:Option Addr) (scap N n:Nat):Prop where
 ord:IsOrder os l
 len:N=l.length
 com:z3f w1 (.slice sa N scap) os l
 bel:Below w.heap.size w w1
 gle:gl=w1.heap.size
 wor:W2=w1.alloc (.cells (z0b .i64 n fun _=>0) 3)
 made:(Instr.makeSlice 49 (.int .i64 (n:Int)) (.int .i64 (n:Int))).run Tryz.prog w1=.ok (.slice (some ⟨w1.heap.size,0,none⟩) n n) (w1.alloc (.cells (z0b .i64 n fun _=>0) 3))
section
variable {os:List Int} {l:List Nat} {w w1 W2:World} {gl:Nat} {sa:Option Addr} {scap N n M:Nat}
theorem Mid.play (h:Mid os l w w1 W2 gl sa scap N n) (hM:M≤20) (h2:N≤n) (hn:n≤65536) (hf:tot os os.length≤1099511627776) :
  Calls Tryz.prog 124 #[.slice sa N scap,.int .i64 (M:Int)] (w1.alloc (.cells (z0b .i64 n fun _=>0) 3)) fun e w3=>∃gr,e=.returned (.slice (some ⟨gr,0,none⟩) M M)∧RoundsAt w3 gr M (z0f os l) M∧w1.heap.size+1≤gr∧Below (w1.heap.size+1) (w1.alloc (.cells (z0b .i64 n fun _=>0) 3)) w3:=by
 refine (x9o os l M _ _ (h.com.stays ((Below.refl _ _).alloc (Nat.le_refl _) _)) (by rw [←h.len];omega) hM (x7m h.ord hf)).mono fun e w3 ⟨gr,he,h1,h2,h3⟩=>⟨gr,he,h1,by simpa using h2,by simpa using h3⟩
theorem Mid.take {w3:World} {gr:Nat} (h:Mid os l w w1 W2 gl sa scap N n) (hM1:1≤M) (hM:M≤20) (h2:N≤n) (h5:N≤scap) (hn:n≤65536) (hN:N≤2^M) (hno:n=os.length) (hp:RoundsAt w3 gr M (z0f os l) M∧w1.heap.size+1≤gr∧Below (w1.heap.size+1) (w1.alloc (.cells (z0b .i64 n fun _=>0) 3)) w3) :
  Calls Tryz.prog 123 #[.slice (some ⟨gr,0,none⟩) M M,.slice sa N scap,.slice (some ⟨w1.heap.size,0,none⟩) n n] w3 fun e w4=>e=.returned (.tuple #[])∧z0a w4 .i64 3 w1.heap.size n (Merge.len l (z0f os l) M (2*N-2) M)∧Below w.heap.size w w4:=by
 obtain ⟨p1,p2,p3⟩:=hp
 have hb1:Below w1.heap.size w1 w3:=((Below.refl _ _).alloc (Nat.le_refl _) _).trans (p3.mono (by omega))
 have hc:=h.com
 rw [h.len] at hc
 obtain ⟨v1,v2,hTW⟩:=x6z (gl:=w1.heap.size) hc (Nat.le_refl _) hb1 p1 (by omega)
 have hz:z0a (w1.alloc (.cells (z0b .i64 n fun _=>0) 3)) .i64 3 w1.heap.size n (fun _=>0):=heap_alloc_new _ _
 have hl:=hz.stays p3 (by omega)
 refine (w0a os l gr w1.heap.size M n N (2*N-2) sa scap v1 v2 w3 hM hM1 (by omega) h.len h5 rfl hTW hl (fun i hi=>by rw [hno];exact ((h.ord.mem i).1 hi).1) (by rw [h.len] at hN ⊢;exact y9n hM1 hN) h.ord.nodup).mono ?_
 rintro e w4 ⟨rfl,q1,q2,q3,q4,q5,q6⟩
 refine ⟨rfl,q1,?_⟩
 have hb2:Below w.heap.size w w3:=h.bel.trans (hb1.mono h.bel.size)
 have hs:=h.bel.size
 exact hb2.trans ⟨q4,q5,q6,q3,fun k hk=>q2 k (by have:=hb2.size;omega) (by omega)⟩
theorem Mid.three (h:Mid os l w w1 W2 gl sa scap N n) (P2:Nat) (hno:n=os.length):((P2:Int)<(N:Int))∨(∃g off s,¬ (P2:Int)<(N:Int)∧(0:Int)<(N:Int)∧((N:Int) == 1)=true∧some ⟨g,off,none⟩=sa∧w1.cell? ⟨g,off,none⟩=some (.int .i64 (s:Nat))∧g<w1.heap.size∧s<n∧Hid (s=l.getD 0 0) ∧
   (w1.alloc (.cells (z0b .i64 n fun _=>0) 3)).cell? ⟨w1.heap.size,s,none⟩=some (.int .i64 0)∧(w1.alloc (.cells (z0b .i64 n fun _=>0) 3)).frozen? ⟨w1.heap.size,s,none⟩=false)∨(¬ (P2:Int)<(N:Int)∧((N:Int) == 1)=false):=by
 by_cases h0:(P2:Int)<(N:Int)
 ·exact .inl h0
 ·cases h2:((N:Int) == 1)
  ·exact .inr (.inr ⟨h0,rfl⟩)
  ·refine .inr (.inl ?_)
   have h3:N=1:=by simp at h2;omega
   obtain ⟨a,cap,e,_,hs⟩:=h.com
   injection e with e1 e2 e3
   subst e1
   have hl1:l.length=1:=by rw [←h.len];exact h3
   obtain ⟨g,off,e,hc⟩:=hs (by omega)
   have c1:=(hc 0 (by omega)).1
   rw [Nat.zero_mul,Nat.add_zero] at c1
   have hm:l.getD 0 0∈l:=by rw [List.getD_eq_getElem?_getD,List.getElem?_eq_getElem (by omega)];exact List.getElem_mem _
   have hsn:l.getD 0 0<n:=by rw [hno];exact ((h.ord.mem _).1 hm).1
   have hz:z0a (w1.alloc (.cells (z0b .i64 n fun _=>0) 3)) .i64 3 w1.heap.size n (fun _=>0):=heap_alloc_new _ _
   exact ⟨g,off,l.getD 0 0,h0,by omega,rfl,e.symm,c1,cell_lt c1,hsn,qz rfl,hz.cell _ hsn,hz.free _⟩
end
theorem x1g (os:List Int) (M:Nat) (a:Option Addr) (cap:Nat) (w:World) (hr:z0q w (.slice a os.length cap) os) (hM1:1≤M) (hM2:M≤20) (hlen:os.length≤65536) (hnb:z1j os) :
  Calls Tryz.prog 99 #[.slice a os.length cap,.int .i64 (M:Int)] w fun e w'=>∃v x,e=.returned (.tuple #[v,.int .i64 x])∧x7o os (M:Int) v x w.heap.size w'∧Below w.heap.size w w':=by
 have HA:Hid (y7w os (M:Int)):=qz ⟨by omega,by omega,hlen,hnb⟩
 have HB:Hid (Calls Tryz.prog 120 #[.slice a os.length cap] w fun e w'=>e=.returned (.bool false)∧w'=w):=qz ((y6d _ os w hr (by omega)).mono fun e w' ⟨h1,h2⟩=>⟨by rcases h1 with ⟨h,_⟩|⟨_,h⟩;exact h;exact absurd hnb h,h2⟩)
 have HF:=qz (x8w _ os w hr hlen hnb)
 have HWH:=qz (w1x _ os w hr hlen hnb)
 clear hr hnb
 by_cases hfit:tot os os.length≤1099511627776
 ·have HF2:Hid (Calls Tryz.prog 121 #[.slice a os.length cap] w fun e w'=>e=.returned (.bool true)∧w'=w):=qz ((uh HF).mono fun e w' ⟨h1,h2⟩=>⟨by rcases h1 with ⟨h,_⟩|⟨_,h⟩;exact h;omega,h2⟩)
  have HFIT:=qz hfit
  clear HF hfit
  obtain ⟨n,hn⟩:∃n,n=os.length:=⟨_,rfl⟩
  rw [←hn] at HB HF2 HWH hlen ⊢
  have HN:=qz hn
  clear hn
  have t1:¬ (M:Int)<1:=by omega
  have t2:¬ (20:Int)<(M:Int):=by omega
  have t3:¬ (65536:Int)<(n:Int):=by omega
  obtain ⟨P2,hP2⟩:∃P2,P2=2^M:=⟨_,rfl⟩
  have hsh:wrap64 ((2:Int)^M)=(P2:Int):=by
   have h1:2^M≤2^20:=Nat.pow_le_pow_right (by decide) hM2
   have h2:((2:Int)^M)=((2^M:Nat):Int):=by simp
   rw [h2,←hP2]
   have h3:P2≤1048576:=by rw [hP2];exact h1
   rw [x4d]
   exact IntWalk.i64_in (P2:Int) (by omega)
  have HP2:=qz hP2
  have hP2b:P2≤1048576:=by rw [hP2];exact Nat.pow_le_pow_right (by decide) hM2
  clear hP2
  have HWH2:Hid (Calls Tryz.prog 122 #[.slice a n cap] w fun e w1=>∃sa scap l N W2 gl,e=.returned (.slice sa N scap)∧N≤n∧N≤scap∧Mid os l w w1 W2 gl sa scap N n):=qz ((uh HWH).mono fun e w1 ⟨sv,l,he,hl1,hl2,hl3,hl4⟩=>by
   obtain ⟨sa,scap,rfl,hl5,hl6⟩:=id hl3
   exact ⟨sa,scap,l,l.length,_,_,he,hl2,hl5,⟨hl1,rfl,hl3,hl4,rfl,rfl,z0e w1 n hlen⟩⟩)
  clear HWH
  go_enter Tryz.func99,Tryz.ntmps99
  go_wp2_with (first|(go_at_call 120;go_must (refine (uh HB).mono ?_;rintro e w' ⟨rfl,hww⟩;replace hww:=hww.symm;subst hww))|(go_at_call 121;go_must (refine (uh HF2).mono ?_;rintro e w' ⟨rfl,hww⟩;replace hww:=hww.symm;subst hww))|(go_at_call 122;go_must (refine (uh HWH2).mono ?_;rintro e w1 ⟨sa,scap,l,N,W2,gl,rfl,hl2,hl5,hmid⟩;have HMID:=qz hmid;have hmk:=hmid.made;clear hmid;rcases (uh HMID).three P2 (uh HN) with q1|⟨g,off,s,q1,q0,q2,rfl,q3,q4,q5,q6,q7,q8⟩|⟨q1,q2⟩))|(go_at_call 124;go_must (refine ((uh HMID).play hM2 hl2 hlen (uh HFIT)).mono ?_;rintro e w3 ⟨gr,rfl,hpl⟩;have HPL:=qz hpl;clear hpl))|(go_at_call 123;go_must (refine ((uh HMID).take hM1 hM2 hl2 hl5 hlen (by rw [←uh HP2];omega) (uh HN) (uh HPL)).mono ?_;rintro e w4 ⟨rfl,hfin⟩;have HFIN:=qz hfin;clear hfin)))
  ·go_ret2
   exact ⟨_,13,rfl,.inr (.inr (.inl ⟨uh HA,uh HFIT,⟨l,(uh HMID).ord,by rw [Int.toNat_natCast,←uh HP2,←(uh HMID).len];omega⟩,rfl,rfl⟩)),(uh HMID).bel⟩
  ·go_ret2
   refine ⟨_,0,rfl,.inr (.inr (.inr ⟨uh HA,uh HFIT,rfl,l,w1.heap.size,(uh HMID).ord,by rw [Int.toNat_natCast,←uh HP2,←(uh HMID).len];omega,by rw [←uh HN];rfl,(uh HMID).bel.size,?_⟩)),?_⟩
   ·have hN1:l.length=1:=by rw [←(uh HMID).len];simp at q2;omega
    have hz:z0a (w1.alloc (.cells (z0b .i64 n fun _=>0) 3)) .i64 3 w1.heap.size n (fun _=>0):=heap_alloc_new _ _
    rw [ans,if_pos hN1,←uh HN,←uh q6]
    have e1:=heap_setCell_same _ w1.heap.size s _ 3 (.int .i64 ((1:Nat):Int)) hz
    unfold z0a
    rw [heap_alloc_new]
    exact e1.symm.trans (hz.set s 1)
   ·exact (uh HMID).bel.trans ((Below.refl _ _).alloc (uh HMID).bel.size _)
  ·go_ret2
   refine ⟨_,0,rfl,.inr (.inr (.inr ⟨uh HA,uh HFIT,rfl,l,w1.heap.size,(uh HMID).ord,by rw [Int.toNat_natCast,←uh HP2,←(uh HMID).len];omega,by rw [←uh HN];rfl,(uh HMID).bel.size,?_⟩)),(uh HFIN).2⟩
   have hN1:l.length≠1:=by rw [←(uh HMID).len];intro c;rw [c] at q2;simp at q2
   rw [ans,if_neg hN1,Int.toNat_natCast,←uh HN,←(uh HMID).len]
   exact (uh HFIN).1
 ·have HF2:Hid (Calls Tryz.prog 121 #[.slice a os.length cap] w fun e w'=>e=.returned (.bool false)∧w'=w):=qz ((uh HF).mono fun e w' ⟨h1,h2⟩=>⟨by rcases h1 with ⟨_,h⟩|⟨h,_⟩;exact absurd h hfit;exact h,h2⟩)
  have HFIT:Hid (1099511627776<tot os os.length):=qz (by omega)
  clear HF hfit HWH
  obtain ⟨n,hn⟩:∃n,n=os.length:=⟨_,rfl⟩
  rw [←hn] at HB HF2 hlen ⊢
  clear hn
  have t1:¬ (M:Int)<1:=by omega
  have t2:¬ (20:Int)<(M:Int):=by omega
  have t3:¬ (65536:Int)<(n:Int):=by omega
  go_enter Tryz.func99,Tryz.ntmps99
  go_wp2_with (first|(go_at_call 120;go_must (refine (uh HB).mono ?_;rintro e w' ⟨rfl,hww⟩;replace hww:=hww.symm;subst hww))|(go_at_call 121;go_must (refine (uh HF2).mono ?_;rintro e w' ⟨rfl,hww⟩;replace hww:=hww.symm;subst hww)))
  go_ret2
  exact ⟨_,3,rfl,.inr (.inl ⟨uh HA,uh HFIT,rfl,rfl⟩),Below.refl _ _⟩
theorem x5m (os:List Int) (most:Int) (a:Option Addr) (cap:Nat) (w:World) (h:¬ (1≤most∧most≤20∧os.length≤65536)) :
  Calls Tryz.prog 99 #[.slice a os.length cap,.int .i64 most] w fun e w'=>e=.returned (.tuple #[.slice none 0 0,.int .i64 2])∧w'=w:=by
 obtain ⟨n,hn⟩:∃n,n=os.length:=⟨_,rfl⟩
 rw [←hn] at h ⊢
 clear hn
 by_cases t1:most<1
 ·clear h
  go_enter Tryz.func99,Tryz.ntmps99
  go_wp2_with fail
  go_ret2
  exact ⟨rfl,rfl⟩
 ·by_cases t2:20<most
  ·clear h
   go_enter Tryz.func99,Tryz.ntmps99
   go_wp2_with fail
   go_ret2
   exact ⟨rfl,rfl⟩
  ·have t3:(65536:Int)<(n:Int):=by omega
   clear h
   go_enter Tryz.func99,Tryz.ntmps99
   go_wp2_with fail
   go_ret2
   exact ⟨rfl,rfl⟩
theorem y8r (os:List Int) (M:Nat) (a:Option Addr) (cap:Nat) (w:World) (hr:z0q w (.slice a os.length cap) os) (hM1:1≤M) (hM2:M≤20) (hlen:os.length≤65536) (hnb:¬z1j os) :
  Calls Tryz.prog 99 #[.slice a os.length cap,.int .i64 (M:Int)] w fun e w'=>e=.returned (.tuple #[.slice none 0 0,.int .i64 2])∧w'=w:=by
 have HB:Hid (Calls Tryz.prog 120 #[.slice a os.length cap] w fun e w'=>e=.returned (.bool true)∧w'=w):=qz ((y6d _ os w hr (by omega)).mono fun e w' ⟨h1,h2⟩=>⟨by rcases h1 with ⟨_,h⟩|⟨h,_⟩;exact absurd h hnb;exact h,h2⟩)
 clear hr hnb
 obtain ⟨n,hn⟩:∃n,n=os.length:=⟨_,rfl⟩
 rw [←hn] at HB hlen ⊢
 clear hn
 have t1:¬ (M:Int)<1:=by omega
 have t2:¬ (20:Int)<(M:Int):=by omega
 have t3:¬ (65536:Int)<(n:Int):=by omega
 go_enter Tryz.func99,Tryz.ntmps99
 go_wp2_with (go_at_call 120;go_must (refine (uh HB).mono ?_;rintro e w' ⟨rfl,hww⟩;replace hww:=hww.symm;subst hww))
 go_ret2
 exact ⟨rfl,rfl⟩
theorem y1d (os:List Int) (most:Int) (v:Value) (w:World) (hr:z0q w v os) :
  Calls Tryz.prog 99 #[v,.int .i64 most] w fun e w'=>∃u x,e=.returned (.tuple #[u,.int .i64 x])∧x7o os most u x w.heap.size w'∧Below w.heap.size w w':=by
 obtain ⟨a,cap,rfl,hs⟩:=id hr
 by_cases h:1≤most∧most≤20∧os.length≤65536
 ·obtain ⟨M,rfl⟩:=Int.eq_ofNat_of_zero_le (show 0≤most by omega)
  by_cases hnb:z1j os
  ·exact x1g os M a cap w hr (by omega) (by omega) h.2.2 hnb
  ·refine (y8r os M a cap w hr (by omega) (by omega) h.2.2 hnb).mono fun e w' ⟨he,hw⟩=>⟨_,2,he,.inl ⟨fun hh=>hnb hh.2.2.2,rfl,rfl⟩,by rw [hw];exact Below.refl _ _⟩
 ·refine (x5m os most a cap w h).mono fun e w' ⟨he,hw⟩=>⟨_,2,he,.inl ⟨fun hh=>h ⟨hh.1,hh.2.1,hh.2.2.1⟩,rfl,rfl⟩,by rw [hw];exact Below.refl _ _⟩
end L5
namespace L5
open Go.RowKit
theorem x8o {os:List Int} {l:List Nat} {M:Nat} (hM:1≤M) (hn:l.length≤2^M) (h1:l.length≠1) (i:Nat):ans os l M i=Merge.out (wt os) l M i:=by
 unfold ans
 rw [if_neg h1,z5n]
 exact Merge.x9e (wt os) l M hM hn i
end L5
section
open Go.RowKit L5
theorem x3i (C:Nat→Nat):∀n,(∀i,i<n→C i≤20)→B4.Canon.sum ((List.range n).map C)=Merge.lsum (fun i=>if 0<C i then 2^(20-C i) else 0) (List.range n)
 | 0,_=>B4.Canon.sum_nil
 | n+1,h=>by
  rw [List.range_succ,List.map_append,List.map_singleton,B4.Canon.sum_snoc _ _ (h n (by omega)),x3i C n (fun i hi=>h i (by omega))]
  unfold Merge.lsum
  rw [List.map_append,List.sum_append]
  simp
theorem x1i {f:Nat→Nat} {L L':List Nat} (h:L.Perm L'):Merge.lsum f L=Merge.lsum f L':=(h.map f).sum_nat
theorem x1f {os:List Int} {l:List Nat} (hO:IsOrder os l) (hp:∀i,i<os.length→0<wt os i) (h2:2≤os.length) {M:Nat} (hM:1≤M) (hM2:M≤20) (hn:l.length≤2^M) :
  (∀z∈(List.range os.length).map (ans os l M),1≤z∧z≤M)∧B4.Canon.sum ((List.range os.length).map (ans os l M))=1048576:=by
 have hd:l.Nodup:=hO.nodup
 have hperm:(List.range os.length).Perm l:=(List.perm_ext_iff_of_nodup List.nodup_range hd).2 fun i=>by
  rw [hO.mem i,List.mem_range]
  exact ⟨fun h=>⟨h,hp i h⟩,fun h=>h.1⟩
 have hll:l.length=os.length:=by rw [←hperm.length_eq];simp
 have h1:l.length≠1:=by omega
 have ha:∀i,ans os l M i=Merge.out (wt os) l M i:=fun i=>x8o hM hn h1 i
 have hle:∀i,ans os l M i≤M:=fun i=>by rw [ha i];exact Merge.y6s hd hM hn i
 have hpos:∀i,i∈l→1≤ans os l M i:=fun i hi=>by rw [ha i];exact Merge.x1w hd hM hn (by omega) hi
 refine ⟨fun z hz=>?_,?_⟩
 ·obtain ⟨i,hi,rfl⟩:=List.mem_map.1 hz
  exact ⟨hpos i (hperm.mem_iff.1 hi),hle i⟩
 ·rw [x3i _ _ (fun i _=>Nat.le_trans (hle i) hM2),x1i hperm]
  have e1:Merge.lsum (fun i=>if 0<ans os l M i then 2^(20-ans os l M i) else 0) l=Merge.lsum (fun i=>2^(M+(20-M)-Merge.out (wt os) l M i)) l:=Merge.z1o fun i hi=>by
   rw [if_pos (show 0<ans os l M i from hpos i hi),show M+(20-M)=20 from by omega,ha i]
  rw [e1,Merge.y8q (fun i _=>Merge.y6s hd hM hn i),Merge.x5y hO.sorted hd (fun i hi=>((hO.mem i).1 hi).2) hM hn (by omega),←Nat.pow_add,show M+(20-M)=20 from by omega]
end
section
open Go.RowKit B4 B4.Mth Infl R11.Runs
attribute [local go_sem ↓] wp_at_zero wp_at_succ
theorem y4i {os:List Int} {b:Nat} (h:∀i,i<os.length→L5.wt os i≤b):∀k,k≤os.length→L5.tot os k≤k*b
 | 0,_=>by simp [L5.tot]
 | k+1,hk=>by
  have:=y4i h k (by omega)
  have:=h k (by omega)
  rw [L5.tot,Nat.succ_mul]
  omega
structure LenOk (K:Nat) (ls:List Nat):Prop where
 len:ls.length=K
 lt:∀z∈ls,1≤z∧z≤17
 full:Canon.sum ls=1048576
theorem x9f {w:World} {H K b:Nat} {C:Nat→Nat} (h:z0a w .i64 3 H K C) (hK:3≤K∧K≤300) (hC:∀i,i<K→1≤C i∧C i≤b) (hb:b≤3000000) :
  Calls Tryz.prog 99 #[.slice (some ⟨H,0,none⟩) K K,.int .i64 17] w fun e w'=>∃g ls,e=.returned (.tuple #[.slice (some ⟨g,0,none⟩) K K,.int .i64 0])∧w.heap.size≤g∧Nums w' g ls∧LenOk K ls∧Below w.heap.size w w':=by
 obtain ⟨os,hos⟩:∃os:List Int,os=(List.range K).map fun i=>(C i:Int):=⟨_,rfl⟩
 have hl:os.length=K:=by rw [hos];simp
 have hg:∀i,i<K→os.getD i 0=(C i:Int):=fun i hi=>by rw [hos,List.getD_eq_getElem?_getD,List.getElem?_map,List.getElem?_range hi];rfl
 have hr:L5.z0q w (.slice (some ⟨H,0,none⟩) K K) os:=⟨_,_,by rw [hl],fun _=>⟨H,0,rfl,fun j hj=>by rw [Nat.zero_add,h.cell j (by omega),hg j (by omega)]⟩⟩
 have hwt:∀i,i<os.length→0<L5.wt os i∧L5.wt os i≤b:=fun i hi=>by
  have:=hC i (by omega)
  unfold L5.wt
  rw [hg i (by omega)]
  omega
 have hA:L5.y7w os 17:=⟨by omega,by omega,by omega,fun j hj=>by rw [hg j (by omega)];omega⟩
 have ht:=y4i (fun i hi=>(hwt i hi).2) os.length (Nat.le_refl _)
 have ht2:L5.tot os os.length≤1099511627776:=by
  have:os.length*b≤300*3000000:=Nat.mul_le_mul (by omega) hb
  omega
 refine (L5.y1d os 17 _ w hr).mono ?_
 rintro e w' ⟨u,x,rfl,hi,hb'⟩
 rcases hi with ⟨c,_⟩|⟨_,c,_⟩|⟨_,_,⟨l,hO,hc⟩,_⟩|⟨_,_,rfl,l,g,hO,hn,rfl,hlo,hint⟩
 ·exact absurd hA c
 ·omega
 ·have hsub:l.length≤os.length:=by
   have hd:=hO.nodup
   have:=List.Nodup.length_le_of_subset hd (l₂:=List.range os.length) (fun i hi=>List.mem_range.2 ((hO.mem i).1 hi).1)
   simpa using this
  have:(2:Nat)^(17:Int).toNat=131072:=by decide
  omega
 ·have e17:(17:Int).toNat=17:=rfl
  rw [e17] at hn hint
  obtain ⟨f1,f2⟩:=x1f hO (fun i hi=>(hwt i hi).1) (by omega) (M:=17) (by omega) (by omega) hn
  refine ⟨g,(List.range os.length).map (L5.ans os l 17),by rw [hl],hlo,?_,⟨by simp [hl],f1,f2⟩,hb'⟩
  unfold Nums
  have:((List.range os.length).map (L5.ans os l 17)).length=os.length:=by simp
  rw [this]
  refine z0a.congr (C:=L5.ans os l 17) hint fun i hi=>?_
  rw [List.getD_eq_getElem?_getD,List.getElem?_map,List.getElem?_range hi]
  rfl
theorem w0f (i j:Nat):upd (fun j=>if j<i then 1 else 0) i 1 j=if j<i+1 then 1 else 0:=by
 unfold upd
 by_cases e:j=i
 ·rw [if_pos e,if_pos (by omega)]
 ·rw [if_neg e]
  show (if j<i then 1 else 0)=_
  by_cases e2:j<i
  ·rw [if_pos e2,if_pos (by omega)]
  ·rw [if_neg e2,if_neg (by omega)]
theorem z9d (ss:List Nat) (K:Nat) (sa:Option Addr) (sc:Nat) (w:World) (hs:R11.IntsIn w sa (ss.map fun x:Nat=>(x:Int))) (hK:3≤K∧K≤300) (hss:∀z∈ss,z<K) (hn:ss.length≤2000000) :
  Calls Tryz.prog 76 #[.slice sa ss.length sc,.int .i64 (K:Int)] w fun e w'=>∃g ls,e=.returned (.slice (some ⟨g,0,none⟩) K K)∧w.heap.size≤g∧Nums w' g ls∧LenOk K ls∧Below w.heap.size w w':=by
 have HS:=qz hs
 have HSS:=qz hss
 have hK3:K≤300:=hK.2
 have HK:=qz hK
 obtain ⟨N,hN⟩:∃N,N=ss.length:=⟨_,rfl⟩
 have HN:=qz hN
 rw [←hN] at hn ⊢
 have fm:=z0e w K (by omega)
 obtain ⟨H,hH⟩:∃H,H=w.heap.size:=⟨_,rfl⟩
 have HHW:=qz hH
 have HA0:Hid (z0a (w.alloc (.cells (z0b .i64 K (fun _=>0)) 3)) .i64 3 H K (fun _=>0)):=qz (by rw [hH];exact heap_alloc_new _ _)
 have HB0:Hid (Below H w (w.alloc (.cells (z0b .i64 K (fun _=>0)) 3))):=qz (by rw [hH];exact (Below.refl _ _).alloc (Nat.le_refl _) _)
 rw [←hH] at fm
 clear hs hss hN hH hK
 go_enter Tryz.func76,Tryz.ntmps76
 go_wp2_with fail
 generalize (w.alloc (.cells (z0b .i64 K (fun _=>0)) 3))=w1 at *
 clear fm
 go_loopg [15] K (fun gk d ws=>∃ (i:Nat),gk=K-i∧i≤K∧d=.int .i64 (i:Int)∧Hid (z0a ws .i64 3 H K (fun j=>if j<i then 1 else 0))∧Hid (Below H w ws))
 case atStart=>exact ⟨0,by omega,by omega,rfl,qz ((uh HA0).congr fun i _=>by simp),HB0⟩
 case round =>
  clear HA0 HB0
  obtain ⟨i,rfl,hi,rfl,HA,HB⟩:=hrel
  rename World=>ws
  by_cases hlt:i<K
  ·have tl:(i:Int)<(K:Int):=by omega
   have e1:=(uh HA).cell i hlt
   have e2:=(uh HA).free i
   go_wp2_with fail
   go_roundg (K-(i+1))
   case measure=>omega
   case rel=>exact ⟨i+1,rfl,by omega,by go_num,qz (((uh HA).set i 1).congr fun j hj=>w0f i j),qz ((uh HB).setCell (Nat.le_refl _) _)⟩
  ·obtain rfl:K=i:=by omega
   have tl:¬ (K:Int)<(K:Int):=by omega
   go_wp2_with fail
   go_loopg [24] N (fun gk d wk=>∃ (j:Nat) (C:Nat→Nat),gk=N-j∧j≤N∧d=.int .i64 (j:Int)∧Hid (∀i,i<K→1≤C i∧C i≤1+j)∧Hid (z0a wk .i64 3 H K C)∧Hid (Below H w wk))
   case atStart=>exact ⟨0,fun j=>if j<K then 1 else 0,by omega,by omega,rfl,qz (fun i hi=>by simp [hi]),HA,HB⟩
   case round =>
    clear HA HB
    obtain ⟨j,C,rfl,hj,rfl,HCC,HA,HB⟩:=hrel
    rename World=>wk
    by_cases hlt2:j<N
    ·have tl2:(j:Int)<(N:Int):=by omega
     have hjs:j<ss.length:=by rw [←uh HN];exact hlt2
     obtain ⟨gs,off,rfl,cs⟩:=uh HS j (by simpa using hjs)
     have hget:(ss.map fun x:Nat=>(x:Int)).getD j 0=((ss.getD j 0:Nat):Int):=by simp [List.getD_eq_getElem?_getD,hjs]
     rw [hget] at cs
     have hsk:=uh HSS _ (Bz.getD_mem' hjs)
     have hgs:gs<w.heap.size:=R11.cell_lt cs
     have hHw:=uh HHW
     have cs2:wk.cell? ⟨gs,off+j,none⟩=some (.int .i64 ((ss.getD j 0:Nat):Int)):=by
      rw [(uh HB).cell (by show gs<H;omega)];exact cs
     generalize ss.getD j 0=s at *
     have ts:(s:Int)<(K:Int):=by omega
     have e1:=(uh HA).cell s hsk
     have e2:=(uh HA).free s
     have hcb:=uh HCC s hsk
     have fw:IntKind.i64.wrap ((C s:Int)+1)=((C s+1:Nat):Int):=by rw [IntKind.wrap_i64];omega
     obtain ⟨y,hy⟩:∃y,y=C s+1:=⟨_,rfl⟩
     rw [←hy] at fw
     have HY:=qz hy
     clear hy cs hget hgs hHw
     go_wp2_with fail
     go_roundg (N-(j+1))
     case measure=>omega
     case rel =>
      refine ⟨j+1,upd C s y,rfl,by omega,by go_num,qz fun i hi=>?_,qz ((uh HA).set s y),qz ((uh HB).setCell (Nat.le_refl _) _)⟩
      have:=uh HCC i hi
      unfold upd
      by_cases e:i=s
      ·rw [if_pos e,uh HY];omega
      ·rw [if_neg e];omega
    ·obtain rfl:N=j:=by omega
     have tl2:¬ (N:Int)<(N:Int):=by omega
     have HC:=qz (x9f (uh HA) (uh HK) (uh HCC) (by omega))
     go_wp2_with fail
     refine (uh HC).mono ?_
     rintro e w4 ⟨g,ls,rfl,hg,hnum,hok,hb4⟩
     have hb:=uh HB
     have HG:Hid (H≤g):=qz (by have:=hb.size;have:=uh HHW;omega)
     have HNUM:=qz hnum
     have HOK:=qz hok
     have HB4:Hid (Below H w w4):=qz (hb.trans (hb4.mono (by have:=hb.size;have:=uh HHW;omega)))
     clear hg hnum hok hb4 hb HC
     go_wp2_with fail
     go_ret
     have hHw:=uh HHW
     exact ⟨g,ls,rfl,by rw [←hHw];exact uh HG,uh HNUM,uh HOK,by rw [←hHw];exact uh HB4⟩
end
end Go.Proofs.YtljdhaepkhhnlaaGreat
