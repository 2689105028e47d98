/- Texts of one proof, one behind the other: Cg, Pt1, Dp1, T6Tok, T6Aid, T6Base, T6Kit, T6Meas, T6Rep, T6Look, T6Key, T6Chain, T6AidTwo, T6Lev, T6Add, T6Stood, T6Fill, T6FillW, T6Last. -/
import Derived.Test.YtabeanealkopbaaGreatDbqD
import Derived.Laws.EntriesVeiled
import Derived.Deep.RegionHeld3
import Derived.StillTailTactics
import Derived.WalkKit
import Derived.Test.YtabeanealkopbaaGreatRows
import Derived.WalkSpells
import Derived.Handy
import Derived.Laws.Rows
import Derived.Laws.BitsAllLaws
import Derived.Laws.BytesString
import Derived.Laws.CopyOwn
import Derived.Laws.BytesArg
import Derived.Laws.AppendOwnNone
import Derived.Deep.LoopGhost
import Derived.Deep.QuietTactic
import Derived.Deep.DeepMust
import Derived.Deep.DrawnRows
import Derived.Deep.AppendLies
import Derived.Deep.DeepCutAuto
import Derived.Maps.AppendAt
import Derived.BigQuiet
import Derived.Lib.SmallJoins
import Derived.Laws.IdiomStrings
import Derived.KernelRfl
import Derived.Maps.Own
import Derived.Maps.OwnOps
import Derived.Maps.OwnSet
import Derived.Maps.Views
import Derived.Lib.LastIndexLaws
import Derived.Lib.SlBytesRow
import Derived.Lib.Bytealg

set_option linter.unusedVariables false
set_option maxRecDepth 100000
set_option maxHeartbeats 24000000
namespace Go.Proofs.YtabeanealkopbaaGreat
namespace W4
open Go.RowKit Mth Infl Defl
attribute [local go_sem ↓] wp_at_zero wp_at_succ
def Keep (xb:Nat) (x x':World):Prop:=x.heap.size≤x'.heap.size∧∀ k,k<x.heap.size→k≠xb→x'.heap[k]?=x.heap[k]?
structure Kp (H yb:Nat) (best:Array Value) (fn fm:Value) (x:World):Prop where
 rb:x.heap[H]?=some (.cells #[.int .i64 0,.int .i64 0] 69 (0,0))
 bb:x.heap[H+1]?=some (.cells best 69 (0,0))
 yy:x.heap[yb]?=some (.cells #[fn,fm] 59 (0,0))
theorem Kp.y0 {H yb:Nat} {best:Array Value} {fn fm:Value} {x:World} (h:Kp H yb best fn fm x):x.cell? ⟨yb,0,none⟩=some fn:=by simp [World.cell?,h.yy]
theorem Kp.keep {H yb xb:Nat} {best:Array Value} {fn fm:Value} {x x':World} (h:Kp H yb best fn fm x) (hk:Keep xb x x') (h1:xb<H) (h2:H+2≤yb):Kp H yb best fn fm x' :=
 ⟨by rw [hk.2 H (heap_lt h.rb) (by omega)];exact h.rb,by rw [hk.2 (H+1) (heap_lt h.bb) (by omega)];exact h.bb,by rw [hk.2 yb (heap_lt h.yy) (by omega)];exact h.yy⟩
theorem Kp.drewN {H yb:Nat} {best:Array Value} {fn fm:Value} {x:World} (h:Kp H yb best fn fm x) (q:Nat):Kp H yb best fn fm (x.drewN q):=⟨h.rb,h.bb,h.yy⟩
theorem Kp.alloc {H yb:Nat} {best:Array Value} {fn fm:Value} {x:World} (h:Kp H yb best fn fm x) (o:Obj):Kp H yb best fn fm (x.alloc o) :=
 ⟨by rw [Below.heap_alloc _ _ _ (heap_lt h.rb)];exact h.rb,by rw [Below.heap_alloc _ _ _ (heap_lt h.bb)];exact h.bb,by rw [Below.heap_alloc _ _ _ (heap_lt h.yy)];exact h.yy⟩
theorem Kp.set {H yb k:Nat} {best:Array Value} {fn fm:Value} {x:World} (h:Kp H yb best fn fm x) (o:Nat) (v:Value) (h1:k≠H) (h2:k≠H+1) (h3:k≠yb):Kp H yb best fn fm (x.setCell ⟨k,o,none⟩ v) :=
 ⟨by rw [heap_setCell_other _ _ _ _ (by exact h1.symm)];exact h.rb,by rw [heap_setCell_other _ _ _ _ (by exact h2.symm)];exact h.bb,by rw [heap_setCell_other _ _ _ _ (by exact h3.symm)];exact h.yy⟩
def NextIs (SS:World→Prop) (H yb:Nat) (best:Array Value) (fn fm:Value) (i b:Int) (v:Value) (x:World):Prop :=
 ∃ nb,v=.pointer (some ⟨nb,0,none⟩)∧SS x∧Kp H yb best fn fm x∧x.heap[nb]?=some (.cells #[.int .i64 i,.int .i64 b] 69 (0,0))∧H+2≤nb∧nb≠yb
theorem next_done1 {SS:World→Prop} {H yb nb:Nat} {best:Array Value} {fn fm:Value} {x:World} (i b:Int) (hset:∀ x o v,SS x→SS (x.setCell ⟨nb,o,none⟩ v)) (h1:SS x) (h2:Kp H yb best fn fm x) (h3:x.heap[nb]?=some (.cells #[.int .i64 0,.int .i64 0] 69 (0,0))) (h4:H+2≤nb) (h5:nb≠yb) :
  NextIs SS H yb best fn fm i b (.pointer (some ⟨nb,0,none⟩)) ((x.setCell ⟨nb,0,none⟩ (.int .i64 i)).setCell ⟨nb,1,none⟩ (.int .i64 b)):=by
 refine ⟨nb,rfl,hset _ _ _ (hset _ _ _ h1),(h2.set _ _ (by omega) (by omega) h5).set _ _ (by omega) (by omega) h5,?_,h4,h5⟩
 rw [heap_setCell_same _ nb 1 _ _ _ (heap_setCell_same _ nb 0 _ _ _ h3)]
 rfl
theorem choose_gen (n:Nat) (fns:Nat→Nat) (bs bi bb:Nat→Int) (gns:Nat→Nat) (S:Nat→Nat→Nat→World→Prop) (pp pb gw off cp xb:Nat) (at_:Int) (w:World) (H:Nat) (hH:Hid (H=w.heap.size)) (hn9:n≤9) (hn1:1≤n)
  (hb0:Hid (bi 0=0∧bb 0=0)) (hbn:Hid (∀ i,i<n→(bi (i+1),bb (i+1))=if i=0∨bs i<bb i then ((i:Int),bs i) else (bi i,bb i))) (hnz:Hid (∀ i,0<i→i≤n→(bb i == 0)=false))
  (hcall:∀ (i:Nat) (args:Array Value) (x:World),Sem.run Tryz.prog (callFunc (fns i) args) x=.ok (.enter (fns i) args) x)
  (hway:∀ x,S 0 H H x→x.cell? ⟨pp,2,none⟩=some (.slice (some ⟨gw,off,none⟩) n cp))
  (hfn:∀ i p q x,i<n→S i p q x→x.cell? ⟨gw,off+i*2,none⟩=some (.func (.func (fns i)) #[] #[])∧x.cell? ⟨gw,off+i*2+1,none⟩=some (.func (.func (gns i)) #[] #[]))
  (hcell:∀ i p q x,S i p q x→x.cell? ⟨pp,0,none⟩=some (.pointer (some ⟨pb,0,none⟩)))
  (halloc:∀ i p q x o,S i p q x→S i p q (x.alloc o)) (hset:∀ i p q x k o v,S i p q x→H≤k→(k<p∨q≤k)→S i p q (x.setCell ⟨k,o,none⟩ v)) (hdrew:∀ i p q x m,S i p q x→S i p q (x.drewN m))
  (hlen:∀ i p q x,i<n→S i p q x→Calls Tryz.prog 66 #[.pointer (some ⟨pb,0,none⟩)] x fun e x'=>e=.returned (.int .i64 at_)∧∃ m,x'=x.drewN m)
  (hwgh:∀ i p q x,i<n→S i p q x→Calls Tryz.prog (fns i) #[.pointer (some ⟨xb,0,none⟩),.int .i64 at_] x fun e x'=>e=.returned (.int .i64 (bs i))∧Keep xb x x'∧∃ p' q',S (i+1) p' q' x'∧q'≤x'.heap.size∧∀ k,k<x.heap.size→H≤k→(k<p∨q≤k)→(k<p'∨q'≤k))
  (hxb:xb<H) (h0:S 0 H H w) :
  Calls Tryz.prog 30 #[.pointer (some ⟨pp,0,none⟩),.pointer (some ⟨xb,0,none⟩)] w fun e w'=>e=.returned (.agg #[.int .i64 (bi n),.int .i64 (bb n)])∧∃ p q,S n p q w':=by
 obtain ⟨W2,hW2⟩:∃ W2,W2=(w.alloc (.cells #[.int .i64 0,.int .i64 0] 69)).alloc (.cells #[.int .i64 0,.int .i64 0] 69):=⟨_,rfl⟩
 have HSS2:Hid (S 0 H H W2):=qz (by rw [hW2];exact halloc _ _ _ _ _ (halloc _ _ _ _ _ h0))
 have HR2:Hid (W2.heap[H]?=some (.cells #[.int .i64 0,.int .i64 0] 69 (0,0))):=qz (by rw [hW2,uh hH,Below.heap_alloc _ _ _ (by simp)];exact heap_alloc_new _ _)
 have HT2:Hid (W2.heap[H+1]?=some (.cells #[.int .i64 0,.int .i64 0] 69 (0,0))):=qz (by rw [hW2,uh hH,show w.heap.size+1=(w.alloc (.cells #[.int .i64 0,.int .i64 0] 69)).heap.size by simp];exact heap_alloc_new _ _)
 have e2:=hway W2 (uh HSS2)
 have e2':=e2
 rw [hW2] at e2'
 clear h0
 go_enter Tryz.func30,Tryz.ntmps30
 go_wp2_with fail
 rw [← hW2,← uh hH]
 clear hW2 e2'
 go_loopg [14] n (fun gk kv ws=>∃ i p q,gk=n - i∧kv=.int .i64 (i:Int)∧i≤n∧Hid (S i p q ws)∧Hid (((H<p∨q≤H)∧(H+1<p∨q≤H+1))∧q≤ws.heap.size)∧Hid (ws.heap[H]?=some (.cells #[.int .i64 0,.int .i64 0] 69 (0,0)))∧Hid (ws.heap[H+1]?=some (.cells #[.int .i64 (bi i),.int .i64 (bb i)] 69 (0,0))))
 case atStart=>exact ⟨0,H,H,rfl,rfl,by omega,HSS2,qz ⟨⟨.inr (Nat.le_refl _),.inr (by omega)⟩,by have:=heap_lt (uh HR2);omega⟩,HR2,qz (by rw [(uh hb0).1,(uh hb0).2];exact uh HT2)⟩
 case round =>
  clear HSS2 HR2 HT2 e2
  obtain ⟨i,p,q,rfl,rfl,hile,hs,hu,hr,hb⟩:=hrel
  by_cases hin:i<n
  ·have hin':(i:Int)<(n:Int):=by omega
   obtain ⟨y0,y1⟩:=hfn i p q wr hin (uh hs)
   have z0:(wr.alloc (.cells #[.nilFunc,.nilFunc] 59)).cell? ⟨wr.heap.size,0,none⟩=some .nilFunc:=by simp only [World.cell?,heap_alloc_new];rfl
   have z1:(wr.alloc (.cells #[.nilFunc,.nilFunc] 59)).cell? ⟨wr.heap.size,1,none⟩=some .nilFunc:=by simp only [World.cell?,heap_alloc_new];rfl
   have z2:∀ o,(wr.alloc (.cells #[.nilFunc,.nilFunc] 59)).frozen? ⟨wr.heap.size,o,none⟩=false:=fun o=>by simp only [World.frozen?,heap_alloc_new];simp
   go_upto_region 5 with fail
   obtain ⟨yb,hyb0⟩:∃ yb,yb=wr.heap.size:=⟨_,rfl⟩
   obtain ⟨W3,hW3⟩:∃ W3,W3=wr.alloc (.cells #[(.func (.func (fns i)) #[] #[]),(.func (.func (gns i)) #[] #[])] 59):=⟨_,rfl⟩
   have hyb:H+2≤yb:=by rw [hyb0];have:=heap_lt (uh hb);omega
   have HSS3:Hid (S i p q W3):=qz (by rw [hW3];exact halloc _ _ _ _ _ (uh hs))
   have HKP3:Hid (Kp H yb #[.int .i64 (bi i),.int .i64 (bb i)] (.func (.func (fns i)) #[] #[]) (.func (.func (gns i)) #[] #[]) W3):=qz (by
    rw [hW3,hyb0]
    exact ⟨by rw [Below.heap_alloc _ _ _ (heap_lt (uh hr))];exact uh hr,by rw [Below.heap_alloc _ _ _ (heap_lt (uh hb))];exact uh hb,heap_alloc_new _ _⟩)
   have HQ3:Hid (q≤W3.heap.size):=qz (by rw [hW3];simp;have:=(uh hu).2;omega)
   have HU:=qz (uh hu).1
   rw [← hW3,← hyb0]
   clear hW3 hyb0 hs hr hb hu y0 y1 z0 z1 z2
   go_cut [8] (fun v8 wc=>∃ p' q',((H<p'∨q'≤H)∧(H+1<p'∨q'≤H+1))∧q'≤wc.heap.size∧NextIs (S (i+1) p' q') H yb #[.int .i64 (bi i),.int .i64 (bb i)] (.func (.func (fns i)) #[] #[]) (.func (.func (gns i)) #[] #[]) (i:Int) (bs i) v8 wc)
   case first =>
    refine wp_region_noPanic ?_
    refine wp_region_held_drew (S:=fun x=>(∃ j p q,S j p q x)∧Kp H yb #[.int .i64 (bi i),.int .i64 (bb i)] (.func (.func (fns i)) #[] #[]) (.func (.func (gns i)) #[] #[]) x) (by kernel_rfl) ⟨⟨_,_,_,hdrew _ _ _ _ 1 (uh HSS3)⟩,(uh HKP3).drewN 1⟩ (fun hHeld=>?_)
    obtain ⟨x0,hx0⟩:∃ x0,x0=W3.drew:=⟨_,rfl⟩
    have HS0:Hid (S i p q x0):=qz (by rw [hx0];exact hdrew _ _ _ _ 1 (uh HSS3))
    have HK0:Hid (Kp H yb #[.int .i64 (bi i),.int .i64 (bb i)] (.func (.func (fns i)) #[] #[]) (.func (.func (gns i)) #[] #[]) x0):=qz (by rw [hx0];exact (uh HKP3).drewN 1)
    have HZ0:Hid (yb<x0.heap.size∧q≤x0.heap.size):=qz (by rw [hx0];exact ⟨heap_lt (uh HKP3).yy,uh HQ3⟩)
    show wpAnyH _ _ _ _ _ _ _ _ W3.drew
    rw [← hx0] at hHeld ⊢
    clear hx0
    refine hT 0 19 rfl rfl hHeld nPp (v:=?_) (fun x hSx=>?_) ?_
    rotate_left 1
    ·go_simp <;> with_reducible rfl
    simp only [sA,sB]
    refine hT 1 20 rfl rfl hHeld nPp (v:=?_) (fun x hSx=>?_) ?_
    rotate_left 1
    ·go_simp <;> with_reducible rfl
    simp only [sA,sB]
    refine hT 2 21 rfl rfl hHeld nPp (v:=?_) (fun x hSx=>?_) ?_
    rotate_left 1
    ·have q:=hSx.2.y0;clear hSx;go_simp <;> with_reducible rfl
    simp only [sA,sB]
    refine hT 3 22 rfl rfl hHeld nPp (v:=?_) (fun x hSx=>?_) ?_
    rotate_left 1
    ·go_simp <;> with_reducible rfl
    simp only [sA,sB]
    refine hT 4 23 rfl rfl hHeld nPp (v:=?_) (fun x hSx=>?_) ?_
    rotate_left 1
    ·go_simp <;> with_reducible rfl
    simp only [sA,sB]
    refine hT 5 24 rfl rfl hHeld nPp (v:=?_) (fun x hSx=>?_) ?_
    rotate_left 1
    ·go_simp <;> with_reducible rfl
    simp only [sA,sB]
    refine hT 6 25 rfl rfl hHeld nPp (v:=?_) (fun x hSx=>?_) ?_
    rotate_left 1
    ·go_simp <;> with_reducible rfl
    simp only [sA,sB]
    refine hT 7 26 rfl rfl hHeld nPp (v:=?_) (fun x hSx=>?_) ?_
    rotate_left 1
    ·have q:=(let ⟨j,p,q,h⟩:=hSx.1;hcell j p q x h);clear hSx;go_simp <;> with_reducible rfl
    simp only [sA,sB]
    refine held_two (i:=8) (j:=11) (by kernel_rfl) rfl rfl (fun K hK=>?_) (fun K hK=>?_)
    ·
     refine held_go_enter 8 27 hK rfl (by rfl) (by go_simp <;> exact ⟨rfl,rfl⟩) ?_
     refine (hlen i p q x0 hin (uh HS0)).mono ?_
     rintro e x1 ⟨rfl,q1,hq1⟩
     have HS1:Hid (S i p q x1):=qz (by rw [hq1];exact hdrew _ _ _ _ _ (uh HS0))
     have HK1:Hid (Kp H yb #[.int .i64 (bi i),.int .i64 (bb i)] (.func (.func (fns i)) #[] #[]) (.func (.func (gns i)) #[] #[]) x1):=qz (by rw [hq1];exact (uh HK0).drewN _)
     have HZ1:Hid (yb<x1.heap.size∧q≤x1.heap.size):=qz (by rw [hq1];exact uh HZ0)
     clear hq1
     refine ⟨_,rfl,⟨⟨_,_,_,uh HS1⟩,uh HK1⟩,?_⟩
     simp only [sA,sB]
     refine held_two (i:=9) (j:=11) (by kernel_rfl) rfl rfl (fun K hK=>?_) (fun K hK=>?_)
     ·
      refine held_go_enter 9 28 hK rfl (by rfl) (by go_simp <;> exact ⟨rfl,rfl⟩) ?_
      refine (hwgh i p q x1 hin (uh HS1)).mono ?_
      rintro e x2 ⟨rfl,k2,p',q',s2,z2,u2⟩
      have HS2:Hid (S (i+1) p' q' x2):=qz s2
      have HK2:Hid (Kp H yb #[.int .i64 (bi i),.int .i64 (bb i)] (.func (.func (fns i)) #[] #[]) (.func (.func (gns i)) #[] #[]) x2):=qz ((uh HK1).keep k2 hxb hyb)
      have HZ2:Hid (yb<x2.heap.size∧q'≤x2.heap.size):=qz ⟨Nat.lt_of_lt_of_le (uh HZ1).1 k2.1,z2⟩
      have HP:Hid ((H<p'∨q'≤H)∧(H+1<p'∨q'≤H+1)):=qz ⟨u2 H (by have:=(uh HZ1).1;omega) (by omega) (uh HU).1,u2 (H+1) (by have:=(uh HZ1).1;omega) (by omega) (uh HU).2⟩
      clear s2 k2 z2 u2
      refine ⟨_,rfl,⟨⟨_,_,_,uh HS2⟩,uh HK2⟩,?_⟩
      simp only [sA,sB]
      refine hT 10 29 rfl rfl ⟨⟨_,_,_,uh HS2⟩,uh HK2⟩ nPp (v:=?_) (fun x hSx=>?_) ?_
      rotate_left 1
      ·go_simp <;> with_reducible rfl
      simp only [sA,sB]
      refine held_one 11 8 (by kernel_rfl) rfl rfl (by rfl) (v:=.pointer (some ⟨x2.heap.size,0,none⟩)) (w':=x2.alloc (.cells #[.int .i64 0,.int .i64 0] 69)) ?_ ⟨⟨_,_,_,halloc _ _ _ _ _ (uh HS2)⟩,(uh HK2).alloc _⟩ ?_
      ·first | (go_simp;done) | (go_simp <;> first | exact ⟨rfl,rfl⟩ | rfl)
      simp only [sA,sB]
      obtain ⟨nb,hnb⟩:∃ nb,nb=x2.heap.size:=⟨_,rfl⟩
      obtain ⟨x3,hx3⟩:∃ x,x=x2.alloc (.cells #[.int .i64 0,.int .i64 0] 69):=⟨_,rfl⟩
      have HS3:Hid (S (i+1) p' q' x3):=qz (by rw [hx3];exact halloc _ _ _ _ _ (uh HS2))
      have HK3:Hid (Kp H yb #[.int .i64 (bi i),.int .i64 (bb i)] (.func (.func (fns i)) #[] #[]) (.func (.func (gns i)) #[] #[]) x3):=qz (by rw [hx3];exact (uh HK2).alloc _)
      have HZ3:Hid (yb<x3.heap.size∧q'≤x3.heap.size):=qz (by rw [hx3];simp;have:=uh HZ2;omega)
      have HN3:Hid (x3.heap[nb]?=some (.cells #[.int .i64 0,.int .i64 0] 69 (0,0))):=qz (by rw [hx3,hnb];exact heap_alloc_new _ _)
      have HNB:Hid (yb<nb):=qz (by rw [hnb];exact (uh HZ2).1)
      have HF:Hid (nb<p'∨q'≤nb):=qz (by rw [hnb];exact .inr (uh HZ2).2)
      rw [← hx3,← hnb]
      clear hx3 hnb
      have hc0:x3.cell? ⟨nb,0,none⟩=some (.int .i64 0):=by simp [World.cell?,uh HN3]
      have hc1:x3.cell? ⟨nb,1,none⟩=some (.int .i64 0):=by simp [World.cell?,uh HN3]
      have hf0:x3.frozen? ⟨nb,0,none⟩=false:=by simp [World.frozen?,uh HN3]
      have hf1:x3.frozen? ⟨nb,1,none⟩=false:=by simp [World.frozen?,uh HN3]
      have HD:=qz (next_done1 (i:Int) (bs i) (fun x o v h=>hset _ _ _ x nb o v h (by have:=uh HNB;omega) (uh HF)) (uh HS3) (uh HK3) (uh HN3) (by have:=uh HNB;omega) (by have:=uh HNB;omega))
      refine held_skip 12 (by kernel_rfl) rfl rfl (by rfl) (w':=(x3.setCell ⟨nb,0,none⟩ (.int .i64 (i:Int))).setCell ⟨nb,1,none⟩ (.int .i64 (bs i))) ?_ ⟨⟨_,_,_,by obtain ⟨_,_,h,_⟩:=uh HD;exact h⟩,by obtain ⟨_,_,_,h,_⟩:=uh HD;exact h⟩ ?_
      ·first | (go_simp;done) | (go_simp <;> rfl)
      refine wpAnyH_done (by kernel_rfl) ?_ _
      refine NoPanic.normal ?_
      go_wp2_with fail
      go_meet
      exact ⟨_,_,uh HP,by rw [World.size_setCell,World.size_setCell];exact (uh HZ3).2,uh HD⟩
     ·
      refine held_go 11 8 hK rfl (by rfl) (v:=.pointer (some ⟨x1.heap.size,0,none⟩)) (w':=x1.alloc (.cells #[.int .i64 0,.int .i64 0] 69)) ?_ ⟨⟨_,_,_,halloc _ _ _ _ _ (uh HS1)⟩,(uh HK1).alloc _⟩ ?_
      ·first | (go_simp;done) | (go_simp <;> first | exact ⟨rfl,rfl⟩ | rfl)
      simp only [sA,sB]
      obtain ⟨nb,hnb⟩:∃ nb,nb=x1.heap.size:=⟨_,rfl⟩
      obtain ⟨x2,hx2⟩:∃ x,x=x1.alloc (.cells #[.int .i64 0,.int .i64 0] 69):=⟨_,rfl⟩
      have HS2:Hid (S i p q x2):=qz (by rw [hx2];exact halloc _ _ _ _ _ (uh HS1))
      have HK2:Hid (Kp H yb #[.int .i64 (bi i),.int .i64 (bb i)] (.func (.func (fns i)) #[] #[]) (.func (.func (gns i)) #[] #[]) x2):=qz (by rw [hx2];exact (uh HK1).alloc _)
      have HZ2:Hid (yb<x2.heap.size∧q≤x2.heap.size):=qz (by rw [hx2];simp;have:=uh HZ1;omega)
      have HN2:Hid (x2.heap[nb]?=some (.cells #[.int .i64 0,.int .i64 0] 69 (0,0))):=qz (by rw [hx2,hnb];exact heap_alloc_new _ _)
      have HNB:Hid (yb<nb):=qz (by rw [hnb];exact (uh HZ1).1)
      have HNQ:Hid (q≤nb):=qz (by rw [hnb];exact (uh HZ1).2)
      rw [← hx2,← hnb]
      clear hx2 hnb
      refine held_enter 9 28 (by kernel_rfl) rfl rfl (by rfl) (by go_simp <;> exact ⟨rfl,rfl⟩) ?_
      refine (hwgh i p q x2 hin (uh HS2)).mono ?_
      rintro e x3 ⟨rfl,k3,p',q',s3,z3,u3⟩
      have HS3:Hid (S (i+1) p' q' x3):=qz s3
      have HK3:Hid (Kp H yb #[.int .i64 (bi i),.int .i64 (bb i)] (.func (.func (fns i)) #[] #[]) (.func (.func (gns i)) #[] #[]) x3):=qz ((uh HK2).keep k3 hxb hyb)
      have HZ3:Hid (yb<x3.heap.size∧q'≤x3.heap.size):=qz ⟨Nat.lt_of_lt_of_le (uh HZ2).1 k3.1,z3⟩
      have HP:Hid ((H<p'∨q'≤H)∧(H+1<p'∨q'≤H+1)):=qz ⟨u3 H (by have:=(uh HZ2).1;omega) (by omega) (uh HU).1,u3 (H+1) (by have:=(uh HZ2).1;omega) (by omega) (uh HU).2⟩
      have HF:Hid (nb<p'∨q'≤nb):=qz (u3 nb (heap_lt (uh HN2)) (by have:=uh HNB;omega) (.inr (uh HNQ)))
      have HN3:Hid (x3.heap[nb]?=some (.cells #[.int .i64 0,.int .i64 0] 69 (0,0))):=qz (by rw [k3.2 nb (heap_lt (uh HN2)) (by have:=uh HNB;omega)];exact uh HN2)
      clear s3 k3 z3 u3
      refine ⟨_,rfl,⟨⟨_,_,_,uh HS3⟩,uh HK3⟩,?_⟩
      simp only [sA,sB]
      refine hT 10 29 rfl rfl ⟨⟨_,_,_,uh HS3⟩,uh HK3⟩ nPp (v:=?_) (fun x hSx=>?_) ?_
      rotate_left 1
      ·go_simp <;> with_reducible rfl
      simp only [sA,sB]
      have hc0:x3.cell? ⟨nb,0,none⟩=some (.int .i64 0):=by simp [World.cell?,uh HN3]
      have hc1:x3.cell? ⟨nb,1,none⟩=some (.int .i64 0):=by simp [World.cell?,uh HN3]
      have hf0:x3.frozen? ⟨nb,0,none⟩=false:=by simp [World.frozen?,uh HN3]
      have hf1:x3.frozen? ⟨nb,1,none⟩=false:=by simp [World.frozen?,uh HN3]
      have HD:=qz (next_done1 (i:Int) (bs i) (fun x o v h=>hset _ _ _ x nb o v h (by have:=uh HNB;omega) (uh HF)) (uh HS3) (uh HK3) (uh HN3) (by have:=uh HNB;omega) (by have:=uh HNB;omega))
      refine held_skip 12 (by kernel_rfl) rfl rfl (by rfl) (w':=(x3.setCell ⟨nb,0,none⟩ (.int .i64 (i:Int))).setCell ⟨nb,1,none⟩ (.int .i64 (bs i))) ?_ ⟨⟨_,_,_,by obtain ⟨_,_,h,_⟩:=uh HD;exact h⟩,by obtain ⟨_,_,_,h,_⟩:=uh HD;exact h⟩ ?_
      ·first | (go_simp;done) | (go_simp <;> rfl)
      refine wpAnyH_done (by kernel_rfl) ?_ _
      refine NoPanic.normal ?_
      go_wp2_with fail
      go_meet
      exact ⟨_,_,uh HP,by rw [World.size_setCell,World.size_setCell];exact (uh HZ3).2,uh HD⟩
    ·
     refine held_go 11 8 hK rfl (by rfl) (v:=.pointer (some ⟨x0.heap.size,0,none⟩)) (w':=x0.alloc (.cells #[.int .i64 0,.int .i64 0] 69)) ?_ ⟨⟨_,_,_,halloc _ _ _ _ _ (uh HS0)⟩,(uh HK0).alloc _⟩ ?_
     ·first | (go_simp;done) | (go_simp <;> first | exact ⟨rfl,rfl⟩ | rfl)
     simp only [sA,sB]
     obtain ⟨nb,hnb⟩:∃ nb,nb=x0.heap.size:=⟨_,rfl⟩
     obtain ⟨x1,hx1⟩:∃ x,x=x0.alloc (.cells #[.int .i64 0,.int .i64 0] 69):=⟨_,rfl⟩
     have HS1:Hid (S i p q x1):=qz (by rw [hx1];exact halloc _ _ _ _ _ (uh HS0))
     have HK1:Hid (Kp H yb #[.int .i64 (bi i),.int .i64 (bb i)] (.func (.func (fns i)) #[] #[]) (.func (.func (gns i)) #[] #[]) x1):=qz (by rw [hx1];exact (uh HK0).alloc _)
     have HZ1:Hid (yb<x1.heap.size∧q≤x1.heap.size):=qz (by rw [hx1];simp;have:=uh HZ0;omega)
     have HN1:Hid (x1.heap[nb]?=some (.cells #[.int .i64 0,.int .i64 0] 69 (0,0))):=qz (by rw [hx1,hnb];exact heap_alloc_new _ _)
     have HNB:Hid (yb<nb):=qz (by rw [hnb];exact (uh HZ0).1)
     have HNQ:Hid (q≤nb):=qz (by rw [hnb];exact (uh HZ0).2)
     rw [← hx1,← hnb]
     clear hx1 hnb
     refine held_enter 8 27 (by kernel_rfl) rfl rfl (by rfl) (by go_simp <;> exact ⟨rfl,rfl⟩) ?_
     refine (hlen i p q x1 hin (uh HS1)).mono ?_
     rintro e x2 ⟨rfl,q2,hq2⟩
     have HS2:Hid (S i p q x2):=qz (by rw [hq2];exact hdrew _ _ _ _ _ (uh HS1))
     have HK2:Hid (Kp H yb #[.int .i64 (bi i),.int .i64 (bb i)] (.func (.func (fns i)) #[] #[]) (.func (.func (gns i)) #[] #[]) x2):=qz (by rw [hq2];exact (uh HK1).drewN _)
     have HZ2:Hid (yb<x2.heap.size∧q≤x2.heap.size):=qz (by rw [hq2];exact uh HZ1)
     have HN2:Hid (x2.heap[nb]?=some (.cells #[.int .i64 0,.int .i64 0] 69 (0,0))):=qz (by rw [hq2];exact uh HN1)
     clear hq2
     refine ⟨_,rfl,⟨⟨_,_,_,uh HS2⟩,uh HK2⟩,?_⟩
     simp only [sA,sB]
     refine held_enter 9 28 (by kernel_rfl) rfl rfl (by rfl) (by go_simp <;> exact ⟨rfl,rfl⟩) ?_
     refine (hwgh i p q x2 hin (uh HS2)).mono ?_
     rintro e x3 ⟨rfl,k3,p',q',s3,z3,u3⟩
     have HS3:Hid (S (i+1) p' q' x3):=qz s3
     have HK3:Hid (Kp H yb #[.int .i64 (bi i),.int .i64 (bb i)] (.func (.func (fns i)) #[] #[]) (.func (.func (gns i)) #[] #[]) x3):=qz ((uh HK2).keep k3 hxb hyb)
     have HZ3:Hid (yb<x3.heap.size∧q'≤x3.heap.size):=qz ⟨Nat.lt_of_lt_of_le (uh HZ2).1 k3.1,z3⟩
     have HP:Hid ((H<p'∨q'≤H)∧(H+1<p'∨q'≤H+1)):=qz ⟨u3 H (by have:=(uh HZ2).1;omega) (by omega) (uh HU).1,u3 (H+1) (by have:=(uh HZ2).1;omega) (by omega) (uh HU).2⟩
     have HF:Hid (nb<p'∨q'≤nb):=qz (u3 nb (heap_lt (uh HN2)) (by have:=uh HNB;omega) (.inr (uh HNQ)))
     have HN3:Hid (x3.heap[nb]?=some (.cells #[.int .i64 0,.int .i64 0] 69 (0,0))):=qz (by rw [k3.2 nb (heap_lt (uh HN2)) (by have:=uh HNB;omega)];exact uh HN2)
     clear s3 k3 z3 u3
     refine ⟨_,rfl,⟨⟨_,_,_,uh HS3⟩,uh HK3⟩,?_⟩
     simp only [sA,sB]
     refine hT 10 29 rfl rfl ⟨⟨_,_,_,uh HS3⟩,uh HK3⟩ nPp (v:=?_) (fun x hSx=>?_) ?_
     rotate_left 1
     ·go_simp <;> with_reducible rfl
     simp only [sA,sB]
     have hc0:x3.cell? ⟨nb,0,none⟩=some (.int .i64 0):=by simp [World.cell?,uh HN3]
     have hc1:x3.cell? ⟨nb,1,none⟩=some (.int .i64 0):=by simp [World.cell?,uh HN3]
     have hf0:x3.frozen? ⟨nb,0,none⟩=false:=by simp [World.frozen?,uh HN3]
     have hf1:x3.frozen? ⟨nb,1,none⟩=false:=by simp [World.frozen?,uh HN3]
     have HD:=qz (next_done1 (i:Int) (bs i) (fun x o v h=>hset _ _ _ x nb o v h (by have:=uh HNB;omega) (uh HF)) (uh HS3) (uh HK3) (uh HN3) (by have:=uh HNB;omega) (by have:=uh HNB;omega))
     refine held_skip 12 (by kernel_rfl) rfl rfl (by rfl) (w':=(x3.setCell ⟨nb,0,none⟩ (.int .i64 (i:Int))).setCell ⟨nb,1,none⟩ (.int .i64 (bs i))) ?_ ⟨⟨_,_,_,by obtain ⟨_,_,h,_⟩:=uh HD;exact h⟩,by obtain ⟨_,_,_,h,_⟩:=uh HD;exact h⟩ ?_
     ·first | (go_simp;done) | (go_simp <;> rfl)
     refine wpAnyH_done (by kernel_rfl) ?_ _
     refine NoPanic.normal ?_
     go_wp2_with fail
     go_meet
     exact ⟨_,_,uh HP,by rw [World.size_setCell,World.size_setCell];exact (uh HZ3).2,uh HD⟩
   case rest =>
    obtain ⟨p',q',hp,hq,nb,rfl,hs,hk,hn,hn1,hn2⟩:=hcut
    have HP4:=qz hp
    have b0:wc.cell? ⟨H+1,0,none⟩=some (.int .i64 (bi i)):=by simp [World.cell?,hk.bb]
    have b1':wc.cell? ⟨H+1,1,none⟩=some (.int .i64 (bb i)):=by simp [World.cell?,hk.bb]
    have bf:∀ o,wc.frozen? ⟨H+1,o,none⟩=false:=fun o=>by simp [World.frozen?,hk.bb]
    have n0:wc.cell? ⟨nb,0,none⟩=some (.int .i64 (i:Int)):=by simp [World.cell?,hn]
    have n1:wc.cell? ⟨nb,1,none⟩=some (.int .i64 (bs i)):=by simp [World.cell?,hn]
    have hx:=uh hbn i hin
    by_cases hi0:i=0
    ·rw [if_pos (.inl hi0)] at hx
     obtain ⟨e1,e2⟩:bi (i+1)=(i:Int)∧bb (i+1)=bs i:=⟨(Prod.mk.inj hx).1,(Prod.mk.inj hx).2⟩
     have HS4:Hid (S (i+1) p' q' ((wc.setCell ⟨H+1,0,none⟩ (.int .i64 (i:Int))).setCell ⟨H+1,1,none⟩ (.int .i64 (bs i)))):=qz (hset _ _ _ _ _ _ _ (hset _ _ _ _ _ _ _ hs (by omega) hp.2) (by omega) hp.2)
     have HR4:Hid (((wc.setCell ⟨H+1,0,none⟩ (.int .i64 (i:Int))).setCell ⟨H+1,1,none⟩ (.int .i64 (bs i))).heap[H]?=some (.cells #[.int .i64 0,.int .i64 0] 69 (0,0))):=qz (by rw [heap_setCell_other _ _ _ _ (by show H≠H+1;omega),heap_setCell_other _ _ _ _ (by show H≠H+1;omega)];exact hk.rb)
     have HB4:Hid (((wc.setCell ⟨H+1,0,none⟩ (.int .i64 (i:Int))).setCell ⟨H+1,1,none⟩ (.int .i64 (bs i))).heap[H+1]?=some (.cells #[.int .i64 (bi (i+1)),.int .i64 (bb (i+1))] 69 (0,0))):=qz (by rw [e1,e2,heap_setCell_same _ (H+1) 1 _ _ _ (heap_setCell_same _ (H+1) 0 _ _ _ hk.bb)];rfl)
     have HQ4:Hid (q'≤((wc.setCell ⟨H+1,0,none⟩ (.int .i64 (i:Int))).setCell ⟨H+1,1,none⟩ (.int .i64 (bs i))).heap.size):=qz (by rw [World.size_setCell,World.size_setCell];exact hq)
     clear e1 e2
     have z0:(bi i == 0)=true:=by rw [hi0,(uh hb0).1];rfl
     have z1:(bb i == 0)=true:=by rw [hi0,(uh hb0).2];rfl
     have z2:bi i=0:=by rw [hi0];exact (uh hb0).1
     have z3:bb i=0:=by rw [hi0];exact (uh hb0).2
     rw [z2] at b0
     rw [z3] at b1'
     clear hx hi0 z0 z1 z2 z3 hp
     clear hs hk hn hq
     go_wp2_with fail
     go_roundg (n - (i+1))
     case measure=>omega
     case rel=>exact ⟨i+1,p',q',rfl,by go_num,by omega,HS4,qz ⟨uh HP4,uh HQ4⟩,HR4,HB4⟩
    ·have hnz1:=uh hnz i (by omega) (by omega)
     by_cases hlt:bs i<bb i
     ·rw [if_pos (.inr hlt)] at hx
      obtain ⟨e1,e2⟩:bi (i+1)=(i:Int)∧bb (i+1)=bs i:=⟨(Prod.mk.inj hx).1,(Prod.mk.inj hx).2⟩
      have HS4:Hid (S (i+1) p' q' ((wc.setCell ⟨H+1,0,none⟩ (.int .i64 (i:Int))).setCell ⟨H+1,1,none⟩ (.int .i64 (bs i)))):=qz (hset _ _ _ _ _ _ _ (hset _ _ _ _ _ _ _ hs (by omega) hp.2) (by omega) hp.2)
      have HR4:Hid (((wc.setCell ⟨H+1,0,none⟩ (.int .i64 (i:Int))).setCell ⟨H+1,1,none⟩ (.int .i64 (bs i))).heap[H]?=some (.cells #[.int .i64 0,.int .i64 0] 69 (0,0))):=qz (by rw [heap_setCell_other _ _ _ _ (by show H≠H+1;omega),heap_setCell_other _ _ _ _ (by show H≠H+1;omega)];exact hk.rb)
      have HB4:Hid (((wc.setCell ⟨H+1,0,none⟩ (.int .i64 (i:Int))).setCell ⟨H+1,1,none⟩ (.int .i64 (bs i))).heap[H+1]?=some (.cells #[.int .i64 (bi (i+1)),.int .i64 (bb (i+1))] 69 (0,0))):=qz (by rw [e1,e2,heap_setCell_same _ (H+1) 1 _ _ _ (heap_setCell_same _ (H+1) 0 _ _ _ hk.bb)];rfl)
      have HQ4:Hid (q'≤((wc.setCell ⟨H+1,0,none⟩ (.int .i64 (i:Int))).setCell ⟨H+1,1,none⟩ (.int .i64 (bs i))).heap.size):=qz (by rw [World.size_setCell,World.size_setCell];exact hq)
      clear e1 e2
      clear hx hi0 hp
      clear hs hk hn hq
      go_wp2_with fail
      go_roundg (n - (i+1))
      case measure=>omega
      case rel=>exact ⟨i+1,p',q',rfl,by go_num,by omega,HS4,qz ⟨uh HP4,uh HQ4⟩,HR4,HB4⟩
     ·rw [if_neg (by omega)] at hx
      obtain ⟨e1,e2⟩:bi (i+1)=bi i∧bb (i+1)=bb i:=⟨(Prod.mk.inj hx).1,(Prod.mk.inj hx).2⟩
      have HS4:Hid (S (i+1) p' q' wc):=qz hs
      have HR4:Hid (wc.heap[H]?=some (.cells #[.int .i64 0,.int .i64 0] 69 (0,0))):=qz hk.rb
      have HB4:Hid (wc.heap[H+1]?=some (.cells #[.int .i64 (bi (i+1)),.int .i64 (bb (i+1))] 69 (0,0))):=qz (by rw [e1,e2];exact hk.bb)
      have HQ4:Hid (q'≤wc.heap.size):=qz hq
      clear e1 e2
      clear hx hi0 hp
      clear hs hk hn hq
      go_wp2_with fail
      go_roundg (n - (i+1))
      case measure=>omega
      case rel=>exact ⟨i+1,p',q',rfl,by go_num,by omega,HS4,qz ⟨uh HP4,uh HQ4⟩,HR4,HB4⟩
  ·obtain rfl:i=n:=by omega
   have r0:wr.cell? ⟨H,0,none⟩=some (.int .i64 0):=by simp [World.cell?,uh hr]
   have r1:wr.cell? ⟨H,1,none⟩=some (.int .i64 0):=by simp [World.cell?,uh hr]
   have rf:∀ o,wr.frozen? ⟨H,o,none⟩=false:=fun o=>by simp [World.frozen?,uh hr]
   have b0:wr.cell? ⟨H+1,0,none⟩=some (.int .i64 (bi i)):=by simp [World.cell?,uh hb]
   have b2':wr.cell? ⟨H+1,1,none⟩=some (.int .i64 (bb i)):=by simp [World.cell?,uh hb]
   have HS5:Hid (S i p q ((wr.setCell ⟨H,0,none⟩ (.int .i64 (bi i))).setCell ⟨H,1,none⟩ (.int .i64 (bb i)))):=qz (hset _ _ _ _ _ _ _ (hset _ _ _ _ _ _ _ (uh hs) (Nat.le_refl _) (uh hu).1.1) (Nat.le_refl _) (uh hu).1.1)
   clear hs hr hb hu
   go_wp2_with fail
   refine bodyPost_ret (v:=.agg #[.int .i64 (bi i),.int .i64 (bb i)]) ?_ rfl ⟨rfl,p,q,uh HS5⟩
   rw [results_cell rfl]
   go_simp
theorem choose_two (n:Nat) (fns gns:Nat→Nat) (bs bi bb:Nat→Int) (S0:World→Prop) (S1:Nat→Nat→World→Prop) (pp pb gw off cp xb:Nat) (at_:Int) (w:World) (hn9:n≤9) (hn1:1≤n)
  (hb0:bi 0=0∧bb 0=0) (hbn:∀ i,i<n→(bi (i+1),bb (i+1))=if i=0∨bs i<bb i then ((i:Int),bs i) else (bi i,bb i)) (hnz:∀ i,0<i→i≤n→(bb i == 0)=false)
  (hcall:∀ (i:Nat) (args:Array Value) (x:World),Sem.run Tryz.prog (callFunc (fns i) args) x=.ok (.enter (fns i) args) x)
  (hway:∀ x,S0 x→x.cell? ⟨pp,2,none⟩=some (.slice (some ⟨gw,off,none⟩) n cp))
  (hfn:∀ i x,i<n→S0 x→x.cell? ⟨gw,off+i*2,none⟩=some (.func (.func (fns i)) #[] #[])∧x.cell? ⟨gw,off+i*2+1,none⟩=some (.func (.func (gns i)) #[] #[]))
  (hcell:∀ x,S0 x→x.cell? ⟨pp,0,none⟩=some (.pointer (some ⟨pb,0,none⟩))) (hcell1:∀ p q x,S1 p q x→x.cell? ⟨pp,0,none⟩=some (.pointer (some ⟨pb,0,none⟩)))
  (hsz:∀ x,S0 x→w.heap.size≤x.heap.size) (halloc:∀ x o,S0 x→S0 (x.alloc o)) (hset:∀ x k o v,S0 x→w.heap.size≤k→S0 (x.setCell ⟨k,o,none⟩ v)) (hdrew:∀ x m,S0 x→S0 (x.drewN m))
  (halloc1:∀ p q x o,S1 p q x→S1 p q (x.alloc o)) (hset1:∀ p q x k o v,S1 p q x→w.heap.size≤k→(k<p∨q≤k)→S1 p q (x.setCell ⟨k,o,none⟩ v)) (hdrew1:∀ p q x m,S1 p q x→S1 p q (x.drewN m))
  (hlen:∀ x,S0 x→Calls Tryz.prog 66 #[.pointer (some ⟨pb,0,none⟩)] x fun e x'=>e=.returned (.int .i64 at_)∧∃ m,x'=x.drewN m)
  (hw0:∀ i x,i+1<n→S0 x→Calls Tryz.prog (fns i) #[.pointer (some ⟨xb,0,none⟩),.int .i64 at_] x fun e x'=>e=.returned (.int .i64 (bs i))∧S0 x'∧Keep xb x x')
  (hw1:∀ i x,i+1=n→S0 x→Calls Tryz.prog (fns i) #[.pointer (some ⟨xb,0,none⟩),.int .i64 at_] x fun e x'=>e=.returned (.int .i64 (bs i))∧S1 x.heap.size x'.heap.size x'∧Keep xb x x')
  (hxb:xb<w.heap.size) (h0:S0 w) :
  Calls Tryz.prog 30 #[.pointer (some ⟨pp,0,none⟩),.pointer (some ⟨xb,0,none⟩)] w fun e w'=>e=.returned (.agg #[.int .i64 (bi n),.int .i64 (bb n)])∧∃ p q,S1 p q w':=by
 refine (choose_gen n fns bs bi bb gns (fun i p q x=>(i<n∧S0 x∧p=w.heap.size∧q=w.heap.size)∨(i=n∧S1 p q x)) pp pb gw off cp xb at_ w w.heap.size (qz rfl) hn9 hn1 (qz hb0) (qz hbn) (qz hnz) hcall ?_ ?_ ?_ ?_ ?_ ?_ ?_ ?_ hxb (.inl ⟨by omega,h0,rfl,rfl⟩)).mono ?_
 ·rintro x (⟨_,h,_⟩ | ⟨h,_⟩)
  ·exact hway x h
  ·omega
 ·rintro i p q x hi (⟨_,h,_⟩ | ⟨h,_⟩)
  ·exact hfn i x hi h
  ·omega
 ·rintro i p q x (⟨_,h,_⟩ | ⟨_,h⟩)
  ·exact hcell x h
  ·exact hcell1 p q x h
 ·rintro i p q x o (⟨h1,h,h2⟩ | ⟨h1,h⟩)
  ·exact .inl ⟨h1,halloc x o h,h2⟩
  ·exact .inr ⟨h1,halloc1 p q x o h⟩
 ·rintro i p q x k o v (⟨h1,h,h2⟩ | ⟨h1,h⟩) hk hpq
  ·exact .inl ⟨h1,hset x k o v h hk,h2⟩
  ·exact .inr ⟨h1,hset1 p q x k o v h hk hpq⟩
 ·rintro i p q x m (⟨h1,h,h2⟩ | ⟨h1,h⟩)
  ·exact .inl ⟨h1,hdrew x m h,h2⟩
  ·exact .inr ⟨h1,hdrew1 p q x m h⟩
 ·rintro i p q x hi (⟨_,h,_⟩ | ⟨h,_⟩)
  ·exact hlen x h
  ·omega
 ·rintro i p q x hi (⟨_,h,rfl,rfl⟩ | ⟨h,_⟩)
  ·by_cases h1:i+1<n
   ·refine (hw0 i x h1 h).mono ?_
    rintro e x' ⟨rfl,k1,k2⟩
    exact ⟨rfl,k2,_,_,.inl ⟨h1,k1,rfl,rfl⟩,hsz x' k1,fun k _ _ hk=>hk⟩
   ·refine (hw1 i x (by omega) h).mono ?_
    rintro e x' ⟨rfl,k1,k2⟩
    exact ⟨rfl,k2,_,_,.inr ⟨by omega,k1⟩,Nat.le_refl _,fun k hk _ _=>.inl hk⟩
  ·omega
 ·rintro e w' ⟨rfl,p,q,⟨h,_⟩ | ⟨_,h⟩⟩
  ·omega
  ·exact ⟨rfl,p,q,h⟩
end W4
namespace W4
open Go.RowKit Mth Infl Defl
theorem field69 (x:World) (a b:Int):(Instr.field 69 (.agg #[.int .i64 a,.int .i64 b]) 0).run Tryz.prog x=.ok (.int .i64 a) x:=by kernel_rfl
theorem put_stored (pp pb gw c1 c2 from_ n:Nat) (a:Option Addr) (c:Nat) (pa:Option Addr) (pc:Nat) (zs:List Nat) (last:Bool) (w:World) (v0:Value) (m f:Nat) (L:List Bool) (hp:PackAt w pp pb 1 gw c1 c2) (hw:WOk w pb false v0 m L f) (hf:f≤7)
  (hS1:Safe w v0 pb pp) (hS2:Safe w v0 pb gw)
  (hsl:∀ x,(Instr.slice 22 (.slice a n c) (some (.int .i64 (from_:Int))) none none).run Tryz.prog x=.ok (.slice pa zs.length pc) x)
  (hr:(pa=none∧pc=0∧zs=[])∨∃ ad,pa=some ad∧(zs=[]∨Safe w v0 pb ad.block)∧∀ (j:Nat) u,(zs.map bv)[j]?=some u→w.cell? (ad.add j)=some u) (hz:∀ z∈zs,z<256) (hn:zs.length≤65535) (hb:L.length≤900000000000000) :
  Calls Tryz.prog 12 #[.pointer (some ⟨pp,0,none⟩),.slice a n c,.int .i64 (from_:Int),.bool last] w fun e w'=>e=.returned (.tuple #[])∧WrAt w v0 pb (L++storedB zs last.toNat L.length) w':=by
 obtain ⟨N,hN⟩:∃ N,N=zs.length:=⟨_,rfl⟩
 have HN:=qz hN
 rw [← hN] at hsl hn
 clear hN
 have HPW:Hid (∀ x xb,Below w.heap.size w x→BlkAt x xb last (.slice pa N pc) (.slice none 0 0) (.pointer (some ⟨c1,0,none⟩)) (.pointer (some ⟨c2,0,none⟩)) (.pointer none)→w.heap.size≤xb→Calls Tryz.prog 21 #[.pointer (some ⟨xb,0,none⟩),.pointer (some ⟨pb,0,none⟩)] x fun e w'=>e=.returned (.tuple #[])∧WrAt w v0 pb (L++storedB zs last.toNat L.length) w'∧WrAt x v0 pb (L++storedB zs last.toNat L.length) w'):=qz (fun x xb hbx hx hxb=>by
  have hwx:WOk x pb false v0 m L f:=hw.below hbx
  have sf:∀ k,Safe w v0 pb k→Safe x v0 pb k:=fun k hk=>⟨Nat.lt_of_lt_of_le hk.1 hbx.size,hk.2.1,hk.2.2⟩
  rw [uh HN] at hx
  refine (putStored_ok xb pb zs pa pc last _ _ _ _ x x v0 L ⟨v0,m,f,hwx,hf,Chg.refl _ _ _⟩ ⟨heap_lt hx,by have:=hw.lt;omega,fun e=>by have:=(hw.row.lt xb e).2;omega⟩ hx ?_ hz (by rw [← uh HN];exact hn) hb).mono ?_
  ·rcases hr with h1 | ⟨ad,h1,h2,h3⟩
   ·exact .inl h1
   ·exact .inr ⟨ad,h1,h2.imp id (sf _),fun j u hj=>cell_stays hbx (h3 j u hj)⟩
  ·rintro e w' ⟨rfl,v',m',f',k1,k2,k3⟩
   exact ⟨rfl,⟨v',m',f',k1,k2,(Chg.of_below hbx).trans k3⟩,⟨v',m',f',k1,k2,k3⟩⟩)
 have HCH:Hid (∀ x xb,Below w.heap.size w x→PackAt x pp pb 1 gw c1 c2→BlkAt x xb last (.slice pa N pc) (.slice none 0 0) (.pointer (some ⟨c1,0,none⟩)) (.pointer (some ⟨c2,0,none⟩)) (.pointer none)→Calls Tryz.prog 30 #[.pointer (some ⟨pp,0,none⟩),.pointer (some ⟨xb,0,none⟩)] x fun e w'=>e=.returned (.agg #[.int .i64 0,.int .i64 (storedBits N L.length:Int)])∧Below x.heap.size x w'):=qz (fun x xb hbx hpx hx=>by
  have hwx:WOk x pb false v0 m L f:=hw.below hbx
  have hpp:=heap_lt hpx.1
  have hgw:=heap_lt hpx.2
  have key:∀ y,Below x.heap.size x y→y.heap[pp]?=x.heap[pp]?∧y.heap[gw]?=x.heap[gw]?∧y.heap[xb]?=x.heap[xb]?:=fun y hy=>⟨hy.block _ hpp,hy.block _ hgw,hy.block _ (heap_lt hx)⟩
  refine (choose_two 1 (fun _=>20) (fun _=>21) (fun _=>(storedBits N L.length:Int)) (fun _=>0) (fun i=>if i=0 then 0 else (storedBits N L.length:Int)) (fun y=>Below x.heap.size x y) (fun _ _ y=>Below x.heap.size x y) pp pb gw 0 3 xb (L.length:Int) x (by omega) (by omega) ⟨rfl,rfl⟩ ?_ ?_ (fun _=>Tryz.call20) ?_ ?_ ?_ ?_ (fun y hy=>hy.size) (fun y o hy=>hy.alloc hy.size _) (fun y k o v hy hk=>hy.setCell hk _) (fun y q hy=>below_drewN hy q) (fun _ _ y o hy=>hy.alloc hy.size _) (fun _ _ y k o v hy hk _=>hy.setCell hk _) (fun _ _ y q hy=>below_drewN hy q) ?_ ?_ ?_ (heap_lt hx) (Below.refl _ _)).mono fun e w' ⟨h1,_,_,h2⟩=>⟨h1,h2⟩
  ·intro i hi;obtain rfl:i=0:=by omega
   simp
  ·intro i h1 h2
   rw [if_neg (by omega),beq_eq_false_iff_ne]
   unfold storedBits
   omega
  ·intro y hy;simp only [World.cell?,(key y hy).1,hpx.1];rfl
  ·intro i y hi hy;obtain rfl:i=0:=by omega
   constructor <;> (simp only [World.cell?,(key y hy).2.1,hpx.2];rfl)
  ·intro y hy;simp only [World.cell?,(key y hy).1,hpx.1];rfl
  ·intro _ _ y hy;simp only [World.cell?,(key y hy).1,hpx.1];rfl
  ·intro y hy
   exact len_ok pb m f false v0 L y (hwx.below hy) (by omega) hf
  ·intro i y hi hy;omega
  ·intro i y hi hy
   have hxy:BlkAt y xb last (.slice pa N pc) (.slice none 0 0) (.pointer (some ⟨c1,0,none⟩)) (.pointer (some ⟨c2,0,none⟩)) (.pointer none):=by unfold BlkAt;rw [(key y hy).2.2];exact hx
   refine (weighStored_ok xb L.length N pa pc last _ _ _ _ y hxy hn (by omega)).mono ?_
   rintro e y' ⟨rfl,rfl⟩
   exact ⟨rfl,hy,Nat.le_refl _,fun _ _ _=>rfl⟩)
 have HSF:Hid (∀ x w',Below w.heap.size w x→PackAt x pp pb 1 gw c1 c2→WrAt x v0 pb (L++storedB zs last.toNat L.length) w'→PackAt w' pp pb 1 gw c1 c2):=qz (fun x w' hbx hpx h=>by
  have sf:∀ k,Safe w v0 pb k→Safe x v0 pb k:=fun k hk=>⟨Nat.lt_of_lt_of_le hk.1 hbx.size,hk.2.1,hk.2.2⟩
  exact ⟨by rw [h.block (sf _ hS1)];exact hpx.1,by rw [h.block (sf _ hS2)];exact hpx.2⟩)
 obtain ⟨hp1,hp2⟩:=hp
 clear hw hf hS1 hS2 hr hz hb
 have p1:w.cell? ⟨pp,1,none⟩=some (.int .i64 1):=by simp [World.cell?,hp1]
 go_enter Tryz.func12,Tryz.ntmps12
 go_wp2_with fail
 refine wp_region_noPanic ?_
 refine wp_region_held_drew (S:=fun x=>PackAt x pp pb 1 gw c1 c2) (by kernel_rfl) ⟨hp1,hp2⟩ (fun hHeld=>?_)
 refine hT 0 9 rfl rfl hHeld nPp (v:=?_) (fun x hSx=>?_) ?_
 rotate_left 1
 ·go_simp <;> with_reducible rfl
 simp only [sA,sB]
 refine hT 1 10 rfl rfl hHeld nPp (v:=?_) (fun x hSx=>?_) ?_
 rotate_left 1
 ·go_simp <;> with_reducible rfl
 simp only [sA,sB]
 refine hT 2 11 rfl rfl hHeld nPp (v:=?_) (fun x hSx=>?_) ?_
 rotate_left 1
 ·go_simp <;> with_reducible rfl
 simp only [sA,sB]
 refine hT 3 12 rfl rfl hHeld nPp (v:=?_) (fun x hSx=>?_) ?_
 rotate_left 1
 ·go_simp <;> with_reducible rfl
 simp only [sA,sB]
 refine hT 4 13 rfl rfl hHeld nPp (v:=?_) (fun x hSx=>?_) ?_
 rotate_left 1
 ·go_simp <;> with_reducible rfl
 simp only [sA,sB]
 refine hT 5 14 rfl rfl hHeld nPp (v:=?_) (fun x hSx=>?_) ?_
 rotate_left 1
 ·go_simp <;> with_reducible rfl
 simp only [sA,sB]
 refine hT 6 15 rfl rfl hHeld nPp (v:=?_) (fun x hSx=>?_) ?_
 rotate_left 1
 ·go_simp <;> with_reducible rfl
 simp only [sA,sB]
 refine hT 7 16 rfl rfl hHeld nPp (v:=?_) (fun x hSx=>?_) ?_
 rotate_left 1
 ·have q3:x.cell? ⟨pp,3,none⟩=some (.pointer (some ⟨c1,0,none⟩)):=(by simp [World.cell?,hSx.1]);have q4:x.cell? ⟨pp,4,none⟩=some (.pointer (some ⟨c2,0,none⟩)):=(by simp [World.cell?,hSx.1]);clear hSx;go_simp <;> with_reducible rfl
 simp only [sA,sB]
 refine hT 8 17 rfl rfl hHeld nPp (v:=?_) (fun x hSx=>?_) ?_
 rotate_left 1
 ·go_simp <;> with_reducible rfl
 simp only [sA,sB]
 refine held_one 9 18 (by kernel_rfl) rfl rfl (by rfl) (v:=.pointer (some ⟨w.heap.size,0,none⟩)) (w':=(w.alloc (.cells #[.bool last,.slice pa N pc,.slice none 0 0,.pointer (some ⟨c1,0,none⟩),.pointer (some ⟨c2,0,none⟩),.pointer none] 65)).drew) ?_ ?_ ?_
 ·first | (go_simp;done) | (go_simp <;> first | exact ⟨rfl,rfl⟩ | rfl)
 ·exact ⟨by show (w.alloc _).heap[pp]?=_;rw [Below.heap_alloc _ _ _ (heap_lt hp1)];exact hp1,by show (w.alloc _).heap[gw]?=_;rw [Below.heap_alloc _ _ _ (heap_lt hp2)];exact hp2⟩
 simp only [sA,sB]
 obtain ⟨xb,hxb⟩:∃ xb,xb=w.heap.size:=⟨_,rfl⟩
 obtain ⟨W1,hW1⟩:∃ W1,W1=(w.alloc (.cells #[.bool last,.slice pa N pc,.slice none 0 0,.pointer (some ⟨c1,0,none⟩),.pointer (some ⟨c2,0,none⟩),.pointer none] 65)).drew:=⟨_,rfl⟩
 have HX1:Hid (BlkAt W1 xb last (.slice pa N pc) (.slice none 0 0) (.pointer (some ⟨c1,0,none⟩)) (.pointer (some ⟨c2,0,none⟩)) (.pointer none)):=qz (by rw [hW1,hxb];exact heap_alloc_new _ _)
 have HB1:Hid (Below w.heap.size w W1):=qz (by rw [hW1];exact below_drewN ((Below.refl _ _).alloc (Nat.le_refl _) _) 1)
 have HP1:Hid (PackAt W1 pp pb 1 gw c1 c2):=qz ⟨by rw [(uh HB1).block pp (heap_lt hp1)];exact hp1,by rw [(uh HB1).block gw (heap_lt hp2)];exact hp2⟩
 rw [← hW1,← hxb]
 have HXB:=qz hxb
 clear hW1 hxb hHeld
 refine held_one 10 8 (by kernel_rfl) rfl rfl (by rfl) (v:=.pointer (some ⟨xb,0,none⟩)) (w':=W1) ?_ (uh HP1) ?_
 ·first | (go_simp;done) | (go_simp <;> first | exact ⟨rfl,rfl⟩ | rfl)
 simp only [sA,sB]
 refine wpAnyH_done (by kernel_rfl) ?_ _
 refine NoPanic.normal ?_
 have p1:W1.cell? ⟨pp,1,none⟩=some (.int .i64 1):=by simp [World.cell?,(uh HP1).1]
 go_wp2_with fail
 refine wp_region_noPanic ?_
 refine wp_region_held_drew (S:=fun x=>PackAt x pp pb 1 gw c1 c2) (by kernel_rfl) (uh HP1) (fun hHeld=>?_)
 obtain ⟨W2,hW2⟩:∃ W2,W2=W1.drew:=⟨_,rfl⟩
 have HB2:Hid (Below w.heap.size w W2):=qz (by rw [hW2];exact below_drewN (uh HB1) 1)
 have HX2:Hid (BlkAt W2 xb last (.slice pa N pc) (.slice none 0 0) (.pointer (some ⟨c1,0,none⟩)) (.pointer (some ⟨c2,0,none⟩)) (.pointer none)):=qz (by rw [hW2];exact uh HX1)
 show wpAnyH _ _ _ _ _ _ _ _ W1.drew
 rw [← hW2] at hHeld ⊢
 clear hW2 HX1 HB1 p1 HP1
 refine hT 0 33 rfl rfl hHeld nPp (v:=?_) (fun x hSx=>?_) ?_
 rotate_left 1
 ·go_simp <;> with_reducible rfl
 simp only [sA,sB]
 refine hT 1 34 rfl rfl hHeld nPp (v:=?_) (fun x hSx=>?_) ?_
 rotate_left 1
 ·go_simp <;> with_reducible rfl
 simp only [sA,sB]
 refine hT 2 35 rfl rfl hHeld nPp (v:=?_) (fun x hSx=>?_) ?_
 rotate_left 1
 ·go_simp <;> with_reducible rfl
 simp only [sA,sB]
 refine hT 3 36 rfl rfl hHeld nPp (v:=?_) (fun x hSx=>?_) ?_
 rotate_left 1
 ·have q2:x.cell? ⟨pp,2,none⟩=some (.slice (some ⟨gw,0,none⟩) 1 3):=(by simp only [World.cell?,hSx.1];rfl);clear hSx;go_simp <;> with_reducible rfl
 simp only [sA,sB]
 refine hT 4 37 rfl rfl hHeld nPp (v:=?_) (fun x hSx=>?_) ?_
 rotate_left 1
 ·go_simp <;> with_reducible rfl
 simp only [sA,sB]
 refine hT 5 38 rfl rfl hHeld nPp (v:=?_) (fun x hSx=>?_) ?_
 rotate_left 1
 ·go_simp <;> with_reducible rfl
 simp only [sA,sB]
 refine hT 11 44 rfl rfl hHeld nPp (v:=?_) (fun x hSx=>?_) ?_
 rotate_left 1
 ·go_simp <;> with_reducible rfl
 simp only [sA,sB]
 refine hT 12 45 rfl rfl hHeld nPp (v:=?_) (fun x hSx=>?_) ?_
 rotate_left 1
 ·go_simp <;> with_reducible rfl
 simp only [sA,sB]
 refine hT 13 46 rfl rfl hHeld nPp (v:=?_) (fun x hSx=>?_) ?_
 rotate_left 1
 ·go_simp <;> with_reducible rfl
 simp only [sA,sB]
 refine hT 14 47 rfl rfl hHeld nPp (v:=?_) (fun x hSx=>?_) ?_
 rotate_left 1
 ·go_simp <;> with_reducible rfl
 simp only [sA,sB]
 refine hT 15 48 rfl rfl hHeld nPp (v:=?_) (fun x hSx=>?_) ?_
 rotate_left 1
 ·have q0:x.cell? ⟨pp,0,none⟩=some (.pointer (some ⟨pb,0,none⟩)):=(by simp only [World.cell?,hSx.1];rfl);clear hSx;go_simp <;> with_reducible rfl
 simp only [sA,sB]
 refine held_enter 6 39 (by kernel_rfl) rfl rfl (by rfl) (by go_simp <;> exact ⟨rfl,rfl⟩) ?_
 refine (uh HCH W2 xb (uh HB2) hHeld (uh HX2)).mono ?_
 rintro e W3 ⟨rfl,b3⟩
 have HP3:Hid (PackAt W3 pp pb 1 gw c1 c2):=qz ⟨by rw [b3.block _ (heap_lt hHeld.1)];exact hHeld.1,by rw [b3.block _ (heap_lt hHeld.2)];exact hHeld.2⟩
 have HB3:Hid (Below w.heap.size w W3):=qz ((uh HB2).trans (b3.mono (uh HB2).size))
 have HX3:Hid (BlkAt W3 xb last (.slice pa N pc) (.slice none 0 0) (.pointer (some ⟨c1,0,none⟩)) (.pointer (some ⟨c2,0,none⟩)) (.pointer none)):=qz (by unfold BlkAt;rw [b3.block _ (heap_lt (uh HX2))];exact uh HX2)
 clear b3
 refine ⟨_,rfl,uh HP3,?_⟩
 simp only [sA,sB]
 have fld:=fun x=>field69 x 0 (storedBits N L.length:Int)
 refine hT 7 40 rfl rfl (uh HP3) nPp (v:=?_) (fun x hSx=>?_) ?_
 rotate_left 1
 ·go_simp <;> with_reducible rfl
 simp only [sA,sB]
 refine hT 8 41 rfl rfl (uh HP3) nPp (v:=?_) (fun x hSx=>?_) ?_
 rotate_left 1
 ·go_simp <;> with_reducible rfl
 simp only [sA,sB]
 refine hT 9 42 rfl rfl (uh HP3) nPp (v:=?_) (fun x hSx=>?_) ?_
 rotate_left 1
 ·go_simp <;> with_reducible rfl
 simp only [sA,sB]
 refine hT 10 43 rfl rfl (uh HP3) nPp (v:=?_) (fun x hSx=>?_) ?_
 rotate_left 1
 ·have q1:x.cell? ⟨gw,1,none⟩=some (.func (.func 21) #[] #[]):=(by simp only [World.cell?,hSx.2];rfl);clear hSx;go_simp <;> with_reducible rfl
 simp only [sA,sB]
 refine held_enter 16 49 (by kernel_rfl) rfl rfl (by rfl) (by go_simp <;> exact ⟨rfl,rfl⟩) ?_
 refine (uh HPW W3 xb (uh HB3) (uh HX3) (by rw [uh HXB];exact Nat.le_refl _)).mono ?_
 rintro e W4 ⟨rfl,k1,k2⟩
 have HK1:=qz k1
 refine ⟨_,rfl,uh HSF W3 W4 (uh HB3) (uh HP3) k2,?_⟩
 simp only [sA,sB]
 clear k1 k2
 refine wpAnyH_done (by kernel_rfl) ?_ _
 refine NoPanic.normal ?_
 go_wp2_with fail
 go_end0
 exact ⟨rfl,uh HK1⟩
end W4
namespace W4
open Go.RowKit Mth Infl Defl
theorem slice_from (b off e c fr:Nat) (h:fr<e) (h2:e≤c) (h3:c≤9223372036854775807) (x:World):(Instr.slice 22 (.slice (some ⟨b,off,none⟩) e c) (some (.int .i64 (fr:Int))) none none).run Tryz.prog x=.ok (.slice (some ⟨b,off+fr,none⟩) (e - fr) (c - fr)) x:=by
 have e1:(fr:Int)<(e:Int):=by omega
 have e2:(fr:Int)≤(e:Int):=by omega
 have e3:(e:Int)≤(c:Int):=by omega
 have e4:¬ c=fr:=by omega
 go_simp
theorem slice_zero (a:Option Addr) (c:Nat) (x:World):(Instr.slice 22 (.slice a 0 c) (some (.int .i64 0)) none none).run Tryz.prog x=.ok (.slice a 0 c) x:=by
 go_simp
def TextAt (w:World) (a:Option Addr) (c:Nat) (zs:List Nat):Prop:=(a=none∧c=0∧zs=[])∨∃ ad,a=some ad∧∀ (j:Nat) u,(zs.map bv)[j]?=some u→w.cell? (ad.add j)=some u
theorem TextAt.spot {w:World} {a:Option Addr} {c:Nat} {zs:List Nat} (h:TextAt w a c zs) (h0:0<zs.length):∃ b off,a=some ⟨b,off,none⟩∧b<w.heap.size∧∀ j,j<zs.length→w.cell? ⟨b,off+j,none⟩=some (bv (zs.getD j 0)):=by
 rcases h with ⟨_,_,rfl⟩ | ⟨ad,rfl,hc⟩
 ·simp at h0
 ·have h1:=hc 0 (bv zs[0]) (by simp [h0])
  have hsp:ad.spot=none:=by
   cases hs:ad.spot with
   | none=>rfl
   | some x =>
    exfalso
    rw [show ad.add 0=ad by simp [Addr.add]] at h1
    unfold World.cell? at h1
    split at h1
    ·rw [hs] at h1;simp at h1
    ·cases h1
  obtain ⟨b,off,sp⟩:=ad
  simp only at hsp
  subst hsp
  refine ⟨b,off,rfl,?_,fun j hj=>?_⟩
  ·have:=cell_lt h1
   rwa [add_block] at this
  ·have h2:=hc j (bv zs[j]) (by simp [hj])
   have ea:(⟨b,off,none⟩:Addr).add j=⟨b,off+j,none⟩:=by by_cases hq:j=0 <;> simp [Addr.add,hq]
   rw [ea] at h2
   rw [h2]
   simp [hj]
theorem ownB_one (zs:List Nat) (k:Nat) (tk:Nat→Nat→List T) (pl:List T→List Nat × List Nat × List Nat) (fr p:Nat):ownB zs k 1 tk pl fr p=storedB (piece zs k fr) (lastOf zs k fr) p:=by
 unfold ownB pick
 rw [if_pos rfl]
theorem piece_length (zs:List Nat) (k fr:Nat):(piece zs k fr).length=ende zs k fr - fr:=by
 unfold piece
 rw [List.length_drop,List.length_take]
 have:ende zs k fr≤zs.length:=by unfold ende;omega
 rw [Nat.min_eq_left this]
theorem piece_get (zs:List Nat) (k fr j:Nat) (h:j<(piece zs k fr).length):(piece zs k fr)[j]?=some (zs.getD (fr+j) 0):=by
 have h2:=h
 rw [piece_length] at h2
 have h3:ende zs k fr≤zs.length:=by unfold ende;omega
 unfold piece
 rw [List.getElem?_drop,List.getElem?_take,if_pos (by omega),List.getElem?_eq_getElem (by omega)]
 simp [List.getD_eq_getElem?_getD,show fr+j<zs.length by omega]
theorem piece_text {w x:World} {kind pp pb gw c1 c2 lo hi:Nat} {v0:Value} {zs:List Nat} {a:Option Addr} {c k fr:Nat} (ht:TextAt w a c zs) (hc:zs.length≤c) (hcM:c≤9223372036854775807) (hk:1≤k) (he:Env w x kind pp pb gw c1 c2 lo hi v0) (hfr:fr<zs.length∨fr=0) :
  ∃ pa pc,(∀ y,(Instr.slice 22 (.slice a (ende zs k fr) c) (some (.int .i64 (fr:Int))) none none).run Tryz.prog y=.ok (.slice pa (piece zs k fr).length pc) y) ∧
   ((pa=none∧pc=0∧piece zs k fr=[])∨∃ ad,pa=some ad∧(piece zs k fr=[]∨Safe x v0 pb ad.block)∧∀ (j:Nat) u,((piece zs k fr).map bv)[j]?=some u→x.cell? (ad.add j)=some u):=by
 have hpl:=piece_length zs k fr
 rcases Nat.eq_zero_or_pos zs.length with h0 | h0
 ·have h1:zs=[]:=List.length_eq_zero_iff.1 h0
  obtain rfl:fr=0:=by omega
  have hen:ende zs k 0=0:=by unfold ende;omega
  have hp0:piece zs k 0=[]:=List.length_eq_zero_iff.1 (by rw [hpl,hen])
  rw [hen,hp0]
  refine ⟨a,c,fun y=>slice_zero a c y,?_⟩
  rcases ht with ⟨q1,q2,_⟩ | ⟨ad,q1,_⟩
  ·exact .inl ⟨q1,q2,rfl⟩
  ·exact .inr ⟨ad,q1,.inl rfl,fun j u hj=>by simp at hj⟩
 ·obtain ⟨b,off,rfl,hb,hcell⟩:=ht.spot h0
  have hfe:fr<ende zs k fr:=by unfold ende;omega
  have hec:ende zs k fr≤zs.length:=by unfold ende;omega
  refine ⟨some ⟨b,off+fr,none⟩,c - fr,fun y=>by rw [hpl];exact slice_from b off _ c fr hfe (by omega) hcM y,.inr ⟨_,rfl,.inr ⟨Nat.lt_of_lt_of_le hb he.bel.size,by show b≠pb;have:=he.wpb;omega,fun e=>by have:=he.row b e;omega⟩,fun j u hj=>?_⟩⟩
  have hjl:j<(piece zs k fr).length:=by
   rcases Nat.lt_or_ge j (piece zs k fr).length with h | h
   ·exact h
   ·rw [List.getElem?_eq_none (by simpa using h)] at hj;cases hj
  rw [List.getElem?_map,piece_get zs k fr j hjl] at hj
  simp only [Option.map_some,Option.some.injEq] at hj
  have ea:(⟨b,off+fr,none⟩:Addr).add j=⟨b,off+(fr+j),none⟩:=by by_cases hq:j=0 <;> simp [Addr.add,hq,Nat.add_assoc]
  rw [ea,← hj]
  exact cell_stays he.bel (hcell (fr+j) (by omega))
theorem putIs_one (zs:List Nat) (a:Option Addr) (c k:Nat) (tk:Nat→Nat→List T) (pl:List T→List Nat × List Nat × List Nat) (w:World) (ht:TextAt w a c zs) (hz:∀ z∈zs,z<256) (hc:zs.length≤c) (hcM:c≤9223372036854775807) (hk1:1≤k) (hk2:k≤65535):PutIs 1 zs k tk pl a c w:=by
 intro x v0 m f L pp pb gw c1 c2 lo hi fr e last he hw hf hL hen hlast hfr
 obtain ⟨pa,pc,h1,h2⟩:=piece_text (k:=k) ht hc hcM hk1 he hfr
 subst hen hlast
 have hll:lastOf zs k fr=(decide (zs.length≤fr+k)).toNat:=by unfold lastOf;by_cases h:zs.length≤fr+k <;> simp [h]
 rw [ownB_one,hll]
 exact put_stored pp pb gw c1 c2 fr _ a c pa pc (piece zs k fr) _ x v0 m f L he.pack hw hf he.spp he.sgw h1 h2 (fun z hz'=>hz z (List.mem_of_mem_take (List.mem_of_mem_drop hz'))) (by rw [piece_length];unfold ende;omega) (by omega)
end W4
namespace T6
structure Tok where
 n:Int
 d:Int
 b:Nat
def tz:Tok:=⟨0,0,0⟩
def Tok.May (t:Tok):Prop:=(t.n=0∧t.d=0)∨(1≤t.n∧1≤t.d∧t.b=0)
def Tok.sz (t:Tok):Nat:=if t.n=0 then 1 else t.n.toNat
def tsum (ts:List Tok):Nat→Nat
 | 0=>0
 | k+1=>tsum ts k+(ts.getD k tz).sz
def StepE (ahead:Int) (t:Tok) (made:Nat) (e:Int):Prop :=
 (¬ t.May∧e=2)∨(t.May∧ahead+made<t.d∧e=14)∨(t.May∧t.d≤ahead+made∧268435456<made+t.sz∧e=3)∨(t.May∧t.d≤ahead+made∧made+t.sz≤268435456∧e=0)
theorem StepE.one {ahead:Int} {t:Tok} {made:Nat} {e e':Int} (h:StepE ahead t made e) (h':StepE ahead t made e'):e=e':=by
 rcases h with ⟨h1,rfl⟩ | ⟨h1,h2,rfl⟩ | ⟨h1,h2,h3,rfl⟩ | ⟨h1,h2,h3,rfl⟩ <;> rcases h' with ⟨k1,rfl⟩ | ⟨k1,k2,rfl⟩ | ⟨k1,k2,k3,rfl⟩ | ⟨k1,k2,k3,rfl⟩ <;> first | rfl | exact absurd k1 h1 | exact absurd h1 k1 | omega
def Good (ahead:Int) (ts:List Tok) (k:Nat):Prop:=∀ j,j<k→StepE ahead (ts.getD j tz) (tsum ts j) 0
def Fails (ahead:Int) (ts:List Tok) (e:Int):Prop:=e≠0∧∃ k,k<ts.length∧Good ahead ts k∧StepE ahead (ts.getD k tz) (tsum ts k) e
def MeasIs (ahead:Int) (ts:List Tok) (a e:Int):Prop:=(Fails ahead ts e∧a=0)∨(Good ahead ts ts.length∧a=(tsum ts ts.length:Int)∧e=0)
theorem Fails.not {ahead:Int} {ts:List Tok} {e:Int} (h:Fails ahead ts e):¬ Good ahead ts ts.length:=fun hg=>by
 obtain ⟨h0,k,hk,_,hs⟩:=h
 exact h0 (hs.one (hg k hk))
theorem Fails.one {ahead:Int} {ts:List Tok} {e e':Int} (h:Fails ahead ts e) (h':Fails ahead ts e'):e=e':=by
 obtain ⟨h0,k,hk,hg,hs⟩:=h
 obtain ⟨h0',k',hk',hg',hs'⟩:=h'
 rcases Nat.lt_trichotomy k k' with hlt | rfl | hlt
 ·exact absurd (hs.one (hg' k hlt)) h0
 ·exact hs.one hs'
 ·exact absurd (hs'.one (hg k' hlt)) h0'
theorem MeasIs.one {ahead:Int} {ts:List Tok} {a e a' e':Int} (h:MeasIs ahead ts a e) (h':MeasIs ahead ts a' e'):a=a'∧e=e':=by
 rcases h with ⟨h1,rfl⟩ | ⟨h1,rfl,rfl⟩ <;> rcases h' with ⟨k1,rfl⟩ | ⟨k1,rfl,rfl⟩
 ·exact ⟨rfl,h1.one k1⟩
 ·exact absurd k1 h1.not
 ·exact absurd h1 k1.not
 ·exact ⟨rfl,rfl⟩
def cp (d:Nat):Nat→List Nat→List Nat
 | 0,P=>P
 | k+1,P=>cp d k P++[(cp d k P).getD ((cp d k P).length - d) 0]
theorem cp_length (d:Nat) (P:List Nat):∀ k,(cp d k P).length=P.length+k
 | 0=>rfl
 | k+1=>by rw [cp,List.length_append,cp_length d P k];simp;omega
theorem cp_add (d a:Nat) (P:List Nat):∀ b,cp d (a+b) P=cp d b (cp d a P)
 | 0=>rfl
 | b+1=>by rw [← Nat.add_assoc,cp,cp,cp_add d a P b]
theorem getD_app_left (A B:List Nat) (i:Nat) (h:i<A.length):(A++B).getD i 0=A.getD i 0:=by
 simp only [List.getD_eq_getElem?_getD]
 rw [List.getElem?_append_left h]
theorem getD_app_right (A B:List Nat) (i:Nat):(A++B).getD (A.length+i) 0=B.getD i 0:=by
 simp only [List.getD_eq_getElem?_getD]
 rw [List.getElem?_append_right (by omega),Nat.add_sub_cancel_left]
theorem cp_old (d:Nat) (P:List Nat):∀ k i,i<P.length→(cp d k P).getD i 0=P.getD i 0
 | 0,_,_=>rfl
 | k+1,i,h=>by
  rw [cp,getD_app_left _ _ _ (by rw [cp_length];omega)]
  exact cp_old d P k i h
theorem mod_less {k d:Nat} (h:d≤k):(k - d) % d=k % d:=by
 conv=>rhs;rw [show k=(k - d)+d by omega]
 rw [Nat.add_mod_right]
theorem cp_new {d:Nat} {P:List Nat} (hd:1≤d) (hp:d≤P.length):∀ k i,i<k→(cp d k P).getD (P.length+i) 0=P.getD (P.length - d+i % d) 0
 | 0,_,h=>by omega
 | k+1,i,h=>by
  by_cases e:i=k
  ·subst e
   have h1:(cp d i P).length=P.length+i:=cp_length d P i
   rw [cp,← h1,show (cp d i P).length=(cp d i P).length+0 from rfl,getD_app_right]
   show (cp d i P).getD ((cp d i P).length - d) 0=_
   rw [h1]
   by_cases hk:i<d
   ·rw [show P.length+i - d=P.length - d+i by omega,cp_old d P i _ (by omega),Nat.mod_eq_of_lt hk]
   ·rw [show P.length+i - d=P.length+(i - d) by omega,cp_new hd hp i (i - d) (by omega),mod_less (by omega)]
  ·rw [cp,getD_app_left _ _ _ (by rw [cp_length];omega)]
   exact cp_new hd hp k i (by omega)
theorem cp_per {d:Nat} {P:List Nat} (hd:1≤d) (hp:d≤P.length) (k i:Nat) (h:i<d+k):(cp d k P).getD (P.length - d+i) 0=P.getD (P.length - d+i % d) 0:=by
 by_cases hi:i<d
 ·rw [cp_old d P k _ (by omega),Nat.mod_eq_of_lt hi]
 ·rw [show P.length - d+i=P.length+(i - d) by omega,cp_new hd hp k (i - d) (by omega),mod_less (by omega)]
theorem list_eq {A B:List Nat} (h:A.length=B.length) (h2:∀ i,i<A.length→A.getD i 0=B.getD i 0):A=B:=by
 apply List.ext_getElem h
 intro i h1 h3
 have:=h2 i h1
 simpa [h1,h3] using this
theorem slice_get (P:List Nat) (f n i:Nat) (h:i<n):((P.drop f).take n).getD i 0=P.getD (f+i) 0:=by
 simp only [List.getD_eq_getElem?_getD]
 rw [List.getElem?_take,if_pos h,List.getElem?_drop]
theorem cp_block {d k:Nat} {P B:List Nat} (hd:1≤d) (hp:d≤P.length) (hb:B.length=k) (h:∀ i,i<k→B.getD i 0=P.getD (P.length - d+i % d) 0):cp d k P=P++B:=by
 refine list_eq (by rw [cp_length,List.length_append,hb]) fun i hi=>?_
 rw [cp_length] at hi
 by_cases hl:i<P.length
 ·rw [cp_old d P k i hl,getD_app_left _ _ _ hl]
 ·rw [show i=P.length+(i - P.length) by omega,cp_new hd hp k _ (by omega),getD_app_right,h _ (by omega)]
theorem cp_long {d j k:Nat} {P:List Nat} (hd:1≤d) (hp:d≤P.length) (hj:j % d=0) (hk:k≤d+j):cp d (j+k) P=cp d j P++((cp d j P).drop (P.length - d)).take k:=by
 rw [cp_add]
 have hl:=cp_length d P j
 refine cp_block hd (by omega) (by simp;omega) fun i hi=>?_
 have hm:i % d<d:=Nat.mod_lt _ hd
 rw [slice_get _ _ _ _ hi,cp_per hd hp j i (by omega),hl,show P.length+j - d+i % d=P.length - d+(j+i % d) by omega,cp_per hd hp j (j+i % d) (by omega),Nat.add_mod,hj,Nat.zero_add,Nat.mod_mod,Nat.mod_mod]
def ext (out:List Nat) (t:Tok):List Nat:=if t.n=0 then out++[t.b] else cp t.d.toNat t.n.toNat out
end T6
namespace T6
open Go.RowKit
section
variable {P:Program} {md:Region.Mode} {ops:Array Oper} {Q:Exit→Act→World→Prop} {S S':World→Prop}
theorem held_take {oi:Oper} {v:Value} {fuel:Nat} {listed:Array Bool} {l:List Value} {df:List Deferred} {w:World} (i d:Nat) (hi:ops[i]?=some oi) (hd:oi.dst=some d)
  (hs:Region.noSelect ops=true) (hf:Region.free md ops listed i=true) (hr:(Region.ready md ops listed).contains i=true)
  (hw:Region.wanted oi (yielded ops l.toArray)=true) (hS:S w) (hQ:∀ c a w,¬ Q (.panic c) a w)
  (hy:∀ x,S x→(execOp (Act.eval ⟨l.toArray,df⟩) oi).run P x=.ok (.value v) x)
  (h:wpAnyH P md ops Q S fuel (listed.setIfInBounds i true) ⟨(l.set d v).toArray,df⟩ w):wpAnyH P md ops Q S (fuel+1) listed ⟨l.toArray,df⟩ w:=by
 refine wpAnyH_take (i:=i) (v:=v) hi hs hf hr (fun c a w h=>absurd h (hQ _ _ _)) (Or.inl ⟨hw,hy⟩) hS ?_
 have e:Act.put (⟨l.toArray,df⟩:Act) oi.dst v=⟨(l.set d v).toArray,df⟩:=by rw [hd];simp [Act.put]
 rw [e]
 exact h
theorem hT {oi:Oper} {v:Value} {fuel:Nat} {listed:Array Bool} {l:List Value} {df:List Deferred} {w:World} (i d:Nat) (hi:ops[i]?=some oi) (hd:oi.dst=some d) (hS:S w) (hQ:∀ c a w,¬ Q (.panic c) a w) (hy:∀ x,S x→(execOp (Act.eval ⟨l.toArray,df⟩) oi).run P x=.ok (.value v) x) (h:wpAnyH P md ops Q S fuel (listed.setIfInBounds i true) ⟨(l.set d v).toArray,df⟩ w) (hs:Region.noSelect ops=true:=by kernel_rfl) (hf:Region.free md ops listed i=true:=by kernel_rfl) (hr:(Region.ready md ops listed).contains i=true:=by kernel_rfl) (hw:Region.wanted oi (yielded ops l.toArray)=true:=by rfl):wpAnyH P md ops Q S (fuel+1) listed ⟨l.toArray,df⟩ w:=held_take i d hi hd hs hf hr hw hS hQ hy h
theorem held_enter {o:Oper} {f:FuncId} {args:Array Value} {fuel:Nat} {listed:Array Bool} {l:List Value} {df:List Deferred} {w:World} (i d:Nat) (hr:Region.ready md ops listed=[i]) (hi:ops[i]?=some o) (hd:o.dst=some d)
  (hw:Region.wanted o (yielded ops l.toArray)=true) (hrun:(execOp (Act.eval ⟨l.toArray,df⟩) o).run P w=.ok (.enter f args) w)
  (h:Calls P f args w fun e w'=>∃ v,e=.returned v∧S w'∧wpAnyH P md ops Q S fuel (listed.setIfInBounds i true) ⟨(l.set d v).toArray,df⟩ w'):wpAnyH P md ops Q S (fuel+1) listed ⟨l.toArray,df⟩ w:=by
 refine wpAnyH_ready hr (by simp) (AllReadyH.cons hi (fun K hK=>?_) AllReadyH.nil)
 rw [if_pos hw]
 unfold Oper.wp
 rw [hrun,Oper.upon_enter]
 refine h.mono ?_
 rintro e w' ⟨v,rfl,hS,h2⟩
 have e:Act.put (⟨l.toArray,df⟩:Act) o.dst v=⟨(l.set d v).toArray,df⟩:=by rw [hd];simp [Act.put]
 show K (Act.put ⟨l.toArray,df⟩ o.dst v) w'
 rw [e]
 exact hK.out _ _ hS (fun _=>h2)
end
theorem wp_tail {P:Program} {id:Nat} {Q:Exit→Act→World→Prop} {a:Act} {w:World} {l:List Oper} (n:Nat) (hm:P.follows .mixedOrders=true) (hB:Region.lexTailB .any l.toArray n=true)
  (h:wpStill P l.toArray w.drew (fun a'=>wpList P l.toArray Q (l.drop n) a' w.drew) (l.take n) a):(Code.region id l.toArray true).wp P Q a w:=wp_region_still_tail n hm hB h
theorem nPp {Q:Exit→Act→World→Prop} (c:List PanicEntry) (a:Act) (w:World):¬ NoPanic Q (.panic c) a w:=fun h=>h
end T6
namespace T6
open Go.RowKit
structure Only (rp:Nat) (w w':World):Prop where
 os:w'.os=w.os
 tape:w'.tape=w.tape
 output:w'.output=w.output
 size:w.heap.size≤w'.heap.size
 keep:∀ x,x<w.heap.size→x≠rp→w'.heap[x]?=w.heap[x]?
def RowB (w:World) (g n:Nat):Prop:=∃ cur,w.heap[g]?=some (.cells cur 5 (0,0))∧n≤cur.size∧∀ j,j<n→∃ y:Int,cur[j]?=some (.int .u8 y)
theorem RowB.of {w:World} {base g n cap:Nat} {zs:List Nat} (h:w.ownsRow base 5 1 (.slice (some ⟨g,0,none⟩) n cap) n (zs.map bv)) (hn:zs.length=n):RowB w g n:=by
 obtain ⟨hl,hr⟩:=h
 rcases hr with ⟨e,_⟩ | ⟨g',cap',cur,e,hb,hh,hle,hc,hs,ht⟩
 ·cases e
 ·injection e with e1 e2 e3
  injection e1 with e1
  injection e1 with e1
  subst e1 e3
  refine ⟨cur,hh,by omega,fun j hj=>⟨(zs.getD j 0:Nat),?_⟩⟩
  have h2:(cur.toList.take (n*1))[j]?=(zs.map bv)[j]?:=by rw [ht]
  rw [List.getElem?_take,if_pos (by omega)] at h2
  rw [← Array.getElem?_toList,h2]
  simp [bv,hn,hj]
theorem RowB.block {w:World} {g:Nat} {zs:List Nat} (h:w.heap[g]?=some (.cells (zs.map bv).toArray 5 (0,0))):RowB w g zs.length :=
 ⟨_,h,by simp,fun j hj=>⟨(zs.getD j 0:Nat),by simp [bv,hj]⟩⟩
end T6
namespace T6
open Go.RowKit
def ReadsU (B:Nat) (w:World) (v:Value) (zs:List Nat):Prop :=
 ∃ a cap,v=.slice a zs.length cap∧zs.length≤cap∧(0<zs.length→∃ b off,a=some ⟨b,off,none⟩∧b<B∧∀ j,j<zs.length→w.cell? ⟨b,off+j,none⟩=some (.int .u8 (zs.getD j 0:Int)))
theorem cell_below {B:Nat} {w w1:World} (hb:Below B w w1) {p:Addr} {u:Value} (h:w.cell? p=some u) (hp:p.block<B):w1.cell? p=some u:=by
 rw [World.cell?_of_block (hb.block _ hp)];exact h
theorem ReadsU.stays {B:Nat} {w w1:World} {v:Value} {zs:List Nat} (h:ReadsU B w v zs) (hb:Below B w w1):ReadsU B w1 v zs:=by
 obtain ⟨a,cap,rfl,hc,hs⟩:=h
 refine ⟨a,cap,rfl,hc,fun h0=>?_⟩
 obtain ⟨b,off,rfl,h1,h2⟩:=hs h0
 exact ⟨b,off,rfl,h1,fun j hj=>cell_below hb (h2 j hj) h1⟩
theorem ReadsU.mono {B B':Nat} {w:World} {v:Value} {zs:List Nat} (h:ReadsU B w v zs) (hB:B≤B'):ReadsU B' w v zs:=by
 obtain ⟨a,cap,rfl,hc,hs⟩:=h
 refine ⟨a,cap,rfl,hc,fun h0=>?_⟩
 obtain ⟨b,off,rfl,h1,h2⟩:=hs h0
 exact ⟨b,off,rfl,by omega,h2⟩
theorem ReadsU.reads {B:Nat} {w:World} {v:Value} {zs:List Nat} (h:ReadsU B w v zs):Reads w v zs:=by
 obtain ⟨a,cap,rfl,hc,hs⟩:=h
 refine ⟨a,cap,rfl,fun h0=>?_⟩
 obtain ⟨b,off,rfl,h1,h2⟩:=hs h0
 refine ⟨_,rfl,fun j u hj=>?_⟩
 have hl:j<zs.length:=by
  rcases Nat.lt_or_ge j zs.length with h | h
  ·exact h
  ·rw [List.getElem?_eq_none (by simpa using h)] at hj;cases hj
 have e:(⟨b,off,none⟩:Addr).add j=⟨b,off+j,none⟩:=by by_cases hq:j=0 <;> simp [Addr.add,hq]
 rw [e,h2 j hl]
 simpa [bv,hl] using hj
theorem info37:(Tryz.prog.info? 76).map (fun i=>(i.zero,i.size,i.bytes))=some (some (.agg #[.int .i64 0,.int .i64 0,.int .u8 0]),3,24):=by kernel_rfl
end T6
namespace T6
open Go.RowKit
attribute [local go_sem ↓] wp_at_zero wp_at_succ
end T6
namespace T6
open Go.RowKit
attribute [local go_sem ↓] wp_at_zero wp_at_succ
end T6
namespace T6
open Go.RowKit
attribute [local go_sem ↓] wp_at_zero wp_at_succ
def Eqs (z:Nat→Nat) (p d n:Nat):Prop:=∀ i,i<n→z (p+i)=z (p+i - d)
theorem Eqs.mono {z:Nat→Nat} {p d n k:Nat} (h:Eqs z p d n) (hk:k≤n):Eqs z p d k:=fun i hi=>h i (by omega)
structure IsBest (z:Nat→Nat) (p w m n d:Nat):Prop where
 le:n≤m
 one:(n=0∧d=0)∨(1≤n∧1≤d∧d≤w∧Eqs z p d n∧∀ d',1≤d'→d'<d→¬ Eqs z p d' n)
 max:n<m→∀ d',1≤d'→d'≤w→¬ Eqs z p d' (n+1)
theorem IsBest.len {z:Nat→Nat} {p w m n d n' d':Nat} (h:IsBest z p w m n d) (h':IsBest z p w m n' d'):n'≤n:=by
 refine Classical.byContradiction fun hc=>?_
 rcases h'.one with ⟨e,_⟩ | ⟨h1,h2,h3,h4,_⟩
 ·omega
 ·exact h.max (by have:=h'.le;omega) d' h2 h3 (h4.mono (by omega))
theorem IsBest.eq {z:Nat→Nat} {p w m n d n' d':Nat} (h:IsBest z p w m n d) (h':IsBest z p w m n' d'):n=n'∧d=d':=by
 have e:n=n':=Nat.le_antisymm (h'.len h) (h.len h')
 subst e
 refine ⟨rfl,?_⟩
 rcases h.one with ⟨e,e1⟩ | ⟨h1,h2,h3,h4,h5⟩ <;> rcases h'.one with ⟨e',e1'⟩ | ⟨k1,k2,k3,k4,k5⟩
 ·omega
 ·omega
 ·omega
 ·rcases Nat.lt_trichotomy d d' with hl | e | hl
  ·exact absurd h4 (k5 d h2 hl)
  ·exact e
  ·exact absurd k4 (h5 d' k2 hl)
theorem IsBest.shift {z z':Nat→Nat} {p f w m n d:Nat} (h:IsBest z' p w m n d) (hw:w≤p) (hz:∀ i,i<p+m→z' i=z (f+i)):IsBest z (f+p) w m n d:=by
 have key:∀ d' k,1≤d'→d'≤w→k≤m→(Eqs z' p d' k↔Eqs z (f+p) d' k):=fun d' k h1 h2 h3=>by
  constructor
  ·intro he i hi
   have:=he i hi
   rw [hz _ (by omega),hz _ (by omega)] at this
   rw [show f+p+i=f+(p+i) by omega,show f+(p+i) - d'=f+(p+i - d') by omega]
   exact this
  ·intro he i hi
   have:=he i hi
   rw [hz _ (by omega),hz _ (by omega)]
   rw [show f+p+i=f+(p+i) by omega,show f+(p+i) - d'=f+(p+i - d') by omega] at this
   exact this
 refine ⟨h.le,?_,fun hl d' h1 h2 he=>h.max hl d' h1 h2 ((key d' (n+1) h1 h2 (by omega)).2 he)⟩
 rcases h.one with e | ⟨h1,h2,h3,h4,h5⟩
 ·exact .inl e
 ·exact .inr ⟨h1,h2,h3,(key d n h2 h3 h.le).1 h4,fun d' k1 k2 he=>h5 d' k1 k2 ((key d' n k1 (by omega) h.le).2 he)⟩
theorem ReadsU.sub {B:Nat} {w:World} {a:Option Addr} {cap:Nat} {zs:List Nat} (h:ReadsU B w (.slice a zs.length cap) zs) {b off:Nat} (ha:a=some ⟨b,off,none⟩) (f k c:Nat) (hk:f+k≤zs.length) (hc:k≤c):ReadsU B w (.slice (some ⟨b,off+f,none⟩) k c) ((zs.drop f).take k):=by
 obtain ⟨a',cap',e,_,hs⟩:=h
 injection e with e1 e2 e3
 subst e1 e3
 subst ha
 have hl:((zs.drop f).take k).length=k:=by simp;omega
 refine ⟨_,c,by rw [hl],by rw [hl];exact hc,fun h0=>?_⟩
 rw [hl] at h0 ⊢
 obtain ⟨b',off',e,hb,hcell⟩:=hs (by omega)
 injection e with e
 injection e with e1 e2
 subst e1 e2
 refine ⟨b,off+f,rfl,hb,fun j hj=>?_⟩
 rw [slice_get _ _ _ _ hj,Nat.add_assoc]
 exact hcell (f+j) (by omega)
theorem ReadsU.none {B:Nat} (w:World) (a:Option Addr) (c:Nat) (l:List Nat) (h:l=[]):ReadsU B w (.slice a 0 c) l:=by
 subst h
 exact ⟨a,c,rfl,Nat.zero_le _,fun h0=>by simp at h0⟩
theorem look_ok (zs:List Nat) (a:Option Addr) (cap B p W M:Nat) (w:World) (hr:ReadsU B w (.slice a zs.length cap) zs) (hcap:zs.length≤cap) (hp:p≤zs.length) (hl:zs.length≤140737488355328) (hW:W≤9223372036854775807) (hM:M≤9223372036854775807) :
  Calls Tryz.prog 62 #[.slice a zs.length cap,.int .i64 (p:Int),.int .i64 (W:Int),.int .i64 (M:Int)] w fun e w'=>∃ a',e=.returned (.tuple #[.slice a' (min p W+min M (zs.length - p)) (min p W+min M (zs.length - p)),.int .i64 ((min p W:Nat):Int)])∧ReadsU B w (.slice a' (min p W+min M (zs.length - p)) (min p W+min M (zs.length - p))) ((zs.drop (p - min p W)).take (min p W+min M (zs.length - p)))∧w'=w:=by
 have HR:=qz hr
 clear hr
 obtain ⟨n,hn⟩:∃ n,n=zs.length:=⟨_,rfl⟩
 rw [← hn] at HR hp hl hcap ⊢
 have HN:=qz hn
 clear hn
 obtain ⟨u,hu⟩:∃ u,u=min p W:=⟨_,rfl⟩
 obtain ⟨t,ht⟩:∃ t,t=min M (n - p):=⟨_,rfl⟩
 rw [← hu,← ht]
 have m1:=run_min_nat (A:=(p:Int)) (B:=(W:Int)) rfl rfl hu
 have m2:=run_min_nat (A:=(M:Int)) (B:=(n:Int) - (p:Int)) rfl (by omega) ht
 obtain ⟨f,hf⟩:∃ f:Nat,(p:Int) - (u:Int)=(f:Int):=⟨p - u,by omega⟩
 obtain ⟨e,he⟩:∃ e:Nat,(p:Int)+(t:Int)=(e:Int):=⟨p+t,by omega⟩
 have hpf:(p:Int) - (f:Int)=(u:Int):=by omega
 have hfe:f≤e:=by omega
 have hec:e≤cap:=by omega
 have hef:e - f=u+t:=by omega
 have hpu:p - u=f:=by omega
 have hen:e≤n:=by omega
 have HF:Hid (f=p - u):=qz (by omega)
 rw [hpu]
 have HEF:=qz hef
 have hfe2:f≤e∧e≤cap:=⟨hfe,hec⟩
 clear hu ht hef hpu
 obtain ⟨T,hT⟩:∃ T,T=u+t:=⟨_,rfl⟩
 have hTe:e - f=T:=by rw [hT];exact uh HEF
 rw [← hT]
 clear hT
 by_cases h0:T=0
 ·subst h0
  have hfe3:e=f:=by omega
  have HRD:Hid (ReadsU B w (.slice a 0 0) ((zs.drop f).take 0)):=qz (ReadsU.none w a 0 _ (by simp))
  go_enter Tryz.func62,Tryz.ntmps62
  go_wp2_with fail
  go_ret2
  exact ⟨a,rfl,uh HRD,rfl⟩
 ·have hT0:0<T:=by omega
  obtain ⟨b,off,rfl⟩:∃ b off,a=some ⟨b,off,none⟩:=by
   obtain ⟨a',cap',e',_,hs⟩:=uh HR
   injection e' with e1 e2 e3
   subst e1
   obtain ⟨b,off,e,_⟩:=hs (by rw [← uh HN];omega)
   exact ⟨b,off,e⟩
  have HRD:Hid (ReadsU B w (.slice (some ⟨b,off+f,none⟩) T T) ((zs.drop f).take T)):=qz (by
   have h1:=uh HR
   rw [uh HN] at h1
   exact h1.sub rfl f T T (by rw [← uh HN];omega) (Nat.le_refl _))
  go_enter Tryz.func62,Tryz.ntmps62
  go_wp2_with fail
  go_ret2
  exact ⟨_,rfl,uh HRD,rfl⟩
structure IsCommon (xs ys:List Nat) (n:Nat):Prop where
 l1:n≤xs.length
 l2:n≤ys.length
 eq:∀ i,i<n→xs.getD i 0=ys.getD i 0
 ne:n<xs.length→n<ys.length→xs.getD n 0≠ys.getD n 0
theorem common_loop (xs ys:List Nat) (a b:Option Addr) (ca cb B B':Nat) (w:World) (h1:ReadsU B w (.slice a xs.length ca) xs) (h2:ReadsU B' w (.slice b ys.length cb) ys) (hl:xs.length≤140737488355328) :
  Calls Tryz.prog 123 #[.slice a xs.length ca,.slice b ys.length cb] w fun e w'=>∃ n:Nat,e=.returned (.int .i64 (n:Int))∧IsCommon xs ys n∧∃ q,w'=w.drewN q:=by
 have H1:=qz h1
 have H2:=qz h2
 clear h1 h2
 obtain ⟨n,hn⟩:∃ n,n=xs.length:=⟨_,rfl⟩
 obtain ⟨m,hm⟩:∃ m,m=ys.length:=⟨_,rfl⟩
 rw [← hn] at H1 hl ⊢
 rw [← hm] at H2 ⊢
 have HN:=qz hn
 have HM:=qz hm
 clear hn hm
 go_enter Tryz.func123,Tryz.ntmps123
 go_wp2_with fail
 go_loopg [5] n (fun gk d ws=>∃ (k q:Nat),gk=n - k∧k≤n∧k≤m∧Hid (∀ i,i<k→xs.getD i 0=ys.getD i 0)∧d=.int .i64 (k:Int)∧ws=w.drewN q)
 case atStart=>exact ⟨0,0,by omega,by omega,by omega,qz fun i h=>by omega,rfl,rfl⟩
 case round =>
  obtain ⟨k,q,rfl,hk,hkm,hgood,rfl,rfl⟩:=hrel
  have HEND:Hid ((k<n→k<m→xs.getD k 0≠ys.getD k 0)→IsCommon xs ys k):=qz fun h=>⟨by rw [← uh HN];exact hk,by rw [← uh HM];exact hkm,uh hgood,by rw [← uh HN,← uh HM];exact h⟩
  by_cases hlt:k<n
  ·have hki:(k:Int)<(n:Int):=by omega
   by_cases hltm:k<m
   ·have hkj:(k:Int)<(m:Int):=by omega
    obtain ⟨a',c',e,_,hs⟩:=uh H1
    injection e with e1 e2 e3
    subst e1 e3
    clear e2
    obtain ⟨b1,off1,rfl,_,hcell1⟩:=hs (by rw [← uh HN];omega)
    obtain ⟨a',c',e,_,hs2⟩:=uh H2
    injection e with e1 e2 e3
    subst e1 e3
    clear e2
    obtain ⟨b2,off2,rfl,_,hcell2⟩:=hs2 (by rw [← uh HM];omega)
    have k1:=hcell1 k (by rw [← uh HN];exact hlt)
    have k2:=hcell2 k (by rw [← uh HM];exact hltm)
    obtain ⟨x,hx⟩:∃ x,x=xs.getD k 0:=⟨_,rfl⟩
    obtain ⟨y,hy⟩:∃ y,y=ys.getD k 0:=⟨_,rfl⟩
    rw [← hx] at k1 HEND
    rw [← hy] at k2 HEND
    by_cases hxy:x=y
    ·have HG:Hid (∀ i,i<k+1→xs.getD i 0=ys.getD i 0):=qz fun i hi=>by
      by_cases e:i=k
      ·rw [e,← hx,← hy];exact hxy
      ·exact uh hgood i (by omega)
     have e1:((x:Int) == (y:Int))=true:=by simp [hxy]
     have e1':(x == y)=true:=by simp [hxy]
     clear hcell1 hcell2 hx hy hgood hs hs2 hxy HEND
     go_wp2_with fail
     go_quiet (fail)
     go_wp2_with fail
     go_roundg (n - (k+1))
     case measure=>omega
     case rel=>exact ⟨k+1,q+nq,rfl,by omega,by omega,HG,by go_num,by first | rfl | (rw [World.drewN_drewN])⟩
    ·have e1:((x:Int) == (y:Int))=false:=by simp;omega
     have e1':(x == y)=false:=by simp [hxy]
     have HE:=qz (uh HEND fun _ _=>hxy)
     clear hcell1 hcell2 hx hy hgood hs hs2 hxy HEND
     go_wp2_with fail
     go_quiet (fail)
     go_wp2_with fail
     go_ret
     exact ⟨k,rfl,uh HE,q+nq,by first | rfl | (rw [World.drewN_drewN])⟩
   ·have hkj:¬ (k:Int)<(m:Int):=by omega
    have HE:=qz (uh HEND fun _ h=>by omega)
    clear HEND hgood
    go_wp2_with fail
    go_quiet (fail)
    go_wp2_with fail
    go_ret
    exact ⟨k,rfl,uh HE,q+nq,by first | rfl | (rw [World.drewN_drewN])⟩
  ·have hki:¬ (k:Int)<(n:Int):=by omega
   have HE:=qz (uh HEND fun h=>by omega)
   clear HEND hgood
   go_wp2_with fail
   go_quiet (fail)
   go_wp2_with fail
   go_ret
   exact ⟨k,rfl,uh HE,q+nq,by first | rfl | (rw [World.drewN_drewN])⟩
theorem common_ok (xs ys:List Nat) (v u:Value) (B B':Nat) (w:World) (h1:ReadsU B w v xs) (h2:ReadsU B' w u ys) (hl:xs.length≤140737488355328) :
  Calls Tryz.prog 123 #[v,u] w fun e w'=>∃ n:Nat,e=.returned (.int .i64 (n:Int))∧IsCommon xs ys n∧∃ q,w'=w.drewN q:=by
 obtain ⟨a,ca,rfl,hs1⟩:=id h1
 obtain ⟨b,cb,rfl,hs2⟩:=id h2
 exact common_loop xs ys a b ca cb B B' w h1 h2 hl
end T6
namespace T6
open Go.RowKit
attribute [local go_sem ↓] wp_at_zero wp_at_succ
def Same (z:Nat→Nat) (p x k:Nat):Prop:=∀ i,i<k→z (x+i)=z (p+i)
theorem Same.mono {z:Nat→Nat} {p x k j:Nat} (h:Same z p x k) (hj:j≤k):Same z p x j:=fun i hi=>h i (by omega)
theorem same_eqs {z:Nat→Nat} {p x k:Nat} (hx:x≤p):Same z p x k↔Eqs z p (p - x) k:=by
 constructor
 ·intro h i hi
  rw [show p+i - (p - x)=x+i by omega]
  exact (h i hi).symm
 ·intro h i hi
  have:=h i hi
  rw [show p+i - (p - x)=x+i by omega] at this
  exact this.symm
def keyOf:List Nat→Nat:=List.foldl (fun k c=>k*256+c) 0
theorem keyOf_snoc (l:List Nat) (c:Nat):keyOf (l++[c])=keyOf l*256+c:=by simp [keyOf]
theorem keyOf_take (l:List Nat) (k:Nat) (hk:k<l.length):keyOf (l.take (k+1))=keyOf (l.take k)*256+l.getD k 0:=by
 rw [List.take_add_one,List.getElem?_eq_getElem hk]
 simp only [Option.toList_some]
 rw [keyOf_snoc]
 simp [List.getD,List.getElem?_eq_getElem hk]
theorem keyOf_lt:∀ (n:Nat) (l:List Nat),l.length=n→(∀ c∈l,c<256)→keyOf l<256 ^ n
 | 0,l,h,_=>by
  have:l=[]:=List.eq_nil_of_length_eq_zero h
  subst this
  decide
 | n+1,l,h,hb=>by
  rcases List.eq_nil_or_concat l with rfl | ⟨l',c,rfl⟩
  ·simp at h
  ·rw [List.concat_eq_append] at *
   rw [keyOf_snoc,Nat.pow_succ]
   have h1:=keyOf_lt n l' (by simpa using h) (fun x hx=>hb x (by simp [hx]))
   have h2:=hb c (by simp)
   omega
theorem keyOf_inj:∀ (n:Nat) (l m:List Nat),l.length=n→m.length=n→(∀ c∈l,c<256)→(∀ c∈m,c<256)→keyOf l=keyOf m→l=m
 | 0,l,m,h,h',_,_,_=>by rw [List.eq_nil_of_length_eq_zero h,List.eq_nil_of_length_eq_zero h']
 | n+1,l,m,h,h',hb,hb',e=>by
  rcases List.eq_nil_or_concat l with rfl | ⟨l',c,rfl⟩
  ·simp at h
  ·rcases List.eq_nil_or_concat m with rfl | ⟨m',c',rfl⟩
   ·simp at h'
   ·rw [List.concat_eq_append] at *
    rw [List.concat_eq_append] at *
    rw [keyOf_snoc,keyOf_snoc] at e
    have h1:=hb c (by simp)
    have h2:=hb' c' (by simp)
    have h3:=keyOf_inj n l' m' (by simpa using h) (by simpa using h') (fun x hx=>hb x (by simp [hx])) (fun x hx=>hb' x (by simp [hx])) (by omega)
    rw [h3,show c=c' by omega]
theorem or256 (V c u:Nat) (hV:V*256+256≤18446744073709551616) (hc:c<256) (hu:u=V*256+c):bits .or .u64 ((V:Int)*256) (c:Int)=(u:Int):=by
 have h:=u64_or_nat (V*256) c (by omega) (by omega)
 have e:((V:Int)*256)=((V*256:Nat):Int):=by simp
 rw [e,h,hu]
 have:=Nat.two_pow_add_eq_or_of_lt (i:=8) (b:=c) (by omega) V
 rw [show (2:Nat) ^ 8=256 from rfl,Nat.mul_comm] at this
 rw [← this]
theorem key_loop (zs:List Nat) (a:Option Addr) (cap B:Nat) (w:World) (h1:ReadsU B w (.slice a zs.length cap) zs) (hl:zs.length≤8) (hb:∀ c∈zs,c<256) :
  Calls Tryz.prog 127 #[.slice a zs.length cap] w fun e w'=>e=.returned (.int .u64 (keyOf zs:Int))∧w'=w:=by
 have H1:=qz h1
 have HB:=qz hb
 clear h1 hb
 obtain ⟨n,hn⟩:∃ n,n=zs.length:=⟨_,rfl⟩
 rw [← hn] at H1 hl ⊢
 have HN:=qz hn
 clear hn
 obtain ⟨K,hK⟩:∃ K,K=keyOf zs:=⟨_,rfl⟩
 rw [← hK]
 have HK:=qz hK
 clear hK
 go_enter Tryz.func127,Tryz.ntmps127
 go_wp2_with fail
 go_loopg [3,8] n (fun gk v d ws=>∃ (k V:Nat),gk=n - k∧k≤n∧Hid (V=keyOf (zs.take k))∧v=.int .u64 (V:Int)∧d=.int .i64 (k:Int)∧ws=w)
 case atStart=>exact ⟨0,0,by omega,by omega,qz rfl,rfl,rfl,rfl⟩
 case round =>
  obtain ⟨k,V,rfl,hk,HV,rfl,rfl,rfl⟩:=hrel
  by_cases hlt:k<n
  ·have hki:(k:Int)<(n:Int):=by omega
   obtain ⟨a',c',e,_,hs⟩:=uh H1
   injection e with e1 e2 e3
   subst e1 e3
   clear e2
   obtain ⟨b1,off1,rfl,_,hcell1⟩:=hs (by rw [← uh HN];omega)
   have k1:=hcell1 k (by rw [← uh HN];exact hlt)
   obtain ⟨x,hx⟩:∃ x,x=zs.getD k 0:=⟨_,rfl⟩
   rw [← hx] at k1
   have hx256:x<256:=by
    rw [hx]
    exact uh HB _ (by
     rw [List.getD_eq_getElem?_getD,List.getElem?_eq_getElem (by rw [← uh HN];exact hlt)]
     exact List.getElem_mem _)
   have hV:V*256+256≤18446744073709551616:=by
    have h3:V<256 ^ k:=by
     rw [uh HV]
     exact keyOf_lt k _ (by rw [List.length_take,← uh HN];omega) (fun c hc=>uh HB c (List.mem_of_mem_take hc))
    have h4:256 ^ k≤256 ^ 7:=Nat.pow_le_pow_right (by decide) (by omega)
    have h5:256 ^ 7=72057594037927936:=by decide
    omega
   have HV':Hid (V*256+x=keyOf (zs.take (k+1))):=qz (by rw [keyOf_take zs k (by rw [← uh HN];exact hlt),uh HV,hx])
   obtain ⟨V',hV'⟩:∃ V',V'=V*256+x:=⟨_,rfl⟩
   rw [← hV'] at HV'
   have hor:=or256 V x V' hV hx256 hV'
   clear hcell1 hs HV hx hV'
   go_wp2_with fail
   go_roundg (n - (k+1))
   case measure=>omega
   case rel=>exact ⟨k+1,V',rfl,by omega,HV',rfl,by go_num,rfl⟩
  ·have hki:¬ (k:Int)<(n:Int):=by omega
   have:V=K:=by
    rw [uh HV,uh HK,List.take_of_length_le (by rw [← uh HN];omega)]
   subst this
   go_wp2_with fail
   go_ret
   exact ⟨rfl,rfl⟩
theorem key_ok (zs:List Nat) (v:Value) (B:Nat) (w:World) (h1:ReadsU B w v zs) (hl:zs.length≤8) (hb:∀ c∈zs,c<256) :
  Calls Tryz.prog 127 #[v] w fun e w'=>e=.returned (.int .u64 (keyOf zs:Int))∧w'=w:=by
 obtain ⟨a,ca,rfl,hs1⟩:=id h1
 exact key_loop zs a ca B w h1 hl hb
end T6
namespace T6
abbrev zf (zs:List Nat):Nat→Nat:=fun i=>zs.getD i 0
def keyAt (zs:List Nat) (s p:Nat):Nat:=keyOf ((zs.drop p).take s)
def lastOf (zs:List Nat) (s:Nat):Nat→Nat→Nat
 | 0,_=>0
 | m+1,k=>if keyAt zs s m=k then m+1 else lastOf zs s m k
theorem lastOf_le (zs:List Nat) (s k:Nat):∀ m,lastOf zs s m k≤m
 | 0=>Nat.le_refl _
 | m+1=>by
  rw [lastOf]
  split
  ·exact Nat.le_refl _
  ·have:=lastOf_le zs s k m;omega
theorem lastOf_no (zs:List Nat) (s k:Nat):∀ m q,lastOf zs s m k≤q→q<m→keyAt zs s q≠k
 | 0,q,_,h=>by omega
 | m+1,q,h,hq=>by
  rw [lastOf] at h
  split at h
  ·omega
  ·rename_i hne
   by_cases e:q=m
   ·subst e;exact hne
   ·exact lastOf_no zs s k m q h (by omega)
theorem lastOf_hit (zs:List Nat) (s k:Nat):∀ m p,lastOf zs s m k=p+1→p<m∧keyAt zs s p=k
 | 0,p,h=>by simp [lastOf] at h
 | m+1,p,h=>by
  rw [lastOf] at h
  split at h
  ·rename_i e
   have:p=m:=by omega
   subst this
   exact ⟨by omega,e⟩
  ·have:=lastOf_hit zs s k m p h
   exact ⟨by omega,this.2⟩
theorem keyAt_same {zs:List Nat} (hb:∀ c∈zs,c<256) {s p q:Nat} (hp:p+s≤zs.length) (hq:q+s≤zs.length):keyAt zs s q=keyAt zs s p↔Same (zf zs) p q s:=by
 have l1:((zs.drop p).take s).length=s:=by simp;omega
 have l2:((zs.drop q).take s).length=s:=by simp;omega
 constructor
 ·intro h i hi
  have e:=keyOf_inj s _ _ l2 l1 (fun c hc=>hb c (List.mem_of_mem_drop (List.mem_of_mem_take hc))) (fun c hc=>hb c (List.mem_of_mem_drop (List.mem_of_mem_take hc))) h
  show zs.getD (q+i) 0=zs.getD (p+i) 0
  rw [← slice_get zs q s i hi,← slice_get zs p s i hi,e]
 ·intro h
  unfold keyAt
  congr 1
  refine list_eq (by rw [l1,l2]) fun i hi=>?_
  rw [l2] at hi
  rw [slice_get _ _ _ _ hi,slice_get _ _ _ _ hi]
  exact h i hi
structure ChainAt (z:Nat→Nat) (p f m s n d c:Nat):Prop where
 nle:n≤m
 cle:c≤p
 one:(n=0∧d=0)∨(s≤n∧1≤d∧d+f≤p∧Eqs z p d n∧∀ d',1≤d'→d'<d→¬ Eqs z p d' n)
 no:n<m→∀ y,c≤y→y<p→¬ Same z p y (max (n+1) s)
theorem ChainAt.start {z:Nat→Nat} {p f m s c:Nat} (hc:c≤p) (h:∀ y,c≤y→y<p→¬ Same z p y s):ChainAt z p f m s 0 0 c :=
 ⟨Nat.zero_le _,hc,.inl ⟨rfl,rfl⟩,fun _ y h1 h2 hs=>h y h1 h2 (hs.mono (by omega))⟩
theorem ChainAt.skip {z:Nat→Nat} {p f m s n d x c:Nat} (h:ChainAt z p f m s n d (x+1)) (hc:c≤x) (hx:¬ Same z p x (max (n+1) s)) (hno:∀ y,c≤y→y<x→¬ Same z p y s):ChainAt z p f m s n d c:=by
 refine ⟨h.nle,by have:=h.cle;omega,h.one,fun hn y h1 h2 hs=>?_⟩
 by_cases e:y=x
 ·subst e;exact hx hs
 ·by_cases hl:y<x
  ·exact hno y h1 hl (hs.mono (by omega))
  ·exact h.no hn y (by omega) h2 hs
theorem ChainAt.better {z:Nat→Nat} {p f m s n d x c n':Nat} (h:ChainAt z p f m s n d (x+1)) (hn:n<m) (hs1:1≤s) (hsm:s≤m) (hc:c≤x) (hfx:f≤x) (hx:Same z p x s) (hno:∀ y,c≤y→y<x→¬ Same z p y s)
  (h1:Same z p x n') (h2:n'≤m) (h3:n'<m→¬ Same z p x (n'+1)) (hgt:n<n'):ChainAt z p f m s n' (p - x) c:=by
 have hxp:x<p:=by have:=h.cle;omega
 have hsn:s≤n':=by
  refine Classical.byContradiction fun hc=>?_
  exact h3 (by omega) (hx.mono (by omega))
 refine ⟨h2,by omega,.inr ⟨hsn,by omega,by omega,(same_eqs (by omega)).1 h1,fun d' h4 h5 he=>?_⟩,fun hn' y h4 h5 hs=>?_⟩
 ·have e:d'=p - (p - d'):=by omega
  rw [e] at he
  exact h.no hn (p - d') (by omega) (by omega) (((same_eqs (by omega)).2 he).mono (by omega))
 ·by_cases e:y=x
  ·subst e;exact h3 hn' (hs.mono (by omega))
  ·by_cases hl:y<x
   ·exact hno y h4 hl (hs.mono (by omega))
   ·exact h.no hn y (by omega) h5 (hs.mono (by omega))
theorem ChainAt.best {z:Nat→Nat} {p f m s n d c:Nat} (h:ChainAt z p f m s n d c) (hs1:1≤s) (hn:s≤n) (hc:c≤f∨n=m):IsBest z p (p - f) m n d:=by
 rcases h.one with ⟨e,_⟩ | ⟨h1,h2,h3,h4,h5⟩
 ·omega
 ·refine ⟨h.nle,.inr ⟨by omega,h2,by omega,h4,h5⟩,fun hlt d' k1 k2 he=>?_⟩
  rcases hc with hc | hc
  ·have e:d'=p - (p - d'):=by omega
   rw [e] at he
   exact h.no hlt (p - d') (by omega) (by omega) (((same_eqs (by omega)).2 he).mono (by omega))
  ·omega
def NoneIn (z:Nat→Nat) (p w s:Nat):Prop:=∀ d,1≤d→d≤w→¬ Eqs z p d s
theorem IsBest.wide {z:Nat→Nat} {p w m m' n d:Nat} (h:IsBest z p w m n d) (hm:m≤m') (hno:m<m'→NoneIn z p w (m+1)):IsBest z p w m' n d:=by
 refine ⟨Nat.le_trans h.le hm,h.one,fun hlt d' h1 h2 he=>?_⟩
 by_cases e:n<m
 ·exact h.max e d' h1 h2 he
 ·have e':n=m:=Nat.le_antisymm h.le (by omega)
  subst e'
  exact hno hlt d' h1 h2 he
theorem NoneIn.mono {z:Nat→Nat} {p w s t:Nat} (h:NoneIn z p w s) (hs:s≤t):NoneIn z p w t:=fun d h1 h2 he=>h d h1 h2 (he.mono hs)
theorem NoneIn.short {z:Nat→Nat} {p w s m n d:Nat} (h:NoneIn z p w s) (hs:1≤s) (hb:IsBest z p w m n d):n<s:=by
 refine Classical.byContradiction fun hc=>?_
 rcases hb.one with ⟨e,_⟩ | ⟨h1,h2,h3,h4,_⟩
 ·omega
 ·exact h d h2 h3 (h4.mono (by omega))
theorem stood_none {zs:List Nat} (hb:∀ c∈zs,c<256) {s p f c:Nat} (hp:p+s≤zs.length) (hc:c=lastOf zs s p (keyAt zs s p)) (hcf:c≤f) (hfp:f≤p):NoneIn (zf zs) p (p - f) s:=fun d h1 h2 he=>by
 have e:d=p - (p - d):=by omega
 rw [e] at he
 have hs:=(same_eqs (by omega)).2 he
 exact lastOf_no zs s _ p (p - d) (by omega) (by omega) ((keyAt_same hb hp (by omega)).2 hs)
theorem chain_none {zs:List Nat} (hb:∀ c∈zs,c<256) {s p x c:Nat} (hp:p+s≤zs.length) (hx:x≤p) (hc:c=lastOf zs s x (keyAt zs s p)):∀ y,c≤y→y<x→¬ Same (zf zs) p y s:=fun y h1 h2 hs =>
 lastOf_no zs s _ x y (by omega) h2 ((keyAt_same hb hp (by omega)).2 hs)
theorem chain_hit {zs:List Nat} (hb:∀ c∈zs,c<256) {s p x y:Nat} (hp:p+s≤zs.length) (hx:x≤p) (hc:lastOf zs s x (keyAt zs s p)=y+1):y<x∧Same (zf zs) p y s:=by
 obtain ⟨h1,h2⟩:=lastOf_hit zs s _ x y hc
 exact ⟨h1,(keyAt_same hb hp (by omega)).1 h2⟩
end T6
namespace T6
open Go.RowKit
def iv (z:Int):Value:=.int .i64 z
theorem info3':(Tryz.prog.info? 3).map (fun i=>(i.zero,i.size,i.bytes))=some (some (.int .i64 0),1,8):=by kernel_rfl
section
variable {P:Program} {md:Region.Mode} {ops:Array Oper} {Q:Exit→Act→World→Prop} {S:World→Prop}
theorem held_go {o:Oper} {v:Value} {fuel:Nat} {listed:Array Bool} {l:List Value} {df:List Deferred} {w w':World} {K:Act→World→Prop} (i d:Nat)
  (hK:Shut (∀ a w,S w→(S w→wpAnyH P md ops Q S fuel (listed.setIfInBounds i true) a w)→K a w)) (hd:o.dst=some d)
  (hw:Region.wanted o (yielded ops l.toArray)=true) (hrun:(execOp (Act.eval ⟨l.toArray,df⟩) o).run P w=.ok (.value v) w') (hS:S w')
  (h:wpAnyH P md ops Q S fuel (listed.setIfInBounds i true) ⟨(l.set d v).toArray,df⟩ w') :
  if Region.wanted o (yielded ops (⟨l.toArray,df⟩:Act).tmps)=true then Oper.wp P o ⟨l.toArray,df⟩ w K Q else K ((⟨l.toArray,df⟩:Act).put o.dst undef) w:=by
 rw [if_pos hw]
 unfold Oper.wp
 rw [hrun,Oper.upon_value]
 have e:Act.put (⟨l.toArray,df⟩:Act) o.dst v=⟨(l.set d v).toArray,df⟩:=by rw [hd];simp [Act.put]
 rw [e]
 exact hK.out _ _ hS (fun _=>h)
theorem held_two {fuel:Nat} {listed:Array Bool} {a:Act} {w:World} {i j:Nat} {o1 o2:Oper} (hr:Region.ready md ops listed=[i,j]) (h1:ops[i]?=some o1) (h2:ops[j]?=some o2)
  (k1:∀ K:Act→World→Prop,Shut (∀ a w,S w→(S w→wpAnyH P md ops Q S fuel (listed.setIfInBounds i true) a w)→K a w)→if Region.wanted o1 (yielded ops a.tmps)=true then Oper.wp P o1 a w K Q else K (a.put o1.dst undef) w)
  (k2:∀ K:Act→World→Prop,Shut (∀ a w,S w→(S w→wpAnyH P md ops Q S fuel (listed.setIfInBounds j true) a w)→K a w)→if Region.wanted o2 (yielded ops a.tmps)=true then Oper.wp P o2 a w K Q else K (a.put o2.dst undef) w) :
  wpAnyH P md ops Q S (fuel+1) listed a w:=wpAnyH_ready hr (by simp) (AllReadyH.cons h1 k1 (AllReadyH.cons h2 k2 AllReadyH.nil))
theorem held_one {o:Oper} {v:Value} {fuel:Nat} {listed:Array Bool} {l:List Value} {df:List Deferred} {w w':World} (i d:Nat) (hr:Region.ready md ops listed=[i]) (hi:ops[i]?=some o) (hd:o.dst=some d)
  (hw:Region.wanted o (yielded ops l.toArray)=true) (hrun:(execOp (Act.eval ⟨l.toArray,df⟩) o).run P w=.ok (.value v) w') (hS:S w')
  (h:wpAnyH P md ops Q S fuel (listed.setIfInBounds i true) ⟨(l.set d v).toArray,df⟩ w'):wpAnyH P md ops Q S (fuel+1) listed ⟨l.toArray,df⟩ w :=
 wpAnyH_ready hr (by simp) (AllReadyH.cons hi (fun K hK=>held_go i d hK hd hw hrun hS h) AllReadyH.nil)
theorem held_skip {o:Oper} {fuel:Nat} {listed:Array Bool} {a:Act} {w w':World} (i:Nat) (hr:Region.ready md ops listed=[i]) (hi:ops[i]?=some o) (hd:o.dst=none)
  (hw:Region.wanted o (yielded ops a.tmps)=true) (hrun:(execOp (Act.eval a) o).run P w=.ok .skip w') (hS:S w')
  (h:wpAnyH P md ops Q S fuel (listed.setIfInBounds i true) a w'):wpAnyH P md ops Q S (fuel+1) listed a w:=by
 refine wpAnyH_ready hr (by simp) (AllReadyH.cons hi (fun K hK=>?_) AllReadyH.nil)
 rw [if_pos hw]
 unfold Oper.wp
 rw [hrun,Oper.upon_skip]
 have e:Act.put a o.dst undef=a:=by rw [hd];rfl
 rw [e]
 exact hK.out _ _ hS (fun _=>h)
theorem held_append {o:Oper} {fuel:Nat} {listed:Array Bool} {l:List Value} {df:List Deferred} {w:World} (i d:Nat) (s x:Operand) (hr:Region.ready md ops listed=[i]) (hi:ops[i]?=some o) (hd:o.dst=some d)
  (hw:Region.wanted o (yielded ops l.toArray)=true) (ho:o.op=.call { callee:=.builtin .append,args:=#[s,x],argTypes:=#[45,45] }) (hP:P=Tryz.prog)
  (base:Nat) (v:Value) (n:Nat) (xs:List Value) (hs:Act.eval ⟨l.toArray,df⟩ s=v) (hown:w.ownsRow base 3 1 v n xs) (ad:Addr) (z:Int) (hx:Act.eval ⟨l.toArray,df⟩ x=.slice (some ad) 1 1)
  (hnew:w.cell? ad=some (.int .i64 z)) (hb:n+1≤1000000000) (hbase:base≤w.heap.size) (H:Nat) (hH:w.heap.size=H) (hS:∀ w',w.grownBy w' v.ownBlock→S w')
  (h:∀ g cap w',w'.ownsRow base 3 1 (.slice (some ⟨g,0,none⟩) (n+1) cap) (n+1) (xs++[iv z])→w.grownBy w' v.ownBlock→(v.ownBlock=some g∨g=H)→g<w'.heap.size →
   wpAnyH P md ops Q S fuel (listed.setIfInBounds i true) ⟨(l.set d (.slice (some ⟨g,0,none⟩) (n+1) cap)).toArray,df⟩ w'):wpAnyH P md ops Q S (fuel+1) listed ⟨l.toArray,df⟩ w:=by
 subst hP
 obtain ⟨i0,hii,hz0,hz1,hz2⟩:=info_parts info3'
 refine wpAnyH_ready hr (by simp) (AllReadyH.cons hi (fun K hK=>?_) AllReadyH.nil)
 rw [if_pos hw]
 refine wp_append_lies w s x 45 ho base 3 i0 _ 1 8 Tryz.underlying45 hii hz0 hz1 hz2 rfl (by decide) v n xs hs hown ad 1 1 [iv z] hx rfl (fun j u hj=>?_) (by intro u hu;simp at hu;subst hu;rfl) (by omega) (by unfold maxLen;omega) (by omega) hbase H hH (fun g cap w' h1 h2 h3 h4=>?_)
 ·match j,hj with
  | 0,hj=>simp [iv] at hj;subst hj;simpa [Addr.add] using hnew
 ·have e:Act.put (⟨l.toArray,df⟩:Act) o.dst (.slice (some ⟨g,0,none⟩) (n+1) cap)=⟨(l.set d (.slice (some ⟨g,0,none⟩) (n+1) cap)).toArray,df⟩:=by rw [hd];simp [Act.put]
  rw [e]
  exact hK.out _ _ (hS w' h2) (fun _=>h g cap w' h1 h2 h3 h4)
end
end T6
namespace T6
open Go.RowKit Go.Maps
attribute [local go_sem ↓] wp_at_zero wp_at_succ
theorem keyed79:Keyed Tryz.prog 92:=int_keyed Tryz.underlying92
theorem zero3 (w:World):(zeroValue 3).run Tryz.prog w=.ok (.int .i64 0) w:=by kernel_rfl
theorem wf_u64 (k:Nat) (h:k<18446744073709551616):(Lit.int .u64 (k:Int)).wf=true:=by
 have h1:IntKind.u64.min=0:=by decide
 have h2:IntKind.u64.max=18446744073709551615:=by decide
 simp [Lit.wf,h1,h2]
 omega
theorem key79 (k:Nat) (h:k<18446744073709551616):Go.keyOf Tryz.prog 92 (.int .u64 (k:Int))=some (.int .u64 (k:Int)):=keyOf_int_mk Tryz.underlying92 (wf_u64 k h)
def MapIs (w:World) (b n:Nat) (f:Nat→Nat):Prop :=
 ∃ D:DataW Unit,w.ownsMap Tryz.prog 92 (plainElem Tryz.prog 3) b n D∧∀ k:Nat,k<18446744073709551616→D.atKey (.int .u64 (k:Int)) (.lit (.int .i64 0))=.lit (.int .i64 (f k:Nat))
theorem MapIs.look {w:World} {b n:Nat} {f:Nat→Nat} (h:MapIs w b n f) (k:Nat) (hk:k<18446744073709551616):(Instr.lookup 160 (.map (some b)) (.int .u64 (k:Int)) false).run Tryz.prog w=.ok (.int .i64 (f k:Nat)) w:=by
 obtain ⟨D,hD,hf⟩:=h
 obtain ⟨c,hrun,hat,_⟩:=hD.lookup_int keyed79 Tryz.underlying160 Tryz.underlying3 (zero3 w) (key79 k hk)
 rw [hf k hk] at hat
 injection hat with hat
 injection hat with _ hat
 rw [hrun,← hat]
theorem MapIs.made (w:World):MapIs (w.alloc (.map #[] 0)) w.heap.size 0 (fun _=>0):=⟨_,World.ownsMap_made w _ _ _,fun k hk=>rfl⟩
theorem MapIs.block {w w':World} {b n:Nat} {f:Nat→Nat} (h:MapIs w b n f) (hb:w'.heap[b]?=w.heap[b]?):MapIs w' b n f:=by
 obtain ⟨D,⟨es,clock,h1,h2⟩,hf⟩:=h
 exact ⟨D,⟨es,clock,by rw [hb];exact h1,h2⟩,hf⟩
theorem MapIs.is {w:World} {b n:Nat} {f:Nat→Nat} (h:MapIs w b n f):∃ es clock,w.heap[b]?=some (.map es clock):=by
 obtain ⟨D,⟨es,clock,h1,h2⟩,hf⟩:=h
 exact ⟨es,clock,h1⟩
theorem MapIs.put {w:World} {b n:Nat} {f f':Nat→Nat} {D:DataW Unit} {k x:Nat} (hk:k<18446744073709551616) (h:w.ownsMap Tryz.prog 92 (plainElem Tryz.prog 3) b n (D.put (.int .u64 (k:Int)) (.lit (.int .i64 (x:Int)))))
  (hD:IsMap D) (hf:∀ k:Nat,k<18446744073709551616→D.atKey (.int .u64 (k:Int)) (.lit (.int .i64 0))=.lit (.int .i64 (f k:Nat))) (h1:f' k=x) (h2:∀ j,j≠k→f' j=f j):MapIs w b n f':=by
 refine ⟨_,h,fun j hj=>?_⟩
 by_cases e:j=k
 ·subst e
  rw [atKey_put_same hD (keyed79.key (key79 j hj)),h1]
 ·rw [atKey_put_other (by intro h;injection h with _ h;omega),hf j hj,h2 j e]
def befs (zs:List Nat) (s m:Nat):List Int:=(List.range m).map fun p=>(lastOf zs s p (keyAt zs s p):Int)
theorem befs_succ (zs:List Nat) (s m:Nat):befs zs s (m+1)=befs zs s m++[(lastOf zs s m (keyAt zs s m):Int)]:=by simp [befs,List.range_succ]
theorem befs_get (zs:List Nat) (s m p:Nat) (h:p<m):(befs zs s m)[p]?=some (lastOf zs s p (keyAt zs s p):Int):=by simp [befs,h]
structure LvlAt (zs:List Nat) (s m B:Nat) (w:World) (g o b:Nat) (v:Value):Prop where
 c0:w.cell? ⟨g,o,none⟩=some (.int .i64 (s:Int))
 c1:w.cell? ⟨g,o+1,none⟩=some (.map (some b))
 c2:w.cell? ⟨g,o+2,none⟩=some v
 mp:MapIs w b m (lastOf zs s m)
 row:w.ownsRow B 3 1 v m ((befs zs s m).map iv)
structure AddChg (w:World) (g o b:Nat) (v v':Value) (w':World):Prop where
 os:w'.os=w.os
 tape:w'.tape=w.tape
 output:w'.output=w.output
 size:w.heap.size≤w'.heap.size
 kp:∀ x,x<w.heap.size→x≠g→x≠b→v.ownBlock≠some x→w'.heap[x]?=w.heap[x]?
 gb:∀ cs t f,w.heap[g]?=some (.cells cs t f)→w'.heap[g]?=some (.cells (cs.setIfInBounds (o+2) v') t f)
 own:v'.ownBlock=v.ownBlock∨∃ h,v'.ownBlock=some h∧w.heap.size≤h
theorem keyAt_lt {zs:List Nat} (hb:∀ c∈zs,c<256) {s p:Nat} (hs:s≤8) (hp:p+s≤zs.length):keyAt zs s p<18446744073709551616:=by
 have h:=keyOf_lt s ((zs.drop p).take s) (by simp;omega) (fun c hc=>hb c (List.mem_of_mem_drop (List.mem_of_mem_take hc)))
 have h2:256 ^ s≤256 ^ 8:=Nat.pow_le_pow_right (by decide) hs
 have h3:256 ^ 8=18446744073709551616:=by decide
 unfold keyAt
 omega
theorem lastOf_self (zs:List Nat) (s m:Nat):lastOf zs s (m+1) (keyAt zs s m)=m+1:=by rw [lastOf,if_pos rfl]
theorem lastOf_other (zs:List Nat) (s m:Nat):∀ k,k≠keyAt zs s m→lastOf zs s (m+1) k=lastOf zs s m k:=fun k h=>by rw [lastOf,if_neg (fun e=>h e.symm)]
structure AddS (g o b n:Nat) (f:Nat→Nat) (x:World):Prop where
 c1:x.cell? ⟨g,o+1,none⟩=some (.map (some b))
 mp:MapIs x b n f
theorem row_not_map {w:World} {B n:Nat} {v:Value} {xs:List Value} (h:w.ownsRow B 3 1 v n xs) {b:Nat} {es:Array MapEntry} {ck:Nat} (hb:w.heap[b]?=some (.map es ck)):v.ownBlock≠some b:=by
 rcases h.2 with ⟨e,_⟩ | ⟨g,cap,cur,e,_,hh,_⟩
 ·rw [e];simp [Value.ownBlock]
 ·rw [e]
  intro he
  simp [Value.ownBlock] at he
  subst he
  rw [hh] at hb
  cases hb
theorem row_not_cells {w:World} {B n:Nat} {v:Value} {xs:List Value} (h:w.ownsRow B 3 1 v n xs) {b:Nat} {cs:Array Value} {t:TypeId} {f:Nat × Nat} (hb:w.heap[b]?=some (.cells cs t f)) (ht:t≠3):v.ownBlock≠some b:=by
 rcases h.2 with ⟨e,_⟩ | ⟨g,cap,cur,e,_,hh,_⟩
 ·rw [e];simp [Value.ownBlock]
 ·rw [e]
  intro he
  simp [Value.ownBlock] at he
  subst he
  rw [hh] at hb
  injection hb with hb
  injection hb with _ hb _
  exact ht hb.symm
end T6
namespace T6
open Go.RowKit Go.Maps
attribute [local go_sem ↓] wp_at_zero wp_at_succ
theorem add_keep {x1 w2:World} {O:Obj} {r:Option Nat} (h:(x1.alloc O).grownBy w2 r) {x:Nat} (hx:x<x1.heap.size) (hr:r≠some x):w2.heap[x]?=x1.heap[x]?:=by
 rw [h.block x (by simp;omega) (fun e=>hr e.symm)];exact Below.heap_alloc _ _ _ hx
theorem new_int (w:World) (z:Int):(w.alloc (.cells #[.int .i64 z] 3)).cell? ⟨w.heap.size,0,none⟩=some (.int .i64 z):=by simp only [World.cell?,heap_alloc_new];rfl
theorem cell_at {w:World} {g i:Nat} {cs:Array Value} {t:TypeId} {f:Nat × Nat} (h:w.heap[g]?=some (.cells cs t f)) (hi:i<cs.size):∃ u,w.cell? ⟨g,i,none⟩=some u:=⟨cs[i],by simp [World.cell?,h,hi]⟩
theorem AddS.keep {g o b n:Nat} {f:Nat→Nat} {x y:World} (h:AddS g o b n f x) (hg:y.heap[g]?=x.heap[g]?) (hb:y.heap[b]?=x.heap[b]?):AddS g o b n f y :=
 ⟨by rw [World.cell?_of_block hg];exact h.c1,h.mp.block hb⟩
theorem AddS.alloc {g o b n:Nat} {f:Nat→Nat} {x:World} (h:AddS g o b n f x) (O:Obj):AddS g o b n f (x.alloc O):=by
 obtain ⟨es,ck,hb⟩:=h.mp.is
 exact h.keep (Below.heap_alloc _ _ _ (cell_lt h.c1)) (Below.heap_alloc _ _ _ (heap_lt hb))
theorem AddS.set {g o b n:Nat} {f:Nat→Nat} {x:World} (h:AddS g o b n f x) {cs:Array Value} (hg:x.heap[g]?=some (.cells cs 162 (0,0))) (u:Value):AddS g o b n f (x.setCell ⟨g,o+2,none⟩ u):=by
 obtain ⟨es,ck,hb⟩:=h.mp.is
 have hne:b≠g:=fun e=>by rw [e,hg] at hb;cases hb
 refine ⟨?_,h.mp.block (heap_setCell_other _ _ _ _ (by exact hne))⟩
 have h1:=h.c1
 simp only [World.cell?,hg] at h1
 simp only [World.cell?,heap_setCell_same x g (o+2) cs 162 u hg]
 rw [Array.getElem?_setIfInBounds_ne (by omega)]
 exact h1
theorem LvlAt.same {zs:List Nat} {s p B:Nat} {x y:World} {g o b:Nat} {v:Value} (h:LvlAt zs s p B x g o b v) (e:y.heap=x.heap):LvlAt zs s p B y g o b v :=
 have k:∀ a,y.cell? a=x.cell? a:=fun a=>World.cell?_of_block (by rw [e])
 ⟨by rw [k];exact h.c0,by rw [k];exact h.c1,by rw [k];exact h.c2,h.mp.block (by rw [e]),own_keep h.row (fun q _=>by rw [e])⟩
theorem LvlAt.added {zs:List Nat} {s p B:Nat} {x1:World} {g o b:Nat} {v:Value} {cs:Array Value} (h:LvlAt zs s p B x1 g o b v) (hg:x1.heap[g]?=some (.cells cs 162 (0,0))) (hk:keyAt zs s p<18446744073709551616)
  (g' cap':Nat) (w2:World) (D:DataW Unit) (w4:World)
  (h1:w2.ownsRow B 3 1 (.slice (some ⟨g',0,none⟩) (p+1) cap') (p+1) ((befs zs s p).map iv++[iv (lastOf zs s p (keyAt zs s p):Nat)]))
  (h2:(x1.alloc (.cells #[.int .i64 ((lastOf zs s p (keyAt zs s p):Nat):Int)] 3)).grownBy w2 v.ownBlock) (h3:v.ownBlock=some g'∨g'=x1.heap.size+1)
  (hf:∀ k:Nat,k<18446744073709551616→D.atKey (.int .u64 (k:Int)) (.lit (.int .i64 0))=.lit (.int .i64 (lastOf zs s p k:Nat)))
  (hD:(w2.setCell ⟨g,o+2,none⟩ (.slice (some ⟨g',0,none⟩) (p+1) cap')).ownsMap Tryz.prog 92 (plainElem Tryz.prog 3) b p D)
  (h4:w4.ownsMap Tryz.prog 92 (plainElem Tryz.prog 3) b (p+1) (D.put (.int .u64 ((keyAt zs s p:Nat):Int)) (.lit (.int .i64 ((p:Int)+1)))))
  (h5:(w2.setCell ⟨g,o+2,none⟩ (.slice (some ⟨g',0,none⟩) (p+1) cap')).grownBy w4 (some b)) :
  LvlAt zs s (p+1) B w4 g o b (.slice (some ⟨g',0,none⟩) (p+1) cap')∧AddChg x1 g o b v (.slice (some ⟨g',0,none⟩) (p+1) cap') w4:=by
 obtain ⟨es,ck,hb⟩:=h.mp.is
 have hgb:g≠b:=fun e=>by rw [← e,hg] at hb;cases hb
 have hgl:=heap_lt hg
 have hbl:=heap_lt hb
 have hvg:v.ownBlock≠some g:=row_not_cells h.row hg (by decide)
 have hvb:v.ownBlock≠some b:=row_not_map h.row hb
 have k2:∀ x,x<x1.heap.size→v.ownBlock≠some x→w2.heap[x]?=x1.heap[x]?:=fun x hx hr=>add_keep h2 hx hr
 have hg2:=k2 g hgl hvg
 rw [hg] at hg2
 have hs2:x1.heap.size+1≤w2.heap.size:=by have:=h2.size;simpa using this
 have k4:∀ x,x<w2.heap.size→x≠g→x≠b→w4.heap[x]?=w2.heap[x]?:=fun x hx e1 e2=>by
  rw [h5.block x (by simpa using hx) (fun e=>e2 (by injection e))]
  exact heap_setCell_other _ _ _ _ (by exact e1)
 have hg4:w4.heap[g]?=some (.cells (cs.setIfInBounds (o+2) (.slice (some ⟨g',0,none⟩) (p+1) cap')) 162 (0,0)):=by
  rw [h5.block g (by simp;omega) (fun e=>hgb (by injection e))]
  exact heap_setCell_same w2 g (o+2) cs 162 _ hg2
 have c0:=h.c0
 have c1:=h.c1
 have c2:=h.c2
 simp only [World.cell?,hg] at c0 c1 c2
 have hg'g:g'≠g:=by
  rcases h3 with e | e
  ·intro e';rw [e'] at e;exact hvg e
  ·omega
 have hg'b:g'≠b:=by
  rcases h3 with e | e
  ·intro e';rw [e'] at e;exact hvb e
  ·omega
 have hg'l:g'<w2.heap.size:=by
  rcases h1.2 with ⟨e,_⟩ | ⟨q,c,cur,e,_,hh,_⟩
  ·cases e
  ·injection e with e1
   injection e1 with e1
   injection e1 with e1
   rw [e1]
   exact heap_lt hh
 refine ⟨⟨?_,?_,?_,?_,?_⟩,⟨?_,?_,?_,?_,fun x hx e1 e2 e3=>?_,fun cs' t f hx=>?_,?_⟩⟩
 ·simp only [World.cell?,hg4];rw [Array.getElem?_setIfInBounds_ne (by omega)];exact c0
 ·simp only [World.cell?,hg4];rw [Array.getElem?_setIfInBounds_ne (by omega)];exact c1
 ·simp only [World.cell?,hg4]
  have:o+2<cs.size:=by
   rcases Nat.lt_or_ge (o+2) cs.size with hl | hl
   ·exact hl
   ·rw [Array.getElem?_eq_none hl] at c2;cases c2
  simp [this]
 ·have e:((p:Int)+1)=((p+1:Nat):Int):=by omega
  rw [e] at h4
  exact MapIs.put hk h4 hD.isMap hf (lastOf_self zs s p) (fun j hj=>lastOf_other zs s p j hj)
 ·rw [befs_succ,List.map_append]
  exact own_keep h1 (fun q hq=>by
   simp [Value.ownBlock] at hq
   subst hq
   exact k4 _ hg'l hg'g hg'b)
 ·rw [h5.os];exact h2.os
 ·rw [h5.tape];exact h2.tape
 ·rw [h5.output];exact h2.output
 ·have:=h5.size;simp at this;omega
 ·rw [k4 x (by omega) e1 e2,k2 x hx e3]
 ·rw [hg] at hx
  injection hx with hx
  injection hx with hx1 hx2 hx3
  subst hx1 hx2 hx3
  exact hg4
 ·rcases h3 with e | e
  ·exact .inl (by rw [e];rfl)
  ·exact .inr ⟨g',rfl,by omega⟩
theorem add_ok (zs:List Nat) (s p B g o b cap ba off:Nat) (v:Value) (cs:Array Value) (w:World) (hs1:1≤s) (hs8:s≤8) (hr:ReadsU B w (.slice (some ⟨ba,off,none⟩) zs.length cap) zs) (hcap:zs.length≤cap) (hz:∀ c∈zs,c<256) (hp:p+s≤zs.length) (hl:zs.length≤100000000) (hB:B≤w.heap.size)
  (hlv:LvlAt zs s p B w g o b v) (hg:w.heap[g]?=some (.cells cs 162 (0,0))) :
  Calls Tryz.prog 125 #[.pointer (some ⟨g,o,none⟩),.slice (some ⟨ba,off,none⟩) zs.length cap,.int .i64 (p:Int)] w fun e w'=>e=.returned (.tuple #[])∧∃ v',LvlAt zs s (p+1) B w' g o b v'∧AddChg w g o b v v' w':=by
 have hln:((zs.drop p).take s).length=s:=by simp;omega
 have HKC:Hid (∀ q,Calls Tryz.prog 127 #[.slice (some ⟨ba,off+p,none⟩) s s] (w.drewN q) fun e w'=>e=.returned (.int .u64 (keyAt zs s p:Nat))∧w'=w.drewN q):=qz fun q=>by
  have h1:=(hr.sub rfl p s s hp (Nat.le_refl _)).stays (w1:=w.drewN q) ⟨rfl,rfl,rfl,Nat.le_refl _,fun _ _=>rfl⟩
  exact key_ok ((zs.drop p).take s) _ B (w.drewN q) h1 (by rw [hln];exact hs8) (fun c hc=>hz c (List.mem_of_mem_drop (List.mem_of_mem_take hc)))
 have c0:=hlv.c0
 have hk64:=keyAt_lt hz hs8 hp
 have HADS:Hid (AddS g o b p (lastOf zs s p) w):=qz ⟨hlv.c1,hlv.mp⟩
 have HZL:Hid (lastOf zs s p (keyAt zs s p)≤p):=qz (lastOf_le _ _ _ _)
 have HLV0:=qz hlv
 have HK64:=qz hk64
 have HKEY:=qz (key79 _ hk64)
 have HWF:Hid ((Lit.int .i64 ((p:Int)+1)).wf=true):=qz (WalkArith.wf_i64 (by omega))
 clear hk64
 obtain ⟨L,hL⟩:∃ L,L=zs.length:=⟨_,rfl⟩
 rw [← hL] at hp hl hcap ⊢
 obtain ⟨E,hE⟩:∃ E:Nat,(p:Int)+(s:Int)=(E:Int):=⟨p+s,by omega⟩
 have hEp:E - p=s:=by omega
 have hpE:p≤E:=by omega
 have hEc:E≤cap:=by omega
 have hpEc:p≤E∧E≤cap:=⟨hpE,hEc⟩
 have hnl:¬ (L:Int) - (p:Int)<(s:Int):=by omega
 have hwE:IntKind.i64.wrap (E:Int)=(E:Int):=IntWalk.i64_in _ (by omega)
 have hs0:¬ s=0:=by omega
 obtain ⟨K,hK⟩:∃ K,K=keyAt zs s p:=⟨_,rfl⟩
 rw [← hK] at HKC HK64 HKEY
 have HK:=qz hK
 clear hL hr hln hK hlv
 go_enter Tryz.func125,Tryz.ntmps125
 go_wp2_with fail
 go_quiet (first | (go_at_call 127;refine Calls.quiet_of_same (uh HKC _)))
 go_upto_region 2 with fail
 refine wp_region_noPanic ?_
 obtain ⟨x1,hx1⟩:∃ x1,x1=(w.drewN nq).drew:=⟨_,rfl⟩
 have hlv1:LvlAt zs s p B x1 g o b v:=by rw [hx1];exact (uh HLV0).same rfl
 have hg1:x1.heap[g]?=some (.cells cs 162 (0,0)):=by rw [hx1];exact hg
 have hB1:B≤x1.heap.size:=by rw [hx1];exact hB
 have HEND:Hid (∀ v' w4,AddChg x1 g o b v v' w4→AddChg w g o b v v' w4):=qz fun v' w4 h=>by rw [hx1] at h;exact ⟨h.os,h.tape,h.output,h.size,h.kp,h.gb,h.own⟩
 obtain ⟨z,hz⟩:∃ z,z=lastOf zs s p K:=⟨_,rfl⟩
 have hzp:z≤p:=by rw [hz,uh HK];exact uh HZL
 have HLV:Hid (∀ (g' cap':Nat) (w2:World) (D:DataW Unit) (w4:World),w2.ownsRow B 3 1 (.slice (some ⟨g',0,none⟩) (p+1) cap') (p+1) ((befs zs s p).map iv++[iv (z:Int)]) →
  (x1.alloc (.cells #[.int .i64 (z:Int)] 3)).grownBy w2 v.ownBlock→(v.ownBlock=some g'∨g'=x1.heap.size+1) →
  (∀ k:Nat,k<18446744073709551616→D.atKey (.int .u64 (k:Int)) (.lit (.int .i64 0))=.lit (.int .i64 (lastOf zs s p k:Nat))) →
  (w2.setCell ⟨g,o+2,none⟩ (.slice (some ⟨g',0,none⟩) (p+1) cap')).ownsMap Tryz.prog 92 (plainElem Tryz.prog 3) b p D →
  w4.ownsMap Tryz.prog 92 (plainElem Tryz.prog 3) b (p+1) (D.put (.int .u64 (K:Int)) (.lit (.int .i64 ((p:Int)+1)))) →
  (w2.setCell ⟨g,o+2,none⟩ (.slice (some ⟨g',0,none⟩) (p+1) cap')).grownBy w4 (some b) →
  LvlAt zs s (p+1) B w4 g o b (.slice (some ⟨g',0,none⟩) (p+1) cap')∧AddChg w g o b v (.slice (some ⟨g',0,none⟩) (p+1) cap') w4):=qz fun g' cap' w2 D w4 a1 a2 a3 a4 a5 a6 a7=>by
   rw [hz,uh HK] at a1 a2
   rw [uh HK] at a6
   have hh:=hlv1.added hg1 (by rw [← uh HK];exact uh HK64) g' cap' w2 D w4 a1 a2 a3 a4 a5 a6 a7
   exact ⟨hh.1,uh HEND _ _ hh.2⟩
 have HZ:Hid (lastOf zs s p K=z):=qz hz.symm
 have HADS1:Hid (AddS g o b p (lastOf zs s p) x1):=qz ⟨hlv1.c1,hlv1.mp⟩
 have HC2:=qz hlv1.c2
 have HROW:=qz (hlv1.row.alloc (.cells #[.int .i64 (z:Int)] 3))
 have HVG:=qz (row_not_cells hlv1.row hg1 (by decide))
 have HGL:=qz (heap_lt hg1)
 have HG:=qz hg1
 have HKS:Hid (∀ w',(x1.alloc (.cells #[.int .i64 (z:Int)] 3)).grownBy w' v.ownBlock→AddS g o b p (lastOf zs s p) w'):=qz fun w' hgr=>by
  obtain ⟨es,ck,hb⟩:=hlv1.mp.is
  exact (uh HADS1).keep (add_keep hgr (uh HGL) (uh HVG)) (add_keep hgr (heap_lt hb) (row_not_map hlv1.row hb))
 have HO2:Hid (o+2<cs.size):=qz (by
  have h:=uh HC2
  simp only [World.cell?,hg1] at h
  rcases Nat.lt_or_ge (o+2) cs.size with hl | hl
  ·exact hl
  ·rw [Array.getElem?_eq_none hl] at h;cases h)
 have HS0:Hid (AddS g o b p (lastOf zs s p) (w.drewN nq).drew):=qz (by rw [← hx1];exact uh HADS1)
 refine wp_region_held_drew (S:=AddS g o b p (lastOf zs s p)) (by kernel_rfl) (uh HS0) (fun hHeld=>?_)
 rw [← hx1] at hHeld ⊢
 clear HS0 hx1 hlv1 hg1 hz HADS hg hB c0 HKC HEND HLV0
 refine hT 0 32 rfl rfl hHeld nPp (v:=?_) (fun x hSx=>?_) ?_
 rotate_left 1
 ·go_simp <;> with_reducible rfl
 simp only [sA,sB]
 refine hT 1 33 rfl rfl hHeld nPp (v:=?_) (fun x hSx=>?_) ?_
 rotate_left 1
 ·go_simp <;> with_reducible rfl
 simp only [sA,sB]
 refine hT 2 34 rfl rfl hHeld nPp (v:=?_) (fun x hSx=>?_) ?_
 rotate_left 1
 ·go_simp <;> with_reducible rfl
 simp only [sA,sB]
 refine hT 3 35 rfl rfl hHeld nPp (v:=?_) (fun x hSx=>?_) ?_
 rotate_left 1
 ·go_simp <;> with_reducible rfl
 simp only [sA,sB]
 refine hT 5 37 rfl rfl hHeld nPp (v:=?_) (fun x hSx=>?_) ?_
 rotate_left 1
 ·go_simp <;> with_reducible rfl
 simp only [sA,sB]
 refine hT 6 38 rfl rfl hHeld nPp (v:=?_) (fun x hSx=>?_) ?_
 rotate_left 1
 ·go_simp <;> with_reducible rfl
 simp only [sA,sB]
 refine hT 7 39 rfl rfl hHeld nPp (v:=?_) (fun x hSx=>?_) ?_
 rotate_left 1
 ·go_simp <;> with_reducible rfl
 simp only [sA,sB]
 refine hT 8 40 rfl rfl hHeld nPp (v:=?_) (fun x hSx=>?_) ?_
 rotate_left 1
 ·(have q1:=hSx.c1;have q2:=hSx.mp.look K (uh HK64);go_simp <;> with_reducible rfl)
 simp only [sA,sB]
 refine hT 9 41 rfl rfl hHeld nPp (v:=?_) (fun x hSx=>?_) ?_
 rotate_left 1
 ·go_simp <;> with_reducible rfl
 simp only [sA,sB]
 refine hT 10 42 rfl rfl hHeld nPp (v:=?_) (fun x hSx=>?_) ?_
 rotate_left 1
 ·(have q2:=hSx.mp.look K (uh HK64);rw [uh HZ] at q2;go_simp <;> with_reducible rfl)
 simp only [sA,sB]
 refine held_two (i:=4) (j:=11) (by kernel_rfl) rfl rfl (fun K hK=>?_) (fun K hK=>?_)
 ·refine held_go 4 36 hK rfl (by rfl) (v:=v) (w':=x1) ?_ hHeld ?_
  ·have q0:=uh HC2;go_simp
  simp only [sA,sB]
  refine held_one 11 43 (by kernel_rfl) rfl rfl (by rfl) (v:=.slice (some ⟨x1.heap.size,0,none⟩) 1 1) (w':=(x1.alloc (.cells #[.int .i64 (z:Int)] 3))) ?_ (hHeld.alloc _) ?_
  ·go_simp <;> exact ⟨rfl,rfl⟩
  simp only [sA,sB]
  refine held_append 12 44 (.tmp 36) (.tmp 43) (by kernel_rfl) rfl rfl (by rfl) rfl rfl B v p ((befs zs s p).map iv) (by rfl) (uh HROW) ⟨x1.heap.size,0,none⟩ (z:Int) (by rfl) (new_int _ _) (by omega) (by simp;omega) (x1.heap.size+1) (by simp) (fun w' hg=>(uh HKS) w' hg) ?_
  intro g' cap' w2 h1 h2 h3 h4
  simp only [sA,sB]
  have e2:=uh HKS _ h2
  have hgb:=add_keep h2 (uh HGL) (uh HVG)
  rw [uh HG] at hgb
  have HFIN:=qz (fun D w4=>uh HLV g' cap' w2 D w4 h1 h2 h3)
  clear h1 h2 h3 h4 hHeld
  have hHeld:=e2
  refine hT 13 45 rfl rfl hHeld nPp (v:=?_) (fun x hSx=>?_) ?_
  rotate_left 1
  ·go_simp <;> with_reducible rfl
  simp only [sA,sB]
  refine hT 14 46 rfl rfl hHeld nPp (v:=?_) (fun x hSx=>?_) ?_
  rotate_left 1
  ·go_simp <;> with_reducible rfl
  simp only [sA,sB]
  have HS3:=e2.set hgb (.slice (some ⟨g',0,none⟩) (p+1) cap')
  have hfz:w2.frozen? ⟨g,o+2,none⟩=false:=by simp [World.frozen?,hgb]
  have hcl:=cell_at hgb (uh HO2)
  refine held_skip 15 (by kernel_rfl) rfl rfl (by rfl) (w':=w2.setCell ⟨g,o+2,none⟩ (.slice (some ⟨g',0,none⟩) (p+1) cap')) ?_ HS3 ?_
  ·obtain ⟨u,hu⟩:=hcl;go_simp
  refine wpAnyH_done (by kernel_rfl) ?_ _
  refine NoPanic.normal ?_
  have c1':=HS3.c1
  obtain ⟨D,hown,hf⟩:=HS3.mp
  have HFIN2:=qz (fun w4=>uh HFIN D w4 hf hown)
  have HOWN:=qz hown
  obtain ⟨w3,hw3⟩:∃ w3,w3=w2.setCell ⟨g,o+2,none⟩ (.slice (some ⟨g',0,none⟩) (p+1) cap'):=⟨_,rfl⟩
  rw [← hw3] at c1' HOWN HFIN2 ⊢
  clear hw3 hown hf hHeld HS3 e2 HFIN hcl hfz hgb
  go_wp2_with (first | (at_mapUpdate;refine wpList_mapUpdate_own _ rfl _ _ _ 160 rfl 92 3 keyed79 Tryz.underlying160 _ b p _ rfl (uh HOWN) (by unfold maxLen;omega) _ _ _ rfl rfl (uh HKEY) _ [] (plainElem_int Tryz.underlying3 (uh HWF)) ?_;intro w4 hown4 hgrow4) | fail)
  go_end0
  exact ⟨rfl,_,uh HFIN2 w4 hown4 hgrow4⟩
 ·refine held_go 11 43 hK rfl (by rfl) (v:=.slice (some ⟨x1.heap.size,0,none⟩) 1 1) (w':=(x1.alloc (.cells #[.int .i64 (z:Int)] 3))) ?_ (hHeld.alloc _) ?_
  ·go_simp <;> exact ⟨rfl,rfl⟩
  simp only [sA,sB]
  refine held_one 4 36 (by kernel_rfl) rfl rfl (by rfl) (v:=v) (w':=(x1.alloc (.cells #[.int .i64 (z:Int)] 3))) ?_ (hHeld.alloc _) ?_
  ·have q0:(x1.alloc (.cells #[.int .i64 (z:Int)] 3)).cell? ⟨g,o+2,none⟩=some v:=cell_stays ((Below.refl _ _).alloc (Nat.le_refl _) _) (uh HC2);go_simp
  simp only [sA,sB]
  refine held_append 12 44 (.tmp 36) (.tmp 43) (by kernel_rfl) rfl rfl (by rfl) rfl rfl B v p ((befs zs s p).map iv) (by rfl) (uh HROW) ⟨x1.heap.size,0,none⟩ (z:Int) (by rfl) (new_int _ _) (by omega) (by simp;omega) (x1.heap.size+1) (by simp) (fun w' hg=>(uh HKS) w' hg) ?_
  intro g' cap' w2 h1 h2 h3 h4
  simp only [sA,sB]
  have e2:=uh HKS _ h2
  have hgb:=add_keep h2 (uh HGL) (uh HVG)
  rw [uh HG] at hgb
  have HFIN:=qz (fun D w4=>uh HLV g' cap' w2 D w4 h1 h2 h3)
  clear h1 h2 h3 h4 hHeld
  have hHeld:=e2
  refine hT 13 45 rfl rfl hHeld nPp (v:=?_) (fun x hSx=>?_) ?_
  rotate_left 1
  ·go_simp <;> with_reducible rfl
  simp only [sA,sB]
  refine hT 14 46 rfl rfl hHeld nPp (v:=?_) (fun x hSx=>?_) ?_
  rotate_left 1
  ·go_simp <;> with_reducible rfl
  simp only [sA,sB]
  have HS3:=e2.set hgb (.slice (some ⟨g',0,none⟩) (p+1) cap')
  have hfz:w2.frozen? ⟨g,o+2,none⟩=false:=by simp [World.frozen?,hgb]
  have hcl:=cell_at hgb (uh HO2)
  refine held_skip 15 (by kernel_rfl) rfl rfl (by rfl) (w':=w2.setCell ⟨g,o+2,none⟩ (.slice (some ⟨g',0,none⟩) (p+1) cap')) ?_ HS3 ?_
  ·obtain ⟨u,hu⟩:=hcl;go_simp
  refine wpAnyH_done (by kernel_rfl) ?_ _
  refine NoPanic.normal ?_
  have c1':=HS3.c1
  obtain ⟨D,hown,hf⟩:=HS3.mp
  have HFIN2:=qz (fun w4=>uh HFIN D w4 hf hown)
  have HOWN:=qz hown
  obtain ⟨w3,hw3⟩:∃ w3,w3=w2.setCell ⟨g,o+2,none⟩ (.slice (some ⟨g',0,none⟩) (p+1) cap'):=⟨_,rfl⟩
  rw [← hw3] at c1' HOWN HFIN2 ⊢
  clear hw3 hown hf hHeld HS3 e2 HFIN hcl hfz hgb
  go_wp2_with (first | (at_mapUpdate;refine wpList_mapUpdate_own _ rfl _ _ _ 160 rfl 92 3 keyed79 Tryz.underlying160 _ b p _ rfl (uh HOWN) (by unfold maxLen;omega) _ _ _ rfl rfl (uh HKEY) _ [] (plainElem_int Tryz.underlying3 (uh HWF)) ?_;intro w4 hown4 hgrow4) | fail)
  go_end0
  exact ⟨rfl,_,uh HFIN2 w4 hown4 hgrow4⟩
end T6
namespace T6
open Go.RowKit Go.Maps
attribute [local go_sem ↓] wp_at_zero wp_at_succ
theorem add_short (L s p g o:Nat) (a:Option Addr) (cap:Nat) (w:World) (hs8:s≤8) (hpl:p≤L) (hl:L≤100000000) (hp:L<p+s) (c0:w.cell? ⟨g,o,none⟩=some (.int .i64 (s:Int))) :
  Calls Tryz.prog 125 #[.pointer (some ⟨g,o,none⟩),.slice a L cap,.int .i64 (p:Int)] w fun e w'=>e=.returned (.tuple #[])∧w'=w:=by
 have hnl:(L:Int) - (p:Int)<(s:Int):=by omega
 go_enter Tryz.func125,Tryz.ntmps125
 go_wp2_with fail
 refine bodyPost_ret (results_none rfl _ _ _) rfl ?_
 exact ⟨rfl,rfl⟩
theorem stood_short (L s p g o:Nat) (a:Option Addr) (cap:Nat) (w:World) (hs8:s≤8) (hpl:p≤L) (hl:L≤100000000) (hp:L<p+s) (c0:w.cell? ⟨g,o,none⟩=some (.int .i64 (s:Int))) :
  Calls Tryz.prog 98 #[.pointer (some ⟨g,o,none⟩),.slice a L cap,.int .i64 (p:Int)] w fun e w'=>e=.returned (.int .i64 (-1))∧w'=w:=by
 have hnl:(L:Int) - (p:Int)<(s:Int):=by omega
 go_enter Tryz.func98,Tryz.ntmps98
 go_wp2_with fail
 go_ret
 exact ⟨rfl,rfl⟩
theorem stood_ok (zs:List Nat) (s p m B B' g o b cap ba off:Nat) (v:Value) (w:World) (hs1:1≤s) (hs8:s≤8) (hr:ReadsU B' w (.slice (some ⟨ba,off,none⟩) zs.length cap) zs) (hcap:zs.length≤cap) (hz:∀ c∈zs,c<256) (hp:p+s≤zs.length) (hl:zs.length≤100000000)
  (hlv:LvlAt zs s m B w g o b v) (hm:m≤zs.length) :
  Calls Tryz.prog 98 #[.pointer (some ⟨g,o,none⟩),.slice (some ⟨ba,off,none⟩) zs.length cap,.int .i64 (p:Int)] w fun e w'=>e=.returned (.int .i64 ((lastOf zs s m (keyAt zs s p):Nat) - 1:Int))∧∃ q,w'=w.drewN q:=by
 have hln:((zs.drop p).take s).length=s:=by simp;omega
 have HKC:Hid (∀ q,Calls Tryz.prog 127 #[.slice (some ⟨ba,off+p,none⟩) s s] (w.drewN q) fun e w'=>e=.returned (.int .u64 (keyAt zs s p:Nat))∧w'=w.drewN q):=qz fun q=>by
  have h1:=(hr.sub rfl p s s hp (Nat.le_refl _)).stays (w1:=w.drewN q) ⟨rfl,rfl,rfl,Nat.le_refl _,fun _ _=>rfl⟩
  exact key_ok ((zs.drop p).take s) _ B' (w.drewN q) h1 (by rw [hln];exact hs8) (fun c hc=>hz c (List.mem_of_mem_drop (List.mem_of_mem_take hc)))
 have c0:=hlv.c0
 have c1:=hlv.c1
 have hk64:=keyAt_lt hz hs8 hp
 have hlk:∀ q,(Instr.lookup 160 (.map (some b)) (.int .u64 ((keyAt zs s p:Nat):Int)) false).run Tryz.prog (w.drewN q)=.ok (.int .i64 (lastOf zs s m (keyAt zs s p):Nat)) (w.drewN q):=fun q=>(hlv.mp.block (w':=w.drewN q) rfl).look _ hk64
 have hzl:lastOf zs s m (keyAt zs s p)≤m:=lastOf_le _ _ _ _
 obtain ⟨z,hzz⟩:∃ z,z=lastOf zs s m (keyAt zs s p):=⟨_,rfl⟩
 rw [← hzz] at hlk hzl ⊢
 obtain ⟨L,hL⟩:∃ L,L=zs.length:=⟨_,rfl⟩
 rw [← hL] at hp hl hcap hm ⊢
 obtain ⟨E,hE⟩:∃ E:Nat,(p:Int)+(s:Int)=(E:Int):=⟨p+s,by omega⟩
 have hEp:E - p=s:=by omega
 have hpE:p≤E:=by omega
 have hEc:E≤cap:=by omega
 have hpEc:p≤E∧E≤cap:=⟨hpE,hEc⟩
 have hnl:¬ (L:Int) - (p:Int)<(s:Int):=by omega
 have hwE:IntKind.i64.wrap (E:Int)=(E:Int):=IntWalk.i64_in _ (by omega)
 have hwz:IntKind.i64.wrap ((z:Int) - 1)=(z:Int) - 1:=IntWalk.i64_in _ (by omega)
 have hs0:¬ s=0:=by omega
 obtain ⟨K,hK⟩:∃ K,K=keyAt zs s p:=⟨_,rfl⟩
 rw [← hK] at HKC hlk
 clear hL hr hln hK hlv hk64 hz hzz
 have hlk0:=hlk 0
 go_enter Tryz.func98,Tryz.ntmps98
 go_wp2_with fail
 go_quiet (first | (go_at_call 127;refine Calls.quiet_of_same (uh HKC _)))
 go_wp2_with fail
 go_ret
 exact ⟨rfl,nq,rfl⟩
end T6
namespace T6
open Go.RowKit Go.Maps
attribute [local go_sem ↓] wp_at_zero wp_at_succ
structure Keeps (B:Nat) (ts:List TypeId) (w w':World):Prop where
 os:w'.os=w.os
 tape:w'.tape=w.tape
 output:w'.output=w.output
 size:w.heap.size≤w'.heap.size
 low:∀ x:Nat,x<w.heap.size→x<B→w'.heap[x]?=w.heap[x]?
 typ:∀ (x:Nat) (cs:Array Value) (t:TypeId) (f:Nat × Nat),w.heap[x]?=some (.cells cs t f)→t∉ts→w'.heap[x]?=w.heap[x]?
theorem Keeps.refl (B:Nat) (ts:List TypeId) (w:World):Keeps B ts w w:=⟨rfl,rfl,rfl,Nat.le_refl _,fun _ _ _=>rfl,fun _ _ _ _ _ _=>rfl⟩
theorem Keeps.trans {B:Nat} {ts:List TypeId} {x y z:World} (h:Keeps B ts x y) (k:Keeps B ts y z):Keeps B ts x z :=
 ⟨k.os.trans h.os,k.tape.trans h.tape,k.output.trans h.output,Nat.le_trans h.size k.size,fun i hi hB=>by rw [k.low i (by have:=h.size;omega) hB,h.low i hi hB],
  fun i cs t f hi ht=>by have h1:=h.typ i cs t f hi ht;rw [k.typ i cs t f (by rw [h1];exact hi) ht,h1]⟩
theorem Keeps.wide {B:Nat} {ts us:List TypeId} {x y:World} (h:Keeps B ts x y) (hs:∀ t,t∈ts→t∈us):Keeps B us x y :=
 ⟨h.os,h.tape,h.output,h.size,h.low,fun i cs t f hi ht=>h.typ i cs t f hi (fun hc=>ht (hs t hc))⟩
theorem Keeps.below {B:Nat} {ts:List TypeId} {x y:World} (h:Keeps B ts x y) (hB:B≤x.heap.size):Below B x y:=⟨h.os,h.tape,h.output,h.size,fun k hk=>h.low k (by omega) hk⟩
theorem Keeps.of_below {B:Nat} {ts:List TypeId} {x y:World} (h:Below x.heap.size x y):Keeps B ts x y:=⟨h.os,h.tape,h.output,h.size,fun i hi _=>h.block i hi,fun i cs t f hi _=>h.block i (heap_lt hi)⟩
def cnt (L s f:Nat):Nat:=min f (L+1 - s)
def upf {α:Type} (f:Nat→α) (j:Nat) (x:α):Nat→α:=fun i=>if i=j then x else f i
structure Lvs (zs:List Nat) (B N:Nat) (sz b:Nat→Nat) (v:Nat→Value) (m:Nat→Nat) (w:World) (gl:Nat):Prop where
 blk:∃ cs,w.heap[gl]?=some (.cells cs 162 (0,0))
 lv:∀ j,j<N→LvlAt zs (sz j) (m j) B w gl (j*3) (b j) (v j)
 ap1:∀ i j,i<N→j<N→i≠j→b i≠b j
 ap2:∀ i j,i<N→j<N→i≠j→∀ x,(v i).ownBlock=some x→(v j).ownBlock≠some x
 gB:B≤gl
 bB:∀ j,j<N→B≤b j
theorem own_base {w:World} {B n:Nat} {v:Value} {xs:List Value} (h:w.ownsRow B 3 1 v n xs) {x:Nat} (hx:v.ownBlock=some x):B≤x∧∃ cs f,w.heap[x]?=some (.cells cs 3 f):=by
 rcases h.2 with ⟨e,_⟩ | ⟨g,cap,cur,e,hb,hh,_⟩
 ·rw [e] at hx;simp [Value.ownBlock] at hx
 ·rw [e] at hx
  simp [Value.ownBlock] at hx
  subst hx
  exact ⟨hb,_,_,hh⟩
theorem LvlAt.kept {zs:List Nat} {s m B:Nat} {x y:World} {g o b:Nat} {v:Value} (h:LvlAt zs s m B x g o b v) (h0:∀ i,i<3→y.cell? ⟨g,o+i,none⟩=x.cell? ⟨g,o+i,none⟩) (hb:y.heap[b]?=x.heap[b]?) (hv:∀ q,v.ownBlock=some q→y.heap[q]?=x.heap[q]?):LvlAt zs s m B y g o b v :=
 ⟨by have:=h0 0 (by omega);rw [show o+0=o from rfl] at this;rw [this];exact h.c0,by rw [h0 1 (by omega)];exact h.c1,by rw [h0 2 (by omega)];exact h.c2,h.mp.block hb,own_keep h.row hv⟩
theorem Lvs.kept {zs:List Nat} {B N:Nat} {sz b:Nat→Nat} {v:Nat→Value} {m:Nat→Nat} {x y:World} {gl:Nat} (h:Lvs zs B N sz b v m x gl) (hg:y.heap[gl]?=x.heap[gl]?) (hb:∀ j,j<N→y.heap[b j]?=x.heap[b j]?) (hv:∀ j q,j<N→(v j).ownBlock=some q→y.heap[q]?=x.heap[q]?):Lvs zs B N sz b v m y gl:=by
 obtain ⟨cs,hcs⟩:=h.blk
 exact ⟨⟨cs,by rw [hg];exact hcs⟩,fun j hj=>(h.lv j hj).kept (fun i _=>World.cell?_of_block (by exact hg)) (hb j hj) (fun q hq=>hv j q hj hq),h.ap1,h.ap2,h.gB,h.bB⟩
theorem Lvs.grown {zs:List Nat} {B N:Nat} {sz b:Nat→Nat} {v:Nat→Value} {m:Nat→Nat} {x y:World} {gl:Nat} (h:Lvs zs B N sz b v m x gl) (hk:∀ i,i<x.heap.size→y.heap[i]?=x.heap[i]?):Lvs zs B N sz b v m y gl:=by
 obtain ⟨cs,hcs⟩:=h.blk
 refine h.kept (hk _ (heap_lt hcs)) (fun j hj=>?_) (fun j q hj hq=>?_)
 ·obtain ⟨es,ck,hb⟩:=(h.lv j hj).mp.is
  exact hk _ (heap_lt hb)
 ·obtain ⟨_,cs,f,hh⟩:=own_base (h.lv j hj).row hq
  exact hk _ (heap_lt hh)
theorem Lvs.added {zs:List Nat} {B N:Nat} {sz b:Nat→Nat} {v:Nat→Value} {m:Nat→Nat} {w w':World} {gl:Nat} (h:Lvs zs B N sz b v m w gl) {j:Nat} (hj:j<N) {v':Value} {k:Nat} (hl:LvlAt zs (sz j) k B w' gl (j*3) (b j) v') (hc:AddChg w gl (j*3) (b j) (v j) v' w'):Lvs zs B N sz b (upf v j v') (upf m j k) w' gl∧Keeps B [3,162] w w':=by
 obtain ⟨cs,hcs⟩:=h.blk
 have hg':=hc.gb cs 162 (0,0) hcs
 have rowb:∀ i,i<N→∀ q,(v i).ownBlock=some q→q≠gl:=fun i hi q hq e=>row_not_cells (h.lv i hi).row hcs (by decide) (by rw [hq,e])
 have hlt:∀ i,i<N→∀ q,(v i).ownBlock=some q→q<w.heap.size:=fun i hi q hq=>by
  obtain ⟨_,cs,f,hh⟩:=own_base (h.lv i hi).row hq
  exact heap_lt hh
 refine ⟨⟨⟨_,hg'⟩,fun i hi=>?_,h.ap1,fun i i' hi hi' hne x hx=>?_,h.gB,h.bB⟩,⟨hc.os,hc.tape,hc.output,hc.size,fun x hx hB=>?_,fun x cs' t f hx ht=>?_⟩⟩
 ·by_cases e:i=j
  ·subst e
   rw [show upf v i v' i=v' by simp [upf],show upf m i k i=k by simp [upf]]
   exact hl
  ·rw [show upf v j v' i=v i by simp [upf,e],show upf m j k i=m i by simp [upf,e]]
   refine (h.lv i hi).kept (fun a ha=>?_) ?_ (fun q hq=>?_)
   ·simp only [World.cell?,hg',hcs]
    rw [Array.getElem?_setIfInBounds_ne (by omega)]
   ·obtain ⟨es,ck,hb⟩:=(h.lv i hi).mp.is
    refine hc.kp _ (heap_lt hb) (fun e2=>by rw [e2,hcs] at hb;cases hb) (fun e2=>h.ap1 i j hi hj e e2) (fun e2=>row_not_map (h.lv j hj).row hb e2)
   ·refine hc.kp q (hlt i hi q hq) (rowb i hi q hq) (fun e2=>?_) (fun e2=>h.ap2 i j hi hj e q hq e2)
    obtain ⟨es,ck,hb⟩:=(h.lv j hj).mp.is
    rw [← e2] at hb
    exact row_not_map (h.lv i hi).row hb hq
 ·have hown:=hc.own
  by_cases e:i=j
  ·subst e
   rw [show upf v i v' i=v' by simp [upf]] at hx
   rw [show upf v i v' i'=v i' by simp [upf];intro e;omega]
   intro hx'
   rcases hown with e | ⟨q,e,hq⟩
   ·rw [e] at hx
    exact h.ap2 i i' hi hi' hne x hx hx'
   ·have:=hlt i' hi' x hx'
    rw [e] at hx
    injection hx with hx
    omega
  ·rw [show upf v j v' i=v i by simp [upf,e]] at hx
   by_cases e':i'=j
   ·subst e'
    rw [show upf v i' v' i'=v' by simp [upf]]
    intro hx'
    rcases hown with e2 | ⟨q,e2,hq⟩
    ·rw [e2] at hx'
     exact h.ap2 i i' hi hi' hne x hx hx'
    ·have:=hlt i hi x hx
     rw [e2] at hx'
     injection hx' with hx'
     omega
   ·rw [show upf v j v' i'=v i' by simp [upf,e']]
    exact h.ap2 i i' hi hi' hne x hx
 ·have h1:=h.gB
  have h2:=h.bB j hj
  exact hc.kp x hx (by omega) (by omega) (fun e=>by have:=(own_base (h.lv j hj).row e).1;omega)
 ·simp at ht
  refine hc.kp x (heap_lt hx) (fun e=>?_) (fun e=>?_) (fun e=>?_)
  ·rw [e,hcs] at hx
   injection hx with hx
   injection hx with _ hx _
   exact ht.2 hx.symm
  ·obtain ⟨es,ck,hb⟩:=(h.lv j hj).mp.is
   rw [e,hb] at hx
   cases hx
  ·obtain ⟨_,cs2,f2,hh⟩:=own_base (h.lv j hj).row e
   rw [hh] at hx
   injection hx with hx
   injection hx with _ hx _
   exact ht.1 hx.symm
theorem Lvs.cong {zs:List Nat} {B N:Nat} {sz b:Nat→Nat} {v:Nat→Value} {m m':Nat→Nat} {w:World} {gl:Nat} (h:Lvs zs B N sz b v m w gl) (hm:∀ j,j<N→m' j=m j):Lvs zs B N sz b v m' w gl :=
 ⟨h.blk,fun j hj=>by rw [hm j hj];exact h.lv j hj,h.ap1,h.ap2,h.gB,h.bB⟩
structure IdxAt (zs:List Nat) (B N:Nat) (sz b:Nat→Nat) (v:Nat→Value) (m:Nat→Nat) (gx gl lc W M f:Nat) (tx:Value) (w:World):Prop where
 xb:w.heap[gx]?=some (.cells #[tx,.int .i64 (W:Int),.int .i64 (M:Int),.slice (some ⟨gl,0,none⟩) N lc,.int .i64 (f:Int)] 123 (0,0))
 lvs:Lvs zs B N sz b v m w gl
 xB:B≤gx
section
variable {zs:List Nat} {B N:Nat} {sz b:Nat→Nat} {v:Nat→Value} {m:Nat→Nat} {gx gl lc W M f:Nat} {tx:Value} {w:World}
theorem IdxAt.x0 (h:IdxAt zs B N sz b v m gx gl lc W M f tx w):w.cell? ⟨gx,0,none⟩=some tx:=by simp [World.cell?,h.xb]
theorem IdxAt.x1 (h:IdxAt zs B N sz b v m gx gl lc W M f tx w):w.cell? ⟨gx,1,none⟩=some (.int .i64 (W:Int)):=by simp [World.cell?,h.xb]
theorem IdxAt.x2 (h:IdxAt zs B N sz b v m gx gl lc W M f tx w):w.cell? ⟨gx,2,none⟩=some (.int .i64 (M:Int)):=by simp [World.cell?,h.xb]
theorem IdxAt.x3 (h:IdxAt zs B N sz b v m gx gl lc W M f tx w):w.cell? ⟨gx,3,none⟩=some (.slice (some ⟨gl,0,none⟩) N lc):=by simp [World.cell?,h.xb]
theorem IdxAt.x4 (h:IdxAt zs B N sz b v m gx gl lc W M f tx w):w.cell? ⟨gx,4,none⟩=some (.int .i64 (f:Int)):=by simp [World.cell?,h.xb]
theorem IdxAt.fz (h:IdxAt zs B N sz b v m gx gl lc W M f tx w) (i:Nat):w.frozen? ⟨gx,i,none⟩=false:=by simp [World.frozen?,h.xb]
theorem IdxAt.gne (h:IdxAt zs B N sz b v m gx gl lc W M f tx w):gx≠gl:=fun e=>by
 obtain ⟨cs,hcs⟩:=h.lvs.blk
 have:=h.xb
 rw [e,hcs] at this
 injection this with this
 injection this with _ this _
 cases this
theorem IdxAt.next (h:IdxAt zs B N sz b v m gx gl lc W M f tx w) (f':Nat):IdxAt zs B N sz b v m gx gl lc W M f' tx (w.setCell ⟨gx,4,none⟩ (.int .i64 (f':Int)))∧Keeps B [3,123,162] w (w.setCell ⟨gx,4,none⟩ (.int .i64 (f':Int))):=by
 have o:∀ k,k≠gx→(w.setCell ⟨gx,4,none⟩ (.int .i64 (f':Int))).heap[k]?=w.heap[k]?:=fun k hk=>heap_setCell_other _ _ _ _ (by exact hk)
 have hxb:=h.xb
 refine ⟨⟨?_,h.lvs.kept (o _ (fun e=>h.gne e.symm)) (fun j hj=>o _ (fun e=>?_)) (fun j q hj hq=>o _ (fun e=>?_)),h.xB⟩,⟨rfl,rfl,rfl,by simp,fun x hx hB=>o x (fun e=>by have:=h.xB;omega),fun x cs t f hx ht=>o x (fun e=>?_)⟩⟩
 ·rw [heap_setCell_same w gx 4 _ 123 _ hxb];rfl
 ·obtain ⟨es,ck,hb⟩:=(h.lvs.lv j hj).mp.is
  rw [e,hxb] at hb
  cases hb
 ·exact row_not_cells (h.lvs.lv j hj).row hxb (by decide) (by rw [hq,e])
 ·rw [e,hxb] at hx
  injection hx with hx
  injection hx with _ hx _
  simp at ht
  exact ht.2.1 hx.symm
theorem IdxAt.add {k:Nat} {v':Value} {w':World} {j:Nat} (h:IdxAt zs B N sz b v m gx gl lc W M f tx w) (hj:j<N) (hl:LvlAt zs (sz j) k B w' gl (j*3) (b j) v') (hc:AddChg w gl (j*3) (b j) (v j) v' w'):IdxAt zs B N sz b (upf v j v') (upf m j k) gx gl lc W M f tx w'∧Keeps B [3,123,162] w w':=by
 obtain ⟨h1,h2⟩:=h.lvs.added hj hl hc
 exact ⟨⟨by rw [h2.typ gx _ 123 (0,0) h.xb (by decide)];exact h.xb,h1,h.xB⟩,h2.wide (fun t ht=>by simp at ht ⊢;rcases ht with e | e <;> simp [e])⟩
theorem IdxAt.grown {y:World} (h:IdxAt zs B N sz b v m gx gl lc W M f tx w) (hk:∀ i,i<w.heap.size→y.heap[i]?=w.heap[i]?):IdxAt zs B N sz b v m gx gl lc W M f tx y :=
 ⟨by rw [hk _ (heap_lt h.xb)];exact h.xb,h.lvs.grown hk,h.xB⟩
theorem IdxAt.cong {m':Nat→Nat} (h:IdxAt zs B N sz b v m gx gl lc W M f tx w) (hm:∀ j,j<N→m' j=m j):IdxAt zs B N sz b v m' gx gl lc W M f tx w:=⟨h.xb,h.lvs.cong hm,h.xB⟩
end
end T6
namespace T6
open Go.RowKit Go.Maps
attribute [local go_sem ↓] wp_at_zero wp_at_succ
theorem cnt_all {L s f:Nat} (h:f+s≤L):cnt L s f=f∧cnt L s (f+1)=f+1:=by unfold cnt;omega
theorem cnt_short {L s f:Nat} (h:L<f+s):cnt L s (f+1)=cnt L s f:=by unfold cnt;omega
def Apart (T:Nat→Prop) (w:World) (N gx gl:Nat) (b:Nat→Nat) (v:Nat→Value):Prop:=∀ x,T x→x<w.heap.size∧x≠gx∧x≠gl∧∀ j,j<N→x≠b j∧(v j).ownBlock≠some x
theorem Apart.added {T:Nat→Prop} {w wr w':World} {N gx gl o:Nat} {b:Nat→Nat} {v:Nat→Value} {v':Value} {j:Nat} (h:Apart T w N gx gl b v) (hj:j<N) (hs:w.heap.size≤wr.heap.size) (hc:AddChg wr gl o (b j) (v j) v' w'):Apart T w N gx gl b (upf v j v')∧∀ x,T x→w'.heap[x]?=wr.heap[x]?:=by
 refine ⟨fun x hx=>?_,fun x hx=>?_⟩
 ·obtain ⟨h1,h2,h3,h4⟩:=h x hx
  refine ⟨h1,h2,h3,fun i hi=>⟨(h4 i hi).1,?_⟩⟩
  by_cases e:i=j
  ·subst e
   rw [show upf v i v' i=v' by simp [upf]]
   rcases hc.own with e | ⟨q,e,hq⟩
   ·rw [e];exact (h4 i hi).2
   ·rw [e];intro e2;injection e2 with e2;omega
  ·rw [show upf v j v' i=v i by simp [upf,e]]
   exact (h4 i hi).2
 ·obtain ⟨h1,h2,h3,h4⟩:=h x hx
  exact hc.kp x (by omega) h3 (h4 j hj).1 (h4 j hj).2
theorem fill_ok (T:Nat→Prop) (zs:List Nat) (B N:Nat) (sz b:Nat→Nat) (v0:Nat→Value) (gx gl lc W M f0 p cap ba off:Nat) (w:World) (hN:N≤4) (hlc:N≤lc) (hsz:∀ j,j<N→1≤sz j∧sz j≤8) (hr:ReadsU B w (.slice (some ⟨ba,off,none⟩) zs.length cap) zs) (hcap:zs.length≤cap) (hz:∀ c∈zs,c<256) (hp:p≤zs.length) (hf:f0≤p) (hl:zs.length≤100000000) (hB:B≤w.heap.size)
  (hx:IdxAt zs B N sz b v0 (fun j=>cnt zs.length (sz j) f0) gx gl lc W M f0 (.slice (some ⟨ba,off,none⟩) zs.length cap) w) (hT:Apart T w N gx gl b v0) :
  Calls Tryz.prog 96 #[.pointer (some ⟨gx,0,none⟩),.int .i64 (p:Int)] w fun e w'=>e=.returned (.tuple #[])∧(∃ v,IdxAt zs B N sz b v (fun j=>cnt zs.length (sz j) p) gx gl lc W M p (.slice (some ⟨ba,off,none⟩) zs.length cap) w'∧Apart T w N gx gl b v)∧Keeps B [3,123,162] w w'∧∀ x,T x→w'.heap[x]?=w.heap[x]?:=by
 have HT:=qz hT
 clear hT
 have HR:=qz hr
 have HZ:=qz hz
 have HX:=qz hx
 have HSZ:=qz hsz
 clear hr hz hx hsz
 obtain ⟨L,hL⟩:∃ L,L=zs.length:=⟨_,rfl⟩
 rw [← hL] at HR HX hcap hp hl ⊢
 have HL:=qz hL
 clear hL
 go_enter Tryz.func96,Tryz.ntmps96
 go_wp2_with fail
 go_loopg [] (p - f0) (fun gk ws=>∃ (f:Nat) (v:Nat→Value),gk=p - f∧f≤p∧IdxAt zs B N sz b v (fun j=>cnt L (sz j) f) gx gl lc W M f (.slice (some ⟨ba,off,none⟩) L cap) ws∧Keeps B [3,123,162] w ws∧Hid (Apart T w N gx gl b v∧∀ x,T x→ws.heap[x]?=w.heap[x]?))
 case atStart=>exact ⟨f0,v0,rfl,hf,uh HX,Keeps.refl _ _ _,qz ⟨uh HT,fun _ _=>rfl⟩⟩
 case round =>
  obtain ⟨f,v,rfl,hfp,hx,hk,HTT⟩:=hrel
  clear HX
  have c4:=hx.x4
  have c3:=hx.x3
  by_cases hlt:f<p
  ·have hfi:(f:Int)<(p:Int):=by omega
   have HX:=qz hx
   have HK:=qz hk
   clear hx hk
   go_wp2_with fail
   go_loopg [23] N (fun gi d ws=>∃ (i:Nat) (v:Nat→Value),gi=N - i∧i≤N∧d=.int .i64 (i:Int)∧IdxAt zs B N sz b v (fun j=>if j<i then cnt L (sz j) (f+1) else cnt L (sz j) f) gx gl lc W M f (.slice (some ⟨ba,off,none⟩) L cap) ws∧Keeps B [3,123,162] w ws∧Hid (Apart T w N gx gl b v∧∀ x,T x→ws.heap[x]?=w.heap[x]?))
   case atStart=>exact ⟨0,v,rfl,by omega,rfl,(uh HX).cong (fun j hj=>by simp),uh HK,HTT⟩
   case round =>
    obtain ⟨i,v,rfl,hi,rfl,hx,hk,HTI⟩:=hrel
    clear HX HK c4 c3 HTT
    by_cases hlti:i<N
    ·have hii:(i:Int)<(N:Int):=by omega
     have c0:=hx.x0
     have c3:=hx.x3
     have c4:=hx.x4
     have hs:=uh HSZ i hlti
     have HNX:Hid (∀ v' w',LvlAt zs (sz i) (cnt L (sz i) (f+1)) B w' gl (i*3) (b i) v'→AddChg wr.drew gl (i*3) (b i) (v i) v' w'→IdxAt zs B N sz b (upf v i v') (fun j=>if j<i+1 then cnt L (sz j) (f+1) else cnt L (sz j) f) gx gl lc W M f (.slice (some ⟨ba,off,none⟩) L cap) w'∧Keeps B [3,123,162] w w'∧Hid (Apart T w N gx gl b (upf v i v')∧∀ x,T x→w'.heap[x]?=w.heap[x]?)):=qz fun v' w' h1 h2=>by
      have h4:=(uh HTI).1.added hlti (show w.heap.size≤wr.drew.heap.size from hk.size) h2
      have h3:=(hx.grown (y:=wr.drew) (fun _ _=>rfl)).add hlti h1 h2
      refine ⟨h3.1.cong (fun j hj=>?_),hk.trans ⟨h3.2.os,h3.2.tape,h3.2.output,h3.2.size,h3.2.low,h3.2.typ⟩,qz ⟨h4.1,fun x hx=>(h4.2 x hx).trans ((uh HTI).2 x hx)⟩⟩
      unfold upf
      by_cases e:j=i
      ·rw [if_pos e,if_pos (by omega),e]
      ·rw [if_neg e]
       by_cases e2:j<i
       ·simp only [if_pos e2,if_pos (show j<i+1 by omega)]
       ·simp only [if_neg e2,if_neg (show ¬ j<i+1 by omega)]
     have hlv:LvlAt zs (sz i) (cnt L (sz i) f) B wr.drew gl (i*3) (b i) (v i):=by
      have h1:=(hx.lvs.lv i hlti).same (y:=wr.drew) rfl
      have e:(fun j=>if j<i then cnt L (sz j) (f+1) else cnt L (sz j) f) i=cnt L (sz i) f:=by simp
      simp only [e] at h1
      exact h1
     obtain ⟨cs,hcs⟩:=hx.lvs.blk
     have HCALL:Hid (Calls Tryz.prog 125 #[.pointer (some ⟨gl,i*3,none⟩),.slice (some ⟨ba,off,none⟩) L cap,.int .i64 (f:Int)] wr.drew fun e w'=>e=.returned (.tuple #[])∧∃ v,IdxAt zs B N sz b v (fun j=>if j<i+1 then cnt L (sz j) (f+1) else cnt L (sz j) f) gx gl lc W M f (.slice (some ⟨ba,off,none⟩) L cap) w'∧Keeps B [3,123,162] w w'∧Hid (Apart T w N gx gl b v∧∀ x,T x→w'.heap[x]?=w.heap[x]?)):=qz (by
      by_cases hfs:f+sz i≤L
      ·have hc:=cnt_all hfs
       rw [hc.1] at hlv
       have hrd:ReadsU B wr.drew (.slice (some ⟨ba,off,none⟩) zs.length cap) zs:=by
        have h1:=uh HR
        rw [uh HL] at h1
        have h2:=h1.stays (hk.below hB)
        exact h2.stays ⟨rfl,rfl,rfl,Nat.le_refl _,fun _ _=>rfl⟩
       have:=add_ok zs (sz i) f B gl (i*3) (b i) cap ba off (v i) cs wr.drew hs.1 hs.2 hrd (by rw [← uh HL];exact hcap) (uh HZ) (by rw [← uh HL];exact hfs) (by rw [← uh HL];exact hl) (by have:=hk.size;show B≤wr.heap.size;omega) hlv hcs
       rw [← uh HL] at this
       refine this.mono ?_
       rintro e w' ⟨rfl,v',h1,h2⟩
       rw [← hc.2] at h1
       exact ⟨rfl,_,uh HNX v' w' h1 h2⟩
      ·have hc:=cnt_short (show L<f+sz i by omega)
       refine (add_short L (sz i) f gl (i*3) _ cap wr.drew hs.2 (by omega) hl (by omega) hlv.c0).mono ?_
       rintro e w' ⟨rfl,rfl⟩
       refine ⟨rfl,v,(hx.cong (fun j hj=>?_)).grown (fun _ _=>rfl),hk.trans ⟨rfl,rfl,rfl,Nat.le_refl _,fun _ _ _=>rfl,fun _ _ _ _ _ _=>rfl⟩,HTI⟩
       by_cases e2:j<i
       ·simp only [if_pos e2,if_pos (show j<i+1 by omega)]
       ·by_cases e3:j=i
        ·subst e3
         simp only [if_pos (show j<j+1 by omega),if_neg e2]
         exact hc
        ·simp only [if_neg e2,if_neg (show ¬ j<i+1 by omega)])
     clear hx hk HNX hlv hcs
     go_wp2_with fail
     refine wp_tail 14 (by kernel_rfl) (by kernel_rfl) ?_
     simp only [List.take_succ_cons,List.take_zero,List.drop_succ_cons,List.drop_zero]
     repeat still_step
     try refine wpStill_nil ?_
     go_wp2_with (go_at_call 125;refine (uh HCALL).mono ?_;rintro e w' ⟨rfl,v',hx',hk',HT'⟩)
     go_roundg (N - (i+1))
     case measure=>omega
     case rel=>exact ⟨i+1,v',rfl,by omega,by go_num,hx',hk',HT'⟩
    ·obtain rfl:i=N:=by omega
     have hii:¬ (i:Int)<(i:Int):=by omega
     have hx2:=hx.cong (m':=fun j=>cnt L (sz j) (f+1)) (fun j hj=>by simp only [if_pos hj])
     have c4:=hx2.x4
     have fz4:=hx2.fz 4
     obtain ⟨h1,h2⟩:=hx2.next (f+1)
     have HX2:=qz h1
     have HK2:=qz (hk.trans h2)
     have HT2:Hid (Apart T w i gx gl b v∧∀ x,T x→(wr.setCell ⟨gx,4,none⟩ (.int .i64 ((f+1:Nat):Int))).heap[x]?=w.heap[x]?):=qz ⟨(uh HTI).1,fun x hx=>by rw [heap_setCell_other _ _ _ _ (by exact ((uh HTI).1 x hx).2.1)];exact (uh HTI).2 x hx⟩
     have e1:((f+1:Nat):Int)=(f:Int)+1:=by omega
     rw [e1] at HX2 HK2 HT2
     clear hx hk hx2 h1 h2 e1
     go_wp2_with fail
     go_roundg (p - (f+1))
     case measure=>omega
     case rel=>exact ⟨f+1,v,rfl,by omega,by
      have h1:=uh HX2
      exact ⟨h1.xb,h1.lvs,h1.xB⟩,uh HK2,HT2⟩
  ·obtain rfl:f=p:=by omega
   have hfi:¬ (f:Int)<(f:Int):=by omega
   have HX:=qz hx
   have HK:=qz hk
   clear hx hk
   go_wp2_with fail
   go_end0
   exact ⟨rfl,⟨v,uh HX,(uh HTT).1⟩,uh HK,(uh HTT).2⟩
end T6
namespace T6
open Go.RowKit Go.Lib
attribute [local go_sem ↓] wp_at_zero wp_at_succ
theorem rev_step (s:ByteArray) (K:Nat) (hK:K<s.size) {h:Int} (hh:h=RK.H (s.data.toList.drop (K+1)).reverse % 4294967296) :
  (h*16777619 % 4294967296+((s[K]).toNat:Int) % 4294967296) % 4294967296=RK.H (s.data.toList.drop K).reverse % 4294967296:=LastIndex.hashrev_step s (K+1) (by omega) (by omega) hh
theorem hashrev_ok (b o c:Nat) (sep:ByteArray) (hs:sep.size≤140737488355328) (w:World) (hc:Lib.Bytes w b o sep) :
  Calls Tryz.prog 165 #[.slice (some ⟨b,o,none⟩) sep.size c] w fun e w'=>e=.returned (.tuple #[.int .u32 (RK.H sep.data.toList.reverse % 4294967296),.int .u32 (16777619 ^ sep.size % 4294967296)])∧w'=w:=by
 have HC:=qz hc
 clear hc
 obtain ⟨n,hn⟩:∃ n,n=sep.size:=⟨_,rfl⟩
 rw [← hn] at hs ⊢
 have HN:=qz hn
 clear hn
 go_enter Tryz.func165,Tryz.ntmps165
 go_wp2_with fail
 go_loopg [4,5] n (fun gk vh vi ws=>∃ (k:Nat) (h:Int),k=gk∧k≤n∧vi=.int .i64 ((k:Int) - 1)∧vh=.int .u32 h∧Hid (h=RK.H (sep.data.toList.drop k).reverse % 4294967296)∧w=ws)
 case atStart=>exact ⟨n,0,rfl,Nat.le_refl _,rfl,rfl,qz (by rw [List.drop_of_length_le (by rw [uh HN];simp)];rfl),rfl⟩
 case round =>
  obtain ⟨k,h,rfl,hk,rfl,rfl,hh,rfl⟩:=hrel
  by_cases hk1:1≤k
  ·obtain ⟨K,hK⟩:∃ K:Nat,(k:Int) - 1=(K:Int):=⟨k - 1,by omega⟩
   have hK0:K<sep.size:=by rw [← uh HN];omega
   have c1:=uh HC K hK0
   have HST:=qz (rev_step sep K hK0 (h:=h) (by have:=uh hh;rw [show k=K+1 by omega] at this;exact this))
   have hKn:K<n:=by omega
   clear hh
   go_wp2_with fail
   go_roundg K
   case measure=>omega
   case rel=>exact ⟨K,_,rfl,by omega,rfl,rfl,HST,rfl⟩
  ·obtain rfl:k=0:=by omega
   have HH:Hid (h=RK.H sep.data.toList.reverse % 4294967296):=qz (by have:=uh hh;rwa [List.drop_zero] at this)
   clear hh
   go_wp2_with fail
   go_loopg [6,7,8] n (fun gk vp vq vi ws=>∃ (i:Nat) (pw sq:Int),i=gk∧vi=.int .i64 (i:Int)∧vp=.int .u32 pw∧vq=.int .u32 sq∧0≤pw∧pw<4294967296∧i≤n∧Hid (RK.PowInv sep.size i pw sq)∧w=ws)
   case atStart=>exact ⟨n,1,16777619,rfl,rfl,rfl,rfl,by omega,by omega,Nat.le_refl _,qz (by rw [uh HN];exact RK.pow_start _),rfl⟩
   case round =>
    obtain ⟨i,pw,sq,rfl,rfl,rfl,rfl,p0,p1,hi,hinv,rfl⟩:=hrel
    have ea:=and_one i (by omega)
    by_cases hi0:0<i
    ·have hii:(0:Int)<(i:Int):=by omega
     obtain ⟨i2,hi2⟩:∃ i2,i2=i / 2:=⟨_,rfl⟩
     by_cases hodd:i % 2=1
     ·have ht:((i:Int) % 2 != 0)=true:=by simp;omega
      have HPW:=qz (RK.pow_odd (uh hinv) hodd)
      rw [← hi2] at HPW
      have hi2b:i2<i:=by omega
      have HI2:=qz hi2
      clear hinv hi2
      go_wp2_with fail
      go_roundg i2
      case measure=>omega
      case rel=>exact ⟨i2,_,_,rfl,by rw [uh HI2];first | rfl | (congr 1;omega),rfl,rfl,by omega,by omega,by omega,HPW,rfl⟩
     ·have ht:((i:Int) % 2 != 0)=false:=by simp;omega
      have HPW:=qz (RK.pow_even (uh hinv) (show i % 2=0 by omega))
      rw [← hi2] at HPW
      have hi2b:i2<i:=by omega
      have HI2:=qz hi2
      clear hinv hi2
      go_wp2_with fail
      go_roundg i2
      case measure=>omega
      case rel=>exact ⟨i2,_,_,rfl,by rw [uh HI2];first | rfl | (congr 1;omega),rfl,rfl,p0,p1,by omega,HPW,rfl⟩
    ·obtain rfl:i=0:=by omega
     have e2:=RK.pow_end (uh hinv) p0 p1
     have HE:Hid (pw=16777619 ^ n % 4294967296):=qz (by rw [uh HN];exact e2)
     clear hinv e2
     go_wp2_with fail
     go_ret2
     rw [uh HH,uh HE]
     exact ⟨rfl,rfl⟩
def Stands (zs ys:List Nat) (j:Nat):Prop:=∀ i,i<ys.length→zs.getD (j+i) 0=ys.getD i 0
def LastIs (zs ys:List Nat) (k:Nat) (r:Int):Prop:=(r = -1∧∀ j,j<k→¬ Stands zs ys j)∨∃ j:Nat,r=(j:Int)∧j<k∧Stands zs ys j∧∀ j',j<j'→j'<k→¬ Stands zs ys j'
theorem LastIs.step {zs ys:List Nat} {k:Nat} {r:Int} (h:LastIs zs ys k r) (hn:¬ Stands zs ys k):LastIs zs ys (k+1) r:=by
 rcases h with ⟨h1,h2⟩ | ⟨j,h1,h2,h3,h4⟩
 ·exact .inl ⟨h1,fun j hj=>by by_cases e:j=k;(subst e;exact hn);exact h2 j (by omega)⟩
 ·exact .inr ⟨j,h1,by omega,h3,fun j' a b=>by by_cases e:j'=k;(subst e;exact hn);exact h4 j' a (by omega)⟩
theorem LastIs.hit {zs ys:List Nat} {k:Nat} (h:Stands zs ys k):LastIs zs ys (k+1) (k:Int):=.inr ⟨k,rfl,by omega,h,fun j' a b=>by omega⟩
theorem LastIs.up {zs ys:List Nat} {j m:Nat} {r:Int} (h:LastIs zs ys j r) (hj:j≤m) (hn:∀ i,j≤i→i<m→¬ Stands zs ys i):LastIs zs ys m r:=by
 rcases h with ⟨h1,h2⟩ | ⟨i,h1,h2,h3,h4⟩
 ·exact .inl ⟨h1,fun x hx=>by by_cases e:x<j;exact h2 x e;exact hn x (by omega) hx⟩
 ·exact .inr ⟨i,h1,by omega,h3,fun x a b=>by by_cases e:x<j;exact h4 x a e;exact hn x (by omega) b⟩
theorem lastbyte_ok (zs:List Nat) (a:Option Addr) (cap B x:Nat) (w:World) (hr:ReadsU B w (.slice a zs.length cap) zs) (hl:zs.length≤140737488355328) :
  Calls Tryz.prog 150 #[.slice a zs.length cap,.int .u8 (x:Int)] w fun e w'=>∃ r:Int,e=.returned (.int .i64 r)∧LastIs zs [x] zs.length r∧w'=w:=by
 have HR:=qz hr
 clear hr
 obtain ⟨n,hn⟩:∃ n,n=zs.length:=⟨_,rfl⟩
 rw [← hn] at HR hl ⊢
 have HN:=qz hn
 clear hn
 go_enter Tryz.func150,Tryz.ntmps150
 go_wp2_with fail
 go_loopg [5] n (fun gk vi ws=>∃ (k:Nat),k=gk∧k≤n∧vi=.int .i64 ((k:Int) - 1)∧Hid (∀ j,k≤j→j<n→¬ Stands zs [x] j)∧w=ws)
 case atStart=>exact ⟨n,rfl,Nat.le_refl _,rfl,qz fun j a b=>by omega,rfl⟩
 case round =>
  obtain ⟨k,rfl,hk,rfl,hno,rfl⟩:=hrel
  by_cases hk1:1≤k
  ·obtain ⟨K,hK⟩:∃ K:Nat,(k:Int) - 1=(K:Int):=⟨k - 1,by omega⟩
   have hKn:K<n:=by omega
   have hkK:k=K+1:=by omega
   obtain ⟨a',c',e,_,hs⟩:=uh HR
   injection e with e1 e2 e3
   subst e1 e3
   clear e2
   obtain ⟨b,off,rfl,_,hcell⟩:=hs (by rw [← uh HN];omega)
   have c1:=hcell K (by rw [← uh HN];exact hKn)
   obtain ⟨y,hy⟩:∃ y,y=zs.getD K 0:=⟨_,rfl⟩
   rw [← hy] at c1
   have HST:Hid (Stands zs [x] K↔y=x):=qz (by
    constructor
    ·intro h
     have:=h 0 (by simp)
     rw [Nat.add_zero,← hy] at this
     simpa using this
    ·intro h i hi
     have:i=0:=by simpa using hi
     subst this
     rw [Nat.add_zero,← hy,h]
     rfl)
   have HKK:=qz hkK
   clear hcell hs hy hkK
   by_cases hxy:y=x
   ·have HE:=qz ((LastIs.hit ((uh HST).2 hxy)).up (m:=n) (by omega) (fun i a b=>uh hno i (by have:=uh HKK;omega) b))
    have e1:((y:Int) == (x:Int))=true:=by simp [hxy]
    have e1':(y == x)=true:=by simp [hxy]
    clear hno HST hxy
    go_wp2_with fail
    go_ret
    exact ⟨_,rfl,by rw [hK];exact uh HE,rfl⟩
   ·have HG:Hid (∀ j,K≤j→j<n→¬ Stands zs [x] j):=qz fun j a b=>by
     by_cases e:j=K
     ·subst e;exact fun h=>hxy ((uh HST).1 h)
     ·exact uh hno j (by have:=uh HKK;omega) b
    have e1:((y:Int) == (x:Int))=false:=by simp;omega
    have e1':(y == x)=false:=by simp [hxy]
    clear hno HST hxy
    go_wp2_with fail
    go_roundg K
    case measure=>have:=uh HKK;omega
    case rel=>exact ⟨K,rfl,by omega,rfl,HG,rfl⟩
  ·obtain rfl:k=0:=by omega
   have HE:Hid (LastIs zs [x] n (-1)):=qz (.inl ⟨rfl,fun j hj=>uh hno j (Nat.zero_le _) hj⟩)
   clear hno
   go_wp2_with fail
   go_ret
   exact ⟨_,rfl,uh HE,rfl⟩
def sb (zs:List Nat):ByteArray:=⟨(zs.map UInt8.ofNat).toArray⟩
theorem sb_size (zs:List Nat):(sb zs).size=zs.length:=by simp [sb,ByteArray.size]
theorem sb_list (zs:List Nat):(sb zs).data.toList=zs.map UInt8.ofNat:=by simp [sb]
theorem sb_get {zs:List Nat} (hs:∀ z∈zs,z<256) (i:Nat) (h:i<(sb zs).size):((sb zs)[i]).toNat=zs.getD i 0:=by
 have hl:i<zs.length:=by rw [sb_size] at h;exact h
 have h1:(sb zs)[i]=UInt8.ofNat zs[i]:=by
  show (sb zs).data[i]=_
  simp [sb]
 rw [h1]
 have h2:=hs zs[i] (List.getElem_mem hl)
 simp [hl,Nat.mod_eq_of_lt h2]
theorem sb_inj {a b:List Nat} (ha:∀ z∈a,z<256) (hb:∀ z∈b,z<256) (h:sb a=sb b):a=b:=by
 have hl:a.length=b.length:=by rw [← sb_size,← sb_size,h]
 refine list_eq hl fun i hi=>?_
 have h1:=sb_get ha i (by rw [sb_size];exact hi)
 have h2:=sb_get hb i (by rw [sb_size];omega)
 rw [← h1,← h2]
 congr 1
 simp only [h]
theorem sb_bytes {B:Nat} {w:World} {a:Option Addr} {cap:Nat} {zs:List Nat} (h:ReadsU B w (.slice a zs.length cap) zs) (hs:∀ z∈zs,z<256) (h0:0<zs.length):∃ b off,a=some ⟨b,off,none⟩∧Lib.Bytes w b off (sb zs):=by
 obtain ⟨a',c',e,_,hc⟩:=h
 injection e with e1 e2 e3
 subst e1
 obtain ⟨b,off,rfl,_,hcell⟩:=hc h0
 refine ⟨b,off,rfl,fun i hi=>?_⟩
 rw [sb_get hs i hi]
 exact hcell i (by rw [sb_size] at hi;exact hi)
theorem stands_sub {zs ys:List Nat} {j:Nat} (hj:j+ys.length≤zs.length):Stands zs ys j↔(zs.drop j).take ys.length=ys:=by
 constructor
 ·intro h
  refine list_eq (by simp;omega) fun i hi=>?_
  have hi':i<ys.length:=by simp at hi;omega
  rw [slice_get _ _ _ _ hi']
  exact h i hi'
 ·intro h i hi
  rw [← slice_get zs j ys.length i hi,h]
theorem stands_hash {zs ys:List Nat} {j:Nat} (hj:j+ys.length≤zs.length) (h:Stands zs ys j):RK.win (sb zs).data.toList j ys.length=(sb ys).data.toList:=by
 rw [sb_list,sb_list]
 unfold RK.win
 rw [← List.map_drop,← List.map_take,(stands_sub hj).1 h]
end T6
end Go.Proofs.YtabeanealkopbaaGreat
