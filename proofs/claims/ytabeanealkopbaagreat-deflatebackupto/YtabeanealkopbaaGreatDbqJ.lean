/- Texts of one proof, one behind the other: Hf, Hd, No0, No1, Oc. -/
import Derived.Test.YtabeanealkopbaaGreatDbqI

set_option linter.unusedVariables false
set_option maxRecDepth 100000
set_option maxHeartbeats 24000000
namespace Go.Proofs.YtabeanealkopbaaGreat
namespace W4
open Go.RowKit Mth Infl Defl
attribute [local go_sem ↓] wp_at_zero wp_at_succ
def fcs:List (Nat × Nat)→List Value
 | []=>[]
 | r :: rs=>.int .i64 (r.1:Int) :: .int .i64 (r.2:Int) :: fcs rs
theorem fcs_append:∀ a b:List (Nat × Nat),fcs (a++b)=fcs a++fcs b
 | [],b=>rfl
 | r :: rs,b=>by simp [fcs,fcs_append rs b]
theorem info147:(Tryz.prog.info? 147).map (fun i=>(i.zero,i.size,i.bytes))=some (some (.agg #[.int .i64 0,.int .i64 0]),2,16):=by kernel_rfl
theorem wp_app3 {ops:Array Oper} {rest:List Oper} {o:Oper} {a:Act} {Q:Exit→Act→World→Prop} {w W:World} (s x:Operand) (va:Value) (us:List Nat) (b z:Nat) (hgd:o.guard=none) (ho:o.op=.call { callee:=.builtin .append,args:=#[s,x],argTypes:=#[45,45] }) (hs:a.eval s=va) (hx:a.eval x=.slice (some ⟨b,0,none⟩) 1 1)
  (hown:W.ownsRow w.heap.size 3 1 va us.length (us.map fun z:Nat=>iv (z:Int))) (hbel:Below w.heap.size w W) (hc:W.cell? ⟨b,0,none⟩=some (.int .i64 (z:Int))) (hu:us.length≤1000)
  (h:∀ v' w',w'.ownsRow w.heap.size 3 1 v' (us++[z]).length ((us++[z]).map fun z:Nat=>iv (z:Int))→Below w.heap.size w w'→wpList Tryz.prog ops Q rest (a.put o.dst v') w'):wpList Tryz.prog ops Q (o :: rest) a W:=by
 obtain ⟨i0,hi,hz0,hz1,hz2⟩:=info_parts info3'
 refine wpList_append_own_at W hgd s x 45 ho w.heap.size 3 i0 (.int .i64 0) 1 8 Tryz.underlying45 hi hz0 hz1 hz2 rfl (by decide) va us.length (us.map fun z:Nat=>iv (z:Int)) hs hown ⟨b,0,none⟩ 1 1 [iv (z:Int)] hx rfl (fun j u hj=>?_) (by intro u hu;simp at hu;subst hu;rfl) (by unfold maxLen;omega) (by omega) hbel.size ?_
 ·match j,hj with
  | 0,hj=>simp at hj;subst hj;simpa [Addr.add,iv] using hc
 ·intro v' w' h2 h3 _ h5
  refine h v' w' ?_ (hbel.grown h3 hbel.size (fun k e=>(hown.lt k e).1))
  rw [List.length_append,List.map_append]
  exact h2
theorem wp_app147 {ops:Array Oper} {rest:List Oper} {o:Oper} {a:Act} {Q:Exit→Act→World→Prop} {w W:World} (s x:Operand) (va:Value) (us:List (Nat × Nat)) (b y z:Nat) (hgd:o.guard=none) (ho:o.op=.call { callee:=.builtin .append,args:=#[s,x],argTypes:=#[110,110] }) (hs:a.eval s=va) (hx:a.eval x=.slice (some ⟨b,0,none⟩) 1 1)
  (hown:W.ownsRow w.heap.size 147 2 va us.length (fcs us)) (hbel:Below w.heap.size w W) (hc:W.heap[b]?=some (.cells #[.int .i64 (y:Int),.int .i64 (z:Int)] 147 (0,0))) (hu:us.length≤1000)
  (h:∀ v' w',w'.ownsRow w.heap.size 147 2 v' (us++[(y,z)]).length (fcs (us++[(y,z)]))→Below w.heap.size w w'→wpList Tryz.prog ops Q rest (a.put o.dst v') w'):wpList Tryz.prog ops Q (o :: rest) a W:=by
 obtain ⟨i0,hi,hz0,hz1,hz2⟩:=info_parts info147
 refine wpList_append_own_at W hgd s x 110 ho w.heap.size 147 i0 (.agg #[.int .i64 0,.int .i64 0]) 2 16 Tryz.underlying110 hi hz0 hz1 hz2 rfl (by decide) va us.length (fcs us) hs hown ⟨b,0,none⟩ 1 1 (fcs [(y,z)]) hx rfl (fun j u hj=>?_) (by intro u hu;simp [fcs] at hu;rcases hu with rfl | rfl <;> rfl) (by unfold maxLen;omega) (by omega) hbel.size ?_
 ·match j,hj with
  | 0,hj=>simp [fcs] at hj;subst hj;simp [Addr.add,World.cell?,hc]
  | 1,hj=>simp [fcs] at hj;subst hj;simp [Addr.add,World.cell?,hc]
 ·intro v' w' h2 h3 _ h5
  refine h v' w' ?_ (hbel.grown h3 hbel.size (fun k e=>(hown.lt k e).1))
  rw [List.length_append,fcs_append]
  exact h2
def ordered (f:Nat→Nat) (i:Nat):List Nat:=(order.take i).map f
theorem ordered_next (f:Nat→Nat) (i:Nat) (hi:i<19):ordered f (i+1)=ordered f i++[f (order.getD i 0)]:=by
 unfold ordered
 have hl:i<order.length:=hi
 rw [List.take_succ_eq_append_getElem hl,List.map_append]
 simp [List.getD_eq_getElem?_getD,hl]
def fieldsOf (nx ny:Nat) (vs:List Nat):List (Nat × Nat):=[(nx - 257,5),(ny - 1,5),(vs.length - 4,4)]++vs.map fun v=>(v,3)
theorem headFields_ok (nx ny gz:Nat) (f:Nat→Nat) (w:World) (hz:IntsAt w .i64 3 gz 19 f) (hx1:257≤nx) (hx2:nx≤286) (hy1:1≤ny) (hy2:ny≤30) :
  Calls Tryz.prog 118 #[.int .i64 (nx:Int),.int .i64 (ny:Int),.slice (some ⟨gz,0,none⟩) 19 19] w fun e w'=>∃ v,e=.returned v∧w'.ownsRow w.heap.size 147 2 v (fieldsOf nx ny (trim 4 19 (order.map f))).length (fcs (fieldsOf nx ny (trim 4 19 (order.map f))))∧Below w.heap.size w w':=by
 have HZ:Hid (∀ W s,Below w.heap.size w W→s<19→W.cell? ⟨gz,s,none⟩=some (.int .i64 (f s:Int))):=qz (fun W s hW hs=>(hz.stays hW hz.lt).cell s hs)
 obtain ⟨W1,hW1⟩:∃ W1,W1=w.alloc (.cells (order.map (fun z:Nat=>iv (z:Int))).toArray 3):=⟨_,rfl⟩
 have hb1:Below w.heap.size w W1:=by rw [hW1];exact (Below.refl _ _).alloc (Nat.le_refl _) _
 have x1:W1.heap[w.heap.size]?=some (.cells (order.map (fun z:Nat=>iv (z:Int))).toArray 3 (0,0)):=by rw [hW1];exact heap_alloc_new _ _
 have HO:Hid (∀ W j,Below W1.heap.size W1 W→j<19→W.cell? ⟨w.heap.size,j,none⟩=some (.int .i64 ((order.getD j 0:Nat):Int))):=qz (fun W j hW hj=>by
  have:=order_cells w j hj
  rw [← hW1] at this
  exact cell_stays hW this)
 have HOS:Hid (∀ j,j<19→order.getD j 0<19):=qz (by decide)
 have HORD:Hid (Calls Tryz.prog 144 #[] w fun e w'=>e=.returned (.slice (some ⟨w.heap.size,0,none⟩) 19 19)∧w'=W1):=qz (by rw [hW1];exact order_ok w)
 have HB1:=qz hb1
 clear hz hW1 x1 hb1
 go_enter Tryz.func118,Tryz.ntmps118
 go_wp2_with fail
 refine (uh HORD).mono ?_
 rintro e W ⟨rfl,rfl⟩
 clear HORD
 go_wp2_with fail
 have HNX:Hid (∀ i,i<19→ordered f (i+1)=ordered f i++[f (order.getD i 0)]):=qz (ordered_next f)
 have HLN:Hid (∀ i,i≤19→(ordered f i).length=i):=qz (fun i hi=>by unfold ordered;rw [List.length_map,List.length_take];have:order.length=19:=rfl;omega)
 have HO0:Hid (W.ownsRow W.heap.size 3 1 (.slice none 0 0) (ordered f 0).length ((ordered f 0).map fun z:Nat=>iv (z:Int))):=qz ⟨rfl,.inl ⟨rfl,rfl⟩⟩
 have HALL:Hid (ordered f 19=order.map f):=qz (by unfold ordered;rw [show order.take 19=order from rfl])
 have HTR:Hid (∀ (g cap:Nat) (X:World),(∀ j,j<19→X.cell? ⟨g,0+j,none⟩=some (.int .i64 ((order.map f).getD j 0:Int)))→19≤cap→cap≤9223372036854775807→Calls Tryz.prog 113 #[.slice (some ⟨g,0,none⟩) 19 cap,.int .i64 4] X fun e w'=>e=.returned (.slice (some ⟨g,0,none⟩) (trim 4 19 (order.map f)).length cap)∧w'=X):=qz (fun g cap X hc h1 h2=>trim_ok (order.map f) g 0 cap 4 X hc h1 h2 (by decide) (by simp [order]))
 have HTI:Hid (4≤(trim 4 19 (order.map f)).length∧(trim 4 19 (order.map f)).length≤19∧∀ i,(trim 4 19 (order.map f)).getD i 0=(order.map f).getD i 0):=qz (trim_is 4 19 (order.map f) (by simp [order]))
 generalize hvs:trim 4 19 (order.map f)=vs at HTR HTI
 have HVS:=qz hvs
 clear hvs
 have HB0:Hid (Below W.heap.size W W):=qz (Below.refl _ _)
 go_loopg [7,15] 19 (fun gk rv iv' ws=>∃ i:Nat,gk=19 - i∧i≤19∧iv'=.int .i64 (i:Int)∧Hid (ws.ownsRow W.heap.size 3 1 rv (ordered f i).length ((ordered f i).map fun z:Nat=>iv (z:Int)))∧Hid (Below W.heap.size W ws))
 case atStart=>exact ⟨0,rfl,by omega,rfl,HO0,HB0⟩
 case round =>
  clear HO0 HB0
  obtain ⟨i,rfl,hin,rfl,hO,hB⟩:=hrel
  by_cases hlt:i<19
  ·have e1:(i:Int)<19:=by omega
   have q1:=uh HO wr i (uh hB) hlt
   have hs:=uh HOS i hlt
   have q2:=uh HZ wr (order.getD i 0) ((uh HB1).trans ((uh hB).mono (uh HB1).size)) hs
   have hN:=uh HNX i hlt
   have hl:=uh HLN i (by omega)
   have HN':=qz hN
   generalize order.getD i 0=s at q1 q2 hs HN'
   clear hN
   have hs':(s:Int)<19:=by omega
   have x3:(wr.alloc (.cells #[.int .i64 (f s:Int)] 3)).cell? ⟨wr.heap.size,0,none⟩=some (.int .i64 (f s:Int)):=by simp only [World.cell?,heap_alloc_new];rfl
   have X3:=qz x3
   clear x3
   go_wp2_with (at_builtin;refine wp_app3 (w:=W) _ _ _ (ordered f i) wr.heap.size (f s) rfl rfl rfl rfl ((uh hO).alloc _) ((uh hB).alloc (uh hB).size _) (uh X3) (by omega) (fun v' w' p1 p2=>?_);have HO':=qz p1;have HB':=qz p2;clear p1 p2)
   go_roundg (19 - (i+1))
   case measure=>omega
   case rel=>exact ⟨i+1,rfl,by omega,by go_num,qz (by rw [uh HN'];exact uh HO'),HB'⟩
  ·obtain rfl:i=19:=by omega
   have hown:=uh hO
   rw [uh HALL] at hown
   rcases hown.2 with ⟨_,e⟩ | ⟨g,cap,cur,rfl,g1,g2,g3,g4,g5,g6⟩
   ·simp [order] at e
   ·have hlo:(order.map f).length=19:=by simp [order]
    have hcs:∀ j,j<19→wr.cell? ⟨g,0+j,none⟩=some (.int .i64 ((order.map f).getD j 0:Int)):=fun j hj=>by
     have:=hown.cells (g:=g) rfl j (iv ((order.map f).getD j 0:Nat)) (by
      rw [List.getElem?_map,List.getElem?_eq_getElem (by omega)]
      simp [List.getD_eq_getElem?_getD,hlo,hj])
     have ea:(⟨g,0,none⟩:Addr).add j=⟨g,0+j,none⟩:=by by_cases hq:j=0 <;> simp [Addr.add,hq]
     rw [ea] at this
     exact this
    have hcap:19≤cap:=by have:=g3;omega
    have hcap2:cap≤9223372036854775807:=by unfold maxLen at g4;omega
    have HT:=qz (uh HTR g cap wr hcs hcap hcap2)
    have hgl:=heap_lt g2
    obtain ⟨t1,t2,t3⟩:=uh HTI
    have hle:(ordered f 19).length=19:=uh HLN 19 (by omega)
    have HCV:Hid (∀ X j,Below wr.heap.size wr X→j<vs.length→X.cell? ⟨g,j,none⟩=some (.int .i64 (vs.getD j 0:Int))):=qz (fun X j hX hj=>by
     have:=cell_stays hX (hcs j (by omega))
     rw [Nat.zero_add,← t3 j] at this
     exact this)
    rw [hlo]
    have HBW:Hid (Below w.heap.size w wr):=qz ((uh HB1).trans ((uh hB).mono (uh HB1).size))
    obtain ⟨m,hm⟩:∃ m,m=vs.length:=⟨_,rfl⟩
    have HM:=qz hm
    rw [← hm] at HT HCV t1 t2
    clear hown hO hB hcs g1 g2 g3 g4 g5 g6 hlo HTR HTI t3 HALL HNX HLN hm hle
    go_wp2_with fail
    refine (uh HT).mono ?_
    rintro e X ⟨rfl,rfl⟩
    clear HT
    have ex:(nx:Int) - 257=((nx - 257:Nat):Int):=by omega
    have ey:(ny:Int) - 1=((ny - 1:Nat):Int):=by omega
    have em:(m:Int) - 4=((m - 4:Nat):Int):=by omega
    go_wp2_with fail
    clear ex ey em
    have HF0:Hid ((X.alloc (.cells #[.int .i64 ((nx - 257:Nat):Int),.int .i64 5,.int .i64 ((ny - 1:Nat):Int),.int .i64 5,.int .i64 ((m - 4:Nat):Int),.int .i64 4] 147)).ownsRow X.heap.size 147 2 (.slice (some ⟨X.heap.size,0,none⟩) 3 3) ([(nx - 257,5),(ny - 1,5),(m - 4,4)]++(vs.take 0).map fun v=>(v,3)).length (fcs ([(nx - 257,5),(ny - 1,5),(m - 4,4)]++(vs.take 0).map fun v=>(v,3)))):=qz ⟨rfl,.inr ⟨X.heap.size,3,_,rfl,Nat.le_refl _,heap_alloc_new _ _,Nat.le_refl _,by unfold maxLen;decide,rfl,rfl⟩⟩
    have HB0:Hid (Below X.heap.size X (X.alloc (.cells #[.int .i64 ((nx - 257:Nat):Int),.int .i64 5,.int .i64 ((ny - 1:Nat):Int),.int .i64 5,.int .i64 ((m - 4:Nat):Int),.int .i64 4] 147))):=qz ((Below.refl _ _).alloc (Nat.le_refl _) _)
    have HVN:Hid (∀ i,i<m→[(nx - 257,5),(ny - 1,5),(m - 4,4)]++(vs.take (i+1)).map (fun v=>(v,3))=([(nx - 257,5),(ny - 1,5),(m - 4,4)]++(vs.take i).map fun v=>(v,3))++[(vs.getD i 0,3)]):=qz (fun i hi=>by
     have hi':i<vs.length:=by rw [← uh HM];exact hi
     rw [List.take_succ_eq_append_getElem hi',List.map_append,List.append_assoc]
     simp [List.getD_eq_getElem?_getD,hi'])
    have HVL:Hid (∀ i,([(nx - 257,5),(ny - 1,5),(m - 4,4)]++(vs.take i).map fun v=>(v,3)).length≤1000):=qz (fun i=>by
     have:=uh HM
     simp
     omega)
    have HEND:Hid ([(nx - 257,5),(ny - 1,5),(m - 4,4)]++(vs.take m).map (fun v=>(v,3))=fieldsOf nx ny vs):=qz (by
     unfold fieldsOf
     rw [uh HM,List.take_length])
    generalize [(nx - 257,5),(ny - 1,5),(m - 4,4)]=base at HF0 HVN HVL HEND
    go_loopg [10,42] m (fun gk rv iv' ws=>∃ i:Nat,gk=m - i∧i≤m∧iv'=.int .i64 (i:Int)∧Hid (ws.ownsRow X.heap.size 147 2 rv (base++(vs.take i).map fun v=>(v,3)).length (fcs (base++(vs.take i).map fun v=>(v,3))))∧Hid (Below X.heap.size X ws))
    case atStart=>exact ⟨0,by omega,by omega,rfl,HF0,HB0⟩
    case round =>
     clear HF0 HB0
     obtain ⟨i,rfl,hin,rfl,hO,hB⟩:=hrel
     by_cases hlt:i<m
     ·have e1:(i:Int)<(m:Int):=by omega
      have q1:=uh HCV wr i (uh hB) hlt
      have HN':=qz (uh HVN i hlt)
      have hl:=uh HVL i
      generalize vs.getD i 0=z at q1 HN'
      have X3:Hid ((wr.alloc (.cells #[.int .i64 (z:Int),.int .i64 3] 147)).heap[wr.heap.size]?=some (.cells #[.int .i64 (z:Int),.int .i64 ((3:Nat):Int)] 147 (0,0))):=qz (heap_alloc_new _ _)
      go_wp2_with (at_builtin;refine wp_app147 (w:=X) _ _ _ (base++(vs.take i).map fun v=>(v,3)) wr.heap.size z 3 rfl rfl rfl rfl ((uh hO).alloc _) ((uh hB).alloc (uh hB).size _) (uh X3) hl (fun v' w' p1 p2=>?_);have HO':=qz p1;have HB':=qz p2;clear p1 p2)
      go_roundg (m - (i+1))
      case measure=>omega
      case rel=>exact ⟨i+1,rfl,by omega,by go_num,qz (by rw [uh HN'];exact uh HO'),HB'⟩
     ·obtain rfl:i=m:=by omega
      have HR:Hid (wr.ownsRow w.heap.size 147 2 u10 (fieldsOf nx ny vs).length (fcs (fieldsOf nx ny vs))∧Below w.heap.size w wr):=qz (by
       have h1:=uh hO
       rw [uh HEND] at h1
       refine ⟨⟨h1.1,?_⟩,(uh HBW).trans ((uh hB).mono (uh HBW).size)⟩
       rcases h1.2 with h | ⟨g,cap,cur,k0,k1,k2⟩
       ·exact .inl h
       ·exact .inr ⟨g,cap,cur,k0,Nat.le_trans (uh HBW).size k1,k2⟩)
      clear hO hB
      go_wp2_with fail
      go_ret
      rw [uh HVS]
      exact ⟨u10,rfl,(uh HR).1,(uh HR).2⟩
end W4
namespace W4
open Go.RowKit Mth Infl Defl
attribute [local go_sem ↓] wp_at_zero wp_at_succ
def FieldsAt (w:World) (a:Option Addr) (fs:List (Nat × Nat)):Prop:=∀ i,i<fs.length→∃ b off,a=some ⟨b,off,none⟩∧w.cell? ⟨b,off+i*2,none⟩=some (.int .i64 ((fs.getD i (0,0)).1:Int))∧w.cell? ⟨b,off+i*2+1,none⟩=some (.int .i64 ((fs.getD i (0,0)).2:Int))
theorem FieldsAt.keep {w w':World} {a:Option Addr} {fs:List (Nat × Nat)} (h:FieldsAt w a fs) (hk:∀ ad,a=some ad→0<fs.length→ad.block<w.heap.size→w'.heap[ad.block]?=w.heap[ad.block]?):FieldsAt w' a fs:=by
 intro i hi
 obtain ⟨b,off,ha,q1,q2⟩:=h i hi
 have hbl:b<w.heap.size:=cell_lt q1
 have hh:=hk _ ha (by omega) hbl
 refine ⟨b,off,ha,?_,?_⟩
 ·simp only [World.cell?] at q1 ⊢;rw [hh];exact q1
 ·simp only [World.cell?] at q2 ⊢;rw [hh];exact q2
def fbits (fs:List (Nat × Nat)):List Bool:=(fs.map fun r=>nb r.1 r.2).flatten
def wdB (z:List Nat) (r:Wd):List Bool:=wb z r.1.toNat++nb r.2.1 r.2.2
def wbits (z:List Nat) (rs:List Wd):List Bool:=(rs.map (wdB z)).flatten
structure HeadAt (w:World) (ob:Nat) (fs:List (Nat × Nat)) (rs:List Wd) (z:List Nat) (fa ra:Option Addr) (fc rc ci xl xh:Nat):Prop where
 f:w.cell? ⟨ob,2,none⟩=some (.slice fa fs.length fc)
 r:w.cell? ⟨ob,3,none⟩=some (.slice ra rs.length rc)
 c:w.cell? ⟨ob,4,none⟩=some (.pointer (some ⟨ci,0,none⟩))
 fat:FieldsAt w fa fs
 rat:WordsAt w ra rs
 code:Code z w ci xl xh
 hi:xh≤w.heap.size
theorem HeadAt.keep {w w':World} {ob:Nat} {fs:List (Nat × Nat)} {rs:List Wd} {z:List Nat} {fa ra:Option Addr} {fc rc ci xl xh:Nat} (h:HeadAt w ob fs rs z fa ra fc rc ci xl xh) (ho:w'.heap[ob]?=w.heap[ob]?) (hf:∀ ad,fa=some ad→w'.heap[ad.block]?=w.heap[ad.block]?) (hr:∀ ad,ra=some ad→w'.heap[ad.block]?=w.heap[ad.block]?) (hc:∀ k,xl≤k→k<xh→w'.heap[k]?=w.heap[k]?) (hs:w.heap.size≤w'.heap.size):HeadAt w' ob fs rs z fa ra fc rc ci xl xh:=by
 refine ⟨?_,?_,?_,h.fat.keep fun ad ha _ _=>hf ad ha,h.rat.keep fun ad ha _ _=>hr ad ha,h.code.keep hc,Nat.le_trans h.hi hs⟩
 ·have:=h.f;simp only [World.cell?] at this ⊢;rw [ho];exact this
 ·have:=h.r;simp only [World.cell?] at this ⊢;rw [ho];exact this
 ·have:=h.c;simp only [World.cell?] at this ⊢;rw [ho];exact this
structure HeadOk (fs:List (Nat × Nat)) (rs:List Wd) (z:List Nat):Prop where
 okf:∀ r∈fs,r.1<2 ^ r.2∧r.2≤5
 okr:∀ r∈rs,0≤r.1∧EvOk z r.1.toNat r.2.1 r.2.2
 nf:fs.length≤1000
 nr:rs.length≤1000
theorem fbits_next (fs:List (Nat × Nat)) (i:Nat) (hi:i<fs.length):fbits (fs.take (i+1))=fbits (fs.take i)++nb (fs.getD i (0,0)).1 (fs.getD i (0,0)).2:=by
 unfold fbits
 rw [List.take_succ_eq_append_getElem hi,List.map_append,List.flatten_append]
 simp [List.getD_eq_getElem?_getD,hi]
theorem wbits_next (z:List Nat) (rs:List Wd) (i:Nat) (hi:i<rs.length):wbits z (rs.take (i+1))=wbits z (rs.take i)++wdB z (rs.getD i (0,0,0)):=by
 unfold wbits
 rw [List.take_succ_eq_append_getElem hi,List.map_append,List.flatten_append]
 simp [List.getD_eq_getElem?_getD,hi]
theorem HeadOk.flen {fs:List (Nat × Nat)} {rs:List Wd} {z:List Nat} (h:HeadOk fs rs z):∀ i,i≤fs.length→(fbits (fs.take i)).length≤5*i
 | 0,_=>by simp [fbits]
 | i+1,hi=>by
  rw [fbits_next fs i (by omega),List.length_append,nb_length]
  have:=h.flen i (by omega)
  have:=(h.okf (fs.getD i (0,0)) (by simp [List.getD_eq_getElem?_getD,show i<fs.length by omega])).2
  omega
theorem HeadOk.wlen {fs:List (Nat × Nat)} {rs:List Wd} {z:List Nat} (h:HeadOk fs rs z):∀ i,i≤rs.length→(wbits z (rs.take i)).length≤28*i
 | 0,_=>by simp [wbits]
 | i+1,hi=>by
  rw [wbits_next z rs i (by omega),List.length_append]
  have:=h.wlen i (by omega)
  have q:=(h.okr (rs.getD i (0,0,0)) (by simp [List.getD_eq_getElem?_getD,show i<rs.length by omega])).2
  have q1:=q.most
  have q2:=q.few
  unfold wdB
  rw [List.length_append,wb_length,nb_length]
  omega
theorem putHead_ok (ob pb:Nat) (fs:List (Nat × Nat)) (rs:List Wd) (z:List Nat) (fa ra:Option Addr) (fc rc ci xl xh:Nat) (w0 w:World) (v0:Value) (L:List Bool) (h:WrAt w0 v0 pb L w) (hh:HeadAt w0 ob fs rs z fa ra fc rc ci xl xh) (hok:HeadOk fs rs z) (hso:Safe w0 v0 pb ob) (hsf:∀ ad,fa=some ad→Safe w0 v0 pb ad.block) (hsr:∀ ad,ra=some ad→Safe w0 v0 pb ad.block) (hsc:∀ k,xl≤k→k<xh→Safe w0 v0 pb k) (hb:L.length≤800000000000000) :
  Calls Tryz.prog 59 #[.pointer (some ⟨ob,0,none⟩),.pointer (some ⟨pb,0,none⟩)] w fun e w'=>e=.returned (.tuple #[])∧WrAt w0 v0 pb (L++(fbits fs++wbits z rs)) w':=by
 have HK:Hid (∀ L' y,WrAt w0 v0 pb L' y→HeadAt y ob fs rs z fa ra fc rc ci xl xh):=qz (fun L' y hy=>hh.keep (hy.block hso) (fun ad e=>hy.block (hsf ad e)) (fun ad e=>hy.block (hsr ad e)) (fun k a b=>hy.block (hsc k a b)) hy.size)
 have HFN:Hid (∀ i,i<fs.length→fbits (fs.take (i+1))=fbits (fs.take i)++nb (fs.getD i (0,0)).1 (fs.getD i (0,0)).2):=qz (fbits_next fs)
 have HWN:Hid (∀ i,i<rs.length→wbits z (rs.take (i+1))=wbits z (rs.take i)++wdB z (rs.getD i (0,0,0))):=qz (wbits_next z rs)
 have HFL:Hid (∀ i,i≤fs.length→(fbits (fs.take i)).length≤5000):=qz (fun i hi=>by have:=hok.flen i hi;have:=hok.nf;omega)
 have HWL:Hid (∀ i,i≤rs.length→(wbits z (rs.take i)).length≤28000):=qz (fun i hi=>by have:=hok.wlen i hi;have:=hok.nr;omega)
 have HFO:Hid (∀ i,i<fs.length→(fs.getD i (0,0)).1<2 ^ (fs.getD i (0,0)).2∧(fs.getD i (0,0)).2≤5):=qz (fun i hi=>hok.okf _ (by simp [List.getD_eq_getElem?_getD,hi]))
 have HRO:Hid (∀ i,i<rs.length→0≤(rs.getD i (0,0,0)).1∧EvOk z (rs.getD i (0,0,0)).1.toNat (rs.getD i (0,0,0)).2.1 (rs.getD i (0,0,0)).2.2):=qz (fun i hi=>hok.okr _ (by simp [List.getD_eq_getElem?_getD,hi]))
 have HFE:Hid (fs.take fs.length=fs):=qz (List.take_length ..)
 have HWE:Hid (rs.take rs.length=rs):=qz (List.take_length ..)
 have hk0:=uh HK L w h
 have f0:=hk0.f
 have HAT0:Hid (WrAt w0 v0 pb (L++fbits (fs.take 0)) w):=qz (by simpa [fbits] using h)
 obtain ⟨nf,hnf⟩:∃ n,n=fs.length:=⟨_,rfl⟩
 obtain ⟨nr,hnr⟩:∃ n,n=rs.length:=⟨_,rfl⟩
 have hnf2:nf≤1000:=by rw [hnf];exact hok.nf
 have hnr2:nr≤1000:=by rw [hnr];exact hok.nr
 have HKF:Hid (∀ L' y,WrAt w0 v0 pb L' y→∀ i,i<nf→∃ b off,fa=some ⟨b,off,none⟩∧y.cell? ⟨b,off+i*2,none⟩=some (.int .i64 ((fs.getD i (0,0)).1:Int))∧y.cell? ⟨b,off+i*2+1,none⟩=some (.int .i64 ((fs.getD i (0,0)).2:Int))):=qz (fun L' y hy i hi=>(uh HK L' y hy).fat i (by rw [← hnf];exact hi))
 have HKR:Hid (∀ L' y,WrAt w0 v0 pb L' y→∀ i,i<nr→∃ b off,ra=some ⟨b,off,none⟩∧y.cell? ⟨b,off+i*3,none⟩=some (.int .i64 (rs.getD i (0,0,0)).1)∧y.cell? ⟨b,off+i*3+1,none⟩=some (.int .i64 ((rs.getD i (0,0,0)).2.1:Int))∧y.cell? ⟨b,off+i*3+2,none⟩=some (.int .i64 ((rs.getD i (0,0,0)).2.2:Int))):=qz (fun L' y hy i hi=>(uh HK L' y hy).rat i (by rw [← hnr];exact hi))
 have HKC:Hid (∀ L' y,WrAt w0 v0 pb L' y→y.cell? ⟨ob,3,none⟩=some (.slice ra nr rc)∧y.cell? ⟨ob,4,none⟩=some (.pointer (some ⟨ci,0,none⟩))∧Code z y ci xl xh∧xh≤y.heap.size):=qz (fun L' y hy=>⟨by rw [hnr];exact (uh HK L' y hy).r,(uh HK L' y hy).c,(uh HK L' y hy).code,(uh HK L' y hy).hi⟩)
 rw [← hnf] at f0 HFN HFL HFO HFE
 rw [← hnr] at HWN HWL HRO HWE
 clear hnf hnr h hh hok hso hsf hsr hsc hk0 HK
 go_enter Tryz.func59,Tryz.ntmps59
 go_wp2_with fail
 go_loopg [13] nf (fun gk iv' ws=>∃ i:Nat,gk=nf - i∧i≤nf∧iv'=.int .i64 (i:Int)∧Hid (WrAt w0 v0 pb (L++fbits (fs.take i)) ws))
 case atStart=>exact ⟨0,by omega,by omega,rfl,HAT0⟩
 case round =>
  clear HAT0 f0
  obtain ⟨i,rfl,hin,rfl,hat⟩:=hrel
  by_cases hlt:i<nf
  ·have e1:(i:Int)<(nf:Int):=by omega
   obtain ⟨b,off,rfl,q1,q2⟩:=uh HKF _ wr (uh hat) i hlt
   obtain ⟨o1,o2⟩:=uh HFO i hlt
   have HN:=qz (uh HFN i hlt)
   have hl:=uh HFL i (by omega)
   generalize fs.getD i (0,0)=r at q1 q2 o1 o2 HN
   obtain ⟨v,sz⟩:=r
   simp only at q1 q2 o1 o2 HN
   have hv:v<32:=Nat.lt_of_lt_of_le o1 (Nat.pow_le_pow_right (by omega) o2:2 ^ sz≤2 ^ 5)
   obtain ⟨W1,hW1⟩:∃ W1,W1=wr.alloc (.cells #[.int .i64 (v:Int),.int .i64 (sz:Int)] 147):=⟨_,rfl⟩
   have x1:W1.heap[wr.heap.size]?=some (.cells #[.int .i64 (v:Int),.int .i64 (sz:Int)] 147 (0,0)):=by rw [hW1];exact heap_alloc_new _ _
   have d0:W1.cell? ⟨wr.heap.size,0,none⟩=some (.int .i64 (v:Int)):=by simp only [World.cell?,x1];rfl
   have d1:W1.cell? ⟨wr.heap.size,1,none⟩=some (.int .i64 (sz:Int)):=by simp only [World.cell?,x1];rfl
   have hat1:WrAt w0 v0 pb (L++fbits (fs.take i)) W1:=(uh hat).below (by rw [hW1];exact (Below.refl _ _).alloc (Nat.le_refl _) _)
   have HP:Hid (Calls Tryz.prog 53 #[.pointer (some ⟨pb,0,none⟩),.int .u64 (v:Int),.int .i64 (sz:Int)] W1 fun e w'=>e=.returned (.int .i64 0)∧WrAt w0 v0 pb (L++fbits (fs.take (i+1))) w'):=qz (by
    have:=hat1.put v sz (by omega) o1 (by rw [List.length_append];omega)
    rw [List.append_assoc,← uh HN] at this
    exact this)
   rw [hW1] at d0 d1
   clear hat hat1 x1 HN o1
   go_wp2_with fail
   rw [← hW1]
   clear hW1 d0 d1
   refine (uh HP).mono ?_
   rintro e W2 ⟨rfl,h2⟩
   have H2:=qz h2
   clear h2 HP
   go_wp2_with fail
   go_roundg (nf - (i+1))
   case measure=>omega
   case rel=>exact ⟨i+1,rfl,by omega,by go_num,H2⟩
  ·obtain rfl:i=nf:=by omega
   have hat2:=uh hat
   rw [uh HFE] at hat2
   have hfl:=uh HFL i (Nat.le_refl _)
   rw [uh HFE] at hfl
   obtain ⟨c3,_⟩:=uh HKC _ _ hat2
   have HR0:Hid (WrAt w0 v0 pb ((L++fbits fs)++wbits z (rs.take 0)) wr):=qz (by simpa [wbits] using hat2)
   have HLL:Hid ((L++fbits fs).length≤800000000005000):=qz (by rw [List.length_append];omega)
   have HASS:Hid (L++(fbits fs++wbits z rs)=(L++fbits fs)++wbits z rs):=qz (by rw [List.append_assoc])
   generalize L++fbits fs=M at HR0 HLL HASS
   clear hat hat2 HKF HFO HFN HFL HFE hfl
   go_wp2_with fail
   go_loopg [30] nr (fun gk iv' ws=>∃ i:Nat,gk=nr - i∧i≤nr∧iv'=.int .i64 (i:Int)∧Hid (WrAt w0 v0 pb (M++wbits z (rs.take i)) ws))
   case atStart=>exact ⟨0,by omega,by omega,rfl,HR0⟩
   case round =>
    clear HR0 c3
    obtain ⟨j,rfl,hjn,rfl,hat⟩:=hrel
    by_cases hlt2:j<nr
    ·have e1:(j:Int)<(nr:Int):=by omega
     obtain ⟨b,off,rfl,q1,q2,q3⟩:=uh HKR _ wr (uh hat) j hlt2
     obtain ⟨o1,o2⟩:=uh HRO j hlt2
     have HN:=qz (uh HWN j hlt2)
     have hl:=uh HWL j (by omega)
     generalize rs.getD j (0,0,0)=r at q1 q2 q3 o1 o2 HN
     obtain ⟨r1,r2,r3⟩:=r
     simp only at q1 q2 q3 o1 o2 HN
     obtain ⟨s,rfl⟩:=Int.eq_ofNat_of_zero_le o1
     simp only [wdB,Int.toNat_natCast] at o2 HN
     obtain ⟨W1,hW1⟩:∃ W1,W1=wr.alloc (.cells #[.int .i64 (s:Int),.int .i64 (r2:Int),.int .i64 (r3:Int)] 141):=⟨_,rfl⟩
     have x1:W1.drew.heap[wr.heap.size]?=some (.cells #[.int .i64 (s:Int),.int .i64 (r2:Int),.int .i64 (r3:Int)] 141 (0,0)):=by rw [hW1];exact heap_alloc_new _ _
     have hbw:Below wr.heap.size wr W1.drew:=by
      have:Below wr.heap.size wr W1:=by rw [hW1];exact (Below.refl _ _).alloc (Nat.le_refl _) _
      exact ⟨this.os,this.tape,this.output,this.size,this.block⟩
     obtain ⟨v,b1,b2⟩:=(uh hat).rebase hbw
     have hat1:=(uh hat).below hbw
     obtain ⟨_,_,hcd,hxh⟩:=uh HKC _ _ hat1
     have hml:=uh HLL
     have HP:Hid (Calls Tryz.prog 84 #[.agg #[.int .i64 (s:Int),.int .i64 (r2:Int),.int .i64 (r3:Int)],.pointer (some ⟨pb,0,none⟩),.pointer (some ⟨ci,0,none⟩)] W1.drew fun e w'=>e=.returned (.tuple #[])∧WrAt w0 v0 pb (M++wbits z (rs.take (j+1))) w'∧w'.heap[wr.heap.size]?=some (.cells #[.int .i64 (s:Int),.int .i64 (r2:Int),.int .i64 (r3:Int)] 141 (0,0))):=qz (by
      refine (wput_ok b1 z ci xl xh s r2 r3 hcd hxh o2 (by rw [List.length_append];omega)).mono ?_
      rintro e w' ⟨rfl,p⟩
      rw [List.append_assoc,← uh HN] at p
      exact ⟨rfl,(b2 _ _ p).1,(b2 _ _ p).2 _ _ (Nat.le_refl _) x1⟩)
     have HC4:Hid (∀ L' y,WrAt w0 v0 pb L' y→y.cell? ⟨ob,4,none⟩=some (.pointer (some ⟨ci,0,none⟩))):=qz (fun L' y hy=>(uh HKC L' y hy).2.1)
     have HW0:=qz (And.intro hat1 x1)
     clear hat hat1 HN o2 hcd hxh b1 b2 hbw x1 hml
     go_wp2_with fail
     rw [← hW1]
     clear hW1
     refine wp_region_noPanic ?_
     refine wp_region_held_drew (S:=fun y=>(∃ L',WrAt w0 v0 pb L' y)∧y.heap[wr.heap.size]?=some (.cells #[.int .i64 (s:Int),.int .i64 (r2:Int),.int .i64 (r3:Int)] 141 (0,0))) (by kernel_rfl) ⟨⟨_,(uh HW0).1⟩,(uh HW0).2⟩ (fun hHeld=>?_)
     refine hT 0 34 rfl rfl hHeld nPp (v:=?_) (fun x hSx=>?_) ?_
     rotate_left 1
     ·have d0:x.cell? ⟨wr.heap.size,0,none⟩=some (.int .i64 (s:Int)):=(by simp only [World.cell?,hSx.2];rfl);have d1:x.cell? ⟨wr.heap.size,1,none⟩=some (.int .i64 (r2:Int)):=(by simp only [World.cell?,hSx.2];rfl);have d2:x.cell? ⟨wr.heap.size,2,none⟩=some (.int .i64 (r3:Int)):=(by simp only [World.cell?,hSx.2];rfl);go_simp <;> with_reducible rfl
     simp only [sA,sB]
     refine hT 1 35 rfl rfl hHeld nPp (v:=?_) (fun x hSx=>?_) ?_
     rotate_left 1
     ·go_simp <;> with_reducible rfl
     simp only [sA,sB]
     refine hT 2 36 rfl rfl hHeld nPp (v:=?_) (fun x hSx=>?_) ?_
     rotate_left 1
     ·go_simp <;> with_reducible rfl
     simp only [sA,sB]
     refine hT 3 37 rfl rfl hHeld nPp (v:=?_) (fun x hSx=>?_) ?_
     rotate_left 1
     ·go_simp <;> with_reducible rfl
     simp only [sA,sB]
     refine hT 4 38 rfl rfl hHeld nPp (v:=?_) (fun x hSx=>?_) ?_
     rotate_left 1
     ·go_simp <;> with_reducible rfl
     simp only [sA,sB]
     refine hT 5 39 rfl rfl hHeld nPp (v:=?_) (fun x hSx=>?_) ?_
     rotate_left 1
     ·obtain ⟨⟨L',hL'⟩,_⟩:=hSx;have d4:=uh HC4 L' x hL';go_simp <;> with_reducible rfl
     simp only [sA,sB]
     refine held_enter 6 40 (by kernel_rfl) rfl rfl (by rfl) (by go_simp <;> exact ⟨rfl,rfl⟩) ?_
     refine (uh HP).mono ?_
     rintro e W2 ⟨rfl,h2,h3⟩
     have H2:=qz h2
     refine ⟨_,rfl,⟨⟨_,h2⟩,h3⟩,?_⟩
     simp only [sA,sB]
     clear h2 h3 HP hHeld HW0
     refine wpAnyH_done (by kernel_rfl) ?_ _
     refine NoPanic.normal ?_
     go_wp2_with fail
     go_roundg (nr - (j+1))
     case measure=>omega
     case rel=>exact ⟨j+1,rfl,by omega,by go_num,H2⟩
    ·obtain rfl:j=nr:=by omega
     have HF:Hid (WrAt w0 v0 pb (L++(fbits fs++wbits z rs)) wr):=qz (by
      have:=uh hat
      rw [uh HWE] at this
      rw [uh HASS]
      exact this)
     clear hat
     go_wp2_with fail
     go_end0
     exact ⟨rfl,uh HF⟩
theorem weighHead_ok (ob:Nat) (fs:List (Nat × Nat)) (rs:List Wd) (z:List Nat) (fa ra:Option Addr) (fc rc ci xl xh:Nat) (w:World) (hh:HeadAt w ob fs rs z fa ra fc rc ci xl xh) (hok:HeadOk fs rs z) :
  Calls Tryz.prog 58 #[.pointer (some ⟨ob,0,none⟩)] w fun e w'=>e=.returned (.int .i64 ((fbits fs++wbits z rs).length:Int))∧Below w.heap.size w w':=by
 have HK:Hid (∀ y,Below w.heap.size w y→HeadAt y ob fs rs z fa ra fc rc ci xl xh):=qz (fun y hy=>by
  have hfl:∀ ad:Addr,∀ n,w.cell? ad=some n→y.cell? ad=some n:=fun ad n h=>cell_stays hy h
  refine ⟨hfl _ _ hh.f,hfl _ _ hh.r,hfl _ _ hh.c,hh.fat.keep fun ad _ _ hl=>hy.block _ hl,hh.rat.keep fun ad _ _ hl=>hy.block _ hl,hh.code.keep fun k _ h2=>hy.block k (Nat.lt_of_lt_of_le h2 hh.hi),Nat.le_trans hh.hi hy.size⟩)
 have HFN:Hid (∀ i,i<fs.length→(fbits (fs.take (i+1))).length=(fbits (fs.take i)).length+(fs.getD i (0,0)).2):=qz (fun i hi=>by rw [fbits_next fs i hi,List.length_append,nb_length])
 have HWN:Hid (∀ i,i<rs.length→(wbits z (rs.take (i+1))).length=(wbits z (rs.take i)).length+(wdB z (rs.getD i (0,0,0))).length):=qz (fun i hi=>by rw [wbits_next z rs i hi,List.length_append])
 have HFL:Hid (∀ i,i≤fs.length→(fbits (fs.take i)).length≤5000):=qz (fun i hi=>by have:=hok.flen i hi;have:=hok.nf;omega)
 have HWL:Hid (∀ i,i≤rs.length→(wbits z (rs.take i)).length≤28000):=qz (fun i hi=>by have:=hok.wlen i hi;have:=hok.nr;omega)
 have HFO:Hid (∀ i,i<fs.length→(fs.getD i (0,0)).2≤5):=qz (fun i hi=>(hok.okf _ (by simp [List.getD_eq_getElem?_getD,hi])).2)
 have HRO:Hid (∀ i,i<rs.length→0≤(rs.getD i (0,0,0)).1∧EvOk z (rs.getD i (0,0,0)).1.toNat (rs.getD i (0,0,0)).2.1 (rs.getD i (0,0,0)).2.2):=qz (fun i hi=>hok.okr _ (by simp [List.getD_eq_getElem?_getD,hi]))
 have HFE:Hid (fs.take fs.length=fs):=qz (List.take_length ..)
 have HWE:Hid (rs.take rs.length=rs):=qz (List.take_length ..)
 have f0:=hh.f
 obtain ⟨nf,hnf⟩:∃ n,n=fs.length:=⟨_,rfl⟩
 obtain ⟨nr,hnr⟩:∃ n,n=rs.length:=⟨_,rfl⟩
 have hnf2:nf≤1000:=by rw [hnf];exact hok.nf
 have hnr2:nr≤1000:=by rw [hnr];exact hok.nr
 have HKF:Hid (∀ y,Below w.heap.size w y→∀ i,i<nf→∃ b off,fa=some ⟨b,off,none⟩∧y.cell? ⟨b,off+i*2,none⟩=some (.int .i64 ((fs.getD i (0,0)).1:Int))∧y.cell? ⟨b,off+i*2+1,none⟩=some (.int .i64 ((fs.getD i (0,0)).2:Int))):=qz (fun y hy i hi=>(uh HK y hy).fat i (by rw [← hnf];exact hi))
 have HKR:Hid (∀ y,Below w.heap.size w y→∀ i,i<nr→∃ b off,ra=some ⟨b,off,none⟩∧y.cell? ⟨b,off+i*3,none⟩=some (.int .i64 (rs.getD i (0,0,0)).1)∧y.cell? ⟨b,off+i*3+1,none⟩=some (.int .i64 ((rs.getD i (0,0,0)).2.1:Int))∧y.cell? ⟨b,off+i*3+2,none⟩=some (.int .i64 ((rs.getD i (0,0,0)).2.2:Int))):=qz (fun y hy i hi=>(uh HK y hy).rat i (by rw [← hnr];exact hi))
 have HKC:Hid (∀ y,Below w.heap.size w y→y.cell? ⟨ob,3,none⟩=some (.slice ra nr rc)∧y.cell? ⟨ob,4,none⟩=some (.pointer (some ⟨ci,0,none⟩))∧Code z y ci xl xh∧xh≤y.heap.size):=qz (fun y hy=>⟨by rw [hnr];exact (uh HK y hy).r,(uh HK y hy).c,(uh HK y hy).code,(uh HK y hy).hi⟩)
 rw [← hnf] at f0 HFN HFL HFO HFE
 rw [← hnr] at HWN HWL HRO HWE
 clear hnf hnr hh hok HK
 have HB0:Hid (Below w.heap.size w w):=qz (Below.refl _ _)
 go_enter Tryz.func58,Tryz.ntmps58
 go_wp2_with fail
 go_loopg [3,13] nf (fun gk sv iv' ws=>∃ i:Nat,gk=nf - i∧i≤nf∧iv'=.int .i64 (i:Int)∧sv=.int .i64 ((fbits (fs.take i)).length:Int)∧Hid (Below w.heap.size w ws))
 case atStart=>exact ⟨0,by omega,by omega,rfl,rfl,HB0⟩
 case round =>
  clear HB0 f0
  obtain ⟨i,rfl,hin,rfl,rfl,hB⟩:=hrel
  by_cases hlt:i<nf
  ·have e1:(i:Int)<(nf:Int):=by omega
   obtain ⟨b,off,rfl,q1,q2⟩:=uh HKF wr (uh hB) i hlt
   have o2:=uh HFO i hlt
   have HN:=qz (uh HFN i hlt)
   have hl:=uh HFL i (by omega)
   generalize fs.getD i (0,0)=r at q1 q2 o2 HN
   obtain ⟨v,sz⟩:=r
   simp only at q1 q2 o2 HN
   generalize (fbits (fs.take i)).length=S at hl HN
   obtain ⟨W1,hW1⟩:∃ W1,W1=wr.alloc (.cells #[.int .i64 (v:Int),.int .i64 (sz:Int)] 147):=⟨_,rfl⟩
   have x1:W1.heap[wr.heap.size]?=some (.cells #[.int .i64 (v:Int),.int .i64 (sz:Int)] 147 (0,0)):=by rw [hW1];exact heap_alloc_new _ _
   have d1:W1.cell? ⟨wr.heap.size,1,none⟩=some (.int .i64 (sz:Int)):=by simp only [World.cell?,x1];rfl
   have HB1:Hid (Below w.heap.size w W1):=qz (by rw [hW1];exact (uh hB).alloc (uh hB).size _)
   rw [hW1] at d1
   clear hB x1
   go_wp2_with fail
   rw [← hW1]
   go_roundg (nf - (i+1))
   case measure=>omega
   case rel=>exact ⟨i+1,rfl,by omega,by go_num,by rw [uh HN];go_num,HB1⟩
  ·obtain rfl:i=nf:=by omega
   obtain ⟨c3,_⟩:=uh HKC _ (uh hB)
   have hfl:=uh HFL i (Nat.le_refl _)
   rw [uh HFE] at hfl ⊢
   have HASS:Hid ((fbits fs++wbits z rs).length=(fbits fs).length+(wbits z rs).length):=qz (List.length_append ..)
   have HR0:Hid ((fbits fs).length=(fbits fs).length+(wbits z (rs.take 0)).length):=qz (by simp [wbits])
   generalize (fbits fs).length=M at hfl HASS HR0 ⊢
   clear HKF HFO HFN HFL HFE
   go_wp2_with fail
   go_loopg [3,27] nr (fun gk sv iv' ws=>∃ i:Nat,gk=nr - i∧i≤nr∧iv'=.int .i64 (i:Int)∧sv=.int .i64 ((M+(wbits z (rs.take i)).length:Nat):Int)∧Hid (Below w.heap.size w ws))
   case atStart=>exact ⟨0,by omega,by omega,rfl,by rw [← uh HR0],hB⟩
   case round =>
    clear hB c3
    obtain ⟨j,rfl,hjn,rfl,rfl,hB⟩:=hrel
    by_cases hlt2:j<nr
    ·have e1:(j:Int)<(nr:Int):=by omega
     obtain ⟨b,off,rfl,q1,q2,q3⟩:=uh HKR wr (uh hB) j hlt2
     obtain ⟨o1,o2⟩:=uh HRO j hlt2
     have HN:=qz (uh HWN j hlt2)
     have hl:=uh HWL j (by omega)
     have hl1:=uh HWL (j+1) (by omega)
     rw [uh HN] at hl1
     generalize rs.getD j (0,0,0)=r at q1 q2 q3 o1 o2 HN hl1
     obtain ⟨r1,r2,r3⟩:=r
     simp only at q1 q2 q3 o1 o2 HN hl1
     obtain ⟨s,rfl⟩:=Int.eq_ofNat_of_zero_le o1
     simp only [wdB,Int.toNat_natCast] at o2 HN hl1
     obtain ⟨W1,hW1⟩:∃ W1,W1=wr.alloc (.cells #[.int .i64 (s:Int),.int .i64 (r2:Int),.int .i64 (r3:Int)] 141):=⟨_,rfl⟩
     have x1:W1.heap[wr.heap.size]?=some (.cells #[.int .i64 (s:Int),.int .i64 (r2:Int),.int .i64 (r3:Int)] 141 (0,0)):=by rw [hW1];exact heap_alloc_new _ _
     have hb1:Below w.heap.size w W1:=by rw [hW1];exact (uh hB).alloc (uh hB).size _
     have HSS:Hid (∀ y,Below W1.heap.size W1 y→y.cell? ⟨wr.heap.size,0,none⟩=some (.int .i64 (s:Int))∧y.cell? ⟨wr.heap.size,1,none⟩=some (.int .i64 (r2:Int))∧y.cell? ⟨wr.heap.size,2,none⟩=some (.int .i64 (r3:Int))∧y.cell? ⟨ob,4,none⟩=some (.pointer (some ⟨ci,0,none⟩))):=qz (fun y hy=>by
      have a3:=(hy.block _ (heap_lt x1)).trans x1
      refine ⟨?_,?_,?_,(uh HKC y (hb1.trans (hy.mono hb1.size))).2.1⟩
      ·simp only [World.cell?,a3];rfl
      ·simp only [World.cell?,a3];rfl
      ·simp only [World.cell?,a3];rfl)
     have HP:Hid (∀ y,Below W1.heap.size W1 y→Calls Tryz.prog 81 #[.agg #[.int .i64 (s:Int),.int .i64 (r2:Int),.int .i64 (r3:Int)],.pointer (some ⟨ci,0,none⟩)] y fun e w'=>e=.returned (.int .i64 ((wb z s++nb r2 r3).length:Int))∧Below y.heap.size y w'):=qz (fun y hy=>by
      obtain ⟨_,_,k1,k2⟩:=uh HKC y (hb1.trans (hy.mono hb1.size))
      exact wweigh_ok z ci xl xh s r2 r3 y k1 k2 o2)
     have HB1:=qz hb1
     generalize (wb z s++nb r2 r3).length=n at HP hl1 HN
     generalize (wbits z (rs.take j)).length=S at hl hl1 HN
     clear hB o2 x1 hb1
     go_wp2_with fail
     rw [← hW1]
     clear hW1
     refine wp_region_noPanic ?_
     refine wp_region_held_drew (S:=fun y=>Below W1.heap.size W1 y) (by kernel_rfl) ⟨rfl,rfl,rfl,Nat.le_refl _,fun _ _=>rfl⟩ (fun hHeld=>?_)
     refine hT 0 31 rfl rfl hHeld nPp (v:=?_) (fun x hSx=>?_) ?_
     rotate_left 1
     ·go_simp <;> with_reducible rfl
     simp only [sA,sB]
     refine hT 1 32 rfl rfl hHeld nPp (v:=?_) (fun x hSx=>?_) ?_
     rotate_left 1
     ·obtain ⟨d0,d1,d2,d4⟩:=uh HSS x hSx;go_simp <;> with_reducible rfl
     simp only [sA,sB]
     refine hT 2 33 rfl rfl hHeld nPp (v:=?_) (fun x hSx=>?_) ?_
     rotate_left 1
     ·go_simp <;> with_reducible rfl
     simp only [sA,sB]
     refine hT 3 34 rfl rfl hHeld nPp (v:=?_) (fun x hSx=>?_) ?_
     rotate_left 1
     ·go_simp <;> with_reducible rfl
     simp only [sA,sB]
     refine hT 4 35 rfl rfl hHeld nPp (v:=?_) (fun x hSx=>?_) ?_
     rotate_left 1
     ·go_simp <;> with_reducible rfl
     simp only [sA,sB]
     refine hT 5 36 rfl rfl hHeld nPp (v:=?_) (fun x hSx=>?_) ?_
     rotate_left 1
     ·obtain ⟨d0,d1,d2,d4⟩:=uh HSS x hSx;go_simp <;> with_reducible rfl
     simp only [sA,sB]
     refine held_enter 6 37 (by kernel_rfl) rfl rfl (by rfl) (by go_simp <;> exact ⟨rfl,rfl⟩) ?_
     refine (uh HP _ hHeld).mono ?_
     rintro e W2 ⟨rfl,h2⟩
     have HB2:Hid (Below W1.heap.size W1 W2):=qz (hHeld.trans (h2.mono hHeld.size))
     refine ⟨_,rfl,uh HB2,?_⟩
     simp only [sA,sB]
     clear h2 HP hHeld
     refine held_one 7 38 (by kernel_rfl) rfl rfl (by rfl) (v:=.int .i64 (((M+S:Nat):Int)+(n:Int))) (w':=W2) ?_ (uh HB2) ?_
     ·first | (go_simp;done) | (go_simp <;> first | exact ⟨rfl,rfl⟩ | rfl | exact IntWalk.i64_in _ (by omega))
     simp only [sA,sB]
     refine held_one 8 3 (by kernel_rfl) rfl rfl (by rfl) (v:=.int .i64 (((M+S:Nat):Int)+(n:Int))) (w':=W2) ?_ (uh HB2) ?_
     ·first | (go_simp;done) | (go_simp <;> first | exact ⟨rfl,rfl⟩ | rfl)
     simp only [sA,sB]
     refine wpAnyH_done (by kernel_rfl) ?_ _
     refine NoPanic.normal ?_
     have HB3:Hid (Below w.heap.size w W2):=qz ((uh HB1).trans ((uh HB2).mono (uh HB1).size))
     clear HB2
     go_wp2_with fail
     go_roundg (nr - (j+1))
     case measure=>omega
     case rel=>exact ⟨j+1,rfl,by omega,by go_num,by rw [uh HN,show ((M+(S+n):Nat):Int)=((M+S:Nat):Int)+(n:Int) by omega],HB3⟩
    ·obtain rfl:j=nr:=by omega
     rw [uh HWE]
     have HF:=qz (uh HASS)
     go_wp2_with fail
     go_ret
     rw [uh HF]
     exact ⟨rfl,uh hB⟩
end W4
namespace W4
open Go.RowKit Mth Infl Defl
theorem bl_row {f:Nat→Nat} {M n:Nat} {l:List Nat} (h:L5.IsOrder (osOf f n) l) {w:World} {g:Nat} (hi:L5.IntsAt w .i64 3 g n (L5.ans (osOf f n) l M)):(bl f M n).length=n∧IntsAt w .i64 3 g n fun j=>(bl f M n).getD j 0:=by
 rw [bl_is h]
 refine ⟨by simp,?_⟩
 exact IntsAt.congr (show IntsAt w .i64 3 g n (L5.ans (osOf f n) l M) from hi) fun i hi=>by simp [hi]
theorem best2_ok (f:Nat→Nat) (M n:Nat) (v:Value) (w:World) (hr:ReadsI w v (osOf f n)) (hM1:1≤M) (hM2:M≤20) (hn:n≤286) (hpow:n≤2 ^ M) (htot:L5.tot (osOf f n) n≤1099511627776) :
  Calls Tryz.prog 114 #[v,.int .i64 (M:Int)] w fun e w'=>∃ g,e=.returned (.slice (some ⟨g,0,none⟩) n n)∧w.heap.size≤g∧(bl f M n).length=n∧(IntsAt w' .i64 3 g n fun j=>(bl f M n).getD j 0)∧Below w.heap.size w w':=by
 refine (best_ok f M n v w hr hM1 hM2 hn hpow htot).mono ?_
 rintro e w' ⟨l,g,rfl,h1,h2,h3,h4⟩
 obtain ⟨k1,k2⟩:=bl_row h1 h3
 exact ⟨g,rfl,h2,k1,k2,h4⟩
theorem inner2_ok (rs:List Wd) (a:Option Addr) (cap:Nat) (w:World) (hr:WordsAt w a rs) (hs:∀ r∈rs,0≤r.1∧r.1<19) (hlen:rs.length≤1000) (htot:L5.tot (osOf (cw rs) 19) 19≤1099511627776) :
  Calls Tryz.prog 117 #[.slice a rs.length cap] w fun e w'=>∃ g,e=.returned (.slice (some ⟨g,0,none⟩) 19 19)∧w.heap.size≤g∧(bl (cw rs) 7 19).length=19∧(IntsAt w' .i64 3 g 19 fun j=>(bl (cw rs) 7 19).getD j 0)∧Below w.heap.size w w':=by
 refine (inner_ok rs a cap w hr hs hlen htot).mono ?_
 rintro e w' ⟨l,g,rfl,h1,h2,h3,h4⟩
 obtain ⟨k1,k2⟩:=bl_row h1 h3
 exact ⟨g,rfl,h2,k1,k2,h4⟩
theorem ints_cells {w:World} {g n:Nat} {xs:List Nat} (h:IntsAt w .i64 3 g n fun j=>xs.getD j 0) (j:Nat) (hj:j<n):w.cell? ⟨g,0+j,none⟩=some (.int .i64 (xs.getD j 0:Int)):=by
 rw [Nat.zero_add]
 exact h.cell j hj
theorem row_of {w:World} {g n:Nat} {xs:List Nat} (h:IntsAt w .i64 3 g n fun j=>xs.getD j 0) (ys:List Nat) (hl:ys.length≤n) (he:∀ i,ys.getD i 0=xs.getD i 0):RowI w g 0 (ys.map fun z:Nat=>(z:Int))∧ReadsN w (.slice (some ⟨g,0,none⟩) ys.length n) ys:=by
 constructor
 ·intro j u hj
  rw [List.map_map,List.getElem?_map] at hj
  rcases hq:ys[j]? with _ | y
  ·rw [hq] at hj;simp at hj
  ·rw [hq] at hj
   simp at hj
   subst hj
   have hlt:j<ys.length:=by
    rcases Nat.lt_or_ge j ys.length with h | h
    ·exact h
    ·rw [List.getElem?_eq_none h] at hq;cases hq
   have ea:(⟨g,0,none⟩:Addr).add j=⟨g,0+j,none⟩:=by by_cases hq:j=0 <;> simp [Addr.add,hq]
   rw [ea,ints_cells h j (by omega),← he j]
   simp [List.getD_eq_getElem?_getD,hq,iv]
 ·refine ⟨_,n,by simp,fun _=>⟨g,0,rfl,fun j hj=>?_⟩⟩
  simp at hj
  rw [ints_cells h j (by omega),← he j]
  simp [List.getD_eq_getElem?_getD,hj]
theorem reads_of {w:World} {g n:Nat} {f:Nat→Nat} (h:IntsAt w .i64 3 g n f):ReadsI w (.slice (some ⟨g,0,none⟩) n n) (osOf f n):=by
 refine ⟨_,n,by rw [osOf_length],fun _=>⟨g,0,rfl,fun j hj=>?_⟩⟩
 rw [osOf_length] at hj
 rw [osOf_get _ _ _ hj,Nat.zero_add]
 exact h.cell j hj
theorem own_reads {w:World} {base:Nat} {v:Value} {xs:List Int} (h:w.ownsRow base 3 1 v xs.length (xs.map iv)):∃ a cap,v=.slice a xs.length cap∧xs.length≤cap∧ReadsI w v xs:=by
 rcases h.2 with ⟨rfl,e⟩ | ⟨g,cap,cur,rfl,h1,h2,h3,h4,h5,h6⟩
 ·exact ⟨none,0,by rw [e],by omega,none,0,by rw [e],fun h0=>by omega⟩
 ·refine ⟨_,cap,rfl,h3,_,cap,rfl,fun _=>⟨g,0,rfl,fun j hj=>?_⟩⟩
  have:=h.cells (g:=g) rfl j (iv (xs.getD j 0)) (by
   rw [List.getElem?_map,List.getElem?_eq_getElem hj]
   simp [List.getD_eq_getElem?_getD,hj])
  have ea:(⟨g,0,none⟩:Addr).add j=⟨g,0+j,none⟩:=by by_cases hq:j=0 <;> simp [Addr.add,hq]
  rw [ea] at this
  exact this
theorem wcs_get:∀ (rs:List Wd) (i:Nat),i<rs.length→(wcs rs)[i*3]?=some (.int .i64 (rs.getD i (0,0,0)).1)∧(wcs rs)[i*3+1]?=some (.int .i64 ((rs.getD i (0,0,0)).2.1:Int))∧(wcs rs)[i*3+2]?=some (.int .i64 ((rs.getD i (0,0,0)).2.2:Int))
 | [],i,h=>by simp at h
 | r :: rs,0,h=>by simp [wcs]
 | r :: rs,i+1,h=>by
  have:=wcs_get rs i (by simpa using h)
  simp only [wcs,show (i+1)*3=i*3+1+1+1 by omega,show i*3+1+1+1+1=(i*3+1)+1+1+1 by omega,show i*3+1+1+1+2=(i*3+2)+1+1+1 by omega,List.getElem?_cons_succ,List.getD_cons_succ]
  exact this
theorem fcs_get:∀ (rs:List (Nat × Nat)) (i:Nat),i<rs.length→(fcs rs)[i*2]?=some (.int .i64 ((rs.getD i (0,0)).1:Int))∧(fcs rs)[i*2+1]?=some (.int .i64 ((rs.getD i (0,0)).2:Int))
 | [],i,h=>by simp at h
 | r :: rs,0,h=>by simp [fcs]
 | r :: rs,i+1,h=>by
  have:=fcs_get rs i (by simpa using h)
  simp only [fcs,show (i+1)*2=i*2+1+1 by omega,List.getElem?_cons_succ,List.getD_cons_succ]
  exact this
theorem own_words {w:World} {base:Nat} {v:Value} {rs:List Wd} (h:w.ownsRow base 141 3 v rs.length (wcs rs)):∃ a cap,v=.slice a rs.length cap∧WordsAt w a rs∧∀ ad,a=some ad→base≤ad.block∧ad.block<w.heap.size:=by
 rcases h.2 with ⟨rfl,e⟩ | ⟨g,cap,cur,rfl,h1,h2,h3,h4,h5,h6⟩
 ·exact ⟨none,0,by rw [e],fun i hi=>by omega,fun ad e=>by cases e⟩
 ·refine ⟨_,cap,rfl,fun i hi=>?_,fun ad e=>by cases e;exact ⟨h1,heap_lt h2⟩⟩
  obtain ⟨q1,q2,q3⟩:=wcs_get rs i hi
  have ea:∀ j,(⟨g,0,none⟩:Addr).add j=⟨g,0+j,none⟩:=fun j=>by by_cases hq:j=0 <;> simp [Addr.add,hq]
  have k1:=h.cells (g:=g) rfl _ _ q1
  have k2:=h.cells (g:=g) rfl _ _ q2
  have k3:=h.cells (g:=g) rfl _ _ q3
  rw [ea] at k1 k2 k3
  exact ⟨g,0,rfl,k1,by rw [Nat.add_assoc];exact k2,by rw [Nat.add_assoc];exact k3⟩
theorem own_fields {w:World} {base:Nat} {v:Value} {rs:List (Nat × Nat)} (h:w.ownsRow base 147 2 v rs.length (fcs rs)):∃ a cap,v=.slice a rs.length cap∧FieldsAt w a rs∧∀ ad,a=some ad→base≤ad.block∧ad.block<w.heap.size:=by
 rcases h.2 with ⟨rfl,e⟩ | ⟨g,cap,cur,rfl,h1,h2,h3,h4,h5,h6⟩
 ·exact ⟨none,0,by rw [e],fun i hi=>by omega,fun ad e=>by cases e⟩
 ·refine ⟨_,cap,rfl,fun i hi=>?_,fun ad e=>by cases e;exact ⟨h1,heap_lt h2⟩⟩
  obtain ⟨q1,q2⟩:=fcs_get rs i hi
  have ea:∀ j,(⟨g,0,none⟩:Addr).add j=⟨g,0+j,none⟩:=fun j=>by by_cases hq:j=0 <;> simp [Addr.add,hq]
  have k1:=h.cells (g:=g) rfl _ _ q1
  have k2:=h.cells (g:=g) rfl _ _ q2
  rw [ea] at k1 k2
  exact ⟨g,0,rfl,k1,by rw [Nat.add_assoc];exact k2⟩
end W4
namespace W4
open Go.RowKit Mth Infl Defl
attribute [local go_sem ↓] wp_at_zero wp_at_succ
structure Rows2 (w ws:World) (v3 v4:Value) (bn bd gn gd:Nat):Prop where
 e3:v3=.pointer (some ⟨bn,0,none⟩)
 e4:v4=.pointer (some ⟨bd,0,none⟩)
 rn:ws.heap[bn]?=some (.cells #[.slice (some ⟨gn,0,none⟩) 286 286] 45 (0,0))
 rd:ws.heap[bd]?=some (.cells #[.slice (some ⟨gd,0,none⟩) 30 30] 45 (0,0))
 an:IntsAt ws .i64 3 gn 286 fun _=>0
 ad:IntsAt ws .i64 3 gd 30 fun _=>0
 ge:w.heap.size≤gn∧w.heap.size≤gd∧w.heap.size≤bn∧w.heap.size≤bd
 bel:Below w.heap.size w ws
structure PS (w x:World) (N D B C:Option Nat) (st:Bool):Prop where
 n:∀ g,N=some g→w.heap.size≤g∧IntsAt x .i64 3 g 286 fun _=>0
 d:∀ g,D=some g→w.heap.size≤g∧IntsAt x .i64 3 g 30 fun _=>0
 b:∀ k,B=some k→w.heap.size≤k∧∃ u,x.heap[k]?=some (.cells #[u] 45 (0,0))∧(st=true→∀ g,N=some g→u=.slice (some ⟨g,0,none⟩) 286 286)
 c:∀ k,C=some k→w.heap.size≤k∧∃ u,x.heap[k]?=some (.cells #[u] 45 (0,0))
 bc:∀ k j,B=some k→C=some j→k≠j
 bel:Below w.heap.size w x
theorem PS.alloc {w x:World} {N D B C:Option Nat} {st:Bool} (h:PS w x N D B C st) (o:Obj):PS w (x.alloc o) N D B C st where
 n:=fun g e=>⟨(h.n g e).1,(h.n g e).2.alloc o⟩
 d:=fun g e=>⟨(h.d g e).1,(h.d g e).2.alloc o⟩
 b:=fun k e=>by
  obtain ⟨h1,u,h2,h3⟩:=h.b k e
  exact ⟨h1,u,by rw [Below.heap_alloc _ _ _ (heap_lt h2)];exact h2,h3⟩
 c:=fun k e=>by
  obtain ⟨h1,u,h2⟩:=h.c k e
  exact ⟨h1,u,by rw [Below.heap_alloc _ _ _ (heap_lt h2)];exact h2⟩
 bc:=h.bc
 bel:=h.bel.alloc h.bel.size o
theorem PS.one {w x:World} {D B C:Option Nat} (h:PS w x none D B C false):PS w (x.alloc (.cells (icells .i64 286 fun _=>0) 3)) (some x.heap.size) D B C false where
 n:=fun g e=>by obtain rfl:=Option.some.inj e;exact ⟨h.bel.size,heap_alloc_new _ _⟩
 d:=(h.alloc _).d
 b:=fun k e=>by
  obtain ⟨h1,u,h2,_⟩:=(h.alloc (.cells (icells .i64 286 fun _=>0) 3)).b k e
  exact ⟨h1,u,h2,fun e=>by cases e⟩
 c:=(h.alloc _).c
 bc:=h.bc
 bel:=(h.alloc _).bel
theorem PS.two {w x:World} {N B C:Option Nat} {st:Bool} (h:PS w x N none B C st):PS w (x.alloc (.cells (icells .i64 30 fun _=>0) 3)) N (some x.heap.size) B C st where
 n:=(h.alloc _).n
 d:=fun g e=>by obtain rfl:=Option.some.inj e;exact ⟨h.bel.size,heap_alloc_new _ _⟩
 b:=(h.alloc _).b
 c:=(h.alloc _).c
 bc:=h.bc
 bel:=(h.alloc _).bel
theorem PS.three {w x:World} {N D C:Option Nat} (h:PS w x N D none C false):PS w (x.alloc (.cells #[.slice none 0 0] 45)) N D (some x.heap.size) C false where
 n:=(h.alloc _).n
 d:=(h.alloc _).d
 b:=fun k e=>by obtain rfl:=Option.some.inj e;exact ⟨h.bel.size,_,heap_alloc_new _ _,fun e=>by cases e⟩
 c:=(h.alloc _).c
 bc:=fun k j e e'=>by
  obtain rfl:=Option.some.inj e
  obtain ⟨_,u,h2⟩:=h.c j e'
  have:=heap_lt h2
  omega
 bel:=(h.alloc _).bel
theorem PS.four {w x:World} {N D B:Option Nat} {st:Bool} (h:PS w x N D B none st):PS w (x.alloc (.cells #[.slice none 0 0] 45)) N D B (some x.heap.size) st where
 n:=(h.alloc _).n
 d:=(h.alloc _).d
 b:=(h.alloc _).b
 c:=fun k e=>by obtain rfl:=Option.some.inj e;exact ⟨h.bel.size,_,heap_alloc_new _ _⟩
 bc:=fun k j e e'=>by
  obtain rfl:=Option.some.inj e'
  obtain ⟨_,u,h2,_⟩:=h.b k e
  have:=heap_lt h2
  omega
 bel:=(h.alloc _).bel
theorem ints_ne {x:World} {g k n:Nat} {f:Nat→Nat} {u:Value} (h:IntsAt x .i64 3 g n f) (h2:x.heap[k]?=some (.cells #[u] 45 (0,0))):g≠k:=by
 rintro rfl
 unfold IntsAt at h
 rw [h] at h2
 simp at h2
theorem PS.store {w x:World} {g k:Nat} {D C:Option Nat} (h:PS w x (some g) D (some k) C false):PS w (x.setCell ⟨k,0,none⟩ (.slice (some ⟨g,0,none⟩) 286 286)) (some g) D (some k) C true:=by
 obtain ⟨h1,u,h2,_⟩:=h.b k rfl
 obtain ⟨q1,q2⟩:=Chb.set (v:=.slice (some ⟨g,0,none⟩) 286 286) h2
 refine ⟨fun g' e=>?_,fun g' e=>?_,fun j e=>?_,fun j e=>?_,h.bc,h.bel.setCell h1 _⟩
 ·obtain ⟨a1,a2⟩:=h.n g' e
  exact ⟨a1,a2.other _ _ (ints_ne a2 h2)⟩
 ·obtain ⟨a1,a2⟩:=h.d g' e
  exact ⟨a1,a2.other _ _ (ints_ne a2 h2)⟩
 ·obtain rfl:=Option.some.inj e
  exact ⟨h1,_,q1,fun _ g' e'=>by rw [Option.some.inj e']⟩
 ·obtain ⟨a1,u',a2⟩:=h.c j e
  have:=h.bc k j rfl e
  exact ⟨a1,u',by rw [q2.keep j (heap_lt a2) (Ne.symm this)];exact a2⟩
theorem PS.done {w x:World} {g d k j:Nat} (h:PS w x (some g) (some d) (some k) (some j) true):Rows2 w (x.setCell ⟨j,0,none⟩ (.slice (some ⟨d,0,none⟩) 30 30)) (.pointer (some ⟨k,0,none⟩)) (.pointer (some ⟨j,0,none⟩)) k j g d:=by
 obtain ⟨h1,u,h2,h3⟩:=h.b k rfl
 obtain ⟨c1,u',c2⟩:=h.c j rfl
 obtain ⟨n1,n2⟩:=h.n g rfl
 obtain ⟨d1,d2⟩:=h.d d rfl
 obtain ⟨q1,q2⟩:=Chb.set (v:=.slice (some ⟨d,0,none⟩) 30 30) c2
 have hkj:=h.bc k j rfl rfl
 rw [h3 rfl g rfl] at h2
 exact ⟨rfl,rfl,by rw [q2.keep k (heap_lt h2) hkj];exact h2,q1,n2.other _ _ (ints_ne n2 c2),d2.other _ _ (ints_ne d2 c2),⟨n1,d1,h1,c1⟩,h.bel.setCell c1 _⟩
section
variable {P:Program} {md:Region.Mode} {ops:Array Oper} {Q:Exit→Act→World→Prop} {S:World→Prop}
theorem held_go_skip {o:Oper} {fuel:Nat} {listed:Array Bool} {a:Act} {w w':World} {K:Act→World→Prop} (i:Nat)
  (hK:Shut (∀ a w,S w→(S w→wpAnyH P md ops Q S fuel (listed.setIfInBounds i true) a w)→K a w)) (hd:o.dst=none)
  (hw:Region.wanted o (yielded ops a.tmps)=true) (hrun:(execOp (Act.eval a) o).run P w=.ok .skip w') (hS:S w')
  (h:wpAnyH P md ops Q S fuel (listed.setIfInBounds i true) a w') :
  if Region.wanted o (yielded ops a.tmps)=true then Oper.wp P o a w K Q else K (a.put o.dst undef) w:=by
 rw [if_pos hw]
 unfold Oper.wp
 rw [hrun,Oper.upon_skip]
 have e:Act.put a o.dst undef=a:=by rw [hd];rfl
 rw [e]
 exact hK.out _ _ hS (fun _=>h)
theorem held_four {fuel:Nat} {listed:Array Bool} {a:Act} {w:World} {i j k l:Nat} {o1 o2 o3 o4:Oper} (hr:Region.ready md ops listed=[i,j,k,l]) (h1:ops[i]?=some o1) (h2:ops[j]?=some o2) (h3:ops[k]?=some o3) (h4:ops[l]?=some o4)
  (k1:∀ K:Act→World→Prop,Shut (∀ a w,S w→(S w→wpAnyH P md ops Q S fuel (listed.setIfInBounds i true) a w)→K a w)→if Region.wanted o1 (yielded ops a.tmps)=true then Oper.wp P o1 a w K Q else K (a.put o1.dst undef) w)
  (k2:∀ K:Act→World→Prop,Shut (∀ a w,S w→(S w→wpAnyH P md ops Q S fuel (listed.setIfInBounds j true) a w)→K a w)→if Region.wanted o2 (yielded ops a.tmps)=true then Oper.wp P o2 a w K Q else K (a.put o2.dst undef) w)
  (k3:∀ K:Act→World→Prop,Shut (∀ a w,S w→(S w→wpAnyH P md ops Q S fuel (listed.setIfInBounds k true) a w)→K a w)→if Region.wanted o3 (yielded ops a.tmps)=true then Oper.wp P o3 a w K Q else K (a.put o3.dst undef) w)
  (k4:∀ K:Act→World→Prop,Shut (∀ a w,S w→(S w→wpAnyH P md ops Q S fuel (listed.setIfInBounds l true) a w)→K a w)→if Region.wanted o4 (yielded ops a.tmps)=true then Oper.wp P o4 a w K Q else K (a.put o4.dst undef) w) :
  wpAnyH P md ops Q S (fuel+1) listed a w:=wpAnyH_ready hr (by simp) (AllReadyH.cons h1 k1 (AllReadyH.cons h2 k2 (AllReadyH.cons h3 k3 (AllReadyH.cons h4 k4 AllReadyH.nil))))
end
noncomputable def oX (ts:List T):List Nat:=trim 257 286 (bl (symCount ts) 15 286)
noncomputable def oY (ts:List T):List Nat:=trim 1 30 (bl (distCount ts) 15 30)
noncomputable def oR (ts:List T):List Wd:=wordsL ((oX ts++oY ts).map fun z:Nat=>(z:Int))
noncomputable def oZ (ts:List T):List Nat:=bl (cw (oR ts)) 7 19
noncomputable def oF (ts:List T):List (Nat × Nat):=fieldsOf (oX ts).length (oY ts).length (trim 4 19 (order.map fun j=>(oZ ts).getD j 0))
structure OwnOk (ts:List T):Prop where
 t1:L5.tot (osOf (symCount ts) 286) 286≤1099511627776
 t2:L5.tot (osOf (distCount ts) 30) 30≤1099511627776
 t3:L5.tot (osOf (cw (oR ts)) 19) 19≤1099511627776
 x15:∀ l∈oX ts,l≤15
 y15:∀ l∈oY ts,l≤15
 xo:okSum (oX ts) true
 yo:okSum (oY ts) true
 z7:∀ l∈oZ ts,l≤7
 zo:ce (oZ ts) 7 false=0
 ro:∀ r∈oR ts,0≤r.1∧r.1<19
 rl:(oR ts).length≤1000
structure OwnAt (w0 w:World) (ob:Nat) (ts:List T) (c1 c2:Nat):Prop where
 ge:w0.heap.size≤ob
 p1:w.cell? ⟨ob,0,none⟩=some (.pointer (some ⟨c1,0,none⟩))
 p2:w.cell? ⟨ob,1,none⟩=some (.pointer (some ⟨c2,0,none⟩))
 two:TwoCodes (oX ts) (oY ts) w c1 c2 w0.heap.size w.heap.size
 head:∃ fa ra fc rc ci xl xh,HeadAt w ob (oF ts) (oR ts) (oZ ts) fa ra fc rc ci xl xh∧w0.heap.size≤xl∧(∀ ad,fa=some ad→w0.heap.size≤ad.block∧ad.block<w.heap.size)∧(∀ ad,ra=some ad→w0.heap.size≤ad.block∧ad.block<w.heap.size)
theorem newOwn_ok (ts:List T) (a:Option Addr) (cap:Nat) (w:World) (hta:TokAt8 w a ts) (hto:TokOk ts) (hfew:ts.length≤1000000000) (hok:OwnOk ts) :
  Calls Tryz.prog 86 #[.slice a ts.length cap] w fun e w'=>∃ ob c1 c2,e=.returned (.pointer (some ⟨ob,0,none⟩))∧OwnAt w w' ob ts c1 c2∧Below w.heap.size w w':=by
 have hm:∀ w,(Instr.makeSlice 45 (.int .i64 286) (.int .i64 286)).run Tryz.prog w=.ok (.slice (some ⟨w.heap.size,0,none⟩) 286 286) (w.alloc (.cells (icells .i64 286 (fun _=>0)) 3)):=fun w=>ints_made w 286 (by decide)
 have hm2:∀ w,(Instr.makeSlice 45 (.int .i64 30) (.int .i64 30)).run Tryz.prog w=.ok (.slice (some ⟨w.heap.size,0,none⟩) 30 30) (w.alloc (.cells (icells .i64 30 (fun _=>0)) 3)):=fun w=>ints_made w 30 (by decide)
 have HP0:Hid (PS w w.drew none none none none false):=qz { n:=(fun _ e=>by cases e),d:=(fun _ e=>by cases e),b:=(fun _ e=>by cases e),c:=(fun _ e=>by cases e),bc:=(fun _ _ e=>by cases e),bel:=⟨rfl,rfl,rfl,Nat.le_refl _,fun _ _=>rfl⟩ }
 have HTA:=qz hta
 have HTO:=qz (And.intro hto hfew)
 have HOK:=qz hok
 obtain ⟨n,hn⟩:∃ n,n=ts.length:=⟨_,rfl⟩
 have HN:=qz hn
 rw [← hn]
 clear hta hto hfew hok hn
 go_enter Tryz.func86,Tryz.ntmps86
 go_upto_region 1 with fail
 go_cut [3,4] (fun v3 v4 wc=>∃ bn bd gn gd,Rows2 w wc v3 v4 bn bd gn gd)
 case first =>
  clear HTA HTO HOK HN
  refine wp_region_noPanic ?_
  refine wp_region_held_drew (S:=fun y=>True) (by kernel_rfl) True.intro (fun hHeld=>?_)
  clear hHeld
  generalize w.drew=y0 at HP0 ⊢
  refine held_four (i:=0) (j:=1) (k:=2) (l:=3) (by kernel_rfl) rfl rfl rfl rfl (fun K hK=>?_) (fun K hK=>?_) (fun K hK=>?_) (fun K hK=>?_)
  ·refine held_go 0 10 hK rfl (by rfl) (v:=.slice (some ⟨y0.heap.size,0,none⟩) 286 286) (w':=y0.alloc (.cells (icells .i64 286 fun _=>0) 3)) ?_ True.intro ?_
   ·first | (go_simp;done) | (go_simp <;> first | exact ⟨rfl,rfl⟩ | rfl)
   simp only [sA,sB]
   have HP1:=qz (uh HP0).one
   generalize y0.alloc (.cells (icells .i64 286 fun _=>0) 3)=y1 at HP1 ⊢
   generalize y0.heap.size=a0 at HP1 ⊢
   clear HP0 hK
   refine held_three (i:=1) (j:=2) (k:=3) (by kernel_rfl) rfl rfl rfl (fun K hK=>?_) (fun K hK=>?_) (fun K hK=>?_)
   ·refine held_go 1 11 hK rfl (by rfl) (v:=.slice (some ⟨y1.heap.size,0,none⟩) 30 30) (w':=y1.alloc (.cells (icells .i64 30 fun _=>0) 3)) ?_ True.intro ?_
    ·first | (go_simp;done) | (go_simp <;> first | exact ⟨rfl,rfl⟩ | rfl)
    simp only [sA,sB]
    have HP2:=qz (uh HP1).two
    generalize y1.alloc (.cells (icells .i64 30 fun _=>0) 3)=y2 at HP2 ⊢
    generalize y1.heap.size=a1 at HP2 ⊢
    clear HP1 hK
    refine held_two (i:=2) (j:=3) (by kernel_rfl) rfl rfl (fun K hK=>?_) (fun K hK=>?_)
    ·refine held_go 2 3 hK rfl (by rfl) (v:=.pointer (some ⟨y2.heap.size,0,none⟩)) (w':=y2.alloc (.cells #[.slice none 0 0] 45)) ?_ True.intro ?_
     ·first | (go_simp;done) | (go_simp <;> first | exact ⟨rfl,rfl⟩ | rfl)
     simp only [sA,sB]
     have HP3:=qz (uh HP2).three
     generalize y2.alloc (.cells #[.slice none 0 0] 45)=y3 at HP3 ⊢
     generalize y2.heap.size=a2 at HP3 ⊢
     clear HP2 hK
     refine held_one 3 4 (by kernel_rfl) rfl rfl (by rfl) (v:=.pointer (some ⟨y3.heap.size,0,none⟩)) (w':=y3.alloc (.cells #[.slice none 0 0] 45)) ?_ True.intro ?_
     ·first | (go_simp;done) | (go_simp <;> first | exact ⟨rfl,rfl⟩ | rfl)
     simp only [sA,sB]
     have HP4:=qz (uh HP3).four
     generalize y3.alloc (.cells #[.slice none 0 0] 45)=y4 at HP4 ⊢
     generalize y3.heap.size=a3 at HP4 ⊢
     clear HP3
     have fz4:y4.frozen? ⟨a2,0,none⟩=false:=by obtain ⟨_,u,h2,_⟩:=(uh HP4).b _ rfl;simp [World.frozen?,h2]
     have fc4:∃ u,y4.cell? ⟨a2,0,none⟩=some u:=by obtain ⟨_,u,h2,_⟩:=(uh HP4).b _ rfl;exact ⟨u,by simp [World.cell?,h2]⟩
     obtain ⟨u4,fc4⟩:=fc4
     refine held_skip 4 (by kernel_rfl) rfl rfl (by rfl) (w':=y4.setCell ⟨a2,0,none⟩ (.slice (some ⟨a0,0,none⟩) 286 286)) ?_ True.intro ?_
     ·first | (go_simp;done) | (go_simp <;> rfl)
     have HP5:=qz (uh HP4).store
     clear fz4 fc4
     generalize y4.setCell ⟨a2,0,none⟩ (.slice (some ⟨a0,0,none⟩) 286 286)=y5 at HP5 ⊢
     clear HP4
     have fz4:y5.frozen? ⟨a3,0,none⟩=false:=by obtain ⟨_,u,h2⟩:=(uh HP5).c _ rfl;simp [World.frozen?,h2]
     have fc4:∃ u,y5.cell? ⟨a3,0,none⟩=some u:=by obtain ⟨_,u,h2⟩:=(uh HP5).c _ rfl;exact ⟨u,by simp [World.cell?,h2]⟩
     obtain ⟨u4,fc4⟩:=fc4
     refine held_skip 5 (by kernel_rfl) rfl rfl (by rfl) (w':=y5.setCell ⟨a3,0,none⟩ (.slice (some ⟨a1,0,none⟩) 30 30)) ?_ True.intro ?_
     ·first | (go_simp;done) | (go_simp <;> rfl)
     clear fz4 fc4
     refine wpAnyH_done (by kernel_rfl) ?_ _
     refine NoPanic.normal ?_
     go_wp2_with fail
     go_meet
     exact ⟨_,_,_,_,(uh HP5).done⟩
    ·refine held_go 3 4 hK rfl (by rfl) (v:=.pointer (some ⟨y2.heap.size,0,none⟩)) (w':=y2.alloc (.cells #[.slice none 0 0] 45)) ?_ True.intro ?_
     ·first | (go_simp;done) | (go_simp <;> first | exact ⟨rfl,rfl⟩ | rfl)
     simp only [sA,sB]
     have HP3:=qz (uh HP2).four
     generalize y2.alloc (.cells #[.slice none 0 0] 45)=y3 at HP3 ⊢
     generalize y2.heap.size=a3 at HP3 ⊢
     clear HP2 hK
     refine held_one 2 3 (by kernel_rfl) rfl rfl (by rfl) (v:=.pointer (some ⟨y3.heap.size,0,none⟩)) (w':=y3.alloc (.cells #[.slice none 0 0] 45)) ?_ True.intro ?_
     ·first | (go_simp;done) | (go_simp <;> first | exact ⟨rfl,rfl⟩ | rfl)
     simp only [sA,sB]
     have HP4:=qz (uh HP3).three
     generalize y3.alloc (.cells #[.slice none 0 0] 45)=y4 at HP4 ⊢
     generalize y3.heap.size=a2 at HP4 ⊢
     clear HP3
     have fz4:y4.frozen? ⟨a2,0,none⟩=false:=by obtain ⟨_,u,h2,_⟩:=(uh HP4).b _ rfl;simp [World.frozen?,h2]
     have fc4:∃ u,y4.cell? ⟨a2,0,none⟩=some u:=by obtain ⟨_,u,h2,_⟩:=(uh HP4).b _ rfl;exact ⟨u,by simp [World.cell?,h2]⟩
     obtain ⟨u4,fc4⟩:=fc4
     refine held_skip 4 (by kernel_rfl) rfl rfl (by rfl) (w':=y4.setCell ⟨a2,0,none⟩ (.slice (some ⟨a0,0,none⟩) 286 286)) ?_ True.intro ?_
     ·first | (go_simp;done) | (go_simp <;> rfl)
     have HP5:=qz (uh HP4).store
     clear fz4 fc4
     generalize y4.setCell ⟨a2,0,none⟩ (.slice (some ⟨a0,0,none⟩) 286 286)=y5 at HP5 ⊢
     clear HP4
     have fz4:y5.frozen? ⟨a3,0,none⟩=false:=by obtain ⟨_,u,h2⟩:=(uh HP5).c _ rfl;simp [World.frozen?,h2]
     have fc4:∃ u,y5.cell? ⟨a3,0,none⟩=some u:=by obtain ⟨_,u,h2⟩:=(uh HP5).c _ rfl;exact ⟨u,by simp [World.cell?,h2]⟩
     obtain ⟨u4,fc4⟩:=fc4
     refine held_skip 5 (by kernel_rfl) rfl rfl (by rfl) (w':=y5.setCell ⟨a3,0,none⟩ (.slice (some ⟨a1,0,none⟩) 30 30)) ?_ True.intro ?_
     ·first | (go_simp;done) | (go_simp <;> rfl)
     clear fz4 fc4
     refine wpAnyH_done (by kernel_rfl) ?_ _
     refine NoPanic.normal ?_
     go_wp2_with fail
     go_meet
     exact ⟨_,_,_,_,(uh HP5).done⟩
   ·refine held_go 2 3 hK rfl (by rfl) (v:=.pointer (some ⟨y1.heap.size,0,none⟩)) (w':=y1.alloc (.cells #[.slice none 0 0] 45)) ?_ True.intro ?_
    ·first | (go_simp;done) | (go_simp <;> first | exact ⟨rfl,rfl⟩ | rfl)
    simp only [sA,sB]
    have HP2:=qz (uh HP1).three
    generalize y1.alloc (.cells #[.slice none 0 0] 45)=y2 at HP2 ⊢
    generalize y1.heap.size=a2 at HP2 ⊢
    clear HP1 hK
    refine held_two (i:=1) (j:=3) (by kernel_rfl) rfl rfl (fun K hK=>?_) (fun K hK=>?_)
    ·refine held_go 1 11 hK rfl (by rfl) (v:=.slice (some ⟨y2.heap.size,0,none⟩) 30 30) (w':=y2.alloc (.cells (icells .i64 30 fun _=>0) 3)) ?_ True.intro ?_
     ·first | (go_simp;done) | (go_simp <;> first | exact ⟨rfl,rfl⟩ | rfl)
     simp only [sA,sB]
     have HP3:=qz (uh HP2).two
     generalize y2.alloc (.cells (icells .i64 30 fun _=>0) 3)=y3 at HP3 ⊢
     generalize y2.heap.size=a1 at HP3 ⊢
     clear HP2 hK
     refine held_one 3 4 (by kernel_rfl) rfl rfl (by rfl) (v:=.pointer (some ⟨y3.heap.size,0,none⟩)) (w':=y3.alloc (.cells #[.slice none 0 0] 45)) ?_ True.intro ?_
     ·first | (go_simp;done) | (go_simp <;> first | exact ⟨rfl,rfl⟩ | rfl)
     simp only [sA,sB]
     have HP4:=qz (uh HP3).four
     generalize y3.alloc (.cells #[.slice none 0 0] 45)=y4 at HP4 ⊢
     generalize y3.heap.size=a3 at HP4 ⊢
     clear HP3
     have fz4:y4.frozen? ⟨a2,0,none⟩=false:=by obtain ⟨_,u,h2,_⟩:=(uh HP4).b _ rfl;simp [World.frozen?,h2]
     have fc4:∃ u,y4.cell? ⟨a2,0,none⟩=some u:=by obtain ⟨_,u,h2,_⟩:=(uh HP4).b _ rfl;exact ⟨u,by simp [World.cell?,h2]⟩
     obtain ⟨u4,fc4⟩:=fc4
     refine held_skip 4 (by kernel_rfl) rfl rfl (by rfl) (w':=y4.setCell ⟨a2,0,none⟩ (.slice (some ⟨a0,0,none⟩) 286 286)) ?_ True.intro ?_
     ·first | (go_simp;done) | (go_simp <;> rfl)
     have HP5:=qz (uh HP4).store
     clear fz4 fc4
     generalize y4.setCell ⟨a2,0,none⟩ (.slice (some ⟨a0,0,none⟩) 286 286)=y5 at HP5 ⊢
     clear HP4
     have fz4:y5.frozen? ⟨a3,0,none⟩=false:=by obtain ⟨_,u,h2⟩:=(uh HP5).c _ rfl;simp [World.frozen?,h2]
     have fc4:∃ u,y5.cell? ⟨a3,0,none⟩=some u:=by obtain ⟨_,u,h2⟩:=(uh HP5).c _ rfl;exact ⟨u,by simp [World.cell?,h2]⟩
     obtain ⟨u4,fc4⟩:=fc4
     refine held_skip 5 (by kernel_rfl) rfl rfl (by rfl) (w':=y5.setCell ⟨a3,0,none⟩ (.slice (some ⟨a1,0,none⟩) 30 30)) ?_ True.intro ?_
     ·first | (go_simp;done) | (go_simp <;> rfl)
     clear fz4 fc4
     refine wpAnyH_done (by kernel_rfl) ?_ _
     refine NoPanic.normal ?_
     go_wp2_with fail
     go_meet
     exact ⟨_,_,_,_,(uh HP5).done⟩
    ·refine held_go 3 4 hK rfl (by rfl) (v:=.pointer (some ⟨y2.heap.size,0,none⟩)) (w':=y2.alloc (.cells #[.slice none 0 0] 45)) ?_ True.intro ?_
     ·first | (go_simp;done) | (go_simp <;> first | exact ⟨rfl,rfl⟩ | rfl)
     simp only [sA,sB]
     have HP3:=qz (uh HP2).four
     generalize y2.alloc (.cells #[.slice none 0 0] 45)=y3 at HP3 ⊢
     generalize y2.heap.size=a3 at HP3 ⊢
     clear HP2 hK
     refine held_two (i:=1) (j:=4) (by kernel_rfl) rfl rfl (fun K hK=>?_) (fun K hK=>?_)
     ·refine held_go 1 11 hK rfl (by rfl) (v:=.slice (some ⟨y3.heap.size,0,none⟩) 30 30) (w':=y3.alloc (.cells (icells .i64 30 fun _=>0) 3)) ?_ True.intro ?_
      ·first | (go_simp;done) | (go_simp <;> first | exact ⟨rfl,rfl⟩ | rfl)
      simp only [sA,sB]
      have HP4:=qz (uh HP3).two
      generalize y3.alloc (.cells (icells .i64 30 fun _=>0) 3)=y4 at HP4 ⊢
      generalize y3.heap.size=a1 at HP4 ⊢
      clear HP3 hK
      have fz4:y4.frozen? ⟨a2,0,none⟩=false:=by obtain ⟨_,u,h2,_⟩:=(uh HP4).b _ rfl;simp [World.frozen?,h2]
      have fc4:∃ u,y4.cell? ⟨a2,0,none⟩=some u:=by obtain ⟨_,u,h2,_⟩:=(uh HP4).b _ rfl;exact ⟨u,by simp [World.cell?,h2]⟩
      obtain ⟨u4,fc4⟩:=fc4
      refine held_skip 4 (by kernel_rfl) rfl rfl (by rfl) (w':=y4.setCell ⟨a2,0,none⟩ (.slice (some ⟨a0,0,none⟩) 286 286)) ?_ True.intro ?_
      ·first | (go_simp;done) | (go_simp <;> rfl)
      have HP5:=qz (uh HP4).store
      clear fz4 fc4
      generalize y4.setCell ⟨a2,0,none⟩ (.slice (some ⟨a0,0,none⟩) 286 286)=y5 at HP5 ⊢
      clear HP4
      have fz4:y5.frozen? ⟨a3,0,none⟩=false:=by obtain ⟨_,u,h2⟩:=(uh HP5).c _ rfl;simp [World.frozen?,h2]
      have fc4:∃ u,y5.cell? ⟨a3,0,none⟩=some u:=by obtain ⟨_,u,h2⟩:=(uh HP5).c _ rfl;exact ⟨u,by simp [World.cell?,h2]⟩
      obtain ⟨u4,fc4⟩:=fc4
      refine held_skip 5 (by kernel_rfl) rfl rfl (by rfl) (w':=y5.setCell ⟨a3,0,none⟩ (.slice (some ⟨a1,0,none⟩) 30 30)) ?_ True.intro ?_
      ·first | (go_simp;done) | (go_simp <;> rfl)
      clear fz4 fc4
      refine wpAnyH_done (by kernel_rfl) ?_ _
      refine NoPanic.normal ?_
      go_wp2_with fail
      go_meet
      exact ⟨_,_,_,_,(uh HP5).done⟩
     ·have fz4:y3.frozen? ⟨a2,0,none⟩=false:=by obtain ⟨_,u,h2,_⟩:=(uh HP3).b _ rfl;simp [World.frozen?,h2]
      have fc4:∃ u,y3.cell? ⟨a2,0,none⟩=some u:=by obtain ⟨_,u,h2,_⟩:=(uh HP3).b _ rfl;exact ⟨u,by simp [World.cell?,h2]⟩
      obtain ⟨u4,fc4⟩:=fc4
      refine held_go_skip 4 hK rfl (by rfl) (w':=y3.setCell ⟨a2,0,none⟩ (.slice (some ⟨a0,0,none⟩) 286 286)) ?_ True.intro ?_
      ·first | (go_simp;done) | (go_simp <;> rfl)
      have HP4:=qz (uh HP3).store
      clear fz4 fc4
      generalize y3.setCell ⟨a2,0,none⟩ (.slice (some ⟨a0,0,none⟩) 286 286)=y4 at HP4 ⊢
      clear HP3 hK
      refine held_one 1 11 (by kernel_rfl) rfl rfl (by rfl) (v:=.slice (some ⟨y4.heap.size,0,none⟩) 30 30) (w':=y4.alloc (.cells (icells .i64 30 fun _=>0) 3)) ?_ True.intro ?_
      ·first | (go_simp;done) | (go_simp <;> first | exact ⟨rfl,rfl⟩ | rfl)
      simp only [sA,sB]
      have HP5:=qz (uh HP4).two
      generalize y4.alloc (.cells (icells .i64 30 fun _=>0) 3)=y5 at HP5 ⊢
      generalize y4.heap.size=a1 at HP5 ⊢
      clear HP4
      have fz4:y5.frozen? ⟨a3,0,none⟩=false:=by obtain ⟨_,u,h2⟩:=(uh HP5).c _ rfl;simp [World.frozen?,h2]
      have fc4:∃ u,y5.cell? ⟨a3,0,none⟩=some u:=by obtain ⟨_,u,h2⟩:=(uh HP5).c _ rfl;exact ⟨u,by simp [World.cell?,h2]⟩
      obtain ⟨u4,fc4⟩:=fc4
      refine held_skip 5 (by kernel_rfl) rfl rfl (by rfl) (w':=y5.setCell ⟨a3,0,none⟩ (.slice (some ⟨a1,0,none⟩) 30 30)) ?_ True.intro ?_
      ·first | (go_simp;done) | (go_simp <;> rfl)
      clear fz4 fc4
      refine wpAnyH_done (by kernel_rfl) ?_ _
      refine NoPanic.normal ?_
      go_wp2_with fail
      go_meet
      exact ⟨_,_,_,_,(uh HP5).done⟩
   ·refine held_go 3 4 hK rfl (by rfl) (v:=.pointer (some ⟨y1.heap.size,0,none⟩)) (w':=y1.alloc (.cells #[.slice none 0 0] 45)) ?_ True.intro ?_
    ·first | (go_simp;done) | (go_simp <;> first | exact ⟨rfl,rfl⟩ | rfl)
    simp only [sA,sB]
    have HP2:=qz (uh HP1).four
    generalize y1.alloc (.cells #[.slice none 0 0] 45)=y2 at HP2 ⊢
    generalize y1.heap.size=a3 at HP2 ⊢
    clear HP1 hK
    refine held_two (i:=1) (j:=2) (by kernel_rfl) rfl rfl (fun K hK=>?_) (fun K hK=>?_)
    ·refine held_go 1 11 hK rfl (by rfl) (v:=.slice (some ⟨y2.heap.size,0,none⟩) 30 30) (w':=y2.alloc (.cells (icells .i64 30 fun _=>0) 3)) ?_ True.intro ?_
     ·first | (go_simp;done) | (go_simp <;> first | exact ⟨rfl,rfl⟩ | rfl)
     simp only [sA,sB]
     have HP3:=qz (uh HP2).two
     generalize y2.alloc (.cells (icells .i64 30 fun _=>0) 3)=y3 at HP3 ⊢
     generalize y2.heap.size=a1 at HP3 ⊢
     clear HP2 hK
     refine held_one 2 3 (by kernel_rfl) rfl rfl (by rfl) (v:=.pointer (some ⟨y3.heap.size,0,none⟩)) (w':=y3.alloc (.cells #[.slice none 0 0] 45)) ?_ True.intro ?_
     ·first | (go_simp;done) | (go_simp <;> first | exact ⟨rfl,rfl⟩ | rfl)
     simp only [sA,sB]
     have HP4:=qz (uh HP3).three
     generalize y3.alloc (.cells #[.slice none 0 0] 45)=y4 at HP4 ⊢
     generalize y3.heap.size=a2 at HP4 ⊢
     clear HP3
     have fz4:y4.frozen? ⟨a2,0,none⟩=false:=by obtain ⟨_,u,h2,_⟩:=(uh HP4).b _ rfl;simp [World.frozen?,h2]
     have fc4:∃ u,y4.cell? ⟨a2,0,none⟩=some u:=by obtain ⟨_,u,h2,_⟩:=(uh HP4).b _ rfl;exact ⟨u,by simp [World.cell?,h2]⟩
     obtain ⟨u4,fc4⟩:=fc4
     refine held_skip 4 (by kernel_rfl) rfl rfl (by rfl) (w':=y4.setCell ⟨a2,0,none⟩ (.slice (some ⟨a0,0,none⟩) 286 286)) ?_ True.intro ?_
     ·first | (go_simp;done) | (go_simp <;> rfl)
     have HP5:=qz (uh HP4).store
     clear fz4 fc4
     generalize y4.setCell ⟨a2,0,none⟩ (.slice (some ⟨a0,0,none⟩) 286 286)=y5 at HP5 ⊢
     clear HP4
     have fz4:y5.frozen? ⟨a3,0,none⟩=false:=by obtain ⟨_,u,h2⟩:=(uh HP5).c _ rfl;simp [World.frozen?,h2]
     have fc4:∃ u,y5.cell? ⟨a3,0,none⟩=some u:=by obtain ⟨_,u,h2⟩:=(uh HP5).c _ rfl;exact ⟨u,by simp [World.cell?,h2]⟩
     obtain ⟨u4,fc4⟩:=fc4
     refine held_skip 5 (by kernel_rfl) rfl rfl (by rfl) (w':=y5.setCell ⟨a3,0,none⟩ (.slice (some ⟨a1,0,none⟩) 30 30)) ?_ True.intro ?_
     ·first | (go_simp;done) | (go_simp <;> rfl)
     clear fz4 fc4
     refine wpAnyH_done (by kernel_rfl) ?_ _
     refine NoPanic.normal ?_
     go_wp2_with fail
     go_meet
     exact ⟨_,_,_,_,(uh HP5).done⟩
    ·refine held_go 2 3 hK rfl (by rfl) (v:=.pointer (some ⟨y2.heap.size,0,none⟩)) (w':=y2.alloc (.cells #[.slice none 0 0] 45)) ?_ True.intro ?_
     ·first | (go_simp;done) | (go_simp <;> first | exact ⟨rfl,rfl⟩ | rfl)
     simp only [sA,sB]
     have HP3:=qz (uh HP2).three
     generalize y2.alloc (.cells #[.slice none 0 0] 45)=y3 at HP3 ⊢
     generalize y2.heap.size=a2 at HP3 ⊢
     clear HP2 hK
     refine held_two (i:=1) (j:=4) (by kernel_rfl) rfl rfl (fun K hK=>?_) (fun K hK=>?_)
     ·refine held_go 1 11 hK rfl (by rfl) (v:=.slice (some ⟨y3.heap.size,0,none⟩) 30 30) (w':=y3.alloc (.cells (icells .i64 30 fun _=>0) 3)) ?_ True.intro ?_
      ·first | (go_simp;done) | (go_simp <;> first | exact ⟨rfl,rfl⟩ | rfl)
      simp only [sA,sB]
      have HP4:=qz (uh HP3).two
      generalize y3.alloc (.cells (icells .i64 30 fun _=>0) 3)=y4 at HP4 ⊢
      generalize y3.heap.size=a1 at HP4 ⊢
      clear HP3 hK
      have fz4:y4.frozen? ⟨a2,0,none⟩=false:=by obtain ⟨_,u,h2,_⟩:=(uh HP4).b _ rfl;simp [World.frozen?,h2]
      have fc4:∃ u,y4.cell? ⟨a2,0,none⟩=some u:=by obtain ⟨_,u,h2,_⟩:=(uh HP4).b _ rfl;exact ⟨u,by simp [World.cell?,h2]⟩
      obtain ⟨u4,fc4⟩:=fc4
      refine held_skip 4 (by kernel_rfl) rfl rfl (by rfl) (w':=y4.setCell ⟨a2,0,none⟩ (.slice (some ⟨a0,0,none⟩) 286 286)) ?_ True.intro ?_
      ·first | (go_simp;done) | (go_simp <;> rfl)
      have HP5:=qz (uh HP4).store
      clear fz4 fc4
      generalize y4.setCell ⟨a2,0,none⟩ (.slice (some ⟨a0,0,none⟩) 286 286)=y5 at HP5 ⊢
      clear HP4
      have fz4:y5.frozen? ⟨a3,0,none⟩=false:=by obtain ⟨_,u,h2⟩:=(uh HP5).c _ rfl;simp [World.frozen?,h2]
      have fc4:∃ u,y5.cell? ⟨a3,0,none⟩=some u:=by obtain ⟨_,u,h2⟩:=(uh HP5).c _ rfl;exact ⟨u,by simp [World.cell?,h2]⟩
      obtain ⟨u4,fc4⟩:=fc4
      refine held_skip 5 (by kernel_rfl) rfl rfl (by rfl) (w':=y5.setCell ⟨a3,0,none⟩ (.slice (some ⟨a1,0,none⟩) 30 30)) ?_ True.intro ?_
      ·first | (go_simp;done) | (go_simp <;> rfl)
      clear fz4 fc4
      refine wpAnyH_done (by kernel_rfl) ?_ _
      refine NoPanic.normal ?_
      go_wp2_with fail
      go_meet
      exact ⟨_,_,_,_,(uh HP5).done⟩
     ·have fz4:y3.frozen? ⟨a2,0,none⟩=false:=by obtain ⟨_,u,h2,_⟩:=(uh HP3).b _ rfl;simp [World.frozen?,h2]
      have fc4:∃ u,y3.cell? ⟨a2,0,none⟩=some u:=by obtain ⟨_,u,h2,_⟩:=(uh HP3).b _ rfl;exact ⟨u,by simp [World.cell?,h2]⟩
      obtain ⟨u4,fc4⟩:=fc4
      refine held_go_skip 4 hK rfl (by rfl) (w':=y3.setCell ⟨a2,0,none⟩ (.slice (some ⟨a0,0,none⟩) 286 286)) ?_ True.intro ?_
      ·first | (go_simp;done) | (go_simp <;> rfl)
      have HP4:=qz (uh HP3).store
      clear fz4 fc4
      generalize y3.setCell ⟨a2,0,none⟩ (.slice (some ⟨a0,0,none⟩) 286 286)=y4 at HP4 ⊢
      clear HP3 hK
      refine held_one 1 11 (by kernel_rfl) rfl rfl (by rfl) (v:=.slice (some ⟨y4.heap.size,0,none⟩) 30 30) (w':=y4.alloc (.cells (icells .i64 30 fun _=>0) 3)) ?_ True.intro ?_
      ·first | (go_simp;done) | (go_simp <;> first | exact ⟨rfl,rfl⟩ | rfl)
      simp only [sA,sB]
      have HP5:=qz (uh HP4).two
      generalize y4.alloc (.cells (icells .i64 30 fun _=>0) 3)=y5 at HP5 ⊢
      generalize y4.heap.size=a1 at HP5 ⊢
      clear HP4
      have fz4:y5.frozen? ⟨a3,0,none⟩=false:=by obtain ⟨_,u,h2⟩:=(uh HP5).c _ rfl;simp [World.frozen?,h2]
      have fc4:∃ u,y5.cell? ⟨a3,0,none⟩=some u:=by obtain ⟨_,u,h2⟩:=(uh HP5).c _ rfl;exact ⟨u,by simp [World.cell?,h2]⟩
      obtain ⟨u4,fc4⟩:=fc4
      refine held_skip 5 (by kernel_rfl) rfl rfl (by rfl) (w':=y5.setCell ⟨a3,0,none⟩ (.slice (some ⟨a1,0,none⟩) 30 30)) ?_ True.intro ?_
      ·first | (go_simp;done) | (go_simp <;> rfl)
      clear fz4 fc4
      refine wpAnyH_done (by kernel_rfl) ?_ _
      refine NoPanic.normal ?_
      go_wp2_with fail
      go_meet
      exact ⟨_,_,_,_,(uh HP5).done⟩
  ·refine held_go 1 11 hK rfl (by rfl) (v:=.slice (some ⟨y0.heap.size,0,none⟩) 30 30) (w':=y0.alloc (.cells (icells .i64 30 fun _=>0) 3)) ?_ True.intro ?_
   ·first | (go_simp;done) | (go_simp <;> first | exact ⟨rfl,rfl⟩ | rfl)
   simp only [sA,sB]
   have HP1:=qz (uh HP0).two
   generalize y0.alloc (.cells (icells .i64 30 fun _=>0) 3)=y1 at HP1 ⊢
   generalize y0.heap.size=a1 at HP1 ⊢
   clear HP0 hK
   refine held_three (i:=0) (j:=2) (k:=3) (by kernel_rfl) rfl rfl rfl (fun K hK=>?_) (fun K hK=>?_) (fun K hK=>?_)
   ·refine held_go 0 10 hK rfl (by rfl) (v:=.slice (some ⟨y1.heap.size,0,none⟩) 286 286) (w':=y1.alloc (.cells (icells .i64 286 fun _=>0) 3)) ?_ True.intro ?_
    ·first | (go_simp;done) | (go_simp <;> first | exact ⟨rfl,rfl⟩ | rfl)
    simp only [sA,sB]
    have HP2:=qz (uh HP1).one
    generalize y1.alloc (.cells (icells .i64 286 fun _=>0) 3)=y2 at HP2 ⊢
    generalize y1.heap.size=a0 at HP2 ⊢
    clear HP1 hK
    refine held_two (i:=2) (j:=3) (by kernel_rfl) rfl rfl (fun K hK=>?_) (fun K hK=>?_)
    ·refine held_go 2 3 hK rfl (by rfl) (v:=.pointer (some ⟨y2.heap.size,0,none⟩)) (w':=y2.alloc (.cells #[.slice none 0 0] 45)) ?_ True.intro ?_
     ·first | (go_simp;done) | (go_simp <;> first | exact ⟨rfl,rfl⟩ | rfl)
     simp only [sA,sB]
     have HP3:=qz (uh HP2).three
     generalize y2.alloc (.cells #[.slice none 0 0] 45)=y3 at HP3 ⊢
     generalize y2.heap.size=a2 at HP3 ⊢
     clear HP2 hK
     refine held_one 3 4 (by kernel_rfl) rfl rfl (by rfl) (v:=.pointer (some ⟨y3.heap.size,0,none⟩)) (w':=y3.alloc (.cells #[.slice none 0 0] 45)) ?_ True.intro ?_
     ·first | (go_simp;done) | (go_simp <;> first | exact ⟨rfl,rfl⟩ | rfl)
     simp only [sA,sB]
     have HP4:=qz (uh HP3).four
     generalize y3.alloc (.cells #[.slice none 0 0] 45)=y4 at HP4 ⊢
     generalize y3.heap.size=a3 at HP4 ⊢
     clear HP3
     have fz4:y4.frozen? ⟨a2,0,none⟩=false:=by obtain ⟨_,u,h2,_⟩:=(uh HP4).b _ rfl;simp [World.frozen?,h2]
     have fc4:∃ u,y4.cell? ⟨a2,0,none⟩=some u:=by obtain ⟨_,u,h2,_⟩:=(uh HP4).b _ rfl;exact ⟨u,by simp [World.cell?,h2]⟩
     obtain ⟨u4,fc4⟩:=fc4
     refine held_skip 4 (by kernel_rfl) rfl rfl (by rfl) (w':=y4.setCell ⟨a2,0,none⟩ (.slice (some ⟨a0,0,none⟩) 286 286)) ?_ True.intro ?_
     ·first | (go_simp;done) | (go_simp <;> rfl)
     have HP5:=qz (uh HP4).store
     clear fz4 fc4
     generalize y4.setCell ⟨a2,0,none⟩ (.slice (some ⟨a0,0,none⟩) 286 286)=y5 at HP5 ⊢
     clear HP4
     have fz4:y5.frozen? ⟨a3,0,none⟩=false:=by obtain ⟨_,u,h2⟩:=(uh HP5).c _ rfl;simp [World.frozen?,h2]
     have fc4:∃ u,y5.cell? ⟨a3,0,none⟩=some u:=by obtain ⟨_,u,h2⟩:=(uh HP5).c _ rfl;exact ⟨u,by simp [World.cell?,h2]⟩
     obtain ⟨u4,fc4⟩:=fc4
     refine held_skip 5 (by kernel_rfl) rfl rfl (by rfl) (w':=y5.setCell ⟨a3,0,none⟩ (.slice (some ⟨a1,0,none⟩) 30 30)) ?_ True.intro ?_
     ·first | (go_simp;done) | (go_simp <;> rfl)
     clear fz4 fc4
     refine wpAnyH_done (by kernel_rfl) ?_ _
     refine NoPanic.normal ?_
     go_wp2_with fail
     go_meet
     exact ⟨_,_,_,_,(uh HP5).done⟩
    ·refine held_go 3 4 hK rfl (by rfl) (v:=.pointer (some ⟨y2.heap.size,0,none⟩)) (w':=y2.alloc (.cells #[.slice none 0 0] 45)) ?_ True.intro ?_
     ·first | (go_simp;done) | (go_simp <;> first | exact ⟨rfl,rfl⟩ | rfl)
     simp only [sA,sB]
     have HP3:=qz (uh HP2).four
     generalize y2.alloc (.cells #[.slice none 0 0] 45)=y3 at HP3 ⊢
     generalize y2.heap.size=a3 at HP3 ⊢
     clear HP2 hK
     refine held_one 2 3 (by kernel_rfl) rfl rfl (by rfl) (v:=.pointer (some ⟨y3.heap.size,0,none⟩)) (w':=y3.alloc (.cells #[.slice none 0 0] 45)) ?_ True.intro ?_
     ·first | (go_simp;done) | (go_simp <;> first | exact ⟨rfl,rfl⟩ | rfl)
     simp only [sA,sB]
     have HP4:=qz (uh HP3).three
     generalize y3.alloc (.cells #[.slice none 0 0] 45)=y4 at HP4 ⊢
     generalize y3.heap.size=a2 at HP4 ⊢
     clear HP3
     have fz4:y4.frozen? ⟨a2,0,none⟩=false:=by obtain ⟨_,u,h2,_⟩:=(uh HP4).b _ rfl;simp [World.frozen?,h2]
     have fc4:∃ u,y4.cell? ⟨a2,0,none⟩=some u:=by obtain ⟨_,u,h2,_⟩:=(uh HP4).b _ rfl;exact ⟨u,by simp [World.cell?,h2]⟩
     obtain ⟨u4,fc4⟩:=fc4
     refine held_skip 4 (by kernel_rfl) rfl rfl (by rfl) (w':=y4.setCell ⟨a2,0,none⟩ (.slice (some ⟨a0,0,none⟩) 286 286)) ?_ True.intro ?_
     ·first | (go_simp;done) | (go_simp <;> rfl)
     have HP5:=qz (uh HP4).store
     clear fz4 fc4
     generalize y4.setCell ⟨a2,0,none⟩ (.slice (some ⟨a0,0,none⟩) 286 286)=y5 at HP5 ⊢
     clear HP4
     have fz4:y5.frozen? ⟨a3,0,none⟩=false:=by obtain ⟨_,u,h2⟩:=(uh HP5).c _ rfl;simp [World.frozen?,h2]
     have fc4:∃ u,y5.cell? ⟨a3,0,none⟩=some u:=by obtain ⟨_,u,h2⟩:=(uh HP5).c _ rfl;exact ⟨u,by simp [World.cell?,h2]⟩
     obtain ⟨u4,fc4⟩:=fc4
     refine held_skip 5 (by kernel_rfl) rfl rfl (by rfl) (w':=y5.setCell ⟨a3,0,none⟩ (.slice (some ⟨a1,0,none⟩) 30 30)) ?_ True.intro ?_
     ·first | (go_simp;done) | (go_simp <;> rfl)
     clear fz4 fc4
     refine wpAnyH_done (by kernel_rfl) ?_ _
     refine NoPanic.normal ?_
     go_wp2_with fail
     go_meet
     exact ⟨_,_,_,_,(uh HP5).done⟩
   ·refine held_go 2 3 hK rfl (by rfl) (v:=.pointer (some ⟨y1.heap.size,0,none⟩)) (w':=y1.alloc (.cells #[.slice none 0 0] 45)) ?_ True.intro ?_
    ·first | (go_simp;done) | (go_simp <;> first | exact ⟨rfl,rfl⟩ | rfl)
    simp only [sA,sB]
    have HP2:=qz (uh HP1).three
    generalize y1.alloc (.cells #[.slice none 0 0] 45)=y2 at HP2 ⊢
    generalize y1.heap.size=a2 at HP2 ⊢
    clear HP1 hK
    refine held_two (i:=0) (j:=3) (by kernel_rfl) rfl rfl (fun K hK=>?_) (fun K hK=>?_)
    ·refine held_go 0 10 hK rfl (by rfl) (v:=.slice (some ⟨y2.heap.size,0,none⟩) 286 286) (w':=y2.alloc (.cells (icells .i64 286 fun _=>0) 3)) ?_ True.intro ?_
     ·first | (go_simp;done) | (go_simp <;> first | exact ⟨rfl,rfl⟩ | rfl)
     simp only [sA,sB]
     have HP3:=qz (uh HP2).one
     generalize y2.alloc (.cells (icells .i64 286 fun _=>0) 3)=y3 at HP3 ⊢
     generalize y2.heap.size=a0 at HP3 ⊢
     clear HP2 hK
     refine held_one 3 4 (by kernel_rfl) rfl rfl (by rfl) (v:=.pointer (some ⟨y3.heap.size,0,none⟩)) (w':=y3.alloc (.cells #[.slice none 0 0] 45)) ?_ True.intro ?_
     ·first | (go_simp;done) | (go_simp <;> first | exact ⟨rfl,rfl⟩ | rfl)
     simp only [sA,sB]
     have HP4:=qz (uh HP3).four
     generalize y3.alloc (.cells #[.slice none 0 0] 45)=y4 at HP4 ⊢
     generalize y3.heap.size=a3 at HP4 ⊢
     clear HP3
     have fz4:y4.frozen? ⟨a2,0,none⟩=false:=by obtain ⟨_,u,h2,_⟩:=(uh HP4).b _ rfl;simp [World.frozen?,h2]
     have fc4:∃ u,y4.cell? ⟨a2,0,none⟩=some u:=by obtain ⟨_,u,h2,_⟩:=(uh HP4).b _ rfl;exact ⟨u,by simp [World.cell?,h2]⟩
     obtain ⟨u4,fc4⟩:=fc4
     refine held_skip 4 (by kernel_rfl) rfl rfl (by rfl) (w':=y4.setCell ⟨a2,0,none⟩ (.slice (some ⟨a0,0,none⟩) 286 286)) ?_ True.intro ?_
     ·first | (go_simp;done) | (go_simp <;> rfl)
     have HP5:=qz (uh HP4).store
     clear fz4 fc4
     generalize y4.setCell ⟨a2,0,none⟩ (.slice (some ⟨a0,0,none⟩) 286 286)=y5 at HP5 ⊢
     clear HP4
     have fz4:y5.frozen? ⟨a3,0,none⟩=false:=by obtain ⟨_,u,h2⟩:=(uh HP5).c _ rfl;simp [World.frozen?,h2]
     have fc4:∃ u,y5.cell? ⟨a3,0,none⟩=some u:=by obtain ⟨_,u,h2⟩:=(uh HP5).c _ rfl;exact ⟨u,by simp [World.cell?,h2]⟩
     obtain ⟨u4,fc4⟩:=fc4
     refine held_skip 5 (by kernel_rfl) rfl rfl (by rfl) (w':=y5.setCell ⟨a3,0,none⟩ (.slice (some ⟨a1,0,none⟩) 30 30)) ?_ True.intro ?_
     ·first | (go_simp;done) | (go_simp <;> rfl)
     clear fz4 fc4
     refine wpAnyH_done (by kernel_rfl) ?_ _
     refine NoPanic.normal ?_
     go_wp2_with fail
     go_meet
     exact ⟨_,_,_,_,(uh HP5).done⟩
    ·refine held_go 3 4 hK rfl (by rfl) (v:=.pointer (some ⟨y2.heap.size,0,none⟩)) (w':=y2.alloc (.cells #[.slice none 0 0] 45)) ?_ True.intro ?_
     ·first | (go_simp;done) | (go_simp <;> first | exact ⟨rfl,rfl⟩ | rfl)
     simp only [sA,sB]
     have HP3:=qz (uh HP2).four
     generalize y2.alloc (.cells #[.slice none 0 0] 45)=y3 at HP3 ⊢
     generalize y2.heap.size=a3 at HP3 ⊢
     clear HP2 hK
     refine held_one 0 10 (by kernel_rfl) rfl rfl (by rfl) (v:=.slice (some ⟨y3.heap.size,0,none⟩) 286 286) (w':=y3.alloc (.cells (icells .i64 286 fun _=>0) 3)) ?_ True.intro ?_
     ·first | (go_simp;done) | (go_simp <;> first | exact ⟨rfl,rfl⟩ | rfl)
     simp only [sA,sB]
     have HP4:=qz (uh HP3).one
     generalize y3.alloc (.cells (icells .i64 286 fun _=>0) 3)=y4 at HP4 ⊢
     generalize y3.heap.size=a0 at HP4 ⊢
     clear HP3
     have fz4:y4.frozen? ⟨a2,0,none⟩=false:=by obtain ⟨_,u,h2,_⟩:=(uh HP4).b _ rfl;simp [World.frozen?,h2]
     have fc4:∃ u,y4.cell? ⟨a2,0,none⟩=some u:=by obtain ⟨_,u,h2,_⟩:=(uh HP4).b _ rfl;exact ⟨u,by simp [World.cell?,h2]⟩
     obtain ⟨u4,fc4⟩:=fc4
     refine held_skip 4 (by kernel_rfl) rfl rfl (by rfl) (w':=y4.setCell ⟨a2,0,none⟩ (.slice (some ⟨a0,0,none⟩) 286 286)) ?_ True.intro ?_
     ·first | (go_simp;done) | (go_simp <;> rfl)
     have HP5:=qz (uh HP4).store
     clear fz4 fc4
     generalize y4.setCell ⟨a2,0,none⟩ (.slice (some ⟨a0,0,none⟩) 286 286)=y5 at HP5 ⊢
     clear HP4
     have fz4:y5.frozen? ⟨a3,0,none⟩=false:=by obtain ⟨_,u,h2⟩:=(uh HP5).c _ rfl;simp [World.frozen?,h2]
     have fc4:∃ u,y5.cell? ⟨a3,0,none⟩=some u:=by obtain ⟨_,u,h2⟩:=(uh HP5).c _ rfl;exact ⟨u,by simp [World.cell?,h2]⟩
     obtain ⟨u4,fc4⟩:=fc4
     refine held_skip 5 (by kernel_rfl) rfl rfl (by rfl) (w':=y5.setCell ⟨a3,0,none⟩ (.slice (some ⟨a1,0,none⟩) 30 30)) ?_ True.intro ?_
     ·first | (go_simp;done) | (go_simp <;> rfl)
     clear fz4 fc4
     refine wpAnyH_done (by kernel_rfl) ?_ _
     refine NoPanic.normal ?_
     go_wp2_with fail
     go_meet
     exact ⟨_,_,_,_,(uh HP5).done⟩
   ·refine held_go 3 4 hK rfl (by rfl) (v:=.pointer (some ⟨y1.heap.size,0,none⟩)) (w':=y1.alloc (.cells #[.slice none 0 0] 45)) ?_ True.intro ?_
    ·first | (go_simp;done) | (go_simp <;> first | exact ⟨rfl,rfl⟩ | rfl)
    simp only [sA,sB]
    have HP2:=qz (uh HP1).four
    generalize y1.alloc (.cells #[.slice none 0 0] 45)=y2 at HP2 ⊢
    generalize y1.heap.size=a3 at HP2 ⊢
    clear HP1 hK
    refine held_two (i:=0) (j:=2) (by kernel_rfl) rfl rfl (fun K hK=>?_) (fun K hK=>?_)
    ·refine held_go 0 10 hK rfl (by rfl) (v:=.slice (some ⟨y2.heap.size,0,none⟩) 286 286) (w':=y2.alloc (.cells (icells .i64 286 fun _=>0) 3)) ?_ True.intro ?_
     ·first | (go_simp;done) | (go_simp <;> first | exact ⟨rfl,rfl⟩ | rfl)
     simp only [sA,sB]
     have HP3:=qz (uh HP2).one
     generalize y2.alloc (.cells (icells .i64 286 fun _=>0) 3)=y3 at HP3 ⊢
     generalize y2.heap.size=a0 at HP3 ⊢
     clear HP2 hK
     refine held_one 2 3 (by kernel_rfl) rfl rfl (by rfl) (v:=.pointer (some ⟨y3.heap.size,0,none⟩)) (w':=y3.alloc (.cells #[.slice none 0 0] 45)) ?_ True.intro ?_
     ·first | (go_simp;done) | (go_simp <;> first | exact ⟨rfl,rfl⟩ | rfl)
     simp only [sA,sB]
     have HP4:=qz (uh HP3).three
     generalize y3.alloc (.cells #[.slice none 0 0] 45)=y4 at HP4 ⊢
     generalize y3.heap.size=a2 at HP4 ⊢
     clear HP3
     have fz4:y4.frozen? ⟨a2,0,none⟩=false:=by obtain ⟨_,u,h2,_⟩:=(uh HP4).b _ rfl;simp [World.frozen?,h2]
     have fc4:∃ u,y4.cell? ⟨a2,0,none⟩=some u:=by obtain ⟨_,u,h2,_⟩:=(uh HP4).b _ rfl;exact ⟨u,by simp [World.cell?,h2]⟩
     obtain ⟨u4,fc4⟩:=fc4
     refine held_skip 4 (by kernel_rfl) rfl rfl (by rfl) (w':=y4.setCell ⟨a2,0,none⟩ (.slice (some ⟨a0,0,none⟩) 286 286)) ?_ True.intro ?_
     ·first | (go_simp;done) | (go_simp <;> rfl)
     have HP5:=qz (uh HP4).store
     clear fz4 fc4
     generalize y4.setCell ⟨a2,0,none⟩ (.slice (some ⟨a0,0,none⟩) 286 286)=y5 at HP5 ⊢
     clear HP4
     have fz4:y5.frozen? ⟨a3,0,none⟩=false:=by obtain ⟨_,u,h2⟩:=(uh HP5).c _ rfl;simp [World.frozen?,h2]
     have fc4:∃ u,y5.cell? ⟨a3,0,none⟩=some u:=by obtain ⟨_,u,h2⟩:=(uh HP5).c _ rfl;exact ⟨u,by simp [World.cell?,h2]⟩
     obtain ⟨u4,fc4⟩:=fc4
     refine held_skip 5 (by kernel_rfl) rfl rfl (by rfl) (w':=y5.setCell ⟨a3,0,none⟩ (.slice (some ⟨a1,0,none⟩) 30 30)) ?_ True.intro ?_
     ·first | (go_simp;done) | (go_simp <;> rfl)
     clear fz4 fc4
     refine wpAnyH_done (by kernel_rfl) ?_ _
     refine NoPanic.normal ?_
     go_wp2_with fail
     go_meet
     exact ⟨_,_,_,_,(uh HP5).done⟩
    ·refine held_go 2 3 hK rfl (by rfl) (v:=.pointer (some ⟨y2.heap.size,0,none⟩)) (w':=y2.alloc (.cells #[.slice none 0 0] 45)) ?_ True.intro ?_
     ·first | (go_simp;done) | (go_simp <;> first | exact ⟨rfl,rfl⟩ | rfl)
     simp only [sA,sB]
     have HP3:=qz (uh HP2).three
     generalize y2.alloc (.cells #[.slice none 0 0] 45)=y3 at HP3 ⊢
     generalize y2.heap.size=a2 at HP3 ⊢
     clear HP2 hK
     refine held_one 0 10 (by kernel_rfl) rfl rfl (by rfl) (v:=.slice (some ⟨y3.heap.size,0,none⟩) 286 286) (w':=y3.alloc (.cells (icells .i64 286 fun _=>0) 3)) ?_ True.intro ?_
     ·first | (go_simp;done) | (go_simp <;> first | exact ⟨rfl,rfl⟩ | rfl)
     simp only [sA,sB]
     have HP4:=qz (uh HP3).one
     generalize y3.alloc (.cells (icells .i64 286 fun _=>0) 3)=y4 at HP4 ⊢
     generalize y3.heap.size=a0 at HP4 ⊢
     clear HP3
     have fz4:y4.frozen? ⟨a2,0,none⟩=false:=by obtain ⟨_,u,h2,_⟩:=(uh HP4).b _ rfl;simp [World.frozen?,h2]
     have fc4:∃ u,y4.cell? ⟨a2,0,none⟩=some u:=by obtain ⟨_,u,h2,_⟩:=(uh HP4).b _ rfl;exact ⟨u,by simp [World.cell?,h2]⟩
     obtain ⟨u4,fc4⟩:=fc4
     refine held_skip 4 (by kernel_rfl) rfl rfl (by rfl) (w':=y4.setCell ⟨a2,0,none⟩ (.slice (some ⟨a0,0,none⟩) 286 286)) ?_ True.intro ?_
     ·first | (go_simp;done) | (go_simp <;> rfl)
     have HP5:=qz (uh HP4).store
     clear fz4 fc4
     generalize y4.setCell ⟨a2,0,none⟩ (.slice (some ⟨a0,0,none⟩) 286 286)=y5 at HP5 ⊢
     clear HP4
     have fz4:y5.frozen? ⟨a3,0,none⟩=false:=by obtain ⟨_,u,h2⟩:=(uh HP5).c _ rfl;simp [World.frozen?,h2]
     have fc4:∃ u,y5.cell? ⟨a3,0,none⟩=some u:=by obtain ⟨_,u,h2⟩:=(uh HP5).c _ rfl;exact ⟨u,by simp [World.cell?,h2]⟩
     obtain ⟨u4,fc4⟩:=fc4
     refine held_skip 5 (by kernel_rfl) rfl rfl (by rfl) (w':=y5.setCell ⟨a3,0,none⟩ (.slice (some ⟨a1,0,none⟩) 30 30)) ?_ True.intro ?_
     ·first | (go_simp;done) | (go_simp <;> rfl)
     clear fz4 fc4
     refine wpAnyH_done (by kernel_rfl) ?_ _
     refine NoPanic.normal ?_
     go_wp2_with fail
     go_meet
     exact ⟨_,_,_,_,(uh HP5).done⟩
  ·refine held_go 2 3 hK rfl (by rfl) (v:=.pointer (some ⟨y0.heap.size,0,none⟩)) (w':=y0.alloc (.cells #[.slice none 0 0] 45)) ?_ True.intro ?_
   ·first | (go_simp;done) | (go_simp <;> first | exact ⟨rfl,rfl⟩ | rfl)
   simp only [sA,sB]
   have HP1:=qz (uh HP0).three
   generalize y0.alloc (.cells #[.slice none 0 0] 45)=y1 at HP1 ⊢
   generalize y0.heap.size=a2 at HP1 ⊢
   clear HP0 hK
   refine held_three (i:=0) (j:=1) (k:=3) (by kernel_rfl) rfl rfl rfl (fun K hK=>?_) (fun K hK=>?_) (fun K hK=>?_)
   ·refine held_go 0 10 hK rfl (by rfl) (v:=.slice (some ⟨y1.heap.size,0,none⟩) 286 286) (w':=y1.alloc (.cells (icells .i64 286 fun _=>0) 3)) ?_ True.intro ?_
    ·first | (go_simp;done) | (go_simp <;> first | exact ⟨rfl,rfl⟩ | rfl)
    simp only [sA,sB]
    have HP2:=qz (uh HP1).one
    generalize y1.alloc (.cells (icells .i64 286 fun _=>0) 3)=y2 at HP2 ⊢
    generalize y1.heap.size=a0 at HP2 ⊢
    clear HP1 hK
    refine held_two (i:=1) (j:=3) (by kernel_rfl) rfl rfl (fun K hK=>?_) (fun K hK=>?_)
    ·refine held_go 1 11 hK rfl (by rfl) (v:=.slice (some ⟨y2.heap.size,0,none⟩) 30 30) (w':=y2.alloc (.cells (icells .i64 30 fun _=>0) 3)) ?_ True.intro ?_
     ·first | (go_simp;done) | (go_simp <;> first | exact ⟨rfl,rfl⟩ | rfl)
     simp only [sA,sB]
     have HP3:=qz (uh HP2).two
     generalize y2.alloc (.cells (icells .i64 30 fun _=>0) 3)=y3 at HP3 ⊢
     generalize y2.heap.size=a1 at HP3 ⊢
     clear HP2 hK
     refine held_one 3 4 (by kernel_rfl) rfl rfl (by rfl) (v:=.pointer (some ⟨y3.heap.size,0,none⟩)) (w':=y3.alloc (.cells #[.slice none 0 0] 45)) ?_ True.intro ?_
     ·first | (go_simp;done) | (go_simp <;> first | exact ⟨rfl,rfl⟩ | rfl)
     simp only [sA,sB]
     have HP4:=qz (uh HP3).four
     generalize y3.alloc (.cells #[.slice none 0 0] 45)=y4 at HP4 ⊢
     generalize y3.heap.size=a3 at HP4 ⊢
     clear HP3
     have fz4:y4.frozen? ⟨a2,0,none⟩=false:=by obtain ⟨_,u,h2,_⟩:=(uh HP4).b _ rfl;simp [World.frozen?,h2]
     have fc4:∃ u,y4.cell? ⟨a2,0,none⟩=some u:=by obtain ⟨_,u,h2,_⟩:=(uh HP4).b _ rfl;exact ⟨u,by simp [World.cell?,h2]⟩
     obtain ⟨u4,fc4⟩:=fc4
     refine held_skip 4 (by kernel_rfl) rfl rfl (by rfl) (w':=y4.setCell ⟨a2,0,none⟩ (.slice (some ⟨a0,0,none⟩) 286 286)) ?_ True.intro ?_
     ·first | (go_simp;done) | (go_simp <;> rfl)
     have HP5:=qz (uh HP4).store
     clear fz4 fc4
     generalize y4.setCell ⟨a2,0,none⟩ (.slice (some ⟨a0,0,none⟩) 286 286)=y5 at HP5 ⊢
     clear HP4
     have fz4:y5.frozen? ⟨a3,0,none⟩=false:=by obtain ⟨_,u,h2⟩:=(uh HP5).c _ rfl;simp [World.frozen?,h2]
     have fc4:∃ u,y5.cell? ⟨a3,0,none⟩=some u:=by obtain ⟨_,u,h2⟩:=(uh HP5).c _ rfl;exact ⟨u,by simp [World.cell?,h2]⟩
     obtain ⟨u4,fc4⟩:=fc4
     refine held_skip 5 (by kernel_rfl) rfl rfl (by rfl) (w':=y5.setCell ⟨a3,0,none⟩ (.slice (some ⟨a1,0,none⟩) 30 30)) ?_ True.intro ?_
     ·first | (go_simp;done) | (go_simp <;> rfl)
     clear fz4 fc4
     refine wpAnyH_done (by kernel_rfl) ?_ _
     refine NoPanic.normal ?_
     go_wp2_with fail
     go_meet
     exact ⟨_,_,_,_,(uh HP5).done⟩
    ·refine held_go 3 4 hK rfl (by rfl) (v:=.pointer (some ⟨y2.heap.size,0,none⟩)) (w':=y2.alloc (.cells #[.slice none 0 0] 45)) ?_ True.intro ?_
     ·first | (go_simp;done) | (go_simp <;> first | exact ⟨rfl,rfl⟩ | rfl)
     simp only [sA,sB]
     have HP3:=qz (uh HP2).four
     generalize y2.alloc (.cells #[.slice none 0 0] 45)=y3 at HP3 ⊢
     generalize y2.heap.size=a3 at HP3 ⊢
     clear HP2 hK
     refine held_two (i:=1) (j:=4) (by kernel_rfl) rfl rfl (fun K hK=>?_) (fun K hK=>?_)
     ·refine held_go 1 11 hK rfl (by rfl) (v:=.slice (some ⟨y3.heap.size,0,none⟩) 30 30) (w':=y3.alloc (.cells (icells .i64 30 fun _=>0) 3)) ?_ True.intro ?_
      ·first | (go_simp;done) | (go_simp <;> first | exact ⟨rfl,rfl⟩ | rfl)
      simp only [sA,sB]
      have HP4:=qz (uh HP3).two
      generalize y3.alloc (.cells (icells .i64 30 fun _=>0) 3)=y4 at HP4 ⊢
      generalize y3.heap.size=a1 at HP4 ⊢
      clear HP3 hK
      have fz4:y4.frozen? ⟨a2,0,none⟩=false:=by obtain ⟨_,u,h2,_⟩:=(uh HP4).b _ rfl;simp [World.frozen?,h2]
      have fc4:∃ u,y4.cell? ⟨a2,0,none⟩=some u:=by obtain ⟨_,u,h2,_⟩:=(uh HP4).b _ rfl;exact ⟨u,by simp [World.cell?,h2]⟩
      obtain ⟨u4,fc4⟩:=fc4
      refine held_skip 4 (by kernel_rfl) rfl rfl (by rfl) (w':=y4.setCell ⟨a2,0,none⟩ (.slice (some ⟨a0,0,none⟩) 286 286)) ?_ True.intro ?_
      ·first | (go_simp;done) | (go_simp <;> rfl)
      have HP5:=qz (uh HP4).store
      clear fz4 fc4
      generalize y4.setCell ⟨a2,0,none⟩ (.slice (some ⟨a0,0,none⟩) 286 286)=y5 at HP5 ⊢
      clear HP4
      have fz4:y5.frozen? ⟨a3,0,none⟩=false:=by obtain ⟨_,u,h2⟩:=(uh HP5).c _ rfl;simp [World.frozen?,h2]
      have fc4:∃ u,y5.cell? ⟨a3,0,none⟩=some u:=by obtain ⟨_,u,h2⟩:=(uh HP5).c _ rfl;exact ⟨u,by simp [World.cell?,h2]⟩
      obtain ⟨u4,fc4⟩:=fc4
      refine held_skip 5 (by kernel_rfl) rfl rfl (by rfl) (w':=y5.setCell ⟨a3,0,none⟩ (.slice (some ⟨a1,0,none⟩) 30 30)) ?_ True.intro ?_
      ·first | (go_simp;done) | (go_simp <;> rfl)
      clear fz4 fc4
      refine wpAnyH_done (by kernel_rfl) ?_ _
      refine NoPanic.normal ?_
      go_wp2_with fail
      go_meet
      exact ⟨_,_,_,_,(uh HP5).done⟩
     ·have fz4:y3.frozen? ⟨a2,0,none⟩=false:=by obtain ⟨_,u,h2,_⟩:=(uh HP3).b _ rfl;simp [World.frozen?,h2]
      have fc4:∃ u,y3.cell? ⟨a2,0,none⟩=some u:=by obtain ⟨_,u,h2,_⟩:=(uh HP3).b _ rfl;exact ⟨u,by simp [World.cell?,h2]⟩
      obtain ⟨u4,fc4⟩:=fc4
      refine held_go_skip 4 hK rfl (by rfl) (w':=y3.setCell ⟨a2,0,none⟩ (.slice (some ⟨a0,0,none⟩) 286 286)) ?_ True.intro ?_
      ·first | (go_simp;done) | (go_simp <;> rfl)
      have HP4:=qz (uh HP3).store
      clear fz4 fc4
      generalize y3.setCell ⟨a2,0,none⟩ (.slice (some ⟨a0,0,none⟩) 286 286)=y4 at HP4 ⊢
      clear HP3 hK
      refine held_one 1 11 (by kernel_rfl) rfl rfl (by rfl) (v:=.slice (some ⟨y4.heap.size,0,none⟩) 30 30) (w':=y4.alloc (.cells (icells .i64 30 fun _=>0) 3)) ?_ True.intro ?_
      ·first | (go_simp;done) | (go_simp <;> first | exact ⟨rfl,rfl⟩ | rfl)
      simp only [sA,sB]
      have HP5:=qz (uh HP4).two
      generalize y4.alloc (.cells (icells .i64 30 fun _=>0) 3)=y5 at HP5 ⊢
      generalize y4.heap.size=a1 at HP5 ⊢
      clear HP4
      have fz4:y5.frozen? ⟨a3,0,none⟩=false:=by obtain ⟨_,u,h2⟩:=(uh HP5).c _ rfl;simp [World.frozen?,h2]
      have fc4:∃ u,y5.cell? ⟨a3,0,none⟩=some u:=by obtain ⟨_,u,h2⟩:=(uh HP5).c _ rfl;exact ⟨u,by simp [World.cell?,h2]⟩
      obtain ⟨u4,fc4⟩:=fc4
      refine held_skip 5 (by kernel_rfl) rfl rfl (by rfl) (w':=y5.setCell ⟨a3,0,none⟩ (.slice (some ⟨a1,0,none⟩) 30 30)) ?_ True.intro ?_
      ·first | (go_simp;done) | (go_simp <;> rfl)
      clear fz4 fc4
      refine wpAnyH_done (by kernel_rfl) ?_ _
      refine NoPanic.normal ?_
      go_wp2_with fail
      go_meet
      exact ⟨_,_,_,_,(uh HP5).done⟩
   ·refine held_go 1 11 hK rfl (by rfl) (v:=.slice (some ⟨y1.heap.size,0,none⟩) 30 30) (w':=y1.alloc (.cells (icells .i64 30 fun _=>0) 3)) ?_ True.intro ?_
    ·first | (go_simp;done) | (go_simp <;> first | exact ⟨rfl,rfl⟩ | rfl)
    simp only [sA,sB]
    have HP2:=qz (uh HP1).two
    generalize y1.alloc (.cells (icells .i64 30 fun _=>0) 3)=y2 at HP2 ⊢
    generalize y1.heap.size=a1 at HP2 ⊢
    clear HP1 hK
    refine held_two (i:=0) (j:=3) (by kernel_rfl) rfl rfl (fun K hK=>?_) (fun K hK=>?_)
    ·refine held_go 0 10 hK rfl (by rfl) (v:=.slice (some ⟨y2.heap.size,0,none⟩) 286 286) (w':=y2.alloc (.cells (icells .i64 286 fun _=>0) 3)) ?_ True.intro ?_
     ·first | (go_simp;done) | (go_simp <;> first | exact ⟨rfl,rfl⟩ | rfl)
     simp only [sA,sB]
     have HP3:=qz (uh HP2).one
     generalize y2.alloc (.cells (icells .i64 286 fun _=>0) 3)=y3 at HP3 ⊢
     generalize y2.heap.size=a0 at HP3 ⊢
     clear HP2 hK
     refine held_one 3 4 (by kernel_rfl) rfl rfl (by rfl) (v:=.pointer (some ⟨y3.heap.size,0,none⟩)) (w':=y3.alloc (.cells #[.slice none 0 0] 45)) ?_ True.intro ?_
     ·first | (go_simp;done) | (go_simp <;> first | exact ⟨rfl,rfl⟩ | rfl)
     simp only [sA,sB]
     have HP4:=qz (uh HP3).four
     generalize y3.alloc (.cells #[.slice none 0 0] 45)=y4 at HP4 ⊢
     generalize y3.heap.size=a3 at HP4 ⊢
     clear HP3
     have fz4:y4.frozen? ⟨a2,0,none⟩=false:=by obtain ⟨_,u,h2,_⟩:=(uh HP4).b _ rfl;simp [World.frozen?,h2]
     have fc4:∃ u,y4.cell? ⟨a2,0,none⟩=some u:=by obtain ⟨_,u,h2,_⟩:=(uh HP4).b _ rfl;exact ⟨u,by simp [World.cell?,h2]⟩
     obtain ⟨u4,fc4⟩:=fc4
     refine held_skip 4 (by kernel_rfl) rfl rfl (by rfl) (w':=y4.setCell ⟨a2,0,none⟩ (.slice (some ⟨a0,0,none⟩) 286 286)) ?_ True.intro ?_
     ·first | (go_simp;done) | (go_simp <;> rfl)
     have HP5:=qz (uh HP4).store
     clear fz4 fc4
     generalize y4.setCell ⟨a2,0,none⟩ (.slice (some ⟨a0,0,none⟩) 286 286)=y5 at HP5 ⊢
     clear HP4
     have fz4:y5.frozen? ⟨a3,0,none⟩=false:=by obtain ⟨_,u,h2⟩:=(uh HP5).c _ rfl;simp [World.frozen?,h2]
     have fc4:∃ u,y5.cell? ⟨a3,0,none⟩=some u:=by obtain ⟨_,u,h2⟩:=(uh HP5).c _ rfl;exact ⟨u,by simp [World.cell?,h2]⟩
     obtain ⟨u4,fc4⟩:=fc4
     refine held_skip 5 (by kernel_rfl) rfl rfl (by rfl) (w':=y5.setCell ⟨a3,0,none⟩ (.slice (some ⟨a1,0,none⟩) 30 30)) ?_ True.intro ?_
     ·first | (go_simp;done) | (go_simp <;> rfl)
     clear fz4 fc4
     refine wpAnyH_done (by kernel_rfl) ?_ _
     refine NoPanic.normal ?_
     go_wp2_with fail
     go_meet
     exact ⟨_,_,_,_,(uh HP5).done⟩
    ·refine held_go 3 4 hK rfl (by rfl) (v:=.pointer (some ⟨y2.heap.size,0,none⟩)) (w':=y2.alloc (.cells #[.slice none 0 0] 45)) ?_ True.intro ?_
     ·first | (go_simp;done) | (go_simp <;> first | exact ⟨rfl,rfl⟩ | rfl)
     simp only [sA,sB]
     have HP3:=qz (uh HP2).four
     generalize y2.alloc (.cells #[.slice none 0 0] 45)=y3 at HP3 ⊢
     generalize y2.heap.size=a3 at HP3 ⊢
     clear HP2 hK
     refine held_one 0 10 (by kernel_rfl) rfl rfl (by rfl) (v:=.slice (some ⟨y3.heap.size,0,none⟩) 286 286) (w':=y3.alloc (.cells (icells .i64 286 fun _=>0) 3)) ?_ True.intro ?_
     ·first | (go_simp;done) | (go_simp <;> first | exact ⟨rfl,rfl⟩ | rfl)
     simp only [sA,sB]
     have HP4:=qz (uh HP3).one
     generalize y3.alloc (.cells (icells .i64 286 fun _=>0) 3)=y4 at HP4 ⊢
     generalize y3.heap.size=a0 at HP4 ⊢
     clear HP3
     have fz4:y4.frozen? ⟨a2,0,none⟩=false:=by obtain ⟨_,u,h2,_⟩:=(uh HP4).b _ rfl;simp [World.frozen?,h2]
     have fc4:∃ u,y4.cell? ⟨a2,0,none⟩=some u:=by obtain ⟨_,u,h2,_⟩:=(uh HP4).b _ rfl;exact ⟨u,by simp [World.cell?,h2]⟩
     obtain ⟨u4,fc4⟩:=fc4
     refine held_skip 4 (by kernel_rfl) rfl rfl (by rfl) (w':=y4.setCell ⟨a2,0,none⟩ (.slice (some ⟨a0,0,none⟩) 286 286)) ?_ True.intro ?_
     ·first | (go_simp;done) | (go_simp <;> rfl)
     have HP5:=qz (uh HP4).store
     clear fz4 fc4
     generalize y4.setCell ⟨a2,0,none⟩ (.slice (some ⟨a0,0,none⟩) 286 286)=y5 at HP5 ⊢
     clear HP4
     have fz4:y5.frozen? ⟨a3,0,none⟩=false:=by obtain ⟨_,u,h2⟩:=(uh HP5).c _ rfl;simp [World.frozen?,h2]
     have fc4:∃ u,y5.cell? ⟨a3,0,none⟩=some u:=by obtain ⟨_,u,h2⟩:=(uh HP5).c _ rfl;exact ⟨u,by simp [World.cell?,h2]⟩
     obtain ⟨u4,fc4⟩:=fc4
     refine held_skip 5 (by kernel_rfl) rfl rfl (by rfl) (w':=y5.setCell ⟨a3,0,none⟩ (.slice (some ⟨a1,0,none⟩) 30 30)) ?_ True.intro ?_
     ·first | (go_simp;done) | (go_simp <;> rfl)
     clear fz4 fc4
     refine wpAnyH_done (by kernel_rfl) ?_ _
     refine NoPanic.normal ?_
     go_wp2_with fail
     go_meet
     exact ⟨_,_,_,_,(uh HP5).done⟩
   ·refine held_go 3 4 hK rfl (by rfl) (v:=.pointer (some ⟨y1.heap.size,0,none⟩)) (w':=y1.alloc (.cells #[.slice none 0 0] 45)) ?_ True.intro ?_
    ·first | (go_simp;done) | (go_simp <;> first | exact ⟨rfl,rfl⟩ | rfl)
    simp only [sA,sB]
    have HP2:=qz (uh HP1).four
    generalize y1.alloc (.cells #[.slice none 0 0] 45)=y2 at HP2 ⊢
    generalize y1.heap.size=a3 at HP2 ⊢
    clear HP1 hK
    refine held_two (i:=0) (j:=1) (by kernel_rfl) rfl rfl (fun K hK=>?_) (fun K hK=>?_)
    ·refine held_go 0 10 hK rfl (by rfl) (v:=.slice (some ⟨y2.heap.size,0,none⟩) 286 286) (w':=y2.alloc (.cells (icells .i64 286 fun _=>0) 3)) ?_ True.intro ?_
     ·first | (go_simp;done) | (go_simp <;> first | exact ⟨rfl,rfl⟩ | rfl)
     simp only [sA,sB]
     have HP3:=qz (uh HP2).one
     generalize y2.alloc (.cells (icells .i64 286 fun _=>0) 3)=y3 at HP3 ⊢
     generalize y2.heap.size=a0 at HP3 ⊢
     clear HP2 hK
     refine held_two (i:=1) (j:=4) (by kernel_rfl) rfl rfl (fun K hK=>?_) (fun K hK=>?_)
     ·refine held_go 1 11 hK rfl (by rfl) (v:=.slice (some ⟨y3.heap.size,0,none⟩) 30 30) (w':=y3.alloc (.cells (icells .i64 30 fun _=>0) 3)) ?_ True.intro ?_
      ·first | (go_simp;done) | (go_simp <;> first | exact ⟨rfl,rfl⟩ | rfl)
      simp only [sA,sB]
      have HP4:=qz (uh HP3).two
      generalize y3.alloc (.cells (icells .i64 30 fun _=>0) 3)=y4 at HP4 ⊢
      generalize y3.heap.size=a1 at HP4 ⊢
      clear HP3 hK
      have fz4:y4.frozen? ⟨a2,0,none⟩=false:=by obtain ⟨_,u,h2,_⟩:=(uh HP4).b _ rfl;simp [World.frozen?,h2]
      have fc4:∃ u,y4.cell? ⟨a2,0,none⟩=some u:=by obtain ⟨_,u,h2,_⟩:=(uh HP4).b _ rfl;exact ⟨u,by simp [World.cell?,h2]⟩
      obtain ⟨u4,fc4⟩:=fc4
      refine held_skip 4 (by kernel_rfl) rfl rfl (by rfl) (w':=y4.setCell ⟨a2,0,none⟩ (.slice (some ⟨a0,0,none⟩) 286 286)) ?_ True.intro ?_
      ·first | (go_simp;done) | (go_simp <;> rfl)
      have HP5:=qz (uh HP4).store
      clear fz4 fc4
      generalize y4.setCell ⟨a2,0,none⟩ (.slice (some ⟨a0,0,none⟩) 286 286)=y5 at HP5 ⊢
      clear HP4
      have fz4:y5.frozen? ⟨a3,0,none⟩=false:=by obtain ⟨_,u,h2⟩:=(uh HP5).c _ rfl;simp [World.frozen?,h2]
      have fc4:∃ u,y5.cell? ⟨a3,0,none⟩=some u:=by obtain ⟨_,u,h2⟩:=(uh HP5).c _ rfl;exact ⟨u,by simp [World.cell?,h2]⟩
      obtain ⟨u4,fc4⟩:=fc4
      refine held_skip 5 (by kernel_rfl) rfl rfl (by rfl) (w':=y5.setCell ⟨a3,0,none⟩ (.slice (some ⟨a1,0,none⟩) 30 30)) ?_ True.intro ?_
      ·first | (go_simp;done) | (go_simp <;> rfl)
      clear fz4 fc4
      refine wpAnyH_done (by kernel_rfl) ?_ _
      refine NoPanic.normal ?_
      go_wp2_with fail
      go_meet
      exact ⟨_,_,_,_,(uh HP5).done⟩
     ·have fz4:y3.frozen? ⟨a2,0,none⟩=false:=by obtain ⟨_,u,h2,_⟩:=(uh HP3).b _ rfl;simp [World.frozen?,h2]
      have fc4:∃ u,y3.cell? ⟨a2,0,none⟩=some u:=by obtain ⟨_,u,h2,_⟩:=(uh HP3).b _ rfl;exact ⟨u,by simp [World.cell?,h2]⟩
      obtain ⟨u4,fc4⟩:=fc4
      refine held_go_skip 4 hK rfl (by rfl) (w':=y3.setCell ⟨a2,0,none⟩ (.slice (some ⟨a0,0,none⟩) 286 286)) ?_ True.intro ?_
      ·first | (go_simp;done) | (go_simp <;> rfl)
      have HP4:=qz (uh HP3).store
      clear fz4 fc4
      generalize y3.setCell ⟨a2,0,none⟩ (.slice (some ⟨a0,0,none⟩) 286 286)=y4 at HP4 ⊢
      clear HP3 hK
      refine held_one 1 11 (by kernel_rfl) rfl rfl (by rfl) (v:=.slice (some ⟨y4.heap.size,0,none⟩) 30 30) (w':=y4.alloc (.cells (icells .i64 30 fun _=>0) 3)) ?_ True.intro ?_
      ·first | (go_simp;done) | (go_simp <;> first | exact ⟨rfl,rfl⟩ | rfl)
      simp only [sA,sB]
      have HP5:=qz (uh HP4).two
      generalize y4.alloc (.cells (icells .i64 30 fun _=>0) 3)=y5 at HP5 ⊢
      generalize y4.heap.size=a1 at HP5 ⊢
      clear HP4
      have fz4:y5.frozen? ⟨a3,0,none⟩=false:=by obtain ⟨_,u,h2⟩:=(uh HP5).c _ rfl;simp [World.frozen?,h2]
      have fc4:∃ u,y5.cell? ⟨a3,0,none⟩=some u:=by obtain ⟨_,u,h2⟩:=(uh HP5).c _ rfl;exact ⟨u,by simp [World.cell?,h2]⟩
      obtain ⟨u4,fc4⟩:=fc4
      refine held_skip 5 (by kernel_rfl) rfl rfl (by rfl) (w':=y5.setCell ⟨a3,0,none⟩ (.slice (some ⟨a1,0,none⟩) 30 30)) ?_ True.intro ?_
      ·first | (go_simp;done) | (go_simp <;> rfl)
      clear fz4 fc4
      refine wpAnyH_done (by kernel_rfl) ?_ _
      refine NoPanic.normal ?_
      go_wp2_with fail
      go_meet
      exact ⟨_,_,_,_,(uh HP5).done⟩
    ·refine held_go 1 11 hK rfl (by rfl) (v:=.slice (some ⟨y2.heap.size,0,none⟩) 30 30) (w':=y2.alloc (.cells (icells .i64 30 fun _=>0) 3)) ?_ True.intro ?_
     ·first | (go_simp;done) | (go_simp <;> first | exact ⟨rfl,rfl⟩ | rfl)
     simp only [sA,sB]
     have HP3:=qz (uh HP2).two
     generalize y2.alloc (.cells (icells .i64 30 fun _=>0) 3)=y3 at HP3 ⊢
     generalize y2.heap.size=a1 at HP3 ⊢
     clear HP2 hK
     refine held_one 0 10 (by kernel_rfl) rfl rfl (by rfl) (v:=.slice (some ⟨y3.heap.size,0,none⟩) 286 286) (w':=y3.alloc (.cells (icells .i64 286 fun _=>0) 3)) ?_ True.intro ?_
     ·first | (go_simp;done) | (go_simp <;> first | exact ⟨rfl,rfl⟩ | rfl)
     simp only [sA,sB]
     have HP4:=qz (uh HP3).one
     generalize y3.alloc (.cells (icells .i64 286 fun _=>0) 3)=y4 at HP4 ⊢
     generalize y3.heap.size=a0 at HP4 ⊢
     clear HP3
     have fz4:y4.frozen? ⟨a2,0,none⟩=false:=by obtain ⟨_,u,h2,_⟩:=(uh HP4).b _ rfl;simp [World.frozen?,h2]
     have fc4:∃ u,y4.cell? ⟨a2,0,none⟩=some u:=by obtain ⟨_,u,h2,_⟩:=(uh HP4).b _ rfl;exact ⟨u,by simp [World.cell?,h2]⟩
     obtain ⟨u4,fc4⟩:=fc4
     refine held_skip 4 (by kernel_rfl) rfl rfl (by rfl) (w':=y4.setCell ⟨a2,0,none⟩ (.slice (some ⟨a0,0,none⟩) 286 286)) ?_ True.intro ?_
     ·first | (go_simp;done) | (go_simp <;> rfl)
     have HP5:=qz (uh HP4).store
     clear fz4 fc4
     generalize y4.setCell ⟨a2,0,none⟩ (.slice (some ⟨a0,0,none⟩) 286 286)=y5 at HP5 ⊢
     clear HP4
     have fz4:y5.frozen? ⟨a3,0,none⟩=false:=by obtain ⟨_,u,h2⟩:=(uh HP5).c _ rfl;simp [World.frozen?,h2]
     have fc4:∃ u,y5.cell? ⟨a3,0,none⟩=some u:=by obtain ⟨_,u,h2⟩:=(uh HP5).c _ rfl;exact ⟨u,by simp [World.cell?,h2]⟩
     obtain ⟨u4,fc4⟩:=fc4
     refine held_skip 5 (by kernel_rfl) rfl rfl (by rfl) (w':=y5.setCell ⟨a3,0,none⟩ (.slice (some ⟨a1,0,none⟩) 30 30)) ?_ True.intro ?_
     ·first | (go_simp;done) | (go_simp <;> rfl)
     clear fz4 fc4
     refine wpAnyH_done (by kernel_rfl) ?_ _
     refine NoPanic.normal ?_
     go_wp2_with fail
     go_meet
     exact ⟨_,_,_,_,(uh HP5).done⟩
  ·refine held_go 3 4 hK rfl (by rfl) (v:=.pointer (some ⟨y0.heap.size,0,none⟩)) (w':=y0.alloc (.cells #[.slice none 0 0] 45)) ?_ True.intro ?_
   ·first | (go_simp;done) | (go_simp <;> first | exact ⟨rfl,rfl⟩ | rfl)
   simp only [sA,sB]
   have HP1:=qz (uh HP0).four
   generalize y0.alloc (.cells #[.slice none 0 0] 45)=y1 at HP1 ⊢
   generalize y0.heap.size=a3 at HP1 ⊢
   clear HP0 hK
   refine held_three (i:=0) (j:=1) (k:=2) (by kernel_rfl) rfl rfl rfl (fun K hK=>?_) (fun K hK=>?_) (fun K hK=>?_)
   ·refine held_go 0 10 hK rfl (by rfl) (v:=.slice (some ⟨y1.heap.size,0,none⟩) 286 286) (w':=y1.alloc (.cells (icells .i64 286 fun _=>0) 3)) ?_ True.intro ?_
    ·first | (go_simp;done) | (go_simp <;> first | exact ⟨rfl,rfl⟩ | rfl)
    simp only [sA,sB]
    have HP2:=qz (uh HP1).one
    generalize y1.alloc (.cells (icells .i64 286 fun _=>0) 3)=y2 at HP2 ⊢
    generalize y1.heap.size=a0 at HP2 ⊢
    clear HP1 hK
    refine held_two (i:=1) (j:=2) (by kernel_rfl) rfl rfl (fun K hK=>?_) (fun K hK=>?_)
    ·refine held_go 1 11 hK rfl (by rfl) (v:=.slice (some ⟨y2.heap.size,0,none⟩) 30 30) (w':=y2.alloc (.cells (icells .i64 30 fun _=>0) 3)) ?_ True.intro ?_
     ·first | (go_simp;done) | (go_simp <;> first | exact ⟨rfl,rfl⟩ | rfl)
     simp only [sA,sB]
     have HP3:=qz (uh HP2).two
     generalize y2.alloc (.cells (icells .i64 30 fun _=>0) 3)=y3 at HP3 ⊢
     generalize y2.heap.size=a1 at HP3 ⊢
     clear HP2 hK
     refine held_one 2 3 (by kernel_rfl) rfl rfl (by rfl) (v:=.pointer (some ⟨y3.heap.size,0,none⟩)) (w':=y3.alloc (.cells #[.slice none 0 0] 45)) ?_ True.intro ?_
     ·first | (go_simp;done) | (go_simp <;> first | exact ⟨rfl,rfl⟩ | rfl)
     simp only [sA,sB]
     have HP4:=qz (uh HP3).three
     generalize y3.alloc (.cells #[.slice none 0 0] 45)=y4 at HP4 ⊢
     generalize y3.heap.size=a2 at HP4 ⊢
     clear HP3
     have fz4:y4.frozen? ⟨a2,0,none⟩=false:=by obtain ⟨_,u,h2,_⟩:=(uh HP4).b _ rfl;simp [World.frozen?,h2]
     have fc4:∃ u,y4.cell? ⟨a2,0,none⟩=some u:=by obtain ⟨_,u,h2,_⟩:=(uh HP4).b _ rfl;exact ⟨u,by simp [World.cell?,h2]⟩
     obtain ⟨u4,fc4⟩:=fc4
     refine held_skip 4 (by kernel_rfl) rfl rfl (by rfl) (w':=y4.setCell ⟨a2,0,none⟩ (.slice (some ⟨a0,0,none⟩) 286 286)) ?_ True.intro ?_
     ·first | (go_simp;done) | (go_simp <;> rfl)
     have HP5:=qz (uh HP4).store
     clear fz4 fc4
     generalize y4.setCell ⟨a2,0,none⟩ (.slice (some ⟨a0,0,none⟩) 286 286)=y5 at HP5 ⊢
     clear HP4
     have fz4:y5.frozen? ⟨a3,0,none⟩=false:=by obtain ⟨_,u,h2⟩:=(uh HP5).c _ rfl;simp [World.frozen?,h2]
     have fc4:∃ u,y5.cell? ⟨a3,0,none⟩=some u:=by obtain ⟨_,u,h2⟩:=(uh HP5).c _ rfl;exact ⟨u,by simp [World.cell?,h2]⟩
     obtain ⟨u4,fc4⟩:=fc4
     refine held_skip 5 (by kernel_rfl) rfl rfl (by rfl) (w':=y5.setCell ⟨a3,0,none⟩ (.slice (some ⟨a1,0,none⟩) 30 30)) ?_ True.intro ?_
     ·first | (go_simp;done) | (go_simp <;> rfl)
     clear fz4 fc4
     refine wpAnyH_done (by kernel_rfl) ?_ _
     refine NoPanic.normal ?_
     go_wp2_with fail
     go_meet
     exact ⟨_,_,_,_,(uh HP5).done⟩
    ·refine held_go 2 3 hK rfl (by rfl) (v:=.pointer (some ⟨y2.heap.size,0,none⟩)) (w':=y2.alloc (.cells #[.slice none 0 0] 45)) ?_ True.intro ?_
     ·first | (go_simp;done) | (go_simp <;> first | exact ⟨rfl,rfl⟩ | rfl)
     simp only [sA,sB]
     have HP3:=qz (uh HP2).three
     generalize y2.alloc (.cells #[.slice none 0 0] 45)=y3 at HP3 ⊢
     generalize y2.heap.size=a2 at HP3 ⊢
     clear HP2 hK
     refine held_two (i:=1) (j:=4) (by kernel_rfl) rfl rfl (fun K hK=>?_) (fun K hK=>?_)
     ·refine held_go 1 11 hK rfl (by rfl) (v:=.slice (some ⟨y3.heap.size,0,none⟩) 30 30) (w':=y3.alloc (.cells (icells .i64 30 fun _=>0) 3)) ?_ True.intro ?_
      ·first | (go_simp;done) | (go_simp <;> first | exact ⟨rfl,rfl⟩ | rfl)
      simp only [sA,sB]
      have HP4:=qz (uh HP3).two
      generalize y3.alloc (.cells (icells .i64 30 fun _=>0) 3)=y4 at HP4 ⊢
      generalize y3.heap.size=a1 at HP4 ⊢
      clear HP3 hK
      have fz4:y4.frozen? ⟨a2,0,none⟩=false:=by obtain ⟨_,u,h2,_⟩:=(uh HP4).b _ rfl;simp [World.frozen?,h2]
      have fc4:∃ u,y4.cell? ⟨a2,0,none⟩=some u:=by obtain ⟨_,u,h2,_⟩:=(uh HP4).b _ rfl;exact ⟨u,by simp [World.cell?,h2]⟩
      obtain ⟨u4,fc4⟩:=fc4
      refine held_skip 4 (by kernel_rfl) rfl rfl (by rfl) (w':=y4.setCell ⟨a2,0,none⟩ (.slice (some ⟨a0,0,none⟩) 286 286)) ?_ True.intro ?_
      ·first | (go_simp;done) | (go_simp <;> rfl)
      have HP5:=qz (uh HP4).store
      clear fz4 fc4
      generalize y4.setCell ⟨a2,0,none⟩ (.slice (some ⟨a0,0,none⟩) 286 286)=y5 at HP5 ⊢
      clear HP4
      have fz4:y5.frozen? ⟨a3,0,none⟩=false:=by obtain ⟨_,u,h2⟩:=(uh HP5).c _ rfl;simp [World.frozen?,h2]
      have fc4:∃ u,y5.cell? ⟨a3,0,none⟩=some u:=by obtain ⟨_,u,h2⟩:=(uh HP5).c _ rfl;exact ⟨u,by simp [World.cell?,h2]⟩
      obtain ⟨u4,fc4⟩:=fc4
      refine held_skip 5 (by kernel_rfl) rfl rfl (by rfl) (w':=y5.setCell ⟨a3,0,none⟩ (.slice (some ⟨a1,0,none⟩) 30 30)) ?_ True.intro ?_
      ·first | (go_simp;done) | (go_simp <;> rfl)
      clear fz4 fc4
      refine wpAnyH_done (by kernel_rfl) ?_ _
      refine NoPanic.normal ?_
      go_wp2_with fail
      go_meet
      exact ⟨_,_,_,_,(uh HP5).done⟩
     ·have fz4:y3.frozen? ⟨a2,0,none⟩=false:=by obtain ⟨_,u,h2,_⟩:=(uh HP3).b _ rfl;simp [World.frozen?,h2]
      have fc4:∃ u,y3.cell? ⟨a2,0,none⟩=some u:=by obtain ⟨_,u,h2,_⟩:=(uh HP3).b _ rfl;exact ⟨u,by simp [World.cell?,h2]⟩
      obtain ⟨u4,fc4⟩:=fc4
      refine held_go_skip 4 hK rfl (by rfl) (w':=y3.setCell ⟨a2,0,none⟩ (.slice (some ⟨a0,0,none⟩) 286 286)) ?_ True.intro ?_
      ·first | (go_simp;done) | (go_simp <;> rfl)
      have HP4:=qz (uh HP3).store
      clear fz4 fc4
      generalize y3.setCell ⟨a2,0,none⟩ (.slice (some ⟨a0,0,none⟩) 286 286)=y4 at HP4 ⊢
      clear HP3 hK
      refine held_one 1 11 (by kernel_rfl) rfl rfl (by rfl) (v:=.slice (some ⟨y4.heap.size,0,none⟩) 30 30) (w':=y4.alloc (.cells (icells .i64 30 fun _=>0) 3)) ?_ True.intro ?_
      ·first | (go_simp;done) | (go_simp <;> first | exact ⟨rfl,rfl⟩ | rfl)
      simp only [sA,sB]
      have HP5:=qz (uh HP4).two
      generalize y4.alloc (.cells (icells .i64 30 fun _=>0) 3)=y5 at HP5 ⊢
      generalize y4.heap.size=a1 at HP5 ⊢
      clear HP4
      have fz4:y5.frozen? ⟨a3,0,none⟩=false:=by obtain ⟨_,u,h2⟩:=(uh HP5).c _ rfl;simp [World.frozen?,h2]
      have fc4:∃ u,y5.cell? ⟨a3,0,none⟩=some u:=by obtain ⟨_,u,h2⟩:=(uh HP5).c _ rfl;exact ⟨u,by simp [World.cell?,h2]⟩
      obtain ⟨u4,fc4⟩:=fc4
      refine held_skip 5 (by kernel_rfl) rfl rfl (by rfl) (w':=y5.setCell ⟨a3,0,none⟩ (.slice (some ⟨a1,0,none⟩) 30 30)) ?_ True.intro ?_
      ·first | (go_simp;done) | (go_simp <;> rfl)
      clear fz4 fc4
      refine wpAnyH_done (by kernel_rfl) ?_ _
      refine NoPanic.normal ?_
      go_wp2_with fail
      go_meet
      exact ⟨_,_,_,_,(uh HP5).done⟩
   ·refine held_go 1 11 hK rfl (by rfl) (v:=.slice (some ⟨y1.heap.size,0,none⟩) 30 30) (w':=y1.alloc (.cells (icells .i64 30 fun _=>0) 3)) ?_ True.intro ?_
    ·first | (go_simp;done) | (go_simp <;> first | exact ⟨rfl,rfl⟩ | rfl)
    simp only [sA,sB]
    have HP2:=qz (uh HP1).two
    generalize y1.alloc (.cells (icells .i64 30 fun _=>0) 3)=y2 at HP2 ⊢
    generalize y1.heap.size=a1 at HP2 ⊢
    clear HP1 hK
    refine held_two (i:=0) (j:=2) (by kernel_rfl) rfl rfl (fun K hK=>?_) (fun K hK=>?_)
    ·refine held_go 0 10 hK rfl (by rfl) (v:=.slice (some ⟨y2.heap.size,0,none⟩) 286 286) (w':=y2.alloc (.cells (icells .i64 286 fun _=>0) 3)) ?_ True.intro ?_
     ·first | (go_simp;done) | (go_simp <;> first | exact ⟨rfl,rfl⟩ | rfl)
     simp only [sA,sB]
     have HP3:=qz (uh HP2).one
     generalize y2.alloc (.cells (icells .i64 286 fun _=>0) 3)=y3 at HP3 ⊢
     generalize y2.heap.size=a0 at HP3 ⊢
     clear HP2 hK
     refine held_one 2 3 (by kernel_rfl) rfl rfl (by rfl) (v:=.pointer (some ⟨y3.heap.size,0,none⟩)) (w':=y3.alloc (.cells #[.slice none 0 0] 45)) ?_ True.intro ?_
     ·first | (go_simp;done) | (go_simp <;> first | exact ⟨rfl,rfl⟩ | rfl)
     simp only [sA,sB]
     have HP4:=qz (uh HP3).three
     generalize y3.alloc (.cells #[.slice none 0 0] 45)=y4 at HP4 ⊢
     generalize y3.heap.size=a2 at HP4 ⊢
     clear HP3
     have fz4:y4.frozen? ⟨a2,0,none⟩=false:=by obtain ⟨_,u,h2,_⟩:=(uh HP4).b _ rfl;simp [World.frozen?,h2]
     have fc4:∃ u,y4.cell? ⟨a2,0,none⟩=some u:=by obtain ⟨_,u,h2,_⟩:=(uh HP4).b _ rfl;exact ⟨u,by simp [World.cell?,h2]⟩
     obtain ⟨u4,fc4⟩:=fc4
     refine held_skip 4 (by kernel_rfl) rfl rfl (by rfl) (w':=y4.setCell ⟨a2,0,none⟩ (.slice (some ⟨a0,0,none⟩) 286 286)) ?_ True.intro ?_
     ·first | (go_simp;done) | (go_simp <;> rfl)
     have HP5:=qz (uh HP4).store
     clear fz4 fc4
     generalize y4.setCell ⟨a2,0,none⟩ (.slice (some ⟨a0,0,none⟩) 286 286)=y5 at HP5 ⊢
     clear HP4
     have fz4:y5.frozen? ⟨a3,0,none⟩=false:=by obtain ⟨_,u,h2⟩:=(uh HP5).c _ rfl;simp [World.frozen?,h2]
     have fc4:∃ u,y5.cell? ⟨a3,0,none⟩=some u:=by obtain ⟨_,u,h2⟩:=(uh HP5).c _ rfl;exact ⟨u,by simp [World.cell?,h2]⟩
     obtain ⟨u4,fc4⟩:=fc4
     refine held_skip 5 (by kernel_rfl) rfl rfl (by rfl) (w':=y5.setCell ⟨a3,0,none⟩ (.slice (some ⟨a1,0,none⟩) 30 30)) ?_ True.intro ?_
     ·first | (go_simp;done) | (go_simp <;> rfl)
     clear fz4 fc4
     refine wpAnyH_done (by kernel_rfl) ?_ _
     refine NoPanic.normal ?_
     go_wp2_with fail
     go_meet
     exact ⟨_,_,_,_,(uh HP5).done⟩
    ·refine held_go 2 3 hK rfl (by rfl) (v:=.pointer (some ⟨y2.heap.size,0,none⟩)) (w':=y2.alloc (.cells #[.slice none 0 0] 45)) ?_ True.intro ?_
     ·first | (go_simp;done) | (go_simp <;> first | exact ⟨rfl,rfl⟩ | rfl)
     simp only [sA,sB]
     have HP3:=qz (uh HP2).three
     generalize y2.alloc (.cells #[.slice none 0 0] 45)=y3 at HP3 ⊢
     generalize y2.heap.size=a2 at HP3 ⊢
     clear HP2 hK
     refine held_one 0 10 (by kernel_rfl) rfl rfl (by rfl) (v:=.slice (some ⟨y3.heap.size,0,none⟩) 286 286) (w':=y3.alloc (.cells (icells .i64 286 fun _=>0) 3)) ?_ True.intro ?_
     ·first | (go_simp;done) | (go_simp <;> first | exact ⟨rfl,rfl⟩ | rfl)
     simp only [sA,sB]
     have HP4:=qz (uh HP3).one
     generalize y3.alloc (.cells (icells .i64 286 fun _=>0) 3)=y4 at HP4 ⊢
     generalize y3.heap.size=a0 at HP4 ⊢
     clear HP3
     have fz4:y4.frozen? ⟨a2,0,none⟩=false:=by obtain ⟨_,u,h2,_⟩:=(uh HP4).b _ rfl;simp [World.frozen?,h2]
     have fc4:∃ u,y4.cell? ⟨a2,0,none⟩=some u:=by obtain ⟨_,u,h2,_⟩:=(uh HP4).b _ rfl;exact ⟨u,by simp [World.cell?,h2]⟩
     obtain ⟨u4,fc4⟩:=fc4
     refine held_skip 4 (by kernel_rfl) rfl rfl (by rfl) (w':=y4.setCell ⟨a2,0,none⟩ (.slice (some ⟨a0,0,none⟩) 286 286)) ?_ True.intro ?_
     ·first | (go_simp;done) | (go_simp <;> rfl)
     have HP5:=qz (uh HP4).store
     clear fz4 fc4
     generalize y4.setCell ⟨a2,0,none⟩ (.slice (some ⟨a0,0,none⟩) 286 286)=y5 at HP5 ⊢
     clear HP4
     have fz4:y5.frozen? ⟨a3,0,none⟩=false:=by obtain ⟨_,u,h2⟩:=(uh HP5).c _ rfl;simp [World.frozen?,h2]
     have fc4:∃ u,y5.cell? ⟨a3,0,none⟩=some u:=by obtain ⟨_,u,h2⟩:=(uh HP5).c _ rfl;exact ⟨u,by simp [World.cell?,h2]⟩
     obtain ⟨u4,fc4⟩:=fc4
     refine held_skip 5 (by kernel_rfl) rfl rfl (by rfl) (w':=y5.setCell ⟨a3,0,none⟩ (.slice (some ⟨a1,0,none⟩) 30 30)) ?_ True.intro ?_
     ·first | (go_simp;done) | (go_simp <;> rfl)
     clear fz4 fc4
     refine wpAnyH_done (by kernel_rfl) ?_ _
     refine NoPanic.normal ?_
     go_wp2_with fail
     go_meet
     exact ⟨_,_,_,_,(uh HP5).done⟩
   ·refine held_go 2 3 hK rfl (by rfl) (v:=.pointer (some ⟨y1.heap.size,0,none⟩)) (w':=y1.alloc (.cells #[.slice none 0 0] 45)) ?_ True.intro ?_
    ·first | (go_simp;done) | (go_simp <;> first | exact ⟨rfl,rfl⟩ | rfl)
    simp only [sA,sB]
    have HP2:=qz (uh HP1).three
    generalize y1.alloc (.cells #[.slice none 0 0] 45)=y2 at HP2 ⊢
    generalize y1.heap.size=a2 at HP2 ⊢
    clear HP1 hK
    refine held_two (i:=0) (j:=1) (by kernel_rfl) rfl rfl (fun K hK=>?_) (fun K hK=>?_)
    ·refine held_go 0 10 hK rfl (by rfl) (v:=.slice (some ⟨y2.heap.size,0,none⟩) 286 286) (w':=y2.alloc (.cells (icells .i64 286 fun _=>0) 3)) ?_ True.intro ?_
     ·first | (go_simp;done) | (go_simp <;> first | exact ⟨rfl,rfl⟩ | rfl)
     simp only [sA,sB]
     have HP3:=qz (uh HP2).one
     generalize y2.alloc (.cells (icells .i64 286 fun _=>0) 3)=y3 at HP3 ⊢
     generalize y2.heap.size=a0 at HP3 ⊢
     clear HP2 hK
     refine held_two (i:=1) (j:=4) (by kernel_rfl) rfl rfl (fun K hK=>?_) (fun K hK=>?_)
     ·refine held_go 1 11 hK rfl (by rfl) (v:=.slice (some ⟨y3.heap.size,0,none⟩) 30 30) (w':=y3.alloc (.cells (icells .i64 30 fun _=>0) 3)) ?_ True.intro ?_
      ·first | (go_simp;done) | (go_simp <;> first | exact ⟨rfl,rfl⟩ | rfl)
      simp only [sA,sB]
      have HP4:=qz (uh HP3).two
      generalize y3.alloc (.cells (icells .i64 30 fun _=>0) 3)=y4 at HP4 ⊢
      generalize y3.heap.size=a1 at HP4 ⊢
      clear HP3 hK
      have fz4:y4.frozen? ⟨a2,0,none⟩=false:=by obtain ⟨_,u,h2,_⟩:=(uh HP4).b _ rfl;simp [World.frozen?,h2]
      have fc4:∃ u,y4.cell? ⟨a2,0,none⟩=some u:=by obtain ⟨_,u,h2,_⟩:=(uh HP4).b _ rfl;exact ⟨u,by simp [World.cell?,h2]⟩
      obtain ⟨u4,fc4⟩:=fc4
      refine held_skip 4 (by kernel_rfl) rfl rfl (by rfl) (w':=y4.setCell ⟨a2,0,none⟩ (.slice (some ⟨a0,0,none⟩) 286 286)) ?_ True.intro ?_
      ·first | (go_simp;done) | (go_simp <;> rfl)
      have HP5:=qz (uh HP4).store
      clear fz4 fc4
      generalize y4.setCell ⟨a2,0,none⟩ (.slice (some ⟨a0,0,none⟩) 286 286)=y5 at HP5 ⊢
      clear HP4
      have fz4:y5.frozen? ⟨a3,0,none⟩=false:=by obtain ⟨_,u,h2⟩:=(uh HP5).c _ rfl;simp [World.frozen?,h2]
      have fc4:∃ u,y5.cell? ⟨a3,0,none⟩=some u:=by obtain ⟨_,u,h2⟩:=(uh HP5).c _ rfl;exact ⟨u,by simp [World.cell?,h2]⟩
      obtain ⟨u4,fc4⟩:=fc4
      refine held_skip 5 (by kernel_rfl) rfl rfl (by rfl) (w':=y5.setCell ⟨a3,0,none⟩ (.slice (some ⟨a1,0,none⟩) 30 30)) ?_ True.intro ?_
      ·first | (go_simp;done) | (go_simp <;> rfl)
      clear fz4 fc4
      refine wpAnyH_done (by kernel_rfl) ?_ _
      refine NoPanic.normal ?_
      go_wp2_with fail
      go_meet
      exact ⟨_,_,_,_,(uh HP5).done⟩
     ·have fz4:y3.frozen? ⟨a2,0,none⟩=false:=by obtain ⟨_,u,h2,_⟩:=(uh HP3).b _ rfl;simp [World.frozen?,h2]
      have fc4:∃ u,y3.cell? ⟨a2,0,none⟩=some u:=by obtain ⟨_,u,h2,_⟩:=(uh HP3).b _ rfl;exact ⟨u,by simp [World.cell?,h2]⟩
      obtain ⟨u4,fc4⟩:=fc4
      refine held_go_skip 4 hK rfl (by rfl) (w':=y3.setCell ⟨a2,0,none⟩ (.slice (some ⟨a0,0,none⟩) 286 286)) ?_ True.intro ?_
      ·first | (go_simp;done) | (go_simp <;> rfl)
      have HP4:=qz (uh HP3).store
      clear fz4 fc4
      generalize y3.setCell ⟨a2,0,none⟩ (.slice (some ⟨a0,0,none⟩) 286 286)=y4 at HP4 ⊢
      clear HP3 hK
      refine held_one 1 11 (by kernel_rfl) rfl rfl (by rfl) (v:=.slice (some ⟨y4.heap.size,0,none⟩) 30 30) (w':=y4.alloc (.cells (icells .i64 30 fun _=>0) 3)) ?_ True.intro ?_
      ·first | (go_simp;done) | (go_simp <;> first | exact ⟨rfl,rfl⟩ | rfl)
      simp only [sA,sB]
      have HP5:=qz (uh HP4).two
      generalize y4.alloc (.cells (icells .i64 30 fun _=>0) 3)=y5 at HP5 ⊢
      generalize y4.heap.size=a1 at HP5 ⊢
      clear HP4
      have fz4:y5.frozen? ⟨a3,0,none⟩=false:=by obtain ⟨_,u,h2⟩:=(uh HP5).c _ rfl;simp [World.frozen?,h2]
      have fc4:∃ u,y5.cell? ⟨a3,0,none⟩=some u:=by obtain ⟨_,u,h2⟩:=(uh HP5).c _ rfl;exact ⟨u,by simp [World.cell?,h2]⟩
      obtain ⟨u4,fc4⟩:=fc4
      refine held_skip 5 (by kernel_rfl) rfl rfl (by rfl) (w':=y5.setCell ⟨a3,0,none⟩ (.slice (some ⟨a1,0,none⟩) 30 30)) ?_ True.intro ?_
      ·first | (go_simp;done) | (go_simp <;> rfl)
      clear fz4 fc4
      refine wpAnyH_done (by kernel_rfl) ?_ _
      refine NoPanic.normal ?_
      go_wp2_with fail
      go_meet
      exact ⟨_,_,_,_,(uh HP5).done⟩
    ·refine held_go 1 11 hK rfl (by rfl) (v:=.slice (some ⟨y2.heap.size,0,none⟩) 30 30) (w':=y2.alloc (.cells (icells .i64 30 fun _=>0) 3)) ?_ True.intro ?_
     ·first | (go_simp;done) | (go_simp <;> first | exact ⟨rfl,rfl⟩ | rfl)
     simp only [sA,sB]
     have HP3:=qz (uh HP2).two
     generalize y2.alloc (.cells (icells .i64 30 fun _=>0) 3)=y3 at HP3 ⊢
     generalize y2.heap.size=a1 at HP3 ⊢
     clear HP2 hK
     refine held_one 0 10 (by kernel_rfl) rfl rfl (by rfl) (v:=.slice (some ⟨y3.heap.size,0,none⟩) 286 286) (w':=y3.alloc (.cells (icells .i64 286 fun _=>0) 3)) ?_ True.intro ?_
     ·first | (go_simp;done) | (go_simp <;> first | exact ⟨rfl,rfl⟩ | rfl)
     simp only [sA,sB]
     have HP4:=qz (uh HP3).one
     generalize y3.alloc (.cells (icells .i64 286 fun _=>0) 3)=y4 at HP4 ⊢
     generalize y3.heap.size=a0 at HP4 ⊢
     clear HP3
     have fz4:y4.frozen? ⟨a2,0,none⟩=false:=by obtain ⟨_,u,h2,_⟩:=(uh HP4).b _ rfl;simp [World.frozen?,h2]
     have fc4:∃ u,y4.cell? ⟨a2,0,none⟩=some u:=by obtain ⟨_,u,h2,_⟩:=(uh HP4).b _ rfl;exact ⟨u,by simp [World.cell?,h2]⟩
     obtain ⟨u4,fc4⟩:=fc4
     refine held_skip 4 (by kernel_rfl) rfl rfl (by rfl) (w':=y4.setCell ⟨a2,0,none⟩ (.slice (some ⟨a0,0,none⟩) 286 286)) ?_ True.intro ?_
     ·first | (go_simp;done) | (go_simp <;> rfl)
     have HP5:=qz (uh HP4).store
     clear fz4 fc4
     generalize y4.setCell ⟨a2,0,none⟩ (.slice (some ⟨a0,0,none⟩) 286 286)=y5 at HP5 ⊢
     clear HP4
     have fz4:y5.frozen? ⟨a3,0,none⟩=false:=by obtain ⟨_,u,h2⟩:=(uh HP5).c _ rfl;simp [World.frozen?,h2]
     have fc4:∃ u,y5.cell? ⟨a3,0,none⟩=some u:=by obtain ⟨_,u,h2⟩:=(uh HP5).c _ rfl;exact ⟨u,by simp [World.cell?,h2]⟩
     obtain ⟨u4,fc4⟩:=fc4
     refine held_skip 5 (by kernel_rfl) rfl rfl (by rfl) (w':=y5.setCell ⟨a3,0,none⟩ (.slice (some ⟨a1,0,none⟩) 30 30)) ?_ True.intro ?_
     ·first | (go_simp;done) | (go_simp <;> rfl)
     clear fz4 fc4
     refine wpAnyH_done (by kernel_rfl) ?_ _
     refine NoPanic.normal ?_
     go_wp2_with fail
     go_meet
     exact ⟨_,_,_,_,(uh HP5).done⟩
 case rest =>
  clear HP0 hm hm2
  obtain ⟨bn,bd,gn,gd,⟨rfl,rfl,r1,r2,r3,r4,r5,r6⟩⟩:=hcut
  have hne:gn≠gd:=by
   rintro rfl
   unfold IntsAt at r3 r4
   rw [r3] at r4
   have e:=Option.some.inj r4
   injection e with e1
   have:=congrArg Array.size e1
   simp [icells] at this
  have i1:=ints_ne r3 r1
  have i2:=ints_ne r3 r2
  have i3:=ints_ne r4 r1
  have i4:=ints_ne r4 r2
  have HC:Hid (Calls Tryz.prog 79 #[.slice a n cap,.func (.func 111) #[] #[.pointer (some ⟨bn,0,none⟩)],.func (.func 112) #[] #[.pointer (some ⟨bd,0,none⟩)]] wc fun e w'=>e=.returned (.tuple #[])∧IntsAt w' .i64 3 gn 286 (symCount ts)∧IntsAt w' .i64 3 gd 30 (distCount ts)∧w'.cell? ⟨bn,0,none⟩=some (.slice (some ⟨gn,0,none⟩) 286 286)∧w'.cell? ⟨bd,0,none⟩=some (.slice (some ⟨gd,0,none⟩) 30 30)∧Below w.heap.size w w'):=qz (by
   rw [uh HN]
   refine (eachCount_ok ts a cap bn bd gn gd w wc (uh HTA) (uh HTO).1 (uh HTO).2 r6 r5.1 r5.2.1 hne ⟨Ne.symm i1,Ne.symm i3,Ne.symm i2,Ne.symm i4⟩ r1 r2 r3 r4).mono ?_
   rintro e w' ⟨rfl,q1,q2,q3⟩
   have k1:=(q3.keep bn (heap_lt r1) (Ne.symm i1) (Ne.symm i3)).trans r1
   have k2:=(q3.keep bd (heap_lt r2) (Ne.symm i2) (Ne.symm i4)).trans r2
   refine ⟨rfl,q1,q2,by simp only [World.cell?,k1];rfl,by simp only [World.cell?,k2];rfl,q3.os.trans r6.os,q3.tape.trans r6.tape,q3.output.trans r6.output,Nat.le_trans r6.size q3.size,fun k hk=>?_⟩
   rw [q3.keep k (Nat.lt_of_lt_of_le hk r6.size) (by omega) (by omega)]
   exact r6.block k hk)
  clear r1 r2 r3 r4 r5 r6 hne i1 i2 i3 i4 HTA HTO HN
  go_wp2_with fail
  refine (uh HC).mono ?_
  rintro e W1 ⟨rfl,a1,a2,c1,c2,b1⟩
  have HA2:=qz a2
  have HB1:=qz b1
  have HE1:=qz (best2_ok (symCount ts) 15 286 _ W1 (reads_of a1) (by decide) (by decide) (by decide) (by decide) (uh HOK).t1)
  clear a1 a2 b1 HC
  go_wp2_with fail
  refine (uh HE1).mono ?_
  rintro e W2 ⟨g1,rfl,k1,k2,k3,k4⟩
  have c2':=cell_stays k4 c2
  have HX:Hid (oX ts=trim 257 286 (bl (symCount ts) 15 286)):=qz rfl
  have hxi:=trim_is 257 286 (bl (symCount ts) 15 286) (by rw [k2];decide)
  rw [k2] at hxi
  have HT1:Hid (Calls Tryz.prog 113 #[.slice (some ⟨g1,0,none⟩) 286 286,.int .i64 257] W2 fun e w'=>e=.returned (.slice (some ⟨g1,0,none⟩) (oX ts).length 286)∧w'=W2):=qz (by
   have:=trim_ok (bl (symCount ts) 15 286) g1 0 286 257 W2 (fun j hj=>ints_cells k3 j (by rw [k2] at hj;exact hj)) (by rw [k2];decide) (by decide) (by decide) (by rw [k2];decide)
   rw [k2] at this
   exact this)
  have HA1:=qz k3
  have HXI:Hid (257≤(oX ts).length∧(oX ts).length≤286∧∀ i,(oX ts).getD i 0=(bl (symCount ts) 15 286).getD i 0):=qz hxi
  have HB2:=qz ((uh HB1).trans (k4.mono (uh HB1).size))
  have HG1:Hid (w.heap.size≤g1):=qz (Nat.le_trans (uh HB1).size k1)
  have HA2':Hid (IntsAt W2 .i64 3 gd 30 (distCount ts)):=qz ((uh HA2).stays k4 (uh HA2).lt)
  clear k1 k2 k3 k4 hxi HX HA2 HB1 HE1 c1 c2
  go_wp2_with fail
  refine (uh HT1).mono ?_
  rintro e W ⟨rfl,rfl⟩
  have HE2:=qz (best2_ok (distCount ts) 15 30 _ W (reads_of (uh HA2')) (by decide) (by decide) (by decide) (by decide) (uh HOK).t2)
  clear HT1
  go_wp2_with fail
  refine (uh HE2).mono ?_
  rintro e W3 ⟨g2,rfl,k1,k2,k3,k4⟩
  have hyi:=trim_is 1 30 (bl (distCount ts) 15 30) (by rw [k2];decide)
  rw [k2] at hyi
  have HT2:Hid (Calls Tryz.prog 113 #[.slice (some ⟨g2,0,none⟩) 30 30,.int .i64 1] W3 fun e w'=>e=.returned (.slice (some ⟨g2,0,none⟩) (oY ts).length 30)∧w'=W3):=qz (by
   have:=trim_ok (bl (distCount ts) 15 30) g2 0 30 1 W3 (fun j hj=>ints_cells k3 j (by rw [k2] at hj;exact hj)) (by rw [k2];decide) (by decide) (by decide) (by rw [k2];decide)
   rw [k2] at this
   exact this)
  have HYI:Hid (1≤(oY ts).length∧(oY ts).length≤30∧∀ i,(oY ts).getD i 0=(bl (distCount ts) 15 30).getD i 0):=qz hyi
  have HR1:Hid (∀ V,Below W3.heap.size W3 V→RowI V g1 0 ((oX ts).map fun z:Nat=>(z:Int))∧ReadsN V (.slice (some ⟨g1,0,none⟩) (oX ts).length 286) (oX ts)):=qz (fun V hV=>row_of (((uh HA1).stays k4 (uh HA1).lt).stays hV (Nat.lt_of_lt_of_le (uh HA1).lt k4.size)) (oX ts) (uh HXI).2.1 (uh HXI).2.2)
  have HR2:Hid (∀ V,Below W3.heap.size W3 V→RowI V g2 0 ((oY ts).map fun z:Nat=>(z:Int))∧ReadsN V (.slice (some ⟨g2,0,none⟩) (oY ts).length 30) (oY ts)):=qz (fun V hV=>row_of (k3.stays hV k3.lt) (oY ts) hyi.2.1 hyi.2.2)
  have HB3:=qz ((uh HB2).trans (k4.mono (uh HB2).size))
  have HL:Hid (g1<W3.heap.size∧g2<W3.heap.size):=qz ⟨Nat.lt_of_lt_of_le (uh HA1).lt k4.size,k3.lt⟩
  clear k1 k2 k3 k4 hyi HA1 HA2' HE2 c2' HB2 HG1
  go_wp2_with fail
  refine (uh HT2).mono ?_
  rintro e V3 ⟨rfl,rfl⟩
  clear HT2
  obtain ⟨W4,hW4⟩:∃ W4,W4=V3.alloc (.cells #[.slice (some ⟨g1,0,none⟩) (oX ts).length 286,.slice (some ⟨g2,0,none⟩) (oY ts).length 30] 45):=⟨_,rfl⟩
  have b4:Below V3.heap.size V3 W4:=by rw [hW4];exact (Below.refl _ _).alloc (Nat.le_refl _) _
  have x4:W4.heap[V3.heap.size]?=some (.cells #[.slice (some ⟨g1,0,none⟩) (oX ts).length 286,.slice (some ⟨g2,0,none⟩) (oY ts).length 30] 45 (0,0)):=by rw [hW4];exact heap_alloc_new _ _
  have HC4:Hid (Calls Tryz.prog 116 #[.slice (some ⟨V3.heap.size,0,none⟩) 2 2] W4 fun e w'=>∃ v,e=.returned v∧w'.ownsRow W4.heap.size 3 1 v ((oX ts++oY ts).map fun z:Nat=>(z:Int)).length (((oX ts++oY ts).map fun z:Nat=>(z:Int)).map iv)∧Below W4.heap.size W4 w'):=qz (by
   have hx:=uh HXI
   have hy:=uh HYI
   have:=concat_ok ((oX ts).map fun z:Nat=>(z:Int)) ((oY ts).map fun z:Nat=>(z:Int)) V3.heap.size g1 0 286 g2 0 30 W4 (by simpa using x4) (uh HR1 W4 b4).1 (uh HR2 W4 b4).1 (Nat.lt_of_lt_of_le (uh HL).1 b4.size) (Nat.lt_of_lt_of_le (uh HL).2 b4.size) (by simp;omega) (by simp;omega) (by simp;omega) (by simp;omega) (by simp;omega) (by simp;omega)
   rw [← List.map_append] at this
   exact this)
  have HB4:=qz b4
  clear b4 x4
  go_wp2_with fail
  rw [← hW4]
  clear hW4
  refine (uh HC4).mono ?_
  rintro e W5 ⟨v5,rfl,k1,k2⟩
  obtain ⟨a5,cap5,e5,k3,k4⟩:=own_reads k1
  obtain ⟨nl,hnl⟩:∃ nl,nl=((oX ts++oY ts).map fun z:Nat=>(z:Int)).length:=⟨_,rfl⟩
  obtain rfl:v5=.slice a5 nl cap5:=by rw [e5,hnl]
  have HRW:Hid (Calls Tryz.prog 115 #[.slice a5 nl cap5] W5 fun e w'=>∃ wv,e=.returned wv∧w'.ownsRow W5.heap.size 141 3 wv (oR ts).length (wcs (oR ts))∧Below W5.heap.size W5 w'):=qz (by
   rw [hnl]
   rw [e5] at k4
   exact runWords_ok _ a5 cap5 W5 k4 k3 (by
    have hx:=uh HXI
    have hy:=uh HYI
    simp
    omega))
  have HB5:Hid (Below V3.heap.size V3 W5):=qz ((uh HB4).trans (k2.mono (uh HB4).size))
  clear k1 k2 k3 k4 HC4 HB4 e5 hnl
  go_wp2_with fail
  refine (uh HRW).mono ?_
  rintro e W6 ⟨wv6,rfl,k1,k2⟩
  obtain ⟨a6,cap6,rfl,k3,k4⟩:=own_words k1
  have HI6:=qz (inner2_ok (oR ts) a6 cap6 W6 k3 (uh HOK).ro (uh HOK).rl (uh HOK).t3)
  have HB6:Hid (Below V3.heap.size V3 W6):=qz ((uh HB5).trans (k2.mono (uh HB5).size))
  have HW6:Hid (WordsAt W6 a6 (oR ts)∧∀ ad,a6=some ad→V3.heap.size≤ad.block∧ad.block<W6.heap.size):=qz ⟨k3,fun ad e=>⟨Nat.le_trans (uh HB5).size (k4 ad e).1,(k4 ad e).2⟩⟩
  clear k1 k2 k3 k4 HRW HB5
  go_wp2_with fail
  refine (uh HI6).mono ?_
  rintro e W7 ⟨gz,rfl,k1,k2,k3,k4⟩
  have HB7:Hid (Below V3.heap.size V3 W7):=qz ((uh HB6).trans (k4.mono (uh HB6).size))
  have HW7:Hid (WordsAt W7 a6 (oR ts)∧∀ ad,a6=some ad→V3.heap.size≤ad.block∧ad.block<W7.heap.size):=qz ⟨(uh HW6).1.keep fun ad e _ _=>k4.block _ ((uh HW6).2 ad e).2,fun ad e=>⟨((uh HW6).2 ad e).1,Nat.lt_of_lt_of_le ((uh HW6).2 ad e).2 k4.size⟩⟩
  have HZ7:Hid (IntsAt W7 .i64 3 gz 19 fun j=>(oZ ts).getD j 0):=qz k3
  have HZL:Hid ((oZ ts).length=19):=qz k2
  have HN7:Hid (Calls Tryz.prog 26 #[.slice (some ⟨g1,0,none⟩) (oX ts).length 286,.slice (some ⟨g2,0,none⟩) (oY ts).length 30] W7 fun e w'=>∃ c1 c2,e=.returned (.agg #[.pointer (some ⟨c1,0,none⟩),.pointer (some ⟨c2,0,none⟩)])∧TwoCodes (oX ts) (oY ts) w' c1 c2 W7.heap.size w'.heap.size∧Below W7.heap.size W7 w'):=qz (by
   have hx:=uh HXI
   have hy:=uh HYI
   have ho:=uh HOK
   exact newCodes_ok (oX ts) (oY ts) _ _ W7 (uh HR1 W7 (uh HB7)).2 (uh HR2 W7 (uh HB7)).2 ⟨by omega,by omega⟩ ⟨by omega,by omega⟩ ho.x15 ho.y15 ho.xo ho.yo)
  clear k1 k2 k3 k4 HI6 HB6 HW6
  go_wp2_with fail
  refine (uh HN7).mono ?_
  rintro e W8 ⟨p1,p2,rfl,k1,k2⟩
  have HB8:Hid (Below V3.heap.size V3 W8):=qz ((uh HB7).trans (k2.mono (uh HB7).size))
  have HW8:Hid (WordsAt W8 a6 (oR ts)∧∀ ad,a6=some ad→V3.heap.size≤ad.block∧ad.block<W8.heap.size):=qz ⟨(uh HW7).1.keep fun ad e _ _=>k2.block _ ((uh HW7).2 ad e).2,fun ad e=>⟨((uh HW7).2 ad e).1,Nat.lt_of_lt_of_le ((uh HW7).2 ad e).2 k2.size⟩⟩
  have HZ8:Hid (IntsAt W8 .i64 3 gz 19 fun j=>(oZ ts).getD j 0):=qz ((uh HZ7).stays k2 (uh HZ7).lt)
  have HT8:Hid (TwoCodes (oX ts) (oY ts) W8 p1 p2 V3.heap.size W8.heap.size):=qz (by
   obtain ⟨⟨x,y,z1,z2,z3⟩,⟨x',y',z1',z2',z3'⟩⟩:=k1
   exact ⟨⟨x,y,z1,Nat.le_trans (uh HB7).size z2,z3⟩,⟨x',y',z1',Nat.le_trans (uh HB7).size z2',z3'⟩⟩)
  have HH8:=qz (headFields_ok (oX ts).length (oY ts).length gz (fun j=>(oZ ts).getD j 0) W8 (uh HZ8) (uh HXI).1 (uh HXI).2.1 (uh HYI).1 (uh HYI).2.1)
  clear k1 k2 HN7 HB7 HW7 HZ7
  go_wp2_with fail
  refine (uh HH8).mono ?_
  rintro e W9 ⟨fv,rfl,k1,k2⟩
  obtain ⟨a9,cap9,e9,k3,k4⟩:=own_fields k1
  obtain ⟨nf,hnf⟩:∃ nf,nf=(oF ts).length:=⟨_,rfl⟩
  obtain rfl:fv=.slice a9 nf cap9:=by rw [e9,hnf];rfl
  have HF9:Hid (FieldsAt W9 a9 (oF ts)∧∀ ad,a9=some ad→V3.heap.size≤ad.block∧ad.block<W9.heap.size):=qz ⟨k3,fun ad e=>⟨Nat.le_trans (uh HB8).size (k4 ad e).1,(k4 ad e).2⟩⟩
  have HB9:Hid (Below V3.heap.size V3 W9):=qz ((uh HB8).trans (k2.mono (uh HB8).size))
  have HW9:Hid (WordsAt W9 a6 (oR ts)∧∀ ad,a6=some ad→V3.heap.size≤ad.block∧ad.block<W9.heap.size):=qz ⟨(uh HW8).1.keep fun ad e _ _=>k2.block _ ((uh HW8).2 ad e).2,fun ad e=>⟨((uh HW8).2 ad e).1,Nat.lt_of_lt_of_le ((uh HW8).2 ad e).2 k2.size⟩⟩
  have HZ9:Hid (IntsAt W9 .i64 3 gz 19 fun j=>(oZ ts).getD j 0):=qz ((uh HZ8).stays k2 (uh HZ8).lt)
  have HT9:Hid (TwoCodes (oX ts) (oY ts) W9 p1 p2 V3.heap.size W9.heap.size):=qz (by
   obtain ⟨⟨x,y,z1,z2,z3⟩,⟨x',y',z1',z2',z3'⟩⟩:=(uh HT8).keep (w':=W9) fun k _ h=>k2.block k h
   exact ⟨⟨x,y,z1,z2,Nat.le_trans z3 k2.size⟩,⟨x',y',z1',z2',Nat.le_trans z3' k2.size⟩⟩)
  have HNF:=qz hnf
  obtain ⟨nr,hnr⟩:∃ nr,nr=(oR ts).length:=⟨_,rfl⟩
  have HNR:=qz hnr
  rw [← hnr]
  clear k1 k2 k3 k4 e9 hnf hnr HH8 HB8 HW8 HZ8 HT8
  obtain ⟨W10,hW10⟩:∃ W10,W10=W9.alloc (.cells #[.pointer (some ⟨p1,0,none⟩),.pointer (some ⟨p2,0,none⟩),.slice a9 nf cap9,.slice a6 nr cap6,.pointer none] 113):=⟨_,rfl⟩
  have b10:Below W9.heap.size W9 W10:=by rw [hW10];exact (Below.refl _ _).alloc (Nat.le_refl _) _
  have x10:W10.heap[W9.heap.size]?=some (.cells #[.pointer (some ⟨p1,0,none⟩),.pointer (some ⟨p2,0,none⟩),.slice a9 nf cap9,.slice a6 nr cap6,.pointer none] 113 (0,0)):=by rw [hW10];exact heap_alloc_new _ _
  have hs10:W10.heap.size=W9.heap.size+1:=by rw [hW10];simp
  have HNW:Hid (Calls Tryz.prog 60 #[.slice (some ⟨gz,0,none⟩) 19 19,.int .i64 7,.bool false] W10 fun e w'=>∃ cp,e=.returned (.tuple #[.pointer (some ⟨cp,0,none⟩),.int .i64 0])∧Code (oZ ts) w' cp W10.heap.size w'.heap.size∧Below W10.heap.size W10 w'):=qz (by
   have hz:=row_of ((uh HZ9).stays b10 (uh HZ9).lt) (oZ ts) (by rw [uh HZL];decide) (fun _=>rfl)
   have h2:=hz.2
   rw [uh HZL] at h2
   refine (rnew (oZ ts) 7 false _ W10 h2 (by decide) (by rw [uh HZL];decide) (uh HOK).z7).mono ?_
   rintro e w' ⟨hb,h | ⟨_,cp,h3,h4⟩⟩
   ·rw [(uh HOK).zo] at h;cases h.1
   ·exact ⟨cp,h3,h4,hb⟩)
  have X10:=qz x10
  have HB10:=qz b10
  have HS10:=qz hs10
  clear x10 b10 hs10
  go_wp2_with fail
  rw [← hW10]
  clear hW10
  refine (uh HNW).mono ?_
  rintro e W11 ⟨ci,rfl,q1,q2⟩
  obtain ⟨ob,hob⟩:∃ ob,ob=W9.heap.size:=⟨_,rfl⟩
  have x11:W11.heap[ob]?=some (.cells #[.pointer (some ⟨p1,0,none⟩),.pointer (some ⟨p2,0,none⟩),.slice a9 nf cap9,.slice a6 nr cap6,.pointer none] 113 (0,0)):=by
   rw [hob,q2.block _ (heap_lt (uh X10))];exact uh X10
  have d4:W11.cell? ⟨ob,4,none⟩=some (.pointer none):=by simp only [World.cell?,x11];rfl
  have f4:W11.frozen? ⟨ob,4,none⟩=false:=by simp [World.frozen?,x11]
  have HFIN:Hid (OwnAt w (W11.setCell ⟨ob,4,none⟩ (.pointer (some ⟨ci,0,none⟩))) ob ts p1 p2∧Below w.heap.size w (W11.setCell ⟨ob,4,none⟩ (.pointer (some ⟨ci,0,none⟩)))):=qz (by
   obtain ⟨W12,hW12⟩:∃ W12,W12=W11.setCell ⟨ob,4,none⟩ (.pointer (some ⟨ci,0,none⟩)):=⟨_,rfl⟩
   rw [← hW12]
   have x12:W12.heap[ob]?=some (.cells #[.pointer (some ⟨p1,0,none⟩),.pointer (some ⟨p2,0,none⟩),.slice a9 nf cap9,.slice a6 nr cap6,.pointer (some ⟨ci,0,none⟩)] 113 (0,0)):=by
    rw [hW12,heap_setCell_same _ ob 4 _ _ _ x11];rfl
   have z12:W12.heap.size=W11.heap.size:=by rw [hW12];simp
   have hbw:=(uh HB3).size
   have hb9:=(uh HB9).size
   have h10:=uh HS10
   have q2s:=q2.size
   have keep:∀ k,k<W9.heap.size→W12.heap[k]?=W9.heap[k]?:=fun k hk=>by
    rw [hW12,heap_setCell_other _ _ _ _ (by show k≠ob;omega),q2.block k (by omega),(uh HB10).block k hk]
   have keep2:∀ k,W10.heap.size≤k→W12.heap[k]?=W11.heap[k]?:=fun k hk=>by
    rw [hW12,heap_setCell_other _ _ _ _ (by show k≠ob;omega)]
   refine ⟨⟨by omega,by simp only [World.cell?,x12];rfl,by simp only [World.cell?,x12];rfl,?_,a9,a6,cap9,cap6,ci,W10.heap.size,W11.heap.size,⟨?_,?_,?_,?_,?_,?_,?_⟩,by omega,?_,?_⟩,?_⟩
   ·obtain ⟨⟨x,y,z1,z2,z3⟩,⟨x',y',z1',z2',z3'⟩⟩:=(uh HT9).keep (w':=W12) fun k _ h=>keep k h
    exact ⟨⟨x,y,z1,by omega,by omega⟩,⟨x',y',z1',by omega,by omega⟩⟩
   ·rw [← uh HNF];simp only [World.cell?,x12];rfl
   ·rw [← uh HNR];simp only [World.cell?,x12];rfl
   ·simp only [World.cell?,x12];rfl
   ·exact (uh HF9).1.keep fun ad e _ h=>keep _ h
   ·exact (uh HW9).1.keep fun ad e _ h=>keep _ h
   ·exact q1.keep fun k h1 _=>keep2 k h1
   ·omega
   ·exact fun ad e=>⟨Nat.le_trans hbw ((uh HF9).2 ad e).1,by have:=((uh HF9).2 ad e).2;omega⟩
   ·exact fun ad e=>⟨Nat.le_trans hbw ((uh HW9).2 ad e).1,by have:=((uh HW9).2 ad e).2;omega⟩
   ·have h1:=uh HB3
    have h2:=uh HB9
    have h3:=uh HB10
    have e1:W12.os=W11.os:=by rw [hW12];rfl
    have e2:W12.tape=W11.tape:=by rw [hW12];rfl
    have e3:W12.output=W11.output:=by rw [hW12];rfl
    refine ⟨e1.trans (q2.os.trans (h3.os.trans (h2.os.trans h1.os))),e2.trans (q2.tape.trans (h3.tape.trans (h2.tape.trans h1.tape))),e3.trans (q2.output.trans (h3.output.trans (h2.output.trans h1.output))),by omega,fun k hk=>?_⟩
    rw [keep k (by omega),h2.block k (by omega),h1.block k hk])
  rw [← hob]
  clear q1 q2 HNW x11 hob X10 HB10 HS10 HB9 HW9 HF9 HZ9 HT9 HB3
  go_wp2_with fail
  go_ret
  exact ⟨ob,p1,p2,rfl,(uh HFIN).1,(uh HFIN).2⟩
end W4
namespace W4
open Go.RowKit Mth Infl Defl
attribute [local go_sem ↓] wp_at_zero wp_at_succ
theorem OwnAt.keep {w0 w w':World} {ob c1 c2:Nat} {ts:List T} (h:OwnAt w0 w ob ts c1 c2) (hk:∀ k,w0.heap.size≤k→k<w.heap.size→w'.heap[k]?=w.heap[k]?) (hs:w.heap.size≤w'.heap.size):OwnAt w0 w' ob ts c1 c2:=by
 have hob:ob<w.heap.size:=cell_lt h.p1
 have ho:=hk ob h.ge hob
 obtain ⟨fa,ra,fc,rc,ci,xl,xh,hh,q1,q2,q3⟩:=h.head
 refine ⟨h.ge,?_,?_,?_,fa,ra,fc,rc,ci,xl,xh,hh.keep ho (fun ad e=>hk _ (q2 ad e).1 (q2 ad e).2) (fun ad e=>hk _ (q3 ad e).1 (q3 ad e).2) (fun k a b=>hk k (Nat.le_trans q1 a) (Nat.lt_of_lt_of_le b hh.hi)) hs,q1,fun ad e=>⟨(q2 ad e).1,Nat.lt_of_lt_of_le (q2 ad e).2 hs⟩,fun ad e=>⟨(q3 ad e).1,Nat.lt_of_lt_of_le (q3 ad e).2 hs⟩⟩
 ·have:=h.p1;simp only [World.cell?] at this ⊢;rw [ho];exact this
 ·have:=h.p2;simp only [World.cell?] at this ⊢;rw [ho];exact this
 ·obtain ⟨⟨x,y,z1,z2,z3⟩,⟨x',y',z1',z2',z3'⟩⟩:=h.two.keep hk
  exact ⟨⟨x,y,z1,z2,Nat.le_trans z3 hs⟩,⟨x',y',z1',z2',Nat.le_trans z3' hs⟩⟩
theorem ownCodes_new (ts:List T) (a:Option Addr) (cap xb:Nat) (last:Bool) (plain fx fy:Value) (w:World) (hx:BlkAt w xb last plain (.slice a ts.length cap) fx fy (.pointer none)) (hta:TokAt8 w a ts) (hto:TokOk ts) (hfew:ts.length≤1000000000) (hok:OwnOk ts) :
  Calls Tryz.prog 57 #[.pointer (some ⟨xb,0,none⟩)] w fun e w'=>∃ ob c1 c2,e=.returned (.pointer (some ⟨ob,0,none⟩))∧BlkAt w' xb last plain (.slice a ts.length cap) fx fy (.pointer (some ⟨ob,0,none⟩))∧OwnAt w w' ob ts c1 c2∧Chb xb w w':=by
 obtain ⟨_,_,q2,_,_,q5⟩:=hx.c
 have HX:=qz hx
 have HN:=qz (newOwn_ok ts a cap w hta hto hfew hok)
 obtain ⟨n,hn⟩:∃ n,n=ts.length:=⟨_,rfl⟩
 rw [← hn] at HX HN q2
 have HNN:=qz hn
 clear hta hto hfew hok hx hn
 go_enter Tryz.func57,Tryz.ntmps57
 go_wp2_with fail
 refine (uh HN).mono ?_
 rintro e W1 ⟨ob,c1,c2,rfl,h1,h2⟩
 have x1:W1.heap[xb]?=some (.cells #[.bool last,plain,.slice a n cap,fx,fy,.pointer none] 65 (0,0)):=(h2.block _ (heap_lt (uh HX))).trans (uh HX)
 have d5:W1.cell? ⟨xb,5,none⟩=some (.pointer none):=by simp only [World.cell?,x1];rfl
 have f5:W1.frozen? ⟨xb,5,none⟩=false:=by simp [World.frozen?,x1]
 have x2:(W1.setCell ⟨xb,5,none⟩ (.pointer (some ⟨ob,0,none⟩))).heap[xb]?=some (.cells #[.bool last,plain,.slice a n cap,fx,fy,.pointer (some ⟨ob,0,none⟩)] 65 (0,0)):=by rw [heap_setCell_same _ xb 5 _ _ _ x1];rfl
 have e5:(W1.setCell ⟨xb,5,none⟩ (.pointer (some ⟨ob,0,none⟩))).cell? ⟨xb,5,none⟩=some (.pointer (some ⟨ob,0,none⟩)):=by simp only [World.cell?,x2];rfl
 have hxl:=heap_lt (uh HX)
 have HF:Hid (BlkAt (W1.setCell ⟨xb,5,none⟩ (.pointer (some ⟨ob,0,none⟩))) xb last plain (.slice a n cap) fx fy (.pointer (some ⟨ob,0,none⟩))∧OwnAt w (W1.setCell ⟨xb,5,none⟩ (.pointer (some ⟨ob,0,none⟩))) ob ts c1 c2∧Chb xb w (W1.setCell ⟨xb,5,none⟩ (.pointer (some ⟨ob,0,none⟩)))):=qz ⟨x2,h1.keep (fun k k1 k2=>by rw [heap_setCell_other _ _ _ _ (by show k≠xb;omega)]) (by simp),⟨h2.os,h2.tape,h2.output,by rw [World.size_setCell];exact h2.size,fun k hk hne=>by rw [heap_setCell_other _ _ _ _ hne];exact h2.block k hk⟩⟩
 clear h1 h2 x1 x2 HN HX q2 q5
 go_wp2_with fail
 go_ret
 rw [← uh HNN]
 exact ⟨ob,c1,c2,rfl,uh HF⟩
theorem ownCodes_old (ob xb:Nat) (w:World) (hx:w.cell? ⟨xb,5,none⟩=some (.pointer (some ⟨ob,0,none⟩))) :
  Calls Tryz.prog 57 #[.pointer (some ⟨xb,0,none⟩)] w fun e w'=>e=.returned (.pointer (some ⟨ob,0,none⟩))∧w'=w:=by
 go_enter Tryz.func57,Tryz.ntmps57
 go_wp2_with fail
 go_ret
 exact ⟨rfl,rfl⟩
end W4
end Go.Proofs.YtabeanealkopbaaGreat
