/- Texts of one proof, one behind the other: Pn, Pv, Pu, Pc, Py, Ow, Pt, Ps, Ll, Tw, Bo, DGe, DDs, DDd, DDt, Bm, LzM, Qa, Qb, Qc, Qd, Qe, DNd, Hd, Qn, Qf, Bc, St, Su, Len, Sw, Sx, Wc, Wd. -/
import Derived.Test.YtoicnlmfgembiaaGreatMA
import Derived.Deep.MidRow
import Derived.Laws.BitsLemmas
import Derived.Deep.RegionHeld3
import Derived.Lib.SliceRun
import Derived.Shelf.Small.Bits
import Derived.Shelf.Strconv.Itoa0
import Derived.Lib.ItoaNum

set_option linter.unusedVariables false
set_option maxRecDepth 100000
set_option maxHeartbeats 24000000
namespace Go.Proofs.YtoicnlmfgembiaaGreat
namespace D
open Go.RowKit Rang
attribute [local go_sem ↓] wp_at_zero wp_at_succ
theorem y4a:(Tryz.prog.info? 148).map (fun i=>(i.zero,i.size,i.bytes))=some (some (.int .u16 0),1,2):=by kernel_rfl
theorem y0d (w:World) (n:Nat) (hn:n≤2000000):(Instr.makeSlice 113 (.int .i64 (n:Int)) (.int .i64 (n:Int))).run Tryz.prog w=.ok (.slice (some ⟨w.heap.size,0,none⟩) n n) (w.alloc (.cells ((List.replicate n 0).map fun p:Nat=>Value.int .u16 (p:Int)).toArray 148)):=by
 obtain ⟨i0,hi,hz0,hz1,hz2⟩:=info_parts y4a
 have:=run_make (P:=Tryz.prog) w 113 148 i0 (.int .u16 0) Tryz.underlying113 hi hz0 .i64 .i64 (n:Int) (n:Int) (by omega) (by omega) (by rw [hz2];omega) (by omega)
 rw [hz1] at this
 rw [this]
 congr 3
 apply Array.ext (by simp [madeCells])
 intro k k1 k2
 simp [madeCells,Value.cells,Nat.mod_one]
theorem z8s (a0:Option Addr) (n c:Nat) (i:Int) (w:World) (h:0≤i∧i<(n:Int)):Calls Tryz.prog 116 #[.slice a0 n c,.int .i64 i] w fun e w'=>e=.returned (.bool true)∧w'=w:=y3y a0 n c i true w ⟨fun _=>h,fun _=>rfl⟩
theorem y1f (n:Nat) (w:World) (hn:n≤65536) :
  Calls Tryz.prog 74 #[.int .i64 (n:Int)] w fun e w'=>e=.returned (.slice (some ⟨w.heap.size,0,none⟩) n n)∧PCh w' w.heap.size (List.replicate n 1024)∧Below w.heap.size w w':=by
 have hmk:=y0d w n (by omega)
 have H0:Hid (PCh (w.alloc (.cells ((List.replicate n 0).map fun p:Nat=>Value.int .u16 (p:Int)).toArray 148)) w.heap.size (z1h n 0)):=qz (by
  unfold PCh z1h
  rw [heap_alloc_new]
  simp)
 have HB:Hid (Below w.heap.size w (w.alloc (.cells ((List.replicate n 0).map fun p:Nat=>Value.int .u16 (p:Int)).toArray 148))):=qz ((Below.refl _ _).alloc (Nat.le_refl _) _)
 obtain ⟨CS,hCS⟩:∃CS,CS=((List.replicate n 0).map fun p:Nat=>Value.int .u16 (p:Int)).toArray:=⟨_,rfl⟩
 rw [←hCS] at hmk H0 HB
 clear hCS
 go_enter Tryz.func74,Tryz.ntmps74
 go_wp2_with fail
 clear hmk
 go_loopg [8] n (fun gk d ws=>∃ (i:Nat),gk=n-i∧i≤n∧d=.int .i64 (i:Int)∧Hid (PCh ws w.heap.size (z1h n i))∧Hid (Below w.heap.size w ws))
 case atStart=>exact ⟨0,by omega,by omega,rfl,H0,HB⟩
 case round =>
  clear H0 HB
  obtain ⟨i,rfl,hi,rfl,H0,HB⟩:=hrel
  by_cases hlt:i<n
  ·have tl:(i:Int)<(n:Int):=by omega
   have c1:=(uh H0).cell i (by rw [z3q n i hi];exact hlt)
   have c2:=(uh H0).free i
   have HS:=qz ((uh H0).set i 1024)
   rw [z3r n i hlt] at HS
   generalize (z1h n i).getD i 0=x at c1
   go_wp2_with fail
   go_roundg (n-(i+1))
   case measure=>omega
   case rel=>exact ⟨i+1,rfl,by omega,by go_num,qz (uh HS),qz ((uh HB).setCell (Nat.le_refl _) _)⟩
  ·obtain rfl:n=i:=by omega
   have tl:¬ (n:Int)<(n:Int):=by omega
   go_wp2_with fail
   go_ret
   refine ⟨rfl,?_,uh HB⟩
   have:=uh H0
   unfold z1h at this
   simpa using this
structure PS (B:Nat) (w:World) (pb gc:Nat) (ov:Value) (c:Enc) (ch:List Nat) (k:Nat):Prop where
 pc:PC B w pb gc ov c ch
 wide:∃T,Wide c T k
 chs:Chs ch
 base:B≤w.heap.size
theorem y3d (n:Nat) (w:World) (hn:n≤65536) :
  Calls Tryz.prog 49 #[.int .i64 (n:Int)] w fun e w'=>∃pb,e=.returned (.tuple #[.pointer (some ⟨pb,0,none⟩),.int .i64 0])∧PS w.heap.size w' pb w.heap.size (.slice none 0 0) enc0 (List.replicate n 1024) 0∧Below w.heap.size w w':=by
 have HC:=qz (y1f n w hn)
 go_enter Tryz.func49,Tryz.ntmps49
 go_wp2_with (first|(go_at_call 73;refine (z5v n _ hn).mono ?_;rintro e w1 ⟨rfl,rfl⟩)|(go_at_call 74;refine (uh HC).mono ?_;rintro e w1 ⟨rfl,h1,h2⟩;have H1:=qz h1;have H2:=qz h2;clear h1 h2 HC))
 go_ret2
 have hs:=(uh H2).size
 refine ⟨w1.heap.size,rfl,⟨⟨⟨?_,World.ownsRow_nil _ _ _ _,hs⟩,?_,Nat.le_refl _⟩,⟨0,y4g⟩,?_,?_⟩,(uh H2).alloc hs _⟩
 ·rw [heap_alloc_new,List.length_replicate]
  rfl
 ·exact (uh H1).of (Below.heap_alloc _ _ _ (uh H1).lt)
 ·intro p hp
  rw [List.mem_replicate] at hp
  omega
 ·simp;omega
theorem z4e {c:Enc} {T k:Nat} (h:Wide c T k) (hk:k≤100000000000000):PTame c∧c.low+c.rng≤8589934592:=by
 have h1:=h.st.lo
 have h2:=h.st.len
 have h3:=h.lo
 have h4:=h.st.wait
 exact ⟨⟨by omega,h.st.kept,by omega⟩,h1⟩
theorem z5z (B pb gc:Nat) (w:World) (ov:Value) (c:Enc) (ch:List Nat) (k i:Nat) (bit:Bool) (h:PS B w pb gc ov c ch k) (hi:i<ch.length) (hk:k≤90000000000000) :
  Calls Tryz.prog 144 #[.pointer (some ⟨pb,0,none⟩),.int .i64 (i:Int),.int .i64 (bit.toNat:Int)] w fun e w'=>e=.returned (.tuple #[])∧∃ov' k',PS B w' pb gc ov' (putE c (ch.getD i 0) bit) (ch.set i (after (ch.getD i 0) bit)) k'∧k'≤k+1∧Tch w w' pb gc 0 ov ov':=by
 obtain ⟨T,hw⟩:=h.wide
 have h1:=z4e hw (by omega)
 refine (y3e B pb gc w ov c ch i bit h.pc hi (h.chs.at hi) h1.1 h1.2 hw.lo hw.hi h.base).mono ?_
 rintro e w' ⟨rfl,ov',h2,h3⟩
 have h4:=(z6y hw (h.chs.at hi) bit).1
 exact ⟨rfl,ov',_,⟨h2,⟨_,h4⟩,h.chs.set hi bit,Nat.le_trans h.base h3.size⟩,z7g _ _,h3⟩
theorem y3c (B pb gc:Nat) (w:World) (ov:Value) (c:Enc) (ch:List Nat) (k:Nat) (bit:Bool) (h:PS B w pb gc ov c ch k) (hk:k≤90000000000000) :
  Calls Tryz.prog 174 #[.pointer (some ⟨pb,0,none⟩),.int .i64 (bit.toNat:Int)] w fun e w'=>e=.returned (.tuple #[])∧∃ov' k',PS B w' pb gc ov' (dirE c bit) ch k'∧k'≤k+1∧Tch w w' pb gc 0 ov ov':=by
 obtain ⟨T,hw⟩:=h.wide
 have h1:=z4e hw (by omega)
 refine (y3b B pb gc w ov c ch bit h.pc h1.1 h1.2 hw.lo hw.hi h.base).mono ?_
 rintro e w' ⟨rfl,ov',h2,h3⟩
 have h4:=(z6n hw bit).1
 exact ⟨rfl,ov',_,⟨h2,⟨_,h4⟩,h.chs,Nat.le_trans h.base h3.size⟩,z7g _ _,h3⟩
theorem y3a (B pb gc:Nat) (w:World) (ov:Value) (c:Enc) (ch:List Nat) (k:Nat) (i:Nat) (bit:Bool) (h:PS B w pb gc ov c ch k) (hi:i<ch.length) (hk:k≤90000000000000) :
  Calls Tryz.prog 112 #[.pointer (some ⟨pb,0,none⟩),.int .i64 (i:Int),.int .i64 (bit.toNat:Int)] w fun e w'=>e=.returned (.int .i64 0)∧∃ov' k',PS B w' pb gc ov' (putE c (ch.getD i 0) bit) (ch.set i (after (ch.getD i 0) bit)) k'∧k'≤k+1∧Tch w w' pb gc 0 ov ov':=by
 have HP:=qz (z5z B pb gc w ov c ch k i bit h hi hk)
 have HG:=qz (z2d pb w true h.pc.enc.made)
 have c1:=h.pc.enc.chs
 obtain ⟨n,hn⟩:∃n,n=ch.length:=⟨_,rfl⟩
 rw [←hn] at c1 hi
 have HI:Hid (0≤(i:Int)∧(i:Int)<(n:Int)):=qz ⟨by omega,by omega⟩
 have tb:bit.toNat=0∨bit.toNat=1:=by cases bit<;>simp
 clear h hn
 obtain ⟨y,hy⟩:∃y,y=bit.toNat:=⟨_,rfl⟩
 rw [←hy] at HP tb ⊢
 clear hy
 rcases tb with rfl|rfl
 ·go_enter Tryz.func112,Tryz.ntmps112
  go_wp2_with (first|(go_at_call 53;refine (uh HG).mono ?_;rintro e w1 ⟨rfl,rfl⟩)|(go_at_call 116;refine (z8s _ n n (i:Int) _ (uh HI)).mono ?_;rintro e w1 ⟨rfl,rfl⟩)|(go_at_call 144;refine (uh HP).mono ?_;rintro e w1 ⟨rfl,ov',k',h1,h2,h3⟩))
  go_ret
  exact ⟨rfl,ov',k',h1,h2,h3⟩
 ·go_enter Tryz.func112,Tryz.ntmps112
  go_wp2_with (first|(go_at_call 53;refine (uh HG).mono ?_;rintro e w1 ⟨rfl,rfl⟩)|(go_at_call 116;refine (z8s _ n n (i:Int) _ (uh HI)).mono ?_;rintro e w1 ⟨rfl,rfl⟩)|(go_at_call 144;refine (uh HP).mono ?_;rintro e w1 ⟨rfl,ov',k',h1,h2,h3⟩))
  go_ret
  exact ⟨rfl,ov',k',h1,h2,h3⟩
end D
namespace D
open Go.RowKit Rang
attribute [local go_sem ↓] wp_at_zero wp_at_succ
theorem z4i (n:Int):bits .and .i64 n 1=n%2:=by
 have h1:(BitVec.ofInt 64 1).toNat=2^1-1:=by decide
 have key:(BitVec.ofInt 64 n &&& BitVec.ofInt 64 1).toNat=(n%((2^64:Nat):Int)).toNat%2^1:=by
  rw [BitVec.toNat_and,BitVec.toNat_ofInt,h1,Nat.and_two_pow_sub_one_eq_mod]
 show IntKind.i64.wrap ((BitVec.ofInt 64 n &&& BitVec.ofInt 64 1).toNat:Nat)=n%2
 rw [key,IntKind.wrap_i64]
 omega
theorem z8h (v i:Nat):bits .and .i64 ((v:Int)/2^i) 1=((v.testBit i).toNat:Int):=by
 rw [z4i,show ((v:Int)/2^i)=((v/2^i:Nat):Int) by simp,←y2j]
 omega
def Cap (w:World) (a:Nat) (x:Int):Prop:=w.heap[a]?=some (.cells #[.int .i64 x] 3 (0,0))
theorem Cap.cell {w:World} {a:Nat} {x:Int} (h:Cap w a x):w.cell? ⟨a,0,none⟩=some (.int .i64 x):=by simp [World.cell?,show w.heap[a]?=_ from h]
theorem Cap.lt {w:World} {a:Nat} {x:Int} (h:Cap w a x):a<w.heap.size:=z0c h
theorem Cap.keep {B:Nat} {w w':World} {pb gc:Nat} {ov ov':Value} {c:Enc} {ch:List Nat} {a:Nat} {x:Int} (h:Cap w a x) (he:PC B w pb gc ov c ch) (ht:Tch w w' pb gc 0 ov ov'):Cap w' a x:=by
 unfold Cap
 rw [ht.keep a h.lt ?_ ?_ ?_]
 ·exact h
 ·rintro rfl
  have:=he.enc.cells
  rw [show w.heap[a]?=_ from h] at this
  injection this with this
  injection this with _ h2
  cases h2
 ·rintro rfl
  have:=he.chs
  rw [PCh,show w.heap[a]?=_ from h] at this
  injection this with this
  injection this with _ h2
  cases h2
 ·intro e
  rcases he.enc.row.2 with ⟨e1,e2⟩|⟨g,cap,cur,e1,hb,hh,_⟩
  ·rw [e1] at e;cases e
  ·rw [e1] at e
   obtain rfl:g=a:=Option.some.inj e
   rw [show w.heap[g]?=_ from h] at hh
   injection hh with hh
   injection hh with _ h2
   cases h2
theorem z8x (v n:Int) (w:World):Calls Tryz.prog 170 #[.int .i64 v,.int .i64 n] w fun e w'=>e=.returned (.func (.func 188) #[] #[.pointer (some ⟨w.heap.size,0,none⟩),.pointer (some ⟨w.heap.size+1,0,none⟩)])∧w'=(w.alloc (.cells #[.int .i64 v] 3)).alloc (.cells #[.int .i64 n] 3):=by
 go_enter Tryz.func170,Tryz.ntmps170
 go_wp2_with fail
 go_ret
 exact ⟨by simp,rfl⟩
theorem y4b (v:Int) (w:World):Calls Tryz.prog 171 #[.int .i64 v] w fun e w'=>e=.returned (.func (.func 189) #[] #[.pointer (some ⟨w.heap.size,0,none⟩)])∧w'=w.alloc (.cells #[.int .i64 v] 3):=by
 go_enter Tryz.func171,Tryz.ntmps171
 go_wp2_with fail
 go_ret
 exact ⟨by simp,rfl⟩
theorem z4s (v n:Int) (w:World):Cap ((w.alloc (.cells #[.int .i64 v] 3)).alloc (.cells #[.int .i64 n] 3)) w.heap.size v∧Cap ((w.alloc (.cells #[.int .i64 v] 3)).alloc (.cells #[.int .i64 n] 3)) (w.heap.size+1) n:=by
 constructor
 ·unfold Cap
  rw [Below.heap_alloc _ _ _ (by simp),heap_alloc_new]
 ·unfold Cap
  have:=heap_alloc_new (w.alloc (.cells #[.int .i64 v] 3)) (.cells #[.int .i64 n] 3)
  simpa using this
theorem y0p (v:Int) (w:World):Cap (w.alloc (.cells #[.int .i64 v] 3)) w.heap.size v:=by
 unfold Cap
 rw [heap_alloc_new]
theorem z5g (a b v n t:Nat) (w:World) (h1:Cap w a v) (h2:Cap w b n) (ht:t<n) (hn:n≤31):Calls Tryz.prog 188 #[.int .i64 (t:Int),.pointer (some ⟨a,0,none⟩),.pointer (some ⟨b,0,none⟩)] w fun e w'=>e=.returned (.int .i64 ((v.testBit (n-1-t)).toNat:Int))∧w'=w:=by
 have c1:=h1.cell
 have c2:=h2.cell
 obtain ⟨m,hm⟩:∃m,m=n-1-t:=⟨_,rfl⟩
 have hb:=z8h v m
 rw [←hm]
 generalize (v.testBit m).toNat=y at hb ⊢
 have f1:wrap64 ((n:Int)-1)=(n:Int)-1:=IntWalk.wrap64_in _ (by omega)
 have f2:(n:Int)-1-(t:Int)=(m:Int):=by omega
 have f3:wrap64 (m:Int)=(m:Int):=IntWalk.wrap64_in _ (by omega)
 have hm2:m<64:=by omega
 have f4:min m 64=m:=by omega
 have f5:¬ (m:Int)<0:=by omega
 clear hm h1 h2
 go_enter Tryz.func188,Tryz.ntmps188
 go_wp2_with fail
 go_ret
 exact ⟨rfl,rfl⟩
theorem y1p (a v t:Nat) (w:World) (h1:Cap w a v) (ht:t≤31):Calls Tryz.prog 189 #[.int .i64 (t:Int),.pointer (some ⟨a,0,none⟩)] w fun e w'=>e=.returned (.int .i64 ((v.testBit t).toNat:Int))∧w'=w:=by
 have c1:=h1.cell
 have hb:=z8h v t
 generalize (v.testBit t).toNat=y at hb ⊢
 have hm2:t<64:=by omega
 have f4:min t 64=t:=by omega
 have f5:¬ (t:Int)<0:=by omega
 clear h1
 go_enter Tryz.func189,Tryz.ntmps189
 go_wp2_with fail
 go_ret
 exact ⟨rfl,rfl⟩
theorem PC.alloc {B:Nat} {w:World} {pb gc:Nat} {ov:Value} {c:Enc} {ch:List Nat} (h:PC B w pb gc ov c ch) (O:Obj):PC B (w.alloc O) pb gc ov c ch :=
 ⟨⟨by rw [Below.heap_alloc _ _ _ (z0c h.enc.cells)];exact h.enc.cells,h.enc.row.alloc _,h.enc.lo⟩,h.chs.of (Below.heap_alloc _ _ _ h.chs.lt),h.lo⟩
theorem PS.alloc {B:Nat} {w:World} {pb gc:Nat} {ov:Value} {c:Enc} {ch:List Nat} {k:Nat} (h:PS B w pb gc ov c ch k) (O:Obj):PS B (w.alloc O) pb gc ov c ch k:=⟨h.pc.alloc O,h.wide,h.chs,by have:=h.base;simp;omega⟩
theorem Tch.alloc {w w1:World} {pb gc:Nat} {v v1:Value} (h:Tch w w1 pb gc 0 v v1) (O:Obj):Tch w (w1.alloc O) pb gc 0 v v1:=⟨h.os,h.tape,h.output,by have:=h.size;simp;omega,fun k hk h1 h2 h3=>by rw [Below.heap_alloc _ _ _ (Nat.lt_of_lt_of_le hk h.size)];exact h.keep k hk h1 h2 h3,h.lies⟩
theorem z7t (B pb gc:Nat) (w:World) (ov:Value) (c:Enc) (ch:List Nat) (k v n:Nat) (h:PS B w pb gc ov c ch k) (hn:n≤31) (hv:v<2^n) (hk:k≤80000000000000) :
  Calls Tryz.prog 148 #[.pointer (some ⟨pb,0,none⟩),.int .i64 (v:Int),.int .i64 (n:Int)] w fun e w'=>e=.returned (.int .i64 0)∧∃ov' k',PS B w' pb gc ov' (z8m v n c) ch k'∧k'≤k+n∧Tch w w' pb gc 0 ov ov':=by
 have HE:=qz h
 have HG:=qz (z2d pb w true h.pc.enc.made)
 have H1:=qz (z4w n w hn)
 have H2:=qz (z2e v n w hn hv)
 have H3:=qz (z8x v n w)
 clear h hv
 go_enter Tryz.func148,Tryz.ntmps148
 go_wp2_with (first|(go_at_call 53;refine (uh HG).mono ?_;rintro e w1 ⟨rfl,rfl⟩)|(go_at_call 172;refine (uh H1).mono ?_;rintro e w1 ⟨rfl,rfl⟩)|(go_at_call 173;refine (uh H2).mono ?_;rintro e w1 ⟨rfl,rfl⟩)|(go_at_call 170;refine (uh H3).mono ?_;rintro e w2 ⟨rfl,hw2⟩;have hc:=z4s (v:Int) (n:Int) w1;rw [←hw2] at hc;have HC:=qz hc;have HE2:Hid (PS B w2 pb gc ov c ch k):=qz (by rw [hw2];exact ((uh HE).alloc _).alloc _);have HT2:Hid (Tch w1 w2 pb gc 0 ov ov):=qz (by rw [hw2];exact ((Tch.refl w1 pb gc 0 ov).alloc _).alloc _);clear hw2 hc))
 clear HG H1 H2 H3 HE
 obtain ⟨a,ha⟩:∃a,a=w1.heap.size:=⟨_,rfl⟩
 rw [←ha] at HC ⊢
 clear ha
 generalize a+1=b at HC ⊢
 go_loopg [25] n (fun gk d ws=>∃ (i:Nat) (c':Enc) (ov':Value) (k':Nat),i+gk=n∧d=.int .i64 (i:Int)∧Hid (PS B ws pb gc ov' c' ch k')∧Hid (z8m v gk c'=z8m v n c)∧Hid (k'+gk≤k+n)∧Hid (Tch w1 ws pb gc 0 ov ov')∧Hid (Cap ws a v∧Cap ws b n))
 case atStart=>exact ⟨0,c,ov,k,by omega,rfl,HE2,qz rfl,qz (Nat.le_refl _),HT2,HC⟩
 case round =>
  clear HE2 HT2 HC
  obtain ⟨i,c',ov',k',hi,rfl,HE,HX,HK,HT,HC⟩:=hrel
  by_cases hlt:i<n
  ·have tl:(i:Int)<(n:Int):=by omega
   obtain ⟨m,rfl⟩:∃m,gk=m+1:=⟨gk-1,by omega⟩
   have hnm:n-1-i=m:=by omega
   have HB:=qz (z5g a b v n i wr (uh HC).1 (uh HC).2 hlt hn)
   rw [hnm] at HB
   have HP:=qz (y3c B pb gc wr ov' c' ch k' (v.testBit m) (uh HE) (by have:=uh HK;omega))
   clear hnm
   obtain ⟨y,hy⟩:∃y,y=(v.testBit m).toNat:=⟨_,rfl⟩
   rw [←hy] at HB HP
   clear hy
   go_wp2_with (first|(go_at_call 188;refine (uh HB).mono ?_;rintro e w3 ⟨rfl,rfl⟩)|(go_at_call 174;refine (uh HP).mono ?_;rintro e w4 ⟨rfl,ov4,k4,h1,h2,h3⟩;have H1:=qz h1;have H2:=qz h2;have H3:=qz h3;clear h1 h2 h3))
   go_roundg m
   case measure=>omega
   case rel=>exact ⟨i+1,_,ov4,k4,by omega,by go_num,H1,qz ((uh HX)),qz (by have:=uh HK;have:=uh H2;omega),qz ((uh HT).trans (uh H3)),qz ⟨(uh HC).1.keep (uh HE).pc (uh H3),(uh HC).2.keep (uh HE).pc (uh H3)⟩⟩
  ·obtain rfl:n=i:=by omega
   obtain rfl:gk=0:=by omega
   have tl:¬ (n:Int)<(n:Int):=by omega
   go_wp2_with fail
   go_ret
   have:=uh HX
   exact ⟨rfl,ov',k',by rw [←this];exact uh HE,by have:=uh HK;omega,uh HT⟩
end D
namespace D
open Go.RowKit Rang
attribute [local go_sem ↓] wp_at_zero wp_at_succ
theorem y1b {base n:Int} {N:Nat} (h:MayB base n N):∃b m:Nat,base=b∧n=m∧m≤16∧b+2^m≤N:=by
 obtain ⟨b,rfl⟩:=Int.eq_ofNat_of_zero_le h.1
 obtain ⟨m,rfl⟩:=Int.eq_ofNat_of_zero_le h.2.1
 refine ⟨b,m,rfl,rfl,by have:=h.2.2.1;omega,?_⟩
 have:=h.2.2.2
 rw [show (m:Int).toNat=m from rfl] at this
 exact_mod_cast this
theorem z4l {b m N:Nat} (h1:m≤16) (h2:b+2^m≤N):MayB b m N:=⟨by omega,by omega,by omega,by rw [show (m:Int).toNat=m from rfl];exact_mod_cast h2⟩
theorem z5c (B pb gc:Nat) (w:World) (ov:Value) (c:Enc) (ch:List Nat) (k base v n:Nat) (a b:Nat) (h:PS B w pb gc ov c ch k) (hcap:Cap w a v∧Cap w b n) (hn:n≤16) (hb:base+2^n≤ch.length) (hv:v<2^n) (hk:k≤80000000000000) (hN:ch.length≤140737488355328) :
  Calls Tryz.prog 169 #[.pointer (some ⟨pb,0,none⟩),.int .i64 (base:Int),.int .i64 (v:Int),.int .i64 (n:Int),.func (.func 188) #[] #[.pointer (some ⟨a,0,none⟩),.pointer (some ⟨b,0,none⟩)]] w fun e w'=>e=.returned (.int .i64 0)∧∃ov' k',PS B w' pb gc ov' (z1m base 1 (z1e v n true) (c,ch)).1 (z1m base 1 (z1e v n true) (c,ch)).2 k'∧k'≤k+n∧Tch w w' pb gc 0 ov ov':=by
 have HE:=qz h
 have HCP:=qz hcap
 have HG:=qz (z2d pb w true h.pc.enc.made)
 have HM:=qz (z3f (some ⟨gc,0,none⟩) ch.length ch.length base n w hN (z4l hn hb))
 have HV:=qz (z2e v n w (by omega) hv)
 have c1:=h.pc.enc.chs
 obtain ⟨P,hP⟩:∃P,P=2^n:=⟨_,rfl⟩
 have HP:=qz hP
 have hp:2^n≤2^16:=Nat.pow_le_pow_right (by omega) hn
 rw [←hP] at hb hp
 obtain ⟨N,hNN⟩:∃N,N=ch.length:=⟨_,rfl⟩
 have HNN:=qz hNN
 rw [←hNN] at HM c1 hb hN
 obtain ⟨R,hR⟩:∃R,R=z1m base 1 (z1e v n true) (c,ch):=⟨_,rfl⟩
 have HR:=qz hR
 rw [←hR]
 clear h hcap hP hNN hv hR
 go_enter Tryz.func169,Tryz.ntmps169
 go_wp2_with (first|(go_at_call 53;refine (uh HG).mono ?_;rintro e w1 ⟨rfl,rfl⟩)|(go_at_call 187;refine (uh HM).mono ?_;rintro e w1 ⟨rfl,rfl⟩)|(go_at_call 173;refine (uh HV).mono ?_;rintro e w1 ⟨rfl,rfl⟩))
 clear HG HM HV c1
 go_loopg [11,32] n (fun gk mv d ws=>∃ (i m:Nat) (s:Enc × List Nat) (ov':Value) (k':Nat),gk=n-i∧i≤n∧m+1≤2^(i+1)∧mv=.int .i64 (m:Int)∧d=.int .i64 (i:Int)∧Hid (PS B ws pb gc ov' s.1 s.2 k')∧Hid (s.2.length=N)∧Hid (z1m base m ((z1e v n true).drop i) s=R)∧Hid (k'≤k+i)∧Hid (Tch w1 ws pb gc 0 ov ov')∧Hid (Cap ws a v∧Cap ws b n))
 case atStart=>exact ⟨0,1,(c,ch),ov,k,by omega,by omega,by decide,rfl,rfl,HE,qz (uh HNN).symm,qz (uh HR).symm,qz (Nat.le_refl _),qz (Tch.refl _ _ _ _ _),HCP⟩
 case round =>
  clear HE HCP
  obtain ⟨i,m,⟨c',ch'⟩,ov',k',rfl,hi,hm,rfl,rfl,HE,HL,HX,HK,HT,HCP⟩:=hrel
  by_cases hlt:i<n
  ·have tl:(i:Int)<(n:Int):=by omega
   have hmp:2^(i+1)≤2^n:=Nat.pow_le_pow_right (by omega) (by omega)
   rw [←uh HP] at hmp
   have hX:=uh HX
   rw [z3p v n true i hlt] at hX
   simp only [z1m,if_true] at hX
   have HTL:=qz (z5g a b v n i wr (uh HCP).1 (uh HCP).2 hlt (by omega))
   obtain ⟨bit,hbit⟩:∃bit,bit=v.testBit (n-1-i):=⟨_,rfl⟩
   rw [←hbit] at hX HTL
   obtain ⟨y,hy⟩:∃y,y=bit.toNat:=⟨_,rfl⟩
   have hy1:y≤1:=by rw [hy];exact Bool.toNat_le bit
   rw [←hy] at hX HTL
   have HX2:=qz hX
   have HPU:=qz (z5z B pb gc wr ov' c' ch' k' (base+m) bit (uh HE) (by have:=uh HL;simp only at this;omega) (by have:=uh HK;omega))
   rw [←hy,show ((base+m:Nat):Int)=(base:Int)+(m:Int) by omega] at HPU
   have hpw:2*m+y+1≤2^(i+1+1):=by rw [Nat.pow_succ];omega
   have HPW:=qz hpw
   have hm2:m<65536:=by omega
   have hbm:base+m≤140737488355328:=by omega
   clear hbit hy hX HX hm hmp hpw
   go_wp2_with (first|(go_at_call 188;refine (uh HTL).mono ?_;rintro e w5 ⟨rfl,rfl⟩)|(go_at_call 144;refine (uh HPU).mono ?_;rintro e w5 ⟨rfl,ov5,k5,h5,h6,h7⟩;have H5:=qz h5;have H6:=qz h6;have H7:=qz h7;clear h5 h6 h7))
   go_roundg (n-(i+1))
   case measure=>omega
   case rel=>exact ⟨i+1,2*m+y,_,ov5,k5,rfl,by omega,uh HPW,by go_num,by go_num,H5,qz (by rw [List.length_set];exact uh HL),HX2,qz (by have:=uh HK;have:=uh H6;omega),qz ((uh HT).trans (uh H7)),qz (⟨(uh HCP).1.keep (uh HE).pc (uh H7),(uh HCP).2.keep (uh HE).pc (uh H7)⟩)⟩
  ·obtain rfl:n=i:=by omega
   have tl:¬ (n:Int)<(n:Int):=by omega
   go_wp2_with fail
   go_ret
   have hX:=uh HX
   rw [List.drop_eq_nil_of_le (by simp [z1e]),z1m] at hX
   rw [←hX]
   exact ⟨rfl,ov',k',uh HE,uh HK,uh HT⟩
theorem z6b (B pb gc:Nat) (w:World) (ov:Value) (c:Enc) (ch:List Nat) (k base v n:Nat) (a:Nat) (h:PS B w pb gc ov c ch k) (hcap:Cap w a v) (hn:n≤16) (hb:base+2^n≤ch.length) (hv:v<2^n) (hk:k≤80000000000000) (hN:ch.length≤140737488355328) :
  Calls Tryz.prog 169 #[.pointer (some ⟨pb,0,none⟩),.int .i64 (base:Int),.int .i64 (v:Int),.int .i64 (n:Int),.func (.func 189) #[] #[.pointer (some ⟨a,0,none⟩)]] w fun e w'=>e=.returned (.int .i64 0)∧∃ov' k',PS B w' pb gc ov' (z1m base 1 (z1e v n false) (c,ch)).1 (z1m base 1 (z1e v n false) (c,ch)).2 k'∧k'≤k+n∧Tch w w' pb gc 0 ov ov':=by
 have HE:=qz h
 have HCP:=qz hcap
 have HG:=qz (z2d pb w true h.pc.enc.made)
 have HM:=qz (z3f (some ⟨gc,0,none⟩) ch.length ch.length base n w hN (z4l hn hb))
 have HV:=qz (z2e v n w (by omega) hv)
 have c1:=h.pc.enc.chs
 obtain ⟨P,hP⟩:∃P,P=2^n:=⟨_,rfl⟩
 have HP:=qz hP
 have hp:2^n≤2^16:=Nat.pow_le_pow_right (by omega) hn
 rw [←hP] at hb hp
 obtain ⟨N,hNN⟩:∃N,N=ch.length:=⟨_,rfl⟩
 have HNN:=qz hNN
 rw [←hNN] at HM c1 hb hN
 obtain ⟨R,hR⟩:∃R,R=z1m base 1 (z1e v n false) (c,ch):=⟨_,rfl⟩
 have HR:=qz hR
 rw [←hR]
 clear h hcap hP hNN hv hR
 go_enter Tryz.func169,Tryz.ntmps169
 go_wp2_with (first|(go_at_call 53;refine (uh HG).mono ?_;rintro e w1 ⟨rfl,rfl⟩)|(go_at_call 187;refine (uh HM).mono ?_;rintro e w1 ⟨rfl,rfl⟩)|(go_at_call 173;refine (uh HV).mono ?_;rintro e w1 ⟨rfl,rfl⟩))
 clear HG HM HV c1
 go_loopg [11,32] n (fun gk mv d ws=>∃ (i m:Nat) (s:Enc × List Nat) (ov':Value) (k':Nat),gk=n-i∧i≤n∧m+1≤2^(i+1)∧mv=.int .i64 (m:Int)∧d=.int .i64 (i:Int)∧Hid (PS B ws pb gc ov' s.1 s.2 k')∧Hid (s.2.length=N)∧Hid (z1m base m ((z1e v n false).drop i) s=R)∧Hid (k'≤k+i)∧Hid (Tch w1 ws pb gc 0 ov ov')∧Hid (Cap ws a v))
 case atStart=>exact ⟨0,1,(c,ch),ov,k,by omega,by omega,by decide,rfl,rfl,HE,qz (uh HNN).symm,qz (uh HR).symm,qz (Nat.le_refl _),qz (Tch.refl _ _ _ _ _),HCP⟩
 case round =>
  clear HE HCP
  obtain ⟨i,m,⟨c',ch'⟩,ov',k',rfl,hi,hm,rfl,rfl,HE,HL,HX,HK,HT,HCP⟩:=hrel
  by_cases hlt:i<n
  ·have tl:(i:Int)<(n:Int):=by omega
   have hmp:2^(i+1)≤2^n:=Nat.pow_le_pow_right (by omega) (by omega)
   rw [←uh HP] at hmp
   have hX:=uh HX
   rw [z3p v n false i hlt] at hX
   simp only [z1m,Bool.false_eq_true,if_false] at hX
   have HTL:=qz (y1p a v i wr (uh HCP) (by omega))
   obtain ⟨bit,hbit⟩:∃bit,bit=v.testBit (i):=⟨_,rfl⟩
   rw [←hbit] at hX HTL
   obtain ⟨y,hy⟩:∃y,y=bit.toNat:=⟨_,rfl⟩
   have hy1:y≤1:=by rw [hy];exact Bool.toNat_le bit
   rw [←hy] at hX HTL
   have HX2:=qz hX
   have HPU:=qz (z5z B pb gc wr ov' c' ch' k' (base+m) bit (uh HE) (by have:=uh HL;simp only at this;omega) (by have:=uh HK;omega))
   rw [←hy,show ((base+m:Nat):Int)=(base:Int)+(m:Int) by omega] at HPU
   have hpw:2*m+y+1≤2^(i+1+1):=by rw [Nat.pow_succ];omega
   have HPW:=qz hpw
   have hm2:m<65536:=by omega
   have hbm:base+m≤140737488355328:=by omega
   clear hbit hy hX HX hm hmp hpw
   go_wp2_with (first|(go_at_call 189;refine (uh HTL).mono ?_;rintro e w5 ⟨rfl,rfl⟩)|(go_at_call 144;refine (uh HPU).mono ?_;rintro e w5 ⟨rfl,ov5,k5,h5,h6,h7⟩;have H5:=qz h5;have H6:=qz h6;have H7:=qz h7;clear h5 h6 h7))
   go_roundg (n-(i+1))
   case measure=>omega
   case rel=>exact ⟨i+1,2*m+y,_,ov5,k5,rfl,by omega,uh HPW,by go_num,by go_num,H5,qz (by rw [List.length_set];exact uh HL),HX2,qz (by have:=uh HK;have:=uh H6;omega),qz ((uh HT).trans (uh H7)),qz ((uh HCP).keep (uh HE).pc (uh H7))⟩
  ·obtain rfl:n=i:=by omega
   have tl:¬ (n:Int)<(n:Int):=by omega
   go_wp2_with fail
   go_ret
   have hX:=uh HX
   rw [List.drop_eq_nil_of_le (by simp [z1e]),z1m] at hX
   rw [←hX]
   exact ⟨rfl,ov',k',uh HE,uh HK,uh HT⟩
theorem y1i (B pb gc:Nat) (w:World) (ov:Value) (c:Enc) (ch:List Nat) (k base v n:Nat) (h:PS B w pb gc ov c ch k) (hn:n≤16) (hb:base+2^n≤ch.length) (hv:v<2^n) (hk:k≤80000000000000) (hN:ch.length≤140737488355328) :
  Calls Tryz.prog 145 #[.pointer (some ⟨pb,0,none⟩),.int .i64 (base:Int),.int .i64 (v:Int),.int .i64 (n:Int)] w fun e w'=>e=.returned (.int .i64 0)∧∃ov' k',PS B w' pb gc ov' (z1m base 1 (z1e v n true) (c,ch)).1 (z1m base 1 (z1e v n true) (c,ch)).2 k'∧k'≤k+n∧Tch w w' pb gc 0 ov ov':=by
 have HC:=z4s (v:Int) (n:Int) w
 have H1:=qz (z5c B pb gc _ ov c ch k base v n w.heap.size (w.heap.size+1) ((h.alloc _).alloc _) HC hn hb hv hk hN)
 have HT:=qz (((Tch.refl w pb gc 0 ov).alloc (.cells #[.int .i64 (v:Int)] 3)).alloc (.cells #[.int .i64 (n:Int)] 3))
 clear HC h hv hb
 go_enter Tryz.func145,Tryz.ntmps145
 go_wp2_with (first|(go_at_call 170;refine (z8x v n w).mono ?_;rintro e w1 ⟨rfl,rfl⟩)|(go_at_call 169;refine (uh H1).mono ?_;rintro e w1 ⟨rfl,ov',k',h1,h2,h3⟩))
 go_ret
 exact ⟨rfl,ov',k',h1,h2,(uh HT).trans h3⟩
theorem y3f (B pb gc:Nat) (w:World) (ov:Value) (c:Enc) (ch:List Nat) (k base v n:Nat) (h:PS B w pb gc ov c ch k) (hn:n≤16) (hb:base+2^n≤ch.length) (hv:v<2^n) (hk:k≤80000000000000) (hN:ch.length≤140737488355328) :
  Calls Tryz.prog 147 #[.pointer (some ⟨pb,0,none⟩),.int .i64 (base:Int),.int .i64 (v:Int),.int .i64 (n:Int)] w fun e w'=>e=.returned (.int .i64 0)∧∃ov' k',PS B w' pb gc ov' (z1m base 1 (z1e v n false) (c,ch)).1 (z1m base 1 (z1e v n false) (c,ch)).2 k'∧k'≤k+n∧Tch w w' pb gc 0 ov ov':=by
 have HC:=y0p (v:Int) w
 have H1:=qz (z6b B pb gc _ ov c ch k base v n w.heap.size (h.alloc _) HC hn hb hv hk hN)
 have HT:=qz ((Tch.refl w pb gc 0 ov).alloc (.cells #[.int .i64 (v:Int)] 3))
 clear HC h hv hb
 go_enter Tryz.func147,Tryz.ntmps147
 go_wp2_with (first|(go_at_call 171;refine (y4b v w).mono ?_;rintro e w1 ⟨rfl,rfl⟩)|(go_at_call 169;refine (uh H1).mono ?_;rintro e w1 ⟨rfl,ov',k',h1,h2,h3⟩))
 go_ret
 exact ⟨rfl,ov',k',h1,h2,(uh HT).trans h3⟩
end D
namespace D
open Go.RowKit Rang
attribute [local go_sem ↓] wp_at_zero wp_at_succ
def Ints (w:World) (g:Nat) (l:List Nat):Prop:=w.heap[g]?=some (.cells (l.map fun p:Nat=>Value.int .i64 (p:Int)).toArray 3 (0,0))
theorem Ints.cell {w:World} {g:Nat} {l:List Nat} (h:Ints w g l) (i:Nat) (hi:i<l.length):w.cell? ⟨g,i,none⟩=some (.int .i64 ((l.getD i 0:Nat):Int)):=by
 simp only [World.cell?,show w.heap[g]?=_ from h]
 simp [List.getElem?_map,List.getElem?_eq_getElem hi,List.getD_eq_getElem?_getD]
theorem Ints.free {w:World} {g:Nat} {l:List Nat} (h:Ints w g l) (i:Nat):w.frozen? ⟨g,i,none⟩=false:=by simp [World.frozen?,show w.heap[g]?=_ from h]
theorem Ints.set {w:World} {g:Nat} {l:List Nat} (h:Ints w g l) (i x:Nat):Ints (w.setCell ⟨g,i,none⟩ (.int .i64 (x:Int))) g (l.set i x):=by
 unfold Ints
 rw [heap_setCell_same w g i _ 3 _ h]
 simp [List.map_set]
def z2a (ch:List Nat) (i:Nat):List Nat:=ch.take i++List.replicate (ch.length-i) 0
theorem z8b (ch:List Nat) (i:Nat) (h:i<ch.length):(z2a ch i).set i (ch.getD i 0)=z2a ch (i+1):=by
 unfold z2a
 rw [show ch.length-i=(ch.length-(i+1))+1 by omega,List.replicate_succ,List.set_append_right _ _ (by simp;omega),List.length_take,Nat.min_eq_left (by omega),Nat.sub_self,List.set_cons_zero,List.take_add_one,List.getElem?_eq_getElem h,List.append_assoc,List.getD_eq_getElem?_getD,List.getElem?_eq_getElem h]
 rfl
theorem z8a (ch:List Nat) (i:Nat) (h:i≤ch.length):(z2a ch i).length=ch.length:=by simp [z2a];omega
theorem y1h (gc:Nat) (ch:List Nat) (w:World) (h:PCh w gc ch) (hn:ch.length≤65536) (hs:∀p∈ch,p<65536) :
  Calls Tryz.prog 82 #[.slice (some ⟨gc,0,none⟩) ch.length ch.length] w fun e w'=>e=.returned (.slice (some ⟨w.heap.size,0,none⟩) ch.length ch.length)∧Ints w' w.heap.size ch∧Below w.heap.size w w':=by
 obtain ⟨n,hnn⟩:∃n,n=ch.length:=⟨_,rfl⟩
 have HN:=qz hnn
 rw [←hnn] at hn ⊢
 have hmk:=z4v w n (by omega)
 have H0:Hid (Ints (w.alloc (.cells ((List.replicate n 0).map fun p:Nat=>Value.int .i64 (p:Int)).toArray 3)) w.heap.size (z2a ch 0)):=qz (by
  unfold Ints z2a
  rw [heap_alloc_new,hnn]
  simp)
 have HB:Hid (Below w.heap.size w (w.alloc (.cells ((List.replicate n 0).map fun p:Nat=>Value.int .i64 (p:Int)).toArray 3))):=qz ((Below.refl _ _).alloc (Nat.le_refl _) _)
 obtain ⟨CS,hCS⟩:∃CS,CS=((List.replicate n 0).map fun p:Nat=>Value.int .i64 (p:Int)).toArray:=⟨_,rfl⟩
 rw [←hCS] at hmk H0 HB
 have HP:=qz h
 have HS:=qz hs
 clear hCS h hs hnn
 go_enter Tryz.func82,Tryz.ntmps82
 go_wp2_with fail
 clear hmk
 go_loopg [11] n (fun gk d ws=>∃ (i:Nat),gk=n-i∧i≤n∧d=.int .i64 (i:Int)∧Hid (Ints ws w.heap.size (z2a ch i))∧Hid (Below w.heap.size w ws))
 case atStart=>exact ⟨0,by omega,by omega,rfl,H0,HB⟩
 case round =>
  clear H0 HB
  obtain ⟨i,rfl,hi,rfl,H0,HB⟩:=hrel
  by_cases hlt:i<n
  ·have tl:(i:Int)<(n:Int):=by omega
   have hic:i<ch.length:=by rw [←uh HN];exact hlt
   have c1:=(uh H0).cell i (by rw [z8a ch i (by omega)];exact hic)
   have c2:=(uh H0).free i
   have HSt:=qz ((uh H0).set i (ch.getD i 0))
   rw [z8b ch i hic] at HSt
   have c3:wr.cell? ⟨gc,i,none⟩=some (.int .u16 ((ch.getD i 0:Nat):Int)):=by
    rw [(uh HB).cell (z0i ((uh HP).cell i hic))]
    exact (uh HP).cell i hic
   have hx:ch.getD i 0<65536:=uh HS _ (z6p hic)
   generalize (z2a ch i).getD i 0=x at c1
   generalize ch.getD i 0=z at c3 HSt hx
   go_wp2_with fail
   go_roundg (n-(i+1))
   case measure=>omega
   case rel=>exact ⟨i+1,rfl,by omega,by go_num,qz (uh HSt),qz ((uh HB).setCell (Nat.le_refl _) _)⟩
  ·obtain rfl:n=i:=by omega
   have tl:¬ (n:Int)<(n:Int):=by omega
   go_wp2_with fail
   go_ret
   refine ⟨rfl,?_,uh HB⟩
   have:=uh H0
   unfold z2a at this
   rw [uh HN] at this
   simpa using this
theorem Chs.small {ch:List Nat} (h:Chs ch):∀p∈ch,p<65536:=fun p hp=>by have:=h p hp;omega
theorem z5y (B pb gc:Nat) (w:World) (ov:Value) (c:Enc) (ch:List Nat) (h:PC B w pb gc ov c ch) (hc:Chs ch) (hn:ch.length≤65536) :
  Calls Tryz.prog 52 #[.pointer (some ⟨pb,0,none⟩)] w fun e w'=>e=.returned (.slice (some ⟨w.heap.size,0,none⟩) ch.length ch.length)∧Ints w' w.heap.size ch∧Below w.heap.size w w':=by
 have HG:=qz (z2d pb w true h.enc.made)
 have HT:=qz (y1h gc ch w h.chs hn hc.small)
 have c1:=h.enc.chs
 obtain ⟨n,hnn⟩:∃n,n=ch.length:=⟨_,rfl⟩
 rw [←hnn] at c1 HT ⊢
 clear h hc hnn
 go_enter Tryz.func52,Tryz.ntmps52
 go_wp2_with (first|(go_at_call 53;refine (uh HG).mono ?_;rintro e w1 ⟨rfl,rfl⟩)|(go_at_call 82;refine (uh HT).mono ?_;rintro e w2 ⟨rfl,h1,h2⟩;have H1:=qz h1;have H2:=qz h2;clear h1 h2))
 go_ret
 exact ⟨rfl,uh H1,uh H2⟩
end D
namespace D
open Go.RowKit Rang
attribute [local go_sem ↓] wp_at_zero wp_at_succ
theorem z4o {w:World} {B t n:Nat} {v:Value} {xs:List Value} (h:w.ownsRow B t 1 v n xs):∃a c,v=.slice a n c:=by
 rcases h.2 with ⟨e,rfl⟩|⟨g,cap,cur,e,_⟩
 ·exact ⟨_,_,e⟩
 ·exact ⟨_,_,e⟩
theorem z7m (w:World) (n c:Nat) (hn:n≤c) (hc:c≤140737488355328):(Instr.makeSlice 32 (.int .i64 (n:Int)) (.int .i64 (c:Int))).run Tryz.prog w=.ok (.slice (some ⟨w.heap.size,0,none⟩) n c) (w.alloc (.cells (List.replicate c (bv 0)).toArray 5)):=by
 obtain ⟨i0,hi,hz0,hz1,hz2⟩:=info_parts info5
 have:=run_make (P:=Tryz.prog) w 32 5 i0 (.int .u8 0) Tryz.underlying32 hi hz0 .i64 .i64 (n:Int) (c:Int) (by omega) (by omega) (by rw [hz2];omega) (by omega)
 rw [hz1] at this
 rw [this]
 congr 3
 apply Array.ext (by simp [madeCells])
 intro k k1 k2
 simp [madeCells,Value.cells,Nat.mod_one,bv]
theorem y3h {L wt k C:Nat} (h:L+wt=k+1) (hk:k≤90000000000000) (hC:C=L+wt+5):L≤C∧C≤140737488355328∧wrap64 ((L:Int)+(wt:Int))=(L:Int)+(wt:Int)∧(L:Int)+(wt:Int)+5=(C:Int)∧wrap64 (C:Int)=(C:Int)∧IntKind.i64.wrap ((L:Int)+(wt:Int))=(L:Int)+(wt:Int)∧IntKind.i64.wrap (C:Int)=(C:Int):=by
 refine ⟨by omega,by omega,IntWalk.wrap64_in _ (by omega),by omega,IntWalk.wrap64_in _ (by omega),?_,?_⟩<;>rw [IntKind.wrap_i64]<;>omega
theorem z9o (B pb:Nat) (w:World) (chv ov:Value) (c:Enc) (T k:Nat) (h:PAt B w pb chv ov c) (hw:Wide c T k) (hk:k≤90000000000000) (a3:Option Addr) (n3 c9:Nat) (hcv:chv=.slice a3 n3 c9) :
  Calls Tryz.prog 31 #[.pointer (some ⟨pb,0,none⟩)] w fun e w'=>∃v,e=.returned v∧StB w w' v (y1z c):=by
 have HGD:=qz (z2d pb w true h.made)
 have c0:=h.made
 have c1:=h.chs
 have c2:=h.low
 have c3:=h.rng
 have c4:=h.kept
 have c5:=h.wait
 have c6:=h.out
 have HE:=qz h
 have HW:=qz hw
 obtain ⟨oa,oc,rfl⟩:=z4o h.row
 subst hcv
 have hpl:=z0c h.cells
 obtain ⟨go,hgo⟩:∃go,go=w.heap.size:=⟨_,rfl⟩
 have HGO:=qz hgo
 obtain ⟨L,hL⟩:∃L,L=c.out.length:=⟨_,rfl⟩
 obtain ⟨wt,hwt⟩:∃wt,wt=c.wait:=⟨_,rfl⟩
 have hlen:L+wt=k+1:=by rw [hL,hwt];exact hw.st.len
 rw [←hL] at c6 HE
 rw [←hwt] at c5
 have HL:=qz hL
 have HWT:=qz hwt
 have HC:Hid (Below go w (w.alloc (.cells (z0m (.slice a3 n3 c9) (.slice oa L oc) c) 115))):=qz (by rw [hgo];exact (Below.refl _ _).alloc (Nat.le_refl _) _)
 have HG:Hid ((w.alloc (.cells (z0m (.slice a3 n3 c9) (.slice oa L oc) c) 115)).heap[go]?=some (.cells (z0m (.slice a3 n3 c9) (.slice oa L oc) c) 115 (0,0))):=qz (by rw [hgo];exact heap_alloc_new _ _)
 clear h hw hL hwt
 go_enter Tryz.func31,Tryz.ntmps31
 go_upto_region 4 with (first|(go_at_call 53;refine (uh HGD).mono ?_;rintro e w1 ⟨rfl,rfl⟩))
 rw [←hgo]
 clear hgo HGD
 have hsz:(w1.alloc (.cells (z0m (.slice a3 n3 c9) (.slice oa L oc) c) 115)).heap.size=go+1:=by rw [uh HGO];simp
 obtain ⟨W1,hW1⟩:∃W1,W1=w1.alloc (.cells (z0m (.slice a3 n3 c9) (.slice oa L oc) c) 115):=⟨_,rfl⟩
 rw [←hW1] at HC HG hsz
 have e:w1.alloc (.cells #[.bool true,.slice a3 n3 c9,.int .u64 (c.low:Int),.int .u32 (c.rng:Int),.int .u8 (c.kept:Int),.int .i64 (wt:Int),.slice oa L oc] 115)=W1:=by rw [hW1,uh HWT];rfl
 rw [e]
 clear e hW1 c0 c1 c2 c3 c4 c5 c6
 have hpg:pb<go:=by rw [uh HGO];exact hpl
 have hpb:W1.heap[pb]?=w1.heap[pb]?:=(uh HC).block pb hpg
 have c5:W1.drew.cell? ⟨pb,5,none⟩=some (.int .i64 (wt:Int)):=by
  show W1.cell? _=_
  simp only [World.cell?]
  rw [hpb,uh HWT]
  exact (uh HE).wait
 have c6:W1.drew.cell? ⟨pb,6,none⟩=some (.slice oa L oc):=by
  show W1.cell? _=_
  simp only [World.cell?]
  rw [hpb]
  exact (uh HE).out
 have g6:W1.drew.cell? ⟨go,6,none⟩=some (.slice oa L oc):=by
  show W1.cell? _=_
  simp [World.cell?,uh HG,z0m]
 have f6:∀O,(W1.drew.alloc O).frozen? ⟨go,6,none⟩=false:=fun O=>by
  have:(W1.drew.alloc O).heap[go]?=W1.heap[go]?:=Below.heap_alloc W1.drew O go (by show go<W1.heap.size;omega)
  simp [World.frozen?,this,uh HG]
 have g6':∀O,(W1.drew.alloc O).cell? ⟨go,6,none⟩=some (.slice oa L oc):=fun O=>by
  have:(W1.drew.alloc O).heap[go]?=W1.heap[go]?:=Below.heap_alloc W1.drew O go (by show go<W1.heap.size;omega)
  simp [World.cell?,this,uh HG,z0m]
 have f6'':∀O,(W1.alloc O).drew.frozen? ⟨go,6,none⟩=false:=f6
 have g6'':∀O,(W1.alloc O).drew.cell? ⟨go,6,none⟩=some (.slice oa L oc):=g6'
 obtain ⟨C,hC⟩:∃C,C=L+wt+5:=⟨_,rfl⟩
 obtain ⟨r1,r2,fa,fc,fd,fb,fe⟩:=y3h hlen hk hC
 have hmk:=z7m W1.drew L C r1 r2
 have hs1:W1.drew.heap.size=go+1:=hsz
 rw [hs1] at hmk
 have HCC:=qz hC
 have HSZ:=qz hsz
 have HSZ2:=qz hs1
 have HLN:=qz hlen
 clear hC hsz hs1 hlen hpb
 refine z1d 16 (by kernel_rfl) (by kernel_rfl) ?_
 simp only [List.take_succ_cons,List.take_zero,List.drop_succ_cons,List.drop_zero]
 repeat still_step
 try refine wpStill_nil ?_
 go_upto_region 5 with fail
 have hcs:(.cells (Array.replicate C (bv 0)) 5:Obj)=.cells (List.replicate C (bv 0)).toArray 5:=by simp
 rw [hcs]
 have HB2:Hid (Below go w1 (((W1.alloc (.cells (List.replicate C (bv 0)).toArray 5)).setCell ⟨go,6,none⟩ (.slice (some ⟨go+1,0,none⟩) L C)).drew)):=qz (((uh HC).alloc (by have:=uh HSZ;omega) _).setCell (Nat.le_refl _) _).drew
 have HG2:Hid ((((W1.alloc (.cells (List.replicate C (bv 0)).toArray 5)).setCell ⟨go,6,none⟩ (.slice (some ⟨go+1,0,none⟩) L C)).drew).heap[go]?=some (.cells (z0m (.slice a3 n3 c9) (.slice (some ⟨go+1,0,none⟩) L C) c) 115 (0,0))):=qz (by
  show ((W1.alloc _).setCell ⟨go,6,none⟩ _).heap[go]?=_
  rw [heap_setCell_same _ go 6 _ 115 _ (by rw [Below.heap_alloc _ _ _ (by have:=uh HSZ;omega)];exact uh HG)]
  rfl)
 have HG3:Hid ((((W1.alloc (.cells (List.replicate C (bv 0)).toArray 5)).setCell ⟨go,6,none⟩ (.slice (some ⟨go+1,0,none⟩) L C)).drew).heap[go+1]?=some (.cells (List.replicate C (bv 0)).toArray 5 (0,0))):=qz (by
  show ((W1.alloc _).setCell ⟨go,6,none⟩ _).heap[go+1]?=_
  rw [heap_setCell_other _ _ _ _ (by simp),←uh HSZ]
  exact heap_alloc_new _ _)
 obtain ⟨W2,hW2⟩:∃W2,W2=(((W1.alloc (.cells (List.replicate C (bv 0)).toArray 5)).setCell ⟨go,6,none⟩ (.slice (some ⟨go+1,0,none⟩) L C)).drew):=⟨_,rfl⟩
 rw [←hW2] at HB2 HG2 HG3 ⊢
 clear hW2 hcs c5 c6 g6 f6 g6' f6'' g6'' hmk HG HC HSZ HSZ2
 have HR2:Hid (W2.drew.ownsRow B 5 1 (.slice oa L oc) c.out.length (c.out.map bv)):=qz (z1k (uh HE).row fun g eg=>(uh HB2).block g (by rw [uh HGO];exact ((uh HE).row.lt g eg).2))
 have k6:W2.drew.cell? ⟨go,6,none⟩=some (.slice (some ⟨go+1,0,none⟩) L C):=by
  show W2.cell? _=_
  simp [World.cell?,uh HG2,z0m]
 have p6:W2.drew.cell? ⟨pb,6,none⟩=some (.slice oa L oc):=by
  show W2.cell? _=_
  simp only [World.cell?]
  rw [(uh HB2).block pb hpg]
  exact (uh HE).out
 refine z1d 6 (by kernel_rfl) (by kernel_rfl) ?_
 simp only [List.take_succ_cons,List.take_zero,List.drop_succ_cons,List.drop_zero]
 repeat still_step
 try refine wpStill_nil ?_
 have HPOS:Hid (0<(c.out.map bv).length→some (⟨go+1,0,none⟩:Addr)=some ⟨go+1,0,none⟩∧∃ad,oa=some ad∧∀j v,(c.out.map bv)[j]?=some v→W2.drew.cell? (ad.add j)=some v):=qz (by
  intro hp
  rcases (uh HR2).2 with ⟨e1,e2⟩|⟨g,cap,cur,e1,hb,hg,hn,hc,hs',ht⟩
  ·rw [List.length_map] at hp;omega
  ·refine ⟨rfl,⟨g,0,none⟩,?_,fun j u hj=>(uh HR2).cells (g:=g) (by rw [e1];rfl) j u hj⟩
   injection e1)
 have HFIT:Hid (0+(c.out.map bv).length≤(List.replicate C (bv 0)).length∧(c.out.map bv).length=Nat.min L L):=qz (by
  rw [List.length_map,List.length_replicate,←uh HL]
  exact ⟨by omega,(Nat.min_self L).symm⟩)
 have H1C:Hid (∀v∈c.out.map bv,v.oneCell'=true):=qz (by intro u hu;obtain ⟨z,_,rfl⟩:=List.mem_map.1 hu;rfl)
 have HB3:Hid (Below go w1 W2.drew):=qz (uh HB2).drew
 have HG3':Hid (W2.drew.heap[go+1]?=some (.cells (List.replicate C (bv 0)).toArray 5 (0,0))):=HG3
 go_wp2_with (refine wpList_copy_splice rfl (.tmp 29) (.tmp 33) 32 32 rfl 5 Tryz.underlying32 (by kernel_rfl) (some ⟨go+1,0,none⟩) oa L C L oc (by simp [go_sem]) (by simp [go_sem]) (go+1) 0 (List.replicate C (bv 0)) 5 (uh HG3') (c.out.map bv) (uh HFIT).2 (uh HPOS) (uh HFIT).1 (uh H1C) (go+1) W2.drew (Below.refl _ _) (Nat.le_refl _) ?_;intro W3 HG4 h3;have HB4:=qz h3;clear h3)
 have HE3:Hid (PAt w1.heap.size W3 go (.slice a3 n3 c9) (.slice (some ⟨go+1,0,none⟩) L C) (shN 0 c)):=qz (by
  refine ⟨?_,⟨by simp [shN],.inr ⟨go+1,C,(splice (List.replicate C (bv 0)) 0 (c.out.map bv)).toArray,by rw [show (shN 0 c).out.length=L from (uh HL).symm],by rw [←uh HGO];omega,uh HG4,by rw [show (shN 0 c).out.length=L from (uh HL).symm];exact r1,by unfold maxLen;omega,?_,?_⟩⟩,by rw [←uh HGO];exact Nat.le_refl _⟩
  ·rw [(uh HB4).block go (by omega)]
   exact uh HG2
  ·rw [List.size_toArray,length_splice _ _ _ (uh HFIT).1,List.length_replicate,Nat.mul_one]
  ·simp [splice,shN])
 have HB5:Hid (Below w1.heap.size w1 W3):=qz (by
  have h1:=uh HB3
  rw [uh HGO] at h1
  exact h1.trans ((uh HB4).mono (by rw [uh HGO];omega)))
 clear HG4 HB4 HB3 HG2 HG3 HG3' HB2 HPOS HFIT H1C HR2 k6 p6 fa fb fc fd fe HE
 go_loopg [35] 5 (fun gk d ws=>∃ (i:Nat) (ov':Value),gk=5-i∧i≤5∧d=.int .i64 (i:Int)∧Hid (PAt w1.heap.size ws go (.slice a3 n3 c9) ov' (shN i c))∧Hid (Below w1.heap.size w1 ws))
 case atStart=>exact ⟨0,_,by omega,by omega,rfl,HE3,HB5⟩
 case round =>
  clear HE3 HB5
  obtain ⟨i,ov',rfl,hi,rfl,HE3,HB3⟩:=hrel
  by_cases hlt:i<5
  ·have tl:(i:Int)<5:=by omega
   have hst:=z4a (c:=c) (T:=T) (k:=k) (by
    have:=z1j (uh HW).st 1 c.rng (by omega) (by have:=(uh HW).lo;omega)
    exact this) i
   have HCL:=qz (z5a w1.heap.size go wr (.slice a3 n3 c9) ov' (shN i c) (uh HE3) (by have:=hst.lo;omega) hst.kept ⟨hst.wait,(by have:=hst.len;omega)⟩ (uh HB3).size)
   clear hst
   go_wp2_with fail
   refine (uh HCL).mono ?_
   rintro e w5 ⟨rfl,ov5,h5,h6⟩
   have HE5:Hid (PAt w1.heap.size w5 go (.slice a3 n3 c9) ov5 (shN (i+1) c)):=qz h5
   have HB5:Hid (Below w1.heap.size w1 w5):=qz ⟨h6.os.trans (uh HB3).os,h6.tape.trans (uh HB3).tape,h6.output.trans (uh HB3).output,Nat.le_trans (uh HB3).size h6.size,fun q hq=>by
    rw [h6.keep q (Nat.lt_of_lt_of_le hq (uh HB3).size) (by have:=(uh HE3).lo;omega) (fun e=>by have:=((uh HE3).row.lt q e).1;omega)]
    exact (uh HB3).block q hq⟩
   clear h5 h6 HCL
   go_wp2_with fail
   go_roundg (5-(i+1))
   case measure=>omega
   case rel=>exact ⟨i+1,ov5,rfl,by omega,by go_num,HE5,HB5⟩
  ·obtain rfl:i=5:=by omega
   have k5:=(uh HE3).out
   obtain ⟨a6,n6,q6,e6⟩:=z3h (uh HE3).row
   subst e6
   go_wp2_with fail
   go_ret
   exact ⟨_,rfl,⟨(uh HE3).row,uh HB3⟩⟩
end D
namespace D
open Go.RowKit Rang
attribute [local go_sem ↓] wp_at_zero wp_at_succ
def bs (zs:List Nat):ByteArray:=⟨(zs.map UInt8.ofNat).toArray⟩
def Reads (w:World) (v:Value) (zs:List Nat):Prop :=
 ∃a cap,v=.slice a zs.length cap∧(0<zs.length→∃ad,a=some ad∧∀ (j:Nat) u,(zs.map bv)[j]?=some u→w.cell? (ad.add j)=some u)
theorem z3c (w:World) (a:Option Addr) (cap:Nat):(convert 32 9 (.slice a 0 cap)).run Tryz.prog w=.ok (.string ⟨#[]⟩) w:=by
 rw [run_convert_bytes_string w 32 9 5 a 0 cap Tryz.underlying32 Tryz.underlying5 Tryz.underlying9]
 cases a<;>simp [Conv.bytesToString,loadCells]<;>rfl
theorem z0u {w:World} {v:Value} {zs:List Nat} (h:Reads w v zs) (hs:∀z∈zs,z<256):(convert 32 9 v).run Tryz.prog w=.ok (.string (bs zs)) w:=by
 by_cases h0:zs.length=0
 ·obtain ⟨a,cap,rfl,_⟩:=h
  obtain rfl:zs=[]:=List.eq_nil_of_length_eq_zero h0
  exact z3c w a cap
 ·obtain ⟨a,cap,rfl,hc⟩:=h
  obtain ⟨ad,rfl,hc2⟩:=hc (by omega)
  have:=run_convert_bytes_back w 32 9 5 ad cap (zs.map UInt8.ofNat) Tryz.underlying32 Tryz.underlying5 Tryz.underlying9 (by
   intro j hj
   simp at hj
   have hzj:=hs zs[j] (List.getElem_mem hj)
   rw [hc2 j (bv zs[j]) (by simp [hj])]
   simp [bv,Nat.mod_eq_of_lt hzj])
  simpa [bs] using this
end D
namespace D
open Go.RowKit Rang
attribute [local go_sem ↓] wp_at_zero wp_at_succ
def Fit1 (p:Int):Prop:=31≤p∧p≤2017
theorem y2x (p:Int) (w:World) (h:Fit1 p):Calls Tryz.prog 106 #[.int .i64 p] w fun e w'=>e=.returned (.bool false)∧w'=w:=by
 have t1:¬p<31:=by have:=h.1;omega
 have t2:¬2017<p:=by have:=h.2;omega
 have d1:decide (p<31)=false:=decide_eq_false t1
 have d2:decide (2017<p)=false:=decide_eq_false t2
 clear h
 go_enter Tryz.func106,Tryz.ntmps106
 go_wp2_with fail
 go_ret
 exact ⟨rfl,rfl⟩
theorem y1e (p:Int) (w:World) (h:¬Fit1 p):Calls Tryz.prog 106 #[.int .i64 p] w fun e w'=>e=.returned (.bool true)∧w'=w:=by
 by_cases t1:p<31
 ·have d1:decide (p<31)=true:=decide_eq_true t1
  clear h
  go_enter Tryz.func106,Tryz.ntmps106
  go_wp2_with fail
  go_ret
  exact ⟨rfl,rfl⟩
 ·have t2:2017<p:=by
   rcases Int.lt_or_le 2017 p with h1|h1
   ·exact h1
   ·exact absurd ⟨by omega,h1⟩ h
  have d1:decide (p<31)=false:=decide_eq_false t1
  have d2:decide (2017<p)=true:=decide_eq_true t2
  clear h
  go_enter Tryz.func106,Tryz.ntmps106
  go_wp2_with fail
  go_ret
  exact ⟨rfl,rfl⟩
def y4n (l:List Int) (w:World) (e:Ending) (w':World):Prop:=∃r:Int,e=.returned (.int .i64 r)∧(0≤r↔¬∀p∈l,Fit1 p)∧w'=w
theorem z8p {l:List Int} {i:Nat} (hi:i<l.length) (h:∀p∈l.take i,Fit1 p) (h1:Fit1 (l.getD i 0)):∀p∈l.take (i+1),Fit1 p:=by
 intro p hp
 rw [List.take_add_one,List.getElem?_eq_getElem hi] at hp
 rcases List.mem_append.1 hp with h2|h2
 ·exact h p h2
 ·simp only [Option.toList,List.mem_singleton] at h2
  rw [h2]
  rw [List.getD_eq_getElem?_getD,List.getElem?_eq_getElem hi] at h1
  exact h1
theorem z4u {l:List Int} {r:Nat} (h:r<l.length):l.getD r 0∈l:=by
 rw [List.getD_eq_getElem?_getD,List.getElem?_eq_getElem h]
 exact List.getElem_mem h
theorem z4j (l:List Int) (a0:Option Addr) (cap:Nat) (w:World) (hc:IntsIn w a0 l) (hl:l.length≤17592186044416) :
  Calls Tryz.prog 137 #[.slice a0 l.length cap,.func (.func 106) #[] #[]] w fun e w'=>y4n l w e w':=by
 have HC:=qz hc
 obtain ⟨n,hn⟩:∃n,n=l.length:=⟨_,rfl⟩
 have HN:=qz hn
 rw [←hn] at hl ⊢
 clear hn hc
 go_enter Tryz.func137,Tryz.ntmps137
 go_wp2_with fail
 go_loopg [8] n (fun gk d ws=>∃ (i:Nat),gk=n-i∧i≤n∧d=.int .i64 (i:Int)∧w=ws∧Hid (∀p∈l.take i,Fit1 p))
 case atStart=>exact ⟨0,by omega,by omega,rfl,rfl,qz (by simp)⟩
 case round =>
  obtain ⟨i,rfl,hi,rfl,rfl,HF⟩:=hrel
  by_cases hlt:i<n
  ·have tl:(i:Int)<(n:Int):=by omega
   have hil:i<l.length:=by rw [←uh HN];exact hlt
   obtain ⟨g,off,rfl,c1⟩:=uh HC i hil
   by_cases hf:Fit1 (l.getD i 0)
   ·have H1:=qz (y2x (l.getD i 0) w hf)
    have HF2:=qz (z8p hil (uh HF) hf)
    clear hf HF hil
    generalize l.getD i 0=z at c1 H1
    go_wp2_with (first|(go_at_call 106;refine (uh H1).mono ?_;rintro e w1 ⟨rfl,rfl⟩))
    go_roundg (n-(i+1))
    case measure=>omega
    case rel=>exact ⟨i+1,rfl,by omega,by go_num,rfl,HF2⟩
   ·have H1:=qz (y1e (l.getD i 0) w hf)
    have HF2:Hid (¬∀p∈l,Fit1 p):=qz (fun h=>hf (h _ (z4u hil)))
    clear hf HF hil
    generalize l.getD i 0=z at c1 H1
    go_wp2_with (first|(go_at_call 106;refine (uh H1).mono ?_;rintro e w1 ⟨rfl,rfl⟩))
    go_ret
    exact ⟨(i:Int),rfl,⟨fun _=>uh HF2,fun _=>by omega⟩,rfl⟩
  ·obtain rfl:n=i:=by omega
   have tl:¬ (n:Int)<(n:Int):=by omega
   go_wp2_with fail
   go_ret
   refine ⟨-1,rfl,⟨fun h=>absurd h (by decide),fun h=>absurd ?_ h⟩,rfl⟩
   have:=uh HF
   rw [uh HN,List.take_length] at this
   exact this
theorem z5s (l:List Int) (a0:Option Addr) (cap:Nat) (w:World) (b:Bool) (hc:IntsIn w a0 l) (hl:l.length≤17592186044416) (hb:b=true↔¬∀p∈l,Fit1 p) :
  Calls Tryz.prog 105 #[.slice a0 l.length cap,.func (.func 106) #[] #[]] w fun e w'=>e=.returned (.bool b)∧w'=w:=by
 have HI:=qz (z4j l a0 cap w hc hl)
 have HB:=qz hb
 generalize l.length=n at HI ⊢
 clear hc hb
 go_enter Tryz.func105,Tryz.ntmps105
 go_wp2_with fail
 refine (uh HI).mono ?_
 rintro e w1 ⟨r,rfl,h1,rfl⟩
 have d1:decide (0≤r)=b:=by
  cases b
  ·exact decide_eq_false (fun h=>by have:=(uh HB).2 (h1.1 h);cases this)
  ·exact decide_eq_true (h1.2 ((uh HB).1 rfl))
 clear h1
 go_wp2_with fail
 go_ret
 exact ⟨rfl,rfl⟩
end D
namespace D
open Go.RowKit Rang
attribute [local go_sem ↓] wp_at_zero wp_at_succ
theorem y4c (gc i p:Nat) (ch:List Nat) (w:World) (h:PCh w gc ch) (hi:i<ch.length) (hp:p<65536) :
  Calls Tryz.prog 76 #[.slice (some ⟨gc,0,none⟩) ch.length ch.length,.int .i64 (i:Int),.int .i64 (p:Int)] w fun e w'=>e=.returned (.tuple #[])∧w'=w.setCell ⟨gc,i,none⟩ (.int .u16 (p:Int)):=by
 have c1:=h.cell i hi
 have c2:=h.free i
 generalize ch.getD i 0=x at c1
 obtain ⟨n,hn⟩:∃n,n=ch.length:=⟨_,rfl⟩
 rw [←hn] at hi ⊢
 have ti:(i:Int)<(n:Int):=by omega
 have f1:(p:Int)%65536=(p:Int):=by omega
 clear h hn
 go_enter Tryz.func76,Tryz.ntmps76
 go_wp2_with fail
 go_end0
 exact ⟨rfl,rfl⟩
theorem IntsIn.keepCh {w:World} {a0:Option Addr} {l:List Int} {gc:Nat} {ch:List Nat} (h:IntsIn w a0 l) (hc:PCh w gc ch) (i:Nat) (v:Value):IntsIn (w.setCell ⟨gc,i,none⟩ v) a0 l:=fun j hj=>by
 obtain ⟨g,off,e,c⟩:=h j hj
 refine ⟨g,off,e,?_⟩
 have hne:g≠gc:=by
  rintro rfl
  simp only [World.cell?,show w.heap[g]?=_ from hc] at c
  simp only [List.getElem?_toArray,List.getElem?_map] at c
  cases hx:ch[off+j]? with
  | none=>rw [hx] at c;cases c
  | some x=>rw [hx] at c;cases c
 simp only [World.cell?] at c ⊢
 rw [heap_setCell_other _ _ _ _ hne]
 exact c
def z4q (ch:List Nat) (l:List Int) (i:Nat):List Nat:=(l.take i).map Int.toNat++ch.drop i
theorem z5d (ch:List Nat) (l:List Int) (i:Nat) (h:i≤ch.length) (hl:l.length=ch.length):(z4q ch l i).length=ch.length:=by simp [z4q];omega
theorem y0a (ch:List Nat) (l:List Int) (i:Nat) (h:i<ch.length) (hl:l.length=ch.length):(z4q ch l i).set i (l.getD i 0).toNat=z4q ch l (i+1):=by
 unfold z4q
 have hi:i<l.length:=by omega
 rw [List.drop_eq_getElem_cons h,List.set_append_right _ _ (by simp;omega),List.length_map,List.length_take,Nat.min_eq_left (by omega),Nat.sub_self,List.set_cons_zero,List.take_add_one,List.getElem?_eq_getElem hi,List.map_append,List.append_assoc,List.getD_eq_getElem?_getD,List.getElem?_eq_getElem hi]
 rfl
theorem y2o (gc:Nat) (ch:List Nat) (l:List Int) (a0:Option Addr) (cap:Nat) (w:World) (h:PCh w gc ch) (hc:IntsIn w a0 l) (hl:l.length=ch.length) (hf:∀p∈l,Fit1 p) (hn:ch.length≤65536) :
  Calls Tryz.prog 75 #[.slice a0 l.length cap,.int .i64 (ch.length:Int),.func (.func 76) #[.slice (some ⟨gc,0,none⟩) ch.length ch.length] #[]] w fun e w'=>e=.returned (.int .i64 0)∧PCh w' gc (l.map Int.toNat)∧DT w w' gc gc 0:=by
 have HCT:=qz (z5s l a0 cap w false hc (by omega) ⟨fun e=>(by cases e),fun e=>absurd hf e⟩)
 have HP:=qz h
 have HC:=qz hc
 have HF:=qz hf
 rw [hl] at HCT ⊢
 obtain ⟨n,hnn⟩:∃n,n=ch.length:=⟨_,rfl⟩
 have HN:=qz hnn
 have HL:=qz hl
 rw [←hnn] at hn HCT ⊢
 clear h hc hf hl hnn
 go_enter Tryz.func75,Tryz.ntmps75
 go_wp2_with (first|(go_at_call 105;refine (uh HCT).mono ?_;rintro e w1 ⟨rfl,rfl⟩))
 clear HCT
 go_loopg [19] n (fun gk d ws=>∃ (i:Nat),gk=n-i∧i≤n∧d=.int .i64 (i:Int)∧Hid (PCh ws gc (z4q ch l i))∧Hid (IntsIn ws a0 l)∧Hid (DT w1 ws gc gc 0))
 case atStart=>exact ⟨0,by omega,by omega,rfl,qz (by simpa [z4q] using uh HP),HC,qz (DT.refl _ _ _ _)⟩
 case round =>
  clear HP HC
  obtain ⟨i,rfl,hi,rfl,HP,HC,HT⟩:=hrel
  by_cases hlt:i<n
  ·have tl:(i:Int)<(n:Int):=by omega
   have hic:i<ch.length:=by rw [←uh HN];exact hlt
   have hil:i<l.length:=by rw [uh HL];exact hic
   obtain ⟨g,off,rfl,c1⟩:=uh HC i hil
   have hfit:=uh HF _ (z4u hil)
   obtain ⟨z,hz⟩:∃z,z=(l.getD i 0).toNat:=⟨_,rfl⟩
   have hz2:l.getD i 0=(z:Int):=by rw [hz];have:=hfit.1;omega
   have hz3:z<65536:=by have:=hfit.2;omega
   have HS:=qz (y4c gc i z (z4q ch l i) wr (uh HP) (by rw [z5d ch l i (by omega) (uh HL)];exact hic) hz3)
   have HP2:=qz ((uh HP).set i z)
   rw [hz,y0a ch l i hic (uh HL),←hz] at HP2
   have HC2:=qz ((uh HC).keepCh (uh HP) i (.int .u16 (z:Int)))
   have HT2:Hid (DT w1 (wr.setCell ⟨gc,i,none⟩ (.int .u16 (z:Int))) gc gc 0):=qz ((uh HT).trans ⟨rfl,rfl,rfl,by simp,fun k h1 _=>heap_setCell_other _ _ _ _ h1⟩)
   rw [z5d ch l i (by omega) (uh HL),←uh HN] at HS
   rw [hz2] at c1
   clear hz hz2 hfit HP HC HT hic hil
   go_wp2_with (first|(go_at_call 76;refine (uh HS).mono ?_;rintro e w2 ⟨rfl,rfl⟩))
   go_roundg (n-(i+1))
   case measure=>omega
   case rel=>exact ⟨i+1,rfl,by omega,by go_num,HP2,HC2,HT2⟩
  ·obtain rfl:n=i:=by omega
   have tl:¬ (n:Int)<(n:Int):=by omega
   go_wp2_with fail
   go_ret
   refine ⟨rfl,?_,uh HT⟩
   have:=uh HP
   unfold z4q at this
   rw [uh HN,←uh HL,List.take_length,uh HL,List.drop_length,List.append_nil] at this
   exact this
theorem IntsIn.of {w w':World} {a0:Option Addr} {l:List Int} (h:IntsIn w a0 l) (hb:∀k,k<w.heap.size→w'.heap[k]?=w.heap[k]?):IntsIn w' a0 l:=fun j hj=>by
 obtain ⟨g,off,e,c⟩:=h j hj
 refine ⟨g,off,e,?_⟩
 simp only [World.cell?] at c ⊢
 rw [hb g (z0i (w:=w) (p:=⟨g,off+j,none⟩) (u:=.int .i64 (l.getD j 0)) (by simpa [World.cell?] using c))]
 exact c
theorem Chs.toNat {l:List Int} (h:∀p∈l,Fit1 p):Chs (l.map Int.toNat):=fun p hp=>by
 obtain ⟨z,hz,rfl⟩:=List.mem_map.1 hp
 have:=h z hz
 have h1:=this.1
 have h2:=this.2
 omega
theorem PS.setAll {B:Nat} {w w':World} {pb gc:Nat} {ov:Value} {c:Enc} {ch ch':List Nat} {k:Nat} (h:PS B w pb gc ov c ch k) (h1:PCh w' gc ch') (h2:DT w w' gc gc 0) (hl:ch'.length=ch.length) (hc:Chs ch'):PS B w' pb gc ov c ch' k∧Tch w w' pb gc 0 ov ov:=by
 have h3:=h.pc.enc.notch h.pc.chs
 refine ⟨⟨⟨⟨by rw [hl,h2.keep pb (fun e=>h3.1 e.symm) (fun e=>h3.1 e.symm)];exact h.pc.enc.cells,z1k h.pc.enc.row fun g e=>h2.keep g (fun e'=>h3.2 (by rw [e,e'])) (fun e'=>h3.2 (by rw [e,e'])),h.pc.enc.lo⟩,h1,h.pc.lo⟩,h.wide,hc,by rw [h2.size];exact h.base⟩,⟨h2.os,h2.tape,h2.output,by rw [h2.size];exact Nat.le_refl _,fun k hk _ hg _=>h2.keep k hg hg,fun b e=>.inl e⟩⟩
theorem y3g (B pb gc:Nat) (w:World) (ov:Value) (c:Enc) (ch:List Nat) (k:Nat) (l:List Int) (a0:Option Addr) (cap:Nat) (h:PS B w pb gc ov c ch k) (hc:IntsIn w a0 l) (hl:l.length=ch.length) (hf:∀p∈l,Fit1 p) (hn:ch.length≤65536) :
  Calls Tryz.prog 50 #[.pointer (some ⟨pb,0,none⟩),.slice a0 l.length cap] w fun e w'=>e=.returned (.int .i64 0)∧PS B w' pb gc ov c (l.map Int.toNat) k∧Tch w w' pb gc 0 ov ov:=by
 have HG:=qz (z2d pb w true h.pc.enc.made)
 have HEA:=qz (y2o gc ch l a0 cap w.drew h.pc.chs (hc.of (fun _ _=>rfl)) hl hf hn)
 have c1:w.drew.cell? ⟨pb,1,none⟩=some (.slice (some ⟨gc,0,none⟩) ch.length ch.length):=h.pc.enc.chs
 have HE:=qz h
 have HF:=qz hf
 have HL:=qz hl
 rw [hl] at HEA ⊢
 obtain ⟨n,hnn⟩:∃n,n=ch.length:=⟨_,rfl⟩
 rw [←hnn] at HEA c1 ⊢
 clear h hc hf hl hnn
 go_enter Tryz.func50,Tryz.ntmps50
 go_upto_region 3 with (first|(go_at_call 53;refine (uh HG).mono ?_;rintro e w1 ⟨rfl,rfl⟩))
 refine z1d 11 (by kernel_rfl) (by kernel_rfl) ?_
 simp only [List.take_succ_cons,List.take_zero,List.drop_succ_cons,List.drop_zero]
 repeat still_step
 try refine wpStill_nil ?_
 go_wp2_with (first|(go_at_call 75;refine (uh HEA).mono ?_;rintro e w2 ⟨rfl,h1,h2⟩;have H1:=qz h1;have H2:=qz h2;clear h1 h2))
 go_ret
 have h3:=(uh HE).setAll (uh H1) ((⟨rfl,rfl,rfl,rfl,fun _ _ _=>rfl⟩:DT w1 w1.drew gc gc 0).trans (uh H2)) (by rw [List.length_map];exact uh HL) (Chs.toNat (uh HF))
 exact ⟨rfl,h3.1,h3.2⟩
end D
namespace D
open Go.RowKit Rang
attribute [local go_sem ↓] wp_at_zero wp_at_succ
theorem y4h {c:Enc} {T T' k k':Nat} (h:Wide c T k) (h':Wide c T' k'):k=k':=by
 have h1:=h.st.len
 have h2:=h'.st.len
 omega
end D
namespace D
open Go.RowKit Rang
theorem z1p {w w':World} {p:Addr} {u:Value} (hb:Below w.heap.size w w') (h:w.cell? p=some u):w'.cell? p=some u:=by
 rw [hb.cell (z0i h)]
 exact h
section
variable {B:Nat} {w w':World} {pb gc:Nat} {ov ov':Value} {c c1:Enc} {ch ch1:List Nat} {k k1:Nat} {qb gd cc:Nat} {ou ou':Value} {c' c2:Enc} {ch' ch2:List Nat} {k' k2:Nat}
end
end D
namespace D
open Go.RowKit Rang
theorem z7a (base:Nat):∀ (bs:List Bool) (m:Nat) (s:Enc × List Nat),(z1m base m bs s).2.length=s.2.length
 | [],m,s=>rfl
 | b :: bs,m,s=>by rw [z1m,z7a base bs,List.length_set]
variable {B pb gc qb gd cc:Nat} {c:Enc} {ch:List Nat} {k:Nat}
end D
namespace D
open Go.RowKit Rang
attribute [local go_sem ↓] wp_at_zero wp_at_succ
end D
namespace D
open Go.RowKit Rang
attribute [local go_sem ↓] wp_at_zero wp_at_succ
end D
namespace D
open Go.RowKit Rang
attribute [local go_sem ↓] wp_at_zero wp_at_succ
end D
namespace D
open Go.RowKit Rang
attribute [local go_sem ↓] wp_at_zero wp_at_succ
end D
namespace D
open Go.RowKit Rang
structure Sta where
 c:Enc
 T:Nat
 k:Nat
 ch:List Nat
def Ok (s:Sta):Prop:=Wide s.c s.T s.k∧Chs s.ch
def putS (s:Sta) (i:Nat) (bit:Bool):Sta :=
 ⟨putE s.c (s.ch.getD i 0) bit,Rang.stepT (putR s.c.rng (s.ch.getD i 0) bit) (putT s.c.rng s.T (s.ch.getD i 0) bit),Rang.stepK (putR s.c.rng (s.ch.getD i 0) bit) s.k,s.ch.set i (after (s.ch.getD i 0) bit)⟩
def dirS (s:Sta) (bit:Bool):Sta:=⟨dirE s.c bit,Rang.stepT (s.c.rng/2) (dirT s.c.rng s.T bit),Rang.stepK (s.c.rng/2) s.k,s.ch⟩
theorem Ok.put {s:Sta} (h:Ok s) {i:Nat} (hi:i<s.ch.length) (bit:Bool):Ok (putS s i bit):=⟨(z6y h.1 (h.2.at hi) bit).1,h.2.set hi bit⟩
theorem Ok.dir {s:Sta} (h:Ok s) (bit:Bool):Ok (dirS s bit):=⟨(z6n h.1 bit).1,h.2⟩
section
variable {B:List Nat} {K:Nat}
end
def z7n (v:Nat):Nat→Sta→Sta
 | 0,s=>s
 | n+1,s=>z7n v n (dirS s (v.testBit n))
theorem z2g (v:Nat):∀ (n:Nat) (s:Sta),(z7n v n s).c=z8m v n s.c∧(z7n v n s).ch=s.ch
 | 0,s=>⟨rfl,rfl⟩
 | n+1,s=>z2g v n (dirS s (v.testBit n))
theorem z6o (v:Nat):∀ (n:Nat) (s:Sta),Ok s→Ok (z7n v n s)
 | 0,s,h=>h
 | n+1,s,h=>z6o v n _ (h.dir _)
def z5b (base:Nat):Nat→List Bool→Sta→Sta
 | _,[],s=>s
 | m,b :: bs,s=>z5b base (2*m+b.toNat) bs (putS s (base+m) b)
theorem z1l (base:Nat):∀ (bs:List Bool) (m:Nat) (s:Sta),(z5b base m bs s).c=(z1m base m bs (s.c,s.ch)).1∧(z5b base m bs s).ch=(z1m base m bs (s.c,s.ch)).2
 | [],m,s=>⟨rfl,rfl⟩
 | b :: bs,m,s=>z1l base bs _ _
def Fits (base m r N:Nat):Prop:=r=0∨base+(m+1)*2^(r-1)≤N
theorem Fits.lt {base m r N:Nat} (h:Fits base m (r+1) N):base+m<N:=by
 rcases h with h|h
 ·omega
 ·rw [Nat.add_sub_cancel] at h
  have:=Nat.two_pow_pos r
  have h2:(m+1)*1≤(m+1)*2^r:=Nat.mul_le_mul_left _ this
  omega
theorem Fits.next {base m r N:Nat} (h:Fits base m (r+1) N) (b:Bool):Fits base (2*m+b.toNat) r N:=by
 rcases h with h|h
 ·omega
 ·rw [Nat.add_sub_cancel] at h
  cases r with
  | zero=>exact .inl rfl
  | succ r =>
   refine .inr ?_
   rw [Nat.add_sub_cancel]
   rw [Nat.pow_succ] at h
   have hb:=Bool.toNat_le b
   have h2:(2*m+b.toNat+1)*2^r≤(2*m+2)*2^r:=Nat.mul_le_mul_right _ (by omega)
   have h3:(m+1)*(2^r*2)=(2*m+2)*2^r:=by rw [Nat.mul_comm (2^r) 2,←Nat.mul_assoc];congr 1;omega
   omega
theorem z6x (s:Sta) (i:Nat) (b:Bool):(putS s i b).ch.length=s.ch.length:=List.length_set ..
theorem z6z (base:Nat):∀ (bs:List Bool) (m:Nat) (s:Sta),Ok s→Fits base m bs.length s.ch.length→Ok (z5b base m bs s)
 | [],m,s,h,_=>h
 | b :: bs,m,s,h,hf=>z6z base bs _ _ (h.put hf.lt b) (by rw [z6x];exact hf.next b)
theorem y0m (v n:Nat) (high:Bool):(z1e v n high).length=n:=by simp [z1e]
theorem z8q {base n N:Nat} (h:base+2^n≤N):Fits base 1 n N:=by
 cases n with
 | zero=>exact .inl rfl
 | succ n=>exact .inr (by rw [Nat.add_sub_cancel];rw [Nat.pow_succ] at h;omega)
def May (a:Int × Int × Int × Int) (N:Nat):Prop :=
 (a.1=0∧0≤a.2.1∧a.2.1<(N:Int)∧0≤a.2.2.1∧a.2.2.1≤1)∨(a.1=1∧y4m a.2.2.1 a.2.2.2)∨((a.1=2∨a.1=3)∧MayB a.2.1 a.2.2.2 N∧0≤a.2.2.1∧a.2.2.1<2^a.2.2.2.toNat)
def actS (a:Int × Int × Int × Int) (s:Sta):Sta :=
 if a.1=0 then putS s a.2.1.toNat (decide (a.2.2.1=1))
 else if a.1=1 then z7n a.2.2.1.toNat a.2.2.2.toNat s
 else z5b a.2.1.toNat 1 (z1e a.2.2.1.toNat a.2.2.2.toNat (decide (a.1=2))) s
def z0s:List (Int × Int × Int × Int)→Sta→Sta
 | [],s=>s
 | a :: l,s=>z0s l (actS a s)
theorem z9t (base:Nat) (bs:List Bool) (m:Nat) (s:Sta):(z5b base m bs s).ch.length=s.ch.length:=by
 rw [(z1l base bs m s).2,z7a]
theorem z2x (a:Int × Int × Int × Int) (s:Sta):(actS a s).ch.length=s.ch.length:=by
 unfold actS
 split
 ·exact z6x ..
 ·split
  ·rw [(z2g _ _ s).2]
  ·exact z9t ..
theorem z8c {a:Int × Int × Int × Int} {N:Nat} (h:MayB a.2.1 a.2.2.2 N∧0≤a.2.2.1∧a.2.2.1<2^a.2.2.2.toNat):Fits a.2.1.toNat 1 (z1e a.2.2.1.toNat a.2.2.2.toNat (decide (a.1=2))).length N:=by
 rw [y0m]
 obtain ⟨b,m,e1,e2,h1,h2⟩:=y1b h.1
 rw [e1,e2]
 exact z8q h2
theorem z1u {a:Int × Int × Int × Int} {s:Sta} (h:Ok s) (hm:May a s.ch.length):Ok (actS a s):=by
 unfold actS
 rcases hm with ⟨e,h1,h2,_⟩|⟨e,_⟩|⟨e,h1⟩
 ·rw [if_pos e];exact h.put (by omega) _
 ·rw [if_neg (by omega),if_pos e];exact z6o _ _ _ h
 ·rw [if_neg (by omega),if_neg (by omega)];exact z6z _ _ _ _ h (z8c h1)
end D
namespace D
open Go.RowKit Rang
abbrev A4:=Int × Int × Int × Int
structure LS where
 W:Nat
 lc:Nat
 lp:Nat
 pb:Nat
 f0:Nat
 f1:Nat
 f2:Nat
 f3:Nat
 z:Nat
 text:List Nat
 place:Nat
def bitA (i b:Nat):A4:=(0,(i:Int),(b:Int),0)
def dirA (v n:Nat):A4:=(1,0,(v:Int),(n:Int))
def z1a (base v n:Nat):A4:=(2,(base:Int),(v:Int),(n:Int))
def revA (base v n:Nat):A4:=(3,(base:Int),(v:Int),(n:Int))
structure LOk (s:LS):Prop where
 W1:1≤s.W
 W2:s.W≤268435456
 props:s.lc+s.lp≤4
 pb:s.pb≤4
 f0:s.f0<4294967296
 f1:s.f1<4294967296
 f2:s.f2<4294967296
 f3:s.f3<4294967296
 z:s.z<12
 text:∀x∈s.text,x<256
def LS.sees (s:LS) (f:Nat):Bool:=decide (f<min s.text.length s.W)
def LS.back (s:LS) (f:Nat):Nat:=if f<min s.text.length s.W then s.text.getD (s.text.length-1-f) 0 else 0
def LS.y (s:LS):Nat:=s.place%2^s.pb
def LS.matchC (s:LS):Nat:=s.z*16+s.y
def LS.longC (s:LS):Nat:=192+s.z*16+s.y
def LS.byteC (s:LS):Nat:=1856+768*(s.place%2^s.lp*2^s.lc+s.back 0/2^(8-s.lc))
def LS.chances (s:LS):Nat:=1856+768*2^(s.lc+s.lp)
theorem LS.back_lt {s:LS} (h:LOk s) (f:Nat):s.back f<256:=by
 unfold LS.back
 split
 ·rename_i h1
  have:s.text.length-1-f<s.text.length:=by omega
  rw [List.getD_eq_getElem?_getD,List.getElem?_eq_getElem this]
  exact h.text _ (List.getElem_mem _)
 ·omega
theorem LS.y_lt {s:LS} (h:LOk s):s.y<16:=by
 have h1:s.y<2^s.pb:=Nat.mod_lt _ (Nat.two_pow_pos _)
 have h2:2^s.pb≤2^4:=Nat.pow_le_pow_right (by omega) h.pb
 omega
theorem LS.byteC_le {s:LS} (h:LOk s):s.byteC+768≤s.chances:=by
 unfold LS.byteC LS.chances
 have h1:s.place%2^s.lp<2^s.lp:=Nat.mod_lt _ (Nat.two_pow_pos _)
 have h2:=s.back_lt h 0
 have hp:=h.props
 have h3:s.back 0/2^(8-s.lc)<2^s.lc:=by
  rw [Nat.div_lt_iff_lt_mul (Nat.two_pow_pos _),←Nat.pow_add,show s.lc+(8-s.lc)=8 by omega]
  exact h2
 have h4:(s.place%2^s.lp+1)*2^s.lc≤2^s.lp*2^s.lc:=Nat.mul_le_mul_right _ h1
 rw [Nat.add_mul,Nat.one_mul] at h4
 rw [Nat.pow_add,Nat.mul_comm (2^s.lc) (2^s.lp)]
 omega
def z5j (at_ c:Nat):Nat→Nat→Nat→Bool→List A4
 | 0,_,_,_=>[]
 | k+1,node,like,held =>
  bitA (at_+if held then 256+256*(like/128%2)+node else node) (c/2^k%2) :: z5j at_ c k (2*node+c/2^k%2) (2*like) (held && decide (c/2^k%2=like/128%2))
def LS.byteA (s:LS) (c:Nat):List A4:=bitA s.matchC 0 :: z5j s.byteC c 8 1 (s.back s.f0) (decide (7≤s.z))
def lenA (at_ y n:Nat):List A4 :=
 if n<10 then [bitA at_ 0,z1a (at_+2+y*8) (n-2) 3]
 else if n<18 then [bitA at_ 1,bitA (at_+1) 0,z1a (at_+130+y*8) (n-10) 3]
 else [bitA at_ 1,bitA (at_+1) 1,z1a (at_+258) (n-18) 8]
def z0b (f:Nat):Nat:=if f<4 then f else 2*Nat.log2 f+f/2^(Nat.log2 f-1)%2
def z0l (slot:Nat):Nat:=slot/2-1
def z0d (slot:Nat):Nat:=if slot<4 then slot else (2+slot%2)*2^z0l slot
def z0g (n:Nat):Nat:=1460+min (n-2) 3*64
def z2w (slot:Nat):Nat:=1716+z0d slot-4
def z2n (f n:Nat):List A4 :=
 z1a (z0g n) (z0b f) 6 ::
  (if z0b f<4 then [] else if z0b f<14 then [revA (z2w (z0b f)) (f-z0d (z0b f)) (z0l (z0b f))]
   else [dirA ((f-z0d (z0b f))/16) (z0l (z0b f)-4),revA 1840 ((f-z0d (z0b f))%16) 4])
def LS.matA (s:LS) (f n:Nat):List A4:=bitA s.matchC 1 :: bitA (384+s.z) 0 :: (lenA 432 s.y n++z2n f n)
def LS.whichA (s:LS) (j:Nat):List A4 :=
 if j=0 then [bitA (396+s.z) 0,bitA s.longC 1] else if j=1 then [bitA (396+s.z) 1,bitA (408+s.z) 0] else [bitA (396+s.z) 1,bitA (408+s.z) 1,bitA (420+s.z) (j-2)]
def LS.farA (s:LS) (j n:Nat):List A4:=bitA s.matchC 1 :: bitA (384+s.z) 1 :: (s.whichA j++lenA 946 s.y n)
inductive Pc where
 | byte (c:Nat)
 | mat (f n:Nat)
 | far (j n:Nat)
def LS.actsP (s:LS):Pc→List A4
 | .byte c=>s.byteA c
 | .mat f n=>s.matA f n
 | .far j n=>s.farA j n
def LS.fj (s:LS) (j:Nat):Nat:=if j=0 then s.f0 else if j=1 then s.f1 else if j=2 then s.f2 else s.f3
def z3o (z:Nat):Nat:=if z<4 then 0 else if z<10 then z-3 else z-6
def zBe (a b z:Nat):Nat:=if z<7 then a else b
def LS.afterP (s:LS):Pc→LS
 | .byte c=>{ s with z:=z3o s.z }
 | .mat f n=>{ s with f0:=f,f1:=s.f0,f2:=s.f1,f3:=s.f2,z:=zBe 7 10 s.z }
 | .far j n=>{ s with f0:=s.fj j,f1:=if j=0 then s.f1 else s.f0,f2:=if j≤1 then s.f2 else s.f1,f3:=if j≤2 then s.f3 else s.f2,z:=zBe 8 11 s.z }
def LS.come (s:LS) (b:List Nat):LS:={ s with text:=s.text++b,place:=s.place+b.length }
def rept (f:Nat):Nat→List Nat→List Nat
 | 0,t=>t
 | n+1,t=>rept f n (t++[t.getD (t.length-1-f) 0])
def LS.Says (s:LS) (p:Pc) (b:List Nat):Prop :=
 match p with
 | .byte c=>c<256∧b=[c]
 | .mat f n=>2≤n∧n≤273∧f<4294967295∧f<min s.text.length s.W∧b.length=n∧rept f n s.text=s.text++b
 | .far j n=>j<4∧2≤n∧n≤273∧s.fj j<min s.text.length s.W∧b.length=n∧rept (s.fj j) n s.text=s.text++b
theorem y1w {z:Nat} (h:z<12):z3o z<12:=by unfold z3o;split<;>(try split)<;>omega
theorem LOk.fj {s:LS} (h:LOk s) (j:Nat):s.fj j<4294967296:=by
 unfold LS.fj
 have:=h.f0;have:=h.f1;have:=h.f2;have:=h.f3
 split
 ·assumption
 ·split
  ·assumption
  ·split<;>assumption
theorem LOk.after {s:LS} (h:LOk s) {p:Pc} {b:List Nat} (hp:s.Says p b):LOk (s.afterP p):=by
 cases p with
 | byte c=>exact { h with z:=y1w h.z }
 | mat f n=>exact ⟨h.W1,h.W2,h.props,h.pb,by have:=hp.2.2.1;show f<_;omega,h.f0,h.f1,h.f2,by show zBe 7 10 s.z<12;unfold zBe;split<;>omega,h.text⟩
 | far j n =>
  refine ⟨h.W1,h.W2,h.props,h.pb,h.fj j,?_,?_,?_,by show zBe 8 11 s.z<12;unfold zBe;split<;>omega,h.text⟩
  ·show (if j=0 then s.f1 else s.f0)<_;split;exact h.f1;exact h.f0
  ·show (if j≤1 then s.f2 else s.f1)<_;split;exact h.f2;exact h.f1
  ·show (if j≤2 then s.f3 else s.f2)<_;split;exact h.f3;exact h.f2
theorem LOk.come {s:LS} (h:LOk s) {b:List Nat} (hb:∀x∈b,x<256):LOk (s.come b) :=
 { h with text:=fun x hx=>by rcases List.mem_append.1 hx with h1|h1;exact h.text x h1;exact hb x h1 }
/- every act may be -/
theorem z9l {i b N:Nat} (hi:i<N) (hb:b≤1):May (bitA i b) N:=.inl ⟨rfl,by show (0:Int)≤(i:Int);omega,by show (i:Int)<(N:Int);omega,by show (0:Int)≤(b:Int);omega,by show (b:Int)≤1;omega⟩
theorem y2u {v n N:Nat} (hn:n≤31) (hv:v<2^n):May (dirA v n) N:=.inr (.inl ⟨rfl,by show (0:Int)≤(n:Int);omega,by show (n:Int)≤31;omega,by show (0:Int)≤(v:Int);omega,by show (v:Int)<2^(n:Int).toNat;rw [show (n:Int).toNat=n from rfl];exact_mod_cast hv⟩)
theorem y1c {base v n N:Nat} (hn:n≤16) (hb:base+2^n≤N) (hv:v<2^n):May (z1a base v n) N:=.inr (.inr ⟨.inl rfl,z4l hn hb,by show (0:Int)≤(v:Int);omega,by show (v:Int)<2^(n:Int).toNat;rw [show (n:Int).toNat=n from rfl];exact_mod_cast hv⟩)
theorem y2v {base v n N:Nat} (hn:n≤16) (hb:base+2^n≤N) (hv:v<2^n):May (revA base v n) N:=.inr (.inr ⟨.inr rfl,z4l hn hb,by show (0:Int)≤(v:Int);omega,by show (v:Int)<2^(n:Int).toNat;rw [show (n:Int).toNat=n from rfl];exact_mod_cast hv⟩)
theorem z2c (s:LS):2624≤s.chances:=by
 unfold LS.chances
 have:=Nat.two_pow_pos (s.lc+s.lp)
 omega
theorem z0x {s:LS} (h:LOk s):s.chances≤14144:=by
 unfold LS.chances
 have h2:2^(s.lc+s.lp)≤2^4:=Nat.pow_le_pow_right (by omega) h.props
 omega
/- slots -/
theorem z4b {f:Nat} (h4:4≤f) (hf:f<4294967296):4≤z0b f∧z0b f<64∧z0l (z0b f)=Nat.log2 f-1∧z0d (z0b f)≤f∧f-z0d (z0b f)<2^z0l (z0b f)∧(z0b f<14→z0d (z0b f)+2^z0l (z0b f)≤128)∧4≤z0d (z0b f):=by
 have h1:2^Nat.log2 f≤f:=Nat.log2_self_le (by omega)
 have h2:f<2^(Nat.log2 f+1):=Nat.lt_log2_self
 have h3:2≤Nat.log2 f:=(Nat.le_log2 (by omega)).2 (by omega)
 have h5:Nat.log2 f<32:=(Nat.log2_lt (by omega)).2 (by omega)
 obtain ⟨e,he⟩:∃e,Nat.log2 f=e+1:=⟨Nat.log2 f-1,by omega⟩
 rw [he] at h1 h2 h3 h5
 have hs:z0b f=2*(e+1)+f/2^e%2:=by unfold z0b;rw [if_neg (by omega),he,Nat.add_sub_cancel]
 have hb:f/2^e%2<2:=Nat.mod_lt _ (by omega)
 have hr:z0l (z0b f)=e:=by unfold z0l;rw [hs];omega
 have hP:=Nat.two_pow_pos e
 rw [Nat.pow_succ] at h1
 rw [Nat.pow_succ,Nat.pow_succ] at h2
 have hq1:2≤f/2^e:=(Nat.le_div_iff_mul_le hP).2 (by omega)
 have hq2:f/2^e<4:=(Nat.div_lt_iff_lt_mul hP).2 (by omega)
 have hl:z0d (z0b f)=f/2^e*2^e:=by
  unfold z0d
  rw [if_neg (by omega),hr,hs]
  congr 1
  omega
 have hm:f/2^e*2^e+f%2^e=f:=by rw [Nat.mul_comm];exact Nat.div_add_mod f (2^e)
 have hm2:=Nat.mod_lt f hP
 have h8:2*2^e≤f/2^e*2^e:=Nat.mul_le_mul_right _ hq1
 have h9:2*1≤2^e:=by
  have:2^1≤2^e:=Nat.pow_le_pow_right (by omega) (by omega)
  omega
 refine ⟨by omega,by omega,by rw [hr];omega,by omega,by rw [hr,hl];omega,fun h=>?_,by omega⟩
 rw [hr,hl]
 have he5:e≤5:=by omega
 have:2^e≤2^5:=Nat.pow_le_pow_right (by omega) he5
 have h10:f/2^e*2^e≤3*2^e:=Nat.mul_le_mul_right _ (by omega)
 omega
theorem z2r {f:Nat} (h:f<4):z0b f=f:=by unfold z0b;rw [if_pos h]
theorem z1b {slot:Nat} (h:slot<64):z0l slot≤30:=by unfold z0l;omega
theorem z9u {slot:Nat} (h:slot<14):z0l slot≤5:=by unfold z0l;omega
theorem z7c {slot:Nat} (h:14≤slot):6≤z0l slot:=by unfold z0l;omega
end D
namespace D
open Go.RowKit Rang
attribute [local go_sem ↓] wp_at_zero wp_at_succ
section
variable {w:World} {pb gc gr o rc:Nat} {rcs:Array Value} {Bs:List Nat} {d:Dec} {ch:List Nat}
end
end D
namespace D
open Go.RowKit Rang
attribute [local go_sem ↓] wp_at_zero wp_at_succ
end D
namespace D
open Go.RowKit Rang
attribute [local go_sem ↓] wp_at_zero wp_at_succ
section
variable {w w':World} {pb gc gr:Nat} {rcs:Array Value} {Bs:List Nat} {d d':Dec} {ch ch':List Nat}
end
end D
namespace D
open Go.RowKit Rang
attribute [local go_sem ↓] wp_at_zero wp_at_succ
end D
namespace D
open Go.RowKit Rang
attribute [local go_sem ↓] wp_at_zero wp_at_succ
end D
namespace D
open Go.RowKit Rang
attribute [local go_sem ↓] wp_at_zero wp_at_succ
end D
namespace D
open Go.RowKit Rang
section
variable {P:Program} {md:Region.Mode} {ops:Array Oper} {Q:Exit→Act→World→Prop} {S S':World→Prop}
theorem z8w {oi:Oper} {v:Value} {fuel:Nat} {listed:Array Bool} {l:List Value} {df:List Deferred} {w:World} (i d:Nat) (hi:ops[i]?=some oi) (hd:oi.dst=some d)
  (hs:Region.noSelect ops=true) (hf:Region.free md ops listed i=true) (hr:(Region.ready md ops listed).contains i=true)
  (hw:Region.wanted oi (yielded ops l.toArray)=true) (hS:S w) (hQ:∀c a w,¬Q (.panic c) a w)
  (hy:∀x,S x→(execOp (Act.eval ⟨l.toArray,df⟩) oi).run P x=.ok (.value v) x)
  (h:wpAnyH P md ops Q S fuel (listed.setIfInBounds i true) ⟨(l.set d v).toArray,df⟩ w):wpAnyH P md ops Q S (fuel+1) listed ⟨l.toArray,df⟩ w:=by
 refine wpAnyH_take (i:=i) (v:=v) hi hs hf hr (fun c a w h=>absurd h (hQ _ _ _)) (Or.inl ⟨hw,hy⟩) hS ?_
 have e:Act.put (⟨l.toArray,df⟩:Act) oi.dst v=⟨(l.set d v).toArray,df⟩:=by rw [hd];simp [Act.put]
 rw [e]
 exact h
theorem hT {oi:Oper} {v:Value} {fuel:Nat} {listed:Array Bool} {l:List Value} {df:List Deferred} {w:World} (i d:Nat) (hi:ops[i]?=some oi) (hd:oi.dst=some d) (hS:S w) (hQ:∀c a w,¬Q (.panic c) a w) (hy:∀x,S x→(execOp (Act.eval ⟨l.toArray,df⟩) oi).run P x=.ok (.value v) x) (h:wpAnyH P md ops Q S fuel (listed.setIfInBounds i true) ⟨(l.set d v).toArray,df⟩ w) (hs:Region.noSelect ops=true:=by kernel_rfl) (hf:Region.free md ops listed i=true:=by kernel_rfl) (hr:(Region.ready md ops listed).contains i=true:=by kernel_rfl) (hw:Region.wanted oi (yielded ops l.toArray)=true:=by rfl):wpAnyH P md ops Q S (fuel+1) listed ⟨l.toArray,df⟩ w:=z8w i d hi hd hs hf hr hw hS hQ hy h
theorem z0a {o:Oper} {f:FuncId} {args:Array Value} {fuel:Nat} {listed:Array Bool} {l:List Value} {df:List Deferred} {w:World} (i d:Nat) (hr:Region.ready md ops listed=[i]) (hi:ops[i]?=some o) (hd:o.dst=some d)
  (hw:Region.wanted o (yielded ops l.toArray)=true) (hrun:(execOp (Act.eval ⟨l.toArray,df⟩) o).run P w=.ok (.enter f args) w)
  (h:Calls P f args w fun e w'=>∃v,e=.returned v∧S w'∧wpAnyH P md ops Q S fuel (listed.setIfInBounds i true) ⟨(l.set d v).toArray,df⟩ w'):wpAnyH P md ops Q S (fuel+1) listed ⟨l.toArray,df⟩ w:=by
 refine wpAnyH_ready hr (by simp) (AllReadyH.cons hi (fun K hK=>?_) AllReadyH.nil)
 rw [if_pos hw]
 unfold Oper.wp
 rw [hrun,Oper.upon_enter]
 refine h.mono ?_
 rintro e w' ⟨v,rfl,hS,h2⟩
 have e:Act.put (⟨l.toArray,df⟩:Act) o.dst v=⟨(l.set d v).toArray,df⟩:=by rw [hd];simp [Act.put]
 show K (Act.put ⟨l.toArray,df⟩ o.dst v) w'
 rw [e]
 exact hK.out _ _ hS (fun _=>h2)
end
theorem nPp {Q:Exit→Act→World→Prop} (c:List PanicEntry) (a:Act) (w:World):¬NoPanic Q (.panic c) a w:=fun h=>h
section
variable {P:Program} {md:Region.Mode} {ops:Array Oper} {Q:Exit→Act→World→Prop} {S:World→Prop}
theorem z5u {o:Oper} {v:Value} {fuel:Nat} {listed:Array Bool} {l:List Value} {df:List Deferred} {w w':World} {K:Act→World→Prop} (i d:Nat)
  (hK:Shut (∀a w,S w→(S w→wpAnyH P md ops Q S fuel (listed.setIfInBounds i true) a w)→K a w)) (hd:o.dst=some d)
  (hw:Region.wanted o (yielded ops l.toArray)=true) (hrun:(execOp (Act.eval ⟨l.toArray,df⟩) o).run P w=.ok (.value v) w') (hS:S w')
  (h:wpAnyH P md ops Q S fuel (listed.setIfInBounds i true) ⟨(l.set d v).toArray,df⟩ w') :
  if Region.wanted o (yielded ops (⟨l.toArray,df⟩:Act).tmps)=true then Oper.wp P o ⟨l.toArray,df⟩ w K Q else K ((⟨l.toArray,df⟩:Act).put o.dst undef) w:=by
 rw [if_pos hw]
 unfold Oper.wp
 rw [hrun,Oper.upon_value]
 have e:Act.put (⟨l.toArray,df⟩:Act) o.dst v=⟨(l.set d v).toArray,df⟩:=by rw [hd];simp [Act.put]
 rw [e]
 exact hK.out _ _ hS (fun _=>h)
theorem z6s {fuel:Nat} {listed:Array Bool} {a:Act} {w:World} {i j:Nat} {o1 o2:Oper} (hr:Region.ready md ops listed=[i,j]) (h1:ops[i]?=some o1) (h2:ops[j]?=some o2)
  (k1:∀K:Act→World→Prop,Shut (∀a w,S w→(S w→wpAnyH P md ops Q S fuel (listed.setIfInBounds i true) a w)→K a w)→if Region.wanted o1 (yielded ops a.tmps)=true then Oper.wp P o1 a w K Q else K (a.put o1.dst undef) w)
  (k2:∀K:Act→World→Prop,Shut (∀a w,S w→(S w→wpAnyH P md ops Q S fuel (listed.setIfInBounds j true) a w)→K a w)→if Region.wanted o2 (yielded ops a.tmps)=true then Oper.wp P o2 a w K Q else K (a.put o2.dst undef) w) :
  wpAnyH P md ops Q S (fuel+1) listed a w:=wpAnyH_ready hr (by simp) (AllReadyH.cons h1 k1 (AllReadyH.cons h2 k2 AllReadyH.nil))
theorem y0t {o:Oper} {v:Value} {fuel:Nat} {listed:Array Bool} {l:List Value} {df:List Deferred} {w w':World} (i d:Nat) (hr:Region.ready md ops listed=[i]) (hi:ops[i]?=some o) (hd:o.dst=some d)
  (hw:Region.wanted o (yielded ops l.toArray)=true) (hrun:(execOp (Act.eval ⟨l.toArray,df⟩) o).run P w=.ok (.value v) w') (hS:S w')
  (h:wpAnyH P md ops Q S fuel (listed.setIfInBounds i true) ⟨(l.set d v).toArray,df⟩ w'):wpAnyH P md ops Q S (fuel+1) listed ⟨l.toArray,df⟩ w :=
 wpAnyH_ready hr (by simp) (AllReadyH.cons hi (fun K hK=>z5u i d hK hd hw hrun hS h) AllReadyH.nil)
theorem z8v {o:Oper} {fuel:Nat} {listed:Array Bool} {a:Act} {w w':World} (i:Nat) (hr:Region.ready md ops listed=[i]) (hi:ops[i]?=some o) (hd:o.dst=none)
  (hw:Region.wanted o (yielded ops a.tmps)=true) (hrun:(execOp (Act.eval a) o).run P w=.ok .skip w') (hS:S w')
  (h:wpAnyH P md ops Q S fuel (listed.setIfInBounds i true) a w'):wpAnyH P md ops Q S (fuel+1) listed a w:=by
 refine wpAnyH_ready hr (by simp) (AllReadyH.cons hi (fun K hK=>?_) AllReadyH.nil)
 rw [if_pos hw]
 unfold Oper.wp
 rw [hrun,Oper.upon_skip]
 have e:Act.put a o.dst undef=a:=by rw [hd];rfl
 rw [e]
 exact hK.out _ _ hS (fun _=>h)
theorem hO {o:Oper} {v:Value} {fuel:Nat} {listed:Array Bool} {l:List Value} {df:List Deferred} {w w':World} (i d:Nat) (hi:ops[i]?=some o) (hd:o.dst=some d) (hrun:(execOp (Act.eval ⟨l.toArray,df⟩) o).run P w=.ok (.value v) w') (hS:S w') (h:wpAnyH P md ops Q S fuel (listed.setIfInBounds i true) ⟨(l.set d v).toArray,df⟩ w') (hr:Region.ready md ops listed=[i]:=by kernel_rfl) (hw:Region.wanted o (yielded ops l.toArray)=true:=by rfl):wpAnyH P md ops Q S (fuel+1) listed ⟨l.toArray,df⟩ w:=y0t i d hr hi hd hw hrun hS h
theorem hKk {o:Oper} {fuel:Nat} {listed:Array Bool} {a:Act} {w w':World} (i:Nat) (hi:ops[i]?=some o) (hd:o.dst=none) (hrun:(execOp (Act.eval a) o).run P w=.ok .skip w') (hS:S w') (h:wpAnyH P md ops Q S fuel (listed.setIfInBounds i true) a w') (hr:Region.ready md ops listed=[i]:=by kernel_rfl) (hw:Region.wanted o (yielded ops a.tmps)=true:=by rfl):wpAnyH P md ops Q S (fuel+1) listed a w:=z8v i hr hi hd hw hrun hS h
end
end D
namespace D
open Go.RowKit Rang
attribute [local go_sem ↓] wp_at_zero wp_at_succ
def SrcB (w:World) (a0:Option Addr) (cap:Nat) (b:List Nat):Prop:=(a0=none∧cap=0∧b=[])∨∃ad,a0=some ad∧∀ (j:Nat) u,(b.map bv)[j]?=some u→w.cell? (ad.add j)=some u
theorem SrcB.stays {w w':World} {a0:Option Addr} {cap:Nat} {b:List Nat} (h:SrcB w a0 cap b) (hb:Below w.heap.size w w'):SrcB w' a0 cap b:=by
 rcases h with h|⟨ad,e,h⟩
 ·exact .inl h
 ·exact .inr ⟨ad,e,fun j u hu=>z1p hb (h j u hu)⟩
structure CopyB (ws w':World) (v':Value) (b:List Nat):Prop where
 shape:∃g cap sp,v'=.slice (some ⟨g,0,none⟩) b.length cap∧ws.heap.size≤g∧b.length≤cap∧w'.heap[g]?=some (.cells (b.map bv++sp).toArray 5 (0,0))
 bel:Below ws.heap.size ws w'
 full:∀g cap cur,v'=.slice (some ⟨g,0,none⟩) b.length cap→w'.heap[g]?=some (.cells cur 5 (0,0))→cur.size=cap
theorem z6l {ws w':World} {v':Value} {b:List Nat} (h:w'.ownsRow ws.heap.size 5 1 v' b.length (b.map bv)) (hb:Below ws.heap.size ws w') (hn:v'≠.slice none 0 0):CopyB ws w' v' b:=by
 rcases h.2 with ⟨e,_⟩|⟨g,cap,cur,e1,h1,h2,h3,_,hsz,ht⟩
 ·exact absurd e hn
 ·refine ⟨⟨g,cap,cur.toList.drop b.length,e1,h1,h3,?_⟩,hb,fun g' cap' cur' e' hg'=>by
   rw [e1] at e'
   injection e' with e2 _ e3
   injection e2 with e2
   injection e2 with e2
   subst e2 e3
   rw [h2] at hg'
   injection hg' with hg'
   injection hg' with hg'
   subst hg'
   rw [hsz,Nat.mul_one]⟩
  rw [h2]
  rw [Nat.mul_one] at ht
  rw [←ht,List.take_append_drop]
theorem y3q {ops:Array Oper} {rest:List Oper} {o:Oper} {a:Act} {Q:Exit→Act→World→Prop} {ws:World} (hgd:o.guard=none) (s x:Operand)
  (ho:o.op=.call { callee:=.builtin .append,args:=#[s,x],argTypes:=#[32,32] }) (b:List Nat) (a0:Option Addr) (n cap:Nat) (hs:a.eval s=.slice (some ⟨ws.heap.size,0,none⟩) 0 0) (hx:a.eval x=.slice a0 n cap) (hn:b.length=n)
  (hsrc:SrcB ws a0 cap b) (hlen:b.length≤140737488355328)
  (h:∀v' w',CopyB ws w' v' b→wpList Tryz.prog ops Q rest (a.put o.dst v') w'):wpList Tryz.prog ops Q (o :: rest) a (ws.alloc (.cells #[] 5)):=by
 obtain ⟨i0,hi,hz0,hz1,hz2⟩:=info_parts info5
 have hbel:Below ws.heap.size ws (ws.alloc (.cells #[] 5)):=(Below.refl _ _).alloc (Nat.le_refl _) _
 have hown:=World.ownsRow_made (base:=ws.heap.size) (e:=5) (size:=1) ws #[] 0 (Nat.le_refl _) (by unfold maxLen;omega) rfl
 rcases hsrc with ⟨rfl,rfl,rfl⟩|⟨ad,rfl,hc⟩
 ·simp at hn
  subst hn
  exact wpList_append_own_none hgd s x 32 ho ws.heap.size 5 i0 1 Tryz.underlying32 hi _ 0 [] hs hown hx (h _ _ (z6l hown hbel (by intro e;cases e)))
 ·refine wpList_append_own_at (ws.alloc (.cells #[] 5)) hgd s x 32 ho ws.heap.size 5 i0 (.int .u8 0) 1 1 Tryz.underlying32 hi hz0 hz1 hz2 rfl (by decide) _ 0 [] hs hown ad n cap (b.map bv) hx (by rw [List.length_map];omega) (fun j u hj=>z1p hbel (hc j u hj)) (by intro u hu;obtain ⟨z,_,rfl⟩:=List.mem_map.1 hu;rfl) (by unfold maxLen;omega) (by omega) hbel.size ?_
  intro v' w' h2 h3 h4 _
  exact h v' w' (z6l (by rw [hn];simpa using h2) (hbel.grown h3 hbel.size (fun k e=>by have:=Option.some.inj e;subst this;exact Nat.le_refl _)) (fun e=>by have:=(h4.1 e).1;cases this))
theorem z6k (g0 off n cap:Nat) (b:List Nat) (w:World) (hn:b.length=n) (hs:SrcB w (some ⟨g0,off,none⟩) cap b) (hl:n≤140737488355328) :
  Calls Tryz.prog 26 #[.slice (some ⟨g0,off,none⟩) n cap] w fun e w'=>∃v,e=.returned v∧CopyB w w' v b:=by
 have HS:=qz hs
 have HN:=qz (And.intro hn (show b.length≤140737488355328 by omega))
 have hnil:(binOp .eql 32 (.slice (some ⟨g0,off,none⟩) n cap) (.slice none 0 0)).run Tryz.prog w=.ok (.bool false) w:=Lib.run_eql_slice_nil w 32 5 (some ⟨g0,off,none⟩) n cap 0 0 Tryz.underlying32
 clear hs hn
 go_enter Tryz.func26,Tryz.ntmps26
 go_wp2_with (at_builtin;refine y3q (ws:=w) rfl (.tmp 5) (.tmp 6) rfl b _ n cap (by simp [go_sem]) (by simp [go_sem]) (uh HN).1 (uh HS) (uh HN).2 ?_;intro v5 w5 h5;obtain ⟨g5,c5,sp5,e5,_⟩:=h5.shape;subst e5;have H5:=qz h5;clear h5)
 go_ret
 exact ⟨_,rfl,uh H5⟩
end D
namespace D
open Go.RowKit Rang
attribute [local go_sem ↓] wp_at_zero wp_at_succ
section
variable {pb gc gr qb gd cc:Nat} {rcs:Array Value} {ba:Option Addr} {bc:Nat} {Bs:List Nat} {d:Dec} {ch:List Nat}
end
section
variable {B:Nat} {w w':World} {pb gc gr:Nat} {rcs:Array Value} {qb gd cc:Nat} {ba:Option Addr} {bc:Nat} {Bs:List Nat} {d d1:Dec} {ch ch1:List Nat} {d' d2:Dec} {ch' ch2:List Nat}
end
end D
namespace D
open Go.RowKit Rang
def PSta (B:Nat) (w:World) (pb gc:Nat) (ov:Value) (s:Sta):Prop:=PC B w pb gc ov s.c s.ch∧Ok s∧B≤w.heap.size
theorem PSta.ps {B:Nat} {w:World} {pb gc:Nat} {ov:Value} {s:Sta} (h:PSta B w pb gc ov s):PS B w pb gc ov s.c s.ch s.k:=⟨h.1,⟨s.T,h.2.1.1⟩,h.2.1.2,h.2.2⟩
theorem z7f {B:Nat} {w:World} {pb gc:Nat} {ov:Value} {c:Enc} {ch:List Nat} {k:Nat} {s':Sta} (h:PS B w pb gc ov c ch k) (ho:Ok s') (hc:s'.c=c) (hch:s'.ch=ch):PSta B w pb gc ov s':=⟨by rw [hc,hch];exact h.pc,ho,h.base⟩
theorem y1o {B:Nat} {w:World} {pb gc:Nat} {ov:Value} {c:Enc} {ch:List Nat} {k:Nat} {s':Sta} (h:PS B w pb gc ov c ch k) (ho:Ok s') (hc:s'.c=c):s'.k=k:=by
 obtain ⟨T,hw⟩:=h.wide
 rw [←hc] at hw
 exact y4h ho.1 hw
section
variable {B pb gc:Nat} {ov:Value} {s:Sta} {W:World}
end
section
variable {pb gc gr:Nat} {rcs:Array Value} {Bs:List Nat} {K:Nat} {s:Sta} {W:World} {d:Dec}
end
end D
namespace D
open Go.RowKit Rang
attribute [local go_sem ↓] wp_at_zero wp_at_succ
def Rt (v:Value) (w:World) (e:Ending) (w':World):Prop:=e=.returned v∧∃q,w'=w.drewN q
def z0v (s:LS) (chv tv:Value):List Value:=[.int .i64 (s.W:Int),.int .i64 (s.lc:Int),.int .i64 (s.lp:Int),.int .i64 (s.pb:Int),chv,.int .u32 (s.f0:Int),.int .u32 (s.f1:Int),.int .u32 (s.f2:Int),.int .u32 (s.f3:Int),.int .i64 (s.z:Int),tv,.int .i64 (s.place:Int)]
def SAt (w:World) (b:Nat) (t:TypeId) (tl:List Value) (s:LS) (chv tv:Value):Prop:=w.heap[b]?=some (.cells (z0v s chv tv++tl).toArray t (0,0))
section
variable {w:World} {b:Nat} {t:TypeId} {tl:List Value} {s:LS} {chv tv:Value}
theorem SAt.cell (h:SAt w b t tl s chv tv) (i:Nat):w.cell? ⟨b,i,none⟩=(z0v s chv tv++tl)[i]?:=by
 simp only [World.cell?,show w.heap[b]?=_ from h]
 simp
theorem SAt.free (h:SAt w b t tl s chv tv) (i:Nat):w.frozen? ⟨b,i,none⟩=false:=by simp [World.frozen?,show w.heap[b]?=_ from h]
theorem SAt.lt (h:SAt w b t tl s chv tv):b<w.heap.size:=z0c h
theorem SAt.c0 (h:SAt w b t tl s chv tv):w.cell? ⟨b,0,none⟩=some (.int .i64 (s.W:Int)):=h.cell 0
theorem SAt.c1 (h:SAt w b t tl s chv tv):w.cell? ⟨b,1,none⟩=some (.int .i64 (s.lc:Int)):=h.cell 1
theorem SAt.c2 (h:SAt w b t tl s chv tv):w.cell? ⟨b,2,none⟩=some (.int .i64 (s.lp:Int)):=h.cell 2
theorem SAt.c3 (h:SAt w b t tl s chv tv):w.cell? ⟨b,3,none⟩=some (.int .i64 (s.pb:Int)):=h.cell 3
theorem SAt.c4 (h:SAt w b t tl s chv tv):w.cell? ⟨b,4,none⟩=some chv:=h.cell 4
theorem SAt.c5 (h:SAt w b t tl s chv tv):w.cell? ⟨b,5,none⟩=some (.int .u32 (s.f0:Int)):=h.cell 5
theorem SAt.c6 (h:SAt w b t tl s chv tv):w.cell? ⟨b,6,none⟩=some (.int .u32 (s.f1:Int)):=h.cell 6
theorem SAt.c7 (h:SAt w b t tl s chv tv):w.cell? ⟨b,7,none⟩=some (.int .u32 (s.f2:Int)):=h.cell 7
theorem SAt.c8 (h:SAt w b t tl s chv tv):w.cell? ⟨b,8,none⟩=some (.int .u32 (s.f3:Int)):=h.cell 8
theorem SAt.c9 (h:SAt w b t tl s chv tv):w.cell? ⟨b,9,none⟩=some (.int .i64 (s.z:Int)):=h.cell 9
theorem SAt.c10 (h:SAt w b t tl s chv tv):w.cell? ⟨b,10,none⟩=some tv:=h.cell 10
theorem SAt.c11 (h:SAt w b t tl s chv tv):w.cell? ⟨b,11,none⟩=some (.int .i64 (s.place:Int)):=h.cell 11
theorem SAt.drewN (h:SAt w b t tl s chv tv) (q:Nat):SAt (w.drewN q) b t tl s chv tv:=h
end
theorem w64 {n:Int} (h0:0≤n) (h1:n<9223372036854775808):wrap64 n=n:=by unfold wrap64;omega
theorem wi64 {n:Int} (h0:0≤n) (h1:n<9223372036854775808):IntKind.i64.wrap n=n:=by rw [IntKind.wrap_i64];omega
theorem five {k:Nat} (h:k≤4):k=0∨k=1∨k=2∨k=3∨k=4:=by omega
theorem y_ok (b pb place:Nat) (w:World) (h3:w.cell? ⟨b,3,none⟩=some (.int .i64 (pb:Int))) (h11:w.cell? ⟨b,11,none⟩=some (.int .i64 (place:Int))) (hp:pb≤4) :
  Calls Tryz.prog 85 #[.pointer (some ⟨b,0,none⟩)] w (Rt (.int .i64 ((place%2^pb:Nat):Int)) w):=by
 unfold Rt
 rcases five hp with rfl|rfl|rfl|rfl|rfl
 all_goals go_enter Tryz.func85,Tryz.ntmps85
 all_goals go_wp2_with fail
 all_goals go_quiet (fail)
 all_goals go_wp2_with fail
 all_goals go_ret
 all_goals refine ⟨congrArg (fun x=>Ending.returned (.int .i64 x)) ?_,nq,rfl⟩
 all_goals omega
section
variable {w:World} {b:Nat} {t:TypeId} {tl:List Value} {s:LS} {chv tv:Value}
theorem SAt.y (h:SAt w b t tl s chv tv) (ho:LOk s):Calls Tryz.prog 85 #[.pointer (some ⟨b,0,none⟩)] w (Rt (.int .i64 ((s.y:Nat):Int)) w):=y_ok b s.pb s.place w h.c3 h.c11 ho.pb
end
end D
namespace D
open Go.RowKit Rang
attribute [local go_sem ↓] wp_at_zero wp_at_succ
section
variable {w:World} {b:Nat} {t:TypeId} {tl:List Value} {s:LS} {chv tv:Value}
theorem SAt.matchC (h:SAt w b t tl s chv tv) (ho:LOk s):Calls Tryz.prog 58 #[.pointer (some ⟨b,0,none⟩)] w (Rt (.int .i64 ((s.matchC:Nat):Int)) w):=by
 have HY:=qz fun q=>(h.drewN q).y ho
 have c9:=h.c9
 have hz:=ho.z
 have hy:=s.y_lt ho
 have f1:wrap64 ((s.z:Int)*16)=(s.z:Int)*16:=w64 (by omega) (by omega)
 have f3:wrap64 ((s.z:Int)*16+(s.y:Int))=(s.matchC:Int):=by rw [w64 (by omega) (by omega)];unfold LS.matchC;omega
 clear hz hy h ho
 unfold Rt
 go_enter Tryz.func58,Tryz.ntmps58
 go_wp2_with fail
 go_quiet (first|(go_at_call 85;refine Calls.quiet_of (uh HY _)))
 go_wp2_with fail
 go_ret
 exact ⟨by first|rfl|exact congrArg (fun x=>Ending.returned (.int .i64 x)) f3,nq,rfl⟩
theorem SAt.longC (h:SAt w b t tl s chv tv) (ho:LOk s):Calls Tryz.prog 96 #[.pointer (some ⟨b,0,none⟩)] w (Rt (.int .i64 ((s.longC:Nat):Int)) w):=by
 have HY:=qz fun q=>(h.drewN q).y ho
 have c9:=h.c9
 have hz:=ho.z
 have hy:=s.y_lt ho
 have f1:wrap64 ((s.z:Int)*16)=(s.z:Int)*16:=w64 (by omega) (by omega)
 have f2:wrap64 (192+(s.z:Int)*16)=192+(s.z:Int)*16:=w64 (by omega) (by omega)
 have f3:wrap64 (192+(s.z:Int)*16+(s.y:Int))=(s.longC:Int):=by rw [w64 (by omega) (by omega)];unfold LS.longC;omega
 clear hz hy h ho
 unfold Rt
 go_enter Tryz.func96,Tryz.ntmps96
 go_wp2_with fail
 go_quiet (first|(go_at_call 85;refine Calls.quiet_of (uh HY _)))
 go_wp2_with fail
 go_ret
 exact ⟨by first|rfl|exact congrArg (fun x=>Ending.returned (.int .i64 x)) f3,nq,rfl⟩
theorem SAt.lowT (h:SAt w b t tl s chv tv) (ho:LOk s):Calls Tryz.prog 121 #[.pointer (some ⟨b,0,none⟩)] w (Rt (.int .i64 ((2+s.y*8:Nat):Int)) w):=by
 have HY:=qz (h.y ho)
 have hy:=s.y_lt ho
 have f1:wrap64 ((s.y:Int)*8)=(s.y:Int)*8:=w64 (by omega) (by omega)
 have f2:wrap64 (2+(s.y:Int)*8)=((2+s.y*8:Nat):Int):=by rw [w64 (by omega) (by omega)];omega
 clear hy h ho
 go_enter Tryz.func121,Tryz.ntmps121
 go_wp2_with fail
 refine (uh HY).mono ?_
 rintro e w' ⟨rfl,q,rfl⟩
 go_wp2_with fail
 go_ret
 exact ⟨by first|rfl|exact congrArg (fun x=>Ending.returned (.int .i64 x)) f2,q,rfl⟩
theorem SAt.midT (h:SAt w b t tl s chv tv) (ho:LOk s):Calls Tryz.prog 122 #[.pointer (some ⟨b,0,none⟩)] w (Rt (.int .i64 ((130+s.y*8:Nat):Int)) w):=by
 have HY:=qz (h.y ho)
 have hy:=s.y_lt ho
 have f1:wrap64 ((s.y:Int)*8)=(s.y:Int)*8:=w64 (by omega) (by omega)
 have f2:wrap64 (130+(s.y:Int)*8)=((130+s.y*8:Nat):Int):=by rw [w64 (by omega) (by omega)];omega
 clear hy h ho
 go_enter Tryz.func122,Tryz.ntmps122
 go_wp2_with fail
 refine (uh HY).mono ?_
 rintro e w' ⟨rfl,q,rfl⟩
 go_wp2_with fail
 go_ret
 exact ⟨by first|rfl|exact congrArg (fun x=>Ending.returned (.int .i64 x)) f2,q,rfl⟩
end
theorem y3j (b f W n:Nat) (a:Option Addr) (cap:Nat) (w:World) (hf:f<4294967296) (hW:W≤268435456) (hn:n≤140737488355328) (h0:w.cell? ⟨b,0,none⟩=some (.int .i64 (W:Int))) (h10:w.cell? ⟨b,10,none⟩=some (.slice a n cap)) :
  Calls Tryz.prog 61 #[.pointer (some ⟨b,0,none⟩),.int .u32 (f:Int)] w (Rt (.bool (decide (f<min n W))) w):=by
 unfold Rt
 by_cases hm:n≤W
 ·have e1:min (n:Int) (W:Int)=(n:Int):=by omega
  have e0:min n W=n:=by omega
  rw [e0]
  have t1:(n:Int)≤(W:Int):=by omega
  have e2:((n:Int))%18446744073709551616=(n:Int):=by omega
  have e3:((f:Int))%18446744073709551616=(f:Int):=by omega
  have e4:decide ((f:Int)<(n:Int))=decide (f<n):=by simp
  clear hm e0 hf hW hn
  go_enter Tryz.func61,Tryz.ntmps61
  go_wp2_with fail
  go_quiet (fail)
  go_wp2_with fail
  go_ret
  exact ⟨rfl,nq,rfl⟩
 ·have e0:min n W=W:=by omega
  rw [e0]
  have t1:¬ (n:Int)≤(W:Int):=by omega
  have e2:((W:Int))%18446744073709551616=(W:Int):=by omega
  have e3:((f:Int))%18446744073709551616=(f:Int):=by omega
  have e4:decide ((f:Int)<(W:Int))=decide (f<W):=by simp
  have e5:min (n:Int) (W:Int)=(W:Int):=by omega
  clear hm e0 hf hW hn
  go_enter Tryz.func61,Tryz.ntmps61
  go_wp2_with fail
  go_quiet (fail)
  go_wp2_with fail
  go_ret
  exact ⟨rfl,nq,rfl⟩
def TRd (w:World) (v:Value) (xs:List Nat):Prop:=∃a cap,v=.slice a xs.length cap∧xs.length≤cap∧(0<xs.length→∃g off,a=some ⟨g,off,none⟩∧∀j,j<xs.length→w.cell? ⟨g,off+j,none⟩=some (.int .u8 ((xs.getD j 0:Nat):Int)))
theorem TRd.drewN {w:World} {v:Value} {xs:List Nat} (h:TRd w v xs) (q:Nat):TRd (w.drewN q) v xs:=h
section
variable {w:World} {b:Nat} {t:TypeId} {tl:List Value} {s:LS} {chv tv:Value}
theorem SAt.sees (h:SAt w b t tl s chv tv) (ho:LOk s) (ht:TRd w tv s.text) (hn:s.text.length≤140737488355328) (f:Nat) (hf:f<4294967296):Calls Tryz.prog 61 #[.pointer (some ⟨b,0,none⟩),.int .u32 (f:Int)] w (Rt (.bool (s.sees f)) w):=by
 obtain ⟨a,cap,rfl,_,_⟩:=ht
 exact y3j b f s.W s.text.length a cap w hf ho.W2 hn h.c0 h.c10
theorem SAt.back (h:SAt w b t tl s chv tv) (ho:LOk s) (ht:TRd w tv s.text) (hn:s.text.length≤140737488355328) (f:Nat) (hf:f<4294967296):Calls Tryz.prog 99 #[.pointer (some ⟨b,0,none⟩),.int .u32 (f:Int)] w (Rt (.int .u8 ((s.back f:Nat):Int)) w):=by
 have HS:=qz (h.sees ho ht hn f hf)
 have hW:=ho.W2
 obtain ⟨a,cap,rfl,hc,hs⟩:=ht
 have c10:=h.c10
 by_cases hm:f<min s.text.length s.W
 ·have e1:s.sees f=true:=decide_eq_true hm
  have e2:s.back f=s.text.getD (s.text.length-1-f) 0:=by unfold LS.back;rw [if_pos hm]
  rw [e1] at HS
  rw [e2]
  obtain ⟨g,off,rfl,hcell⟩:=hs (by omega)
  have f1:wrap64 ((s.text.length:Int)-1)=((s.text.length-1:Nat):Int):=by rw [w64 (by omega) (by omega)];omega
  have f2:wrap64 (((s.text.length-1:Nat):Int)-(f:Int))=((s.text.length-1-f:Nat):Int):=by rw [w64 (by omega) (by omega)];omega
  have f3:((s.text.length-1-f:Nat):Int)<(s.text.length:Int):=by omega
  have f4:¬ ((s.text.length-1-f:Nat):Int)<0:=by omega
  have cl:=hcell (s.text.length-1-f) (by omega)
  generalize s.text.getD (s.text.length-1-f) 0=x at cl ⊢
  have f5:s.text.length-1-f<s.text.length:=by omega
  generalize s.text.length-1-f=i at *
  generalize s.text.length-1=n1 at *
  generalize s.text.length=n at *
  clear e1 e2 h ho hm hcell hn hc hs hW
  unfold Rt
  go_enter Tryz.func99,Tryz.ntmps99
  go_wp2_with fail
  refine (uh HS).mono ?_
  rintro e w' ⟨rfl,q,rfl⟩
  go_wp2_with fail
  go_quiet (fail)
  go_wp2_with fail
  go_ret
  exact ⟨rfl,q+nq,World.drewN_drewN _ _ _⟩
 ·have e1:s.sees f=false:=decide_eq_false hm
  have e2:s.back f=0:=by unfold LS.back;rw [if_neg hm]
  rw [e1] at HS
  rw [e2]
  clear e1 e2 h ho hm hn hc hs hW c10
  unfold Rt
  go_enter Tryz.func99,Tryz.ntmps99
  go_wp2_with fail
  refine (uh HS).mono ?_
  rintro e w' ⟨rfl,q,rfl⟩
  go_wp2_with fail
  go_ret
  exact ⟨rfl,q,rfl⟩
theorem SAt.stays {w':World} (h:SAt w b t tl s chv tv) (hb:Below w.heap.size w w'):SAt w' b t tl s chv tv:=by
 unfold SAt
 rw [hb.block b h.lt]
 exact h
theorem TRd.stays {w w':World} {v:Value} {xs:List Nat} (h:TRd w v xs) (hb:Below w.heap.size w w'):TRd w' v xs:=by
 obtain ⟨a,cap,rfl,hc,hs⟩:=h
 refine ⟨a,cap,rfl,hc,fun h0=>?_⟩
 obtain ⟨g,off,rfl,h1⟩:=hs h0
 exact ⟨g,off,rfl,fun j hj=>by rw [hb.cell (z0i (h1 j hj))];exact h1 j hj⟩
theorem z0r {w:World} {g:Nat} {x0 x1 x2:Value} {ty:TypeId} (hg:w.heap[g]?=some (.cells #[x0,x1,x2] ty (0,0))):w.cell? ⟨g,0,none⟩=some x0∧w.cell? ⟨g,1,none⟩=some x1∧w.cell? ⟨g,2,none⟩=some x2∧∀i,w.frozen? ⟨g,i,none⟩=false:=by
 refine ⟨?_,?_,?_,fun i=>?_⟩
 ·simp only [World.cell?,hg];rfl
 ·simp only [World.cell?,hg];rfl
 ·simp only [World.cell?,hg];rfl
 ·simp only [World.frozen?,hg];simp
theorem z5h {w:World} {g:Nat} {x0 x1 x2:Value} {ty:TypeId} (hg:w.heap[g]?=some (.cells #[x0,x1,x2] ty (0,0))) (y0 y1 y2:Value):(((w.setCell ⟨g,0,none⟩ y0).setCell ⟨g,1,none⟩ y1).setCell ⟨g,2,none⟩ y2).heap[g]?=some (.cells #[y0,y1,y2] ty (0,0)):=by
 have h1:=heap_setCell_same w g 0 _ ty y0 hg
 have h2:=heap_setCell_same _ g 1 _ ty y1 h1
 have h3:=heap_setCell_same _ g 2 _ ty y2 h2
 rw [h3]
 rfl
theorem z5n {w w0:World} {g:Nat} (h:Below g w0 w) (y0 y1 y2:Value):Below g w0 (((w.setCell ⟨g,0,none⟩ y0).setCell ⟨g,1,none⟩ y1).setCell ⟨g,2,none⟩ y2) :=
 h.trans ⟨rfl,rfl,rfl,by simp,fun k hk=>by
  have hne:k≠g:=by omega
  rw [heap_setCell_other _ _ _ _ hne,heap_setCell_other _ _ _ _ hne,heap_setCell_other _ _ _ _ hne]⟩
theorem SAt.walk (h:SAt w b t tl s chv tv) (ho:LOk s) (ht:TRd w tv s.text) (hn:s.text.length≤140737488355328):Calls Tryz.prog 87 #[.pointer (some ⟨b,0,none⟩)] w fun e w'=>e=.returned (.agg #[.int .i64 1,.int .i64 ((s.back s.f0:Nat):Int),.bool (decide (7≤s.z))])∧Below w.heap.size w w':=by
 obtain ⟨O,hO⟩:∃O,O=Obj.cells #[.int .i64 0,.int .i64 0,.bool false] 141:=⟨_,rfl⟩
 have bl:Below w.heap.size w (w.alloc O):=Below.alloc (Below.refl _ _) (Nat.le_refl _) _
 have HB:=qz fun q=>((h.stays bl).drewN q).back ho ((ht.stays bl).drewN q) hn s.f0 ho.f0
 have c9:=(h.stays bl).c9
 have c5:=(h.stays bl).c5
 have hb:=s.back_lt ho s.f0
 have f1:wrap64 ((s.back s.f0:Nat):Int)=((s.back s.f0:Nat):Int):=w64 (by omega) (by omega)
 have f2:decide ((7:Int)≤(s.z:Int))=decide (7≤s.z):=by simp;omega
 have hg:(w.alloc O).heap[w.heap.size]?=some (.cells #[.int .i64 0,.int .i64 0,.bool false] 141 (0,0)):=by subst hO;exact heap_alloc_new _ _
 obtain ⟨k0,k1,k2,kf⟩:=z0r hg
 have HBL:=qz bl
 have HG0:=qz hg
 have hne:¬b=w.heap.size:=by have:=h.lt;omega
 subst hO
 generalize s.back s.f0=F at *
 generalize s.z=z at *
 clear h ho ht hn bl hg
 go_enter Tryz.func87,Tryz.ntmps87
 go_wp2_with fail
 generalize (w.alloc (Obj.cells #[.int .i64 0,.int .i64 0,.bool false] 141))=w1 at *
 refine wp_region_noPanic ?_
 refine wp_region_held_drew (S:=fun x=>x.cell? ⟨b,5,none⟩=some (.int .u32 (s.f0:Int))∧x.cell? ⟨b,9,none⟩=some (.int .i64 (z:Int))) (by kernel_rfl) ⟨c5,c9⟩ (fun hHeld=>?_)
 refine hT 0 3 rfl rfl hHeld nPp (v:=?_) (fun x hSx=>?_) ?_
 rotate_left 1
 ·(obtain ⟨s0,s1⟩:=hSx;go_simp<;>with_reducible rfl)
 simp only [sA,sB]
 refine hT 1 4 rfl rfl hHeld nPp (v:=?_) (fun x hSx=>?_) ?_
 rotate_left 1
 ·(obtain ⟨s0,s1⟩:=hSx;go_simp<;>with_reducible rfl)
 simp only [sA,sB]
 refine hT 2 5 rfl rfl hHeld nPp (v:=?_) (fun x hSx=>?_) ?_
 rotate_left 1
 ·(obtain ⟨s0,s1⟩:=hSx;go_simp<;>with_reducible rfl)
 simp only [sA,sB]
 refine hT 3 6 rfl rfl hHeld nPp (v:=?_) (fun x hSx=>?_) ?_
 rotate_left 1
 ·(obtain ⟨s0,s1⟩:=hSx;go_simp<;>with_reducible rfl)
 simp only [sA,sB]
 refine hT 4 7 rfl rfl hHeld nPp (v:=?_) (fun x hSx=>?_) ?_
 rotate_left 1
 ·(obtain ⟨s0,s1⟩:=hSx;go_simp<;>with_reducible rfl)
 simp only [sA,sB]
 refine hT 5 8 rfl rfl hHeld nPp (v:=?_) (fun x hSx=>?_) ?_
 rotate_left 1
 ·(obtain ⟨s0,s1⟩:=hSx;go_simp<;>with_reducible rfl)
 simp only [sA,sB]
 refine hT 8 11 rfl rfl hHeld nPp (v:=?_) (fun x hSx=>?_) ?_
 rotate_left 1
 ·(obtain ⟨s0,s1⟩:=hSx;go_simp<;>with_reducible rfl)
 simp only [sA,sB]
 refine hT 9 12 rfl rfl hHeld nPp (v:=?_) (fun x hSx=>?_) ?_
 rotate_left 1
 ·(obtain ⟨s0,s1⟩:=hSx;go_simp<;>with_reducible rfl)
 simp only [sA,sB]
 refine hT 10 13 rfl rfl hHeld nPp (v:=?_) (fun x hSx=>?_) ?_
 rotate_left 1
 ·(obtain ⟨s0,s1⟩:=hSx;go_simp<;>with_reducible rfl)
 simp only [sA,sB]
 refine hT 11 14 rfl rfl hHeld nPp (v:=?_) (fun x hSx=>?_) ?_
 rotate_left 1
 ·(obtain ⟨s0,s1⟩:=hSx;go_simp<;>with_reducible rfl)
 simp only [sA,sB]
 refine hT 12 15 rfl rfl hHeld nPp (v:=?_) (fun x hSx=>?_) ?_
 rotate_left 1
 ·(obtain ⟨s0,s1⟩:=hSx;go_simp<;>with_reducible rfl)
 simp only [sA,sB]
 refine z0a 6 9 (by kernel_rfl) rfl rfl (by rfl) (by go_simp<;>exact ⟨rfl,rfl⟩) ?_
 refine (uh HB 1).mono ?_
 rintro e w3 ⟨rfl,q,rfl⟩
 refine ⟨_,rfl,⟨c5,c9⟩,?_⟩
 simp only [sA,sB]
 have hHeld:((w1.drewN 1).drewN q).cell? ⟨b,5,none⟩=some (.int .u32 (s.f0:Int))∧((w1.drewN 1).drewN q).cell? ⟨b,9,none⟩=some (.int .i64 (z:Int)):=⟨c5,c9⟩
 refine hT 7 10 rfl rfl hHeld nPp (v:=?_) (fun x hSx=>?_) ?_
 rotate_left 1
 ·(obtain ⟨s0,s1⟩:=hSx;go_simp<;>with_reducible rfl)
 simp only [sA,sB]
 refine hT 13 16 rfl rfl hHeld nPp (v:=?_) (fun x hSx=>?_) ?_
 rotate_left 1
 ·(obtain ⟨s0,s1⟩:=hSx;go_simp<;>with_reducible rfl)
 simp only [sA,sB]
 have K0:((w1.drewN 1).drewN q).cell? ⟨w.heap.size,0,none⟩=some (.int .i64 0):=k0
 have K1:((w1.drewN 1).drewN q).cell? ⟨w.heap.size,1,none⟩=some (.int .i64 0):=k1
 have K2:((w1.drewN 1).drewN q).cell? ⟨w.heap.size,2,none⟩=some (.bool false):=k2
 have KF:∀i,((w1.drewN 1).drewN q).frozen? ⟨w.heap.size,i,none⟩=false:=kf
 have HBL2:Hid (Below w.heap.size w ((w1.drewN 1).drewN q)):=qz (z0q (z0q (uh HBL) 1) q)
 have C5:((w1.drewN 1).drewN q).cell? ⟨b,5,none⟩=some (.int .u32 (s.f0:Int)):=c5
 have C9:((w1.drewN 1).drewN q).cell? ⟨b,9,none⟩=some (.int .i64 (z:Int)):=c9
 have HGG:((w1.drewN 1).drewN q).heap[w.heap.size]?=some (.cells #[.int .i64 0,.int .i64 0,.bool false] 141 (0,0)):=uh HG0
 clear k0 k1 k2 kf c5 c9 HBL HB HG0
 generalize (w1.drewN 1).drewN q=w2 at *
 refine hKk 14 rfl rfl (by go_simp<;>rfl) ?_ ?_
 ·have e:∀ (x:World) (i j:Nat) (v:Value),(x.setCell ⟨w.heap.size,j,none⟩ v).cell? ⟨b,i,none⟩=x.cell? ⟨b,i,none⟩:=fun x i j v=>World.cell?_of_block (heap_setCell_other _ _ _ _ hne)
  exact ⟨by rw [e,e,e];exact C5,by rw [e,e,e];exact C9⟩
 refine dN ?_
 have HX:=z5h HGG (.int .i64 1) (.int .i64 (IntKind.i64.wrap (F:Int))) (.bool (decide (7≤z)))
 have HBX:=z5n (uh HBL2) (.int .i64 1) (.int .i64 (IntKind.i64.wrap (F:Int))) (.bool (decide (7≤z)))
 generalize ((w2.setCell ⟨w.heap.size,0,none⟩ (.int .i64 1)).setCell ⟨w.heap.size,1,none⟩ (.int .i64 (IntKind.i64.wrap (F:Int)))).setCell ⟨w.heap.size,2,none⟩ (.bool (decide (7≤z)))=w5 at *
 obtain ⟨m0,m1,m2,mf⟩:=z0r HX
 have f4:Hid (IntKind.i64.wrap (F:Int)=(F:Int)):=wi64 (by omega) (by omega)
 go_wp2_with fail
 refine bodyPost_ret (results_cell_row (ty:=141) rfl _ w5 w.heap.size 141 _ (0,0) _ rfl HX Tryz.underlying141 rfl (by kernel_rfl)) rfl ?_
 exact ⟨by rw [uh f4],HBX⟩
theorem SAt.place (h:SAt w b t tl s chv tv) (ho:LOk s) (ht:TRd w tv s.text) (hn:s.text.length≤140737488355328):Calls Tryz.prog 86 #[.pointer (some ⟨b,0,none⟩)] w (Rt (.int .i64 ((s.byteC:Nat):Int)) w):=by
 have HB:Hid (∀r q,Calls Tryz.prog 99 #[.pointer (some ⟨b,0,none⟩),.int .u32 0] ((w.drewN r).drewN q) (Rt (.int .u8 ((s.back 0:Nat):Int)) ((w.drewN r).drewN q))):=qz fun r q=>((h.drewN r).drewN q).back ho ((ht.drewN r).drewN q) hn 0 (by omega)
 have c1:=h.c1
 have c2:=h.c2
 have c11:=h.c11
 have hb:=s.back_lt ho 0
 have hp:=ho.props
 have e0:s.byteC=1856+768*(s.place%2^s.lp*2^s.lc+s.back 0/2^(8-s.lc)):=rfl
 rw [e0]
 generalize s.back 0=A at *
 generalize s.place=pl at *
 generalize s.lc=lc at *
 generalize s.lp=lp at *
 clear h ho ht hn e0
 unfold Rt
 rcases five (show lp≤4 by omega) with rfl|rfl|rfl|rfl|rfl<;>rcases five (show lc≤4 by omega) with rfl|rfl|rfl|rfl|rfl<;>try omega
 all_goals clear hp
 all_goals go_enter Tryz.func86,Tryz.ntmps86
 all_goals go_wp2_with fail
 all_goals go_quiet (fail)
 all_goals go_wp2_with fail
 all_goals have HB9:=qz (uh HB nq)
 all_goals have k1:(w.drewN nq).cell? ⟨b,1,none⟩=_:=c1
 all_goals have HQ:Hid (∃q,w.drewN nq=w.drewN q):=⟨nq,rfl⟩
 all_goals clear HB c1 c2 c11
 all_goals generalize w.drewN nq=w9 at *
 all_goals go_quiet (first|(go_at_call 99;refine Calls.quiet_of (uh HB9 _)))
 all_goals go_wp2_with fail
 all_goals go_ret
 all_goals refine ⟨congrArg (fun x=>Ending.returned (.int .i64 x)) (by clear HB9 HQ;omega),?_⟩
 all_goals obtain ⟨q0,hq⟩:=uh HQ
 all_goals exact ⟨q0+nq,by rw [hq,World.drewN_drewN]⟩
end
end D
end Go.Proofs.YtoicnlmfgembiaaGreat
section
namespace Go.Proofs
open Go.Shelf
def Tryz.lays128_ren:Go.Shelf.Ren:=⟨fun|128=>162|n=>n,fun|51=>44|3=>3|4=>4|46=>106|5=>5|9=>9|n=>n,fun|n=>n⟩
theorem Tryz.lays128:Go.Proofs.Lays.n128 Tryz.prog Tryz.lays128_ren:={
 mixed:=by kernel_rfl
 f128:=Tryz.func162.trans (congrArg some (by kernel_rfl))
 t3:=Tryz.underlying3
 a3:=Tryz.isAgg3
 z3:=Tryz.sizeOf3
 v3:=Tryz.zeroValue3
 t4:=Tryz.underlying4
 a4:=Tryz.isAgg4
 z4:=Tryz.sizeOf4
 v4:=Tryz.zeroValue4
 t5:=Tryz.underlying5
 a5:=Tryz.isAgg5
 z5:=Tryz.sizeOf5
 v5:=Tryz.zeroValue5
 t9:=Tryz.underlying9
 a9:=Tryz.isAgg9
 z9:=Tryz.sizeOf9
 v9:=Tryz.zeroValue9
 t46:=Tryz.underlying106
 a46:=Tryz.isAgg106
 z46:=Tryz.sizeOf106
 v46:=Tryz.zeroValue106
 t51:=Tryz.underlying44
 a51:=Tryz.isAgg44
 z51:=Tryz.sizeOf44
 v51:=Tryz.zeroValue44 }
theorem Tryz.bits_Len32 (x:Int) (w:World) (h0:0≤x) (h1:x≤4294967295) :
  Calls Tryz.prog 162 #[.int .u32 x] w fun e w'=>e=.returned (.int .i64 (Lib.bitLen x.toNat))∧w'=w:=Any.bits_Len32 Tryz.lays128 x w h0 h1
def Tryz.lays125_ren:Go.Shelf.Ren:=⟨fun|125=>140|128=>162|129=>163|n=>n,fun|46=>106|3=>3|51=>44|53=>87|4=>4|5=>5|9=>9|n=>n,fun|n=>n⟩
theorem Tryz.lays125:Go.Proofs.Lays.n125 Tryz.prog Tryz.lays125_ren:={
 mixed:=by kernel_rfl
 f125:=Tryz.func140.trans (congrArg some (by kernel_rfl))
 f128:=Tryz.func162.trans (congrArg some (by kernel_rfl))
 f129:=Tryz.func163.trans (congrArg some (by kernel_rfl))
 t3:=Tryz.underlying3
 a3:=Tryz.isAgg3
 z3:=Tryz.sizeOf3
 v3:=Tryz.zeroValue3
 t4:=Tryz.underlying4
 a4:=Tryz.isAgg4
 z4:=Tryz.sizeOf4
 v4:=Tryz.zeroValue4
 t5:=Tryz.underlying5
 a5:=Tryz.isAgg5
 z5:=Tryz.sizeOf5
 v5:=Tryz.zeroValue5
 t9:=Tryz.underlying9
 a9:=Tryz.isAgg9
 z9:=Tryz.sizeOf9
 v9:=Tryz.zeroValue9
 t46:=Tryz.underlying106
 a46:=Tryz.isAgg106
 z46:=Tryz.sizeOf106
 v46:=Tryz.zeroValue106
 t51:=Tryz.underlying44
 a51:=Tryz.isAgg44
 z51:=Tryz.sizeOf44
 v51:=Tryz.zeroValue44
 t53:=Tryz.underlying87
 a53:=Tryz.isAgg87
 z53:=Tryz.sizeOf87
 v53:=Tryz.zeroValue87 }
theorem Tryz.bits_Len (x:Int) (w:World) (h0:0≤x) (h1:x≤18446744073709551615) :
  Calls Tryz.prog 140 #[.int .u64 x] w fun e w'=>e=.returned (.int .i64 (Lib.bitLen x.toNat))∧w'=w:=Any.bits_Len Tryz.lays125 x w h0 h1
end Go.Proofs
end
namespace Go.Proofs.YtoicnlmfgembiaaGreat
namespace D
open Go.RowKit Rang
attribute [local go_sem ↓] wp_at_zero wp_at_succ
def KAt (w:World) (g:Nat) (node like:Nat) (held:Bool):Prop:=w.heap[g]?=some (.cells #[.int .i64 (node:Int),.int .i64 (like:Int),.bool held] 141 (0,0))
section
variable {w:World} {g node like:Nat} {held:Bool}
theorem KAt.c0 (h:KAt w g node like held):w.cell? ⟨g,0,none⟩=some (.int .i64 (node:Int)):=by simp only [World.cell?,show w.heap[g]?=_ from h];rfl
theorem KAt.c1 (h:KAt w g node like held):w.cell? ⟨g,1,none⟩=some (.int .i64 (like:Int)):=by simp only [World.cell?,show w.heap[g]?=_ from h];rfl
theorem KAt.c2 (h:KAt w g node like held):w.cell? ⟨g,2,none⟩=some (.bool held):=by simp only [World.cell?,show w.heap[g]?=_ from h];rfl
theorem KAt.free (h:KAt w g node like held) (i:Nat):w.frozen? ⟨g,i,none⟩=false:=by simp only [World.frozen?,show w.heap[g]?=_ from h];simp
theorem KAt.drewN (h:KAt w g node like held) (q:Nat):KAt (w.drewN q) g node like held:=h
end
theorem bit7 (x:Nat):bits .and .i64 ((x:Int)/128) 1=((x/128%2:Nat):Int):=by
 rw [z4i]
 omega
theorem z9m (g like:Nat) (w:World) (h:w.cell? ⟨g,1,none⟩=some (.int .i64 (like:Int))) (hl:like<16777216):Calls Tryz.prog 119 #[.pointer (some ⟨g,0,none⟩)] w fun e w'=>e=.returned (.int .i64 ((like/128%2:Nat):Int))∧w'=w:=by
 go_enter Tryz.func119,Tryz.ntmps119
 go_wp2_with fail
 go_ret
 exact ⟨congrArg (fun x=>Ending.returned (.int .i64 x)) (bit7 like),rfl⟩
theorem z8i (g node like:Nat) (held:Bool) (w:World) (h:KAt w g node like held) (hl:like<16777216) (hn:node<65536):Calls Tryz.prog 89 #[.pointer (some ⟨g,0,none⟩)] w (Rt (.int .i64 (((if held then 256+256*(like/128%2)+node else node):Nat):Int)) w):=by
 have c0:=h.c0
 have c2:=h.c2
 have c1:=h.c1
 have HN:=qz fun q=>z9m g like (w.drewN q) c1 hl
 unfold Rt
 cases held with
 | false =>
  go_enter Tryz.func89,Tryz.ntmps89
  go_wp2_with fail
  go_ret
  exact ⟨rfl,0,rfl⟩
 | true =>
  obtain ⟨y,hy⟩:∃y,y=like/128%2:=⟨_,rfl⟩
  have hy2:y<2:=by omega
  rw [←hy] at HN ⊢
  have f1:wrap64 (256*(y:Int))=256*(y:Int):=w64 (by omega) (by omega)
  have f2:wrap64 (256+256*(y:Int))=256+256*(y:Int):=w64 (by omega) (by omega)
  have f3:wrap64 (256+256*(y:Int)+(node:Int))=((256+256*y+node:Nat):Int):=by rw [w64 (by omega) (by omega)];omega
  clear hy hl hn h
  go_enter Tryz.func89,Tryz.ntmps89
  go_wp2_with fail
  go_quiet (first|(go_at_call 119;refine Calls.quiet_of_same (uh HN _)))
  go_wp2_with fail
  go_ret
  exact ⟨by first|rfl|exact congrArg (fun x=>Ending.returned (.int .i64 x)) f3,nq,rfl⟩
theorem KAt.set {w:World} {g node like:Nat} {held:Bool} (h:KAt w g node like held) (n' l':Nat) (h':Bool):KAt (((w.setCell ⟨g,2,none⟩ (.bool h')).setCell ⟨g,1,none⟩ (.int .i64 (l':Int))).setCell ⟨g,0,none⟩ (.int .i64 (n':Int))) g n' l' h':=by
 have h1:=heap_setCell_same w g 2 _ 141 (.bool h') h
 have h2:=heap_setCell_same _ g 1 _ 141 (.int .i64 (l':Int)) h1
 have h3:=heap_setCell_same _ g 0 _ 141 (.int .i64 (n':Int)) h2
 unfold KAt
 rw [h3]
 rfl
structure Ch1 (b:Nat) (w w':World):Prop where
 os:w'.os=w.os
 tape:w'.tape=w.tape
 output:w'.output=w.output
 size:w'.heap.size=w.heap.size
 keep:∀k,k≠b→w'.heap[k]?=w.heap[k]?
theorem Ch1.refl (b:Nat) (w:World):Ch1 b w w:=⟨rfl,rfl,rfl,rfl,fun _ _=>rfl⟩
theorem Ch1.set {b:Nat} {w w':World} (h:Ch1 b w w') (i:Nat) (v:Value):Ch1 b w (w'.setCell ⟨b,i,none⟩ v):=⟨h.os,h.tape,h.output,by simpa using h.size,fun k hk=>by rw [heap_setCell_other _ _ _ _ hk];exact h.keep k hk⟩
theorem Ch1.drewN {b:Nat} {w w':World} (h:Ch1 b w w') (q:Nat):Ch1 b w (w'.drewN q):=⟨h.os,h.tape,h.output,h.size,h.keep⟩
theorem Ch1.trans {b:Nat} {w w1 w2:World} (h:Ch1 b w w1) (h':Ch1 b w1 w2):Ch1 b w w2:=⟨h'.os.trans h.os,h'.tape.trans h.tape,h'.output.trans h.output,h'.size.trans h.size,fun k hk=>(h'.keep k hk).trans (h.keep k hk)⟩
theorem Ch1.setRow {b:Nat} {w w':World} (h:Ch1 b w w') (cs:Array Value):Ch1 b w (w'.setRow b cs):=⟨h.os,h.tape,h.output,by simpa [World.setRow] using h.size,fun k hk=>by rw [setRow_other _ _ _ _ hk];exact h.keep k hk⟩
theorem step_ok (g node like y:Nat) (held:Bool) (w:World) (h:KAt w g node like held) (hl:like<16777216) (hn:node<65536) (hy:y<2):Calls Tryz.prog 88 #[.pointer (some ⟨g,0,none⟩),.int .i64 (y:Int)] w fun e w'=>e=.returned (.tuple #[])∧KAt w' g (2*node+y) (2*like) (held && decide (y=like/128%2))∧Ch1 g w w':=by
 have c0:=h.c0
 have c2:=h.c2
 have c1:=h.c1
 have fr:=h.free
 have HN:=qz (z9m g like w c1 hl)
 have f1:wrap64 ((like:Int)*2)=((2*like:Nat):Int):=by rw [w64 (by omega) (by omega)];omega
 have f2:wrap64 (2*(node:Int))=2*(node:Int):=w64 (by omega) (by omega)
 have f3:wrap64 (2*(node:Int)+(y:Int))=((2*node+y:Nat):Int):=by rw [w64 (by omega) (by omega)];omega
 have f0:wrap64 ((y:Int))=(y:Int):=w64 (by omega) (by omega)
 have hK:=qz fun (h':Bool)=>h.set (2*node+y) (2*like) h'
 have hC:Hid (∀ (h':Bool) (l' n':Value),Ch1 g w (((w.setCell ⟨g,2,none⟩ (.bool h')).setCell ⟨g,1,none⟩ l').setCell ⟨g,0,none⟩ n')):=qz fun h' l' n'=>(((Ch1.refl g w).set 2 _).set 1 _).set 0 _
 have g1:2*(like:Int)=((2*like:Nat):Int):=by omega
 have g2:2*(node:Int)+(y:Int)=((2*node+y:Nat):Int):=by omega
 have HG:=qz (And.intro g1 g2)
 obtain ⟨x,hx⟩:∃x,x=like/128%2:=⟨_,rfl⟩
 rw [←hx] at HN ⊢
 obtain ⟨hb,hhb⟩:∃hb,hb=(held && decide (y=x)):=⟨_,rfl⟩
 rw [←hhb]
 clear hx hl hn hy h g1 g2
 by_cases e:y=x
 ·subst e
  cases held with
  | false =>
   obtain rfl:hb=false:=by simp [hhb]
   clear hhb
   go_enter Tryz.func88,Tryz.ntmps88
   go_wp2_with fail
   go_end0
   rw [(uh HG).1,(uh HG).2]
   exact ⟨rfl,uh hK _,uh hC _ _ _⟩
  | true =>
   obtain rfl:hb=true:=by simp [hhb]
   clear hhb
   go_enter Tryz.func88,Tryz.ntmps88
   go_wp2_with fail
   refine (uh HN).mono ?_
   rintro e w' ⟨rfl,rfl⟩
   go_wp2_with fail
   go_end0
   rw [(uh HG).1,(uh HG).2]
   exact ⟨rfl,uh hK _,uh hC _ _ _⟩
 ·obtain rfl:hb=false:=by simp [hhb,e]
  have e2:¬ (y:Int)=(x:Int):=by omega
  have e3:decide (y=x)=false:=decide_eq_false e
  clear hhb e
  cases held with
  | false =>
   go_enter Tryz.func88,Tryz.ntmps88
   go_wp2_with fail
   go_end0
   rw [(uh HG).1,(uh HG).2]
   exact ⟨rfl,uh hK _,uh hC _ _ _⟩
  | true =>
   go_enter Tryz.func88,Tryz.ntmps88
   go_wp2_with fail
   refine (uh HN).mono ?_
   rintro e w' ⟨rfl,rfl⟩
   go_wp2_with fail
   go_end0
   rw [(uh HG).1,(uh HG).2]
   refine ⟨rfl,?_,?_⟩
   ·rw [show ((y:Int) == (x:Int))=false by simpa using e2]
    exact uh hK _
   ·exact uh hC _ _ _
/- slots -/
theorem z9v (n:Nat) (w:World) (h2:2≤n) (h:n<65536):Calls Tryz.prog 126 #[.int .i64 (n:Int)] w fun e w'=>e=.returned (.int .i64 ((z0l n:Nat):Int))∧w'=w:=by
 have f3:wrap64 (wrap64 ((n:Int)/2)-1)=((z0l n:Nat):Int):=by rw [w64 (n:=(n:Int)/2) (by omega) (by omega),w64 (by omega) (by omega)];unfold z0l;omega
 clear h h2
 go_enter Tryz.func126,Tryz.ntmps126
 go_wp2_with fail
 go_ret
 exact ⟨congrArg (fun x=>Ending.returned (.int .i64 x)) f3,rfl⟩
theorem y1t (n:Nat) (w:World) (h2:2≤n) (h:n<65536):Calls Tryz.prog 124 #[.int .i64 (n:Int)] w fun e w'=>e=.returned (.int .i64 ((z0g n:Nat):Int))∧w'=w:=by
 have f1:wrap64 ((n:Int)-2)=((n-2:Nat):Int):=by rw [w64 (by omega) (by omega)];omega
 by_cases h5:n-2≤3
 ·have t1:((n-2:Nat):Int)≤3:=by omega
  have f3:1460+((n-2:Nat):Int)*64=((z0g n:Nat):Int):=by unfold z0g;omega
  have f4:min ((n-2:Nat):Int) 3=((n-2:Nat):Int):=by omega
  have HF:=qz f3
  clear f3
  generalize n-2=k at *
  clear h h2 h5
  go_enter Tryz.func124,Tryz.ntmps124
  go_wp2_with fail
  go_ret
  exact ⟨congrArg (fun x=>Ending.returned (.int .i64 x)) (uh HF),rfl⟩
 ·have t1:¬ ((n-2:Nat):Int)≤3:=by omega
  have f3:((1652:Nat):Int)=((z0g n:Nat):Int):=by unfold z0g;omega
  have f4:min ((n-2:Nat):Int) 3=3:=by omega
  have HF:=qz f3
  clear f3
  generalize n-2=k at *
  clear h h2 h5
  go_enter Tryz.func124,Tryz.ntmps124
  go_wp2_with fail
  go_ret
  exact ⟨congrArg (fun x=>Ending.returned (.int .i64 x)) (uh HF),rfl⟩
theorem z9q (k:Nat) (h:k≤30):∃P:Nat,(2:Int)^k=(P:Int)∧P=2^k∧1≤P∧P≤1073741824:=by
 have h1:2^k≤2^30:=Nat.pow_le_pow_right (by omega) h
 have h2:=Nat.two_pow_pos k
 exact ⟨2^k,by norm_cast,rfl,h2,by omega⟩
theorem z6t (n:Nat) (w:World) (h:n<64):Calls Tryz.prog 125 #[.int .i64 (n:Int)] w fun e w'=>e=.returned (.int .u32 ((z0d n:Nat):Int))∧w'=w:=by
 by_cases h4:n<4
 ·have t1:(n:Int)<4:=by omega
  have f1:((n:Int))%4294967296=(n:Int):=by omega
  have f2:z0d n=n:=by unfold z0d;rw [if_pos h4]
  rw [f2]
  clear h h4 f2
  go_enter Tryz.func125,Tryz.ntmps125
  go_wp2_with fail
  go_ret
  exact ⟨rfl,rfl⟩
 ·have t1:¬ (n:Int)<4:=by omega
  have HR:=qz (z9v n w (by omega) (by omega))
  obtain ⟨P,e1,e2,e3,e4⟩:=z9q (z0l n) (z1b h)
  have f2:z0d n=(2+n%2)*P:=by unfold z0d;rw [if_neg h4,e2]
  rw [f2]
  have hr:=z1b h
  clear f2 h h4 e2
  go_enter Tryz.func125,Tryz.ntmps125
  go_wp2_with fail
  refine (uh HR).mono ?_
  rintro e w' ⟨rfl,rfl⟩
  go_wp2_with fail
  go_ret
  refine ⟨congrArg (fun x=>Ending.returned (.int .u32 x)) ?_,rfl⟩
  show (2+(n:Int)%2)*(P:Int)%4294967296=_
  rcases (show n%2=0∨n%2=1 by omega) with h2|h2
  ·rw [h2,show (n:Int)%2=0 by omega];omega
  ·rw [h2,show (n:Int)%2=1 by omega];omega
theorem z7l {f:Nat} (h0:f≠0) (h:f<4294967296):Lib.bitLen f=Nat.log2 f+1:=by
 have hb:=Lib.bitLenAux_bounds 64 f (by omega) h0
 show Lib.bitLenAux 64 f=_
 generalize Lib.bitLenAux 64 f=k at hb
 obtain ⟨j,rfl⟩:∃j,k=j+1:=⟨k-1,by omega⟩
 rw [Nat.add_sub_cancel] at hb
 have h1:j≤Nat.log2 f:=(Nat.le_log2 h0).2 hb.2.1
 have h2:Nat.log2 f<j+1:=(Nat.log2_lt h0).2 hb.2.2
 omega
theorem y3k (f:Nat) (w:World) (hf:f<4294967296) :
  Calls Tryz.prog 146 #[.int .u32 (f:Int)] w fun e w'=>e=.returned (.int .i64 ((z0b f:Nat):Int))∧w'=w:=by
 by_cases h:f<4
 ·have t1:(f:Int)<4:=by omega
  rw [z2r h]
  go_enter Tryz.func146,Tryz.ntmps146
  go_wp2_with fail
  go_ret
  exact ⟨rfl,rfl⟩
 ·have t1:¬ (f:Int)<4:=by omega
  have HL:=qz (Tryz.bits_Len32 (f:Int) w (by omega) (by omega))
  obtain ⟨e,he⟩:∃e,Nat.log2 f=e+1:=⟨Nat.log2 f-1,by have:2≤Nat.log2 f:=(Nat.le_log2 (by omega)).2 (by omega);omega⟩
  have he31:e<31:=by have:Nat.log2 f<32:=(Nat.log2_lt (by omega)).2 (by omega);omega
  have hbl:Lib.bitLen (f:Int).toNat=e+2:=by rw [show (f:Int).toNat=f from rfl,z7l (by omega) (by omega),he]
  rw [hbl] at HL
  have hs:z0b f=2*(e+1)+f/2^e%2:=by unfold z0b;rw [if_neg h,he,Nat.add_sub_cancel]
  rw [hs]
  have f1:wrap64 (((e+2:Nat):Int)-1)=((e+1:Nat):Int):=by rw [w64 (by omega) (by omega)];omega
  have f2:wrap64 (2*((e+1:Nat):Int))=((2*(e+1):Nat):Int):=by rw [w64 (by omega) (by omega)];omega
  have f3:wrap64 (((e+1:Nat):Int)-1)=((e:Nat):Int):=by rw [w64 (by omega) (by omega)];omega
  generalize e+2=e2 at *
  have HX:Hid (f/2^e%2<2):=qz (Nat.mod_lt _ (by omega))
  obtain ⟨e1',he1'⟩:∃e1',e1'=e+1:=⟨_,rfl⟩
  obtain ⟨e3,he3⟩:∃e3,e3=2*(e+1):=⟨_,rfl⟩
  rw [←he1'] at f1 f2 f3
  rw [he1',←he3] at f2
  rw [←he3]
  rw [←he1'] at f2
  have H3:Hid (e3<100):=qz (by omega)
  have HB:Hid (bits .and .u32 ((f:Int)/2^e) 1=((f/2^e%2:Nat):Int)):=qz (by
   have h1:(f:Int)/2^e=((f/2^e:Nat):Int):=by norm_cast
   have h2:f/2^e<4294967296:=Nat.lt_of_le_of_lt (Nat.div_le_self _ _) hf
   rw [h1,show (1:Int)=((1:Nat):Int) from rfl,u32_and_nat _ 1 h2 (by decide)]
   exact congrArg Int.ofNat (Nat.and_two_pow_sub_one_eq_mod (f/2^e) 1))
  clear hbl hs hf h he he1' he3
  go_enter Tryz.func146,Tryz.ntmps146
  go_wp2_with fail
  refine (uh HL).mono ?_
  rintro e w' ⟨rfl,rfl⟩
  go_wp2_with fail
  go_ret
  refine ⟨congrArg (fun x=>Ending.returned (.int .i64 x)) ?_,rfl⟩
  show wrap64 ((e3:Int)+wrap64 (bits BinOp.and IntKind.u32 ((f:Int)/2^e) 1))=_
  have hx:=uh HX
  have h3:=uh H3
  rw [uh HB]
  generalize f/2^e%2=y at *
  rw [w64 (n:=(y:Int)) (by omega) (by omega),w64 (by omega) (by omega)]
  omega
theorem y2w (n:Nat) (w:World) (h:n<64) (h4:4≤n):Calls Tryz.prog 128 #[.int .i64 (n:Int)] w fun e w'=>e=.returned (.int .i64 ((z2w n:Nat):Int))∧w'=w:=by
 have HL:=qz (z6t n w h)
 have h1:z0d n≤3*1073741824:=by
  obtain ⟨P,e1,e2,e3,e4⟩:=z9q (z0l n) (z1b h)
  unfold z0d
  rw [if_neg (by omega),←e2]
  have h2:(2+n%2)*P≤3*P:=Nat.mul_le_mul_right _ (by omega)
  omega
 have h0:4≤z0d n:=by
  unfold z0d
  rw [if_neg (by omega)]
  have:2^1≤2^z0l n:=Nat.pow_le_pow_right (by omega) (by unfold z0l;omega)
  have h2:2*2≤(2+n%2)*2^z0l n:=Nat.mul_le_mul (by omega) (by omega)
  omega
 have f0:wrap64 ((z0d n:Nat):Int)=((z0d n:Nat):Int):=w64 (by omega) (by omega)
 have f1:wrap64 (1716+((z0d n:Nat):Int))=1716+((z0d n:Nat):Int):=w64 (by omega) (by omega)
 have f2:wrap64 (1716+((z0d n:Nat):Int)-4)=((z2w n:Nat):Int):=by rw [w64 (by omega) (by omega)];unfold z2w;omega
 have f3:1716+((z0d n:Nat):Int)-4=((z2w n:Nat):Int):=by unfold z2w;omega
 have HF:=qz (And.intro f2 f3)
 clear f2 f3 h h4
 go_enter Tryz.func128,Tryz.ntmps128
 go_wp2_with fail
 refine (uh HL).mono ?_
 rintro e w' ⟨rfl,rfl⟩
 go_wp2_with fail
 go_ret
 first
 | exact ⟨congrArg (fun x=>Ending.returned (.int .i64 x)) (uh HF).1,rfl⟩
 | exact ⟨congrArg (fun x=>Ending.returned (.int .i64 x)) (uh HF).2,rfl⟩
end D
namespace D
open Go.RowKit Rang
attribute [local go_sem ↓] wp_at_zero wp_at_succ
section
variable {w:World} {b:Nat} {t:TypeId} {tl:List Value} {s:LS} {chv tv:Value}
theorem SAt.setI (h:SAt w b t tl s chv tv) (i:Nat) (v:Value) {s':LS} {chv' tv':Value} (hc:(z0v s chv tv++tl).set i v=z0v s' chv' tv'++tl):SAt (w.setCell ⟨b,i,none⟩ v) b t tl s' chv' tv':=by
 unfold SAt
 rw [heap_setCell_same w b i _ t v h,List.setIfInBounds_toArray,hc]
theorem SAt.setZ (h:SAt w b t tl s chv tv) (z:Nat):SAt (w.setCell ⟨b,9,none⟩ (.int .i64 (z:Int))) b t tl { s with z:=z } chv tv:=h.setI 9 _ rfl
theorem SAt.become (h:SAt w b t tl s chv tv) (x y:Nat):Calls Tryz.prog 123 #[.pointer (some ⟨b,0,none⟩),.int .i64 (x:Int),.int .i64 (y:Int)] w fun e w'=>e=.returned (.tuple #[])∧SAt w' b t tl { s with z:=zBe x y s.z } chv tv∧Ch1 b w w':=by
 have c9:=h.c9
 have fr:=h.free 9
 have H1:=qz fun z=>h.setZ z
 have H2:=qz fun (v:Value)=>(Ch1.refl b w).set 9 v
 by_cases hz:s.z<7
 ·have t1:(s.z:Int)<7:=by omega
  have e0:zBe x y s.z=x:=by unfold zBe;rw [if_pos hz]
  rw [e0]
  clear h hz e0
  go_enter Tryz.func123,Tryz.ntmps123
  go_wp2_with fail
  go_end0
  exact ⟨rfl,uh H1 _,uh H2 _⟩
 ·have t1:¬ (s.z:Int)<7:=by omega
  have e0:zBe x y s.z=y:=by unfold zBe;rw [if_neg hz]
  rw [e0]
  clear h hz e0
  go_enter Tryz.func123,Tryz.ntmps123
  go_wp2_with fail
  go_end0
  exact ⟨rfl,uh H1 _,uh H2 _⟩
theorem SAt.afterByte (h:SAt w b t tl s chv tv) (hz:s.z<12):Calls Tryz.prog 90 #[.pointer (some ⟨b,0,none⟩)] w fun e w'=>e=.returned (.tuple #[])∧SAt w' b t tl { s with z:=z3o s.z } chv tv∧Ch1 b w w':=by
 have c9:=h.c9
 have fr:=h.free 9
 have H1:=qz fun z=>h.setZ z
 have H2:=qz fun (v:Value)=>(Ch1.refl b w).set 9 v
 by_cases h4:s.z<4
 ·have t1:(s.z:Int)<4:=by omega
  have e0:z3o s.z=0:=by unfold z3o;rw [if_pos h4]
  rw [e0]
  clear h hz e0 h4
  go_enter Tryz.func90,Tryz.ntmps90
  go_wp2_with fail
  go_end0
  exact ⟨rfl,uh H1 _,uh H2 _⟩
 ·have t1:¬ (s.z:Int)<4:=by omega
  by_cases h10:s.z<10
  ·have t2:(s.z:Int)<10:=by omega
   have e0:z3o s.z=s.z-3:=by unfold z3o;rw [if_neg h4,if_pos h10]
   rw [e0]
   have f1:wrap64 ((s.z:Int)-3)=((s.z-3:Nat):Int):=by rw [w64 (by omega) (by omega)];omega
   have f2:Hid ((s.z:Int)-3=((s.z-3:Nat):Int)):=qz (by omega)
   generalize s.z-3=k at f1 f2 ⊢
   clear h hz e0 h4
   go_enter Tryz.func90,Tryz.ntmps90
   go_wp2_with fail
   go_end0
   first
   | (rw [uh f2];exact ⟨rfl,uh H1 k,uh H2 _⟩)
   | exact ⟨rfl,uh H1 k,uh H2 _⟩
  ·have t2:¬ (s.z:Int)<10:=by omega
   have e0:z3o s.z=s.z-6:=by unfold z3o;rw [if_neg h4,if_neg h10]
   rw [e0]
   have f1:wrap64 ((s.z:Int)-6)=((s.z-6:Nat):Int):=by rw [w64 (by omega) (by omega)];omega
   have f2:Hid ((s.z:Int)-6=((s.z-6:Nat):Int)):=qz (by omega)
   generalize s.z-6=k at f1 f2 ⊢
   clear h hz e0 h4
   go_enter Tryz.func90,Tryz.ntmps90
   go_wp2_with fail
   go_end0
   first
   | (rw [uh f2];exact ⟨rfl,uh H1 k,uh H2 _⟩)
   | exact ⟨rfl,uh H1 k,uh H2 _⟩
theorem SAt.setRow (h:SAt w b t tl s chv tv) (cs:Array Value) {s':LS} (hc:cs=(z0v s' chv tv++tl).toArray):SAt (w.setRow b cs) b t tl s' chv tv:=by
 unfold SAt
 rw [setRow_heap w b _ cs t _ h,hc]
theorem z2l {ops:Array Oper} {rest:List Oper} {o:Oper} {a:Act} {Q:Exit→Act→World→Prop} {s':LS} (hgd:o.guard=none) (d x:Operand)
  (ho:o.op=.call { callee:=.builtin .copy,args:=#[d,x],argTypes:=#[156,156] }) (off dLen dCap soff sLen sCap:Nat) (hd:a.eval d=.slice (some ⟨b,off,none⟩) dLen dCap) (hs:a.eval x=.slice (some ⟨b,soff,none⟩) sLen sCap)
  (h:SAt w b t tl s chv tv) (cs:List Value) (hn:cs.length=Nat.min sLen dLen) (hsrc:∀j v,cs[j]?=some v→(z0v s chv tv++tl)[soff+j]?=some v) (hfit:off+cs.length≤12) (h1:∀v∈cs,v.oneCell'=true)
  (he:(z0v s chv tv++tl).take off++(cs++(z0v s chv tv++tl).drop (off+cs.length))=z0v s' chv tv++tl)
  (hk:∀w',SAt w' b t tl s' chv tv→Ch1 b w w'→wpList Tryz.prog ops Q rest (a.put o.dst (goInt cs.length)) w'):wpList Tryz.prog ops Q (o :: rest) a w:=by
 refine wpList_copy_own hgd d x 156 156 ho 44 Tryz.underlying156 (by kernel_rfl) b off dLen dCap ⟨b,soff,none⟩ sLen sCap hd hs _ t h cs hn ?_ ?_ h1 ?_
 ·intro j v hj
  rw [Addr.add_lit,h.cell]
  exact hsrc j v hj
 ·simp [z0v];omega
 ·refine hk _ (h.setRow _ ?_) ((Ch1.refl b w).setRow _)
  rw [he]
theorem SAt.afterMatch (h:SAt w b t tl s chv tv) (f:Nat):Calls Tryz.prog 93 #[.pointer (some ⟨b,0,none⟩),.int .u32 (f:Int)] w fun e w'=>e=.returned (.tuple #[])∧SAt w' b t tl { s with f0:=f,f1:=s.f0,f2:=s.f1,f3:=s.f2,z:=zBe 7 10 s.z } chv tv∧Ch1 b w w':=by
 have hd:SAt w.drew b t tl s chv tv:=h
 have HC0:Hid (Ch1 b w w.drew):=qz ((Ch1.refl b w).drewN 1)
 go_enter Tryz.func93,Tryz.ntmps93
 go_wp2_with fail
 refine z1d 8 (by kernel_rfl) (by kernel_rfl) ?_
 simp only [List.take_succ_cons,List.take_zero,List.drop_succ_cons,List.drop_zero]
 repeat (first|still_step)
 try refine wpStill_nil ?_
 refine z2l (s':={ s with f1:=s.f0,f2:=s.f1,f3:=s.f2 }) rfl (.tmp 7) (.tmp 11) rfl 6 3 3 5 4 4 (by simp [go_sem]) (by simp [go_sem]) hd [.int .u32 (s.f0:Int),.int .u32 (s.f1:Int),.int .u32 (s.f2:Int)] rfl ?_ (by simp) ?_ (by simp [z0v]) ?_
 ·intro j v hj
  match j,hj with
  | 0,hj=>exact hj
  | 1,hj=>exact hj
  | 2,hj=>exact hj
  | j+3,hj=>simp at hj
 ·intro v hv
  simp at hv
  rcases hv with rfl|rfl|rfl<;>rfl
 intro w1 H1 H2
 have c5:=H1.c5
 have fr:=H1.free 5
 have HB:=qz (H1.setI 5 (.int .u32 (f:Int)) (s':={ s with f0:=f,f1:=s.f0,f2:=s.f1,f3:=s.f2 }) rfl).become
 have HC:=qz (((uh HC0).trans H2).set 5 (.int .u32 (f:Int)))
 clear H1 H2
 go_wp2_with fail
 refine (uh HB 7 10).mono ?_
 rintro e w' ⟨rfl,h1,h2⟩
 go_wp2_with fail
 go_end0
 exact ⟨rfl,h1,(uh HC).trans h2⟩
theorem SAt.afterFar (h:SAt w b t tl s chv tv) (j:Nat) (hj:j<4):Calls Tryz.prog 98 #[.pointer (some ⟨b,0,none⟩),.int .i64 (j:Int)] w fun e w'=>e=.returned (.tuple #[])∧SAt w' b t tl (s.afterP (.far j 0)) chv tv∧Ch1 b w w':=by
 have hd:SAt w.drew b t tl s chv tv:=h
 have HC0:Hid (Ch1 b w w.drew):=qz ((Ch1.refl b w).drewN 1)
 have k5:=h.c5
 have k6:=h.c6
 have k7:=h.c7
 have k8:=h.c8
 rcases (show j=0∨j=1∨j=2∨j=3 by omega) with rfl|rfl|rfl|rfl
 ·go_enter Tryz.func98,Tryz.ntmps98
  go_wp2_with fail
  refine z1d 9 (by kernel_rfl) (by kernel_rfl) ?_
  simp only [List.take_succ_cons,List.take_zero,List.drop_succ_cons,List.drop_zero]
  repeat (first|still_step)
  try refine wpStill_nil ?_
  refine z2l (s':=s) rfl (.tmp 14) (.tmp 19) rfl 6 3 3 5 0 4 (by simp [go_sem]) (by simp [go_sem]) hd [] rfl ?_ (by simp) ?_ (by simp [z0v]) ?_
  ·intro j v hj
   match j,hj with
   | j+0,hj=>simp at hj
  ·intro v hv
   simp at hv
  intro w1 H1 H2
  have c5:=H1.c5
  have fr:=H1.free 5
  have HB:=qz (H1.setI 5 (.int .u32 (s.f0:Int)) (s':=s) rfl).become
  have HC:=qz (((uh HC0).trans H2).set 5 (.int .u32 (s.f0:Int)))
  clear H1 H2
  go_wp2_with fail
  refine (uh HB 8 11).mono ?_
  rintro e w' ⟨rfl,h1,h2⟩
  go_wp2_with fail
  go_end0
  exact ⟨rfl,h1,(uh HC).trans h2⟩
 ·go_enter Tryz.func98,Tryz.ntmps98
  go_wp2_with fail
  refine z1d 9 (by kernel_rfl) (by kernel_rfl) ?_
  simp only [List.take_succ_cons,List.take_zero,List.drop_succ_cons,List.drop_zero]
  repeat (first|still_step)
  try refine wpStill_nil ?_
  refine z2l (s':={ s with f1:=s.f0 }) rfl (.tmp 14) (.tmp 19) rfl 6 3 3 5 1 4 (by simp [go_sem]) (by simp [go_sem]) hd [.int .u32 (s.f0:Int)] rfl ?_ (by simp) ?_ (by simp [z0v]) ?_
  ·intro j v hj
   match j,hj with
   | 0,hj=>exact hj
   | j+1,hj=>simp at hj
  ·intro v hv
   simp at hv
   subst hv
   rfl
  intro w1 H1 H2
  have c5:=H1.c5
  have fr:=H1.free 5
  have HB:=qz (H1.setI 5 (.int .u32 (s.f1:Int)) (s':={ s with f0:=s.f1,f1:=s.f0 }) rfl).become
  have HC:=qz (((uh HC0).trans H2).set 5 (.int .u32 (s.f1:Int)))
  clear H1 H2
  go_wp2_with fail
  refine (uh HB 8 11).mono ?_
  rintro e w' ⟨rfl,h1,h2⟩
  go_wp2_with fail
  go_end0
  exact ⟨rfl,h1,(uh HC).trans h2⟩
 ·go_enter Tryz.func98,Tryz.ntmps98
  go_wp2_with fail
  refine z1d 9 (by kernel_rfl) (by kernel_rfl) ?_
  simp only [List.take_succ_cons,List.take_zero,List.drop_succ_cons,List.drop_zero]
  repeat (first|still_step)
  try refine wpStill_nil ?_
  refine z2l (s':={ s with f1:=s.f0,f2:=s.f1 }) rfl (.tmp 14) (.tmp 19) rfl 6 3 3 5 2 4 (by simp [go_sem]) (by simp [go_sem]) hd [.int .u32 (s.f0:Int),.int .u32 (s.f1:Int)] rfl ?_ (by simp) ?_ (by simp [z0v]) ?_
  ·intro j v hj
   match j,hj with
   | 0,hj=>exact hj
   | 1,hj=>exact hj
   | j+2,hj=>simp at hj
  ·intro v hv
   simp at hv
   rcases hv with rfl|rfl<;>rfl
  intro w1 H1 H2
  have c5:=H1.c5
  have fr:=H1.free 5
  have HB:=qz (H1.setI 5 (.int .u32 (s.f2:Int)) (s':={ s with f0:=s.f2,f1:=s.f0,f2:=s.f1 }) rfl).become
  have HC:=qz (((uh HC0).trans H2).set 5 (.int .u32 (s.f2:Int)))
  clear H1 H2
  go_wp2_with fail
  refine (uh HB 8 11).mono ?_
  rintro e w' ⟨rfl,h1,h2⟩
  go_wp2_with fail
  go_end0
  exact ⟨rfl,h1,(uh HC).trans h2⟩
 ·go_enter Tryz.func98,Tryz.ntmps98
  go_wp2_with fail
  refine z1d 9 (by kernel_rfl) (by kernel_rfl) ?_
  simp only [List.take_succ_cons,List.take_zero,List.drop_succ_cons,List.drop_zero]
  repeat (first|still_step)
  try refine wpStill_nil ?_
  refine z2l (s':={ s with f1:=s.f0,f2:=s.f1,f3:=s.f2 }) rfl (.tmp 14) (.tmp 19) rfl 6 3 3 5 3 4 (by simp [go_sem]) (by simp [go_sem]) hd [.int .u32 (s.f0:Int),.int .u32 (s.f1:Int),.int .u32 (s.f2:Int)] rfl ?_ (by simp) ?_ (by simp [z0v]) ?_
  ·intro j v hj
   match j,hj with
   | 0,hj=>exact hj
   | 1,hj=>exact hj
   | 2,hj=>exact hj
   | j+3,hj=>simp at hj
  ·intro v hv
   simp at hv
   rcases hv with rfl|rfl|rfl<;>rfl
  intro w1 H1 H2
  have c5:=H1.c5
  have fr:=H1.free 5
  have HB:=qz (H1.setI 5 (.int .u32 (s.f3:Int)) (s':={ s with f0:=s.f3,f1:=s.f0,f2:=s.f1,f3:=s.f2 }) rfl).become
  have HC:=qz (((uh HC0).trans H2).set 5 (.int .u32 (s.f3:Int)))
  clear H1 H2
  go_wp2_with fail
  refine (uh HB 8 11).mono ?_
  rintro e w' ⟨rfl,h1,h2⟩
  go_wp2_with fail
  go_end0
  exact ⟨rfl,h1,(uh HC).trans h2⟩
theorem SAt.setText (h:SAt w b t tl s chv tv) (v:Value) (p:Nat) (xs:List Nat):SAt ((w.setCell ⟨b,11,none⟩ (.int .i64 (p:Int))).setCell ⟨b,10,none⟩ v) b t tl { s with text:=xs,place:=p } chv v:=(h.setI 11 (.int .i64 (p:Int)) (s':={ s with place:=p }) rfl).setI 10 v rfl
end
end D
namespace D
open Go.RowKit Rang
attribute [local go_sem ↓] wp_at_zero wp_at_succ
def TAt (w:World) (v:Value) (xs:List Nat):Prop:=∃a cap,v=.slice a xs.length cap∧xs.length≤cap∧(0<cap→∃g off cur,a=some ⟨g,off,none⟩∧w.heap[g]?=some (.cells cur 5 (0,0))∧off+cap≤cur.size∧(cur.toList.drop off).take xs.length=xs.map bv)
theorem TAt.rd {w:World} {v:Value} {xs:List Nat} (h:TAt w v xs):TRd w v xs:=by
 obtain ⟨a,cap,rfl,hc,hs⟩:=h
 refine ⟨a,cap,rfl,hc,fun h0=>?_⟩
 obtain ⟨g,off,cur,rfl,hg,hz,ht⟩:=hs (by omega)
 refine ⟨g,off,rfl,fun j hj=>?_⟩
 have h1:(cur.toList.drop off)[j]?=some (bv (xs.getD j 0)):=by
  have:((cur.toList.drop off).take xs.length)[j]?=(xs.map bv)[j]?:=by rw [ht]
  rw [List.getElem?_take_of_lt hj] at this
  rw [this]
  simp [List.getD_eq_getElem?_getD,List.getElem?_eq_getElem hj]
 rw [List.getElem?_drop] at h1
 simp only [World.cell?,hg]
 rw [←Array.getElem?_toList]
 exact h1
theorem TAt.block {w:World} {v:Value} {xs:List Nat} (h:TAt w v xs) (h0:xs≠[]):∃g cur,v.ownBlock=some g∧w.heap[g]?=some (.cells cur 5 (0,0)):=by
 obtain ⟨a,cap,rfl,hc,hs⟩:=h
 have:0<xs.length:=List.length_pos_iff.2 h0
 obtain ⟨g,off,cur,rfl,hg,_⟩:=hs (by omega)
 exact ⟨g,cur,rfl,hg⟩
theorem TAt.of {w w':World} {v:Value} {xs:List Nat} (h:TAt w v xs) (hb:∀g cur,v.ownBlock=some g→w.heap[g]?=some (.cells cur 5 (0,0))→w'.heap[g]?=w.heap[g]?):TAt w' v xs:=by
 obtain ⟨a,cap,rfl,hc,hs⟩:=h
 refine ⟨a,cap,rfl,hc,fun h0=>?_⟩
 obtain ⟨g,off,cur,rfl,hg,hz⟩:=hs h0
 exact ⟨g,off,cur,rfl,by rw [hb g cur rfl hg];exact hg,hz⟩
theorem z0e {w:World} {g k:Nat} {c1 c2:Array Value} {t1 t2:TypeId} (h1:w.heap[g]?=some (.cells c1 t1 (0,0))) (h2:w.heap[k]?=some (.cells c2 t2 (0,0))) (ht:t1≠t2):g≠k:=by
 rintro rfl
 rw [h1] at h2
 injection h2 with h2
 injection h2 with _ h3
 exact ht h3
theorem z2h {B:Nat} {w:World} {pb:Nat} {chv ov:Value} {c:Enc} (h:PAt B w pb chv ov c) {g:Nat} (e:ov.ownBlock=some g):∃cur,w.heap[g]?=some (.cells cur 5 (0,0)):=by
 rcases h.row.2 with ⟨e1,e2⟩|⟨g',cap,cur,e1,hb,hh,_⟩
 ·rw [e1] at e;cases e
 ·rw [e1] at e
  obtain rfl:g'=g:=Option.some.inj e
  exact ⟨cur,hh⟩
structure WT (w w':World) (wb pb gc:Nat) (ov ov':Value):Prop where
 os:w'.os=w.os
 tape:w'.tape=w.tape
 output:w'.output=w.output
 size:w.heap.size≤w'.heap.size
 keep:∀k,k<w.heap.size→k≠wb→k≠pb→k≠gc→ov.ownBlock≠some k→w'.heap[k]?=w.heap[k]?
 lies:∀b,ov'.ownBlock=some b→ov.ownBlock=some b∨w.heap.size≤b
section
variable {w w1 w2:World} {wb pb gc:Nat} {ov v1 v2:Value}
theorem WT.refl (w:World) (wb pb gc:Nat) (ov:Value):WT w w wb pb gc ov ov:=⟨rfl,rfl,rfl,Nat.le_refl _,fun _ _ _ _ _ _=>rfl,fun b e=>.inl e⟩
theorem WT.trans (h:WT w w1 wb pb gc ov v1) (h':WT w1 w2 wb pb gc v1 v2):WT w w2 wb pb gc ov v2:=by
 refine ⟨h'.os.trans h.os,h'.tape.trans h.tape,h'.output.trans h.output,Nat.le_trans h.size h'.size,fun k hk a b c d=>?_,fun b e=>?_⟩
 ·rw [h'.keep k (by have:=h.size;omega) a b c (fun e=>?_),h.keep k hk a b c d]
  rcases h.lies k e with e1|e1
  ·exact d e1
  ·omega
 ·rcases h'.lies b e with e1|e1
  ·exact h.lies b e1
  ·exact .inr (by have:=h.size;omega)
theorem Tch.wt (h:Tch w w1 pb gc 0 ov v1) (wb:Nat):WT w w1 wb pb gc ov v1:=⟨h.os,h.tape,h.output,h.size,fun k hk _ a b c=>h.keep k hk a b c,h.lies⟩
theorem Ch1.wt (h:Ch1 wb w w1) (pb gc:Nat) (ov:Value):WT w w1 wb pb gc ov ov:=⟨h.os,h.tape,h.output,Nat.le_of_eq h.size.symm,fun k hk a _ _ _=>h.keep k a,fun b e=>.inl e⟩
theorem z4r (h:Below w.heap.size w w1) (wb pb gc:Nat) (ov:Value):WT w w1 wb pb gc ov ov:=⟨h.os,h.tape,h.output,h.size,fun k hk _ _ _ _=>h.block k hk,fun b e=>.inl e⟩
end
structure WC (B:Nat) (w:World) (wb pb gc:Nat) (ov:Value) (tl:List Value) (s:LS) (chv tv:Value) (σ:Sta):Prop where
 st:SAt w wb 73 (.pointer (some ⟨pb,0,none⟩) :: tl) s chv tv
 enc:PSta B w pb gc ov σ
 tx:TAt w tv s.text
 ap:∀g,ov.ownBlock=some g→tv.ownBlock≠some g
 ok:LOk s
 chl:σ.ch.length=s.chances
 hn:s.text.length≤1099511627776
 tb:∀g,tv.ownBlock=some g→g<w.heap.size
section
variable {B:Nat} {w w':World} {wb pb gc:Nat} {ov ov':Value} {tl:List Value} {s:LS} {chv tv:Value} {σ σ':Sta}
theorem WC.ne (h:WC B w wb pb gc ov tl s chv tv σ):wb≠pb∧wb≠gc∧ov.ownBlock≠some wb:=by
 refine ⟨z0e h.st h.enc.1.enc.cells (by decide),z0e h.st h.enc.1.chs (by decide),fun e=>?_⟩
 obtain ⟨cur,hc⟩:=z2h h.enc.1.enc e
 exact z0e h.st hc (by decide) rfl
theorem WC.text_keep (h:WC B w wb pb gc ov tl s chv tv σ) (ht:WT w w' wb pb gc ov ov'):TAt w' tv s.text:=h.tx.of fun g cur e hg =>
 ht.keep g (z0c hg) (z0e hg h.st (by decide)) (z0e hg h.enc.1.enc.cells (by decide)) (z0e hg h.enc.1.chs (by decide)) (fun e'=>h.ap g e' e)
theorem WC.ap_keep (h:WC B w wb pb gc ov tl s chv tv σ) (ht:WT w w' wb pb gc ov ov'):∀g,ov'.ownBlock=some g→tv.ownBlock≠some g:=fun g e e'=>by
 rcases ht.lies g e with h1|h1
 ·exact h.ap g h1 e'
 ·have:=h.tb g e'
  omega
theorem WC.low (h:WC B w wb pb gc ov tl s chv tv σ):B≤pb∧B≤gc∧B≤w.heap.size:=⟨h.enc.1.enc.lo,h.enc.1.lo,h.enc.2.2⟩
theorem WC.encStep (h:WC B w wb pb gc ov tl s chv tv σ) (hp:PSta B w' pb gc ov' σ') (ht:Tch w w' pb gc 0 ov ov') (hl:σ'.ch.length=σ.ch.length):WC B w' wb pb gc ov' tl s chv tv σ'∧WT w w' wb pb gc ov ov':=by
 have hw:=ht.wt wb
 have hne:=h.ne
 refine ⟨⟨?_,hp,h.text_keep hw,h.ap_keep hw,h.ok,hl.trans h.chl,h.hn,fun g e=>Nat.lt_of_lt_of_le (h.tb g e) ht.size⟩,hw⟩
 unfold SAt
 rw [ht.keep wb h.st.lt hne.1 hne.2.1 hne.2.2]
 exact h.st
theorem PSta.of (h:PSta B w pb gc ov σ) (h1:w'.heap[pb]?=w.heap[pb]?) (h2:w'.heap[gc]?=w.heap[gc]?) (h3:∀g,ov.ownBlock=some g→w'.heap[g]?=w.heap[g]?) (h4:w.heap.size≤w'.heap.size):PSta B w' pb gc ov σ :=
 ⟨⟨⟨by rw [h1];exact h.1.enc.cells,z1k h.1.enc.row fun g e=>h3 g e,h.1.enc.lo⟩,h.1.chs.of h2,h.1.lo⟩,h.2.1,Nat.le_trans h.2.2 h4⟩
theorem WC.below (h:WC B w wb pb gc ov tl s chv tv σ) (hb:Below w.heap.size w w'):WC B w' wb pb gc ov tl s chv tv σ:=by
 have hw:=z4r hb wb pb gc ov
 refine ⟨h.st.stays hb,h.enc.of (hb.block _ (z0c h.enc.1.enc.cells)) (hb.block _ h.enc.1.chs.lt) (fun g e=>?_) hb.size,h.text_keep hw,h.ap,h.ok,h.chl,h.hn,fun g e=>Nat.lt_of_lt_of_le (h.tb g e) hb.size⟩
 obtain ⟨cur,hc⟩:=z2h h.enc.1.enc e
 exact hb.block g (z0c hc)
theorem WC.setS {s':LS} {tl':List Value} (h:WC B w wb pb gc ov tl s chv tv σ) (hs:SAt w' wb 73 (.pointer (some ⟨pb,0,none⟩) :: tl') s' chv tv) (hc:Ch1 wb w w') (ho:LOk s') (hx:s'.text=s.text) (hl:s'.chances=s.chances):WC B w' wb pb gc ov tl' s' chv tv σ∧WT w w' wb pb gc ov ov:=by
 have hw:=hc.wt pb gc ov
 have hne:=h.ne
 refine ⟨⟨hs,h.enc.of (hc.keep _ (Ne.symm hne.1)) (hc.keep _ (Ne.symm hne.2.1)) (fun g e=>hc.keep g (fun e'=>hne.2.2 (e'▸e))) (Nat.le_of_eq hc.size.symm),by rw [hx];exact h.text_keep hw,h.ap,ho,by rw [hl];exact h.chl,by rw [hx];exact h.hn,fun g e=>by rw [hc.size];exact h.tb g e⟩,hw⟩
def AD (B wb pb gc:Nat) (ov:Value) (tl:List Value) (s':LS) (chv tv:Value) (σ:Sta) (acts:List A4) (W:World) (w':World):Prop :=
 ∃ov',WC B w' wb pb gc ov' tl s' chv tv (z0s acts σ)∧WT W w' wb pb gc ov ov'∧(z0s acts σ).k≤σ.k+31*acts.length
theorem z0t (l m:List A4) (σ:Sta):z0s (l++m) σ=z0s m (z0s l σ):=by
 induction l generalizing σ with
 | nil=>rfl
 | cons x l ih=>exact ih _
theorem AD.nil (h:WC B w wb pb gc ov tl s chv tv σ):AD B wb pb gc ov tl s chv tv σ [] w w:=⟨ov,h,WT.refl _ _ _ _ _,by simp [z0s]⟩
def ActE (r:Ending):Prop:=r=.returned (.int .i64 0)
theorem WC.bit (h:WC B w wb pb gc ov tl s chv tv σ) (hk:σ.k≤70000000000000) (i v:Nat) (hm:May (bitA i v) s.chances):Calls Tryz.prog 112 #[.pointer (some ⟨pb,0,none⟩),.int .i64 (i:Int),.int .i64 (v:Int)] w fun e w'=>ActE e∧AD B wb pb gc ov tl s chv tv σ [bitA i v] w w':=by
 have h1:i<s.chances∧v≤1:=by
  rcases hm with h|h|h
  ·have a:=h.2.2.1;have b:=h.2.2.2.2;simp only [bitA] at a b;omega
  ·exact absurd h.1 (by simp [bitA])
  ·exact absurd h.1 (by simp [bitA])
 have hi:i<σ.ch.length:=by rw [h.chl];exact h1.1
 have hm':May (bitA i v) σ.ch.length:=by rw [h.chl];exact hm
 have ev:(v:Int)=((decide (v=1)).toNat:Int):=by
  rcases (show v=0∨v=1 by omega) with rfl|rfl<;>rfl
 have hc:=y3a B pb gc w ov σ.c σ.ch σ.k i (decide (v=1)) h.enc.ps hi (by omega)
 rw [←ev] at hc
 refine hc.mono ?_
 rintro e w' ⟨rfl,ov',k',h2,h3,h4⟩
 have e0:(decide ((v:Int)=1))=decide (v=1):=by simp;omega
 have e1:actS (bitA i v) σ=putS σ i (decide (v=1)):=by unfold actS bitA;rw [if_pos rfl];simp only;rw [e0];rfl
 have hp:PSta B w' pb gc ov' (actS (bitA i v) σ):=z7f h2 (z1u h.enc.2.1 hm') (by rw [e1];rfl) (by rw [e1];rfl)
 obtain ⟨h5,h6⟩:=h.encStep hp h4 (z2x _ _)
 refine ⟨rfl,ov',h5,h6,?_⟩
 show (actS (bitA i v) σ).k≤_
 rw [y1o h2 (z1u h.enc.2.1 hm') (by rw [e1];rfl)]
 simp only [List.length_singleton]
 omega
theorem WC.direct (h:WC B w wb pb gc ov tl s chv tv σ) (hk:σ.k≤70000000000000) (v n:Nat) (hn:n≤31) (hv:v<2^n):Calls Tryz.prog 148 #[.pointer (some ⟨pb,0,none⟩),.int .i64 (v:Int),.int .i64 (n:Int)] w fun e w'=>ActE e∧AD B wb pb gc ov tl s chv tv σ [dirA v n] w w':=by
 have hm:May (dirA v n) σ.ch.length:=y2u hn hv
 refine (z7t B pb gc w ov σ.c σ.ch σ.k v n h.enc.ps hn hv (by omega)).mono ?_
 rintro e w' ⟨rfl,ov',k',h2,h3,h4⟩
 have e1:actS (dirA v n) σ=z7n v n σ:=by unfold actS dirA;rw [if_neg (by simp),if_pos rfl];rfl
 have hp:PSta B w' pb gc ov' (actS (dirA v n) σ):=z7f h2 (z1u h.enc.2.1 hm) (by rw [e1];exact (z2g v n σ).1) (by rw [e1];exact (z2g v n σ).2)
 obtain ⟨h5,h6⟩:=h.encStep hp h4 (z2x _ _)
 refine ⟨rfl,ov',h5,h6,?_⟩
 show (actS (dirA v n) σ).k≤_
 rw [y1o h2 (z1u h.enc.2.1 hm) (by rw [e1];exact (z2g v n σ).1)]
 simp only [List.length_singleton]
 omega
theorem WC.small (h:WC B w wb pb gc ov tl s chv tv σ):σ.ch.length≤65536:=by rw [h.chl];have:=z0x h.ok;omega
theorem WC.tree (h:WC B w wb pb gc ov tl s chv tv σ) (hk:σ.k≤70000000000000) (base v n:Nat) (hn:n≤16) (hb:base+2^n≤s.chances) (hv:v<2^n):Calls Tryz.prog 145 #[.pointer (some ⟨pb,0,none⟩),.int .i64 (base:Int),.int .i64 (v:Int),.int .i64 (n:Int)] w fun e w'=>ActE e∧AD B wb pb gc ov tl s chv tv σ [z1a base v n] w w':=by
 have hb':base+2^n≤σ.ch.length:=by rw [h.chl];exact hb
 have hm:May (z1a base v n) σ.ch.length:=y1c hn hb' hv
 refine (y1i B pb gc w ov σ.c σ.ch σ.k base v n h.enc.ps hn hb' hv (by omega) (by have:=h.small;omega)).mono ?_
 rintro e w' ⟨rfl,ov',k',h2,h3,h4⟩
 have e1:actS (z1a base v n) σ=z5b base 1 (z1e v n true) σ:=by unfold actS z1a;rw [if_neg (by simp),if_neg (by simp)];rfl
 have hp:PSta B w' pb gc ov' (actS (z1a base v n) σ):=z7f h2 (z1u h.enc.2.1 hm) (by rw [e1];exact (z1l base _ 1 σ).1) (by rw [e1];exact (z1l base _ 1 σ).2)
 obtain ⟨h5,h6⟩:=h.encStep hp h4 (z2x _ _)
 refine ⟨rfl,ov',h5,h6,?_⟩
 show (actS (z1a base v n) σ).k≤_
 rw [y1o h2 (z1u h.enc.2.1 hm) (by rw [e1];exact (z1l base _ 1 σ).1)]
 simp only [List.length_singleton]
 omega
theorem WC.rev (h:WC B w wb pb gc ov tl s chv tv σ) (hk:σ.k≤70000000000000) (base v n:Nat) (hn:n≤16) (hb:base+2^n≤s.chances) (hv:v<2^n):Calls Tryz.prog 147 #[.pointer (some ⟨pb,0,none⟩),.int .i64 (base:Int),.int .i64 (v:Int),.int .i64 (n:Int)] w fun e w'=>ActE e∧AD B wb pb gc ov tl s chv tv σ [revA base v n] w w':=by
 have hb':base+2^n≤σ.ch.length:=by rw [h.chl];exact hb
 have hm:May (revA base v n) σ.ch.length:=y2v hn hb' hv
 refine (y3f B pb gc w ov σ.c σ.ch σ.k base v n h.enc.ps hn hb' hv (by omega) (by have:=h.small;omega)).mono ?_
 rintro e w' ⟨rfl,ov',k',h2,h3,h4⟩
 have e1:actS (revA base v n) σ=z5b base 1 (z1e v n false) σ:=by unfold actS revA;rw [if_neg (by simp),if_neg (by simp)];rfl
 have hp:PSta B w' pb gc ov' (actS (revA base v n) σ):=z7f h2 (z1u h.enc.2.1 hm) (by rw [e1];exact (z1l base _ 1 σ).1) (by rw [e1];exact (z1l base _ 1 σ).2)
 obtain ⟨h5,h6⟩:=h.encStep hp h4 (z2x _ _)
 refine ⟨rfl,ov',h5,h6,?_⟩
 show (actS (revA base v n) σ).k≤_
 rw [y1o h2 (z1u h.enc.2.1 hm) (by rw [e1];exact (z1l base _ 1 σ).1)]
 simp only [List.length_singleton]
 omega
end
end D
namespace D
open Go.RowKit Rang
attribute [local go_sem ↓] wp_at_zero wp_at_succ
section
variable {B:Nat} {W w w':World} {wb pb gc:Nat} {ov:Value} {tl:List Value} {s s1:LS} {chv tv:Value} {σ:Sta} {l m:List A4}
theorem z1v (w:World) (q:Nat):Below w.heap.size w (w.drewN q):=z0q (Below.refl _ _) q
theorem AD.below (h:AD B wb pb gc ov tl s chv tv σ l W w) (hb:Below w.heap.size w w'):AD B wb pb gc ov tl s chv tv σ l W w':=by
 obtain ⟨v,h1,h2,h3⟩:=h
 exact ⟨v,h1.below hb,h2.trans (z4r hb wb pb gc v),h3⟩
theorem AD.drewN (h:AD B wb pb gc ov tl s chv tv σ l W w) (q:Nat):AD B wb pb gc ov tl s chv tv σ l W (w.drewN q):=h.below (z1v w q)
theorem AD.drew (h:AD B wb pb gc ov tl s chv tv σ l W w):AD B wb pb gc ov tl s chv tv σ l W w.drew:=h.drewN 1
theorem AD.more {w1:World} {f:FuncId} {args:Array Value} (h:AD B wb pb gc ov tl s chv tv σ l W w) (hk:σ.k+31*l.length≤70000000000000)
  (hc:∀v,WC B w wb pb gc v tl s chv tv (z0s l σ)→(z0s l σ).k≤70000000000000→Calls Tryz.prog f args w fun e w'=>ActE e∧AD B wb pb gc v tl s chv tv (z0s l σ) m w w'):Calls Tryz.prog f args w fun e w'=>ActE e∧AD B wb pb gc ov tl s chv tv σ (l++m) W w':=by
 obtain ⟨v,h1,h2,h3⟩:=h
 refine (hc v h1 (by omega)).mono ?_
 rintro e w' ⟨he,v2,h4,h5,h6⟩
 refine ⟨he,v2,by rw [z0t];exact h4,h2.trans h5,?_⟩
 rw [z0t,List.length_append]
 omega
theorem AD.bit (h:AD B wb pb gc ov tl s chv tv σ l W w) (hk:σ.k+31*l.length≤70000000000000) (i v:Nat) (hi:i<s.chances) (hv:v≤1):Calls Tryz.prog 112 #[.pointer (some ⟨pb,0,none⟩),.int .i64 (i:Int),.int .i64 (v:Int)] w fun e w'=>ActE e∧AD B wb pb gc ov tl s chv tv σ (l++[bitA i v]) W w' :=
 h.more (w1:=w) hk fun v0 h1 h2=>h1.bit h2 i v (z9l hi hv)
theorem AD.tree (h:AD B wb pb gc ov tl s chv tv σ l W w) (hk:σ.k+31*l.length≤70000000000000) (base v n:Nat) (hn:n≤16) (hb:base+2^n≤s.chances) (hv:v<2^n):Calls Tryz.prog 145 #[.pointer (some ⟨pb,0,none⟩),.int .i64 (base:Int),.int .i64 (v:Int),.int .i64 (n:Int)] w fun e w'=>ActE e∧AD B wb pb gc ov tl s chv tv σ (l++[z1a base v n]) W w' :=
 h.more (w1:=w) hk fun v0 h1 h2=>h1.tree h2 base v n hn hb hv
theorem AD.rev (h:AD B wb pb gc ov tl s chv tv σ l W w) (hk:σ.k+31*l.length≤70000000000000) (base v n:Nat) (hn:n≤16) (hb:base+2^n≤s.chances) (hv:v<2^n):Calls Tryz.prog 147 #[.pointer (some ⟨pb,0,none⟩),.int .i64 (base:Int),.int .i64 (v:Int),.int .i64 (n:Int)] w fun e w'=>ActE e∧AD B wb pb gc ov tl s chv tv σ (l++[revA base v n]) W w' :=
 h.more (w1:=w) hk fun v0 h1 h2=>h1.rev h2 base v n hn hb hv
theorem AD.direct (h:AD B wb pb gc ov tl s chv tv σ l W w) (hk:σ.k+31*l.length≤70000000000000) (v n:Nat) (hn:n≤31) (hv:v<2^n):Calls Tryz.prog 148 #[.pointer (some ⟨pb,0,none⟩),.int .i64 (v:Int),.int .i64 (n:Int)] w fun e w'=>ActE e∧AD B wb pb gc ov tl s chv tv σ (l++[dirA v n]) W w' :=
 h.more (w1:=w) hk fun v0 h1 h2=>h1.direct h2 v n hn hv
theorem AD.st (h:AD B wb pb gc ov tl s chv tv σ l W w):SAt w wb 73 (.pointer (some ⟨pb,0,none⟩) :: tl) s chv tv:=by obtain ⟨v,h1,_⟩:=h;exact h1.st
theorem AD.ok (h:AD B wb pb gc ov tl s chv tv σ l W w):LOk s:=by obtain ⟨v,h1,_⟩:=h;exact h1.ok
theorem AD.rd (h:AD B wb pb gc ov tl s chv tv σ l W w):TRd w tv s.text:=by obtain ⟨v,h1,_⟩:=h;exact h1.tx.rd
theorem AD.hn (h:AD B wb pb gc ov tl s chv tv σ l W w):s.text.length≤140737488355328:=by obtain ⟨v,h1,_⟩:=h;have:=h1.hn;omega
theorem AD.c12 (h:AD B wb pb gc ov tl s chv tv σ l W w):w.cell? ⟨wb,12,none⟩=some (.pointer (some ⟨pb,0,none⟩)):=h.st.cell 12
theorem AD.rt {v:Value} {e:Ending} (h:AD B wb pb gc ov tl s chv tv σ l W w) (hr:Rt v w e w'):e=.returned v∧AD B wb pb gc ov tl s chv tv σ l W w':=by
 obtain ⟨h1,q,rfl⟩:=hr
 exact ⟨h1,h.drewN q⟩
theorem AD.setS (h:AD B wb pb gc ov tl s chv tv σ l W w) {s':LS} {tl':List Value} (hs:SAt w' wb 73 (.pointer (some ⟨pb,0,none⟩) :: tl') s' chv tv) (hc:Ch1 wb w w') (ho:LOk s') (hx:s'.text=s.text) (hl:s'.chances=s.chances):AD B wb pb gc ov tl' s' chv tv σ l W w':=by
 obtain ⟨v,h1,h2,h3⟩:=h
 obtain ⟨h4,h5⟩:=h1.setS hs hc ho hx hl
 exact ⟨v,h4,h2.trans h5,h3⟩
def PD (B wb pb gc:Nat) (ov:Value) (tl:List Value) (s:LS) (chv tv:Value) (σ:Sta) (l:List A4) (W:World) (e:Ending) (w':World):Prop:=e=.returned (.tuple #[])∧AD B wb pb gc ov tl s chv tv σ l W w'
theorem iw (n:Int):IntKind.i64.wrap n=wrap64 n:=by rw [IntKind.wrap_i64];unfold wrap64;omega
theorem z9h {at_ n N y:Nat} (hn:2≤n∧n≤273) (ha:at_+514≤N) (hy:y<16) (hN:N≤14144) :
  at_<N∧at_+1<N∧at_+2+y*8+2^3≤N∧at_+130+y*8+2^3≤N∧at_+258+2^8≤N∧(n<10→n-2<2^3)∧(n<18→n-10<2^3)∧n-18<2^8 ∧
  wrap64 (at_:Int)=(at_:Int)∧wrap64 ((at_:Int)+1)=((at_+1:Nat):Int)∧(¬n<10→wrap64 ((n:Int)-10)=((n-10:Nat):Int))∧(¬n<18→wrap64 ((n:Int)-18)=((n-18:Nat):Int))∧wrap64 ((n:Int)-2)=((n-2:Nat):Int) ∧
  wrap64 ((at_:Int)+((2+y*8:Nat):Int))=((at_+2+y*8:Nat):Int)∧wrap64 ((at_:Int)+((130+y*8:Nat):Int))=((at_+130+y*8:Nat):Int)∧wrap64 ((at_:Int)+258)=((at_+258:Nat):Int):=by
 refine ⟨by omega,by omega,by omega,by omega,by omega,by omega,by omega,by omega,w64 (by omega) (by omega),?_,fun h=>?_,fun h=>?_,?_,?_,?_,?_⟩
 all_goals rw [w64 (by omega) (by omega)];omega
theorem y2s {k L:Nat} (h:k+31*(L+5)≤70000000000000):k+31*L≤70000000000000∧k+31*(L+1)≤70000000000000∧k+31*(L+2)≤70000000000000∧k+31*(L+3)≤70000000000000∧k+31*(L+4)≤70000000000000:=by omega
theorem len1 (l:List A4) (a:A4):(l++[a]).length=l.length+1:=by simp
theorem len2 (l:List A4) (a b:A4):(l++[a]++[b]).length=l.length+2:=by simp
theorem len3 (l:List A4) (a b c:A4):(l++[a]++[b]++[c]).length=l.length+3:=by simp
end
end D
end Go.Proofs.YtoicnlmfgembiaaGreat
