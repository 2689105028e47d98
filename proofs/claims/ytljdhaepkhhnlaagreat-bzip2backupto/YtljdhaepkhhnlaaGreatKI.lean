/- For all texts a and b and every level, hamperlaw12.Bzip2Back returns true (Read of Make tells the text again, of two made texts joined both, and what is made has at least 14 bytes), and its arguments read behind the call as before; where what it reads holds at most 1048576 values. Texts: Rb, BackFrame. -/
import Derived.Test.YtljdhaepkhhnlaaGreatKH
import Derived.ProofKit
import Derived.OpenShut
import Derived.ChangeOld
import Derived.SizedLaws
import Derived.JoinedCond

set_option linter.unusedVariables false
set_option maxRecDepth 100000
set_option maxHeartbeats 24000000
namespace Go.Proofs.YtljdhaepkhhnlaaGreat
section
open Go.RowKit B4 B4.Mth Infl R11.Runs
attribute [local go_sem ↓] wp_at_zero wp_at_succ
theorem x8i {w:World} {a:Option Addr} {c:Nat} {zs:List Nat} (h:R11.SrcB w a c zs):R11.BytesIn w a zs:=fun j hj=>by
 rcases h with ⟨_,_,rfl⟩|⟨ad,rfl,hc⟩
 ·simp at hj
 ·have h0:=hc 0 (R11.bv (zs.getD 0 0)) (by simp [List.getD_eq_getElem?_getD,show 0<zs.length by omega])
  obtain ⟨b,off,sp⟩:=ad
  have hsp:sp=none:=by simpa [Addr.add] using World.cell?_spot h0
  subst hsp
  refine ⟨b,off,rfl,?_⟩
  have e:(⟨b,off,none⟩:Addr).add j=⟨b,off+j,none⟩:=by by_cases hq:j=0<;>simp [Addr.add,hq]
  have:=hc j (R11.bv (zs.getD j 0)) (by simp [List.getD_eq_getElem?_getD,hj])
  rw [e] at this
  exact this
theorem w1o (lv:Int):∃L:Nat,1≤L∧L≤9∧1+Int.tmod lv 9%9=(L:Int) ∧ -9<Int.tmod lv 9∧Int.tmod lv 9<9:=by
 have h1 : -9<Int.tmod lv 9:=by have:=Int.lt_tmod_of_pos lv (b:=9) (by decide);omega
 have h2:Int.tmod lv 9<9:=Int.tmod_lt_of_pos lv (by decide)
 refine ⟨(1+Int.tmod lv 9%9).toNat,by omega,by omega,by omega,h1,h2⟩
theorem x0d (w:World) (B:Nat) (hB:B≤w.heap.size):RowB B (w.alloc (.cells #[] 5)) (.slice (some ⟨w.heap.size,0,none⟩) 0 0) []:=by
 have:=World.ownsRow_made (base:=B) (e:=5) (size:=1) w #[] 0 hB (by unfold maxLen;omega) rfl
 simpa [RowB] using this
theorem y6o {w w':World} {B:Nat} {v v':Value} (h:Gr w w' v v') (hlo:∀b,v.ownBlock=some b→B≤b) (hB:B≤w.heap.size):Below B w w' :=
 ⟨h.os,h.tape,h.output,h.size,fun k hk=>h.block k (by omega) (fun e=>by have:=hlo k e;omega)⟩
theorem z5m {w:World} {B:Nat} {v:Value} {xs:List Nat} (h:RowB B w v xs):B4.Reads w v xs:=by
 rcases h.2 with ⟨e1,e2⟩|⟨g,cap,cur,e1,_⟩
 ·exact ⟨none,0,by rw [e1,e2],fun h0=>by omega⟩
 ·exact ⟨_,cap,e1,fun _=>⟨_,rfl,World.ownsRow.cells h (by rw [e1];rfl)⟩⟩
theorem y5f {xs ys:List Nat} {b:Nat} (hx:∀z∈xs,z<b) (hy:∀z∈ys,z<b):∀z∈xs++ys,z<b:=fun z hz=>by
 rcases List.mem_append.1 hz with h|h
 ·exact hx z h
 ·exact hy z h
theorem y4f {w:World} {a:Option Addr} {c:Nat} {zs:List Nat} (h:R11.SrcB w a c zs):R11.Reads w (.slice a zs.length c) zs:=by
 rcases h with ⟨rfl,rfl,rfl⟩|⟨ad,rfl,hc⟩
 ·exact ⟨none,0,rfl,fun h0=>by simp at h0⟩
 ·exact ⟨_,c,rfl,fun _=>⟨ad,rfl,hc⟩⟩
theorem w0u (a b:List Nat):R11.bs a++R11.bs b=R11.bs (a++b):=by
 apply ByteArray.ext
 simp [R11.bs]
theorem x4l (xs ys:List Nat) (a0 a1:Option Addr) (c0 c1:Nat) (lv:Int) (w:World) (hA:R11.SrcB w a0 c0 xs) (hB:R11.SrcB w a1 c1 ys) (hc0:xs.length≤c0) (hc1:ys.length≤c1) (hx:∀z∈xs,z<256) (hy:∀z∈ys,z<256) (hn:xs.length+ys.length≤1048576) (hlv : -9223372036854775808≤lv∧lv<9223372036854775808) :
  Calls Tryz.prog 4 #[.slice a0 xs.length c0,.slice a1 ys.length c1,.int .i64 lv] w fun e w'=>e=.returned (.bool true)∧Below w.heap.size w w':=by
 obtain ⟨lev,hl1,hl2,hl3,hl4,hl5⟩:=w1o lv
 have HA:=qz hA
 have HB:=qz hB
 have HX:=qz hx
 have HY:=qz hy
 have fw1:IntKind.i64.wrap (Int.tmod lv 9+9)=Int.tmod lv 9+9:=by rw [IntKind.wrap_i64];omega
 have HLV:=qz hl3
 have HCA:=qz (x1l xs a0 c0 lev w (x8i hA) hc0 hx (by omega) ⟨hl1,hl2⟩)
 obtain ⟨N,hN⟩:∃N,N=xs.length:=⟨_,rfl⟩
 obtain ⟨M,hM⟩:∃M,M=ys.length:=⟨_,rfl⟩
 have HN:=qz hN
 have HM:=qz hM
 rw [←hN] at HCA hc0 hn ⊢
 rw [←hM] at hc1 hn ⊢
 clear hA hB hx hy hN hM hl3
 go_enter Tryz.func4,Tryz.ntmps4
 go_wp2_with fail
 rw [uh HLV]
 refine (uh HCA).mono ?_
 rintro e w1 ⟨gx,bx,rfl,hgx,hhx,hpx,hb1⟩
 have HCB:=x1l ys a1 c1 lev w1 (x8i ((uh HB).stays hb1)) (by rw [←uh HM];exact hc1) (uh HY) (by rw [←uh HM];omega) ⟨hl1,hl2⟩
 rw [←uh HM] at HCB
 have HCB:=qz HCB
 have HHX:=qz hhx
 have HPX:=qz hpx
 have HB1:=qz hb1
 have HGX:=qz hgx
 change Hid (w1.heap[gx]?=some (.cells ((z2f lev bx).map bv).toArray 5 (0,0))) at HHX
 obtain ⟨X,hX⟩:∃X,X=z2f lev bx:=⟨_,rfl⟩
 have hsx:=y0d (uh HPX) (by rw [←uh HN];omega)
 have hxl:(Bz.packH (Bz.streamB lev bx)).length=X.length:=by rw [hX];rfl
 rw [hxl]
 rw [←hX] at HHX hsx
 have HXX:=qz hX
 obtain ⟨NX,hNX⟩:∃NX,NX=X.length:=⟨_,rfl⟩
 have HNX:=qz hNX
 rw [←hNX] at hsx ⊢
 clear hhx hpx hb1 hgx HCA hX hxl hNX
 go_wp2_with fail
 (try rw [uh HLV])
 refine (uh HCB).mono ?_
 rintro e w2 ⟨gy,by',rfl,hgy,hhy,hpy,hb2⟩
 obtain ⟨Y,hY⟩:∃Y,Y=z2f lev by':=⟨_,rfl⟩
 have hsy:=y0d hpy (by rw [←uh HM];omega)
 have hyl:(Bz.packH (Bz.streamB lev by')).length=Y.length:=by rw [hY];rfl
 rw [hyl]
 have hhy2:w2.heap[gy]?=some (.cells (Y.map bv).toArray 5 (0,0)):=by rw [hY];exact hhy
 rw [←hY] at hsy
 have HYY:=qz hY
 have HHY:=qz hhy2
 have HPY:=qz hpy
 have hgx1:gx<w1.heap.size:=z0d (uh HHX)
 have HHX2:Hid (w2.heap[gx]?=some (.cells (X.map bv).toArray 5 (0,0))):=qz (by rw [hb2.block gx hgx1];exact uh HHX)
 have HB2:=qz ((uh HB1).trans (hb2.mono (uh HB1).size))
 have HGY:=qz (Nat.le_trans (uh HB1).size hgy)
 obtain ⟨NY,hNY⟩:∃NY,NY=Y.length:=⟨_,rfl⟩
 have HNY:=qz hNY
 rw [←hNY] at hsy ⊢
 clear hhy hpy hb2 hgy HCB hY hyl hNY hhy2 HHX hgx1
 have hbig:¬ (268435456:Int)<(N:Int)+(M:Int):=by omega
 have fwl:IntKind.i64.wrap ((N:Int)+(M:Int))=((N+M:Nat):Int):=by rw [IntKind.wrap_i64];omega
 have hbig2:¬ (268435456:Int)<((N+M:Nat):Int):=by omega
 have hb3:Below w2.heap.size w2 (w2.alloc (.cells #[] 5)):=(Below.refl _ _).alloc (Nat.le_refl _) _
 have hgx2:gx<w2.heap.size:=z0d (uh HHX2)
 have hgy2:gy<w2.heap.size:=z0d (uh HHY)
 have HRX:=z8t (B:=0) (show (w2.alloc (.cells #[] 5)).heap[gx]?=_ from (hb3.block gx hgx2).trans (uh HHX2)) (Nat.zero_le _) (by rw [←uh HNX];omega)
 rw [←uh HNX] at HRX
 have HRX:=qz HRX
 have HD0:=qz (x0d w2 w2.heap.size (Nat.le_refl _))
 have HB3:=qz hb3
 clear hb3
 go_wp2_with (first|(at_builtin;refine z7g (ws:=w4) (B:=w2.heap.size) (B':=0) rfl _ _ rfl _ _ X Y (by rfl) (by rfl) (uh HW4) (uh HRY) hS4 (by rw [←uh HNX,←uh HNY];omega) ?_;intro v5 w5 h5 k5;have HW5:=qz h5;have HG5:=qz k5;clear h5 k5)|(at_builtin;refine z7g (ws:=w2.alloc (.cells #[] 5)) (B:=w2.heap.size) (B':=0) rfl _ _ rfl _ _ [] X (by rfl) (by rfl) (uh HD0) (uh HRX) (uh HB3).size (by rw [←uh HNX];simp;omega) ?_;intro v4 w4 h4 k4;have HW4:Hid (RowB w2.heap.size w4 v4 X):=qz (by simpa using h4);have HB4:=qz ((uh HB3).trans (y6o k4 (RowB.lo (uh HD0)) (uh HB3).size));have hS4:w2.heap.size≤w4.heap.size:=(uh HB4).size;have HRY:Hid (RowB 0 w4 (.slice (some ⟨gy,0,none⟩) NY NY) Y):=qz (by have:=z8t (B:=0) (show w4.heap[gy]?=_ from ((uh HB4).block gy hgy2).trans (uh HHY)) (Nat.zero_le _) (by rw [←uh HNY];omega);rw [←uh HNY] at this;exact this);clear h4 k4))
 have eNM:(N:Int)+(M:Int)=((N+M:Nat):Int):=by omega
 rw [eNM]
 obtain ⟨q2,htwo⟩:=x3t (uh HPX) (uh HPY) ⟨hl1,hl2⟩ (by rw [←uh HN,←uh HM];exact hn)
 rw [←uh HXX,←uh HYY,←uh HN,←uh HM] at htwo
 have hps:=z8i lev bx
 have hps2:=z8i lev by'
 rw [←uh HXX] at hps
 rw [←uh HYY] at hps2
 have HRD1:=qz (x2w (X++Y) (xs++ys) v5 (N+M) 1000000000 2 q2 w5 (z5m (uh HW5)) (by rw [List.length_append,←uh HNX,←uh HNY];omega) (y5f hps hps2) (by omega) (by omega) (y5f (uh HX) (uh HY)) (by rw [List.length_append,←uh HN,←uh HM];exact Nat.le_refl _) htwo)
 have HB5:=qz ((uh HB4).trans (y6o (uh HG5) (RowB.lo (uh HW4)) hS4))
 have HPSX:=qz hps
 clear htwo hps hps2 eNM fwl
 refine (uh HRD1).mono ?_
 rintro e w6 ⟨zv,rfl,hzrow,hb6⟩
 have HZ:=qz hzrow
 have HB6:=qz ((uh HB5).trans (hb6.mono (uh HB5).size))
 clear hzrow hb6 HRD1
 obtain ⟨q1,hone⟩:=x1v (uh HPX) ⟨hl1,hl2⟩ (by rw [←uh HN];omega)
 rw [←uh HXX,←uh HN] at hone
 have hgx6:w6.heap[gx]?=some (.cells (X.map bv).toArray 5 (0,0)):=((uh HB6).block gx hgx2).trans (uh HHX2)
 have hrx6:=z8t (B:=0) hgx6 (Nat.zero_le _) (by rw [←uh HNX];omega)
 rw [←uh HNX] at hrx6
 have HRD2:=qz (x2w X xs _ N 1000000000 1 q1 w6 (z5m hrx6) (by rw [←uh HNX];omega) (uh HPSX) (by omega) (by omega) (uh HX) (by rw [←uh HN];exact Nat.le_refl _) hone)
 clear hone hgx6 hrx6
 go_wp2_with fail
 refine (uh HRD2).mono ?_
 rintro e w7 ⟨wv,rfl,hwrow,hb7⟩
 have HB7:=qz ((uh HB6).trans (hb7.mono (uh HB6).size))
 have hbw7:Below w.heap.size w w7:=(uh HB2).trans ((uh HB7).mono (uh HB2).size)
 have hz7:RowB w5.heap.size w7 zv (xs++ys):=R11.own_keep (uh HZ) fun g e=>hb7.block g (World.ownsRow.lt (uh HZ) g e).2
 have cz:=R11.conv_reads (z5m hz7) (y5f (uh HX) (uh HY))
 have cw:=R11.conv_reads (z5m hwrow) (uh HX)
 have ca:=R11.conv_reads (y4f ((uh HA).stays hbw7)) (uh HX)
 have cb:=R11.conv_reads (y4f ((uh HB).stays hbw7)) (uh HY)
 rw [←uh HN] at ca
 rw [←uh HM] at cb
 have hap:R11.bs xs++R11.bs ys=R11.bs (xs++ys):=w0u xs ys
 have HBW:=qz hbw7
 have t14:(14:Int)≤(NX:Int):=by omega
 have t14d:decide ((14:Int)≤(NX:Int))=true:=decide_eq_true t14
 have hz9:zv=zv:=rfl
 have hs1:(R11.bs xs).size=N:=by rw [uh HN];simp [R11.bs,ByteArray.size]
 have hs2:(R11.bs ys).size=M:=by rw [uh HM];simp [R11.bs,ByteArray.size]
 have hs3:¬ (maxLen<(R11.bs xs).size+(R11.bs ys).size):=by rw [hs1,hs2];unfold maxLen;omega
 have hs4:(R11.bs xs).size+(R11.bs ys).size≤maxLen:=by rw [hs1,hs2];unfold maxLen;omega
 generalize R11.bs xs=sx at *
 generalize R11.bs ys=sy at *
 generalize R11.bs (xs++ys)=sz at *
 clear hz7 hbw7 hwrow hb7 HRD2 hz9 hs1 hs2
 go_wp2_with fail
 go_ret
 exact ⟨rfl,uh HBW⟩
end
end Go.Proofs.YtljdhaepkhhnlaaGreat
section
namespace Go.Proofs.YtljdhaepkhhnlaaGreat.Bzip2BackFrame
open Go.ChangeShapes Go.WideShapes Go.ChangeAt Go.RowKit Go.Deep Go.Joins
theorem own:ownKnob Tryz.prog.godebug=none:=by kernel_rfl
theorem laidOut:laidOutB Tryz.prog=true:=by kernel_rfl
theorem cells5:Tryz.prog.cellsOf 5=1:=by kernel_rfl
theorem x4p {H:Type} (d:DataW H):1≤Rows.uptoBulk d:=by
 cases d with
 | lit l=>cases l<;>simp [Rows.uptoBulk]
 | _=>simp [Rows.uptoBulk]
theorem x4o {H:Type} (l:List (DataW H)):l.length≤Rows.uptoBulkAll l:=by
 induction l with
 | nil=>simp [Rows.uptoBulkAll]
 | cons x r ih=>have:=x4p x;simp only [Rows.uptoBulkAll,List.length_cons];omega
theorem z9q {H:Type} (elems spare:List (DataW H)):elems.length≤Rows.uptoBulk (.slice elems spare):=by
 have:=x4o elems
 simp only [Rows.uptoBulk];omega
theorem contract (H:Type) (enc:TypeId × Value→H) (W:World) (base:Nat) (args:Array Value) (ds gs:List (DataW H)) (before:List MemPlace)
  (hval:∀ (j:Nat) t v,Tryz.f4.params[j]?=some t→args[j]?=some v→Value.okWide Tryz.prog W .any base t v)
  (hW:DataW.Whole enc Tryz.prog Tryz.f4.params.toList Rows.bzip2BackSpec.vars false W args.toList ds gs before) (hk:Rows.uptoSmall H (ds++gs)=true) :
  Calls Tryz.prog 4 args W fun e W'=>∃v,e=.returned v∧Rows.bzip2BackSpec.post enc Tryz.prog Tryz.f4 false true false false W args v W':=by
 have hW':=hW
 obtain ⟨p,q,hA0,hV,rfl,hfz,hnd⟩:=hW
 have hA:DataW.TrodAll enc Tryz.prog W 0 (fun _=>true) true Tryz.f4.params.toList args.toList ds p:=hA0
 rw [Tryz.params4] at hA hval
 obtain ⟨v0,vs0,d0,ds0,p0,q0,hargs,rfl,rfl,h0,r0⟩:=trodAll_cons hA
 obtain ⟨v1,vs1,d1,ds1,p1,q1,rfl,rfl,rfl,h1,r1⟩:=trodAll_cons r0
 obtain ⟨v2,vs2,d2,ds2,p2,q2,rfl,rfl,rfl,h2,r2⟩:=trodAll_cons r1
 obtain ⟨rfl,rfl,rfl⟩:=trodAll_nil r2
 obtain rfl:args=#[v0,v1,v2]:=by cases args;simp_all
 obtain ⟨rfl,rfl⟩:=trodVars_none hV
 have hbulk:Rows.uptoBulkAll ([d0,d1,d2]++[])≤1048576:=of_decide_eq_true hk
 simp only [List.append_nil,Rows.uptoBulkAll] at hbulk
 obtain ⟨a0,len0,cap0,rfl⟩:=okWide_slice Tryz.underlying22 (hval 0 22 v0 rfl rfl)
 have k0:=h0
 have lt0:∀x∈p0,x.block<W.heap.size:=by obtain ⟨m,hm⟩:=k0;exact DataW.trod_lt m _ _ _ hm
 obtain ⟨zs0,hzl0,hz0,hcp0,hsm0,hrd0⟩:∃zs:List Nat,zs.length=len0∧len0≤Rows.uptoBulk d0∧len0≤cap0∧(∀z∈zs,z<256)∧((a0=none∧cap0=0∧zs=[])∨∃ad,a0=some ad∧∀ (j:Nat) u,(zs.map R11.bv)[j]?=some u→W.cell? (ad.add j)=some u):=by
  obtain ⟨fuel,hf⟩:=h0
  rcases open_ints Tryz.underlying22 Tryz.underlying5 cells5 hf with ⟨hcs,_⟩|⟨x,l,c,ys,hcs,_,hl,hm,hz,hx,hcell,hwz⟩
  ·simp [Value.cells] at hcs
   obtain ⟨rfl,rfl,rfl⟩:=hcs
   exact ⟨[],rfl,by omega,by omega,by simp,.inl ⟨rfl,rfl,rfl⟩⟩
  ·simp [Value.cells] at hcs
   obtain ⟨rfl,rfl,rfl⟩:=hcs
   have hyl:len0≤ys.length:=by rw [hz];split<;>omega
   have hlen:len0≤Rows.uptoBulk d0:=by
    have h1:=z9q (lits .u8 (ys.take len0):List (DataW H)) (lits .u8 (ys.drop len0))
    simp only [Prod.mk.injEq] at hx
    rw [hx.1]
    refine Nat.le_trans ?_ h1
    simp [lits];omega
   have hb:∀y∈ys,0≤y∧y≤255:=fun y hy=>bounds_u8 (hwz y hy)
   refine ⟨(ys.take len0).map Int.toNat,by simp;omega,hlen,by omega,?_,.inr ⟨x,rfl,fun j u hj=>?_⟩⟩
   ·intro z hz'
    obtain ⟨y,hy,rfl⟩:=List.mem_map.1 hz'
    have:=hb y (List.mem_of_mem_take hy)
    omega
   ·have hj2:j<len0:=by
     have:=(List.getElem?_eq_some_iff.1 hj).1
     simp at this;omega
    rw [hcell j (by omega)]
    rw [List.getElem?_map,List.getElem?_map,List.getElem?_take,if_pos hj2,List.getElem?_eq_getElem (by omega)] at hj
    simp [R11.bv] at hj
    rw [←hj]
    have:=hb ys[j] (List.getElem_mem _)
    simp [show j<ys.length by omega]
    omega
 obtain ⟨a1,len1,cap1,rfl⟩:=okWide_slice Tryz.underlying22 (hval 1 22 v1 rfl rfl)
 have k1:=h1
 have lt1:∀x∈p1,x.block<W.heap.size:=by obtain ⟨m,hm⟩:=k1;exact DataW.trod_lt m _ _ _ hm
 obtain ⟨zs1,hzl1,hz1,hcp1,hsm1,hrd1⟩:∃zs:List Nat,zs.length=len1∧len1≤Rows.uptoBulk d1∧len1≤cap1∧(∀z∈zs,z<256)∧((a1=none∧cap1=0∧zs=[])∨∃ad,a1=some ad∧∀ (j:Nat) u,(zs.map R11.bv)[j]?=some u→W.cell? (ad.add j)=some u):=by
  obtain ⟨fuel,hf⟩:=h1
  rcases open_ints Tryz.underlying22 Tryz.underlying5 cells5 hf with ⟨hcs,_⟩|⟨x,l,c,ys,hcs,_,hl,hm,hz,hx,hcell,hwz⟩
  ·simp [Value.cells] at hcs
   obtain ⟨rfl,rfl,rfl⟩:=hcs
   exact ⟨[],rfl,by omega,by omega,by simp,.inl ⟨rfl,rfl,rfl⟩⟩
  ·simp [Value.cells] at hcs
   obtain ⟨rfl,rfl,rfl⟩:=hcs
   have hyl:len1≤ys.length:=by rw [hz];split<;>omega
   have hlen:len1≤Rows.uptoBulk d1:=by
    have h1:=z9q (lits .u8 (ys.take len1):List (DataW H)) (lits .u8 (ys.drop len1))
    simp only [Prod.mk.injEq] at hx
    rw [hx.1]
    refine Nat.le_trans ?_ h1
    simp [lits];omega
   have hb:∀y∈ys,0≤y∧y≤255:=fun y hy=>bounds_u8 (hwz y hy)
   refine ⟨(ys.take len1).map Int.toNat,by simp;omega,hlen,by omega,?_,.inr ⟨x,rfl,fun j u hj=>?_⟩⟩
   ·intro z hz'
    obtain ⟨y,hy,rfl⟩:=List.mem_map.1 hz'
    have:=hb y (List.mem_of_mem_take hy)
    omega
   ·have hj2:j<len1:=by
     have:=(List.getElem?_eq_some_iff.1 hj).1
     simp at this;omega
    rw [hcell j (by omega)]
    rw [List.getElem?_map,List.getElem?_map,List.getElem?_take,if_pos hj2,List.getElem?_eq_getElem (by omega)] at hj
    simp [R11.bv] at hj
    rw [←hj]
    have:=hb ys[j] (List.getElem_mem _)
    simp [show j<ys.length by omega]
    omega
 obtain ⟨I2,rfl,rfl,rfl,w2⟩:=open_int Tryz.underlying3 (hval 2 3 v2 rfl rfl) h2
 clear hA0
 subst hzl0
 subst hzl1
 have hi2:=bounds_i64 w2
 refine (x4l zs0 zs1 a0 a1 cap0 cap1 I2 W hrd0 hrd1 hcp0 hcp1 hsm0 hsm1 (by omega) (by omega)).mono fun e W' ⟨he,bel⟩=>?_
 subst he
 exact ⟨_,rfl,_,_,_,[],_,[],hW',trodAll_mk1 (shut_bool Tryz.underlying4 _),(trodAll_cons_mk (Below.trod laidOut (by kernel_rfl) (of_decide_eq_true (by kernel_rfl)) k0 bel lt0) (trodAll_cons_mk (Below.trod laidOut (by kernel_rfl) (of_decide_eq_true (by kernel_rfl)) k1 bel lt1) (trodAll_cons_mk (shut_int Tryz.underlying3 w2) trodAll_mk0))),rfl,bel.frame _,fun h=>by cases h⟩
theorem lifted (os:Os) (started:os.Started) (H:Type) (enc:TypeId × Value→H) (F:Stop.Interp) :
  ReturnsInHanded {} Tryz.checked os 4 .any ((Rows.OpenSpec.upto Rows.bzip2BackSpec).pre6 enc Tryz.prog Tryz.f4 Rows.bzip2BackUptoRow.domain false) (((Rows.OpenSpec.upto Rows.bzip2BackSpec).at F).post enc Tryz.prog Tryz.f4 false true false false):=by
 refine returnsInHanded_of_cond (C:=Tryz.checked) (s:=Rows.OpenSpec.upto Rows.bzip2BackSpec) (k:=Rows.uptoSmall) rfl own started (by kernel_rfl) Tryz.func4
  (OpenSpec.witness (enc:=enc) (C:=Tryz.checked) (s:=Rows.OpenSpec.upto Rows.bzip2BackSpec) (k:=Rows.uptoSmall) rfl false ⟨#[],#[.slice none 0 0,.slice none 0 0,.int .i64 0],[]⟩ 8 (by kernel_rfl) (by kernel_rfl) (by kernel_rfl)
   (x:=([.nil,.nil,.lit (.int .i64 0)],[],[])) (by kernel_rfl) rfl (by kernel_rfl)) ?_
 intro W base args ds gs before hval hW _ hk _
 exact contract H enc W base args ds gs before hval hW hk
theorem proved:Rows.Bzip2BackUptoSaid :=
 OpenClaim.holds_of_cond 4 Tryz.f4 rfl rfl rfl rfl rfl rfl rfl ⟨rfl,rfl,rfl,rfl,rfl⟩ rfl rfl rfl rfl rfl (by kernel_rfl) Tryz.func4 (by kernel_rfl)
  (of_decide_eq_true (by kernel_rfl)) (by unfold Func.isWrapper;first|(rw [if_pos (by decide +kernel)];kernel_rfl)|(rw [if_neg (by decide +kernel)];exact ⟨rfl,rfl⟩))
  (fun os started H enc _ F=>lifted os started H enc F)
end Go.Proofs.YtljdhaepkhhnlaaGreat.Bzip2BackFrame
namespace Go.Proofs.YtljdhaepkhhnlaaGreat
theorem bzip2BackUpto_holds:Rows.Bzip2BackUptoSaid:=Bzip2BackFrame.proved
end Go.Proofs.YtljdhaepkhhnlaaGreat
end
namespace Go.Proofs.YtljdhaepkhhnlaaGreat
end Go.Proofs.YtljdhaepkhhnlaaGreat
