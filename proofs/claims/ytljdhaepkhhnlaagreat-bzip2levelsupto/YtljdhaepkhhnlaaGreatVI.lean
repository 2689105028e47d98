/- For every text and any two levels, hamperlaw12.Bzip2Levels returns true (a text is told alike of every level, and its level stands in what is made), and its arguments read behind the call as before; where what it reads holds at most 1048576 values. Texts: Rc, LevelsFrame. -/
import Derived.Test.YtljdhaepkhhnlaaGreatVH
import Derived.ProofKit
import Derived.OpenShut
import Derived.ChangeOld
import Derived.SizedLaws
import Derived.JoinedCond

set_option linter.unusedVariables false
set_option maxRecDepth 100000
set_option maxHeartbeats 24000000
namespace Go.Proofs.YtljdhaepkhhnlaaGreat
section
open Go.RowKit B4 B4.Mth Infl R11.Runs
attribute [local go_sem ↓] wp_at_zero wp_at_succ
theorem z8f (level:Nat) (bs:List Bz.Blk) (hl:level≤9):(z9f level bs).getD 3 0=48+level:=by
 have h1:=z8g level bs
 have h2:=y0l level bs
 unfold z9f Bz.packH
 rw [List.getD_eq_getElem?_getD,List.getElem?_map,List.getElem?_range (by omega),Option.map_some,Option.getD_some]
 refine Bz.vf_test 8 _ _ (by omega) fun j hj=>?_
 unfold Bz.streamB
 rw [List.getD_eq_getElem?_getD,List.getElem?_append_right (by rw [Bz.nbH_len];omega),Bz.nbH_len,List.getElem?_append_left (by rw [Bz.nbH_len];omega)]
 unfold Bz.nbH
 rw [List.getElem?_map,List.getElem?_range (by omega),Option.map_some,Option.getD_some,show 8*3+j-24=j by omega]
theorem y8s (xs:List Nat) (a0:Option Addr) (c0:Nat) (lx ly:Int) (w:World) (hA:R11.SrcB w a0 c0 xs) (hc0:xs.length≤c0) (hx:∀z∈xs,z<256) (hn:xs.length≤1048576) (hlx : -9223372036854775808≤lx∧lx<9223372036854775808) (hly : -9223372036854775808≤ly∧ly<9223372036854775808) :
  Calls Tryz.prog 5 #[.slice a0 xs.length c0,.int .i64 lx,.int .i64 ly] w fun e w'=>e=.returned (.bool true)∧Below w.heap.size w w':=by
 obtain ⟨l1,k1,k2,k3,k4,k5⟩:=x8c lx
 obtain ⟨l2,m1,m2,m3,m4,m5⟩:=x8c ly
 have HA:=qz hA
 have HX:=qz hx
 have fw1:IntKind.i64.wrap (Int.tmod lx 9+9)=Int.tmod lx 9+9:=by rw [IntKind.wrap_i64];omega
 have fw2:IntKind.i64.wrap (Int.tmod ly 9+9)=Int.tmod ly 9+9:=by rw [IntKind.wrap_i64];omega
 have HL1:=qz k3
 have HL2:=qz m3
 have HCA:=qz (x1k xs a0 c0 l1 w (x8g hA) hc0 hx (by omega) ⟨k1,k2⟩)
 obtain ⟨N,hN⟩:∃N,N=xs.length:=⟨_,rfl⟩
 have HN:=qz hN
 rw [←hN] at HCA hc0 hn ⊢
 clear hA hx hN k3 m3
 go_enter Tryz.func5,Tryz.ntmps5
 go_wp2_with fail
 rw [uh HL1,uh HL2]
 refine (uh HCA).mono ?_
 rintro e w1 ⟨gx,bx,rfl,hgx,hhx,hpx,hb1⟩
 have HCB:=x1k xs a0 c0 l2 w1 (x8g ((uh HA).stays hb1)) (by rw [←uh HN];exact hc0) (uh HX) (by rw [←uh HN];omega) ⟨m1,m2⟩
 rw [←uh HN] at HCB
 have HCB:=qz HCB
 obtain ⟨X,hX⟩:∃X,X=z9f l1 bx:=⟨_,rfl⟩
 have hsx:=y0b hpx (by rw [←uh HN];omega)
 have hxl:(Bz.packH (Bz.streamB l1 bx)).length=X.length:=by rw [hX];rfl
 rw [hxl]
 have hhx2:w1.heap[gx]?=some (.cells (X.map bv).toArray 5 (0,0)):=by rw [hX];exact hhx
 have hdx:X.getD 3 0=48+l1:=by rw [hX];exact z8f l1 bx k2
 rw [←hX] at hsx
 have HHX:=qz hhx2
 have HPX:=qz hpx
 have HB1:=qz hb1
 have HDX:=qz hdx
 have HXX:=qz hX
 obtain ⟨NX,hNX⟩:∃NX,NX=X.length:=⟨_,rfl⟩
 have HNX:=qz hNX
 rw [←hNX] at hsx ⊢
 clear hhx hhx2 hpx hb1 hgx HCA hX hxl hNX hdx
 go_wp2_with fail
 (try rw [uh HL2])
 refine (uh HCB).mono ?_
 rintro e w2 ⟨gy,by',rfl,hgy,hhy,hpy,hb2⟩
 obtain ⟨Y,hY⟩:∃Y,Y=z9f l2 by':=⟨_,rfl⟩
 have hsy:=y0b hpy (by rw [←uh HN];omega)
 have hyl:(Bz.packH (Bz.streamB l2 by')).length=Y.length:=by rw [hY];rfl
 rw [hyl]
 have hhy2:w2.heap[gy]?=some (.cells (Y.map bv).toArray 5 (0,0)):=by rw [hY];exact hhy
 have hdy:Y.getD 3 0=48+l2:=by rw [hY];exact z8f l2 by' m2
 rw [←hY] at hsy
 have HYY:=qz hY
 have HDY:=qz hdy
 have HHY:=qz hhy2
 have HPY:=qz hpy
 have hgx1:gx<w1.heap.size:=z0d (uh HHX)
 have HHX2:Hid (w2.heap[gx]?=some (.cells (X.map bv).toArray 5 (0,0))):=qz (by rw [hb2.block gx hgx1];exact uh HHX)
 have HB2:=qz ((uh HB1).trans (hb2.mono (uh HB1).size))
 obtain ⟨NY,hNY⟩:∃NY,NY=Y.length:=⟨_,rfl⟩
 have HNY:=qz hNY
 rw [←hNY] at hsy ⊢
 have hgx2:gx<w2.heap.size:=z0d (uh HHX2)
 have hgy2:gy<w2.heap.size:=z0d (uh HHY)
 have hps:=z8h l1 bx
 rw [←uh HXX] at hps
 have hps2:=z8h l2 by'
 rw [←uh HYY] at hps2
 obtain ⟨q1,hone⟩:=y3l (uh HPX) ⟨k1,k2⟩ (by rw [←uh HN];omega)
 rw [←uh HXX,←uh HN] at hone
 obtain ⟨q2,htwo⟩:=y3l (uh HPY) ⟨m1,m2⟩ (by rw [←uh HN];omega)
 rw [←uh HYY,←uh HN] at htwo
 have hrx:=y3z (B:=0) (uh HHX2) (Nat.zero_le _) (by rw [←uh HNX];omega)
 rw [←uh HNX] at hrx
 have HRD1:=qz (x2u X xs _ N 1000000000 1 q1 w2 (z5k hrx) (by rw [←uh HNX];omega) hps (by omega) (by omega) (uh HX) (by rw [←uh HN];exact Nat.le_refl _) hone)
 have HP2:=qz hps2
 have HT2:=qz htwo
 have hbig:¬ (268435456:Int)<(N:Int):=by omega
 clear hhy hpy hb2 hgy HCB hY hyl hNY hhy2 hdy HHX hgx1 hps hps2 hone htwo hrx
 go_wp2_with fail
 refine (uh HRD1).mono ?_
 rintro e w3 ⟨sv,rfl,hsrow,hb3⟩
 have hry:=y3z (B:=0) (show w3.heap[gy]?=_ from (hb3.block gy hgy2).trans (uh HHY)) (Nat.zero_le _) (by rw [←uh HNY];omega)
 rw [←uh HNY] at hry
 have HRD2:=qz (x2u Y xs _ N 1000000000 1 q2 w3 (z5k hry) (by rw [←uh HNY];omega) (uh HP2) (by omega) (by omega) (uh HX) (by rw [←uh HN];exact Nat.le_refl _) (uh HT2))
 have HSR:=qz hsrow
 have HB3:=qz hb3
 clear hsrow hb3 hry HRD1
 go_wp2_with fail
 refine (uh HRD2).mono ?_
 rintro e w4 ⟨tv,rfl,htrow,hb4⟩
 have hb24:=(uh HB3).trans (hb4.mono (uh HB3).size)
 have hbw4:Below w.heap.size w w4:=(uh HB2).trans (hb24.mono (uh HB2).size)
 have hs4:RowB w2.heap.size w4 sv xs:=R11.own_keep (uh HSR) fun g e=>hb4.block g (World.ownsRow.lt (uh HSR) g e).2
 have cs:=R11.conv_reads (z5k hs4) (uh HX)
 have ct:=R11.conv_reads (z5k htrow) (uh HX)
 have ca:=R11.conv_reads (x3e ((uh HA).stays hbw4)) (uh HX)
 rw [←uh HN] at ca
 have d1:w4.cell? ⟨gx,3,none⟩=some (.int .u8 ((48+l1:Nat):Int)):=by
  rw [←uh HDX]
  simp only [World.cell?,show w4.heap[gx]?=_ from (hb24.block gx hgx2).trans (uh HHX2)]
  have:3<X.length:=by rw [←uh HNX];omega
  simp [List.getD_eq_getElem?_getD,this,bv]
 have d2:w4.cell? ⟨gy,3,none⟩=some (.int .u8 ((48+l2:Nat):Int)):=by
  rw [←uh HDY]
  simp only [World.cell?,show w4.heap[gy]?=_ from (hb24.block gy hgy2).trans (uh HHY)]
  have:3<Y.length:=by rw [←uh HNY];omega
  simp [List.getD_eq_getElem?_getD,this,bv]
 have HBW:=qz hbw4
 generalize R11.bs xs=sx at *
 have t3:(3:Int)<(NX:Int):=by omega
 have t3y:(3:Int)<(NY:Int):=by omega
 have fa:IntKind.i64.wrap (48+(l1:Int))=((48+l1:Nat):Int):=by rw [IntKind.wrap_i64];omega
 have fb:IntKind.i64.wrap (48+(l2:Int))=((48+l2:Nat):Int):=by rw [IntKind.wrap_i64];omega
 have ga:IntKind.u8.wrap ((48+l1:Nat):Int)=((48+l1:Nat):Int):=by rw [IntKind.wrap_u8];omega
 have gb:IntKind.u8.wrap ((48+l2:Nat):Int)=((48+l2:Nat):Int):=by rw [IntKind.wrap_u8];omega
 clear hs4 htrow hb4 hb24 hbw4 HRD2
 go_wp2_with fail
 go_ret
 exact ⟨rfl,uh HBW⟩
end
end Go.Proofs.YtljdhaepkhhnlaaGreat
section
namespace Go.Proofs.YtljdhaepkhhnlaaGreat.Bzip2LevelsFrame
open Go.ChangeShapes Go.WideShapes Go.ChangeAt Go.RowKit Go.Deep Go.Joins
theorem own:ownKnob Tryz.prog.godebug=none:=by kernel_rfl
theorem laidOut:laidOutB Tryz.prog=true:=by kernel_rfl
theorem cells5:Tryz.prog.cellsOf 5=1:=by kernel_rfl
theorem x4m {H:Type} (d:DataW H):1≤Rows.uptoBulk d:=by
 cases d with
 | lit l=>cases l<;>simp [Rows.uptoBulk]
 | _=>simp [Rows.uptoBulk]
theorem x4l {H:Type} (l:List (DataW H)):l.length≤Rows.uptoBulkAll l:=by
 induction l with
 | nil=>simp [Rows.uptoBulkAll]
 | cons x r ih=>have:=x4m x;simp only [Rows.uptoBulkAll,List.length_cons];omega
theorem y8c {H:Type} (elems spare:List (DataW H)):elems.length≤Rows.uptoBulk (.slice elems spare):=by
 have:=x4l elems
 simp only [Rows.uptoBulk];omega
theorem contract (H:Type) (enc:TypeId × Value→H) (W:World) (base:Nat) (args:Array Value) (ds gs:List (DataW H)) (before:List MemPlace)
  (hval:∀ (j:Nat) t v,Tryz.f5.params[j]?=some t→args[j]?=some v→Value.okWide Tryz.prog W .any base t v)
  (hW:DataW.Whole enc Tryz.prog Tryz.f5.params.toList Rows.bzip2LevelsSpec.vars false W args.toList ds gs before) (hk:Rows.uptoSmall H (ds++gs)=true) :
  Calls Tryz.prog 5 args W fun e W'=>∃v,e=.returned v∧Rows.bzip2LevelsSpec.post enc Tryz.prog Tryz.f5 false true false false W args v W':=by
 have hW':=hW
 obtain ⟨p,q,hA0,hV,rfl,hfz,hnd⟩:=hW
 have hA:DataW.TrodAll enc Tryz.prog W 0 (fun _=>true) true Tryz.f5.params.toList args.toList ds p:=hA0
 rw [Tryz.params5] at hA hval
 obtain ⟨v0,vs0,d0,ds0,p0,q0,hargs,rfl,rfl,h0,r0⟩:=trodAll_cons hA
 obtain ⟨v1,vs1,d1,ds1,p1,q1,rfl,rfl,rfl,h1,r1⟩:=trodAll_cons r0
 obtain ⟨v2,vs2,d2,ds2,p2,q2,rfl,rfl,rfl,h2,r2⟩:=trodAll_cons r1
 obtain ⟨rfl,rfl,rfl⟩:=trodAll_nil r2
 obtain rfl:args=#[v0,v1,v2]:=by cases args;simp_all
 obtain ⟨rfl,rfl⟩:=trodVars_none hV
 have hbulk:Rows.uptoBulkAll ([d0,d1,d2]++[])≤1048576:=of_decide_eq_true hk
 simp only [List.append_nil,Rows.uptoBulkAll] at hbulk
 obtain ⟨a0,len0,cap0,rfl⟩:=okWide_slice Tryz.underlying22 (hval 0 22 v0 rfl rfl)
 have k0:=h0
 have lt0:∀x∈p0,x.block<W.heap.size:=by obtain ⟨m,hm⟩:=k0;exact DataW.trod_lt m _ _ _ hm
 obtain ⟨zs0,hzl0,hz0,hcp0,hsm0,hrd0⟩:∃zs:List Nat,zs.length=len0∧len0≤Rows.uptoBulk d0∧len0≤cap0∧(∀z∈zs,z<256)∧((a0=none∧cap0=0∧zs=[])∨∃ad,a0=some ad∧∀ (j:Nat) u,(zs.map R11.bv)[j]?=some u→W.cell? (ad.add j)=some u):=by
  obtain ⟨fuel,hf⟩:=h0
  rcases open_ints Tryz.underlying22 Tryz.underlying5 cells5 hf with ⟨hcs,_⟩|⟨x,l,c,ys,hcs,_,hl,hm,hz,hx,hcell,hwz⟩
  ·simp [Value.cells] at hcs
   obtain ⟨rfl,rfl,rfl⟩:=hcs
   exact ⟨[],rfl,by omega,by omega,by simp,.inl ⟨rfl,rfl,rfl⟩⟩
  ·simp [Value.cells] at hcs
   obtain ⟨rfl,rfl,rfl⟩:=hcs
   have hyl:len0≤ys.length:=by rw [hz];split<;>omega
   have hlen:len0≤Rows.uptoBulk d0:=by
    have h1:=y8c (lits .u8 (ys.take len0):List (DataW H)) (lits .u8 (ys.drop len0))
    simp only [Prod.mk.injEq] at hx
    rw [hx.1]
    refine Nat.le_trans ?_ h1
    simp [lits];omega
   have hb:∀y∈ys,0≤y∧y≤255:=fun y hy=>bounds_u8 (hwz y hy)
   refine ⟨(ys.take len0).map Int.toNat,by simp;omega,hlen,by omega,?_,.inr ⟨x,rfl,fun j u hj=>?_⟩⟩
   ·intro z hz'
    obtain ⟨y,hy,rfl⟩:=List.mem_map.1 hz'
    have:=hb y (List.mem_of_mem_take hy)
    omega
   ·have hj2:j<len0:=by
     have:=(List.getElem?_eq_some_iff.1 hj).1
     simp at this;omega
    rw [hcell j (by omega)]
    rw [List.getElem?_map,List.getElem?_map,List.getElem?_take,if_pos hj2,List.getElem?_eq_getElem (by omega)] at hj
    simp [R11.bv] at hj
    rw [←hj]
    have:=hb ys[j] (List.getElem_mem _)
    simp [show j<ys.length by omega]
    omega
 obtain ⟨I1,rfl,rfl,rfl,w1⟩:=open_int Tryz.underlying3 (hval 1 3 v1 rfl rfl) h1
 obtain ⟨I2,rfl,rfl,rfl,w2⟩:=open_int Tryz.underlying3 (hval 2 3 v2 rfl rfl) h2
 clear hA0
 subst hzl0
 have hi1:=bounds_i64 w1
 have hi2:=bounds_i64 w2
 refine (y8s zs0 a0 cap0 I1 I2 W hrd0 hcp0 hsm0 (by omega) (by omega) (by omega)).mono fun e W' ⟨he,bel⟩=>?_
 subst he
 exact ⟨_,rfl,_,_,_,[],_,[],hW',trodAll_mk1 (shut_bool Tryz.underlying4 _),(trodAll_cons_mk (Below.trod laidOut (by kernel_rfl) (of_decide_eq_true (by kernel_rfl)) k0 bel lt0) (trodAll_cons_mk (shut_int Tryz.underlying3 w1) (trodAll_cons_mk (shut_int Tryz.underlying3 w2) trodAll_mk0))),rfl,bel.frame _,fun h=>by cases h⟩
theorem lifted (os:Os) (started:os.Started) (H:Type) (enc:TypeId × Value→H) (F:Stop.Interp) :
  ReturnsInHanded {} Tryz.checked os 5 .any ((Rows.OpenSpec.upto Rows.bzip2LevelsSpec).pre6 enc Tryz.prog Tryz.f5 Rows.bzip2LevelsUptoRow.domain false) (((Rows.OpenSpec.upto Rows.bzip2LevelsSpec).at F).post enc Tryz.prog Tryz.f5 false true false false):=by
 refine returnsInHanded_of_cond (C:=Tryz.checked) (s:=Rows.OpenSpec.upto Rows.bzip2LevelsSpec) (k:=Rows.uptoSmall) rfl own started (by kernel_rfl) Tryz.func5
  (OpenSpec.witness (enc:=enc) (C:=Tryz.checked) (s:=Rows.OpenSpec.upto Rows.bzip2LevelsSpec) (k:=Rows.uptoSmall) rfl false ⟨#[],#[.slice none 0 0,.int .i64 0,.int .i64 0],[]⟩ 8 (by kernel_rfl) (by kernel_rfl) (by kernel_rfl)
   (x:=([.nil,.lit (.int .i64 0),.lit (.int .i64 0)],[],[])) (by kernel_rfl) rfl (by kernel_rfl)) ?_
 intro W base args ds gs before hval hW _ hk _
 exact contract H enc W base args ds gs before hval hW hk
theorem proved:Rows.Bzip2LevelsUptoSaid :=
 OpenClaim.holds_of_cond 5 Tryz.f5 rfl rfl rfl rfl rfl rfl rfl ⟨rfl,rfl,rfl,rfl,rfl⟩ rfl rfl rfl rfl rfl (by kernel_rfl) Tryz.func5 (by kernel_rfl)
  (of_decide_eq_true (by kernel_rfl)) (by unfold Func.isWrapper;first|(rw [if_pos (by decide +kernel)];kernel_rfl)|(rw [if_neg (by decide +kernel)];exact ⟨rfl,rfl⟩))
  (fun os started H enc _ F=>lifted os started H enc F)
end Go.Proofs.YtljdhaepkhhnlaaGreat.Bzip2LevelsFrame
namespace Go.Proofs.YtljdhaepkhhnlaaGreat
theorem bzip2LevelsUpto_holds:Rows.Bzip2LevelsUptoSaid:=Bzip2LevelsFrame.proved
end Go.Proofs.YtljdhaepkhhnlaaGreat
end
namespace Go.Proofs.YtljdhaepkhhnlaaGreat
end Go.Proofs.YtljdhaepkhhnlaaGreat
